/-
  We.
-/
import Derived.Shelf.Spec.DecodeRune
import Derived.Test.YtpcfchbiohbcoaaDoorWa
namespace Go.Proofs.YtpcfchbiohbcoaaDoor
open Go.Shelf Go.RowKit
set_option maxRecDepth 100000

/-- The two tables of the decoder. -/
def Tabs (w : World) : Prop := Lib.Utf8Tabs 2 3 w
theorem Tabs.lt {w : World} (h : Tabs w) : 2 < w.heap.size ∧ 3 < w.heap.size :=
  ⟨World.block_lt_of_cell? w ⟨2, 0, none⟩ (h.1 0 (by omega)), World.block_lt_of_cell? w ⟨3, 2 * 0, none⟩ (h.2 0 (by omega)).1⟩
theorem Tabs.upd {S : Nat → Prop} {w w' : World} (h : Tabs w) (hu : Upd S w w') (h1 : ¬ S 2) (h2 : ¬ S 3) : Tabs w' := by
  have hl := h.lt
  have e1 := fun (o : Nat) => World.cell?_of_block (w := w) (w' := w') (a := ⟨2, o, none⟩) (hu.block _ hl.1 h1)
  have e2 := fun (o : Nat) => World.cell?_of_block (w := w) (w' := w') (a := ⟨3, o, none⟩) (hu.block _ hl.2 h2)
  exact ⟨fun c hc => (e1 c).trans (h.1 c hc), fun i hi => ⟨(e2 _).trans (h.2 i hi).1, (e2 _).trans (h.2 i hi).2⟩⟩
theorem Tabs.below {w w' : World} (h : Tabs w) (hb : Below w.heap.size w w') : Tabs w' :=
  h.upd (Upd.ofBelow (S := fun _ => False) hb (fun k hk hk' => by omega)) (fun h => h) (fun h => h)

theorem strI_get (K : List Int) (j : Nat) (hj : j < K.length) (hb : ∀ x ∈ K, 0 ≤ x ∧ x < 256) : (((strI K).get! j).toNat : Int) = K.getD j 0 := by
  have hm := hb K[j] (List.getElem_mem hj)
  have e : (strI K).get! j = UInt8.ofNat (K[j]).toNat := by
    show (K.map (fun n => UInt8.ofNat n.toNat)).toArray[j]! = _
    simp [hj]
  rw [e, List.getD, List.getElem?_eq_getElem hj]
  simp
  omega
theorem bt_getD (K : List Int) (j : Nat) (hj : j < K.length) : bt K j = K.getD j 0 := by
  unfold bt; rw [List.getD, List.getD, List.getElem?_eq_getElem hj]; rfl
theorem bt_none (K : List Int) (j : Nat) (hj : K.length ≤ j) : bt K j = -1 := by
  unfold bt; rw [List.getD, List.getElem?_eq_none hj]; rfl

/-- What Go's decoder tells of bytes, in the document's words. -/
theorem decode_rune (K : List Int) (h0 : 0 < K.length) (hb : ∀ x ∈ K, 0 ≤ x ∧ x < 256) :
    (runeL K = 0 → Lib.decodeGo (strI K) = (65533, 1)) ∧ (0 < runeL K → (Lib.decodeGo (strI K)).2 = runeL K ∧ ((Lib.decodeGo (strI K)).1 = 65533 → 1 < runeL K)) := by
  have hs := strI_size K
  have hd : Lib.decodeGo (strI K) = Lib.decodeN K.length ((strI K).get! 0).toNat ((strI K).get! 1).toNat ((strI K).get! 2).toNat ((strI K).get! 3).toNat := by
    simp only [Lib.decodeGo]
    rw [if_neg (by omega), Lib.decode_at, hs]; rfl
  rw [hd]
  have e0 : bt K 0 = (((strI K).get! 0).toNat : Int) := by rw [bt_getD K 0 h0, strI_get K 0 h0 hb]
  have ei : ∀ i, bt K i = if i < K.length then (((strI K).get! i).toNat : Int) else -1 := by
    intro i
    split
    · rename_i h; rw [bt_getD K i h, strI_get K i h hb]
    · rename_i h; exact bt_none K i (by omega)
  have := dec_rune K.length ((strI K).get! 0).toNat ((strI K).get! 1).toNat ((strI K).get! 2).toNat ((strI K).get! 3).toNat h0 (UInt8.toNat_lt _) (UInt8.toNat_lt _) (UInt8.toNat_lt _) (UInt8.toNat_lt _) (bt K 1) (bt K 2) (bt K 3) (ei 1) (ei 2) (ei 3)
  rw [← e0] at this
  exact this

end Go.Proofs.YtpcfchbiohbcoaaDoor
