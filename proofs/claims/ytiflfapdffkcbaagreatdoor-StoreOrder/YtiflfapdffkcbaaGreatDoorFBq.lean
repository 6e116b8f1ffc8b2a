/-
  Merged: FB, Wh, We, Rt, Ze.
-/
import Derived.Test.YtiflfapdffkcbaaGreatDoorSOq
import Derived.Shelf.Spec.DecodeRune
import Derived.Test.YtiflfapdffkcbaaGreatDoorWaq
namespace Go.Proofs.YtiflfapdffkcbaaGreatDoor
open Go Go.RowKit
set_option maxRecDepth 100000

/-- Spots stand by rising IDs. -/
def RiseS (X : List Spot) : Prop := ∀ i j (hi : i < X.length) (hj : j < X.length), i < j → X[i].nd.id < X[j].nd.id
/-- Where a span's spot is. -/
def FindR (X : List Spot) (id : Int) (v : Value) : Prop :=
  (∃ k, ∃ h : k < X.length, X[k].nd.id = id ∧ v = .tuple #[.int .i64 k, .bool true]) ∨ ((∀ i (h : i < X.length), X[i].nd.id ≠ id) ∧ ∃ k : Nat, v = .tuple #[.int .i64 k, .bool false])
end Go.Proofs.YtiflfapdffkcbaaGreatDoor

namespace Go.Proofs.YtiflfapdffkcbaaGreatDoor
open Go.Shelf Go.RowKit
end Go.Proofs.YtiflfapdffkcbaaGreatDoor

namespace Go.Proofs.YtiflfapdffkcbaaGreatDoor
open Go.Shelf Go.RowKit
set_option maxRecDepth 100000

/-- The two tables of the decoder. -/
def Tabs (w : World) : Prop := Lib.Utf8Tabs 0 1 w
theorem Tabs.lt {w : World} (h : Tabs w) : 0 < w.heap.size ∧ 1 < w.heap.size :=
  ⟨World.block_lt_of_cell? w ⟨0, 0, none⟩ (h.1 0 (by omega)), World.block_lt_of_cell? w ⟨1, 2 * 0, none⟩ (h.2 0 (by omega)).1⟩
theorem Tabs.upd {S : Nat → Prop} {w w' : World} (h : Tabs w) (hu : Upd S w w') (h1 : ¬ S 0) (h2 : ¬ S 1) : Tabs w' := by
  have hl := h.lt
  have e1 := fun (o : Nat) => World.cell?_of_block (w := w) (w' := w') (a := ⟨0, o, none⟩) (hu.block _ hl.1 h1)
  have e2 := fun (o : Nat) => World.cell?_of_block (w := w) (w' := w') (a := ⟨1, o, none⟩) (hu.block _ hl.2 h2)
  exact ⟨fun c hc => (e1 c).trans (h.1 c hc), fun i hi => ⟨(e2 _).trans (h.2 i hi).1, (e2 _).trans (h.2 i hi).2⟩⟩
theorem Tabs.below {w w' : World} (h : Tabs w) (hb : Below w.heap.size w w') : Tabs w' :=
  h.upd (Upd.ofBelow (S := fun _ => False) hb (fun k hk hk' => by omega)) (fun h => h) (fun h => h)

theorem strI_get (K : List Int) (j : Nat) (hj : j < K.length) (hb : ∀ x ∈ K, 0 ≤ x ∧ x < 256) : (((strI K).get! j).toNat : Int) = K.getD j 0 := by
  have hm := hb K[j] (List.getElem_mem hj)
  have e : (strI K).get! j = UInt8.ofNat (K[j]).toNat := by
    show (K.map (fun n => UInt8.ofNat n.toNat)).toArray[j]! = _
    simp [hj]
  rw [e, List.getD, List.getElem?_eq_getElem hj]
  simp
  omega
theorem bt_getD (K : List Int) (j : Nat) (hj : j < K.length) : bt K j = K.getD j 0 := by
  unfold bt; rw [List.getD, List.getD, List.getElem?_eq_getElem hj]; rfl
theorem bt_none (K : List Int) (j : Nat) (hj : K.length ≤ j) : bt K j = -1 := by
  unfold bt; rw [List.getD, List.getElem?_eq_none hj]; rfl

/-- What Go's decoder tells of bytes, in the document's words. -/
theorem decode_rune (K : List Int) (h0 : 0 < K.length) (hb : ∀ x ∈ K, 0 ≤ x ∧ x < 256) :
    (runeL K = 0 → Lib.decodeGo (strI K) = (65533, 1)) ∧ (0 < runeL K → (Lib.decodeGo (strI K)).2 = runeL K ∧ ((Lib.decodeGo (strI K)).1 = 65533 → 1 < runeL K)) := by
  have hs := strI_size K
  have hd : Lib.decodeGo (strI K) = Lib.decodeN K.length ((strI K).get! 0).toNat ((strI K).get! 1).toNat ((strI K).get! 2).toNat ((strI K).get! 3).toNat := by
    simp only [Lib.decodeGo]
    rw [if_neg (by omega), Lib.decode_at, hs]; rfl
  rw [hd]
  have e0 : bt K 0 = (((strI K).get! 0).toNat : Int) := by rw [bt_getD K 0 h0, strI_get K 0 h0 hb]
  have ei : ∀ i, bt K i = if i < K.length then (((strI K).get! i).toNat : Int) else -1 := by
    intro i
    split
    · rename_i h; rw [bt_getD K i h, strI_get K i h hb]
    · rename_i h; exact bt_none K i (by omega)
  have := dec_rune K.length ((strI K).get! 0).toNat ((strI K).get! 1).toNat ((strI K).get! 2).toNat ((strI K).get! 3).toNat h0 (UInt8.toNat_lt _) (UInt8.toNat_lt _) (UInt8.toNat_lt _) (UInt8.toNat_lt _) (bt K 1) (bt K 2) (bt K 3) (ei 1) (ei 2) (ei 3)
  rw [← e0] at this
  exact this

end Go.Proofs.YtiflfapdffkcbaaGreatDoor

namespace Go.Proofs.YtiflfapdffkcbaaGreatDoor
open Go.Shelf Go.RowKit
set_option maxRecDepth 100000

theorem scan_val : ∀ (l : List Int) (s v v' s' : Nat), (∀ x ∈ l, 0 ≤ x ∧ x < 256) → s ≤ 10 → (s ≤ 9 → v < 128 ^ s) → scanN l s v = .ok v' s' → v' < 18446744073709551616 := by
  intro l
  induction l with
  | nil => intro s v v' s' _ _ _ h; unfold scanN at h; split at h <;> simp at h
  | cons x r ih =>
    intro s v v' s' hl hs hv h
    unfold scanN at h
    have hx := hl x (by simp)
    split at h
    · simp at h
    · rename_i h10
      have hv' := hv (by omega)
      split at h
      · split at h
        · simp at h
        · rename_i hx128 hb
          simp at h
          obtain ⟨rfl, _⟩ := h
          by_cases h8 : s ≤ 8
          · have hp := pow_le8 s h8
            have hm : x.toNat * 128 ^ s ≤ 127 * 128 ^ s := Nat.mul_le_mul_right _ (by omega)
            omega
          · have h9 : s = 9 := by omega
            subst h9
            have hx1 : x ≤ 1 := by
              by_cases hx1 : x ≤ 1
              · exact hx1
              · exact absurd (by simp [badLast]; omega) hb
            have hm : x.toNat * 128 ^ 9 ≤ 1 * 128 ^ 9 := Nat.mul_le_mul_right _ (by omega)
            omega
      · refine ih (s + 1) _ v' s' (fun y hy => hl y (by simp [hy])) (by omega) (fun h9 => ?_) h
        have hm : (x.toNat - 128) * 128 ^ s ≤ 127 * 128 ^ s := Nat.mul_le_mul_right _ (by omega)
        rw [Nat.pow_succ]; omega
end Go.Proofs.YtiflfapdffkcbaaGreatDoor

namespace Go.Proofs.YtiflfapdffkcbaaGreatDoor
open Go.Shelf Go.RowKit
set_option maxRecDepth 100000

theorem set_block {w : World} {B : Nat} {cs : Array Value} {t : TypeId} {fr : Nat × Nat} (h : w.heap[B]? = some (.cells cs t fr)) (i : Nat) (v : Value) : (w.setCell ⟨B, i, none⟩ v).heap[B]? = some (.cells (cs.setIfInBounds i v) t fr) := by
  have hlt := lt_of_block h
  have h' : w.heap[B] = .cells cs t fr := by simpa [Array.getElem?_eq_getElem hlt] using h
  show (w.heap.modify B _)[B]? = _
  rw [Array.getElem?_eq_getElem (by simpa using hlt), Array.getElem_modify_self, h']
  rfl

def rawA (v : Int) (i k : Nat) : Int := if i < k then v / 256 ^ i % 256 else 0
def rawK (v : Int) (k : Nat) : List Int := [rawA v 7 k, rawA v 6 k, rawA v 5 k, rawA v 4 k, rawA v 3 k, rawA v 2 k, rawA v 1 k, rawA v 0 k]
/-- A number in eight bytes, the highest first. -/
def rawL (v : Int) : List Int := rawK v 8
theorem rawL_len (v : Int) : (rawL v).length = 8 := rfl
theorem rawL_byte (v : Int) : ∀ x ∈ rawL v, 0 ≤ x ∧ x < 256 := by
  intro x hx
  simp only [rawL, rawK, rawA, List.mem_cons, List.not_mem_nil, or_false] at hx
  have h := fun i : Nat => Int.emod_nonneg (v / 256 ^ i) (by decide : (256 : Int) ≠ 0)
  have h2 := fun i : Nat => Int.emod_lt_of_pos (v / 256 ^ i) (by decide : (0 : Int) < 256)
  rcases hx with h | h | h | h | h | h | h | h <;> subst h <;> (split; exact ⟨by apply Int.emod_nonneg; decide, by apply Int.emod_lt_of_pos; decide⟩; omega)

theorem wrap_u8 (x : Int) : IntKind.u8.wrap x = x % 256 := by simp [IntKind.wrap, IntKind.bits, IntKind.signed]

theorem eight {l : List Value} (h : l.length = 8) : ∃ x : Nat → Value, l = [x 7, x 6, x 5, x 4, x 3, x 2, x 1, x 0] := by
  match l, h with
  | [a7, a6, a5, a4, a3, a2, a1, a0], _ => exact ⟨fun i => [a0, a1, a2, a3, a4, a5, a6, a7].getD i a0, rfl⟩
/-- What a Writer's call may change: the Writer, and rows of bytes behind it. -/
structure Wch (B : Nat) (w w' : World) : Prop where
  below : Below B w w'
  other : ∀ (k : Nat) (cs : Array Value) (t : TypeId) (fz : Nat × Nat), w.heap[k]? = some (.cells cs t fz) → t ≠ 5 → k ≠ B → w'.heap[k]? = some (.cells cs t fz)
theorem Wch.refl (B : Nat) (w : World) : Wch B w w := ⟨Below.refl _ _, fun _ _ _ _ h _ _ => h⟩
theorem Wch.trans {B : Nat} {a b c : World} (h : Wch B a b) (k : Wch B b c) : Wch B a c :=
  ⟨h.below.trans k.below, fun i cs t fz hi ht hB => k.other i cs t fz (h.other i cs t fz hi ht hB) ht hB⟩
theorem Wch.ofBelow {B : Nat} {w w' : World} (h : Below w.heap.size w w') (hB : B ≤ w.heap.size) : Wch B w w' :=
  ⟨h.mono hB, fun k _ _ _ hk _ _ => (h.block k (lt_of_block hk)).trans hk⟩
end Go.Proofs.YtiflfapdffkcbaaGreatDoor
