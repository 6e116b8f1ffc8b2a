/-
  Contracts: wire.runesEnd.
-/
import Derived.Test.YtioibllopidilaaDoorWh
namespace Go.Proofs.YtioibllopidilaaDoor
open Go.Shelf Go.RowKit
set_option maxRecDepth 100000

/-- The two tables of the decoder. -/
def Tabs (w : World) : Prop := Lib.Utf8Tabs 0 1 w
theorem Tabs.lt {w : World} (h : Tabs w) : 0 < w.heap.size ∧ 1 < w.heap.size :=
  ⟨World.block_lt_of_cell? w ⟨0, 0, none⟩ (h.1 0 (by omega)), World.block_lt_of_cell? w ⟨1, 2 * 0, none⟩ (h.2 0 (by omega)).1⟩
theorem Tabs.upd {S : Nat → Prop} {w w' : World} (h : Tabs w) (hu : Upd S w w') (h1 : ¬ S 0) (h2 : ¬ S 1) : Tabs w' := by
  have hl := h.lt
  have e1 := fun (o : Nat) => World.cell?_of_block (w := w) (w' := w') (a := ⟨0, o, none⟩) (hu.block _ hl.1 h1)
  have e2 := fun (o : Nat) => World.cell?_of_block (w := w) (w' := w') (a := ⟨1, o, none⟩) (hu.block _ hl.2 h2)
  exact ⟨fun c hc => (e1 c).trans (h.1 c hc), fun i hi => ⟨(e2 _).trans (h.2 i hi).1, (e2 _).trans (h.2 i hi).2⟩⟩
theorem Tabs.below {w w' : World} (h : Tabs w) (hb : Below w.heap.size w w') : Tabs w' :=
  h.upd (Upd.ofBelow (S := fun _ => False) hb (fun k hk hk' => by omega)) (fun h => h) (fun h => h)

theorem strI_get (K : List Int) (j : Nat) (hj : j < K.length) (hb : ∀ x ∈ K, 0 ≤ x ∧ x < 256) : (((strI K).get! j).toNat : Int) = K.getD j 0 := by
  have hm := hb K[j] (List.getElem_mem hj)
  have e : (strI K).get! j = UInt8.ofNat (K[j]).toNat := by
    show (K.map (fun n => UInt8.ofNat n.toNat)).toArray[j]! = _
    simp [hj]
  rw [e, List.getD, List.getElem?_eq_getElem hj]
  simp
  omega
theorem bt_getD (K : List Int) (j : Nat) (hj : j < K.length) : bt K j = K.getD j 0 := by
  unfold bt; rw [List.getD, List.getD, List.getElem?_eq_getElem hj]; rfl
theorem bt_none (K : List Int) (j : Nat) (hj : K.length ≤ j) : bt K j = -1 := by
  unfold bt; rw [List.getD, List.getElem?_eq_none hj]; rfl

/-- What Go's decoder tells of bytes, in the document's words. -/
theorem decode_rune (K : List Int) (h0 : 0 < K.length) (hb : ∀ x ∈ K, 0 ≤ x ∧ x < 256) :
    (runeL K = 0 → Lib.decodeGo (strI K) = (65533, 1)) ∧ (0 < runeL K → (Lib.decodeGo (strI K)).2 = runeL K ∧ ((Lib.decodeGo (strI K)).1 = 65533 → 1 < runeL K)) := by
  have hs := strI_size K
  have hd : Lib.decodeGo (strI K) = Lib.decodeN K.length ((strI K).get! 0).toNat ((strI K).get! 1).toNat ((strI K).get! 2).toNat ((strI K).get! 3).toNat := by
    simp only [Lib.decodeGo]
    rw [if_neg (by omega), Lib.decode_at, hs]; rfl
  rw [hd]
  have e0 : bt K 0 = (((strI K).get! 0).toNat : Int) := by rw [bt_getD K 0 h0, strI_get K 0 h0 hb]
  have ei : ∀ i, bt K i = if i < K.length then (((strI K).get! i).toNat : Int) else -1 := by
    intro i
    split
    · rename_i h; rw [bt_getD K i h, strI_get K i h hb]
    · rename_i h; exact bt_none K i (by omega)
  have := dec_rune K.length ((strI K).get! 0).toNat ((strI K).get! 1).toNat ((strI K).get! 2).toNat ((strI K).get! 3).toNat h0 (UInt8.toNat_lt _) (UInt8.toNat_lt _) (UInt8.toNat_lt _) (UInt8.toNat_lt _) (bt K 1) (bt K 2) (bt K 3) (ei 1) (ei 2) (ei 3)
  rw [← e0] at this
  exact this

theorem decode_any (K : List Int) (b off cap : Nat) (w : World) (hT : Tabs w) (hb : ∀ x ∈ K, 0 ≤ x ∧ x < 256)
    (hp : ∀ j, j < K.length → w.cell? ⟨b, off + j, none⟩ = some (.int .u8 (K.getD j 0))) :
    Calls Tryd.prog 102 #[.slice (some ⟨b, off, none⟩) K.length cap] w fun e w' => e = .returned (.tuple #[.int .i32 (Lib.decodeGo (strI K)).1, .int .i64 (Lib.decodeGo (strI K)).2]) ∧ Below w.heap.size w w' := by
  have := Any7.utf8_DecodeRune lays32 (strI K) b off cap w hT (fun j hj => by
    rw [strI_size] at hj
    rw [strI_get K j hj hb]; exact hp j hj)
  rw [strI_size] at this
  exact this

theorem runesEnd_any (g off n cap : Nat) (K : List Int) (w : World) (hT : Tabs w) (hK : ∀ x ∈ K, 0 ≤ x ∧ x < 256) (hl : K.length = n) (hc : n ≤ cap) (hcap : cap ≤ 140737488355328)
    (hp : ∀ j, j < n → w.cell? ⟨g, off + j, none⟩ = some (.int .u8 (K.getD j 0))) :
    Calls Tryd.prog 98 #[.slice (some ⟨g, off, none⟩) n cap] w fun e w' => e = .returned (.int .i64 (endL K)) ∧ Below w.heap.size w w' := by
  go_enter Tryd.func98, Tryd.ntmps98
  go_wp2
  go_loopw [3] (fun a wr => ∃ k : Nat, a = .int .i64 k ∧ k ≤ n ∧ endL K = k + endL (K.drop k) ∧ Below w.heap.size w wr) (fun a _ => n - (intOf a).toNat)
  case atStart => exact ⟨0, rfl, by omega, by simp, Below.refl _ _⟩
  case round =>
    obtain ⟨k, rfl, hk, hE, hb⟩ := hrel
    have HE : Hid (endL K = k + endL (K.drop k)) := hE
    clear hE
    by_cases hlt : k < n
    · have hlt2 : k < cap := by omega
      have hbK : ∀ x ∈ K.drop k, 0 ≤ x ∧ x < 256 := fun x hx => hK x (List.mem_of_mem_drop hx)
      have hdl : (K.drop k).length = n - k := by simp [hl]
      have D := decode_any (K.drop k) g (off + k) (cap - k) wr (hT.below hb) hbK (fun j hj => by
        rw [hdl] at hj
        have h1 := hp (k + j) (by omega)
        have hblk := World.block_lt_of_cell? w _ h1
        have h2 : wr.cell? ⟨g, off + k + j, none⟩ = w.cell? ⟨g, off + k + j, none⟩ := hb.cell (p := ⟨g, off + k + j, none⟩) hblk
        rw [h2, Nat.add_assoc, h1, List.getD, List.getD, List.getElem?_drop])
      rw [hdl] at D
      obtain ⟨q1, q2⟩ := decode_rune (K.drop k) (by omega) hbK
      by_cases hr : runeL (K.drop k) = 0
      · have q3 := q1 hr
        rw [q3] at D
        have HZ : Hid (endL K = k) := by show endL K = k; rw [HE.out, endL_zero _ hr]; omega
        clear q1 q2 q3 hr HE
        go_wp2_with (go_at_call 102; refine D.mono ?_; rintro e w' ⟨rfl, hb'⟩; have hb2 := hb.trans (hb'.mono hb.size))
        go_ret
        exact ⟨ret_int (by rw [HZ.out]), hb2⟩
      · obtain ⟨q3, q4⟩ := q2 (by omega)
        have hle := rune_le (K.drop k)
        rw [hdl] at hle
        have HS : Hid (endL K = k + (runeL (K.drop k) + endL ((K.drop k).drop (runeL (K.drop k))))) := by
          show endL K = _
          rw [HE.out, endL_step _ (by omega)]
        obtain ⟨c, hcc⟩ : ∃ c, (Lib.decodeGo (strI (K.drop k))).1 = c := ⟨_, rfl⟩
        obtain ⟨r, hrr⟩ : ∃ r, runeL (K.drop k) = r := ⟨_, rfl⟩
        rw [q3, hcc, hrr] at D
        rw [hcc, hrr] at q4
        rw [hrr] at hle hr HS
        have hpos : 0 < r := by omega
        clear q1 q2 q3 hcc hrr HE hr
        by_cases hcq : c = 65533
        · have h1r : (1 : Int) < (r : Int) := by have := q4 hcq; omega
          subst hcq
          clear q4
          go_wp2_with (go_at_call 102; refine D.mono ?_; rintro e w' ⟨rfl, hb'⟩; have hb2 := hb.trans (hb'.mono hb.size))
          go_roundw
          case rel => exact ⟨k + r, by go_num, by omega, by rw [HS.out, List.drop_drop]; omega, hb2⟩
          case measure => simp [intOf]; omega
        · have hc2 : ((c : Int) == 65533) = false := by simp; omega
          clear q4 hcq
          go_wp2_with (go_at_call 102; refine D.mono ?_; rintro e w' ⟨rfl, hb'⟩; have hb2 := hb.trans (hb'.mono hb.size))
          go_roundw
          case rel => exact ⟨k + r, by go_num, by omega, by rw [HS.out, List.drop_drop]; omega, hb2⟩
          case measure => simp [intOf]; omega
    · have hk2 : k = n := by omega
      have HZ : Hid (endL K = k) := by
        show endL K = k
        rw [HE.out, List.drop_of_length_le (by omega), endL_zero [] rune_nil]; omega
      clear HE
      go_wp2
      go_ret
      exact ⟨ret_int (by rw [HZ.out]), hb⟩
end Go.Proofs.YtioibllopidilaaDoor
