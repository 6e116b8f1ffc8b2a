/-
  Layer 7 (disk): SyncNames where all steps of the names are new files.
-/
import Derived.Test.YtgoafinbaiepmaaGreatDoorDs
namespace Go.Proofs.YtgoafinbaiepmaaGreatDoor
open Go.RowKit Go.Shelf Go.Maps Go.WideMaps
set_option maxRecDepth 100000

def crL (L : List (ByteArray × Nat)) : List Value := L.map fun p => crV p.1 p.2
def putL (D : DataW Unit) (L : List (ByteArray × Nat)) : DataW Unit := L.foldl (fun D p => D.put (.string p.1.data.toList) (.lit (.int .i64 (p.2 : Int)))) D
theorem putL_snoc (D : DataW Unit) (L : List (ByteArray × Nat)) (p : ByteArray × Nat) : putL D (L ++ [p]) = (putL D L).put (.string p.1.data.toList) (.lit (.int .i64 (p.2 : Int))) := by
  unfold putL
  rw [List.foldl_append]
  rfl
/-- The lasting names have turned. -/
theorem DiskAt.turnL {base d N : Nat} {w w' : World} {K : Dk} {D : DataW Unit} (h : DiskAt base w d N K) (o : w'.ownsMap Tryz.prog 9 (plainElem (H := Unit) Tryz.prog 3) K.ml (N + 1) D) (u : Upd (fun k => k = K.ml) w w') : DiskAt base w' d (N + 1) { K with DL := D } :=
  ⟨(u.block d (lt_of_block h.block) (map_not h.mL h.block)).trans h.block, (map_upd h.mF u h.n2).mono (by omega), (map_upd h.mN u h.n3).mono (by omega), o, ownsRow_upd h.sown u (fun k e hh => by subst hh; exact own_map h.sown h.mL e), h.n1, h.n2, h.n3, h.low⟩
/-- No steps any more. -/
theorem DiskAt.noSteps {base d N : Nat} {w : World} {K : Dk} (h : DiskAt base w d N K) : DiskAt base (w.setCell ⟨d, 4, none⟩ (.slice none 0 0)) d N { K with sv := .slice none 0 0, ns := [] } := by
  have k5 := blk_set h.block 4 (.slice none 0 0)
  rw [cells_set4] at k5
  have us : Upd (fun k => k = d) w (w.setCell ⟨d, 4, none⟩ (.slice none 0 0)) := (Upd.refl (fun k => k = d) w).setCell (p := ⟨d, 4, none⟩) (fun _ => rfl) _
  exact ⟨k5, map_upd h.mF us (fun e => map_not h.mF h.block e.symm), map_upd h.mN us (fun e => map_not h.mN h.block e.symm), map_upd h.mL us (fun e => map_not h.mL h.block e.symm), World.ownsRow_nil _ _ _ _, h.n1, h.n2, h.n3, h.low⟩
set_option maxHeartbeats 2000000 in
theorem settleN_any (base d N : Nat) (K : Dk) (L : List (ByteArray × Nat)) (w : World) (h : DiskAt base w d N K) (hns : K.ns = crL L) (hL : ∀ p ∈ L, p.1.size ≤ maxLen ∧ p.2 < 9223372036854775808) (hN : N + L.length < maxLen) (hl : L.length ≤ 1000000000000) :
    Calls Tryz.prog 132 #[.pointer (some ⟨d, 0, none⟩)] w fun e w' => e = .returned (.tuple #[]) ∧ DiskAt base w' d (N + L.length) { K with sv := .slice none 0 0, ns := [], DL := putL K.DL L } ∧ Upd (DW d K) w w' := by
  have hnl : K.ns.length = L.length := by rw [hns]; simp [crL]
  obtain ⟨ao, l, c, hsv⟩ := row_shape h.sown
  have hll : l = L.length := by have := h.sown; rw [hsv] at this; rw [(own_len this).1]; exact hnl
  obtain ⟨m, hm⟩ : ∃ m, L.length = m := ⟨_, rfl⟩
  rw [hm] at hll hN hl hnl
  subst hll
  have HM : Hid (L.length = l) := hm
  have HNS : Hid (K.ns = crL L) := hns
  have HSV : Hid (K.sv = .slice ao l c) := hsv
  have R : ∀ i, i ≤ l → ∀ wr, DiskAt base wr d (N + i) { K with DL := putL K.DL (L.take i) } → wr.cell? ⟨d, 3, none⟩ = some (.map (some K.ml)) := fun i _ wr D => D.cells.c3
  have c4 := h.cells.c4
  rw [hsv] at c4
  have S0 : DiskAt base w d (N + 0) { K with DL := putL K.DL (L.take 0) } := h
  rw [hm]
  obtain ⟨Q, hQ⟩ : ∃ Q : World → Prop, Q = fun w' => DiskAt base w' d (N + l) { K with sv := .slice none 0 0, ns := [], DL := putL K.DL L } ∧ Upd (DW d K) w w' := ⟨_, rfl⟩
  suffices H : Calls Tryz.prog 132 #[.pointer (some ⟨d, 0, none⟩)] w fun e w' => e = .returned (.tuple #[]) ∧ Q w' by rw [hQ] at H; exact H
  have HQ : Hid (Q = fun w' => DiskAt base w' d (N + l) { K with sv := .slice none 0 0, ns := [], DL := putL K.DL L } ∧ Upd (DW d K) w w') := hQ
  clear hQ h hns hm hsv hnl
  go_enter Tryz.func132, Tryz.ntmps132
  go_wp2
  go_loopw [11] (fun a wr => ∃ i : Nat, a = .int .i64 i ∧ i ≤ l ∧ DiskAt base wr d (N + i) { K with DL := putL K.DL (L.take i) } ∧ Upd (DW d K) w wr) (fun a _ => l - (intOf a).toNat)
  case atStart => exact ⟨0, rfl, by omega, S0, Upd.refl _ _⟩
  case round =>
    obtain ⟨i, rfl, hi, D, U⟩ := hrel
    clear c4
    have c3 := D.cells.c3
    by_cases hlt : i < l
    · have hz : (i : Int) < (l : Int) := by omega
      have hiL : i < L.length := by have := HM.out; omega
      have hown : wr.ownsRow base 128 1 K.sv K.ns.length K.ns := D.sown
      rw [HSV.out, HNS.out] at hown
      have hcl : (crL L).length = L.length := by simp [crL]
      obtain ⟨g, rfl, hcell⟩ := own_cell hown (by omega)
      have hci := hcell i (crV L[i].1 L[i].2) (by simp [crL, hiL])
      obtain ⟨b1, b2⟩ := hL _ (List.getElem_mem hiL)
      have DN := doName_created K.ml (N + i) _ L[i].1 L[i].2 wr D.mL b1 b2 (by omega)
      have NX : ∀ w', w'.ownsMap Tryz.prog 9 (plainElem (H := Unit) Tryz.prog 3) K.ml (N + i + 1) ((putL K.DL (L.take i)).put (.string L[i].1.data.toList) (.lit (.int .i64 (L[i].2 : Int)))) → Upd (fun k => k = K.ml) wr w' → DiskAt base w' d (N + (i + 1)) { K with DL := putL K.DL (L.take (i + 1)) } ∧ Upd (DW d K) w w' := fun w' o u => by
        have t := D.turnL o u
        rw [List.take_succ_eq_append_getElem hiL, putL_snoc]
        exact ⟨t, U.trans u (fun _ _ e => Or.inr (Or.inr (Or.inr (Or.inl e))))⟩
      have HNX : Hid _ := NX
      clear NX D U b1 b2 hcell hown
      unfold crV at hci DN
      generalize L[i].1 = s at *
      generalize L[i].2 = n at *
      go_wp2_with (go_at_call 57; refine DN.mono ?_; clear DN; rintro e w5 ⟨rfl, o5, u5⟩)
      obtain ⟨D5, U5⟩ := HNX.out _ o5 u5
      go_roundw
      case rel => exact ⟨i + 1, by go_num, by omega, D5, U5⟩
      case measure => simp [intOf]; omega
    · obtain rfl : l = i := by omega
      have q : Q (wr.setCell ⟨d, 4, none⟩ (.slice none 0 0)) := by
        rw [HQ.out]
        have t := D.noSteps
        rw [List.take_of_length_le (by rw [HM.out]; exact Nat.le_refl _)] at t
        exact ⟨t, U.setCell (p := ⟨d, 4, none⟩) (fun _ => Or.inl rfl) _⟩
      have c4 := D.cells.c4
      have f4 := free3 D.block 4
      clear D U
      go_wp2
      go_returns
      exact ⟨rfl, q⟩
theorem syncNames_any (base d N : Nat) (K : Dk) (L : List (ByteArray × Nat)) (w : World) (h : DiskAt base w d N K) (ho : K.off = false) (ha1 : K.a1 = 0) (hns : K.ns = crL L) (hL : ∀ p ∈ L, p.1.size ≤ maxLen ∧ p.2 < 9223372036854775808) (hN : N + L.length < maxLen) (hl : L.length ≤ 1000000000000) :
    Calls Tryz.prog 73 #[.pointer (some ⟨d, 0, none⟩)] w fun e w' => e = .returned (.int .i64 0) ∧ DiskAt base w' d (N + L.length) { K with sv := .slice none 0 0, ns := [], DL := putL K.DL L } ∧ Upd (DW d K) w w' := by
  have FR := fire_zero base d N K w h ha1
  have c8 := h.cells.c8
  rw [ho] at c8
  have ST := fun w1 D => settleN_any base d N K L w1 D hns hL hN hl
  clear h hns hL hN hl
  go_enter Tryz.func73, Tryz.ntmps73
  go_wp2_with (first
    | (go_at_call 131; refine FR.mono ?_; clear FR; rintro e w1 ⟨rfl, D1, same1, U1⟩)
    | (go_at_call 132; refine (ST _ D1).mono ?_; clear ST; rintro e w2 ⟨rfl, D2, U2⟩))
  go_ret
  exact ⟨rfl, D2, (U1.mono (fun _ _ h => Or.inl h)).trans U2 (fun _ _ h => h)⟩
end Go.Proofs.YtgoafinbaiepmaaGreatDoor
