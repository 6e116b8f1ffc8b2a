/-
  Contracts: layAttrs, layEvents.
-/
import Derived.Test.YtioibllopidilaaDoorZe
namespace Go.Proofs.YtioibllopidilaaDoor
open Go.Shelf Go.RowKit
set_option maxRecDepth 100000

def textL (s : ByteArray) : List Int := encN s.size ++ bytesI s
def attrL (a : AttrD) : List Int := textL a.key ++ (encN a.kind.toNat ++ (textL a.text ++ encN (zigI a.num).toNat))
def eventL (a : EventD) : List Int := encN a.moment.toNat ++ textL a.name
def catL {α : Type} (f : α → List Int) : List α → List Int
  | [] => []
  | a :: r => f a ++ catL f r
theorem catL_snoc {α : Type} (f : α → List Int) (X : List α) (k : Nat) (hk : k < X.length) : catL f (X.take (k + 1)) = catL f (X.take k) ++ f X[k] := by
  induction X generalizing k with
  | nil => simp at hk
  | cons a r ih =>
    cases k with
    | zero => simp [catL]
    | succ k =>
      simp only [List.take_succ_cons, catL, List.getElem_cons_succ]
      rw [ih k (by simpa using hk), List.append_assoc]
theorem box_cells {w : World} {g : Nat} {cs : Array Value} {t : TypeId} (h : w.heap[g]? = some (.cells cs t (0, 0))) (j : Nat) {u : Value} (hu : cs[j]? = some u) : w.cell? ⟨g, j, none⟩ = some u := by
  simp [World.cell?, h, hu]

set_option maxHeartbeats 1000000 in
theorem layAttrs_any (B : Nat) (L : List Int) (c : Nat) (ad : Option Addr) (n cp : Nat) (X : List AttrD) (w0 w : World) (hX : AttrsAt w0 ad n X) (h0 : Below w0.heap.size w0 w) (hB : w0.heap.size ≤ B) (h : WrC w B L c) (hc : c ≤ 20000) (hn : n ≤ 32)
    (hs : ∀ a ∈ X, a.key.size ≤ 200 ∧ a.text.size ≤ 200 ∧ 0 ≤ a.kind ∧ a.kind ≤ 9223372036854775807 ∧ -9223372036854775808 ≤ a.num ∧ a.num ≤ 9223372036854775807) :
    Calls Tryd.prog 33 #[.pointer (some ⟨B, 0, none⟩), .slice ad n cp] w fun e w' => e = .returned (.tuple #[]) ∧ WrC w' B (L ++ (encN n ++ catL attrL X)) (c + 10 + 440 * n) ∧ Wch B w w' := by
  have hl := hX.len
  have U1 := wuint_any B L c (n : Int) (by omega) (by omega) w h (by omega)
  rw [show ((n : Int)).toNat = n by omega] at U1
  go_enter Tryd.func33, Tryd.ntmps33
  go_wp2_with (go_at_call 31; refine U1.mono ?_; rintro e w1 ⟨rfl, hW1, hC1⟩)
  clear U1
  go_loopw [13] (fun a wr => ∃ k : Nat, a = .int .i64 k ∧ k ≤ n ∧ WrC wr B (L ++ (encN n ++ catL attrL (X.take k))) (c + 10 + 440 * k) ∧ Wch B w wr) (fun a _ => n - (intOf a).toNat)
  case atStart => exact ⟨0, rfl, by omega, by simpa [catL] using hW1, hC1⟩
  case round =>
    obtain ⟨k, rfl, hk, hW, hC⟩ := hrel
    clear hW1 hC1 h
    have h00 : Below w0.heap.size w0 wr := h0.trans (hC.below.mono hB)
    by_cases hlt : k < n
    · obtain ⟨b1, o1, rfl, hc1⟩ := (hX.below h00).lies (by omega)
      have ck := hc1 k (by omega)
      have hsx := hs X[k] (List.getElem_mem _)
      have st := catL_snoc attrL X k (by omega)
      obtain ⟨x, hx⟩ : ∃ x, X[k] = x := ⟨_, rfl⟩
      rw [hx] at ck hsx st
      obtain ⟨c0, c1, c2, c3⟩ := ck
      obtain ⟨s1, s2, s3, s4, s5, s6⟩ := hsx
      have HS : Hid (catL attrL (X.take (k + 1)) = catL attrL (X.take k) ++ attrL x) := st
      obtain ⟨M, hM⟩ : ∃ M, L ++ (encN n ++ catL attrL (X.take k)) = M := ⟨_, rfl⟩
      rw [hM] at hW
      have HM : Hid (L ++ (encN n ++ catL attrL (X.take k)) = M) := hM
      have hBl := hW.lt
      have hWa := hW.below ((Below.refl _ _).alloc (Nat.le_refl _) (.cells #[.string x.key, .int .i64 x.kind, .string x.text, .int .i64 x.num] 62))
      have hCa : Wch B wr (wr.alloc (.cells #[.string x.key, .int .i64 x.kind, .string x.text, .int .i64 x.num] 62)) := Wch.ofBelow ((Below.refl _ _).alloc (Nat.le_refl _) _) (Nat.le_of_lt hBl)
      have hba := heap_alloc_new wr (.cells #[.string x.key, .int .i64 x.kind, .string x.text, .int .i64 x.num] 62)
      have T1 := wtext_any B M (c + 10 + 440 * k) x.key s1 _ hWa (by omega)
      have l2 : b1 < wr.heap.size := World.block_lt_of_cell? wr _ c0
      clear st hx hM hc1 hX hs h0 h00 hWa hW
      go_wp2_with (first
        | (go_at_call 32; refine T1.mono ?_; clear T1; rintro e w2 ⟨rfl, hW2, hC2⟩; have hb2 := hC2.other _ _ _ _ hba (by decide) (by omega); have T2 := wuint_any B _ _ x.kind s3 (by omega) _ hW2 (by omega); have d1 := box_cells hb2 1 rfl)
        | (go_at_call 31; refine T2.mono ?_; clear T2; rintro e w3 ⟨rfl, hW3, hC3⟩; have hb3 := hC3.other _ _ _ _ hb2 (by decide) (by omega); have T3 := wtext_any B _ _ x.text s2 _ hW3 (by omega); have d2 := box_cells hb3 2 rfl)
        | (go_at_call 32; refine T3.mono ?_; clear T3; rintro e w4 ⟨rfl, hW4, hC4⟩; have hb4 := hC4.other _ _ _ _ hb3 (by decide) (by omega); have T4 := wint_any B _ _ x.num s5 s6 _ hW4 (by omega); have d3 := box_cells hb4 3 rfl)
        | (go_at_call 54; refine T4.mono ?_; clear T4; rintro e w5 ⟨rfl, hW5, hC5⟩))
      have hCf := (((hC.trans hCa).trans hC2).trans hC3).trans (hC4.trans hC5)
      have hWf : WrC w5 B (L ++ (encN n ++ catL attrL (X.take (k + 1)))) (c + 10 + 440 * (k + 1)) := by
        obtain ⟨v, hv⟩ := hW5.row
        have hcp := hW5.cap
        have e : M ++ (encN x.key.size ++ bytesI x.key) ++ encN x.kind.toNat ++ (encN x.text.size ++ bytesI x.text) ++ encN (zigI x.num).toNat = L ++ (encN n ++ catL attrL (X.take (k + 1))) := by
          rw [HS.out, ← HM.out]; simp only [attrL, textL, List.append_assoc]
        rw [e] at hv hcp
        exact ⟨⟨v, hv⟩, by omega⟩
      go_roundw
      case rel => exact ⟨k + 1, by go_num, by omega, hWf, hCf⟩
      case measure => simp [intOf]; omega
    · have hkn : k = n := by omega
      subst hkn
      rw [List.take_of_length_le (by omega)] at hW
      go_wp2
      go_end0
      exact ⟨rfl, hW, hC⟩

set_option maxHeartbeats 1000000 in
theorem layEvents_any (B : Nat) (L : List Int) (c : Nat) (ad : Option Addr) (n cp : Nat) (X : List EventD) (w0 w : World) (hX : EventsAt w0 ad n X) (h0 : Below w0.heap.size w0 w) (hB : w0.heap.size ≤ B) (h : WrC w B L c) (hc : c ≤ 40000) (hn : n ≤ 32)
    (hs : ∀ a ∈ X, a.name.size ≤ 200 ∧ 0 ≤ a.moment ∧ a.moment ≤ 9223372036854775807) :
    Calls Tryd.prog 34 #[.pointer (some ⟨B, 0, none⟩), .slice ad n cp] w fun e w' => e = .returned (.tuple #[]) ∧ WrC w' B (L ++ (encN n ++ catL eventL X)) (c + 10 + 220 * n) ∧ Wch B w w' := by
  have hl := hX.len
  have U1 := wuint_any B L c (n : Int) (by omega) (by omega) w h (by omega)
  rw [show ((n : Int)).toNat = n by omega] at U1
  go_enter Tryd.func34, Tryd.ntmps34
  go_wp2_with (go_at_call 31; refine U1.mono ?_; rintro e w1 ⟨rfl, hW1, hC1⟩)
  clear U1
  go_loopw [13] (fun a wr => ∃ k : Nat, a = .int .i64 k ∧ k ≤ n ∧ WrC wr B (L ++ (encN n ++ catL eventL (X.take k))) (c + 10 + 220 * k) ∧ Wch B w wr) (fun a _ => n - (intOf a).toNat)
  case atStart => exact ⟨0, rfl, by omega, by simpa [catL] using hW1, hC1⟩
  case round =>
    obtain ⟨k, rfl, hk, hW, hC⟩ := hrel
    clear hW1 hC1 h
    have h00 : Below w0.heap.size w0 wr := h0.trans (hC.below.mono hB)
    by_cases hlt : k < n
    · obtain ⟨b1, o1, rfl, hc1⟩ := (hX.below h00).lies (by omega)
      have ck := hc1 k (by omega)
      have hsx := hs X[k] (List.getElem_mem _)
      have st := catL_snoc eventL X k (by omega)
      obtain ⟨x, hx⟩ : ∃ x, X[k] = x := ⟨_, rfl⟩
      rw [hx] at ck hsx st
      obtain ⟨c0, c1⟩ := ck
      obtain ⟨s1, s3, s4⟩ := hsx
      have HS : Hid (catL eventL (X.take (k + 1)) = catL eventL (X.take k) ++ eventL x) := st
      obtain ⟨M, hM⟩ : ∃ M, L ++ (encN n ++ catL eventL (X.take k)) = M := ⟨_, rfl⟩
      rw [hM] at hW
      have HM : Hid (L ++ (encN n ++ catL eventL (X.take k)) = M) := hM
      have hBl := hW.lt
      have hWa := hW.below ((Below.refl _ _).alloc (Nat.le_refl _) (.cells #[.int .i64 x.moment, .string x.name] 64))
      have hCa : Wch B wr (wr.alloc (.cells #[.int .i64 x.moment, .string x.name] 64)) := Wch.ofBelow ((Below.refl _ _).alloc (Nat.le_refl _) _) (Nat.le_of_lt hBl)
      have hba := heap_alloc_new wr (.cells #[.int .i64 x.moment, .string x.name] 64)
      have T1 := wuint_any B M (c + 10 + 220 * k) x.moment s3 (by omega) _ hWa (by omega)
      have l2 : b1 < wr.heap.size := World.block_lt_of_cell? wr _ c0
      clear st hx hM hc1 hX hs h0 h00 hWa hW
      go_wp2_with (first
        | (go_at_call 31; refine T1.mono ?_; clear T1; rintro e w2 ⟨rfl, hW2, hC2⟩; have hb2 := hC2.other _ _ _ _ hba (by decide) (by omega); have T2 := wtext_any B _ _ x.name s1 _ hW2 (by omega); have d1 := box_cells hb2 1 rfl)
        | (go_at_call 32; refine T2.mono ?_; clear T2; rintro e w5 ⟨rfl, hW5, hC5⟩))
      have hCf := ((hC.trans hCa).trans hC2).trans hC5
      have hWf : WrC w5 B (L ++ (encN n ++ catL eventL (X.take (k + 1)))) (c + 10 + 220 * (k + 1)) := by
        obtain ⟨v, hv⟩ := hW5.row
        have hcp := hW5.cap
        have e : M ++ encN x.moment.toNat ++ (encN x.name.size ++ bytesI x.name) = L ++ (encN n ++ catL eventL (X.take (k + 1))) := by
          rw [HS.out, ← HM.out]; simp only [eventL, textL, List.append_assoc]
        rw [e] at hv hcp
        exact ⟨⟨v, hv⟩, by omega⟩
      go_roundw
      case rel => exact ⟨k + 1, by go_num, by omega, hWf, hCf⟩
      case measure => simp [intOf]; omega
    · have hkn : k = n := by omega
      subst hkn
      rw [List.take_of_length_le (by omega)] at hW
      go_wp2
      go_end0
      exact ⟨rfl, hW, hC⟩
end Go.Proofs.YtioibllopidilaaDoor
