/-
  Merged by merge.py: Xr, Xl.
-/
import Derived.Test.YthcghpbkadlliabGreatDoorMa17
namespace Go.Proofs.YthcghpbkadlliabGreatDoor
open Go.Shelf Go.RowKit Go.Maps Go.WideMaps
set_option maxRecDepth 100000

set_option maxHeartbeats 4000000 in
theorem bRaw_any (v : Int) (h0 : 0 ≤ v) (h1 : v < 18446744073709551616) (w : World) :
    Calls Tryz.prog 50 #[.int .u64 v] w fun e w' => e = .returned (.slice (some ⟨w.heap.size, 0, none⟩) 8 8) ∧ RowAt w' w.heap.size (rawL v) ∧ Below w.heap.size w w' := by
  obtain ⟨i0, hi, hz0, hz1, hz2⟩ := info_parts Tryz.info5
  go_enter Tryz.func50, Tryz.ntmps50
  go_wp2_with (at_make; refine wpList_make_full _ rfl (.const (.int .i64 8)) (.const (.int .i64 8)) 24 rfl w.heap.size 5 i0 (.int .u8 0) 1 Tryz.underlying24 hi hz0 hz1 .i64 .i64 8 8 8 rfl rfl rfl rfl (by rw [hz2]; omega) (by unfold maxLen; omega) (Nat.le_refl _) ?_)
  intro w1 hown hgrow
  obtain ⟨cur, hcur, hcz⟩ : ∃ cur : List Value, w1.heap[w.heap.size]? = some (.cells cur.toArray 5 (0, 0)) ∧ cur.length = 8 := by
    rcases hown.2 with ⟨e, _⟩ | ⟨g, cap', cur, e, _, hg, _, _, hs, _⟩
    · simp at e
    · simp at e
      obtain ⟨rfl, rfl⟩ := e
      exact ⟨cur.toList, by simpa using hg, by simpa using hs⟩
  have hb1 : Below w.heap.size w w1 := (Below.refl _ _).grown hgrow (Nat.le_refl _) (by intro k hk; cases hk)
  obtain ⟨x0, rfl⟩ := eight hcz
  clear hown hgrow hcz
  go_wp2
  go_loopw [8] (fun a wr => ∃ (k : Nat) (x : Nat → Value), a = .int .i64 k ∧ k ≤ 8 ∧ wr.heap[w.heap.size]? = some (.cells #[x 7, x 6, x 5, x 4, x 3, x 2, x 1, x 0] 5 (0, 0)) ∧ (∀ i, 8 ≤ i + k → i < 8 → x i = .int .u8 (v / 256 ^ i % 256)) ∧ Below w.heap.size w wr) (fun a _ => 8 - (intOf a).toNat)
  case atStart => exact ⟨0, x0, rfl, by omega, hcur, (fun i hi => by omega), hb1⟩
  case round =>
    obtain ⟨k, x, rfl, hk, hblk, hx, hb⟩ := hrel
    clear hcur hb1
    have HX : Hid (∀ i, 8 ≤ i + k → i < 8 → x i = .int .u8 (v / 256 ^ i % 256)) := hx
    clear hx
    have hfr : ∀ j, wr.frozen? ⟨w.heap.size, j, none⟩ = false := fun j => by simp [World.frozen?, hblk]
    have hsb := fun (j : Nat) (u : Value) => set_block hblk j u
    have hbs := fun (j : Nat) (u : Value) => hb.setCell (p := ⟨w.heap.size, j, none⟩) (Nat.le_refl _) u
    have FI : ∀ (m : Nat) (y : Value), m + k = 7 → y = .int .u8 (v / 256 ^ m % 256) → ∀ i, 8 ≤ i + (k + 1) → i < 8 → (fun i => if i = m then y else x i) i = .int .u8 (v / 256 ^ i % 256) := by
      intro m y hm hy i hi hi8
      by_cases e : i = m
      · subst e; simp [hy]
      · simp only [e, if_false]; exact HX.out i (by omega) hi8
    rcases (by omega : k = 8 ∨ k = 0 ∨ k = 1 ∨ k = 2 ∨ k = 3 ∨ k = 4 ∨ k = 5 ∨ k = 6 ∨ k = 7) with rfl | hk7
    · have FIN : RowAt wr w.heap.size (rawL v) := by
        unfold RowAt
        rw [hblk, HX.out 7 (by omega) (by omega), HX.out 6 (by omega) (by omega), HX.out 5 (by omega) (by omega), HX.out 4 (by omega) (by omega), HX.out 3 (by omega) (by omega), HX.out 2 (by omega) (by omega), HX.out 1 (by omega) (by omega), HX.out 0 (by omega) (by omega)]
        rfl
      clear hsb hbs FI hfr
      go_wp2
      go_ret
      exact ⟨rfl, FIN, hb⟩
    · rcases hk7 with rfl | rfl | rfl | rfl | rfl | rfl | rfl | rfl
      · have hu : wr.cell? ⟨w.heap.size, 0, none⟩ = some (x 7) := by simp [World.cell?, hblk]
        have f1 := hfr 0
        have S1 := hsb 0 (.int .u8 (v / 72057594037927936))
        have S2 := hbs 0 (.int .u8 (v / 72057594037927936))
        simp at S1 S2
        clear hsb hbs hfr
        go_wp2
        go_roundw
        case rel => exact ⟨1, fun i => if i = 7 then .int .u8 (v / 72057594037927936) else x i, rfl, by omega, by simpa using S1, FI 7 _ (by omega) (by rw [show (v / 256 ^ 7 % 256 : Int) = v / 72057594037927936 by omega]), by simpa using S2⟩
        case measure => simp [intOf]
      · have hu : wr.cell? ⟨w.heap.size, 1, none⟩ = some (x 6) := by simp [World.cell?, hblk]
        have f1 := hfr 1
        have S1 := hsb 1 (.int .u8 (v / 256 ^ 6 % 256))
        have S2 := hbs 1 (.int .u8 (v / 256 ^ 6 % 256))
        simp at S1 S2
        clear hsb hbs hfr
        go_wp2
        go_roundw
        case rel => exact ⟨2, fun i => if i = 6 then .int .u8 (v / 256 ^ 6 % 256) else x i, rfl, by omega, by simpa using S1, FI 6 _ (by omega) rfl, by simpa using S2⟩
        case measure => simp [intOf]
      · have hu : wr.cell? ⟨w.heap.size, 2, none⟩ = some (x 5) := by simp [World.cell?, hblk]
        have f1 := hfr 2
        have S1 := hsb 2 (.int .u8 (v / 256 ^ 5 % 256))
        have S2 := hbs 2 (.int .u8 (v / 256 ^ 5 % 256))
        simp at S1 S2
        clear hsb hbs hfr
        go_wp2
        go_roundw
        case rel => exact ⟨3, fun i => if i = 5 then .int .u8 (v / 256 ^ 5 % 256) else x i, rfl, by omega, by simpa using S1, FI 5 _ (by omega) rfl, by simpa using S2⟩
        case measure => simp [intOf]
      · have hu : wr.cell? ⟨w.heap.size, 3, none⟩ = some (x 4) := by simp [World.cell?, hblk]
        have f1 := hfr 3
        have S1 := hsb 3 (.int .u8 (v / 256 ^ 4 % 256))
        have S2 := hbs 3 (.int .u8 (v / 256 ^ 4 % 256))
        simp at S1 S2
        clear hsb hbs hfr
        go_wp2
        go_roundw
        case rel => exact ⟨4, fun i => if i = 4 then .int .u8 (v / 256 ^ 4 % 256) else x i, rfl, by omega, by simpa using S1, FI 4 _ (by omega) rfl, by simpa using S2⟩
        case measure => simp [intOf]
      · have hu : wr.cell? ⟨w.heap.size, 4, none⟩ = some (x 3) := by simp [World.cell?, hblk]
        have f1 := hfr 4
        have S1 := hsb 4 (.int .u8 (v / 256 ^ 3 % 256))
        have S2 := hbs 4 (.int .u8 (v / 256 ^ 3 % 256))
        simp at S1 S2
        clear hsb hbs hfr
        go_wp2
        go_roundw
        case rel => exact ⟨5, fun i => if i = 3 then .int .u8 (v / 256 ^ 3 % 256) else x i, rfl, by omega, by simpa using S1, FI 3 _ (by omega) rfl, by simpa using S2⟩
        case measure => simp [intOf]
      · have hu : wr.cell? ⟨w.heap.size, 5, none⟩ = some (x 2) := by simp [World.cell?, hblk]
        have f1 := hfr 5
        have S1 := hsb 5 (.int .u8 (v / 256 ^ 2 % 256))
        have S2 := hbs 5 (.int .u8 (v / 256 ^ 2 % 256))
        simp at S1 S2
        clear hsb hbs hfr
        go_wp2
        go_roundw
        case rel => exact ⟨6, fun i => if i = 2 then .int .u8 (v / 256 ^ 2 % 256) else x i, rfl, by omega, by simpa using S1, FI 2 _ (by omega) rfl, by simpa using S2⟩
        case measure => simp [intOf]
      · have hu : wr.cell? ⟨w.heap.size, 6, none⟩ = some (x 1) := by simp [World.cell?, hblk]
        have f1 := hfr 6
        have S1 := hsb 6 (.int .u8 (v / 256 ^ 1 % 256))
        have S2 := hbs 6 (.int .u8 (v / 256 ^ 1 % 256))
        simp at S1 S2
        clear hsb hbs hfr
        go_wp2
        go_roundw
        case rel => exact ⟨7, fun i => if i = 1 then .int .u8 (v / 256 ^ 1 % 256) else x i, rfl, by omega, by simpa using S1, FI 1 _ (by omega) rfl, by simpa using S2⟩
        case measure => simp [intOf]
      · have hu : wr.cell? ⟨w.heap.size, 7, none⟩ = some (x 0) := by simp [World.cell?, hblk]
        have f1 := hfr 7
        have S1 := hsb 7 (.int .u8 (v / 256 ^ 0 % 256))
        have S2 := hbs 7 (.int .u8 (v / 256 ^ 0 % 256))
        simp at S1 S2
        clear hsb hbs hfr
        go_wp2
        go_roundw
        case rel => exact ⟨8, fun i => if i = 0 then .int .u8 (v / 256 ^ 0 % 256) else x i, rfl, by omega, by simpa using S1, FI 0 _ (by omega) rfl, by simpa using S2⟩
        case measure => simp [intOf]
theorem fSmall_any (c : Fc) (st : Est) (n : Nat) (x : Int) (h0 : 0 ≤ x) (h1 : x < 256) (w : World) (h : FW c w st n) (hn : n ≤ 900000000) :
    Calls Tryz.prog 52 #[.pointer (some ⟨c.F, 0, none⟩), .int .i64 x] w fun e w' => e = .returned (.tuple #[]) ∧ FW c w' (putE [x] st) (n + 1) ∧ Fx c w w' := by
  have c0 := h.c0
  have R := fun w1 (h1 : FW c w1 st n) ad (hK : Holds w1 ad 1 [x]) => fRaw_any c st n ad 1 1 [x] w1 h1 hK (by omega) (by omega)
  have hb : Below w.heap.size w (w.alloc (.cells #[.int .u8 x] 5)) := (Below.refl _ _).alloc (Nat.le_refl _) _
  have h2 := h.below hb
  have hx := Fch.ofBelow (Ts := FTs) (ms := [c.m1, c.m2]) hb h.base
  have hH : Holds (w.alloc (.cells #[.int .u8 x] 5)) (some ⟨w.heap.size, 0, none⟩) 1 [x] := RowAt.holds (K := [x]) (heap_alloc_new _ _)
  clear h
  go_enter Tryz.func52, Tryz.ntmps52
  go_wp2_with (go_at_call 49; refine (R _ h2 _ hH).mono ?_; clear R; rintro e w2 ⟨rfl, h3, x3⟩)
  go_end0
  exact ⟨rfl, h3, hx.trans x3⟩
end Go.Proofs.YthcghpbkadlliabGreatDoor

namespace Go.Proofs.YthcghpbkadlliabGreatDoor
open Go.Shelf Go.RowKit Go.Maps Go.WideMaps
set_option maxRecDepth 100000

theorem iter_snoc {α : Type} (e : List α → α → Est → Est) (X : List α) (k : Nat) (hk : k < X.length) (st : Est) : iterE e [] (X.take (k + 1)) st = e (X.take k) X[k] (iterE e [] (X.take k) st) := by
  rw [List.take_succ_eq_append_getElem hk, iterE_app]; simp [iterE]
theorem allQ_at {α : Type} {C : List α → α → Prop} : ∀ (X acc : List α) (k : Nat) (hk : k < X.length), AllQ C acc X → C (acc ++ X.take k) X[k]
  | [], _, k, hk, _ => by simp at hk
  | v :: r, acc, 0, _, h => by simpa using h.1
  | v :: r, acc, k + 1, hk, h => by
    have := allQ_at r (acc ++ [v]) k (by simpa using hk) h.2
    simpa using this
theorem last_take (X : List Int) (k : Nat) (hk : k < X.length) : lastI (X.take (k + 1)) = X[k] := by
  rw [List.take_succ_eq_append_getElem hk, lastI_snoc]
theorem lastE_take (X : List EventD) (k : Nat) (hk : k < X.length) : lastE (X.take (k + 1)) = X[k].moment := by
  rw [List.take_succ_eq_append_getElem hk, lastE_snoc]
set_option maxHeartbeats 1000000 in
theorem fLinks_any (c : Fc) (st : Est) (n : Nat) (ad : Option Addr) (cp : Nat) (X : List Int) (w0 w : World) (hX : HoldsV w0 ad X.length (intsV .u64 X)) (h0 : Below w0.heap.size w0 w) (hB : w0.heap.size ≤ c.base) (h : FW c w st n) (hn : n ≤ 800000000) (hl : X.length ≤ 16) (hq : AllQ linkQ [] X) (hr : ∀ x ∈ X, 0 ≤ x ∧ x < 18446744073709551616) :
    Calls Tryz.prog 54 #[.pointer (some ⟨c.F, 0, none⟩), .slice ad X.length cp] w fun e w' => e = .returned (.tuple #[]) ∧ FW c w' (linksE X st) (n + 10 + 160) ∧ Fx c w w' := by
  have c0 := h.c0
  have U1 := fUint_any c st n X.length (by omega) w h (by omega)
  unfold linksE
  obtain ⟨N, hN⟩ : ∃ N, X.length = N := ⟨_, rfl⟩
  rw [hN] at U1 ⊢
  generalize putE (encN N) st = st1 at U1 ⊢
  have HN : Hid (X.length = N) := hN
  have hlN : N ≤ 16 := by omega
  clear h hN hl
  go_enter Tryz.func54, Tryz.ntmps54
  go_wp2_with (go_at_call 48; refine U1.mono ?_; rintro e w1 ⟨rfl, h1, x1⟩)
  clear U1 c0
  go_loopw [4, 17] (fun a b wr => ∃ k : Nat, b = .int .i64 k ∧ k ≤ N ∧ a = .int .u64 (lastI (X.take k)) ∧ FW c wr (iterE linkE1 [] (X.take k) st1) (n + 10 + 10 * k) ∧ Fx c w wr) (fun _ b _ => N - (intOf b).toNat)
  case atStart => exact ⟨0, rfl, by omega, by simp [lastI], by simpa [iterE] using h1, x1⟩
  case round =>
    obtain ⟨k, rfl, hk, rfl, hW, hC⟩ := hrel
    clear h1 x1
    have h00 : Below w0.heap.size w0 wr := h0.trans (hC.below.mono hB)
    have hNN := HN.out
    by_cases hlt : k < N
    · obtain ⟨b1, o1, rfl, hc1⟩ := (hX.below h00).plain (intsV_get (k := .u64) (by omega : k < X.length))
      have hcx := hc1 k _ (intsV_get (k := .u64) (by omega : k < X.length))
      have hqk := allQ_at X [] k (by omega) hq
      have hrk := hr X[k] (List.getElem_mem _)
      have st2 := iter_snoc linkE1 X k (by omega) st1
      have hlast := last_take X k (by omega)
      simp only [List.nil_append] at hqk
      obtain ⟨x, hx⟩ : ∃ x, X[k] = x := ⟨_, rfl⟩
      rw [hx] at hcx hqk hrk st2 hlast
      obtain ⟨q1, q2, q3⟩ := hqk
      have d0 := hW.c0
      have U := fUint_any c _ (n + 10 + 10 * k) (x - lastI (X.take k)).toNat (by omega) wr hW (by omega)
      have HE : Hid (iterE linkE1 [] (X.take (k + 1)) st1 = putE (encN (x - lastI (X.take k)).toNat) (iterE linkE1 [] (X.take k) st1)) := st2
      have HLs : Hid (lastI (X.take (k + 1)) = x) := hlast
      have hl0 : 0 ≤ lastI (X.take k) := by
        by_cases h0k : k = 0
        · subst h0k; simp [lastI]
        · obtain ⟨j, rfl⟩ : ∃ j, k = j + 1 := ⟨k - 1, by omega⟩
          rw [last_take X j (by omega)]; exact (hr _ (List.getElem_mem _)).1
      generalize putE (encN (x - lastI (X.take k)).toNat) (iterE linkE1 [] (X.take k) st1) = st3 at U HE
      generalize lastI (X.take k) = la at *
      rw [show (((x - la).toNat : Nat) : Int) = x - la by omega] at U
      clear hx hq hr hX hc1 st2 hlast hNN
      have hki : (k : Int) < (N : Int) := by omega
      go_wp2_with (go_at_call 48; refine U.mono ?_; clear U; rintro e w2 ⟨rfl, h2, x2⟩)
      go_roundw
      case rel => exact ⟨k + 1, by go_num, by omega, by rw [HLs.out], by rw [HE.out]; exact h2, hC.trans x2⟩
      case measure => simp [intOf]; omega
    · obtain rfl : k = N := by omega
      have HW : Hid (FW c wr (iterE linkE1 [] X st1) (n + 10 + 160)) := by
        rw [List.take_of_length_le (by omega)] at hW
        exact ⟨hW.fb, hW.isW, hW.tb, hW.tr, hW.mm, Nat.le_trans hW.cnt (by omega), hW.base, hW.bF, hW.bB, hW.b1, hW.b2⟩
      clear hX hW
      go_wp2
      go_end0
      exact ⟨rfl, HW.out, hC⟩
theorem wrapU (x : Int) (h0 : 0 ≤ x) (h1 : x < 18446744073709551616) : IntKind.u64.wrap x = x := by
  simp only [IntKind.wrap, IntKind.bits, IntKind.signed]; simp; omega
theorem wrapI (x : Int) (h0 : -9223372036854775808 ≤ x) (h1 : x ≤ 9223372036854775807) : IntKind.i64.wrap x = x := by
  rw [wrap_i64]; omega
theorem FW.more {c : Fc} {w : World} {st : Est} {n m : Nat} (h : FW c w st n) (hm : n ≤ m) : FW c w st m :=
  ⟨h.fb, h.isW, h.tb, h.tr, h.mm, Nat.le_trans h.cnt hm, h.base, h.bF, h.bB, h.b1, h.b2⟩
set_option maxHeartbeats 1000000 in
theorem fEvents_any (c : Fc) (st : Est) (n : Nat) (ad : Option Addr) (cp : Nat) (X : List EventD) (w0 w : World) (hX : EventsAt w0 ad X.length X) (h0 : Below w0.heap.size w0 w) (hB : w0.heap.size ≤ c.base) (h : FW c w st n) (hn : n ≤ 800000000) (hl : X.length ≤ 32) (hq : AllQ eventQ [] X) (hr : ∀ x ∈ X, x.name.size ≤ 200 ∧ 0 ≤ x.moment ∧ x.moment ≤ 4611686018427387904) :
    Calls Tryz.prog 56 #[.pointer (some ⟨c.F, 0, none⟩), .slice ad X.length cp] w fun e w' => e = .returned (.tuple #[]) ∧ FW c w' (eventsE X st) (n + 10 + 1000) ∧ Fx c w w' := by
  have c0 := h.c0
  have U1 := fUint_any c st n X.length (by omega) w h (by omega)
  unfold eventsE
  obtain ⟨N, hN⟩ : ∃ N, X.length = N := ⟨_, rfl⟩
  rw [hN] at U1 ⊢
  generalize putE (encN N) st = st1 at U1 ⊢
  have HN : Hid (X.length = N) := hN
  have hlN : N ≤ 32 := by omega
  clear h hN hl
  go_enter Tryz.func56, Tryz.ntmps56
  go_wp2_with (go_at_call 48; refine U1.mono ?_; rintro e w1 ⟨rfl, h1, x1⟩)
  clear U1 c0
  go_loopw [4, 17] (fun a b wr => ∃ k : Nat, b = .int .i64 k ∧ k ≤ N ∧ a = .int .i64 (lastE (X.take k)) ∧ FW c wr (iterE eventE1 [] (X.take k) st1) (n + 10 + 21 * k) ∧ Fx c w wr) (fun _ b _ => N - (intOf b).toNat)
  case atStart => exact ⟨0, rfl, by omega, by simp [lastE, lastI], by simpa [iterE] using h1, x1⟩
  case round =>
    obtain ⟨k, rfl, hk, rfl, hW, hC⟩ := hrel
    clear h1 x1
    have h00 : Below w0.heap.size w0 wr := h0.trans (hC.below.mono hB)
    have hNN := HN.out
    by_cases hlt : k < N
    · obtain ⟨b1, o1, rfl, hc1⟩ := (hX.below h00).lies (by omega)
      obtain ⟨g0, g1⟩ := hc1 k (by omega)
      have hqk := allQ_at X [] k (by omega) hq
      have hrk := hr X[k] (List.getElem_mem _)
      have st2 := iter_snoc eventE1 X k (by omega) st1
      have hlast := lastE_take X k (by omega)
      simp only [List.nil_append] at hqk
      have hl0 : 0 ≤ lastE (X.take k) := by
        by_cases h0k : k = 0
        · subst h0k; simp [lastE, lastI]
        · obtain ⟨j, rfl⟩ : ∃ j, k = j + 1 := ⟨k - 1, by omega⟩
          rw [lastE_take X j (by omega)]; exact (hr _ (List.getElem_mem _)).2.1
      obtain ⟨x, hx⟩ : ∃ x, X[k] = x := ⟨_, rfl⟩
      rw [hx] at g0 g1 hqk hrk st2 hlast
      obtain ⟨q1, q2, q3⟩ := hqk
      obtain ⟨r1, r2, r3⟩ := hrk
      have hba : Below wr.heap.size wr (wr.alloc (.cells #[.int .i64 x.moment, .string x.name] 58)) := (Below.refl _ _).alloc (Nat.le_refl _) _
      have hCa := Fch.ofBelow (Ts := FTs) (ms := [c.m1, c.m2]) hba hW.base
      have hWa := hW.below hba
      have hBx := heap_alloc_new wr (.cells #[.int .i64 x.moment, .string x.name] 58)
      have U := fun m => fUint_any c _ (n + 10 + 21 * k) (x.moment - lastE (X.take k)).toNat (by omega) _ (hWa.below (below_drewN (Below.refl _ _) m)) (by omega)
      have HE : Hid (iterE eventE1 [] (X.take (k + 1)) st1 = nameE x.name (putE (encN (x.moment - lastE (X.take k)).toNat) (iterE eventE1 [] (X.take k) st1))) := st2
      have HLs : Hid (lastE (X.take (k + 1)) = x.moment) := hlast
      generalize putE (encN (x.moment - lastE (X.take k)).toNat) (iterE eventE1 [] (X.take k) st1) = st3 at U HE
      generalize lastE (X.take k) = la at *
      rw [show (((x.moment - la).toNat : Nat) : Int) = x.moment - la by omega] at U
      have d0 := hWa.c0
      have hbs := hWa.base
      have M := fun w' (h : FW c w' st3 (n + 10 + 21 * k + 10)) => fName_any c st3 (n + 10 + 21 * k + 10) x.name w' h r1 (by omega)
      generalize nameE x.name st3 = st4 at M HE
      have bx0 := blk_cell hBx 0 rfl
      have l2 : b1 < wr.heap.size := World.block_lt_of_cell? wr _ g0
      clear hx hq hr hX hc1 st2 hlast hNN hWa hW h00 h0
      have hki : (k : Int) < (N : Int) := by omega
      have wI := wrapI (x.moment - la) (by omega) (by omega)
      have wU := wrapU (x.moment - la) (by omega) (by omega)
      go_wp2
      go_region_held3 (fun w' => w'.cell? ⟨c.F, 0, none⟩ = some (.pointer (some ⟨c.B, 0, none⟩)) ∧ w'.cell? ⟨wr.heap.size, 0, none⟩ = some (.int .i64 x.moment)) (first | (simp [go_sem, *]; done) | exact ⟨h2.c0, blk_cell B2 0 rfl⟩) (first | (go_at_call 48; refine (U 1).mono ?_; clear U; rintro e w2 ⟨rfl, h2, x2⟩; have B2 := x2.other _ _ _ _ hBx (by decide)))
      have e1 := blk_cell B2 1 rfl
      go_wp2_with (go_at_call 51; refine (M _ h2).mono ?_; clear M; rintro e w3 ⟨rfl, h3, x3⟩; have B3 := x3.other _ _ _ _ B2 (by decide); have e2 := blk_cell B3 0 rfl)
      go_roundw
      case rel => exact ⟨k + 1, by go_num, by omega, by rw [HLs.out], by rw [HE.out]; exact h3.more (by omega), (hC.trans hCa).trans ((Fch.ofBelow (below_drewN (Below.refl _ _) 1) hbs).trans (x2.trans x3))⟩
      case measure => simp [intOf]; omega
    · obtain rfl : k = N := by omega
      have HW : Hid (FW c wr (iterE eventE1 [] X st1) (n + 10 + 1000)) := by
        rw [List.take_of_length_le (by omega)] at hW
        exact hW.more (by omega)
      clear hX hW
      go_wp2
      go_end0
      exact ⟨rfl, HW.out, hC⟩
set_option maxHeartbeats 2000000 in
theorem fAttrs_any (c : Fc) (st : Est) (n : Nat) (ad : Option Addr) (cp : Nat) (X : List AttrD) (w0 w : World) (hX : AttrsAt w0 ad X.length X) (h0 : Below w0.heap.size w0 w) (hB : w0.heap.size ≤ c.base) (h : FW c w st n) (hn : n ≤ 800000000) (hl : X.length ≤ 32) (hr : ∀ x ∈ X, x.key.size ≤ 200 ∧ x.text.size ≤ 200 ∧ valQ (x.kind, x.text, x.num)) :
    Calls Tryz.prog 55 #[.pointer (some ⟨c.F, 0, none⟩), .slice ad X.length cp] w fun e w' => e = .returned (.tuple #[]) ∧ FW c w' (attrsE X st) (n + 10 + 1000) ∧ Fx c w w' := by
  have c0 := h.c0
  have U1 := fUint_any c st n X.length (by omega) w h (by omega)
  unfold attrsE
  obtain ⟨N, hN⟩ : ∃ N, X.length = N := ⟨_, rfl⟩
  rw [hN] at U1 ⊢
  generalize putE (encN N) st = st1 at U1 ⊢
  have HN : Hid (X.length = N) := hN
  have hlN : N ≤ 32 := by omega
  clear h hN hl
  go_enter Tryz.func55, Tryz.ntmps55
  go_wp2_with (go_at_call 48; refine U1.mono ?_; rintro e w1 ⟨rfl, h1, x1⟩)
  clear U1 c0
  go_loopw [16] (fun b wr => ∃ k : Nat, b = .int .i64 k ∧ k ≤ N ∧ FW c wr (iterE (fun _ => attrE1) [] (X.take k) st1) (n + 10 + 23 * k) ∧ Fx c w wr) (fun b _ => N - (intOf b).toNat)
  case atStart => exact ⟨0, rfl, by omega, by simpa [iterE] using h1, x1⟩
  case round =>
    obtain ⟨k, rfl, hk, hW, hC⟩ := hrel
    clear h1 x1
    have h00 : Below w0.heap.size w0 wr := h0.trans (hC.below.mono hB)
    have hNN := HN.out
    by_cases hlt : k < N
    · obtain ⟨b1, o1, rfl, hc1⟩ := (hX.below h00).lies (by omega)
      obtain ⟨g0, g1, g2, g3⟩ := hc1 k (by omega)
      have hrk := hr X[k] (List.getElem_mem _)
      have st2 := iter_snoc (fun _ => attrE1) X k (by omega) st1
      obtain ⟨x, hx⟩ : ∃ x, X[k] = x := ⟨_, rfl⟩
      rw [hx] at g0 g1 g2 g3 hrk st2
      obtain ⟨r1, r2, r3⟩ := hrk
      have l2 : b1 < wr.heap.size := World.block_lt_of_cell? wr _ g0
      clear hx hr hX hc1 hNN h00 h0
      have hki : (k : Int) < (N : Int) := by omega
      obtain ⟨kx, kk, tx, nx⟩ := x
      simp only at g0 g1 g2 g3 r1 r2 r3
      rcases r3 with ⟨k0, z0⟩ | ⟨k0, z0, z1⟩ | ⟨k0, z0, z1, z2⟩
      · simp only at k0 z0
        subst k0 z0
        have hba : Below wr.heap.size wr (wr.alloc (.cells #[.string kx, .int .i64 0, .string tx, .int .i64 0] 56)) := (Below.refl _ _).alloc (Nat.le_refl _) _
        have hCa := Fch.ofBelow (Ts := FTs) (ms := [c.m1, c.m2]) hba hW.base
        have hWa := hW.below hba
        have hBx := heap_alloc_new wr (.cells #[.string kx, .int .i64 0, .string tx, .int .i64 0] 56)
        have HE : Hid (iterE (fun _ => attrE1) [] (X.take (k + 1)) st1 = valueE 0 tx 0 (nameE kx (iterE (fun _ => attrE1) [] (X.take k) st1))) := st2
        have M := fName_any c _ (n + 10 + 23 * k) kx _ hWa r1 (by omega)
        generalize nameE kx (iterE (fun _ => attrE1) [] (X.take k) st1) = st3 at M HE
        have S := fun w' (h : FW c w' st3 (n + 10 + 23 * k + 11)) => fSmall_any c st3 (n + 10 + 23 * k + 11) 0 (by omega) (by omega) w' h (by omega)
        have bx0 := blk_cell hBx 0 rfl
        clear st2 hW
        have V := fun w' (h : FW c w' (putE [0] st3) (n + 10 + 23 * k + 11 + 1)) => fName_any c _ (n + 10 + 23 * k + 11 + 1) tx w' h r2 (by omega)
        have HV : Hid (valueE 0 tx 0 st3 = nameE tx (putE [0] st3)) := by unfold valueE; rw [if_pos rfl]; rfl
        generalize nameE tx (putE [0] st3) = st5 at V HV
        generalize putE [0] st3 = st4 at S V
        go_wp2_with (first
          | (go_at_call 51; refine M.mono ?_; clear M; rintro e w2 ⟨rfl, h2, x2⟩; have B2 := x2.other _ _ _ _ hBx (by decide); have e21 := blk_cell B2 1 rfl)
          | (go_at_call 52; refine (S _ h2).mono ?_; clear S; rintro e w3 ⟨rfl, h3, x3⟩; have B3 := x3.other _ _ _ _ B2 (by decide); have e31 := blk_cell B3 1 rfl; have e32 := blk_cell B3 2 rfl)
          | (go_at_call 51; refine (V _ h3).mono ?_; clear V; rintro e w4 ⟨rfl, h4, x4⟩))
        go_roundw
        case rel => exact ⟨k + 1, by go_num, by omega, by rw [HE.out, HV.out]; exact h4.more (by omega), (hC.trans hCa).trans (x2.trans (x3.trans x4))⟩
        case measure => simp [intOf]; omega
      · simp only at k0 z0 z1
        subst k0
        unfold i64R at z1
        clear z0
        have hba : Below wr.heap.size wr (wr.alloc (.cells #[.string kx, .int .i64 1, .string tx, .int .i64 nx] 56)) := (Below.refl _ _).alloc (Nat.le_refl _) _
        have hCa := Fch.ofBelow (Ts := FTs) (ms := [c.m1, c.m2]) hba hW.base
        have hWa := hW.below hba
        have hBx := heap_alloc_new wr (.cells #[.string kx, .int .i64 1, .string tx, .int .i64 nx] 56)
        have HE : Hid (iterE (fun _ => attrE1) [] (X.take (k + 1)) st1 = valueE 1 tx nx (nameE kx (iterE (fun _ => attrE1) [] (X.take k) st1))) := st2
        have M := fName_any c _ (n + 10 + 23 * k) kx _ hWa r1 (by omega)
        generalize nameE kx (iterE (fun _ => attrE1) [] (X.take k) st1) = st3 at M HE
        have S := fun w' (h : FW c w' st3 (n + 10 + 23 * k + 11)) => fSmall_any c st3 (n + 10 + 23 * k + 11) 1 (by omega) (by omega) w' h (by omega)
        have bx0 := blk_cell hBx 0 rfl
        clear st2 hW
        have hb3 : ∀ w', FW c w' (putE [1] st3) (n + 10 + 23 * k + 11 + 1) → c.base ≤ w'.heap.size := fun w' h => h.base
        have V := fun m w' (h : FW c w' (putE [1] st3) (n + 10 + 23 * k + 11 + 1)) => fInt_any c _ (n + 10 + 23 * k + 11 + 1) nx z1.1 z1.2 _ (h.below (below_drewN (Below.refl _ _) m)) (by omega)
        have HV : Hid (valueE 1 tx nx st3 = putE (encN (zigI nx).toNat) (putE [1] st3)) := by unfold valueE; rw [if_neg (by omega), if_pos rfl]; rfl
        generalize putE (encN (zigI nx).toNat) (putE [1] st3) = st5 at V HV
        generalize putE [1] st3 = st4 at S V hb3
        go_wp2_with (first
          | (go_at_call 51; refine M.mono ?_; clear M; rintro e w2 ⟨rfl, h2, x2⟩; have B2 := x2.other _ _ _ _ hBx (by decide); have e21 := blk_cell B2 1 rfl)
          | (go_at_call 52; refine (S _ h2).mono ?_; clear S; rintro e w3 ⟨rfl, h3, x3⟩; have B3 := x3.other _ _ _ _ B2 (by decide); have e31 := blk_cell B3 1 rfl; have e33 := blk_cell B3 3 rfl; have f30 := h3.c0))
        go_region_held3 (fun w' => w'.cell? ⟨c.F, 0, none⟩ = some (.pointer (some ⟨c.B, 0, none⟩)) ∧ w'.cell? ⟨wr.heap.size, 3, none⟩ = some (.int .i64 nx)) (first | (simp [go_sem, *]; done) | exact ⟨h4.c0, blk_cell B4 3 rfl⟩) (first | (go_at_call 53; refine (V 1 _ h3).mono ?_; rintro e w4 ⟨rfl, h4, x4⟩; have B4 := x4.other _ _ _ _ B3 (by decide)))
        go_wp2
        go_roundw
        case rel => exact ⟨k + 1, by go_num, by omega, by rw [HE.out, HV.out]; exact h4.more (by omega), (hC.trans hCa).trans (x2.trans (x3.trans ((Fch.ofBelow (below_drewN (Below.refl _ _) 1) (hb3 _ h3)).trans x4)))⟩
        case measure => simp [intOf]; omega
      · simp only at k0 z0 z1 z2
        subst k0
        clear z0
        have hba : Below wr.heap.size wr (wr.alloc (.cells #[.string kx, .int .i64 2, .string tx, .int .i64 nx] 56)) := (Below.refl _ _).alloc (Nat.le_refl _) _
        have hCa := Fch.ofBelow (Ts := FTs) (ms := [c.m1, c.m2]) hba hW.base
        have hWa := hW.below hba
        have hBx := heap_alloc_new wr (.cells #[.string kx, .int .i64 2, .string tx, .int .i64 nx] 56)
        have HE : Hid (iterE (fun _ => attrE1) [] (X.take (k + 1)) st1 = valueE 2 tx nx (nameE kx (iterE (fun _ => attrE1) [] (X.take k) st1))) := st2
        have M := fName_any c _ (n + 10 + 23 * k) kx _ hWa r1 (by omega)
        generalize nameE kx (iterE (fun _ => attrE1) [] (X.take k) st1) = st3 at M HE
        have S := fun w' (h : FW c w' st3 (n + 10 + 23 * k + 11)) => fSmall_any c st3 (n + 10 + 23 * k + 11) 2 (by omega) (by omega) w' h (by omega)
        have bx0 := blk_cell hBx 0 rfl
        clear st2 hW
        have V := fun w' (h : FW c w' (putE [2] st3) (n + 10 + 23 * k + 11 + 1)) => fSmall_any c _ (n + 10 + 23 * k + 11 + 1) nx z1 (by omega) w' h (by omega)
        have HV : Hid (valueE 2 tx nx st3 = putE [nx] (putE [2] st3)) := by unfold valueE; rw [if_neg (by omega), if_neg (by omega)]; rfl
        generalize putE [nx] (putE [2] st3) = st5 at V HV
        generalize putE [2] st3 = st4 at S V
        go_wp2_with (first
          | (go_at_call 51; refine M.mono ?_; clear M; rintro e w2 ⟨rfl, h2, x2⟩; have B2 := x2.other _ _ _ _ hBx (by decide); have e21 := blk_cell B2 1 rfl)
          | (go_at_call 52; refine (S _ h2).mono ?_; clear S; rintro e w3 ⟨rfl, h3, x3⟩; have B3 := x3.other _ _ _ _ B2 (by decide); have e31 := blk_cell B3 1 rfl; have e33 := blk_cell B3 3 rfl)
          | (go_at_call 52; refine (V _ h3).mono ?_; clear V; rintro e w4 ⟨rfl, h4, x4⟩))
        go_roundw
        case rel => exact ⟨k + 1, by go_num, by omega, by rw [HE.out, HV.out]; exact h4.more (by omega), (hC.trans hCa).trans (x2.trans (x3.trans x4))⟩
        case measure => simp [intOf]; omega
    · obtain rfl : k = N := by omega
      have HW : Hid (FW c wr (iterE (fun _ => attrE1) [] X st1) (n + 10 + 1000)) := by
        rw [List.take_of_length_le (by omega)] at hW
        exact hW.more (by omega)
      clear hX hW
      go_wp2
      go_end0
      exact ⟨rfl, HW.out, hC⟩
end Go.Proofs.YthcghpbkadlliabGreatDoor
