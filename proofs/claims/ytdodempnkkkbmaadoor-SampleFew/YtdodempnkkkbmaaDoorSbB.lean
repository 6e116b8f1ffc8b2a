/-
  SbB.
-/
import Derived.Test.YtdodempnkkkbmaaDoorSaYq
namespace Go.Proofs.YtdodempnkkkbmaaDoor
open Go Go.RowKit
set_option maxRecDepth 100000

theorem cmpF_lt (a b : Tr) : decide (cmpF a b < 0) = if mixT a = mixT b then (if bvI a.1 = bvI b.1 then decide (bvI a.2 < bvI b.2) else decide (bvI a.1 < bvI b.1)) else decide (mixT a < mixT b) := by
  unfold cmpF orI cmpI
  by_cases h1 : mixT a = mixT b
  · rw [if_pos h1]
    by_cases h2 : bvI a.1 = bvI b.1
    · rw [if_pos h2]
      simp only [h1, h2, Int.lt_irrefl, if_false, if_true]
      by_cases h3 : bvI a.2 < bvI b.2
      · simp [h3]
      · simp only [h3, if_false]
        split <;> simp
    · rw [if_neg h2]
      simp only [h1, Int.lt_irrefl, if_false, if_true]
      by_cases h3 : bvI a.1 < bvI b.1
      · simp [h3]
      · have h4 : bvI b.1 < bvI a.1 := by omega
        simp [h3, h4]
  · rw [if_neg h1]
    by_cases h3 : mixT a < mixT b
    · simp [h3]
    · have h4 : mixT b < mixT a := by omega
      simp [h3, h4]
set_option maxHeartbeats 2000000 in
theorem rLess_any (a b : Tr) (w : World) :
    Calls Tryd.prog 20 #[.agg #[.int .u64 (bvI a.1), .int .u64 (bvI a.2)], .agg #[.int .u64 (bvI b.1), .int .u64 (bvI b.2)]] w fun e w' => e = .returned (.bool (decide (cmpF a b < 0))) ∧ Below w.heap.size w w' := by
  have MA : Hid (∀ W, Calls Tryd.prog 33 #[.agg #[.int .u64 (bvI a.1), .int .u64 (bvI a.2)]] W fun e w' => e = .returned (.int .u64 (mixT a)) ∧ Below W.heap.size W w') := fun W => rMix_any a.1 a.2 W
  have MB : Hid (∀ W, Calls Tryd.prog 33 #[.agg #[.int .u64 (bvI b.1), .int .u64 (bvI b.2)]] W fun e w' => e = .returned (.int .u64 (mixT b)) ∧ Below W.heap.size W w') := fun W => rMix_any b.1 b.2 W
  have HR : Hid (decide (cmpF a b < 0) = if mixT a = mixT b then (if bvI a.1 = bvI b.1 then decide (bvI a.2 < bvI b.2) else decide (bvI a.1 < bvI b.1)) else decide (mixT a < mixT b)) := cmpF_lt a b
  generalize decide (cmpF a b < 0) = r at *
  generalize mixT a = ma at *
  generalize mixT b = mb at *
  generalize bvI a.1 = x at *
  generalize bvI a.2 = y at *
  generalize bvI b.1 = u at *
  generalize bvI b.2 = v at *
  have HW : Hid (Below w.heap.size w ((w.alloc (.cells #[.int .u64 x, .int .u64 y] 32)).alloc (.cells #[.int .u64 u, .int .u64 v] 32)) ∧ Blk ((w.alloc (.cells #[.int .u64 x, .int .u64 y] 32)).alloc (.cells #[.int .u64 u, .int .u64 v] 32)) w.heap.size #[.int .u64 x, .int .u64 y] 32 ∧ Blk ((w.alloc (.cells #[.int .u64 x, .int .u64 y] 32)).alloc (.cells #[.int .u64 u, .int .u64 v] 32)) (w.heap.size + 1) #[.int .u64 u, .int .u64 v] 32) := ⟨belowAllocs (Below.refl _ _) (Nat.le_refl _) _ _, (Blk.new _ _ _).alloc _, Blk.new2 _ _ _ _⟩
  go_enter Tryd.func20, Tryd.ntmps20
  go_upto_region 3 with (first
    | (go_at_call 33; (with_reducible refine (MA.out _).mono ?_); clear MA; rintro e w1 ⟨rfl, hb1⟩; have K1 : Hid (Below w.heap.size w w1 ∧ Blk w1 w.heap.size #[.int .u64 x, .int .u64 y] 32 ∧ Blk w1 (w.heap.size + 1) #[.int .u64 u, .int .u64 v] 32) := ⟨HW.out.1.trans (hb1.mono HW.out.1.size), HW.out.2.1.below hb1 HW.out.2.1.lt, HW.out.2.2.below hb1 HW.out.2.2.lt⟩; have d0 := K1.out.2.2.cell 0 rfl; have d1 := K1.out.2.2.cell 1 rfl; clear hb1 HW)
    | (go_at_call 33; (with_reducible refine (MB.out _).mono ?_); clear MB; rintro e w2 ⟨rfl, hb2⟩; have K2 : Hid (Below w.heap.size w w2 ∧ Blk w2 w.heap.size #[.int .u64 x, .int .u64 y] 32 ∧ Blk w2 (w.heap.size + 1) #[.int .u64 u, .int .u64 v] 32) := ⟨K1.out.1.trans (hb2.mono K1.out.1.size), K1.out.2.1.below hb2 K1.out.2.1.lt, K1.out.2.2.below hb2 K1.out.2.2.lt⟩; clear hb2 K1 d0 d1))
  have c0 := K2.out.2.1.cell 0 rfl
  have c1 := K2.out.2.1.cell 1 rfl
  have d0 := K2.out.2.2.cell 0 rfl
  have d1 := K2.out.2.2.cell 1 rfl
  by_cases h1 : ma = mb
  · by_cases h2 : x = u
    · have e : Hid (r = decide (y < v)) := by rw [HR.out, if_pos h1, if_pos h2]; exact rfl
      subst h1 h2
      go_wp2
      go_ret
      refine ⟨congrArg (fun z => Ending.returned (.bool z)) (?_ : decide (y < v) = r), K2.out.1⟩
      exact e.out.symm
    · have e : Hid (r = decide (x < u)) := by rw [HR.out, if_pos h1, if_neg h2]; exact rfl
      have n2 : (x != u) = true := by simp [h2]
      subst h1
      go_wp2
      go_ret
      refine ⟨congrArg (fun z => Ending.returned (.bool z)) (?_ : decide (x < u) = r), K2.out.1⟩
      exact e.out.symm
  · have e : Hid (r = decide (ma < mb)) := by rw [HR.out, if_neg h1]; exact rfl
    have n1 : (ma != mb) = true := by simp [h1]
    go_wp2
    go_ret
    refine ⟨congrArg (fun z => Ending.returned (.bool z)) (?_ : decide (ma < mb) = r), K2.out.1⟩
    exact e.out.symm
theorem newF_any (most : Nat) (hm : 2 ≤ most ∧ most ≤ 1000) (w : World) :
    Calls Tryd.prog 5 #[.int .i64 most] w fun e w' => e = .returned (.tuple #[.pointer (some ⟨w.heap.size, 0, none⟩), .int .i64 0]) ∧ FewAt w' w.heap.size (w.heap.size + 1) most [] ∧ Below w.heap.size w w' := by
  have h1 : (2 : Int) ≤ (most : Int) := by omega
  have h2 : (most : Int) ≤ 1000 := by omega
  have BB : Hid (Below w.heap.size w (w.alloc (.cells #[.int .i64 most, .slice none 0 0] 60)) ∧ FewAt (w.alloc (.cells #[.int .i64 most, .slice none 0 0] 60)) w.heap.size (w.heap.size + 1) most []) := ⟨(Below.refl _ _).alloc (Nat.le_refl _) _, ⟨⟨none, 0, Blk.new _ _ _, World.ownsRow_nil _ _ 32 2⟩, fun i j hi => absurd hi (by simp), Nat.zero_le _, hm, by rw [World.size_alloc]; omega⟩⟩
  go_enter Tryd.func5, Tryd.ntmps5
  go_wp2
  go_ret2
  exact ⟨rfl, BB.out.2, BB.out.1⟩
theorem newBad_any (most : Int) (hm : most < 2 ∨ 1000 < most) (w : World) :
    Calls Tryd.prog 5 #[.int .i64 most] w fun e w' => e = .returned (.tuple #[.pointer none, .int .i64 1]) ∧ Below w.heap.size w w' := by
  have BB : Hid (Below w.heap.size w w) := Below.refl _ _
  rcases hm with h | h
  · go_enter Tryd.func5, Tryd.ntmps5
    go_wp2
    go_ret2
    exact ⟨rfl, BB.out⟩
  · have h2 : ¬ most < 2 := by omega
    go_enter Tryd.func5, Tryd.ntmps5
    go_wp2
    go_ret2
    exact ⟨rfl, BB.out⟩
theorem run_neqTr (a b : Tr) (W : World) : (binOp .neq 32 (.agg #[.int .u64 (bvI a.1), .int .u64 (bvI a.2)]) (.agg #[.int .u64 (bvI b.1), .int .u64 (bvI b.2)])).run Tryd.prog W = .ok (.bool (!decide (a = b))) W := by
  have h := run_neqT (eqI_trace 9998 (bvI a.1) (bvI a.2) (bvI b.1) (bvI b.2) W)
  rw [h]
  congr 3
  by_cases e : a = b
  · subst e; simp
  · have : ¬ (bvI a.1 = bvI b.1 ∧ bvI a.2 = bvI b.2) := fun ⟨h1, h2⟩ => e (Prod.ext (bvI_inj h1) (bvI_inj h2))
    simp [e, this]
set_option maxHeartbeats 2000000 in
theorem sameT_any (aa ba : Option Addr) (n m ca cb : Nat) (A B : List Tr) (w : World) (hA : TrAt w aa A) (hB : TrAt w ba B) (la : A.length = n) (lb : B.length = m) (hn : n ≤ 1000) (hm : m ≤ 1000) :
    Calls Tryd.prog 9 #[.slice aa n ca, .slice ba m cb] w fun e w' => e = .returned (.bool (decide (A = B))) ∧ Below w.heap.size w w' := by
  have B0 : Hid (Below w.heap.size w w) := Below.refl _ _
  have hni : (n : Int) ≤ 1000 := by omega
  go_enter Tryd.func9, Tryd.ntmps9
  by_cases hl : n = m
  · subst hl
    have HH : Hid (TrAt w aa A ∧ TrAt w ba B) := ⟨hA, hB⟩
    clear hA hB
    go_wp2
    go_loopw [5] (fun z wr => ∃ i : Nat, z = .int .i64 i ∧ i ≤ n ∧ Hid (A.take i = B.take i ∧ Below w.heap.size w wr)) (fun z _ => n - (intOf z).toNat)
    case atStart => exact ⟨0, rfl, by omega, by simp, B0.out⟩
    case round =>
      obtain ⟨i, rfl, hin, HI⟩ := hrel
      by_cases hlt : i < n
      · have hlt' : (i : Int) < (n : Int) := by omega
        have hiA : i < A.length := by omega
        have hiB : i < B.length := by omega
        obtain ⟨ga, rfl, _, hca⟩ := (HH.out.1.below HI.out.2) (by omega)
        obtain ⟨gb, rfl, _, hcb⟩ := (HH.out.2.below HI.out.2) (by omega)
        have ha := hca i hiA
        have hb := hcb i hiB
        have hq := run_neqTr A[i] B[i]
        obtain ⟨x, hx⟩ : ∃ x, A[i] = x := ⟨_, rfl⟩
        obtain ⟨y, hy⟩ : ∃ y, B[i] = y := ⟨_, rfl⟩
        rw [hx] at ha hq
        rw [hy] at hb hq
        have a0 := ha.1
        have a1 := ha.2
        have b0 := hb.1
        have b1 := hb.2
        have hgd := guard_trace
        have HX : Hid (∃ (h1 : i < A.length) (h2 : i < B.length), A[i] = x ∧ B[i] = y) := ⟨hiA, hiB, hx, hy⟩
        have HN : Hid (∀ q, Below w.heap.size w (wr.drewN q)) := fun q => ⟨HI.out.2.os, HI.out.2.tape, HI.out.2.output, HI.out.2.size, HI.out.2.block⟩
        clear ha hb hca hcb hx hy
        by_cases he : x = y
        · have HT : Hid (A.take (i + 1) = B.take (i + 1)) := by
            obtain ⟨h1, h2, h3, h4⟩ := HX.out
            show A.take (i + 1) = B.take (i + 1)
            rw [List.take_add_one, List.take_add_one, HI.out.1, List.getElem?_eq_getElem h1, List.getElem?_eq_getElem h2, h3, h4, he]
          have hd : decide (x = y) = true := by simp [he]
          rw [hd] at hq
          clear HI HX he hd
          go_upto_region 6 with fail
          go_quiet (fail)
          go_wp2
          go_roundw
          case rel => exact ⟨i + 1, by go_num, by omega, HT.out, HN.out _⟩
          case measure => (simp [intOf]; omega)
        · have HE : Hid (decide (A = B) = false) := decide_eq_false (fun e => he (by
            obtain ⟨h1, h2, h3, h4⟩ := HX.out
            subst e
            rw [← h3, ← h4]))
          have hd : decide (x = y) = false := by simp [he]
          rw [hd] at hq
          clear HI HX he hd
          go_upto_region 6 with fail
          go_quiet (fail)
          go_wp2
          go_ret
          rw [HE.out]
          exact ⟨rfl, HN.out _⟩
      · obtain rfl : n = i := by omega
        have HE : Hid (decide (A = B) = true) := decide_eq_true (by
          have := HI.out.1
          rwa [List.take_of_length_le (by omega), List.take_of_length_le (by omega)] at this)
        have HW : Hid (Below w.heap.size w wr) := HI.out.2
        clear HI HH
        go_wp2
        go_ret
        rw [HE.out]
        exact ⟨rfl, HW.out⟩
  · have e1 : ((n : Int) != (m : Int)) = true := by simp; omega
    have HE : Hid (decide (A = B) = false) := decide_eq_false (fun e => hl (by rw [← la, ← lb, e]))
    clear hA hB
    go_wp2
    go_ret
    rw [HE.out]
    exact ⟨rfl, B0.out⟩
end Go.Proofs.YtdodempnkkkbmaaDoor
