/-
  Merged: SbB, SbC.
-/
import Derived.Test.YtpcfchbiohbcoaaDoorSaYq
namespace Go.Proofs.YtpcfchbiohbcoaaDoor
open Go Go.RowKit
set_option maxRecDepth 100000

theorem cmpF_lt (a b : Tr) : decide (cmpF a b < 0) = if mixT a = mixT b then (if bvI a.1 = bvI b.1 then decide (bvI a.2 < bvI b.2) else decide (bvI a.1 < bvI b.1)) else decide (mixT a < mixT b) := by
  unfold cmpF orI cmpI
  by_cases h1 : mixT a = mixT b
  · rw [if_pos h1]
    by_cases h2 : bvI a.1 = bvI b.1
    · rw [if_pos h2]
      simp only [h1, h2, Int.lt_irrefl, if_false, if_true]
      by_cases h3 : bvI a.2 < bvI b.2
      · simp [h3]
      · simp only [h3, if_false]
        split <;> simp
    · rw [if_neg h2]
      simp only [h1, Int.lt_irrefl, if_false, if_true]
      by_cases h3 : bvI a.1 < bvI b.1
      · simp [h3]
      · have h4 : bvI b.1 < bvI a.1 := by omega
        simp [h3, h4]
  · rw [if_neg h1]
    by_cases h3 : mixT a < mixT b
    · simp [h3]
    · have h4 : mixT b < mixT a := by omega
      simp [h3, h4]
set_option maxHeartbeats 2000000 in
theorem rLess_any (a b : Tr) (w : World) :
    Calls Tryd.prog 35 #[.agg #[.int .u64 (bvI a.1), .int .u64 (bvI a.2)], .agg #[.int .u64 (bvI b.1), .int .u64 (bvI b.2)]] w fun e w' => e = .returned (.bool (decide (cmpF a b < 0))) ∧ Below w.heap.size w w' := by
  have MA : Hid (∀ W, Calls Tryd.prog 24 #[.agg #[.int .u64 (bvI a.1), .int .u64 (bvI a.2)]] W fun e w' => e = .returned (.int .u64 (mixT a)) ∧ Below W.heap.size W w') := fun W => rMix_any a.1 a.2 W
  have MB : Hid (∀ W, Calls Tryd.prog 24 #[.agg #[.int .u64 (bvI b.1), .int .u64 (bvI b.2)]] W fun e w' => e = .returned (.int .u64 (mixT b)) ∧ Below W.heap.size W w') := fun W => rMix_any b.1 b.2 W
  have HR : Hid (decide (cmpF a b < 0) = if mixT a = mixT b then (if bvI a.1 = bvI b.1 then decide (bvI a.2 < bvI b.2) else decide (bvI a.1 < bvI b.1)) else decide (mixT a < mixT b)) := cmpF_lt a b
  generalize decide (cmpF a b < 0) = r at *
  generalize mixT a = ma at *
  generalize mixT b = mb at *
  generalize bvI a.1 = x at *
  generalize bvI a.2 = y at *
  generalize bvI b.1 = u at *
  generalize bvI b.2 = v at *
  have HW : Hid (Below w.heap.size w ((w.alloc (.cells #[.int .u64 x, .int .u64 y] 33)).alloc (.cells #[.int .u64 u, .int .u64 v] 33)) ∧ Blk ((w.alloc (.cells #[.int .u64 x, .int .u64 y] 33)).alloc (.cells #[.int .u64 u, .int .u64 v] 33)) w.heap.size #[.int .u64 x, .int .u64 y] 33 ∧ Blk ((w.alloc (.cells #[.int .u64 x, .int .u64 y] 33)).alloc (.cells #[.int .u64 u, .int .u64 v] 33)) (w.heap.size + 1) #[.int .u64 u, .int .u64 v] 33) := ⟨belowAllocs (Below.refl _ _) (Nat.le_refl _) _ _, (Blk.new _ _ _).alloc _, Blk.new2 _ _ _ _⟩
  go_enter Tryd.func35, Tryd.ntmps35
  go_upto_region 3 with (first
    | (go_at_call 24; (with_reducible refine (MA.out _).mono ?_); clear MA; rintro e w1 ⟨rfl, hb1⟩; have K1 : Hid (Below w.heap.size w w1 ∧ Blk w1 w.heap.size #[.int .u64 x, .int .u64 y] 33 ∧ Blk w1 (w.heap.size + 1) #[.int .u64 u, .int .u64 v] 33) := ⟨HW.out.1.trans (hb1.mono HW.out.1.size), HW.out.2.1.below hb1 HW.out.2.1.lt, HW.out.2.2.below hb1 HW.out.2.2.lt⟩; have d0 := K1.out.2.2.cell 0 rfl; have d1 := K1.out.2.2.cell 1 rfl; clear hb1 HW)
    | (go_at_call 24; (with_reducible refine (MB.out _).mono ?_); clear MB; rintro e w2 ⟨rfl, hb2⟩; have K2 : Hid (Below w.heap.size w w2 ∧ Blk w2 w.heap.size #[.int .u64 x, .int .u64 y] 33 ∧ Blk w2 (w.heap.size + 1) #[.int .u64 u, .int .u64 v] 33) := ⟨K1.out.1.trans (hb2.mono K1.out.1.size), K1.out.2.1.below hb2 K1.out.2.1.lt, K1.out.2.2.below hb2 K1.out.2.2.lt⟩; clear hb2 K1 d0 d1))
  have c0 := K2.out.2.1.cell 0 rfl
  have c1 := K2.out.2.1.cell 1 rfl
  have d0 := K2.out.2.2.cell 0 rfl
  have d1 := K2.out.2.2.cell 1 rfl
  by_cases h1 : ma = mb
  · by_cases h2 : x = u
    · have e : Hid (r = decide (y < v)) := by rw [HR.out, if_pos h1, if_pos h2]; exact rfl
      subst h1 h2
      go_wp2
      go_ret
      refine ⟨congrArg (fun z => Ending.returned (.bool z)) (?_ : decide (y < v) = r), K2.out.1⟩
      exact e.out.symm
    · have e : Hid (r = decide (x < u)) := by rw [HR.out, if_pos h1, if_neg h2]; exact rfl
      have n2 : (x != u) = true := by simp [h2]
      subst h1
      go_wp2
      go_ret
      refine ⟨congrArg (fun z => Ending.returned (.bool z)) (?_ : decide (x < u) = r), K2.out.1⟩
      exact e.out.symm
  · have e : Hid (r = decide (ma < mb)) := by rw [HR.out, if_neg h1]; exact rfl
    have n1 : (ma != mb) = true := by simp [h1]
    go_wp2
    go_ret
    refine ⟨congrArg (fun z => Ending.returned (.bool z)) (?_ : decide (ma < mb) = r), K2.out.1⟩
    exact e.out.symm
theorem newF_any (most : Nat) (hm : 2 ≤ most ∧ most ≤ 1000) (w : World) :
    Calls Tryd.prog 5 #[.int .i64 most] w fun e w' => e = .returned (.tuple #[.pointer (some ⟨w.heap.size, 0, none⟩), .int .i64 0]) ∧ FewAt w' w.heap.size (w.heap.size + 1) most [] ∧ Below w.heap.size w w' := by
  have h1 : (2 : Int) ≤ (most : Int) := by omega
  have h2 : (most : Int) ≤ 1000 := by omega
  have BB : Hid (Below w.heap.size w (w.alloc (.cells #[.int .i64 most, .slice none 0 0] 64)) ∧ FewAt (w.alloc (.cells #[.int .i64 most, .slice none 0 0] 64)) w.heap.size (w.heap.size + 1) most []) := ⟨(Below.refl _ _).alloc (Nat.le_refl _) _, ⟨⟨none, 0, Blk.new _ _ _, World.ownsRow_nil _ _ 33 2⟩, fun i j hi => absurd hi (by simp), Nat.zero_le _, hm, by rw [World.size_alloc]; omega⟩⟩
  go_enter Tryd.func5, Tryd.ntmps5
  go_wp2
  go_ret2
  exact ⟨rfl, BB.out.2, BB.out.1⟩
theorem newBad_any (most : Int) (hm : most < 2 ∨ 1000 < most) (w : World) :
    Calls Tryd.prog 5 #[.int .i64 most] w fun e w' => e = .returned (.tuple #[.pointer none, .int .i64 1]) ∧ Below w.heap.size w w' := by
  have BB : Hid (Below w.heap.size w w) := Below.refl _ _
  rcases hm with h | h
  · go_enter Tryd.func5, Tryd.ntmps5
    go_wp2
    go_ret2
    exact ⟨rfl, BB.out⟩
  · have h2 : ¬ most < 2 := by omega
    go_enter Tryd.func5, Tryd.ntmps5
    go_wp2
    go_ret2
    exact ⟨rfl, BB.out⟩
theorem run_neqTr (a b : Tr) (W : World) : (binOp .neq 33 (.agg #[.int .u64 (bvI a.1), .int .u64 (bvI a.2)]) (.agg #[.int .u64 (bvI b.1), .int .u64 (bvI b.2)])).run Tryd.prog W = .ok (.bool (!decide (a = b))) W := by
  have h := run_neqT (eqI_trace 9998 (bvI a.1) (bvI a.2) (bvI b.1) (bvI b.2) W)
  rw [h]
  congr 3
  by_cases e : a = b
  · subst e; simp
  · have : ¬ (bvI a.1 = bvI b.1 ∧ bvI a.2 = bvI b.2) := fun ⟨h1, h2⟩ => e (Prod.ext (bvI_inj h1) (bvI_inj h2))
    simp [e, this]
set_option maxHeartbeats 2000000 in
theorem sameT_any (aa ba : Option Addr) (n m ca cb : Nat) (A B : List Tr) (w : World) (hA : TrAt w aa A) (hB : TrAt w ba B) (la : A.length = n) (lb : B.length = m) (hn : n ≤ 1000) (hm : m ≤ 1000) :
    Calls Tryd.prog 21 #[.slice aa n ca, .slice ba m cb] w fun e w' => e = .returned (.bool (decide (A = B))) ∧ Below w.heap.size w w' := by
  have B0 : Hid (Below w.heap.size w w) := Below.refl _ _
  have hni : (n : Int) ≤ 1000 := by omega
  go_enter Tryd.func21, Tryd.ntmps21
  by_cases hl : n = m
  · subst hl
    have HH : Hid (TrAt w aa A ∧ TrAt w ba B) := ⟨hA, hB⟩
    clear hA hB
    go_wp2
    go_loopw [5] (fun z wr => ∃ i : Nat, z = .int .i64 i ∧ i ≤ n ∧ Hid (A.take i = B.take i ∧ Below w.heap.size w wr)) (fun z _ => n - (intOf z).toNat)
    case atStart => exact ⟨0, rfl, by omega, by simp, B0.out⟩
    case round =>
      obtain ⟨i, rfl, hin, HI⟩ := hrel
      by_cases hlt : i < n
      · have hlt' : (i : Int) < (n : Int) := by omega
        have hiA : i < A.length := by omega
        have hiB : i < B.length := by omega
        obtain ⟨ga, rfl, _, hca⟩ := (HH.out.1.below HI.out.2) (by omega)
        obtain ⟨gb, rfl, _, hcb⟩ := (HH.out.2.below HI.out.2) (by omega)
        have ha := hca i hiA
        have hb := hcb i hiB
        have hq := run_neqTr A[i] B[i]
        obtain ⟨x, hx⟩ : ∃ x, A[i] = x := ⟨_, rfl⟩
        obtain ⟨y, hy⟩ : ∃ y, B[i] = y := ⟨_, rfl⟩
        rw [hx] at ha hq
        rw [hy] at hb hq
        have a0 := ha.1
        have a1 := ha.2
        have b0 := hb.1
        have b1 := hb.2
        have hgd := guard_trace
        have HX : Hid (∃ (h1 : i < A.length) (h2 : i < B.length), A[i] = x ∧ B[i] = y) := ⟨hiA, hiB, hx, hy⟩
        have HN : Hid (∀ q, Below w.heap.size w (wr.drewN q)) := fun q => ⟨HI.out.2.os, HI.out.2.tape, HI.out.2.output, HI.out.2.size, HI.out.2.block⟩
        clear ha hb hca hcb hx hy
        by_cases he : x = y
        · have HT : Hid (A.take (i + 1) = B.take (i + 1)) := by
            obtain ⟨h1, h2, h3, h4⟩ := HX.out
            show A.take (i + 1) = B.take (i + 1)
            rw [List.take_add_one, List.take_add_one, HI.out.1, List.getElem?_eq_getElem h1, List.getElem?_eq_getElem h2, h3, h4, he]
          have hd : decide (x = y) = true := by simp [he]
          rw [hd] at hq
          clear HI HX he hd
          go_upto_region 6 with fail
          go_quiet (fail)
          go_wp2
          go_roundw
          case rel => exact ⟨i + 1, by go_num, by omega, HT.out, HN.out _⟩
          case measure => (simp [intOf]; omega)
        · have HE : Hid (decide (A = B) = false) := decide_eq_false (fun e => he (by
            obtain ⟨h1, h2, h3, h4⟩ := HX.out
            subst e
            rw [← h3, ← h4]))
          have hd : decide (x = y) = false := by simp [he]
          rw [hd] at hq
          clear HI HX he hd
          go_upto_region 6 with fail
          go_quiet (fail)
          go_wp2
          go_ret
          rw [HE.out]
          exact ⟨rfl, HN.out _⟩
      · obtain rfl : n = i := by omega
        have HE : Hid (decide (A = B) = true) := decide_eq_true (by
          have := HI.out.1
          rwa [List.take_of_length_le (by omega), List.take_of_length_le (by omega)] at this)
        have HW : Hid (Below w.heap.size w wr) := HI.out.2
        clear HI HH
        go_wp2
        go_ret
        rw [HE.out]
        exact ⟨rfl, HW.out⟩
  · have e1 : ((n : Int) != (m : Int)) = true := by simp; omega
    have HE : Hid (decide (A = B) = false) := decide_eq_false (fun e => hl (by rw [← la, ← lb, e]))
    clear hA hB
    go_wp2
    go_ret
    rw [HE.out]
    exact ⟨rfl, B0.out⟩
end Go.Proofs.YtpcfchbiohbcoaaDoor

namespace Go.Proofs.YtpcfchbiohbcoaaDoor
open Go Go.RowKit Go.Lib
set_option maxRecDepth 100000

theorem TrAt.src {w : World} {g : Nat} {T : List Tr} (h : TrAt w (some ⟨g, 0, none⟩) T) (hn : 0 < T.length) (c : Nat) : Src Tryd.prog 2 38 (.slice (some ⟨g, 0, none⟩) T.length c) T.length (T.flatMap trC) w := by
  obtain ⟨b, e, _, hc⟩ := h hn
  injection e with e
  injection e with e _ _
  subst e
  refine Src.ofSlice _ Tryd.underlying38 _ T.length c _ (by rw [trF_len]) ?_ (trF_one T)
  intro j u hj
  have hjl : j < T.length * 2 := by
    rw [← trF_len]
    exact (List.getElem?_eq_some_iff.mp hj).1
  rw [Addr.add_lit, Nat.zero_add]
  have e : j = j / 2 * 2 + j % 2 := by omega
  have hi : j / 2 < T.length := by omega
  have h1 : ((T.flatMap trC).drop (j / 2 * 2))[j % 2]? = (T.flatMap trC)[j]? := by rw [List.getElem?_drop, ← e]
  rw [hj, trF_drop, List.drop_eq_getElem_cons hi, List.flatMap_cons, List.getElem?_append_left (by rw [trC_len]; omega)] at h1
  have h2 := hc (j / 2) hi
  rcases Nat.mod_two_eq_zero_or_one j with h3 | h3
  · rw [h3] at h1 e
    rw [e, Nat.add_zero, h2.1]
    exact h1
  · rw [h3] at h1 e
    rw [e, h2.2]
    exact h1
theorem clone0_any (w : World) : Calls Tryd.prog 36 #[.slice none 0 0] w fun e w' => e = .returned (.slice none 0 0) ∧ Below w.heap.size w w' := by
  have hq := run_eql_slice_nil (P := Tryd.prog) w 38 33 none 0 0 Tryd.underlying38
  have BB : Hid (Below w.heap.size w w) := Below.refl _ _
  go_enter Tryd.func36, Tryd.ntmps36
  go_wp2
  go_ret
  exact ⟨rfl, BB.out⟩
theorem cloneS_any (g n c : Nat) (T : List Tr) (w : World) (hA : TrAt w (some ⟨g, 0, none⟩) T) (hl : T.length = n) (hn2 : n ≤ 1000) : Calls Tryd.prog 36 #[.slice (some ⟨g, 0, none⟩) n c] w fun e w' => ∃ v', e = .returned v' ∧ OwnTr w.heap.size w' v' T ∧ Below w.heap.size w w' := by
  have hq := run_eql_slice_nil (P := Tryd.prog) w 38 33 (some ⟨g, 0, none⟩) n c Tryd.underlying38
  obtain ⟨i0, hi0, hz0, hz1, hz2⟩ := info_parts infoTr
  have b0 : Below w.heap.size w (w.alloc (.cells #[] 33)) := (Below.refl _ _).alloc (Nat.le_refl _) _
  have hS : Src Tryd.prog 2 38 (.slice (some ⟨g, 0, none⟩) n c) n (T.flatMap trC) (w.alloc (.cells #[] 33)) := by
    rcases Nat.eq_zero_or_pos T.length with h | h
    · obtain rfl : T = [] := List.eq_nil_of_length_eq_zero h
      obtain rfl : n = 0 := hl.symm
      exact Src.ofSlice _ Tryd.underlying38 _ 0 c [] rfl (fun j u h => by simp at h) (fun u h => by cases h)
    · have := (hA.below b0).src h c
      rwa [hl] at this
  have h0 : (w.alloc (.cells #[] 33)).ownsRow w.heap.size 33 2 (.slice (some ⟨w.heap.size, 0, none⟩) 0 0) 0 [] := World.ownsRow_lit w #[] 0 (Nat.le_refl _) (by simp [maxLen]) rfl
  have HB : Hid (Below w.heap.size w (w.alloc (.cells #[] 33))) := b0
  clear hA b0
  go_enter Tryd.func36, Tryd.ntmps36
  go_wp2_with (at_builtin; refine wpList_appW (w.alloc (.cells #[] 33)) rfl (.tmp 5) (.tmp 6) 38 38 rfl w.heap.size 33 i0 _ 2 16 Tryd.underlying38 hi0 hz0 hz1 hz2 rfl _ 0 [] rfl h0 _ n (T.flatMap trC) rfl hS (by unfold maxLen; omega) (by omega) (by simp) ?_; intro v1 w1 o1 g1 m1)
  go_ret
  refine ⟨v1, rfl, ?_, HB.out.trans (((Upd.refl (fun k => w.heap.size ≤ k) _).grown g1 (fun k _ e => ?_)).below HB.out.size (fun k h1 h2 => by omega))⟩
  · unfold OwnTr
    rw [hl]
    simpa using o1
  · have : (Value.slice (some ⟨w.heap.size, 0, none⟩) 0 0).ownBlock = some k := e
    simp [Value.ownBlock] at this
    show w.heap.size ≤ k
    omega
theorem tracesF_any (f base most : Nat) (T : List Tr) (w : World) (hF : FewAt w f base most T) :
    Calls Tryd.prog 20 #[.pointer (some ⟨f, 0, none⟩)] w fun e w' => ∃ ao c, e = .returned (.slice ao T.length c) ∧ TrAt w' ao T ∧ Below w.heap.size w w' := by
  obtain ⟨ao, c, hf, hO⟩ := hF.row
  have hlen := hF.len
  have hmost := hF.most
  have CL : Calls Tryd.prog 36 #[.slice ao T.length c] w fun e w' => ∃ ao' c', e = .returned (.slice ao' T.length c') ∧ TrAt w' ao' T ∧ Below w.heap.size w w' := by
    rcases hO.2 with ⟨e, h0⟩ | ⟨g, cap, cur, e, _⟩
    · simp only [Value.slice.injEq] at e
      obtain ⟨rfl, h1, rfl⟩ := e
      rw [h1]
      refine (clone0_any w).mono ?_
      rintro e w' ⟨rfl, hb⟩
      exact ⟨none, 0, rfl, fun hp => absurd hp (by omega), hb⟩
    · simp only [Value.slice.injEq] at e
      obtain ⟨rfl, -, rfl⟩ := e
      refine (cloneS_any g T.length c T w hO.at rfl (by omega)).mono ?_
      rintro e w' ⟨v', rfl, ho, hb⟩
      obtain ⟨ao', c', e'⟩ : ∃ ao' c', v' = .slice ao' T.length c' := by
        rcases ho.2 with ⟨e, h0⟩ | ⟨g, cap, cur, e, _⟩
        · exact ⟨none, 0, by rw [e, h0]⟩
        · exact ⟨_, _, e⟩
      subst e'
      exact ⟨_, _, rfl, ho.at, hb⟩
  have c1 : w.cell? ⟨f, 1, none⟩ = some (.slice ao T.length c) := hf.cell 1 rfl
  clear hF hf hO
  go_enter Tryd.func20, Tryd.ntmps20
  go_wp2_with (go_at_call 36; (with_reducible refine CL.mono ?_); clear CL; rintro e w1 ⟨ao', c', rfl, h1, h2⟩)
  go_ret
  exact ⟨ao', c', rfl, h1, h2⟩
end Go.Proofs.YtpcfchbiohbcoaaDoor
