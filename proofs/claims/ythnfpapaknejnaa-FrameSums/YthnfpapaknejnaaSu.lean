/-
  FrameSums: the walk.
-/
import Derived.Test.YthnfpapaknejnaaBc
import Derived.Test.YthnfpapaknejnaaRg
namespace Go.Proofs.Ythnfpapaknejnaa
open Go.RowKit
set_option maxRecDepth 100000

theorem RowAt.front {w : World} {g : Nat} {L : List Int} (h : RowAt w g L) (n : Nat) (hn : n ≤ L.length) : Holds w (some ⟨g, 0, none⟩) n (L.take n) := by
  have := h.holds.sub 0 n (by omega)
  simpa using this
theorem RowAt.below {w w' : World} {g : Nat} {L : List Int} (h : RowAt w g L) (hb : Below w.heap.size w w') : RowAt w' g L := h.upd (Upd.ofBelow (S := fun _ => False) hb (fun k hk hk' => by omega)) (fun h => h)
theorem lentL_front (K : List Int) : (lentL K).take K.length = K := by unfold lentL; exact List.take_left

set_option maxHeartbeats 1000000 in
theorem summed_any (ad : Option Addr) (n cap : Nat) (K : List Int) (s : BitVec 32) (w : World) (h : Holds w ad n K) (hK : ByteL K) (hn : n ≤ 140737488351232) :
    Calls Try.prog 11 #[.slice ad n cap, .int .u32 (s.toNat : Int)] w fun e w' => e = .returned (.bool true) ∧ Below w.heap.size w w' := by
  obtain ⟨i0, hi, hz0, hz1, hz2⟩ := info_parts Try.info5
  have hl := h.len
  obtain ⟨A, hA⟩ : ∃ A, moreB 0#32 K = A := ⟨_, rfl⟩
  obtain ⟨B, hB⟩ : ∃ B, moreB s K = B := ⟨_, rfl⟩
  have L1 := lent_any ad n cap K w h hn
  have SU := fun (ww : World) (hh : Holds ww (some ⟨w.heap.size, 0, none⟩) n K) => frameSum_any _ n (n + 40) K ww hh hK (by omega)
  have MO := fun (ww : World) (hh : Holds ww (some ⟨w.heap.size, 0, none⟩) n K) => frameMore_any s _ n (n + 40) K ww hh hK (by omega)
  have RS := fun (ww : World) (hh : Holds ww ad n K) => refSum_any ad n cap K ww hh hK (by omega)
  have RM := fun (ww : World) (hh : Holds ww ad n K) => refMore_any s ad n cap K ww hh hK (by omega)
  simp only [hA] at SU RS
  simp only [hB] at MO RM
  clear hA hB
  go_enter Try.func11, Try.ntmps11
  go_wp2_with (go_at_call 12; refine L1.mono ?_; rintro e w1 ⟨rfl, hR1, b1⟩)
  go_loopw [6] (fun a wr => ∃ j : Nat, a = .int .i64 j ∧ j ≤ 2 ∧ RowAt wr w.heap.size (lentL K) ∧ Below w.heap.size w wr) (fun a _ => 2 - (intOf a).toNat)
  case atStart => exact ⟨0, rfl, by omega, hR1, b1⟩
  case round =>
    obtain ⟨j, rfl, hj, hR, hB⟩ := hrel
    have hlt := lt_of_block hR
    by_cases hjl : j < 2
    · have hz : (j : Int) < 2 := by omega
      have hF := hR.front n (by rw [lentL_len]; omega)
      rw [← hl, lentL_front, hl] at hF
      have s1 := SU wr hF
      go_wp2_with (first
        | (go_at_call 24; refine s1.mono ?_; rintro e w2 ⟨rfl, b2⟩; have s2 := MO w2 (hF.below b2); have z2 := b2.size)
        | (go_at_call 25; refine s2.mono ?_; rintro e w3 ⟨rfl, b3⟩; have b23 := b2.trans (b3.mono z2); have hB3 := hB.trans (b23.mono (by omega)); have s3 := RS w3 (h.below hB3); have s4 := RM w3 (h.below hB3))
        | (go_at_call 26; refine s3.mono ?_; rintro e w' ⟨rfl, hw⟩; obtain rfl := hw.symm)
        | (go_at_call 27; refine s4.mono ?_; rintro e w' ⟨rfl, hw⟩; obtain rfl := hw.symm))
      go_roundw
      case rel => exact ⟨j + 1, by go_num, by omega, hR.below b23, hB3⟩
      case measure => simp [intOf]; omega
    · obtain rfl : j = 2 := by omega
      have BK := back_any w.heap.size n ad cap K w wr h hB (Nat.le_refl _) hR hn
      obtain ⟨M, hM⟩ : ∃ M, (overL (lentL K) (n + 40)).take n = M := ⟨_, rfl⟩
      have hMb : ByteL M := by rw [← hM]; exact (overL_bytes _ (lentL_bytes K hK) _).take n
      have hMl : M.length = n := by rw [← hM, List.length_take, overL_len, lentL_len]; omega
      obtain ⟨A2, hA2⟩ : ∃ A, moreB 0#32 ([] ++ M) = A := ⟨_, rfl⟩
      obtain ⟨B2, hB2⟩ : ∃ B, moreB s ([] ++ M) = B := ⟨_, rfl⟩
      have SU2 := fun (ww : World) (hh : Holds ww (some ⟨w.heap.size, 0, none⟩) n ([] ++ M)) => frameSum_any _ n (n + 40) ([] ++ M) ww hh (by rw [List.nil_append]; exact hMb) (by omega)
      have MO2 := fun (ww : World) (hh : Holds ww (some ⟨w.heap.size, 0, none⟩) n ([] ++ M)) => frameMore_any s _ n (n + 40) ([] ++ M) ww hh (by rw [List.nil_append]; exact hMb) (by omega)
      have RS2 := fun (ww : World) (ao : Option Addr) (l c : Nat) (hh : Holds ww ao l ([] ++ M)) => refSum_any ao l c ([] ++ M) ww hh (by rw [List.nil_append]; exact hMb) (by have := hh.len; simp at this; omega)
      have RM2 := fun (ww : World) (ao : Option Addr) (l c : Nat) (hh : Holds ww ao l ([] ++ M)) => refMore_any s ao l c ([] ++ M) ww hh (by rw [List.nil_append]; exact hMb) (by have := hh.len; simp at this; omega)
      simp only [hA2] at SU2 RS2
      simp only [hB2] at MO2 RM2
      clear hA2 hB2 SU MO RS RM L1
      go_wp2_with (first
        | (go_at_call 15; refine BK.mono ?_; rintro e w4 ⟨rfl, hR4, u4⟩; have hF4 := hR4.front n (by rw [overL_len, lentL_len]; omega); rw [hM] at hF4; have B4 : Below w.heap.size w w4 := hB.trans (u4.below (by omega) (fun k hk e => by omega)); have O1 := Ow.fresh B4; have A1 := O1.own; have hF5 := hF4.alloc (.cells #[] 5); clear u4 BK)
        | (at_builtin; refine wpList_app _ rfl (.tmp 38) (.tmp 39) 25 25 rfl w.heap.size 5 i0 (.int .u8 0) 1 Try.underlying25 hi hz0 hz1 hz2 rfl _ _ _ rfl A1 _ n (M.map (Value.int .u8)) rfl (hF5.src (n + 40)) ?a1 ?a2 ?a3 ?_))
      case a1 => unfold maxLen; simp; omega
      case a2 => simp; omega
      case a3 => exact O1.below.size
      intro v6 w6 ho hg hm
      have O2 := O1.grown (M := M) (by simpa [hMl] using ho) hg
      have A2' := O2.own
      have hF6 : Holds w6 (some ⟨w.heap.size, 0, none⟩) n ([] ++ M) := by
        rw [List.nil_append]
        refine hF5.upd (grown_upd hg) (fun a ha e => ?_)
        simp at ha
        rw [← ha] at e
        simp [Value.ownBlock] at e
        have := lt_of_block hR4
        omega
      obtain ⟨ao6, l6, c6, rfl⟩ := row_shape A2'
      have H6 := Holds.ofRow A2'
      have B6 := O2.below
      have t1 := MO2 w6 hF6
      clear ho hg hm A1 O1 hF5 hF4 A2' O2
      go_wp2_with (first
        | (go_at_call 25; refine t1.mono ?_; rintro e w7 ⟨rfl, b7⟩; have t2 := SU2 w7 (hF6.below b7); have H7 := H6.below b7; have B7 := B6.trans (b7.mono B6.size); clear t1)
        | (go_at_call 24; refine t2.mono ?_; rintro e w8 ⟨rfl, b8⟩; have H8 := H7.below b8; have t3 := RS2 w8 ao6 l6 c6 H8; have t4 := RM2 w8 ao6 l6 c6 H8; have B8 := B7.trans (b8.mono B7.size); clear t2)
        | (go_at_call 26; refine t3.mono ?_; rintro e w' ⟨rfl, hw⟩; obtain rfl := hw.symm)
        | (go_at_call 27; refine t4.mono ?_; rintro e w' ⟨rfl, hw⟩; obtain rfl := hw.symm))
      go_ret
      exact ⟨rfl, B8⟩

theorem sums_any (ad ae : Option Addr) (n m cap cap' : Nat) (K M : List Int) (s : BitVec 32) (w : World) (h : Holds w ad n K) (h' : Holds w ae m M) (hK : ByteL K) (hM : ByteL M) (hn : n ≤ 140737488351232) (hm : m ≤ 140737488351232) :
    Calls Try.prog 4 #[.slice ad n cap, .slice ae m cap', .int .u32 (s.toNat : Int)] w fun e w' => e = .returned (.bool true) ∧ Below w.heap.size w w' := by
  go_enter Try.func4, Try.ntmps4
  go_wp2_with (first
    | (go_at_call 9; refine (shown_any _).mono ?_; rintro e w1 ⟨rfl, b1⟩; have s1 := summed_any ad n cap K s w1 (h.below b1) hK hn)
    | (go_at_call 11; refine s1.mono ?_; rintro e w2 ⟨rfl, b2⟩; have B2 := b1.trans (b2.mono b1.size); have s2 := summed_any ae m cap' M s w2 (h'.below B2) hM hm; clear s1)
    | (go_at_call 11; refine s2.mono ?_; rintro e w3 ⟨rfl, b3⟩; have B3 := B2.trans (b3.mono B2.size); have s3 := summed_any ad n cap K s w3 (h.below B3) hK hn; clear s2)
    | (go_at_call 11; refine s3.mono ?_; rintro e w4 ⟨rfl, b4⟩; have B4 := B3.trans (b4.mono B3.size); clear s3))
  go_ret
  exact ⟨rfl, B4⟩
end Go.Proofs.Ythnfpapaknejnaa
