/-
  FrameParts: the walk.
-/
import Derived.Test.YthnfpapaknejnaaSh2
namespace Go.Proofs.Ythnfpapaknejnaa
open Go.RowKit
set_option maxRecDepth 100000

/-- A list without bytes, just made. -/
theorem own_fresh (w : World) (base : Nat) (hb : base ≤ w.heap.size) : (w.alloc (.cells #[] 5)).ownsRow base 5 1 (.slice (some ⟨w.heap.size, 0, none⟩) 0 0) 0 [] := by
  have h : RowAt (w.alloc (.cells #[] 5)) w.heap.size [] := heap_alloc_new w _
  have := h.own base hb (by simp)
  simpa using this
/-- Midway: a row of one's own above what was there. -/
structure Ow (w : World) (wk : World) (v : Value) (L : List Int) : Prop where
  below : Below w.heap.size w wk
  own : wk.ownsRow w.heap.size 5 1 v L.length (L.map (Value.int .u8))
theorem Ow.fresh {w wk : World} (hb : Below w.heap.size w wk) : Ow w (wk.alloc (.cells #[] 5)) (.slice (some ⟨wk.heap.size, 0, none⟩) 0 0) [] :=
  ⟨hb.alloc hb.size _, own_fresh wk _ hb.size⟩
theorem Ow.grown {w wk w2 : World} {v v' : Value} {L M : List Int} (h : Ow w wk v L) (ho : w2.ownsRow w.heap.size 5 1 v' (L.length + M.length) (L.map (Value.int .u8) ++ M.map (Value.int .u8))) (hg : wk.grownBy w2 v.ownBlock) : Ow w w2 v' (L ++ M) :=
  ⟨h.below.trans ((grown_upd hg).below h.below.size (fun k hk e => by have := (own_lt h.own e).2; omega)), by simpa using ho⟩

set_option maxHeartbeats 2000000 in
theorem parts_long (ad ae af : Option Addr) (na nb nc ca cb cc : Nat) (w : World) (hbig : 2147483647 < na + nb + nc) :
    Calls Try.prog 8 #[.slice ad na ca, .slice ae nb cb, .slice af nc cc] w fun e w' => e = .returned (.bool true) ∧ Below w.heap.size w w' := by
  by_cases h1 : 2147483647 < na
  · have z1 : (2147483647 : Int) < (na : Int) := by omega
    go_enter Try.func8, Try.ntmps8
    go_wp2_with (go_at_call 9; refine (shown_any _).mono ?_; rintro e w1 ⟨rfl, b1⟩)
    go_ret
    exact ⟨rfl, b1⟩
  · have z1 : ¬ ((2147483647 : Int) < (na : Int)) := by omega
    have z1' : decide ((2147483647 : Int) < (na : Int)) = false := by simpa using z1
    by_cases h2 : 2147483647 - na < nb
    · have z2 : (2147483647 : Int) - (na : Int) < (nb : Int) := by omega
      go_enter Try.func8, Try.ntmps8
      go_wp2_with (go_at_call 9; refine (shown_any _).mono ?_; rintro e w1 ⟨rfl, b1⟩)
      go_ret
      exact ⟨rfl, b1⟩
    · have z2 : ¬ ((2147483647 : Int) - (na : Int) < (nb : Int)) := by omega
      have z2' : decide ((2147483647 : Int) - (na : Int) < (nb : Int)) = false := by simpa using z2
      have z3 : (2147483647 : Int) - (na : Int) - (nb : Int) < (nc : Int) := by omega
      go_enter Try.func8, Try.ntmps8
      go_wp2_with (go_at_call 9; refine (shown_any _).mono ?_; rintro e w1 ⟨rfl, b1⟩)
      go_ret
      exact ⟨rfl, b1⟩

set_option maxHeartbeats 2000000 in
theorem parts_short (ad ae af : Option Addr) (na nb nc ca cb cc : Nat) (K L M : List Int) (w : World) (hK : Holds w ad na K) (hL : Holds w ae nb L) (hM : Holds w af nc M) (bK : ByteL K) (bL : ByteL L) (bM : ByteL M) (hs : na + nb + nc ≤ 2147483647) :
    Calls Try.prog 8 #[.slice ad na ca, .slice ae nb cb, .slice af nc cc] w fun e w' => e = .returned (.bool true) ∧ Below w.heap.size w w' := by
  obtain ⟨i0, hiu, hz0, hz1, hz2⟩ := info_parts Try.info5
  have lK := hK.len
  have lL := hL.len
  have lM := hM.len
  have z1 : ¬ ((2147483647 : Int) < (na : Int)) := by omega
  have z1' : decide ((2147483647 : Int) < (na : Int)) = false := by simpa using z1
  have z2 : ¬ ((2147483647 : Int) - (na : Int) < (nb : Int)) := by omega
  have z2' : decide ((2147483647 : Int) - (na : Int) < (nb : Int)) = false := by simpa using z2
  have z3 : ¬ ((2147483647 : Int) - (na : Int) - (nb : Int) < (nc : Int)) := by omega
  have z3' : decide ((2147483647 : Int) - (na : Int) - (nb : Int) < (nc : Int)) = false := by simpa using z3
  obtain ⟨S, hS⟩ : ∃ S, moreB 0#32 ([] ++ K ++ L ++ M) = S := ⟨_, rfl⟩
  obtain ⟨A, hA⟩ : ∃ A, moreB 0#32 K = A := ⟨_, rfl⟩
  obtain ⟨B, hB⟩ : ∃ B, moreB A L = B := ⟨_, rfl⟩
  have hB2 : moreB B M = S := by rw [← hB, ← hA, ← hS, List.nil_append, moreB_append, moreB_append]
  have hA2 : moreB A ([] ++ L ++ M) = S := by rw [← hA, ← hS, List.nil_append, List.nil_append, List.append_assoc]; exact (moreB_append 0#32 K (L ++ M)).symm
  have hnil : moreB 0#32 [] = 0#32 := moreB_nil _
  have hnil2 : moreB S [] = S := moreB_nil _
  go_enter Try.func8, Try.ntmps8
  go_wp2_with (first
    | (go_at_call 9; refine (shown_any _).mono ?_; rintro e w1 ⟨rfl, b1⟩; have O1 := Ow.fresh b1; have A1 := O1.own)
    | (at_builtin; refine wpList_app _ rfl (.tmp 37) (.tmp 38) 25 25 rfl w.heap.size 5 i0 (.int .u8 0) 1 Try.underlying25 hiu hz0 hz1 hz2 rfl _ _ _ rfl A1 _ na (K.map (Value.int .u8)) rfl ((hK.below O1.below).src ca) ?a1 ?a2 ?a3 ?_))
  case a1 => unfold maxLen; simp; omega
  case a2 => simp; omega
  case a3 => exact O1.below.size
  intro v2 w2 ho hg hm
  have O2 := O1.grown (M := K) (by simpa [lK, lL, lM] using ho) hg
  have A2 := O2.own
  obtain ⟨ao2, l2, c2, rfl⟩ := row_shape A2
  clear ho hg hm A1 O1
  go_wp2_with (at_builtin; refine wpList_app _ rfl (.tmp 39) (.tmp 40) 25 25 rfl w.heap.size 5 i0 (.int .u8 0) 1 Try.underlying25 hiu hz0 hz1 hz2 rfl _ _ _ rfl A2 _ nb (L.map (Value.int .u8)) rfl ((hL.below O2.below).src cb) ?b1 ?b2 ?b3 ?_)
  case b1 => unfold maxLen; simp; omega
  case b2 => simp; omega
  case b3 => exact O2.below.size
  intro v3 w3 ho hg hm
  have O3 := O2.grown (M := L) (by simpa [lK, lL, lM] using ho) hg
  have A3 := O3.own
  obtain ⟨ao3, l3, c3, rfl⟩ := row_shape A3
  clear ho hg hm A2 O2
  go_wp2_with (at_builtin; refine wpList_app _ rfl (.tmp 41) (.tmp 42) 25 25 rfl w.heap.size 5 i0 (.int .u8 0) 1 Try.underlying25 hiu hz0 hz1 hz2 rfl _ _ _ rfl A3 _ nc (M.map (Value.int .u8)) rfl ((hM.below O3.below).src cc) ?c1 ?c2 ?c3 ?_)
  case c1 => unfold maxLen; simp; omega
  case c2 => simp; omega
  case c3 => exact O3.below.size
  intro v4 w4 ho hg hm
  have O4 := O3.grown (M := M) (by simpa [lK, lL, lM] using ho) hg
  have A4 := O4.own
  obtain ⟨ao4, l4, c4, rfl⟩ := row_shape A4
  have H4 := Holds.ofRow A4
  clear ho hg hm A3 O3
  have SU := frameSum_any ao4 l4 c4 _ w4 H4 (((byteL_nil.append bK).append bL).append bM) (by rw [(own_cap A4).1]; simp; omega)
  rw [hS] at SU
  go_wp2_with (first
    | (go_at_call 24; refine SU.mono ?_; rintro e w5 ⟨rfl, b5⟩; have B5 := O4.below.trans (b5.mono O4.below.size); have SA := frameSum_any ad na ca K w5 (hK.below B5) bK (by omega); rw [hA] at SA; clear SU b5)
    | (go_at_call 24; refine SA.mono ?_; rintro e w6 ⟨rfl, b6⟩; have B6 := B5.trans (b6.mono B5.size); have MB := frameMore_any A ae nb cb L w6 (hL.below B6) bL (by omega); rw [hB] at MB; clear SA b6)
    | (go_at_call 25; refine MB.mono ?_; rintro e w7 ⟨rfl, b7⟩; have B7 := B6.trans (b7.mono B6.size); have MC := frameMore_any B af nc cc M w7 (hM.below B7) bM (by omega); rw [hB2] at MC; clear MB b7)
    | (go_at_call 25; refine MC.mono ?_; rintro e w8 ⟨rfl, b8⟩; have B8 := B7.trans (b8.mono B7.size); have SA2 := frameSum_any ad na ca K w8 (hK.below B8) bK (by omega); rw [hA] at SA2; clear MC b8)
    | (go_at_call 24; refine SA2.mono ?_; rintro e w9 ⟨rfl, b9⟩; have B9 := B8.trans (b9.mono B8.size); have O5 := Ow.fresh B9; have A5 := O5.own; clear SA2 b9)
    | (at_builtin; refine wpList_app _ rfl (.tmp 55) (.tmp 56) 25 25 rfl w.heap.size 5 i0 (.int .u8 0) 1 Try.underlying25 hiu hz0 hz1 hz2 rfl _ _ _ rfl A5 _ nb (L.map (Value.int .u8)) rfl ((hL.below O5.below).src cb) ?d1 ?d2 ?d3 ?_))
  case d1 => unfold maxLen; simp; omega
  case d2 => simp; omega
  case d3 => exact O5.below.size
  intro v6 w10 ho hg hm
  have O6 := O5.grown (M := L) (by simpa [lK, lL, lM] using ho) hg
  have A6 := O6.own
  obtain ⟨ao6, l6, c6, rfl⟩ := row_shape A6
  clear ho hg hm A5 O5
  go_wp2_with (at_builtin; refine wpList_app _ rfl (.tmp 57) (.tmp 58) 25 25 rfl w.heap.size 5 i0 (.int .u8 0) 1 Try.underlying25 hiu hz0 hz1 hz2 rfl _ _ _ rfl A6 _ nc (M.map (Value.int .u8)) rfl ((hM.below O6.below).src cc) ?e1 ?e2 ?e3 ?_)
  case e1 => unfold maxLen; simp; omega
  case e2 => simp; omega
  case e3 => exact O6.below.size
  intro v7 w11 ho hg hm
  have O7 := O6.grown (M := M) (by simpa [lK, lL, lM] using ho) hg
  have A7 := O7.own
  obtain ⟨ao7, l7, c7, rfl⟩ := row_shape A7
  have H7 := Holds.ofRow A7
  clear ho hg hm A6 O6
  have MD := frameMore_any A ao7 l7 c7 _ w11 H7 ((byteL_nil.append bL).append bM) (by rw [(own_cap A7).1]; simp; omega)
  rw [hA2] at MD
  have SN := fun (ww : World) => frameSum_any none 0 0 [] ww (Holds.nil ww) byteL_nil (by omega)
  have MN := fun (ww : World) => frameMore_any S none 0 0 [] ww (Holds.nil ww) byteL_nil (by omega)
  simp only [hnil] at SN
  simp only [hnil2] at MN
  clear hS hA hB hB2 hA2 hnil hnil2
  go_wp2_with (first
    | (go_at_call 25; refine MD.mono ?_; rintro e w12 ⟨rfl, b12⟩; have B12 := O7.below.trans (b12.mono O7.below.size); clear MD b12)
    | (go_at_call 24; refine (SN _).mono ?_; rintro e w13 ⟨rfl, b13⟩; have B13 := B12.trans (b13.mono B12.size); clear b13)
    | (go_at_call 25; refine (MN _).mono ?_; rintro e w14 ⟨rfl, b14⟩; have B14 := B13.trans (b14.mono B13.size); clear b14))
  go_ret
  exact ⟨rfl, B14⟩
end Go.Proofs.Ythnfpapaknejnaa
