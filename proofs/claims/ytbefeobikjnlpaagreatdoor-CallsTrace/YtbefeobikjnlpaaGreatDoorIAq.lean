/-
  Merged: IA, IB.
-/
import Derived.Test.YtbefeobikjnlpaaGreatDoorTVq
import Derived.Test.YtbefeobikjnlpaaGreatDoorGMq
import Derived.Test.YtbefeobikjnlpaaGreatDoorQAq
import Derived.Test.YtbefeobikjnlpaaGreatDoorCIq
import Derived.Test.YtbefeobikjnlpaaGreatDoorCKq
import Derived.Test.YtbefeobikjnlpaaGreatDoorDAq
import Derived.BigQuiet
namespace Go.Proofs.YtbefeobikjnlpaaGreatDoor
open Go Go.RowKit
set_option maxRecDepth 100000

/-- A forest that was built of spans, with all that its mathematics ask. -/
structure BuT (X : List Sp) (w : World) (f sb : Nat) (Y : List Sp) (C : List Int) (dp : Nat → Nat) (fin : Nat → Nod) (X' : List Spot) (K : Nat → List Int) (rv : Value) (R : List Int) : Prop where
  at_ : ForestAt w f sb X' K rv R
  fo : FoB Y C dp fin X' K R
  perm : X.Perm Y
  rise : Y.Pairwise (fun a b => a.id < b.id)
  cuts : CutsL (nmOf (zs Y)) Y.length Y.length C
theorem BuT.below {X : List Sp} {w w' : World} {f sb : Nat} {Y : List Sp} {C : List Int} {dp : Nat → Nat} {fin : Nat → Nod} {X' : List Spot} {K : Nat → List Int} {rv : Value} {R : List Int} (h : BuT X w f sb Y C dp fin X' K rv R) (hb : Below w.heap.size w w') : BuT X w' f sb Y C dp fin X' K rv R := ⟨h.at_.below hb, h.fo, h.perm, h.rise, h.cuts⟩
theorem build_one (ad : Option Addr) (n cap : Nat) (X : List Sp) (P : Nat → Pl) (w : World) (hX : SpsAt w ad n X P) (hF : ∀ a ∈ X, a.Fits) (hS : ∀ a ∈ X, a.Small) (hT : Tabs w) (h1 : OneT X) : Calls Tryz.prog 6 #[.slice ad n cap] w fun e w' => ∃ f sb Y C dp fin X' K rv R, e = .returned (.tuple #[.pointer (some ⟨f, 0, none⟩), .int .i64 0]) ∧ Hid (BuT X w' f sb Y C dp fin X' K rv R) ∧ Below w.heap.size w w' := by
  refine (build_total ad n cap X P w hX hF hS hT).mono ?_
  rintro e w' (⟨h1, Y, hp, hr, f, sb, X', K, rv, R, C, dp, fin, rfl, h2, h3, h4, h5, h6⟩ | ⟨h, _⟩)
  · exact ⟨f, sb, Y, C, dp, fin, X', K, rv, R, rfl, ⟨h2, ⟨h5, h4, h2.rise, one_permR h1 hp⟩, hp, hr, h3⟩, h6⟩
  · exact absurd h1 h
theorem build_none (ad : Option Addr) (n cap : Nat) (X : List Sp) (P : Nat → Pl) (w : World) (hX : SpsAt w ad n X P) (hF : ∀ a ∈ X, a.Fits) (hS : ∀ a ∈ X, a.Small) (hT : Tabs w) (h1 : ¬ OneT X) : Calls Tryz.prog 6 #[.slice ad n cap] w fun e w' => e = .returned (.tuple #[.pointer none, .int .i64 101]) ∧ Below w.heap.size w w' := build_no ad n cap X P w hX hF hS hT h1
theorem rBuild_one (ad : Option Addr) (n cap : Nat) (X : List Sp) (P : Nat → Pl) (w : World) (hX : SpsAt w ad n X P) (hF : ∀ a ∈ X, a.Fits) (hS : ∀ a ∈ X, a.Small) (h1 : OneT X) {w0 : World} {f sb : Nat} {Y : List Sp} {C : List Int} {dp : Nat → Nat} {fin : Nat → Nod} {X' : List Spot} {K : Nat → List Int} {rv : Value} {R : List Int} (hB : BuT X w0 f sb Y C dp fin X' K rv R) : Calls Tryz.prog 7 #[.slice ad n cap] w fun e w' => ∃ g, e = .returned (.tuple #[.pointer (some ⟨g, 0, none⟩), .int .i64 0]) ∧ Hid (RFor w' g Y fin) ∧ Below w.heap.size w w' := by
  refine (rBuild_any ad n cap X P w hX hF hS (fun _ => ⟨hB.perm, hB.rise, hB.fo, hB.cuts⟩)).mono ?_
  rintro e w' (⟨g, rfl, h2, h3⟩ | ⟨_, h2, _⟩)
  · exact ⟨g, rfl, h2.out.2, h3⟩
  · exact absurd h1 h2.out
theorem rBuild_none (ad : Option Addr) (n cap : Nat) (X : List Sp) (P : Nat → Pl) (w : World) (hX : SpsAt w ad n X P) (hF : ∀ a ∈ X, a.Fits) (hS : ∀ a ∈ X, a.Small) (h1 : ¬ OneT X) : Calls Tryz.prog 7 #[.slice ad n cap] w fun e w' => e = .returned (.tuple #[.pointer none, .int .i64 101]) ∧ Below w.heap.size w w' := by
  refine (rBuild_any (Y := []) (C := []) (dp := fun _ => 0) (fin := fun _ => zNd) (X' := []) (K := fun _ => []) (R := []) ad n cap X P w hX hF hS (fun h => absurd h h1)).mono ?_
  rintro e w' (⟨g, rfl, h2, h3⟩ | ⟨rfl, _, h2⟩)
  · exact absurd h2.out.1 h1
  · exact ⟨rfl, h2⟩
/-- Who stands within a tree has one above. -/
theorem BuT.up {X : List Sp} {w : World} {f sb : Nat} {Y : List Sp} {C : List Int} {dp : Nat → Nat} {fin : Nat → Nod} {X' : List Spot} {K : Nat → List Int} {rv : Value} {R : List Int} (h : BuT X w f sb Y C dp fin X' K rv R) (k : Nat) (hk : k < X'.length) (ho : X'[k].nd.org = 0) : ∃ j, ∃ hj : j < X'.length, X'[j].nd.id = X'[k].nd.par := by
  have hl := h.fo.fo.len
  have hkY : k < Y.length := by omega
  rw [h.fo.nd k hk] at ho ⊢
  rcases h.fo.two k hkY with ⟨_, e1, _⟩ | ⟨j, hj, _, _, _, _, _, e⟩
  · exact absurd ho ((h.fo.orgZ k hkY).1 e1)
  · exact ⟨j, by omega, by rw [h.fo.nd j (by omega), e]⟩
theorem BuT.mom {X : List Sp} {w : World} {f sb : Nat} {Y : List Sp} {C : List Int} {dp : Nat → Nat} {fin : Nat → Nod} {X' : List Spot} {K : Nat → List Int} {rv : Value} {R : List Int} (h : BuT X w f sb Y C dp fin X' K rv R) (i : Nat) (hi : i < X'.length) : 0 ≤ X'[i].a.start ∧ X'[i].a.start ≤ X'[i].a.fin ∧ X'[i].a.fin ≤ 4611686018427387904 := by
  have hl := h.fo.fo.len
  have hiY : i < Y.length := by omega
  rw [(h.fo.fo.each i hiY hi).1]
  exact chk_mom (h.fo.one.chk _ (List.getElem_mem hiY))
end Go.Proofs.YtbefeobikjnlpaaGreatDoor

namespace Go.Proofs.YtbefeobikjnlpaaGreatDoor.sk
open Go Go.RowKit
set_option maxRecDepth 100000

def natL (n : Nat) : List Value := [.int .u64 (hi64 n : Int), .int .u64 (lo64 n : Int)]
theorem natL_one (n : Nat) : ∀ v ∈ natL n, v.oneCell' = true := by
  intro v hv
  simp only [natL, List.mem_cons, List.not_mem_nil, or_false] at hv
  rcases hv with rfl | rfl <;> rfl
theorem hi_small {n : Nat} (h : n < 18446744073709551616) : hi64 n = 0 := by unfold hi64; omega
theorem lo_small {n : Nat} (h : n < 18446744073709551616) : lo64 n = n := by unfold lo64; omega
theorem span_there (f sb : Nat) (X : List Spot) (K : Nat → List Int) (rv : Value) (R : List Int) (id : Int) (w : World) (h : ForestAt w f sb X K rv R) (hx : ∃ j, ∃ hj : j < X.length, X[j].nd.id = id) :
    Calls Tryz.prog 15 #[.pointer (some ⟨f, 0, none⟩), .int .u64 id] w fun e w' => ∃ cs, e = .returned (.tuple #[.agg (List.toArray cs), .bool true]) ∧ Hid (SvP cs (svcOf X id)) ∧ Below w.heap.size w w' := by
  refine (span_any f sb X K rv R id w h).mono ?_
  rintro e w' ⟨⟨k, hk, h1, p', rfl, _⟩ | ⟨h1, rfl⟩, hb⟩
  · refine ⟨(spC X[k].a p').toList, ?_, ⟨⟨_, _, _, _, _, _, _, _, _, _, _, _, by rw [svcOf_at h.rise hk h1]; rfl⟩, spC_one _ _⟩, hb⟩
    unfold spV
    simp
  · obtain ⟨j, hj, e⟩ := hx
    exact absurd e (h1 j hj)
/-- The calls of the first spans are the first calls. -/
theorem ofL_pre (X : List Spot) (k : Nat) (hk : k < X.length) (c : Cal) (hc : ofOne X X[k] = [c]) : (ofL X X.length)[(ofL X k).length]? = some c ∧ (ofL X k).length < (ofL X X.length).length := by
  have e : ofL X X.length = ofL X k ++ (c :: (X.drop (k + 1)).flatMap (ofOne X)) := by
    unfold ofL
    rw [List.take_length]
    have e1 : X.flatMap (ofOne X) = (X.take k ++ X[k] :: X.drop (k + 1)).flatMap (ofOne X) := by rw [← List.drop_eq_getElem_cons hk, List.take_append_drop]
    rw [e1, List.flatMap_append, List.flatMap_cons, hc]
    rfl
  rw [e]
  exact ⟨by rw [List.getElem?_append_right (Nat.le_refl _), Nat.sub_self]; rfl, by rw [List.length_append, List.length_cons]; omega⟩
theorem ofL_took {X : List Spot} (hM : ∀ i (h : i < X.length), 0 ≤ X[i].a.start ∧ X[i].a.start ≤ X[i].a.fin ∧ X[i].a.fin ≤ 4611686018427387904) (k : Nat) : ∀ c ∈ ofL X k, 0 ≤ c.2.2.2.2 ∧ c.2.2.2.2 < 18446744073709551616 := fun c hc => by
  unfold ofL at hc
  obtain ⟨x, hx, hcx⟩ := List.mem_flatMap.1 hc
  obtain ⟨i, hi, rfl⟩ := List.mem_iff_getElem.1 (List.mem_of_mem_take hx)
  have := hM i hi
  unfold ofOne at hcx
  split at hcx
  · simp at hcx
    subst hcx
    unfold callOf
    simp only
    omega
  · cases hcx
theorem own_zero {base : Nat} {w : World} {ga : Option Addr} {gl gc : Nat} {l : List Cal} (h : OwnCal base w (.slice ga gl gc) l) : ∀ a, ga = some a → a.off = 0 ∧ a.spot = none := fun a ha => by
  rcases h.2 with ⟨e, _⟩ | ⟨g, cap, cur, e, _⟩
  · injection e with e1 _ _
    rw [ha] at e1
    cases e1
  · injection e with e1 _ _
    rw [ha] at e1
    injection e1 with e1
    subst e1
    exact ⟨rfl, rfl⟩
theorem sum_z (G : List Cal) (aa : Option Addr) (na ca : Nat) (w : World) (hA : CalAt w aa na G) (hX : ∀ c ∈ G, 0 ≤ c.2.2.2.2 ∧ c.2.2.2.2 < 18446744073709551616) (hz : na * 56 ≤ 140737488351232) : ∃ z0 z1 z2 z3 z4 z5 : Int, (z0 = (hi64 G.length : Int) ∧ z1 = (lo64 G.length : Int) ∧ z2 = (hi64 (sumC failN G) : Int) ∧ z3 = (lo64 (sumC failN G) : Int) ∧ z4 = (hi64 (sumC tookN G) : Int) ∧ z5 = (lo64 (sumC tookN G) : Int)) ∧ Calls Tryz.prog 12 #[.slice aa na ca] w fun e w' => ∃ ta tn tc, e = .returned (.tuple #[.agg (talL z0 z1 z2 z3 z4 z5 ta tn tc).toArray, .bool true]) ∧ Below w.heap.size w w' := by
  refine ⟨_, _, _, _, _, _, ⟨rfl, rfl, rfl, rfl, rfl, rfl⟩, (summed_any aa na ca G w hA hX hz).mono ?_⟩
  rintro e w' ⟨ta, tn, tc, rfl, _, hb⟩
  exact ⟨ta, tn, tc, rfl, hb⟩
theorem took_small {X : List Spot} (hM : ∀ i (h : i < X.length), 0 ≤ X[i].a.start ∧ X[i].a.start ≤ X[i].a.fin ∧ X[i].a.fin ≤ 4611686018427387904) (hl : X.length ≤ 1000) (k : Nat) (hk : k ≤ X.length) : sumC tookN (ofL X k) ≤ 18446744073709551616000 := by
  have h1 := sumK_le (l := ofL X k) (fun c hc => ofL_took hM k c hc)
  have h2 : (ofL X k).length ≤ 1000 := Nat.le_trans (ofL_len X k) (Nat.le_trans hk hl)
  exact Nat.le_trans h1 (Nat.mul_le_mul_right 18446744073709551616 h2)
theorem add_small (tk : Nat) (dk : Int) (hb : tk ≤ 18446744073709551616000) (h0 : 0 ≤ dk) (h1 : dk ≤ 4611686018427387904) (W : World) : Calls Tryz.prog 16 #[.agg #[.int .u64 (hi64 tk : Int), .int .u64 (lo64 tk : Int)], .agg #[.int .u64 0, .int .u64 dk]] W fun e w' => e = .returned (.agg (natL (tk + dk.toNat)).toArray) ∧ Below W.heap.size W w' := by
  have e1 : addT tk dk.toNat = tk + dk.toNat := by unfold addT; rw [top128_eq]; omega
  have h := rAdd tk dk.toNat (by rw [top128_eq]; omega) (by rw [top128_eq]; omega) W
  rw [e1] at h
  have e2 : natV dk.toNat = .agg #[.int .u64 0, .int .u64 dk] := by
    unfold natV
    rw [hi_small (by omega), lo_small (by omega)]
    simp only [Int.toNat_of_nonneg h0]
    rfl
  rw [e2] at h
  exact h
set_option maxHeartbeats 4000000 in
theorem callsTrace_no (ad : Option Addr) (n cap : Nat) (X : List Sp) (P : Nat → Pl) (w : World) (hX : SpsAt w ad n X P) (hF : ∀ a ∈ X, a.Fits) (hS : ∀ a ∈ X, a.Small) (hT : Tabs w) (h1 : ¬ OneT X) :
    Calls Tryz.prog 4 #[.slice ad n cap] w fun e w' => e = .returned (.bool true) ∧ Below w.heap.size w w' := by
  have SH := shown_any w hT
  have BD : Hid (∀ W, Below w.heap.size w W → Calls Tryz.prog 6 #[.slice ad n cap] W fun e w' => e = .returned (.tuple #[.pointer none, .int .i64 101]) ∧ Below W.heap.size W w') := fun W hb => build_none ad n cap X P W (hX.below hb) hF hS (hT.below hb) h1
  have RB : Hid (∀ W, Below w.heap.size w W → Calls Tryz.prog 7 #[.slice ad n cap] W fun e w' => e = .returned (.tuple #[.pointer none, .int .i64 101]) ∧ Below W.heap.size W w') := fun W hb => rBuild_none ad n cap X P W (hX.below hb) hF hS h1
  clear hX hF hS hT h1
  go_enter Tryz.func4, Tryz.ntmps4
  go_wp2_with (first
    | (go_at_call 5; (with_reducible refine SH.mono ?_); clear SH; rintro e w1 ⟨rfl, b1⟩; have HB1 : Hid (Below w.heap.size w w1) := b1; clear b1)
    | (go_at_call 6; (with_reducible refine (BD.out _ HB1.out).mono ?_); clear BD; rintro e w2 ⟨rfl, b2⟩; have HB2 : Hid (Below w.heap.size w w2) := HB1.out.trans (b2.mono HB1.out.size); clear b2)
    | (go_at_call 7; (with_reducible refine (RB.out _ HB2.out).mono ?_); clear RB; rintro e w3 ⟨rfl, b3⟩; have HB3 : Hid (Below w.heap.size w w3) := HB2.out.trans (b3.mono HB2.out.size); clear b3))
  go_ret
  exact ⟨rfl, HB3.out⟩
set_option maxHeartbeats 16000000 in
theorem callsTrace_yes (ad : Option Addr) (n cap : Nat) (X : List Sp) (P : Nat → Pl) (w : World) (hX : SpsAt w ad n X P) (hF : ∀ a ∈ X, a.Fits) (hS : ∀ a ∈ X, a.Small) (hT : Tabs w) (h1 : OneT X) :
    Calls Tryz.prog 4 #[.slice ad n cap] w fun e w' => e = .returned (.bool true) ∧ Below w.heap.size w w' := by
  have SH := shown_any w hT
  have BD : Hid (∀ W, Below w.heap.size w W → Calls Tryz.prog 6 #[.slice ad n cap] W fun e w' => ∃ f sb Y C dp fin X' K rv R, e = .returned (.tuple #[.pointer (some ⟨f, 0, none⟩), .int .i64 0]) ∧ Hid (BuT X w' f sb Y C dp fin X' K rv R) ∧ Below W.heap.size W w') := fun W hb => build_one ad n cap X P W (hX.below hb) hF hS (hT.below hb) h1
  have RB : Hid (∀ W w0 f sb Y C dp fin X' K rv R, Below w.heap.size w W → BuT X w0 f sb Y C dp fin X' K rv R → Calls Tryz.prog 7 #[.slice ad n cap] W fun e w' => ∃ g, e = .returned (.tuple #[.pointer (some ⟨g, 0, none⟩), .int .i64 0]) ∧ Hid (RFor w' g Y fin) ∧ Below W.heap.size W w') := fun W w0 f sb Y C dp fin X' K rv R hb hB => rBuild_one ad n cap X P W (hX.below hb) hF hS h1 hB
  clear hX hF hS hT h1
  go_enter Tryz.func4, Tryz.ntmps4
  go_wp2_with (first
    | (go_at_call 5; (with_reducible refine SH.mono ?_); clear SH; rintro e w1 ⟨rfl, b1⟩; have HB1 : Hid (Below w.heap.size w w1) := b1; clear b1)
    | (go_at_call 6; (with_reducible refine (BD.out _ HB1.out).mono ?_); clear BD; rintro e w2 ⟨f, sb, Y, C, dp, fin, Z, K, rv, R, rfl, HBT, b2⟩; have HB2 : Hid (Below w.heap.size w w2) := HB1.out.trans (b2.mono HB1.out.size); clear b2)
    | (go_at_call 7; (with_reducible refine (RB.out _ _ _ _ _ _ _ _ _ _ _ _ HB2.out HBT.out).mono ?_); clear RB; rintro e w3 ⟨gr, rfl, HRF, b3⟩; have HB3 : Hid (Below w.heap.size w w3) := HB2.out.trans (b3.mono HB2.out.size); have HT3 : Hid (BuT X w3 f sb Y C dp fin Z K rv R) := HBT.out.below b3; have OFC : Hid (Calls Tryz.prog 8 #[.pointer (some ⟨f, 0, none⟩)] w3 (OfP Z w3)) := of_any f sb Z K rv R w3 HT3.out.at_ HT3.out.mom; clear b3 HRF HBT)
    | (go_at_call 8; (with_reducible refine OFC.out.mono ?_); clear OFC; rintro e w4 ⟨gv, rfl, HOC, b4⟩; obtain ⟨ga, gl, gc, rfl⟩ := row_shape HOC.out; have HB4 : Hid (Below w.heap.size w w4) := HB3.out.trans (b4.mono HB3.out.size); have HT4 : Hid (BuT X w4 f sb Y C dp fin Z K rv R) := HT3.out.below b4; have HGA : Hid (CalAt w4 ga gl (ofL Z Z.length)) := OwnCal.at HOC.out; have HGR : Hid (∀ a, ga = some a → a.off = 0 ∧ a.spot = none) := own_zero HOC.out; obtain ⟨z0, z1, z2, z3, z4, z5, hz, SUM⟩ := sum_z (ofL Z Z.length) ga gl gc w4 HGA.out (ofL_took HT4.out.mom _) (by have h1 := HGA.out.len; have h2 := ofL_len Z Z.length; have h3 := HT4.out.at_.small; omega); have HZ : Hid _ := hz; have HSM : Hid (Calls Tryz.prog 12 #[.slice ga gl gc] w4 fun e w' => ∃ ta tn tc, e = .returned (.tuple #[.agg (talL z0 z1 z2 z3 z4 z5 ta tn tc).toArray, .bool true]) ∧ Below w4.heap.size w4 w') := SUM; clear b4 HT3 hz SUM HOC)
    | (go_at_call 12; (with_reducible refine HSM.out.mono ?_); clear HSM; rintro e w5 ⟨ta, tn, tc, rfl, b5⟩; have HB5 : Hid (Below w4.heap.size w4 w5) := b5; clear b5)
    | (refine wpList_stW rfl 43 _ _ rfl w5.heap.size [.int .u64 0, .int .u64 0, .int .u64 0, .int .u64 0, .int .u64 0, .int .u64 0, .slice none 0 0] (talL z0 z1 z2 z3 z4 z5 ta tn tc) 43 (Blk.new _ _ _) rfl rfl rfl (by kernel_rfl) talL_one ?_; intro w6 n6 u6; have HTA : Hid (Blk w6 w5.heap.size (talL z0 z1 z2 z3 z4 z5 ta tn tc).toArray 43) := n6; have HB6 : Hid (Below w4.heap.size w4 w6) := (HB5.out.alloc HB5.out.size _).trans (u6.below (by have := HB5.out.size; simp; omega) (fun j hj e => by have := HB5.out.size; omega)); have IDC : Hid (Calls Tryz.prog 13 #[.pointer (some ⟨f, 0, none⟩)] w6 fun e w' => ∃ r, e = .returned (.slice (some ⟨r, 0, none⟩) Z.length Z.length) ∧ Blk w' r (fillC .u64 (Z.map (fun x => x.nd.id)) 0) 48 ∧ w6.heap.size ≤ r ∧ Below w6.heap.size w6 w') := ids_any f sb Z K rv R w6 (HT4.out.at_.below HB6.out); clear n6 u6 HB5)
    | (go_at_call 13; (with_reducible refine IDC.out.mono ?_); clear IDC; rintro e w7 ⟨r, rfl, hr7, _, b7⟩; have HID : Hid (Blk w7 r (fillC .u64 (Z.map (fun x => x.nd.id)) 0) 48) := hr7; have HT7 : Hid (BuT X w7 f sb Y C dp fin Z K rv R) := HT4.out.below (HB6.out.trans (b7.mono HB6.out.size)); have HG7 : Hid (CalAt w7 ga gl (ofL Z Z.length)) := CalAt.below HGA.out (HB6.out.trans (b7.mono HB6.out.size)); have HTA7 : Hid (Blk w7 w5.heap.size (talL z0 z1 z2 z3 z4 z5 ta tn tc).toArray 43) := Blk.below HTA.out b7 (Blk.lt HTA.out); have HB7 : Hid (Below w.heap.size w w7) := HB4.out.trans ((HB6.out.trans (b7.mono HB6.out.size)).mono HB4.out.size); clear hr7 b7 HTA HGA HT4 HB6 HB4))
  obtain ⟨n2, hn2⟩ : ∃ n2, Z.length = n2 := ⟨_, rfl⟩
  have HN2 : Hid (Z.length = n2) := hn2
  obtain ⟨tt, htt⟩ : ∃ tt, w5.heap.size = tt := ⟨_, rfl⟩
  rw [htt] at HTA7
  (try rw [htt])
  (try rw [hn2])
  obtain ⟨tb, htb⟩ : ∃ tb, w7.heap.size = tb := ⟨_, rfl⟩
  have HTB : Hid (w7.heap.size = tb) := htb
  have hl1 : n2 ≤ 1000 := by rw [← hn2]; exact HT7.out.at_.small
  have hl2 : (n2 : Int) ≤ 1000 := by omega
  have HGL : Hid ((ofL Z Z.length).length = gl ∧ gl ≤ n2) := ⟨HG7.out.len, by have h1 := HG7.out.len; have h2 := ofL_len Z Z.length; omega⟩
  have hgl : gl ≤ 1000 := Nat.le_trans HGL.out.2 hl1
  have HK0 : Hid ((ofL Z 0).length = 0 ∧ sumC failN (ofL Z 0) = 0 ∧ sumC tookN (ofL Z 0) = 0 ∧ Blk (w7.alloc (.cells #[.int .u64 0, .int .u64 0] 40)) tb (natL 0).toArray 40 ∧ Below w7.heap.size w7 (w7.alloc (.cells #[.int .u64 0, .int .u64 0] 40))) := ⟨by simp [ofL], by simp [ofL, sumC], by simp [ofL, sumC], by rw [← htb]; exact Blk.new _ _ _, (Below.refl _ _).alloc (Nat.le_refl _) _⟩
  clear hn2 htt
  go_wp2
  (try rw [htb])
  clear htb
  go_loopw [12, 13, 15] (fun z12 z13 z15 wr => ∃ (k nn ff tk : Nat), z12 = .int .u64 (nn : Int) ∧ z13 = .int .u64 (ff : Int) ∧ z15 = .int .i64 k ∧ k ≤ n2 ∧ nn ≤ k ∧ ff ≤ k ∧ Hid ((ofL Z k).length = nn ∧ sumC failN (ofL Z k) = ff ∧ sumC tookN (ofL Z k) = tk ∧ Blk wr tb (natL tk).toArray 40 ∧ Below w7.heap.size w7 wr)) (fun _ _ z15 _ => n2 - (intOf z15).toNat)
  case atStart => exact ⟨0, 0, 0, 0, rfl, rfl, rfl, by omega, by omega, by omega, HK0⟩
  case round =>
    clear HK0
    obtain ⟨k, nn, ff, tk, rfl, rfl, rfl, hk, hnk, hfk, HL⟩ := hrel
    by_cases hlt : k < n2
    · have hlt' : (k : Int) < (n2 : Int) := by omega
      have hkX : k < Z.length := by rw [HN2.out]; exact hlt
      have HBr : Hid (Below w7.heap.size w7 wr) := HL.out.2.2.2.2
      have hTr : BuT X wr f sb Y C dp fin Z K rv R := HT7.out.below HBr.out
      have hF1 : ForestAt wr f sb Z K rv R := hTr.at_
      have cI : wr.cell? ⟨r, k, none⟩ = some (.int .u64 Z[k].nd.id) := ids_cell (Blk.below HID.out HBr.out (Blk.lt HID.out)) hkX
      have HCI : Hid (∀ W, Below wr.heap.size wr W → W.cell? ⟨r, k, none⟩ = some (.int .u64 Z[k].nd.id)) := fun W hb => ids_cell (Blk.below (Blk.below HID.out HBr.out (Blk.lt HID.out)) hb (Nat.lt_of_lt_of_le (Blk.lt HID.out) HBr.out.size)) hkX
      have ND := node_at hF1 k hkX _ rfl
      have SS : Hid (∀ W, Below wr.heap.size wr W → _) := fun W (hb : Below wr.heap.size wr W) => span_self f sb Z K rv R k hkX W (hF1.below hb)
      have hM1 := hTr.mom k hkX
      have HT : Hid (ofL Z (k + 1) = ofL Z k ++ ofOne Z Z[k]) := ofL_succ Z k hkX
      have HPRE : Hid (∀ c, ofOne Z Z[k] = [c] → (ofL Z Z.length)[(ofL Z k).length]? = some c ∧ (ofL Z k).length < (ofL Z Z.length).length) := fun c hc => ofL_pre Z k hkX c hc
      have HUP : Hid (Z[k].nd.org = 0 → ∃ j, ∃ hj : j < Z.length, Z[j].nd.id = Z[k].nd.par) := fun h => hTr.up k hkX h
      have HFW : Hid (∀ W, Below wr.heap.size wr W → ForestAt W f sb Z K rv R) := fun W hb => hF1.below hb
      have HKP : Hid (∀ W, Below wr.heap.size wr W → Blk W tb (natL tk).toArray 40 ∧ Below w7.heap.size w7 W ∧ CalAt W ga gl (ofL Z Z.length)) := fun W hb => ⟨HL.out.2.2.2.1.below hb HL.out.2.2.2.1.lt, HBr.out.trans (hb.mono HBr.out.size), CalAt.below (CalAt.below HG7.out HBr.out) hb⟩
      generalize Z[k] = x at *
      obtain ⟨sv, hsv0⟩ : ∃ sv, svcOf Z x.nd.par = sv := ⟨_, rfl⟩
      have HSV : Hid (svcOf Z x.nd.par = sv) := hsv0
      have HONE : Hid (x.nd.org = 0 → ¬ x.a.svc = sv → ofOne Z x = [callOf sv x.a]) := fun h1 h2 => by unfold ofOne; rw [hsv0, if_pos ⟨h1, h2⟩]
      have HNIL : Hid (¬ (x.nd.org = 0 ∧ ¬ x.a.svc = sv) → ofOne Z x = []) := fun h1 => by unfold ofOne; rw [hsv0, if_neg h1]
      have SKP : Hid (ofOne Z x = [] → ∀ W, Below wr.heap.size wr W → Hid ((ofL Z (k + 1)).length = nn ∧ sumC failN (ofL Z (k + 1)) = ff ∧ sumC tookN (ofL Z (k + 1)) = tk ∧ Blk W tb (natL tk).toArray 40 ∧ Below w7.heap.size w7 W)) := fun h W hW => by
        show _ ∧ _
        rw [HT.out, h, List.append_nil]
        exact ⟨HL.out.1, HL.out.2.1, HL.out.2.2.1, (HKP.out W hW).1, (HKP.out W hW).2.1⟩
      clear hF1 hTr hsv0
      unfold ndV at ND
      by_cases horg : x.nd.org = 0
      rotate_left
      · have ho : (x.nd.org != 0) = true := by simpa using horg
        have FN := SKP.out (HNIL.out (fun h => horg h.1))
        have SU : Hid (∀ W, Below wr.heap.size wr W → Calls Tryz.prog 15 #[.pointer (some ⟨f, 0, none⟩), .int .u64 x.nd.par] W fun e w' => ∃ cs b, e = .returned (.tuple #[.agg (List.toArray cs), .bool b]) ∧ Hid (SvP cs sv) ∧ Below W.heap.size W w') := fun W hb => by rw [← HSV.out]; exact span_svc f sb Z K rv R x.nd.par W (HFW.out W hb)
        clear SKP HNIL HONE HPRE HUP horg
        go_wp2_with (first
          | (go_at_call 14; (with_reducible refine ND.mono ?_); clear ND; rintro e w2 ⟨rfl, b2⟩; have HB2x : Hid (Below wr.heap.size wr (w2.alloc (.cells #[.int .u64 x.nd.id, .int .u64 x.nd.par, .int .i64 x.nd.org, .int .u64 x.nd.tree, .int .i64 x.nd.dep, .int .i64 x.nd.fr, .int .i64 x.nd.til] 53))) := b2.alloc b2.size _; have HN2 : Hid (Blk (w2.alloc (.cells #[.int .u64 x.nd.id, .int .u64 x.nd.par, .int .i64 x.nd.org, .int .u64 x.nd.tree, .int .i64 x.nd.dep, .int .i64 x.nd.fr, .int .i64 x.nd.til] 53)) w2.heap.size #[.int .u64 x.nd.id, .int .u64 x.nd.par, .int .i64 x.nd.org, .int .u64 x.nd.tree, .int .i64 x.nd.dep, .int .i64 x.nd.fr, .int .i64 x.nd.til] 53) := Blk.new _ _ _; have c2 : (w2.alloc (.cells #[.int .u64 x.nd.id, .int .u64 x.nd.par, .int .i64 x.nd.org, .int .u64 x.nd.tree, .int .i64 x.nd.dep, .int .i64 x.nd.fr, .int .i64 x.nd.til] 53)).cell? ⟨r, k, none⟩ = some (.int .u64 x.nd.id) := HCI.out _ HB2x.out; clear b2)
          | (go_at_call 15; (with_reducible refine (SS.out _ HB2x.out).mono ?_); clear SS; rintro e w3 ⟨cs, rfl, HQ, b3⟩; obtain ⟨q0, q1, q2, q3, q4, q6, q7, q11, q12, rfl⟩ := HQ.out.ex; have HB3 : Hid (Below wr.heap.size wr w3) := HB2x.out.trans (b3.mono HB2x.out.size); have HN3 : Hid (Blk w3 w2.heap.size #[.int .u64 x.nd.id, .int .u64 x.nd.par, .int .i64 x.nd.org, .int .u64 x.nd.tree, .int .i64 x.nd.dep, .int .i64 x.nd.fr, .int .i64 x.nd.til] 53) := Blk.below HN2.out b3 (Blk.lt HN2.out); clear b3 HN2)
          | (refine wpList_stW rfl 62 _ _ rfl w3.heap.size zSpL [q0, q1, q2, q3, q4, .string x.a.svc, q6, q7, .int .i64 x.a.status, .int .i64 x.a.start, .int .i64 x.a.fin, q11, q12] 62 (Blk.new _ _ _) rfl rfl rfl (by kernel_rfl) HQ.out.one ?_; intro w4 n4 u4; have HB4 : Hid (Below wr.heap.size wr w4) := (HB3.out.alloc HB3.out.size _).trans (u4.below (by have := HB3.out.size; simp; omega) (fun j hj e => by have := HB3.out.size; omega)); have HS4 : Hid (Blk w4 w3.heap.size ([q0, q1, q2, q3, q4, .string x.a.svc, q6, q7, .int .i64 x.a.status, .int .i64 x.a.start, .int .i64 x.a.fin, q11, q12] : List Value).toArray 62) := n4; have HN4 : Hid (Blk w4 w2.heap.size #[.int .u64 x.nd.id, .int .u64 x.nd.par, .int .i64 x.nd.org, .int .u64 x.nd.tree, .int .i64 x.nd.dep, .int .i64 x.nd.fr, .int .i64 x.nd.til] 53) := Blk.upd (Blk.alloc HN3.out _) u4 (by have := Blk.lt HN3.out; omega); have c4 : w4.cell? ⟨w2.heap.size, 1, none⟩ = some (.int .u64 x.nd.par) := Blk.cell HN4.out 1 rfl; clear n4 u4 HN3)
          | (go_at_call 15; (with_reducible refine (SU.out _ HB4.out).mono ?_); clear SU; rintro e w5 ⟨cs, bb, rfl, HP, b5⟩; obtain ⟨p0, p1, p2, p3, p4, p6, p7, p8, p9, p10, p11, p12, rfl⟩ := HP.out.ex; have HB5 : Hid (Below wr.heap.size wr w5) := HB4.out.trans (b5.mono HB4.out.size); have HS5 : Hid (Blk w5 w3.heap.size ([q0, q1, q2, q3, q4, .string x.a.svc, q6, q7, .int .i64 x.a.status, .int .i64 x.a.start, .int .i64 x.a.fin, q11, q12] : List Value).toArray 62) := Blk.below HS4.out b5 (Blk.lt HS4.out); have HN5 : Hid (Blk w5 w2.heap.size #[.int .u64 x.nd.id, .int .u64 x.nd.par, .int .i64 x.nd.org, .int .u64 x.nd.tree, .int .i64 x.nd.dep, .int .i64 x.nd.fr, .int .i64 x.nd.til] 53) := Blk.below HN4.out b5 (Blk.lt HN4.out); clear b5 HS4 HN4)
          | (refine wpList_stW rfl 62 _ _ rfl w5.heap.size zSpL [p0, p1, p2, p3, p4, .string sv, p6, p7, p8, p9, p10, p11, p12] 62 (Blk.new _ _ _) rfl rfl rfl (by kernel_rfl) HP.out.one ?_; intro w6 n6 u6; have HB6 : Hid (Below wr.heap.size wr w6) := (HB5.out.alloc HB5.out.size _).trans (u6.below (by have := HB5.out.size; simp; omega) (fun j hj e => by have := HB5.out.size; omega)); have HU6 : Hid (Blk w6 w5.heap.size ([p0, p1, p2, p3, p4, .string sv, p6, p7, p8, p9, p10, p11, p12] : List Value).toArray 62) := n6; have HS6 : Hid (Blk w6 w3.heap.size ([q0, q1, q2, q3, q4, .string x.a.svc, q6, q7, .int .i64 x.a.status, .int .i64 x.a.start, .int .i64 x.a.fin, q11, q12] : List Value).toArray 62) := Blk.upd (Blk.alloc HS5.out _) u6 (by have := Blk.lt HS5.out; omega); have HN6 : Hid (Blk w6 w2.heap.size #[.int .u64 x.nd.id, .int .u64 x.nd.par, .int .i64 x.nd.org, .int .u64 x.nd.tree, .int .i64 x.nd.dep, .int .i64 x.nd.fr, .int .i64 x.nd.til] 53) := Blk.upd (Blk.alloc HN5.out _) u6 (by have := Blk.lt HN5.out; omega); have o6 : w6.cell? ⟨w2.heap.size, 2, none⟩ = some (.int .i64 x.nd.org) := Blk.cell HN6.out 2 rfl; have s6 : w6.cell? ⟨w3.heap.size, 5, none⟩ = some (.string x.a.svc) := Blk.cell HS6.out 5 rfl; have t6 : w6.cell? ⟨w5.heap.size, 5, none⟩ = some (.string sv) := Blk.cell HU6.out 5 rfl; clear n6 u6 HS5 HN5))
        have FN6 := FN w6 HB6.out
        go_wp2
        go_roundw
        case rel => exact ⟨k + 1, nn, ff, tk, rfl, rfl, by go_num, by omega, by omega, by omega, FN6⟩
        case measure => simp [intOf]; omega
      · have SU : Hid (∀ W, Below wr.heap.size wr W → Calls Tryz.prog 15 #[.pointer (some ⟨f, 0, none⟩), .int .u64 x.nd.par] W fun e w' => ∃ cs, e = .returned (.tuple #[.agg (List.toArray cs), .bool true]) ∧ Hid (SvP cs sv) ∧ Below W.heap.size W w') := fun W hb => by rw [← HSV.out]; exact span_there f sb Z K rv R x.nd.par W (HFW.out W hb) (HUP.out horg)
        by_cases hsv : x.a.svc = sv
        · have FN := SKP.out (HNIL.out (fun h => h.2 hsv))
          rw [← hsv] at SU
          rw [horg] at ND
          clear SKP HNIL HONE HPRE HUP horg hsv HSV
          have hq : (x.a.svc.toList == x.a.svc.toList) = true := by simp
          go_wp2_with (first
            | (go_at_call 14; (with_reducible refine ND.mono ?_); clear ND; rintro e w2 ⟨rfl, b2⟩; have HB2x : Hid (Below wr.heap.size wr (w2.alloc (.cells #[.int .u64 x.nd.id, .int .u64 x.nd.par, .int .i64 0, .int .u64 x.nd.tree, .int .i64 x.nd.dep, .int .i64 x.nd.fr, .int .i64 x.nd.til] 53))) := b2.alloc b2.size _; have HN2 : Hid (Blk (w2.alloc (.cells #[.int .u64 x.nd.id, .int .u64 x.nd.par, .int .i64 0, .int .u64 x.nd.tree, .int .i64 x.nd.dep, .int .i64 x.nd.fr, .int .i64 x.nd.til] 53)) w2.heap.size #[.int .u64 x.nd.id, .int .u64 x.nd.par, .int .i64 0, .int .u64 x.nd.tree, .int .i64 x.nd.dep, .int .i64 x.nd.fr, .int .i64 x.nd.til] 53) := Blk.new _ _ _; have c2 : (w2.alloc (.cells #[.int .u64 x.nd.id, .int .u64 x.nd.par, .int .i64 0, .int .u64 x.nd.tree, .int .i64 x.nd.dep, .int .i64 x.nd.fr, .int .i64 x.nd.til] 53)).cell? ⟨r, k, none⟩ = some (.int .u64 x.nd.id) := HCI.out _ HB2x.out; clear b2)
            | (go_at_call 15; (with_reducible refine (SS.out _ HB2x.out).mono ?_); clear SS; rintro e w3 ⟨cs, rfl, HQ, b3⟩; obtain ⟨q0, q1, q2, q3, q4, q6, q7, q11, q12, rfl⟩ := HQ.out.ex; have HB3 : Hid (Below wr.heap.size wr w3) := HB2x.out.trans (b3.mono HB2x.out.size); have HN3 : Hid (Blk w3 w2.heap.size #[.int .u64 x.nd.id, .int .u64 x.nd.par, .int .i64 0, .int .u64 x.nd.tree, .int .i64 x.nd.dep, .int .i64 x.nd.fr, .int .i64 x.nd.til] 53) := Blk.below HN2.out b3 (Blk.lt HN2.out); clear b3 HN2)
            | (refine wpList_stW rfl 62 _ _ rfl w3.heap.size zSpL [q0, q1, q2, q3, q4, .string x.a.svc, q6, q7, .int .i64 x.a.status, .int .i64 x.a.start, .int .i64 x.a.fin, q11, q12] 62 (Blk.new _ _ _) rfl rfl rfl (by kernel_rfl) HQ.out.one ?_; intro w4 n4 u4; have HB4 : Hid (Below wr.heap.size wr w4) := (HB3.out.alloc HB3.out.size _).trans (u4.below (by have := HB3.out.size; simp; omega) (fun j hj e => by have := HB3.out.size; omega)); have HS4 : Hid (Blk w4 w3.heap.size ([q0, q1, q2, q3, q4, .string x.a.svc, q6, q7, .int .i64 x.a.status, .int .i64 x.a.start, .int .i64 x.a.fin, q11, q12] : List Value).toArray 62) := n4; have HN4 : Hid (Blk w4 w2.heap.size #[.int .u64 x.nd.id, .int .u64 x.nd.par, .int .i64 0, .int .u64 x.nd.tree, .int .i64 x.nd.dep, .int .i64 x.nd.fr, .int .i64 x.nd.til] 53) := Blk.upd (Blk.alloc HN3.out _) u4 (by have := Blk.lt HN3.out; omega); have c4 : w4.cell? ⟨w2.heap.size, 1, none⟩ = some (.int .u64 x.nd.par) := Blk.cell HN4.out 1 rfl; clear n4 u4 HN3)
            | (go_at_call 15; (with_reducible refine (SU.out _ HB4.out).mono ?_); clear SU; rintro e w5 ⟨cs, rfl, HP, b5⟩; obtain ⟨p0, p1, p2, p3, p4, p6, p7, p8, p9, p10, p11, p12, rfl⟩ := HP.out.ex; have HB5 : Hid (Below wr.heap.size wr w5) := HB4.out.trans (b5.mono HB4.out.size); have HS5 : Hid (Blk w5 w3.heap.size ([q0, q1, q2, q3, q4, .string x.a.svc, q6, q7, .int .i64 x.a.status, .int .i64 x.a.start, .int .i64 x.a.fin, q11, q12] : List Value).toArray 62) := Blk.below HS4.out b5 (Blk.lt HS4.out); have HN5 : Hid (Blk w5 w2.heap.size #[.int .u64 x.nd.id, .int .u64 x.nd.par, .int .i64 0, .int .u64 x.nd.tree, .int .i64 x.nd.dep, .int .i64 x.nd.fr, .int .i64 x.nd.til] 53) := Blk.below HN4.out b5 (Blk.lt HN4.out); clear b5 HS4 HN4)
            | (refine wpList_stW rfl 62 _ _ rfl w5.heap.size zSpL [p0, p1, p2, p3, p4, .string x.a.svc, p6, p7, p8, p9, p10, p11, p12] 62 (Blk.new _ _ _) rfl rfl rfl (by kernel_rfl) HP.out.one ?_; intro w6 n6 u6; have HB6 : Hid (Below wr.heap.size wr w6) := (HB5.out.alloc HB5.out.size _).trans (u6.below (by have := HB5.out.size; simp; omega) (fun j hj e => by have := HB5.out.size; omega)); have HU6 : Hid (Blk w6 w5.heap.size ([p0, p1, p2, p3, p4, .string x.a.svc, p6, p7, p8, p9, p10, p11, p12] : List Value).toArray 62) := n6; have HS6 : Hid (Blk w6 w3.heap.size ([q0, q1, q2, q3, q4, .string x.a.svc, q6, q7, .int .i64 x.a.status, .int .i64 x.a.start, .int .i64 x.a.fin, q11, q12] : List Value).toArray 62) := Blk.upd (Blk.alloc HS5.out _) u6 (by have := Blk.lt HS5.out; omega); have HN6 : Hid (Blk w6 w2.heap.size #[.int .u64 x.nd.id, .int .u64 x.nd.par, .int .i64 0, .int .u64 x.nd.tree, .int .i64 x.nd.dep, .int .i64 x.nd.fr, .int .i64 x.nd.til] 53) := Blk.upd (Blk.alloc HN5.out _) u6 (by have := Blk.lt HN5.out; omega); have o6 : w6.cell? ⟨w2.heap.size, 2, none⟩ = some (.int .i64 0) := Blk.cell HN6.out 2 rfl; have s6 : w6.cell? ⟨w3.heap.size, 5, none⟩ = some (.string x.a.svc) := Blk.cell HS6.out 5 rfl; have t6 : w6.cell? ⟨w5.heap.size, 5, none⟩ = some (.string x.a.svc) := Blk.cell HU6.out 5 rfl; clear n6 u6 HS5 HN5))
          have FN6 := FN w6 HB6.out
          go_wp2
          go_roundw
          case rel => exact ⟨k + 1, nn, ff, tk, rfl, rfl, by go_num, by omega, by omega, by omega, FN6⟩
          case measure => simp [intOf]; omega
        · have hc1 := HONE.out horg hsv
          obtain ⟨hp1, hp2⟩ := HPRE.out _ hc1
          rw [HL.out.1] at hp1 hp2
          rw [HGL.out.1] at hp2
          have HNX : Hid (ofL Z (k + 1) = ofL Z k ++ [callOf sv x.a]) := by show _ = _; rw [HT.out, hc1]
          have hnl : (nn : Int) < (gl : Int) := by omega
          have hq : (sv.toList == x.a.svc.toList) = false := by rw [str_eq]; simp; exact fun e => hsv e.symm
          rw [horg] at ND
          clear SKP HNIL HONE HPRE HUP horg hsv HSV hc1
          obtain ⟨gb, go, hga, _⟩ := HG7.out.lies (by omega)
          have hgo := (HGR.out _ hga).1
          simp only at hgo
          subst hgo
          subst hga
          obtain ⟨hr, hhr⟩ : ∃ hr, x.a.start / 3600000000000 = hr := ⟨_, rfl⟩
          obtain ⟨dk, hdk⟩ : ∃ dk, x.a.fin - x.a.start = dk := ⟨_, rfl⟩
          obtain ⟨fb, hfb⟩ : ∃ fb, decide (x.a.status = 2) = fb := ⟨_, rfl⟩
          have hcl : callOf sv x.a = (hr, sv, x.a.svc, fb, dk) := by unfold callOf; rw [hhr, hdk, hfb]
          rw [hcl] at hp1 HNX
          have GC : Hid (∀ W, Below wr.heap.size wr W → W.cell? ⟨gb, nn * 5, none⟩ = some (.int .i64 hr) ∧ W.cell? ⟨gb, nn * 5 + 1, none⟩ = some (.string sv) ∧ W.cell? ⟨gb, nn * 5 + 2, none⟩ = some (.string x.a.svc) ∧ W.cell? ⟨gb, nn * 5 + 3, none⟩ = some (.bool fb) ∧ W.cell? ⟨gb, nn * 5 + 4, none⟩ = some (.int .u64 dk)) := fun W hb => by
            obtain ⟨b', o', e', hrg⟩ := (HKP.out W hb).2.2.lies (by omega)
            injection e' with e'
            injection e' with e1 e2
            subst e1 e2
            obtain ⟨hlt1, hge⟩ := List.getElem?_eq_some_iff.1 hp1
            have h := hrg nn hlt1
            rw [hge, Nat.zero_add] at h
            exact ⟨h 0 _ rfl, h 1 _ rfl, h 2 _ rfl, h 3 _ rfl, h 4 _ rfl⟩
          have HD : Hid (0 ≤ dk ∧ dk ≤ 4611686018427387904) := ⟨by omega, by omega⟩
          have q1 : IntKind.i64.wrap (x.a.start.tdiv 3600000000000) = hr := by have h := hour_wrap hM1.1 (show x.a.start ≤ 4611686018427387904 by omega); unfold wrap64 at h; rw [IntKind.wrap_i64, ← hhr]; exact h
          have q2 : IntKind.i64.wrap (x.a.fin - x.a.start) = dk := by rw [IntKind.wrap_i64, hdk]; have := HD.out; omega
          have q3 : IntKind.u64.wrap dk = dk := by rw [IntKind.wrap_u64]; have := HD.out; omega
          have q4 : (x.a.status == 2) = fb := by rw [← hfb]; by_cases h : x.a.status = 2 <;> simp [h]
          have q5 : IntKind.u64.wrap (gl : Int) = (gl : Int) := by rw [IntKind.wrap_u64]; omega
          have q6 : IntKind.u64.wrap ((nn : Int) + 1) = (nn : Int) + 1 := by rw [IntKind.wrap_u64]; omega
          have q7 : IntKind.u64.wrap ((ff : Int) + 1) = (ff : Int) + 1 := by rw [IntKind.wrap_u64]; omega
          have q8 : decide (gl ≤ nn) = false := decide_eq_false (by omega)
          have q9 : ¬ gl ≤ nn := by omega
          have q10 : nn < gl := by omega
          have NQ : ∀ W, (binOp .neq 68 (.agg #[.int .i64 hr, .string sv, .string x.a.svc, .bool fb, .int .u64 dk]) (.agg #[.int .i64 hr, .string sv, .string x.a.svc, .bool fb, .int .u64 dk])).run Tryz.prog W = .ok (.bool false) W := fun W => by
            have := run_neqS (eqI_call 9996 hr hr sv x.a.svc sv x.a.svc fb fb dk dk W)
            simpa using this
          have hgc : Tryz.prog.eqGuardType Tryz.prog.depth 68 = false := by kernel_rfl
          have AD : Hid (∀ W, Calls Tryz.prog 16 #[.agg #[.int .u64 (hi64 tk : Int), .int .u64 (lo64 tk : Int)], .agg #[.int .u64 0, .int .u64 dk]] W fun e w' => e = .returned (.agg (natL (tk + dk.toNat)).toArray) ∧ Below W.heap.size W w') := fun W => add_small tk dk (HL.out.2.2.1 ▸ took_small HT7.out.mom HT7.out.at_.small k (Nat.le_of_lt hkX)) HD.out.1 HD.out.2 W
          have HFIN : Hid (∀ W, Blk W tb (natL (tk + dk.toNat)).toArray 40 → Below w7.heap.size w7 W → Hid ((ofL Z (k + 1)).length = nn + 1 ∧ sumC failN (ofL Z (k + 1)) = ff + (if fb then 1 else 0) ∧ sumC tookN (ofL Z (k + 1)) = tk + dk.toNat ∧ Blk W tb (natL (tk + dk.toNat)).toArray 40 ∧ Below w7.heap.size w7 W)) := fun W h1 h2 => by
            show _ ∧ _
            rw [HNX.out, List.length_append, sumC_append, sumC_append, HL.out.1, HL.out.2.1, HL.out.2.2.1]
            exact ⟨rfl, by simp [sumC, failN], by simp [sumC, tookN], h1, h2⟩
          clear hp1 hp2 hcl hhr hdk hM1
          by_cases hst : x.a.status = 2
          · obtain rfl : fb = true := by rw [← hfb]; simpa using hst
            clear hfb hst
            go_wp2_with (first
              | (go_at_call 14; (with_reducible refine ND.mono ?_); clear ND; rintro e w2 ⟨rfl, b2⟩; have HB2x : Hid (Below wr.heap.size wr (w2.alloc (.cells #[.int .u64 x.nd.id, .int .u64 x.nd.par, .int .i64 0, .int .u64 x.nd.tree, .int .i64 x.nd.dep, .int .i64 x.nd.fr, .int .i64 x.nd.til] 53))) := b2.alloc b2.size _; have HN2 : Hid (Blk (w2.alloc (.cells #[.int .u64 x.nd.id, .int .u64 x.nd.par, .int .i64 0, .int .u64 x.nd.tree, .int .i64 x.nd.dep, .int .i64 x.nd.fr, .int .i64 x.nd.til] 53)) w2.heap.size #[.int .u64 x.nd.id, .int .u64 x.nd.par, .int .i64 0, .int .u64 x.nd.tree, .int .i64 x.nd.dep, .int .i64 x.nd.fr, .int .i64 x.nd.til] 53) := Blk.new _ _ _; have c2 : (w2.alloc (.cells #[.int .u64 x.nd.id, .int .u64 x.nd.par, .int .i64 0, .int .u64 x.nd.tree, .int .i64 x.nd.dep, .int .i64 x.nd.fr, .int .i64 x.nd.til] 53)).cell? ⟨r, k, none⟩ = some (.int .u64 x.nd.id) := HCI.out _ HB2x.out; clear b2)
              | (go_at_call 15; (with_reducible refine (SS.out _ HB2x.out).mono ?_); clear SS; rintro e w3 ⟨cs, rfl, HQ, b3⟩; obtain ⟨q0, q1, q2, q3, q4, q6, q7, q11, q12, rfl⟩ := HQ.out.ex; have HB3 : Hid (Below wr.heap.size wr w3) := HB2x.out.trans (b3.mono HB2x.out.size); have HN3 : Hid (Blk w3 w2.heap.size #[.int .u64 x.nd.id, .int .u64 x.nd.par, .int .i64 0, .int .u64 x.nd.tree, .int .i64 x.nd.dep, .int .i64 x.nd.fr, .int .i64 x.nd.til] 53) := Blk.below HN2.out b3 (Blk.lt HN2.out); clear b3 HN2)
              | (refine wpList_stW rfl 62 _ _ rfl w3.heap.size zSpL [q0, q1, q2, q3, q4, .string x.a.svc, q6, q7, .int .i64 x.a.status, .int .i64 x.a.start, .int .i64 x.a.fin, q11, q12] 62 (Blk.new _ _ _) rfl rfl rfl (by kernel_rfl) HQ.out.one ?_; intro w4 n4 u4; have HB4 : Hid (Below wr.heap.size wr w4) := (HB3.out.alloc HB3.out.size _).trans (u4.below (by have := HB3.out.size; simp; omega) (fun j hj e => by have := HB3.out.size; omega)); have HS4 : Hid (Blk w4 w3.heap.size ([q0, q1, q2, q3, q4, .string x.a.svc, q6, q7, .int .i64 x.a.status, .int .i64 x.a.start, .int .i64 x.a.fin, q11, q12] : List Value).toArray 62) := n4; have HN4 : Hid (Blk w4 w2.heap.size #[.int .u64 x.nd.id, .int .u64 x.nd.par, .int .i64 0, .int .u64 x.nd.tree, .int .i64 x.nd.dep, .int .i64 x.nd.fr, .int .i64 x.nd.til] 53) := Blk.upd (Blk.alloc HN3.out _) u4 (by have := Blk.lt HN3.out; omega); have c4 : w4.cell? ⟨w2.heap.size, 1, none⟩ = some (.int .u64 x.nd.par) := Blk.cell HN4.out 1 rfl; clear n4 u4 HN3)
              | (go_at_call 15; (with_reducible refine (SU.out _ HB4.out).mono ?_); clear SU; rintro e w5 ⟨cs, rfl, HP, b5⟩; obtain ⟨p0, p1, p2, p3, p4, p6, p7, p8, p9, p10, p11, p12, rfl⟩ := HP.out.ex; have HB5 : Hid (Below wr.heap.size wr w5) := HB4.out.trans (b5.mono HB4.out.size); have HS5 : Hid (Blk w5 w3.heap.size ([q0, q1, q2, q3, q4, .string x.a.svc, q6, q7, .int .i64 x.a.status, .int .i64 x.a.start, .int .i64 x.a.fin, q11, q12] : List Value).toArray 62) := Blk.below HS4.out b5 (Blk.lt HS4.out); have HN5 : Hid (Blk w5 w2.heap.size #[.int .u64 x.nd.id, .int .u64 x.nd.par, .int .i64 0, .int .u64 x.nd.tree, .int .i64 x.nd.dep, .int .i64 x.nd.fr, .int .i64 x.nd.til] 53) := Blk.below HN4.out b5 (Blk.lt HN4.out); clear b5 HS4 HN4)
              | (refine wpList_stW rfl 62 _ _ rfl w5.heap.size zSpL [p0, p1, p2, p3, p4, .string sv, p6, p7, p8, p9, p10, p11, p12] 62 (Blk.new _ _ _) rfl rfl rfl (by kernel_rfl) HP.out.one ?_; intro w6 n6 u6; have HB6 : Hid (Below wr.heap.size wr w6) := (HB5.out.alloc HB5.out.size _).trans (u6.below (by have := HB5.out.size; simp; omega) (fun j hj e => by have := HB5.out.size; omega)); have HU6 : Hid (Blk w6 w5.heap.size ([p0, p1, p2, p3, p4, .string sv, p6, p7, p8, p9, p10, p11, p12] : List Value).toArray 62) := n6; have HS6 : Hid (Blk w6 w3.heap.size ([q0, q1, q2, q3, q4, .string x.a.svc, q6, q7, .int .i64 x.a.status, .int .i64 x.a.start, .int .i64 x.a.fin, q11, q12] : List Value).toArray 62) := Blk.upd (Blk.alloc HS5.out _) u6 (by have := Blk.lt HS5.out; omega); have HN6 : Hid (Blk w6 w2.heap.size #[.int .u64 x.nd.id, .int .u64 x.nd.par, .int .i64 0, .int .u64 x.nd.tree, .int .i64 x.nd.dep, .int .i64 x.nd.fr, .int .i64 x.nd.til] 53) := Blk.upd (Blk.alloc HN5.out _) u6 (by have := Blk.lt HN5.out; omega); have o6 : w6.cell? ⟨w2.heap.size, 2, none⟩ = some (.int .i64 0) := Blk.cell HN6.out 2 rfl; have s6 : w6.cell? ⟨w3.heap.size, 5, none⟩ = some (.string x.a.svc) := Blk.cell HS6.out 5 rfl; have t6 : w6.cell? ⟨w5.heap.size, 5, none⟩ = some (.string sv) := Blk.cell HU6.out 5 rfl; clear n6 u6 HS5 HN5; have s8 : w6.cell? ⟨w3.heap.size, 8, none⟩ = some (.int .i64 x.a.status) := Blk.cell HS6.out 8 rfl; have s9 : w6.cell? ⟨w3.heap.size, 9, none⟩ = some (.int .i64 x.a.start) := Blk.cell HS6.out 9 rfl; have s10 : w6.cell? ⟨w3.heap.size, 10, none⟩ = some (.int .i64 x.a.fin) := Blk.cell HS6.out 10 rfl; obtain ⟨g0, g1, g2, g3, g4⟩ := GC.out w6 HB6.out))
            go_wp2
            go_quiet (fail)
            obtain ⟨wq, hwq⟩ : ∃ W, w6.drewN nq = W := ⟨_, rfl⟩
            have HBq : Hid (Below wr.heap.size wr wq) := by show Below wr.heap.size wr wq; rw [← hwq]; exact HB6.out.trans ⟨rfl, rfl, rfl, Nat.le_refl _, fun _ _ => rfl⟩
            have HSq : Hid (Blk wq w3.heap.size ([q0, q1, q2, q3, q4, .string x.a.svc, q6, q7, .int .i64 x.a.status, .int .i64 x.a.start, .int .i64 x.a.fin, q11, q12] : List Value).toArray 62) := by rw [← hwq]; exact HS6.out
            (try rw [hwq])
            clear hwq
            have s8 := Blk.cell HSq.out 8 (v := .int .i64 x.a.status) rfl
            have s9 := Blk.cell HSq.out 9 (v := .int .i64 x.a.start) rfl
            have s10 := Blk.cell HSq.out 10 (v := .int .i64 x.a.fin) rfl
            have HTq : Hid (Blk wq tb (natL tk).toArray 40) := (HKP.out wq HBq.out).1
            have k0 := Blk.cell HTq.out 0 (v := .int .u64 (hi64 tk : Int)) rfl
            have k1 := Blk.cell HTq.out 1 (v := .int .u64 (lo64 tk : Int)) rfl
            go_wp2_with (first
              | (go_at_call 16; (with_reducible refine (AD.out _).mono ?_); clear AD; rintro e w8 ⟨rfl, b8⟩; have HB8 : Hid (Below wr.heap.size wr w8) := HBq.out.trans (b8.mono HBq.out.size); clear b8)
              | (refine wpList_stW rfl 40 _ _ rfl tb (natL tk) (natL (tk + dk.toNat)) 40 (HKP.out w8 HB8.out).1 rfl rfl rfl (by kernel_rfl) (natL_one _) ?_; intro w9 n9 u9; have HT9 : Hid (Blk w9 tb (natL (tk + dk.toNat)).toArray 40) := n9; have HB9 : Hid (Below w7.heap.size w7 w9) := (HKP.out w8 HB8.out).2.1.trans (u9.below (HKP.out w8 HB8.out).2.1.size (fun j hj e => by have := HTB.out; omega)); clear n9 u9))
            have FN9 := HFIN.out w9 HT9.out HB9.out
            go_wp2
            go_roundw
            case rel => exact ⟨k + 1, nn + 1, ff + 1, tk + dk.toNat, by go_num, by go_num, by go_num, by omega, by omega, by omega, FN9⟩
            case measure => simp [intOf]; omega
          · obtain rfl : fb = false := by rw [← hfb]; simpa using hst
            clear hfb hst
            go_wp2_with (first
              | (go_at_call 14; (with_reducible refine ND.mono ?_); clear ND; rintro e w2 ⟨rfl, b2⟩; have HB2x : Hid (Below wr.heap.size wr (w2.alloc (.cells #[.int .u64 x.nd.id, .int .u64 x.nd.par, .int .i64 0, .int .u64 x.nd.tree, .int .i64 x.nd.dep, .int .i64 x.nd.fr, .int .i64 x.nd.til] 53))) := b2.alloc b2.size _; have HN2 : Hid (Blk (w2.alloc (.cells #[.int .u64 x.nd.id, .int .u64 x.nd.par, .int .i64 0, .int .u64 x.nd.tree, .int .i64 x.nd.dep, .int .i64 x.nd.fr, .int .i64 x.nd.til] 53)) w2.heap.size #[.int .u64 x.nd.id, .int .u64 x.nd.par, .int .i64 0, .int .u64 x.nd.tree, .int .i64 x.nd.dep, .int .i64 x.nd.fr, .int .i64 x.nd.til] 53) := Blk.new _ _ _; have c2 : (w2.alloc (.cells #[.int .u64 x.nd.id, .int .u64 x.nd.par, .int .i64 0, .int .u64 x.nd.tree, .int .i64 x.nd.dep, .int .i64 x.nd.fr, .int .i64 x.nd.til] 53)).cell? ⟨r, k, none⟩ = some (.int .u64 x.nd.id) := HCI.out _ HB2x.out; clear b2)
              | (go_at_call 15; (with_reducible refine (SS.out _ HB2x.out).mono ?_); clear SS; rintro e w3 ⟨cs, rfl, HQ, b3⟩; obtain ⟨q0, q1, q2, q3, q4, q6, q7, q11, q12, rfl⟩ := HQ.out.ex; have HB3 : Hid (Below wr.heap.size wr w3) := HB2x.out.trans (b3.mono HB2x.out.size); have HN3 : Hid (Blk w3 w2.heap.size #[.int .u64 x.nd.id, .int .u64 x.nd.par, .int .i64 0, .int .u64 x.nd.tree, .int .i64 x.nd.dep, .int .i64 x.nd.fr, .int .i64 x.nd.til] 53) := Blk.below HN2.out b3 (Blk.lt HN2.out); clear b3 HN2)
              | (refine wpList_stW rfl 62 _ _ rfl w3.heap.size zSpL [q0, q1, q2, q3, q4, .string x.a.svc, q6, q7, .int .i64 x.a.status, .int .i64 x.a.start, .int .i64 x.a.fin, q11, q12] 62 (Blk.new _ _ _) rfl rfl rfl (by kernel_rfl) HQ.out.one ?_; intro w4 n4 u4; have HB4 : Hid (Below wr.heap.size wr w4) := (HB3.out.alloc HB3.out.size _).trans (u4.below (by have := HB3.out.size; simp; omega) (fun j hj e => by have := HB3.out.size; omega)); have HS4 : Hid (Blk w4 w3.heap.size ([q0, q1, q2, q3, q4, .string x.a.svc, q6, q7, .int .i64 x.a.status, .int .i64 x.a.start, .int .i64 x.a.fin, q11, q12] : List Value).toArray 62) := n4; have HN4 : Hid (Blk w4 w2.heap.size #[.int .u64 x.nd.id, .int .u64 x.nd.par, .int .i64 0, .int .u64 x.nd.tree, .int .i64 x.nd.dep, .int .i64 x.nd.fr, .int .i64 x.nd.til] 53) := Blk.upd (Blk.alloc HN3.out _) u4 (by have := Blk.lt HN3.out; omega); have c4 : w4.cell? ⟨w2.heap.size, 1, none⟩ = some (.int .u64 x.nd.par) := Blk.cell HN4.out 1 rfl; clear n4 u4 HN3)
              | (go_at_call 15; (with_reducible refine (SU.out _ HB4.out).mono ?_); clear SU; rintro e w5 ⟨cs, rfl, HP, b5⟩; obtain ⟨p0, p1, p2, p3, p4, p6, p7, p8, p9, p10, p11, p12, rfl⟩ := HP.out.ex; have HB5 : Hid (Below wr.heap.size wr w5) := HB4.out.trans (b5.mono HB4.out.size); have HS5 : Hid (Blk w5 w3.heap.size ([q0, q1, q2, q3, q4, .string x.a.svc, q6, q7, .int .i64 x.a.status, .int .i64 x.a.start, .int .i64 x.a.fin, q11, q12] : List Value).toArray 62) := Blk.below HS4.out b5 (Blk.lt HS4.out); have HN5 : Hid (Blk w5 w2.heap.size #[.int .u64 x.nd.id, .int .u64 x.nd.par, .int .i64 0, .int .u64 x.nd.tree, .int .i64 x.nd.dep, .int .i64 x.nd.fr, .int .i64 x.nd.til] 53) := Blk.below HN4.out b5 (Blk.lt HN4.out); clear b5 HS4 HN4)
              | (refine wpList_stW rfl 62 _ _ rfl w5.heap.size zSpL [p0, p1, p2, p3, p4, .string sv, p6, p7, p8, p9, p10, p11, p12] 62 (Blk.new _ _ _) rfl rfl rfl (by kernel_rfl) HP.out.one ?_; intro w6 n6 u6; have HB6 : Hid (Below wr.heap.size wr w6) := (HB5.out.alloc HB5.out.size _).trans (u6.below (by have := HB5.out.size; simp; omega) (fun j hj e => by have := HB5.out.size; omega)); have HU6 : Hid (Blk w6 w5.heap.size ([p0, p1, p2, p3, p4, .string sv, p6, p7, p8, p9, p10, p11, p12] : List Value).toArray 62) := n6; have HS6 : Hid (Blk w6 w3.heap.size ([q0, q1, q2, q3, q4, .string x.a.svc, q6, q7, .int .i64 x.a.status, .int .i64 x.a.start, .int .i64 x.a.fin, q11, q12] : List Value).toArray 62) := Blk.upd (Blk.alloc HS5.out _) u6 (by have := Blk.lt HS5.out; omega); have HN6 : Hid (Blk w6 w2.heap.size #[.int .u64 x.nd.id, .int .u64 x.nd.par, .int .i64 0, .int .u64 x.nd.tree, .int .i64 x.nd.dep, .int .i64 x.nd.fr, .int .i64 x.nd.til] 53) := Blk.upd (Blk.alloc HN5.out _) u6 (by have := Blk.lt HN5.out; omega); have o6 : w6.cell? ⟨w2.heap.size, 2, none⟩ = some (.int .i64 0) := Blk.cell HN6.out 2 rfl; have s6 : w6.cell? ⟨w3.heap.size, 5, none⟩ = some (.string x.a.svc) := Blk.cell HS6.out 5 rfl; have t6 : w6.cell? ⟨w5.heap.size, 5, none⟩ = some (.string sv) := Blk.cell HU6.out 5 rfl; clear n6 u6 HS5 HN5; have s8 : w6.cell? ⟨w3.heap.size, 8, none⟩ = some (.int .i64 x.a.status) := Blk.cell HS6.out 8 rfl; have s9 : w6.cell? ⟨w3.heap.size, 9, none⟩ = some (.int .i64 x.a.start) := Blk.cell HS6.out 9 rfl; have s10 : w6.cell? ⟨w3.heap.size, 10, none⟩ = some (.int .i64 x.a.fin) := Blk.cell HS6.out 10 rfl; obtain ⟨g0, g1, g2, g3, g4⟩ := GC.out w6 HB6.out))
            go_wp2
            go_quiet (fail)
            obtain ⟨wq, hwq⟩ : ∃ W, w6.drewN nq = W := ⟨_, rfl⟩
            have HBq : Hid (Below wr.heap.size wr wq) := by show Below wr.heap.size wr wq; rw [← hwq]; exact HB6.out.trans ⟨rfl, rfl, rfl, Nat.le_refl _, fun _ _ => rfl⟩
            have HSq : Hid (Blk wq w3.heap.size ([q0, q1, q2, q3, q4, .string x.a.svc, q6, q7, .int .i64 x.a.status, .int .i64 x.a.start, .int .i64 x.a.fin, q11, q12] : List Value).toArray 62) := by rw [← hwq]; exact HS6.out
            (try rw [hwq])
            clear hwq
            have s8 := Blk.cell HSq.out 8 (v := .int .i64 x.a.status) rfl
            have s9 := Blk.cell HSq.out 9 (v := .int .i64 x.a.start) rfl
            have s10 := Blk.cell HSq.out 10 (v := .int .i64 x.a.fin) rfl
            have HTq : Hid (Blk wq tb (natL tk).toArray 40) := (HKP.out wq HBq.out).1
            have k0 := Blk.cell HTq.out 0 (v := .int .u64 (hi64 tk : Int)) rfl
            have k1 := Blk.cell HTq.out 1 (v := .int .u64 (lo64 tk : Int)) rfl
            go_wp2_with (first
              | (go_at_call 16; (with_reducible refine (AD.out _).mono ?_); clear AD; rintro e w8 ⟨rfl, b8⟩; have HB8 : Hid (Below wr.heap.size wr w8) := HBq.out.trans (b8.mono HBq.out.size); clear b8)
              | (refine wpList_stW rfl 40 _ _ rfl tb (natL tk) (natL (tk + dk.toNat)) 40 (HKP.out w8 HB8.out).1 rfl rfl rfl (by kernel_rfl) (natL_one _) ?_; intro w9 n9 u9; have HT9 : Hid (Blk w9 tb (natL (tk + dk.toNat)).toArray 40) := n9; have HB9 : Hid (Below w7.heap.size w7 w9) := (HKP.out w8 HB8.out).2.1.trans (u9.below (HKP.out w8 HB8.out).2.1.size (fun j hj e => by have := HTB.out; omega)); clear n9 u9))
            have FN9 := HFIN.out w9 HT9.out HB9.out
            go_wp2
            go_roundw
            case rel => exact ⟨k + 1, nn + 1, ff, tk + dk.toNat, by go_num, by go_num, by go_num, by omega, by omega, by omega, FN9⟩
            case measure => simp [intOf]; omega
    · obtain rfl : k = n2 := by omega
      have hlt' : ¬ (k : Int) < (k : Int) := by omega
      have HBr : Hid (Below w7.heap.size w7 wr) := HL.out.2.2.2.2
      have HEND : Hid (nn = gl ∧ ff = sumC failN (ofL Z Z.length) ∧ tk = sumC tookN (ofL Z Z.length)) := by
        rw [HN2.out]
        have h1 := HGL.out.1
        rw [HN2.out] at h1
        exact ⟨by rw [← HL.out.1]; exact h1, HL.out.2.1.symm, HL.out.2.2.1.symm⟩
      obtain ⟨hn, hf, ht⟩ := HEND.out
      have q5 : IntKind.u64.wrap (gl : Int) = (gl : Int) := by rw [IntKind.wrap_u64]; omega
      have hTA := Blk.below HTA7.out HBr.out (Blk.lt HTA7.out)
      have d0 := Blk.cell hTA 0 (v := .int .u64 z0) rfl
      have d1 := Blk.cell hTA 1 (v := .int .u64 z1) rfl
      have d2 := Blk.cell hTA 2 (v := .int .u64 z2) rfl
      have d3 := Blk.cell hTA 3 (v := .int .u64 z3) rfl
      have d4 := Blk.cell hTA 4 (v := .int .u64 z4) rfl
      have d5 := Blk.cell hTA 5 (v := .int .u64 z5) rfl
      have k0 := Blk.cell HL.out.2.2.2.1 0 (v := .int .u64 (hi64 tk : Int)) rfl
      have k1 := Blk.cell HL.out.2.2.2.1 1 (v := .int .u64 (lo64 tk : Int)) rfl
      obtain ⟨y0, y1, y2, y3, y4, y5⟩ := HZ.out
      have hgs : gl < 18446744073709551616 := by omega
      have hfs : ff < 18446744073709551616 := by omega
      rw [HGL.out.1, hi_small hgs] at y0
      rw [HGL.out.1, lo_small hgs] at y1
      rw [← hf, hi_small hfs] at y2
      rw [← hf, lo_small hfs] at y3
      rw [← ht] at y4 y5
      have EQ1 : ∀ W, (binOp .eql 40 (.agg #[.int .u64 z0, .int .u64 z1]) (.agg #[.int .u64 0, .int .u64 (gl : Int)])).run Tryz.prog W = .ok (.bool true) W := fun W => by
        have := run_eqlS (eqI_nat 9998 z0 z1 0 (gl : Int) W)
        rw [decide_eq_true ⟨y0, y1⟩] at this
        exact this
      have EQ2 : ∀ W, (binOp .eql 40 (.agg #[.int .u64 z2, .int .u64 z3]) (.agg #[.int .u64 0, .int .u64 (ff : Int)])).run Tryz.prog W = .ok (.bool true) W := fun W => by
        have := run_eqlS (eqI_nat 9998 z2 z3 0 (ff : Int) W)
        rw [decide_eq_true ⟨y2, y3⟩] at this
        exact this
      have EQ3 : ∀ W, (binOp .eql 40 (.agg #[.int .u64 z4, .int .u64 z5]) (.agg #[.int .u64 (hi64 tk : Int), .int .u64 (lo64 tk : Int)])).run Tryz.prog W = .ok (.bool true) W := fun W => by
        have := run_eqlS (eqI_nat 9998 z4 z5 (hi64 tk : Int) (lo64 tk : Int) W)
        rw [decide_eq_true ⟨y4, y5⟩] at this
        exact this
      have hgn : Tryz.prog.eqGuardType Tryz.prog.depth 40 = false := by kernel_rfl
      have FN : Hid (Below w.heap.size w wr) := HB7.out.trans (HBr.out.mono HB7.out.size)
      obtain ⟨th, hth⟩ : ∃ th, (hi64 tk : Int) = th := ⟨_, rfl⟩
      obtain ⟨tl, htl⟩ : ∃ tl, (lo64 tk : Int) = tl := ⟨_, rfl⟩
      rw [hth] at k0 EQ3
      rw [htl] at k1 EQ3
      subst hn
      clear hf ht y0 y1 y2 y3 y4 y5 hth htl hTA HEND hgs hfs
      go_wp2
      go_ret
      exact ⟨rfl, FN.out⟩
theorem callsTrace_any (ad : Option Addr) (n cap : Nat) (X : List Sp) (P : Nat → Pl) (w : World) (hX : SpsAt w ad n X P) (hF : ∀ a ∈ X, a.Fits) (hS : ∀ a ∈ X, a.Small) (hT : Tabs w) :
    Calls Tryz.prog 4 #[.slice ad n cap] w fun e w' => e = .returned (.bool true) ∧ Below w.heap.size w w' := by
  by_cases h1 : OneT X
  · exact callsTrace_yes ad n cap X P w hX hF hS hT h1
  · exact callsTrace_no ad n cap X P w hX hF hS hT h1
end Go.Proofs.YtbefeobikjnlpaaGreatDoor.sk
