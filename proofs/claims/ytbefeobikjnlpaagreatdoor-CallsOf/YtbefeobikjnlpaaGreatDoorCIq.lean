/-
  Merged: CI, CG.
-/
import Derived.Test.YtbefeobikjnlpaaGreatDoorCHq
import Derived.Test.YtbefeobikjnlpaaGreatDoorGBq
import Derived.Test.YtbefeobikjnlpaaGreatDoorOXq
import Derived.Test.YtbefeobikjnlpaaGreatDoorCMq
namespace Go.Proofs.YtbefeobikjnlpaaGreatDoor.sk
open Go.RowKit
set_option maxRecDepth 100000

/-- The call of a span by one of this service. -/
def callOf (sv : ByteArray) (a : Sp) : Cal := (a.start / 3600000000000, sv, a.svc, decide (a.status = 2), a.fin - a.start)
theorem hour_wrap {a : Int} (h0 : 0 ≤ a) (h1 : a ≤ 4611686018427387904) : wrap64 (a.tdiv 3600000000000) = a / 3600000000000 := by
  rw [Int.tdiv_eq_ediv_of_nonneg h0]
  unfold wrap64
  omega
theorem took_wrap {a b : Int} (h0 : 0 ≤ a) (h1 : a ≤ b) (h2 : b ≤ 4611686018427387904) : IntKind.u64.wrap (wrap64 (b - a)) = b - a := by
  rw [IntKind.wrap_u64]
  unfold wrap64
  omega
set_option maxHeartbeats 1000000 in
theorem between_any (p0 p1 p2 p3 p4 p6 p7 p8 p9 p10 p11 p12 q0 q1 q2 q3 q4 q6 q7 q11 q12 : Value) (sv : ByteArray) (x : Sp) (h0 : 0 ≤ x.start) (h1 : x.start ≤ x.fin) (h2 : x.fin ≤ 4611686018427387904) (w : World) :
    Calls Tryz.prog 32 #[.agg #[p0, p1, p2, p3, p4, .string sv, p6, p7, p8, p9, p10, p11, p12], .agg #[q0, q1, q2, q3, q4, .string x.svc, q6, q7, .int .i64 x.status, .int .i64 x.start, .int .i64 x.fin, q11, q12]] w fun e w' => e = .returned (calV (callOf sv x)) ∧ Below w.heap.size w w' := by
  have E1 := hour_wrap h0 (by omega)
  have E2 := took_wrap h0 h1 h2
  have E3 : (x.status == 2) = decide (x.status = 2) := by by_cases h : x.status = 2 <;> simp [h]
  unfold calV callOf calL
  simp only
  clear h0 h1 h2
  generalize x.start = a at *
  generalize x.fin = b at *
  generalize x.status = st at *
  have HE : Hid (wrap64 (a.tdiv 3600000000000) = a / 3600000000000 ∧ IntKind.u64.wrap (wrap64 (b - a)) = b - a ∧ (st == 2) = decide (st = 2)) := ⟨E1, E2, E3⟩
  clear E1 E2 E3
  go_enter Tryz.func32, Tryz.ntmps32
  go_wp2
  go_returns
  refine ⟨?_, by repeat' first | exact Below.refl _ _ | refine Below.alloc ?_ (by first | exact Nat.le_refl _ | (simp; done) | (simp; omega)) _⟩
  rw [HE.out.1, HE.out.2.1, HE.out.2.2]
/-- The service of the span with this ID. -/
def svcOf (X : List Spot) (id : Int) : ByteArray := match X.find? (fun x => decide (x.nd.id = id)) with
  | some x => x.a.svc
  | none => ⟨#[]⟩
/-- A span's thirteen cells, of which one is its service. -/
structure SvP (cs : List Value) (sv : ByteArray) : Prop where
  ex : ∃ p0 p1 p2 p3 p4 p6 p7 p8 p9 p10 p11 p12, cs = [p0, p1, p2, p3, p4, .string sv, p6, p7, p8, p9, p10, p11, p12]
  one : ∀ v ∈ cs, v.oneCell' = true
theorem find_at {X : List Spot} (hr : RiseS X) {k : Nat} (hk : k < X.length) : X.find? (fun x => decide (x.nd.id = X[k].nd.id)) = some X[k] := by
  rw [List.find?_eq_some_iff_getElem]
  refine ⟨by simp, k, hk, rfl, fun j hj => ?_⟩
  simp only [Bool.not_eq_true', decide_eq_false_iff_not]
  intro e
  have := rise_same hr (by omega) hk e
  omega
theorem svcOf_at {X : List Spot} (hr : RiseS X) {k : Nat} (hk : k < X.length) {id : Int} (h : X[k].nd.id = id) : svcOf X id = X[k].a.svc := by
  subst h
  unfold svcOf
  rw [find_at hr hk]
theorem svcOf_no {X : List Spot} {id : Int} (h : ∀ i (h : i < X.length), X[i].nd.id ≠ id) : svcOf X id = ⟨#[]⟩ := by
  unfold svcOf
  have : X.find? (fun x => decide (x.nd.id = id)) = none := by
    rw [List.find?_eq_none]
    intro x hx
    obtain ⟨i, hi, rfl⟩ := List.mem_iff_getElem.1 hx
    simpa using h i hi
  rw [this]
theorem span_svc (f sb : Nat) (X : List Spot) (K : Nat → List Int) (rv : Value) (R : List Int) (id : Int) (w : World) (h : ForestAt w f sb X K rv R) :
    Calls Tryz.prog 15 #[.pointer (some ⟨f, 0, none⟩), .int .u64 id] w fun e w' => ∃ cs b, e = .returned (.tuple #[.agg (List.toArray cs), .bool b]) ∧ Hid (SvP cs (svcOf X id)) ∧ Below w.heap.size w w' := by
  refine (span_any f sb X K rv R id w h).mono ?_
  rintro e w' ⟨⟨k, hk, h1, p', rfl, _⟩ | ⟨h1, rfl⟩, hb⟩
  · refine ⟨(spC X[k].a p').toList, true, ?_, ⟨⟨_, _, _, _, _, _, _, _, _, _, _, _, by rw [svcOf_at h.rise hk h1]; rfl⟩, spC_one _ _⟩, hb⟩
    unfold spV
    simp
  · refine ⟨zSpL, false, rfl, ⟨⟨_, _, _, _, _, _, _, _, _, _, _, _, by rw [svcOf_no h1]; rfl⟩, fun v hv => ?_⟩, hb⟩
    simp [zSpL] at hv
    repeat' (first | (rcases hv with rfl | hv) | (subst hv))
    all_goals rfl
/-- A span's thirteen cells, with what a call asks of it. -/
structure SvQ (cs : List Value) (a : Sp) : Prop where
  ex : ∃ q0 q1 q2 q3 q4 q6 q7 q11 q12, cs = [q0, q1, q2, q3, q4, .string a.svc, q6, q7, .int .i64 a.status, .int .i64 a.start, .int .i64 a.fin, q11, q12]
  one : ∀ v ∈ cs, v.oneCell' = true
theorem span_self (f sb : Nat) (X : List Spot) (K : Nat → List Int) (rv : Value) (R : List Int) (k : Nat) (hk : k < X.length) (w : World) (h : ForestAt w f sb X K rv R) :
    Calls Tryz.prog 15 #[.pointer (some ⟨f, 0, none⟩), .int .u64 X[k].nd.id] w fun e w' => ∃ cs, e = .returned (.tuple #[.agg (List.toArray cs), .bool true]) ∧ Hid (SvQ cs X[k].a) ∧ Below w.heap.size w w' := by
  refine (span_any f sb X K rv R X[k].nd.id w h).mono ?_
  rintro e w' ⟨⟨j, hj, h1, p', rfl, _⟩ | ⟨h1, rfl⟩, hb⟩
  · have := rise_same h.rise hj hk h1
    subst this
    refine ⟨(spC X[j].a p').toList, ?_, ⟨⟨_, _, _, _, _, _, _, _, _, rfl⟩, spC_one _ _⟩, hb⟩
    unfold spV
    simp
  · exact absurd rfl (h1 k hk)
/-- The call of a span, if it is one. -/
def ofOne (X : List Spot) (x : Spot) : List Cal := if x.nd.org = 0 ∧ ¬ x.a.svc = svcOf X x.nd.par then [callOf (svcOf X x.nd.par) x.a] else []
def ofL (X : List Spot) (k : Nat) : List Cal := (X.take k).flatMap (ofOne X)
theorem ofL_succ (X : List Spot) (k : Nat) (h : k < X.length) : ofL X (k + 1) = ofL X k ++ ofOne X X[k] := by
  unfold ofL
  rw [List.take_succ_eq_append_getElem h, List.flatMap_append]
  simp
theorem ofL_len (X : List Spot) : ∀ k, (ofL X k).length ≤ k
  | 0 => by simp [ofL]
  | k + 1 => by
    have ih := ofL_len X k
    by_cases h : k < X.length
    · rw [ofL_succ X k h, List.length_append]
      have : (ofOne X X[k]).length ≤ 1 := by unfold ofOne; split <;> simp
      omega
    · have : ofL X (k + 1) = ofL X k := by unfold ofL; rw [List.take_of_length_le (by omega), List.take_of_length_le (by omega)]
      rw [this]
      omega
end Go.Proofs.YtbefeobikjnlpaaGreatDoor.sk

namespace Go.Proofs.YtbefeobikjnlpaaGreatDoor.sk
open Go.RowKit
set_option maxRecDepth 100000

theorem ids_cell {w : World} {r : Nat} {X : List Spot} (h : Blk w r (fillC .u64 (X.map (fun x => x.nd.id)) 0) 48) {k : Nat} (hk : k < X.length) : w.cell? ⟨r, k, none⟩ = some (.int .u64 X[k].nd.id) := by
  refine h.cell k ?_
  unfold fillC
  simp [hk]
theorem range13 {w : World} {b : Nat} {c : List Value} {T : TypeId} (h : Blk w b c.toArray T) : w.rangeAt b 0 c := fun j v hv => by rw [Nat.zero_add]; exact h.cell j (by rw [List.getElem?_toArray]; exact hv)
/-- What Of tells. -/
def OfP (X : List Spot) (w : World) (e : Ending) (w' : World) : Prop := ∃ v, e = .returned v ∧ Hid (OwnCal w.heap.size w' v (ofL X X.length)) ∧ Below w.heap.size w w'
set_option maxHeartbeats 8000000 in
theorem of_any (f sb : Nat) (X : List Spot) (K : Nat → List Int) (rv : Value) (R : List Int) (w : World) (h : ForestAt w f sb X K rv R) (hM : ∀ i (h : i < X.length), 0 ≤ X[i].a.start ∧ X[i].a.start ≤ X[i].a.fin ∧ X[i].a.fin ≤ 4611686018427387904) :
    Calls Tryz.prog 8 #[.pointer (some ⟨f, 0, none⟩)] w (OfP X w) := by
  obtain ⟨i0, hip, hp0, hp1, hp2⟩ := info_parts Tryz.info68
  have ID := ids_any f sb X K rv R w h
  have hl := h.small
  have HF : Hid _ := h
  have HM : Hid _ := hM
  obtain ⟨n, hn⟩ : ∃ n, X.length = n := ⟨_, rfl⟩
  have HN : Hid (X.length = n) := hn
  rw [hn] at hl ID
  clear h hM hn
  go_enter Tryz.func8, Tryz.ntmps8
  go_wp2_with (go_at_call 13; (with_reducible refine ID.mono ?_); clear ID; rintro e w1 ⟨r, rfl, b1, hr, hb⟩)
  have HB1 : Hid (Below w.heap.size w w1) := hb
  have HI1 : Hid _ := b1
  have HRR : Hid (w.heap.size ≤ r) := hr
  clear b1 hr hb
  go_loopw [3, 17] (fun l x wr => ∃ (k : Nat), x = .int .i64 k ∧ k ≤ n ∧ Hid (OwnCal w1.heap.size wr l (ofL X k)) ∧ Hid (Below w1.heap.size w1 wr)) (fun _ x _ => n - (intOf x).toNat)
  case atStart => exact ⟨0, rfl, by omega, OwnCal.nil _ _, Below.refl _ _⟩
  case round =>
    obtain ⟨k, rfl, hkn, HO, HBr⟩ := hrel
    obtain ⟨la, ll, lc, hls⟩ := row_shape HO.out
    subst hls
    by_cases hlt : k < n
    · have hkX : k < X.length := by rw [HN.out]; exact hlt
      have cI : wr.cell? ⟨r, k, none⟩ = some (.int .u64 X[k].nd.id) := ids_cell (Blk.below HI1.out HBr.out (Blk.lt HI1.out)) hkX
      have hF1 : ForestAt wr f sb X K rv R := (HF.out.below HB1.out).below HBr.out
      have ND := node_at hF1 k hkX _ rfl
      have SS : Hid (∀ W, Below wr.heap.size wr W → _) := fun W (hb : Below wr.heap.size wr W) => span_self f sb X K rv R k hkX W (hF1.below hb)
      have SU : Hid (∀ W, Below wr.heap.size wr W → _) := fun W (hb : Below wr.heap.size wr W) => span_svc f sb X K rv R X[k].nd.par W (hF1.below hb)
      have HT : Hid _ := ofL_succ X k hkX
      have HL : Hid _ := ofL_len X k
      have hM1 := HM.out k hkX
      have HZ : Hid (w1.heap.size ≤ wr.heap.size) := HBr.out.size
      have HC : Hid (∀ x : Spot, x.nd.org = 0 → ¬ x.a.svc = svcOf X x.nd.par → ofOne X x = [callOf (svcOf X x.nd.par) x.a]) := fun x h1 h2 => by unfold ofOne; rw [if_pos ⟨h1, h2⟩]
      have HD : Hid (∀ x : Spot, ¬ (x.nd.org = 0 ∧ ¬ x.a.svc = svcOf X x.nd.par) → ofOne X x = []) := fun x h1 => by unfold ofOne; rw [if_neg h1]
      generalize X[k] = x at *
      have HC' : Hid (x.nd.org = 0 → ¬ x.a.svc = svcOf X x.nd.par → ofOne X x = [callOf (svcOf X x.nd.par) x.a]) := HC.out x
      have HD' : Hid (¬ (x.nd.org = 0 ∧ ¬ x.a.svc = svcOf X x.nd.par) → ofOne X x = []) := HD.out x
      clear hF1 HC HD
      generalize svcOf X x.nd.par = sv at *
      generalize ofL X k = L at *
      unfold ndV at ND
      have BT : Hid (∀ p0 p1 p2 p3 p4 p6 p7 p8 p9 p10 p11 p12 q0 q1 q2 q3 q4 q6 q7 q11 q12 W, _) := fun p0 p1 p2 p3 p4 p6 p7 p8 p9 p10 p11 p12 q0 q1 q2 q3 q4 q6 q7 q11 q12 W => between_any p0 p1 p2 p3 p4 p6 p7 p8 p9 p10 p11 p12 q0 q1 q2 q3 q4 q6 q7 q11 q12 sv x.a hM1.1 hM1.2.1 hM1.2.2 W
      clear hM1
      by_cases horg : x.nd.org = 0
      · by_cases hsv : x.a.svc = sv
        · have HE : Hid (ofL X (k + 1) = L) := by
            have h1 : ofL X (k + 1) = L ++ ofOne X x := HT.out
            rw [HD'.out (fun h => h.2 hsv), List.append_nil] at h1
            exact h1
          rw [← hsv] at SU
          rw [horg] at ND
          clear HC' HD' BT HT horg hsv
          have hq : (x.a.svc.toList == x.a.svc.toList) = true := by simp
          go_wp2_with (first
            | (go_at_call 14; (with_reducible refine ND.mono ?_); clear ND; rintro e w2 ⟨rfl, b2⟩; have HB2 : Hid (Below wr.heap.size wr w2) := b2; have HB2x : Hid (Below wr.heap.size wr (w2.alloc (.cells #[.int .u64 x.nd.id, .int .u64 x.nd.par, .int .i64 0, .int .u64 x.nd.tree, .int .i64 x.nd.dep, .int .i64 x.nd.fr, .int .i64 x.nd.til] 53))) := b2.alloc b2.size _; have HN2 : Hid (Blk (w2.alloc (.cells #[.int .u64 x.nd.id, .int .u64 x.nd.par, .int .i64 0, .int .u64 x.nd.tree, .int .i64 x.nd.dep, .int .i64 x.nd.fr, .int .i64 x.nd.til] 53)) w2.heap.size #[.int .u64 x.nd.id, .int .u64 x.nd.par, .int .i64 0, .int .u64 x.nd.tree, .int .i64 x.nd.dep, .int .i64 x.nd.fr, .int .i64 x.nd.til] 53) := Blk.new _ _ _; clear b2)
            | (go_at_call 15; (with_reducible refine (SS.out _ HB2x.out).mono ?_); clear SS; rintro e w3 ⟨cs, rfl, HQ, b3⟩; obtain ⟨q0, q1, q2, q3, q4, q6, q7, q11, q12, rfl⟩ := HQ.out.ex; have HB3 : Hid (Below wr.heap.size wr w3) := HB2x.out.trans (b3.mono HB2x.out.size); have HN3 : Hid (Blk w3 w2.heap.size #[.int .u64 x.nd.id, .int .u64 x.nd.par, .int .i64 0, .int .u64 x.nd.tree, .int .i64 x.nd.dep, .int .i64 x.nd.fr, .int .i64 x.nd.til] 53) := Blk.below HN2.out b3 (Blk.lt HN2.out); clear b3 HN2)
            | (refine wpList_stW rfl 62 _ _ rfl w3.heap.size zSpL [q0, q1, q2, q3, q4, .string x.a.svc, q6, q7, .int .i64 x.a.status, .int .i64 x.a.start, .int .i64 x.a.fin, q11, q12] 62 (Blk.new _ _ _) rfl rfl rfl (by kernel_rfl) HQ.out.one ?_; intro w4 n4 u4; have HB4 : Hid (Below wr.heap.size wr w4) := (HB3.out.alloc HB3.out.size _).trans (u4.below (by have := HB3.out.size; simp; omega) (fun j hj e => by have := HB3.out.size; omega)); have HS4 : Hid (Blk w4 w3.heap.size ([q0, q1, q2, q3, q4, .string x.a.svc, q6, q7, .int .i64 x.a.status, .int .i64 x.a.start, .int .i64 x.a.fin, q11, q12] : List Value).toArray 62) := n4; have HN4 := Blk.upd (Blk.alloc HN3.out _) u4 (by have := Blk.lt HN3.out; omega); have c4 : w4.cell? ⟨w2.heap.size, 1, none⟩ = some (.int .u64 x.nd.par) := Blk.cell HN4 1 rfl; clear n4 u4 HN4 HN3)
            | (go_at_call 15; (with_reducible refine (SU.out _ HB4.out).mono ?_); clear SU; rintro e w5 ⟨cs, bb, rfl, HP, b5⟩; obtain ⟨p0, p1, p2, p3, p4, p6, p7, p8, p9, p10, p11, p12, rfl⟩ := HP.out.ex; have HB5 : Hid (Below wr.heap.size wr w5) := HB4.out.trans (b5.mono HB4.out.size); have HS5 : Hid (Blk w5 w3.heap.size ([q0, q1, q2, q3, q4, .string x.a.svc, q6, q7, .int .i64 x.a.status, .int .i64 x.a.start, .int .i64 x.a.fin, q11, q12] : List Value).toArray 62) := Blk.below HS4.out b5 (Blk.lt HS4.out); clear b5 HS4)
            | (refine wpList_stW rfl 62 _ _ rfl w5.heap.size zSpL [p0, p1, p2, p3, p4, .string x.a.svc, p6, p7, p8, p9, p10, p11, p12] 62 (Blk.new _ _ _) rfl rfl rfl (by kernel_rfl) HP.out.one ?_; intro w6 n6 u6; have HB6 : Hid (Below wr.heap.size wr w6) := (HB5.out.alloc HB5.out.size _).trans (u6.below (by have := HB5.out.size; simp; omega) (fun j hj e => by have := HB5.out.size; omega)); have HU6 : Hid (Blk w6 w5.heap.size ([p0, p1, p2, p3, p4, .string x.a.svc, p6, p7, p8, p9, p10, p11, p12] : List Value).toArray 62) := n6; have HS6 : Hid (Blk w6 w3.heap.size ([q0, q1, q2, q3, q4, .string x.a.svc, q6, q7, .int .i64 x.a.status, .int .i64 x.a.start, .int .i64 x.a.fin, q11, q12] : List Value).toArray 62) := Blk.upd (Blk.alloc HS5.out _) u6 (by have := Blk.lt HS5.out; omega); have s6 : w6.cell? ⟨w3.heap.size, 5, none⟩ = some (.string x.a.svc) := Blk.cell HS6.out 5 rfl; have t6 : w6.cell? ⟨w5.heap.size, 5, none⟩ = some (.string x.a.svc) := Blk.cell HU6.out 5 rfl; clear n6 u6 HS5))
          go_roundw
          case rel => exact ⟨k + 1, by go_num, by omega, by show OwnCal _ _ _ _; rw [HE.out]; exact OwnCal.below HO.out HB6.out, HBr.out.trans (HB6.out.mono HBr.out.size)⟩
          case measure => simp [intOf]; omega
        · obtain ⟨⟨c0, c1, c2, c3, c5⟩, hc⟩ : ∃ c, callOf sv x.a = c := ⟨_, rfl⟩
          have HE : Hid (ofL X (k + 1) = L ++ [(c0, c1, c2, c3, c5)]) := by
            have h1 : ofL X (k + 1) = L ++ ofOne X x := HT.out
            rw [HC'.out horg hsv, hc] at h1
            exact h1
          rw [hc] at BT
          unfold calV calL at BT
          simp only at BT
          rw [horg] at ND
          have hq : (x.a.svc.toList == sv.toList) = false := by rw [str_eq]; simpa using hsv
          clear HC' HD' HT horg hsv hc
          go_wp2_with (first
            | (go_at_call 14; (with_reducible refine ND.mono ?_); clear ND; rintro e w2 ⟨rfl, b2⟩; have HB2 : Hid (Below wr.heap.size wr w2) := b2; have HB2x : Hid (Below wr.heap.size wr (w2.alloc (.cells #[.int .u64 x.nd.id, .int .u64 x.nd.par, .int .i64 0, .int .u64 x.nd.tree, .int .i64 x.nd.dep, .int .i64 x.nd.fr, .int .i64 x.nd.til] 53))) := b2.alloc b2.size _; have HN2 : Hid (Blk (w2.alloc (.cells #[.int .u64 x.nd.id, .int .u64 x.nd.par, .int .i64 0, .int .u64 x.nd.tree, .int .i64 x.nd.dep, .int .i64 x.nd.fr, .int .i64 x.nd.til] 53)) w2.heap.size #[.int .u64 x.nd.id, .int .u64 x.nd.par, .int .i64 0, .int .u64 x.nd.tree, .int .i64 x.nd.dep, .int .i64 x.nd.fr, .int .i64 x.nd.til] 53) := Blk.new _ _ _; clear b2)
            | (go_at_call 15; (with_reducible refine (SS.out _ HB2x.out).mono ?_); clear SS; rintro e w3 ⟨cs, rfl, HQ, b3⟩; obtain ⟨q0, q1, q2, q3, q4, q6, q7, q11, q12, rfl⟩ := HQ.out.ex; have HB3 : Hid (Below wr.heap.size wr w3) := HB2x.out.trans (b3.mono HB2x.out.size); have HN3 : Hid (Blk w3 w2.heap.size #[.int .u64 x.nd.id, .int .u64 x.nd.par, .int .i64 0, .int .u64 x.nd.tree, .int .i64 x.nd.dep, .int .i64 x.nd.fr, .int .i64 x.nd.til] 53) := Blk.below HN2.out b3 (Blk.lt HN2.out); clear b3 HN2)
            | (refine wpList_stW rfl 62 _ _ rfl w3.heap.size zSpL [q0, q1, q2, q3, q4, .string x.a.svc, q6, q7, .int .i64 x.a.status, .int .i64 x.a.start, .int .i64 x.a.fin, q11, q12] 62 (Blk.new _ _ _) rfl rfl rfl (by kernel_rfl) HQ.out.one ?_; intro w4 n4 u4; have HB4 : Hid (Below wr.heap.size wr w4) := (HB3.out.alloc HB3.out.size _).trans (u4.below (by have := HB3.out.size; simp; omega) (fun j hj e => by have := HB3.out.size; omega)); have HS4 : Hid (Blk w4 w3.heap.size ([q0, q1, q2, q3, q4, .string x.a.svc, q6, q7, .int .i64 x.a.status, .int .i64 x.a.start, .int .i64 x.a.fin, q11, q12] : List Value).toArray 62) := n4; have HN4 := Blk.upd (Blk.alloc HN3.out _) u4 (by have := Blk.lt HN3.out; omega); have c4 : w4.cell? ⟨w2.heap.size, 1, none⟩ = some (.int .u64 x.nd.par) := Blk.cell HN4 1 rfl; clear n4 u4 HN4 HN3)
            | (go_at_call 15; (with_reducible refine (SU.out _ HB4.out).mono ?_); clear SU; rintro e w5 ⟨cs, bb, rfl, HP, b5⟩; obtain ⟨p0, p1, p2, p3, p4, p6, p7, p8, p9, p10, p11, p12, rfl⟩ := HP.out.ex; have HB5 : Hid (Below wr.heap.size wr w5) := HB4.out.trans (b5.mono HB4.out.size); have HS5 : Hid (Blk w5 w3.heap.size ([q0, q1, q2, q3, q4, .string x.a.svc, q6, q7, .int .i64 x.a.status, .int .i64 x.a.start, .int .i64 x.a.fin, q11, q12] : List Value).toArray 62) := Blk.below HS4.out b5 (Blk.lt HS4.out); clear b5 HS4)
            | (refine wpList_stW rfl 62 _ _ rfl w5.heap.size zSpL [p0, p1, p2, p3, p4, .string sv, p6, p7, p8, p9, p10, p11, p12] 62 (Blk.new _ _ _) rfl rfl rfl (by kernel_rfl) HP.out.one ?_; intro w6 n6 u6; have HB6 : Hid (Below wr.heap.size wr w6) := (HB5.out.alloc HB5.out.size _).trans (u6.below (by have := HB5.out.size; simp; omega) (fun j hj e => by have := HB5.out.size; omega)); have HU6 : Hid (Blk w6 w5.heap.size ([p0, p1, p2, p3, p4, .string sv, p6, p7, p8, p9, p10, p11, p12] : List Value).toArray 62) := n6; have HS6 : Hid (Blk w6 w3.heap.size ([q0, q1, q2, q3, q4, .string x.a.svc, q6, q7, .int .i64 x.a.status, .int .i64 x.a.start, .int .i64 x.a.fin, q11, q12] : List Value).toArray 62) := Blk.upd (Blk.alloc HS5.out _) u6 (by have := Blk.lt HS5.out; omega); have s6 : w6.cell? ⟨w3.heap.size, 5, none⟩ = some (.string x.a.svc) := Blk.cell HS6.out 5 rfl; have t6 : w6.cell? ⟨w5.heap.size, 5, none⟩ = some (.string sv) := Blk.cell HU6.out 5 rfl; clear n6 u6 HS5)
            | (refine wpList_load_mid rfl 62 _ rfl w5.heap.size 0 rfl [p0, p1, p2, p3, p4, .string sv, p6, p7, p8, p9, p10, p11, p12] _ (range13 HU6.out) Tryz.underlying62 rfl (by kernel_rfl) ?_)
            | (refine wpList_load_mid rfl 62 _ rfl w3.heap.size 0 rfl [q0, q1, q2, q3, q4, .string x.a.svc, q6, q7, .int .i64 x.a.status, .int .i64 x.a.start, .int .i64 x.a.fin, q11, q12] _ (range13 HS6.out) Tryz.underlying62 rfl (by kernel_rfl) ?_)
            | (go_at_call 32; (with_reducible refine (BT.out _ _ _ _ _ _ _ _ _ _ _ _ _ _ _ _ _ _ _ _ _ _).mono ?_); clear BT; rintro e w7 ⟨rfl, b7⟩; have HB7 : Hid (Below wr.heap.size wr w7) := HB6.out.trans (b7.mono HB6.out.size); have HO7 : Hid (OwnCal w1.heap.size w7 (.slice la ll lc) L) := OwnCal.below HO.out HB7.out; clear b7)
            | (at_builtin; refine wpList_appC w7 rfl _ _ rfl w1.heap.size (.slice la ll lc) L (c0, c1, c2, c3, c5) rfl HO7.out rfl (by have := HL.out; omega) (by have := HZ.out; have := HB7.out.size; omega) ?_; intro v8 w8 o8 u8; obtain ⟨a8, l8, c8, rfl⟩ := row_shape o8; have HO8 : Hid _ := o8; have HU8 : Hid _ := u8; clear o8 u8))
          go_roundw
          case rel => exact ⟨k + 1, by go_num, by omega, by show OwnCal _ _ _ _; rw [HE.out]; exact HO8.out, (HBr.out.trans (HB7.out.mono HBr.out.size)).trans (HU8.out.below (by have := HZ.out; have := HB7.out.size; omega) (fun j hj e => by omega))⟩
          case measure => simp [intOf]; omega
      · have HE : Hid (ofL X (k + 1) = L) := by
          have h1 : ofL X (k + 1) = L ++ ofOne X x := HT.out
          rw [HD'.out (fun h => horg h.1), List.append_nil] at h1
          exact h1
        have ho : (x.nd.org == 0) = false := by simpa using horg
        clear HC' HD' BT SS SU HT horg
        go_wp2_with (first
          | (go_at_call 14; (with_reducible refine ND.mono ?_); clear ND; rintro e w2 ⟨rfl, b2⟩; have HB2 : Hid (Below wr.heap.size wr w2) := b2; have HB2x : Hid (Below wr.heap.size wr (w2.alloc (.cells #[.int .u64 x.nd.id, .int .u64 x.nd.par, .int .i64 x.nd.org, .int .u64 x.nd.tree, .int .i64 x.nd.dep, .int .i64 x.nd.fr, .int .i64 x.nd.til] 53))) := b2.alloc b2.size _; have HN2 : Hid (Blk (w2.alloc (.cells #[.int .u64 x.nd.id, .int .u64 x.nd.par, .int .i64 x.nd.org, .int .u64 x.nd.tree, .int .i64 x.nd.dep, .int .i64 x.nd.fr, .int .i64 x.nd.til] 53)) w2.heap.size #[.int .u64 x.nd.id, .int .u64 x.nd.par, .int .i64 x.nd.org, .int .u64 x.nd.tree, .int .i64 x.nd.dep, .int .i64 x.nd.fr, .int .i64 x.nd.til] 53) := Blk.new _ _ _; clear b2))
        go_roundw
        case rel => exact ⟨k + 1, by go_num, by omega, by show OwnCal _ _ _ _; rw [HE.out]; exact OwnCal.below HO.out HB2x.out, HBr.out.trans (HB2x.out.mono HBr.out.size)⟩
        case measure => simp [intOf]; omega
    · have hk : k = n := by omega
      have HE : Hid (OfP X w (.returned (.slice la ll lc)) wr) := by
        have h1 := HO.out
        rw [hk, ← HN.out] at h1
        exact ⟨_, rfl, own_base h1 HB1.out.size, HB1.out.trans (HBr.out.mono HB1.out.size)⟩
      go_wp2
      go_ret
      exact HE.out
end Go.Proofs.YtbefeobikjnlpaaGreatDoor.sk
