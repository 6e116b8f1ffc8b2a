/-
  TsD.
-/
import Derived.Test.YtnffedmcblbkoaaGreatDoorTsCq
import Derived.Test.YtnffedmcblbkoaaGreatDoorFXq
import Derived.OrdersHeld
import Derived.BigQuiet
import Derived.Deep.RegionHeld3
namespace Go.Proofs.YtnffedmcblbkoaaGreatDoor
open Go Go.RowKit Go.Lib
set_option maxRecDepth 100000
def preT (M : List (Nat × Int)) (k : Nat) : Int := ((M.take k).map (fun p => p.2)).sum
theorem preT_next {M : List (Nat × Int)} {k : Nat} (hk : k < M.length) : preT M (k + 1) = preT M k + M[k].2 := by
 unfold preT
 rw [List.take_add_one, List.getElem?_eq_getElem hk, List.map_append, List.sum_append]
 simp
theorem sumT_pos : ∀ (M : List (Nat × Int)), (∀ p ∈ M, 0 < p.2) → 0 ≤ (M.map (fun p => p.2)).sum
 | [], _ => Int.le_refl _
 | p :: r, h => by
  have := sumT_pos r (fun q hq => h q (by simp [hq]))
  have := h p (by simp)
  simp only [List.map_cons, List.sum_cons]
  omega
theorem preT_bd {M : List (Nat × Int)} (hp : ∀ p ∈ M, 0 < p.2) (k : Nat) : 0 ≤ preT M k ∧ preT M k ≤ (M.map (fun p => p.2)).sum := by
 have e : (M.map (fun p => p.2)).sum = preT M k + ((M.drop k).map (fun p => p.2)).sum := by
  unfold preT
  rw [← List.sum_append, ← List.map_append, List.take_append_drop]
 have h1 := sumT_pos (M.take k) (fun p hq => hp p (List.mem_of_mem_take hq))
 have h2 := sumT_pos (M.drop k) (fun p hq => hp p (List.mem_of_mem_drop hq))
 rw [e]
 unfold preT at *
 omega
set_option maxHeartbeats 16000000 in
theorem topSums_any (ad : Option Addr) (n0 cap : Nat) (XL : List Sp) (P : Nat → Pl) (at_ : Int) (w : World) (hX : SpsAt w ad n0 XL P) (hF : ∀ a ∈ XL, a.Fits) (hS : ∀ a ∈ XL, a.Small) (hn0 : n0 * 168 ≤ 140737488351232) (hT : Tabs w) :
  Calls Tryz.prog 5 #[.slice ad n0 cap, .int .i64 at_] w fun e w' => e = .returned (.bool true) ∧ Below w.heap.size w w' := by
 have LV := lives_any w hT
 have GR : Hid (∀ w1, Below w.heap.size w w1 → Calls Tryz.prog 18 #[.slice ad n0 cap] w1 fun e w' => ∃ f sb Y X' K rv R C dp fin va vc, e = .returned (.tuple #[.pointer (some ⟨f, 0, none⟩), .slice va Y.length vc, .bool true]) ∧ ForestAt w' f sb X' K rv R ∧ FoB Y C dp fin X' K R ∧ Below w1.heap.size w1 w') := fun w1 hb => grownS_any ad n0 cap XL P w1 (hX.below hb) hF hS hn0 (hT.below hb)
 clear hX hF hS hT hn0
 go_enter Tryz.func5, Tryz.ntmps5
 go_upto_region 5 with (first
  | (go_at_call 17; (with_reducible refine LV.mono ?_); clear LV; rintro e w1 ⟨rfl, hb1⟩; have HB1 : Hid (Below w.heap.size w w1) := hb1; have G1 := GR.out w1 hb1; clear hb1 GR)
  | (go_at_call 18; (with_reducible refine G1.mono ?_); clear G1; rintro e w2 ⟨f, sb, Y, X, K, rv, R, C, dp, fin, va, vc, rfl, h1, h2, h3⟩))
 obtain ⟨ro, hro⟩ := h2.rootF9
 obtain ⟨N, hN⟩ : ∃ N : Nat, (N : Int) = 18446744073709551615 := ⟨18446744073709551615, rfl⟩
 have HB2 : Hid (Below w.heap.size w w2) := HB1.out.trans (h3.mono HB1.out.size)
 have hl := h2.fo.len
 have TI := times_any f sb X K rv R Y C dp fin w2 h1 h2 ro hro hN
 have HRO : Hid (∀ W1, Below w2.heap.size w2 W1 → Calls Tryz.prog 9 #[.pointer (some ⟨f, 0, none⟩)] W1 fun e w' => ∃ r, e = .returned (.slice (some ⟨r, 0, none⟩) R.length R.length) ∧ Blk w' r (fillC .u64 (idsOf X R) 0) 33 ∧ W1.heap.size ≤ r ∧ Below W1.heap.size W1 w') := fun W1 hb => roots_any f sb X K rv R W1 (h1.below hb)
 have HRT : Hid (∀ i (hi : i < R.length), ∃ x : Nat, x < Y.length ∧ (fin x).org ≠ 0 ∧ (fin x).tree = (fin x).id ∧ ∀ U rc, Blk U rc (fillC .u64 (idsOf X R) 0) 33 → U.cell? ⟨rc, i, none⟩ = some (.int .u64 (fin x).id)) := fun i hi => h2.idsR i hi
 have HND : Hid (∀ c, c < Y.length → ∀ W1, Below w2.heap.size w2 W1 → Calls Tryz.prog 10 #[.pointer (some ⟨f, 0, none⟩), .int .u64 (fin c).id] W1 fun e w' => e = .returned (.tuple #[ndV (fin c), .bool true]) ∧ Below W1.heap.size W1 w') := fun c hc W1 hb => by
  have e := (h2.fo.each c hc (by omega)).2
  have h := node_at (h1.below hb) c (by omega) (fin c).id (by rw [e])
  rwa [e] at h
 have HCH : Hid (∀ c, c < Y.length → ∀ W1, Below w2.heap.size w2 W1 → Calls Tryz.prog 15 #[.pointer (some ⟨f, 0, none⟩), .int .u64 (fin c).id] W1 fun e w' => ∃ r m, e = .returned (.slice (some ⟨r, 0, none⟩) m m) ∧ Hid ((knK K c).length = m ∧ m ≤ 1000 ∧ Blk w' r (fillC .u64 ((knK K c).map (fun c => (fin c).id)) 0) 33 ∧ ∀ k ∈ knK K c, k < Y.length) ∧ Below W1.heap.size W1 w') := fun c hc W1 hb => by
  have T := h2.senv c hc
  refine (children_at f sb X K rv R fin (knK K) W1 (h1.below hb) T.nd c T.xX (T.kn c T.xX).1 (T.kn c T.xX).2.1).mono ?_
  rintro e w' ⟨r, rfl, q1, _, q2⟩
  exact ⟨r, _, rfl, ⟨rfl, (T.kn c T.xX).2.2, q1, fun k hk => by have := (T.kn c T.xX).2.1 k hk; omega⟩, q2⟩
 have HCL : Hid (∀ y, y < Y.length → ∀ W1, Below w2.heap.size w2 W1 → Calls Tryz.prog 19 #[.pointer (some ⟨f, 0, none⟩), .int .u64 (fin y).id] W1 fun e w' => e = .returned (.agg #[.int .i64 (fin y).fr, .int .i64 (fin y).til]) ∧ Below W1.heap.size W1 w') := fun y hy W1 hb => by
  have e := (h2.fo.each y hy (by omega)).2
  exact clipT_any f sb X K rv R W1 (h1.below hb) y (by omega) (fin y) e
 have HBN : Hid (∀ y, y < Y.length → 0 ≤ (fin y).fr ∧ (fin y).fr ≤ (fin y).til ∧ (fin y).til ≤ 4611686018427387904) := fun y hy => h2.inn (dp y) y rfl hy
 have HCO : Hid (∀ y, y < Y.length → ∀ ca m cc U, (knK K y).length = m → m ≤ 1000 → LieIn iv.ivC 2 U ca (kidI fin K y) → Calls Tryz.prog 21 #[.agg #[.int .i64 (fin y).fr, .int .i64 (fin y).til], .slice ca m cc] U fun e W' => e = .returned (.int .u64 (iv.muV N (memI (kidI fin K y)))) ∧ Below U.heap.size U W') := fun y hy ca m cc U hm hm1 hL => by
  have hb := h2.inn (dp y) y rfl hy
  refine covered_any (fin y).fr (fin y).til (kidI fin K y) ca m cc U hL (by unfold kidI; rw [List.length_map]; exact hm) hm1 ⟨hb.1, hb.2.1, hb.2.2⟩ (fun i hi => ?_) hN
  obtain ⟨c, hc, rfl⟩ := List.mem_map.1 hi
  have hck := h2.kid y hy c hc
  have hcl := ((h2.mem y hy c).1 hc).1
  have hbc := h2.inn (dp c) c rfl hcl
  simp only
  omega
 have HMU : Hid (∀ y, y < Y.length → 0 ≤ iv.muV N (memI (kidI fin K y)) ∧ iv.muV N (memI (kidI fin K y)) ≤ lenI ((fin y).fr, (fin y).til) ∧ lenI ((fin y).fr, (fin y).til) ≤ 4611686018427387904 ∧ selfX fin K dp ro y ≤ lenI ((fin y).fr, (fin y).til) - iv.muV N (memI (kidI fin K y)) ∧ 0 ≤ selfX fin K dp ro y) := fun y hy => by
  obtain ⟨hx, _, _, _, _, _⟩ := hro y hy
  obtain ⟨_, n2, _, n4⟩ := h2.legsO hx
  have q1 := h2.ownLe hx n2.tile (fun l hl => (n4 l hl).2.2) hy hN
  have q2 := h2.kidsLe hy hN
  have q3 := (cntM_nonneg (memI (kidI fin K y)) (-9223372036854775808) N).1
  have q4 := h2.inn (dp y) y rfl hy
  have q5 : lenI ((fin y).fr, (fin y).til) ≤ 4611686018427387904 := by unfold lenI; simp only; split <;> omega
  have q6 := sumH_nn (legsX fin K dp (ro y)) y
  have e : iv.muV N (memI (kidI fin K y)) = cntM (memI (kidI fin K y)) (-9223372036854775808) N := rfl
  rw [e]
  unfold selfX
  exact ⟨q3, q2, q5, by omega, q6⟩
 have HRI : Hid (∀ i j, i < j → j < Y.length → (fin i).id < (fin j).id) := fun i j hij hj => h2.idRise hij hj
 have HIJ : Hid (∀ a b, a < Y.length → b < Y.length → (fin a).id = (fin b).id → a = b) := fun a b q1 q2 e => h2.inj q1 q2 e
 have HLG : Hid (∀ x, x < Y.length → (fin x).org ≠ 0 → ∀ W1, Below w2.heap.size w2 W1 → Calls Tryz.prog 11 #[.pointer (some ⟨f, 0, none⟩), .int .u64 (fin x).id] W1 fun e W' => ∃ ad cap, e = .returned (.tuple #[.slice ad (legsX fin K dp x).length cap, .int .i64 0]) ∧ Hid (LieIn (fun l => legC (legI fin l)) 3 W' ad (legsX fin K dp x)) ∧ Below W1.heap.size W1 W') := fun x hx ho W1 hb => legsO_any h1 h2 hb x hx ho
 have HTL : Hid (∀ x, x < Y.length → ∀ ad q cap W1, (legsX fin K dp x).length = q → LieIn (fun l => legC (legI fin l)) 3 W1 ad (legsX fin K dp x) → Calls Tryz.prog 23 #[.slice ad q cap, .agg #[.int .i64 (fin x).fr, .int .i64 (fin x).til]] W1 fun e W' => e = .returned (.bool true) ∧ Below W1.heap.size W1 W') := fun x hx ad q cap W1 hq hL => by
  have hb := h2.inn (dp x) x rfl hx
  exact tiled_any ad q cap ((legsX fin K dp x).map (legI fin)) (fin x).fr (fin x).til W1 (by rw [List.length_map]; exact hq) (h2.tilO hx) (hL.mapT (fun l _ => rfl)) (by omega)
 have HLN : Hid (∀ x, x < Y.length → (legsX fin K dp x).length ≤ 2000 ∧ ∀ l ∈ legsX fin K dp x, 0 ≤ l.2.1 ∧ l.2.1 < l.2.2 ∧ l.2.2 ≤ 4611686018427387904 ∧ ∀ t, l.2.1 ≤ t → t < l.2.2 → ownX fin K dp x t = l.1) := fun x hx => by
  obtain ⟨_, n2, n3, n4⟩ := h2.legsO hx
  refine ⟨n3, fun l hl => ?_⟩
  obtain ⟨a1, _, a3, a4, a5, _⟩ := n4 l hl
  have hi := h2.inn (dp l.1) l.1 rfl a1
  exact ⟨by omega, a4, by omega, n2.own l hl⟩
 have HIN : Hid (∀ x, x < Y.length → ∀ t W1, Below w2.heap.size w2 W1 → Calls Tryz.prog 24 #[.pointer (some ⟨f, 0, none⟩), .int .u64 (fin x).id, .int .i64 t] W1 fun e w' => e = .returned (.int .u64 (fin (ownX fin K dp x t)).id) ∧ Below W1.heap.size W1 w') := fun x hx t W1 hb => inner_any f sb X K rv R Y C dp fin W1 (h1.below hb) h2 x hx t
 have HOW : Hid (∀ x, x < Y.length → (fin x).org ≠ 0 → ∀ t, (fin x).fr ≤ t → t < (fin x).til → ∀ W1, Below w2.heap.size w2 W1 → Calls Tryz.prog 26 #[.pointer (some ⟨f, 0, none⟩), .int .u64 (fin x).id, .int .i64 t] W1 fun e w' => e = .returned (.tuple #[.int .u64 (fin (ownX fin K dp x t)).id, .int .i64 0]) ∧ Below W1.heap.size W1 w') := fun x hx ho t q1 q2 W1 hb => ownerO_any h1 h2 hb x hx ho t q1 q2
 have HSH : Hid (∀ x, x < Y.length → (fin x).org ≠ 0 → ∃ M : List (Nat × Int), M.length ≤ 1000 ∧ (∀ p ∈ M, p.1 < Y.length ∧ 0 < p.2 ∧ p.2 ≤ lenI ((fin p.1).fr, (fin p.1).til) - iv.muV N (memI (kidI fin K p.1))) ∧ (M.map (fun p => p.2)).sum = (fin x).til - (fin x).fr ∧ ∀ W, Below w2.heap.size w2 W → Calls Tryz.prog 22 #[.pointer (some ⟨f, 0, none⟩), .int .u64 (fin x).id] W fun e W' => ∃ ad cap, e = .returned (.tuple #[.slice ad M.length cap, .int .i64 0]) ∧ Hid (LieIn (fun p => [.int .u64 (fin p.1).id, .int .u64 p.2]) 2 W' ad M) ∧ Below W.heap.size W W') := fun x hx ho => sharesT_any h1 h2 x hx ho hN
 have HSS : Hid (∀ x, x < Y.length → (fin x).tree = (fin x).id → (∀ y, y < Y.length → ((fin y).tree = (fin x).id → selfX fin K dp ro y = sumH (legsX fin K dp x) y) ∧ ((fin y).tree ≠ (fin x).id → sumH (legsX fin K dp x) y = 0)) ∧ sumN (sumH (legsX fin K dp x)) Y.length = (fin x).til - (fin x).fr ∧ ∀ k, 0 ≤ sumN (sumH (legsX fin K dp x)) k ∧ sumN (sumH (legsX fin K dp x)) k ≤ (fin x).til - (fin x).fr) := fun x hx ht => h2.selfSum hro hx ht
 have hn1 : Y.length ≤ 1000 := h2.one.len
 have hr1 : R.length ≤ 1000 := by
  have q := h2.rlen
  unfold rtN at q
  rwa [List.length_map] at q
 clear h1 h2 h3 hro hN hl HB1
 generalize Y.length = n at *
 obtain ⟨rn, hrn⟩ : ∃ m, R.length = m := ⟨_, rfl⟩
 have HRN : Hid (R.length = rn) := hrn
 rw [hrn] at HRO hr1
 clear hrn
 have nn0 : ((n : Int) != (n : Int)) = false := by simp
 go_wp2_with (go_at_call 8; (with_reducible refine TI.mono ?_); clear TI; rintro e w3 ⟨tb0, oa, oc, rfl, hrow, hlo, b3⟩; have HT3 : Hid (w3.ownsRow tb0 52 4 (.slice oa n oc) n ((List.range n).flatMap (timC fin K dp ro N)) ∧ Below w2.heap.size w2 w3) := ⟨hrow, b3⟩; clear hrow hlo b3)
 clear nn0
 have HLT : Hid (∀ U, Below w3.heap.size w3 U → LieIn (fun y => [.int .u64 (fin y).id, .int .u64 (lenI ((fin y).fr, (fin y).til)), .int .u64 (lenI ((fin y).fr, (fin y).til) - iv.muV N (memI (kidI fin K y))), .int .u64 (selfX fin K dp ro y)]) 4 U oa (List.range n)) := fun U hU => (LieIn.of_owns (f := timC fin K dp ro N) (fun _ => rfl) HT3.out.1 List.length_range).below hU
 have HB3 : Hid (∀ U, Below w3.heap.size w3 U → Below w2.heap.size w2 U) := fun U hU => HT3.out.2.trans (hU.mono HT3.out.2.size)
 have HTC : Hid (∀ U, Below w3.heap.size w3 U → ∀ j, j < n → ∃ tb, oa = some ⟨tb, 0, none⟩ ∧ U.cell? ⟨tb, j * 4, none⟩ = some (.int .u64 (fin j).id) ∧ U.cell? ⟨tb, j * 4 + 1, none⟩ = some (.int .u64 (lenI ((fin j).fr, (fin j).til))) ∧ U.cell? ⟨tb, j * 4 + 2, none⟩ = some (.int .u64 (lenI ((fin j).fr, (fin j).til) - iv.muV N (memI (kidI fin K j)))) ∧ U.cell? ⟨tb, j * 4 + 3, none⟩ = some (.int .u64 (selfX fin K dp ro j))) := fun U hU j hj => by
  obtain ⟨tb, e, _, hc⟩ := HLT.out U hU (fun e => by have := congrArg List.length e; simp at this; omega)
  have h := fun q v hv => hc j (by simpa using hj) q v hv
  simp only [List.getElem_range] at h
  exact ⟨tb, e, h 0 _ rfl, h 1 _ rfl, h 2 _ rfl, h 3 _ rfl⟩
 clear HT3
 go_loopw [10] (fun z wr => ∃ i : Nat, z = .int .i64 i ∧ i ≤ n ∧ Hid (Below w3.heap.size w3 wr)) (fun z _ => n - (intOf z).toNat)
 case atStart => exact ⟨0, rfl, by omega, Below.refl _ _⟩
 case round =>
  obtain ⟨i, rfl, hi, HBR⟩ := hrel
  by_cases hlt : i < n
  ·as_aux_lemma =>
    have hin : (i : Int) < (n : Int) := by omega
    obtain ⟨tb, rfl, t0, _⟩ := HTC.out wr HBR.out i hlt
    have HTT : Hid (∀ U, Below wr.heap.size wr U → ∀ j, j < n → U.cell? ⟨tb, j * 4, none⟩ = some (.int .u64 (fin j).id) ∧ U.cell? ⟨tb, j * 4 + 1, none⟩ = some (.int .u64 (lenI ((fin j).fr, (fin j).til))) ∧ U.cell? ⟨tb, j * 4 + 2, none⟩ = some (.int .u64 (lenI ((fin j).fr, (fin j).til) - iv.muV N (memI (kidI fin K j)))) ∧ U.cell? ⟨tb, j * 4 + 3, none⟩ = some (.int .u64 (selfX fin K dp ro j))) := fun U hU j hj => by
     obtain ⟨t2, e, h⟩ := HTC.out U (HBR.out.trans (hU.mono HBR.out.size)) j hj
     injection e with e
     injection e with e _ _
     subst e
     exact h
    have HBW : Hid (∀ U, Below wr.heap.size wr U → Below w2.heap.size w2 U) := fun U hU => HB3.out U (HBR.out.trans (hU.mono HBR.out.size))
    have N1 := HND.out i hlt wr (HBW.out wr (Below.refl _ _))
    have HC1 : Hid (∀ U, Below wr.heap.size wr U → Calls Tryz.prog 15 #[.pointer (some ⟨f, 0, none⟩), .int .u64 (fin i).id] U fun e w' => ∃ r m, e = .returned (.slice (some ⟨r, 0, none⟩) m m) ∧ Hid ((knK K i).length = m ∧ m ≤ 1000 ∧ Blk w' r (fillC .u64 ((knK K i).map (fun c => (fin c).id)) 0) 33 ∧ ∀ k ∈ knK K i, k < n) ∧ Below U.heap.size U w') := fun U hU => HCH.out i hlt U (HBW.out U hU)
    unfold ndV at N1
    go_upto_region 12 with (go_at_call 10; (with_reducible refine N1.mono ?_); clear N1; rintro e w5 ⟨rfl, b5⟩; have HB5 : Hid (Below wr.heap.size wr w5) := b5; clear b5)
    obtain ⟨V5, hV5⟩ : ∃ V, w5.alloc (.cells #[.int .u64 (fin i).id, .int .u64 (fin i).par, .int .i64 (fin i).org, .int .u64 (fin i).tree, .int .i64 (fin i).dep, .int .i64 (fin i).fr, .int .i64 (fin i).til] 38) = V := ⟨_, rfl⟩
    have HBN5 : Hid (Blk V5 w5.heap.size [.int .u64 (fin i).id, .int .u64 (fin i).par, .int .i64 (fin i).org, .int .u64 (fin i).tree, .int .i64 (fin i).dep, .int .i64 (fin i).fr, .int .i64 (fin i).til].toArray 38) := by rw [← hV5]; exact Blk.new _ _ _
    have BV : Hid (Below wr.heap.size wr V5) := by rw [← hV5]; exact HB5.out.alloc HB5.out.size _
    have c1 := (HTT.out V5 BV.out i hlt).1
    have C2 := HC1.out V5 BV.out
    rw [hV5]
    obtain ⟨yb, hyb⟩ : ∃ b, w5.heap.size = b := ⟨_, rfl⟩
    rw [hyb] at HBN5 ⊢
    clear hV5 HB5 hyb t0 HC1
    go_upto_region 13 with (go_at_call 15; (with_reducible refine C2.mono ?_); clear C2; rintro e w6 ⟨r, m, rfl, HR6, b6⟩; have HW6 : Hid (Below wr.heap.size wr w6 ∧ Blk w6 yb [.int .u64 (fin i).id, .int .u64 (fin i).par, .int .i64 (fin i).org, .int .u64 (fin i).tree, .int .i64 (fin i).dep, .int .i64 (fin i).fr, .int .i64 (fin i).til].toArray 38) := ⟨BV.out.trans (b6.mono BV.out.size), HBN5.out.below b6 HBN5.out.lt⟩; clear b6)
    clear c1 BV HBN5
    have hm1 : m ≤ 1000 := HR6.out.2.1
    obtain ⟨cs, hcs⟩ : ∃ c, kidI fin K i = c := ⟨_, rfl⟩
    have HCS : Hid (kidI fin K i = cs) := hcs
    have HI0 : Hid (AlO w6 cs 0 none 0 w6) := ⟨World.ownsRow_nil _ _ _ _, Below.refl _ _⟩
    clear hcs
    go_wp2
    go_loopw [14, 15] (fun z14 z15 wq => ∃ (k : Nat) (ca : Option Addr) (cc : Nat), z14 = .slice ca k cc ∧ z15 = .int .i64 k ∧ k ≤ m ∧ Hid (AlO w6 cs k ca cc wq)) (fun _ z15 _ => m - (intOf z15).toNat)
    case atStart => exact ⟨0, none, 0, rfl, rfl, by omega, HI0⟩
    case round =>
     clear HI0
     obtain ⟨k, ca, cc, rfl, rfl, hk, HA⟩ := hrel
     by_cases hkm : k < m
     ·as_aux_lemma =>
       have hkn : (k : Int) < (m : Int) := by omega
       have hkk : k < (knK K i).length := by rw [HR6.out.1]; exact hkm
       have c0 : wr.cell? ⟨r, k, none⟩ = some (.int .u64 (fin (knK K i)[k]).id) := (HR6.out.2.2.1.below HA.out.2 HR6.out.2.2.1.lt).cell k (by simp [fillC]; exact ⟨_, List.getElem?_eq_getElem (by simpa [knK] using hkk), rfl⟩)
       have hb := HW6.out.1.trans (HA.out.2.mono HW6.out.1.size)
       have CC := HCL.out (knK K i)[k] (HR6.out.2.2.2 _ (List.getElem_mem hkk)) wr (HBW.out wr hb)
       have HTK : Hid (cs.take (k + 1) = cs.take k ++ [((fin (knK K i)[k]).fr, (fin (knK K i)[k]).til)]) := by
        have hic : k < cs.length := by rw [← HCS.out]; unfold kidI; rw [List.length_map]; exact hkk
        have e : cs[k] = ((fin (knK K i)[k]).fr, (fin (knK K i)[k]).til) := by simp [← HCS.out, kidI]
        show _ = _
        rw [List.take_add_one, List.getElem?_eq_getElem hic, e]
        rfl
       clear hb
       generalize (knK K i)[k] = c at *
       generalize (fin c).fr = cf at *
       generalize (fin c).til = ct at *
       have HNX : Hid (∀ V va' vc' w', Below wr.heap.size wr V → w'.ownsRow w6.heap.size 36 2 (.slice va' (k + 1) vc') (k + 1) ((cs.take k).flatMap iv.ivC ++ [.int .i64 cf, .int .i64 ct]) → Upd (fun q => (Value.slice ca k cc).ownBlock = some q) V w' → AlO w6 cs (k + 1) va' vc' w') := fun V va' vc' w' hV ho hu => by
        have b5 := HA.out.2.trans (hV.mono HA.out.2.size)
        refine ⟨?_, b5.trans (hu.below b5.size (fun k hk e => by have := (owns_lt HA.out.1 e).1; omega))⟩
        rw [HTK.out, List.flatMap_append]
        exact ho
       have HOW2 : Hid (∀ V, Below wr.heap.size wr V → V.ownsRow w6.heap.size 36 2 (.slice ca k cc) k ((cs.take k).flatMap iv.ivC) ∧ w6.heap.size ≤ V.heap.size) := fun V hV => ⟨ownsRow_upd HA.out.1 (Upd.ofBelow (S := fun _ => False) hV (fun k h1 h2 => by omega)) (fun _ _ h => h), Nat.le_trans HA.out.2.size hV.size⟩
       clear HTK HA
       go_wp2_with (first
        | (go_at_call 19; (with_reducible refine CC.mono ?_); clear CC; rintro e w7 ⟨rfl, b7⟩; have HB7 : Hid (Below wr.heap.size wr w7) := b7; clear b7 c0)
        | (at_builtin; (refine wpList_appJO w7 rfl _ _ rfl w6.heap.size (.slice ca k cc) k _ cf ct _ rfl rfl (HOW2.out w7 HB7.out).1 rfl (by omega) (HOW2.out w7 HB7.out).2 ?_; intro va9 vc9 w9 o9 u9); have HI9 : Hid (AlO w6 cs (k + 1) va9 vc9 w9) := HNX.out w7 va9 vc9 w9 HB7.out o9 u9; clear o9 u9 HNX))
       go_roundw
       case rel => exact ⟨k + 1, va9, vc9, rfl, by go_num, by omega, HI9⟩
       case measure => (simp [intOf]; omega)
     ·obtain rfl : k = m := by omega
      have hkn : ¬ (k : Int) < (k : Int) := by omega
      have hcl : cs.length = k := by rw [← HCS.out]; unfold kidI; rw [List.length_map]; exact HR6.out.1
      have hAl := HA.out.1
      rw [List.take_of_length_le (by omega)] at hAl
      have HLC : Hid (∀ U, Below wr.heap.size wr U → LieIn iv.ivC 2 U ca cs) := fun U hU => (LieIn.of_owns (f := iv.ivC) (fun _ => rfl) hAl hcl).below hU
      have HW9 : Hid (Below w3.heap.size w3 wr) := HBR.out.trans ((HW6.out.1.trans (HA.out.2.mono HW6.out.1.size)).mono HBR.out.size)
      have HTU : Hid (∀ U, Below wr.heap.size wr U → (∀ j, j < n → U.cell? ⟨tb, j * 4, none⟩ = some (.int .u64 (fin j).id) ∧ U.cell? ⟨tb, j * 4 + 1, none⟩ = some (.int .u64 (lenI ((fin j).fr, (fin j).til))) ∧ U.cell? ⟨tb, j * 4 + 2, none⟩ = some (.int .u64 (lenI ((fin j).fr, (fin j).til) - iv.muV N (memI (kidI fin K j)))) ∧ U.cell? ⟨tb, j * 4 + 3, none⟩ = some (.int .u64 (selfX fin K dp ro j))) ∧ U.rangeAt yb 5 [.int .i64 (fin i).fr, .int .i64 (fin i).til]) := fun U hU => by
       have b := (HA.out.2.trans (hU.mono HA.out.2.size))
       have bk := HW6.out.2.below b HW6.out.2.lt
       refine ⟨HTT.out U (HW6.out.1.trans (b.mono HW6.out.1.size)), fun j v hv => ?_⟩
       rcases j with _ | _ | j
       ·exact bk.cell 5 (by simpa using hv)
       ·exact bk.cell 6 (by simpa using hv)
       ·simp at hv
      have HCV : Hid (∀ U, Below wr.heap.size wr U → Calls Tryz.prog 21 #[.agg #[.int .i64 (fin i).fr, .int .i64 (fin i).til], .slice ca k cc] U fun e W' => e = .returned (.int .u64 (iv.muV N (memI (kidI fin K i)))) ∧ Below U.heap.size U W') := fun U hU => HCO.out i hlt ca k cc U HR6.out.1 hm1 (by rw [HCS.out]; exact HLC.out U hU)
      have HPV : Hid (∀ U, Below wr.heap.size wr U → ∀ j, i = j + 1 → ∃ pid, U.cell? ⟨tb, j * 4, none⟩ = some (.int .u64 (fin j).id) ∧ pid = (fin j).id ∧ pid < (fin i).id) := fun U hU j hj => ⟨_, ((HTU.out U hU).1 j (by omega)).1, rfl, HRI.out j i (by omega) hlt⟩
      have HTI : Hid (∀ U, Below wr.heap.size wr U → (U.cell? ⟨tb, i * 4, none⟩ = some (.int .u64 (fin i).id) ∧ U.cell? ⟨tb, i * 4 + 1, none⟩ = some (.int .u64 (lenI ((fin i).fr, (fin i).til))) ∧ U.cell? ⟨tb, i * 4 + 2, none⟩ = some (.int .u64 (lenI ((fin i).fr, (fin i).til) - iv.muV N (memI (kidI fin K i)))) ∧ U.cell? ⟨tb, i * 4 + 3, none⟩ = some (.int .u64 (selfX fin K dp ro i))) ∧ U.rangeAt yb 5 [.int .i64 (fin i).fr, .int .i64 (fin i).til]) := fun U hU => ⟨(HTU.out U hU).1 i hlt, (HTU.out U hU).2⟩
      have hbn := HBN.out i hlt
      have LO : Hid (∀ U, Calls Tryz.prog 20 #[.agg #[.int .i64 (fin i).fr, .int .i64 (fin i).til]] U fun e w' => e = .returned (.int .u64 (lenI ((fin i).fr, (fin i).til))) ∧ Below U.heap.size U w') := fun U => long_any _ _ (by omega) U
      obtain ⟨mu1, mu2, mu3, mu4, mu5⟩ := HMU.out i hlt
      clear HTU HA HLC HW6 HR6 hbn HCS hAl hcl HTT
      generalize lenI ((fin i).fr, (fin i).til) = le at *
      generalize iv.muV N (memI (kidI fin K i)) = mu at *
      generalize selfX fin K dp ro i = se at *
      obtain ⟨ex, hex⟩ : ∃ e, le - mu = e := ⟨_, rfl⟩
      rw [hex] at HTI mu4
      have wex : IntKind.u64.wrap (le - mu) = ex := by rw [IntKind.wrap_u64]; omega
      have nle : (le != le) = false := by simp
      have nex : (ex != ex) = false := by simp
      have dse : decide (ex < se) = false := decide_eq_false (by omega)
      clear hex mu1 mu2 mu3 mu4 mu5
      obtain ⟨dfr, hdf⟩ : ∃ d, (fin i).fr = d := ⟨_, rfl⟩
      obtain ⟨dtil, hdt⟩ : ∃ d, (fin i).til = d := ⟨_, rfl⟩
      obtain ⟨did, hdi⟩ : ∃ d, (fin i).id = d := ⟨_, rfl⟩
      rw [hdf, hdt] at HTI HCV LO
      rw [hdi] at HTI HPV
      clear hdf hdt hdi
      go_upto_region 18 with fail
      by_cases hi0 : i = 0
      ·as_aux_lemma =>
        have HKEEP : Hid (∀ U, Below wr.heap.size wr U → U.cell? ⟨tb, i * 4, none⟩ = some (.int .u64 did) ∧ U.cell? ⟨tb, i * 4 + 1, none⟩ = some (.int .u64 le) ∧ U.cell? ⟨tb, i * 4 + 2, none⟩ = some (.int .u64 ex) ∧ U.cell? ⟨tb, i * 4 + 3, none⟩ = some (.int .u64 se) ∧ U.rangeAt yb 5 [.int .i64 dfr, .int .i64 dtil]) := fun U hU => by
         obtain ⟨⟨a1, a2, a3, a4⟩, a5⟩ := HTI.out U hU
         exact ⟨a1, a2, a3, a4, a5⟩
        have dk : decide (0 < i) = false := decide_eq_false (by omega)
        have dk2 : decide ((0 : Int) < (i : Int)) = false := decide_eq_false (by omega)
        clear HPV hi0 HTI
        refine wp_region_held (S := fun U => U.cell? ⟨tb, i * 4, none⟩ = some (.int .u64 did) ∧ U.cell? ⟨tb, i * 4 + 1, none⟩ = some (.int .u64 le) ∧ U.cell? ⟨tb, i * 4 + 2, none⟩ = some (.int .u64 ex) ∧ U.cell? ⟨tb, i * 4 + 3, none⟩ = some (.int .u64 se) ∧ U.rangeAt yb 5 [.int .i64 dfr, .int .i64 dtil]) (by kernel_rfl) ?_
        change wpAnyH _ _ _ _ _ _ _ _ (World.drew _)
        have hS := HKEEP.out wr.drew ((Below.refl _ _).drew)
        refine takeH (i := 0) (v := .bool true) rfl (by kernel_rfl) (by kernel_rfl) (by kernel_rfl) (fun _ _ _ h => h) (Or.inl ⟨by rfl, fun W hW => by go_simp⟩) hS ?_
        simp only [pS]
        refine takeH (i := 1) (v := .bool false) rfl (by kernel_rfl) (by kernel_rfl) (by kernel_rfl) (fun _ _ _ h => h) (Or.inl ⟨by rfl, fun W hW => by go_simp⟩) hS ?_
        simp only [pS]
        refine takeH (i := 2) (v := .bool false) rfl (by kernel_rfl) (by kernel_rfl) (by kernel_rfl) (fun _ _ _ h => h) (Or.inl ⟨by rfl, fun W hW => by go_simp⟩) hS ?_
        simp only [pS]
        refine takeH (i := 3) (v := .int .i64 (i : Int)) rfl (by kernel_rfl) (by kernel_rfl) (by kernel_rfl) (fun _ _ _ h => h) (Or.inl ⟨by rfl, fun W hW => by go_simp⟩) hS ?_
        simp only [pS]
        refine takeH (i := 4) (v := .bool false) rfl (by kernel_rfl) (by kernel_rfl) (by kernel_rfl) (fun _ _ _ h => h) (Or.inl ⟨by rfl, fun W hW => by go_simp⟩) hS ?_
        simp only [pS]
        refine takeH (i := 5) (v := .bool false) rfl (by kernel_rfl) (by kernel_rfl) (by kernel_rfl) (fun _ _ _ h => h) (Or.inl ⟨by rfl, fun W hW => by go_simp⟩) hS ?_
        simp only [pS]
        refine takeH (i := 6) (v := undef) rfl (by kernel_rfl) (by kernel_rfl) (by kernel_rfl) (fun _ _ _ h => h) (Or.inr ⟨by rfl, rfl⟩) hS ?_
        simp only [pS]
        refine takeH (i := 7) (v := undef) rfl (by kernel_rfl) (by kernel_rfl) (by kernel_rfl) (fun _ _ _ h => h) (Or.inr ⟨by rfl, rfl⟩) hS ?_
        simp only [pS]
        refine takeH (i := 8) (v := undef) rfl (by kernel_rfl) (by kernel_rfl) (by kernel_rfl) (fun _ _ _ h => h) (Or.inr ⟨by rfl, rfl⟩) hS ?_
        simp only [pS]
        refine takeH (i := 9) (v := undef) rfl (by kernel_rfl) (by kernel_rfl) (by kernel_rfl) (fun _ _ _ h => h) (Or.inr ⟨by rfl, rfl⟩) hS ?_
        simp only [pS]
        refine takeH (i := 10) (v := undef) rfl (by kernel_rfl) (by kernel_rfl) (by kernel_rfl) (fun _ _ _ h => h) (Or.inr ⟨by rfl, rfl⟩) hS ?_
        simp only [pS]
        refine takeH (i := 11) (v := undef) rfl (by kernel_rfl) (by kernel_rfl) (by kernel_rfl) (fun _ _ _ h => h) (Or.inr ⟨by rfl, rfl⟩) hS ?_
        simp only [pS]
        refine takeH (i := 12) (v := undef) rfl (by kernel_rfl) (by kernel_rfl) (by kernel_rfl) (fun _ _ _ h => h) (Or.inr ⟨by rfl, rfl⟩) hS ?_
        simp only [pS]
        refine takeH (i := 13) (v := undef) rfl (by kernel_rfl) (by kernel_rfl) (by kernel_rfl) (fun _ _ _ h => h) (Or.inr ⟨by rfl, rfl⟩) hS ?_
        simp only [pS]
        refine takeH (i := 14) (v := undef) rfl (by kernel_rfl) (by kernel_rfl) (by kernel_rfl) (fun _ _ _ h => h) (Or.inr ⟨by rfl, rfl⟩) hS ?_
        simp only [pS]
        refine takeH (i := 15) (v := undef) rfl (by kernel_rfl) (by kernel_rfl) (by kernel_rfl) (fun _ _ _ h => h) (Or.inr ⟨by rfl, rfl⟩) hS ?_
        simp only [pS]
        refine takeH (i := 16) (v := undef) rfl (by kernel_rfl) (by kernel_rfl) (by kernel_rfl) (fun _ _ _ h => h) (Or.inr ⟨by rfl, rfl⟩) hS ?_
        simp only [pS]
        refine takeH (i := 17) (v := undef) rfl (by kernel_rfl) (by kernel_rfl) (by kernel_rfl) (fun _ _ _ h => h) (Or.inr ⟨by rfl, rfl⟩) hS ?_
        simp only [pS]
        refine takeH (i := 18) (v := .bool false) rfl (by kernel_rfl) (by kernel_rfl) (by kernel_rfl) (fun _ _ _ h => h) (Or.inl ⟨by rfl, fun W hW => by go_simp⟩) hS ?_
        simp only [pS]
        refine takeH (i := 19) (v := .bool false) rfl (by kernel_rfl) (by kernel_rfl) (by kernel_rfl) (fun _ _ _ h => h) (Or.inl ⟨by rfl, fun W hW => by go_simp⟩) hS ?_
        simp only [pS]
        refine takeH (i := 20) (v := .bool false) rfl (by kernel_rfl) (by kernel_rfl) (by kernel_rfl) (fun _ _ _ h => h) (Or.inl ⟨by rfl, fun W hW => by go_simp⟩) hS ?_
        simp only [pS]
        refine takeH (i := 21) (v := .slice (some ⟨tb, 0, none⟩) n oc) rfl (by kernel_rfl) (by kernel_rfl) (by kernel_rfl) (fun _ _ _ h => h) (Or.inl ⟨by rfl, fun W hW => by go_simp⟩) hS ?_
        simp only [pS]
        refine takeH (i := 22) (v := .int .i64 (i : Int)) rfl (by kernel_rfl) (by kernel_rfl) (by kernel_rfl) (fun _ _ _ h => h) (Or.inl ⟨by rfl, fun W hW => by go_simp⟩) hS ?_
        simp only [pS]
        refine takeH (i := 23) (v := .pointer (some ⟨tb, i * 4, none⟩)) rfl (by kernel_rfl) (by kernel_rfl) (by kernel_rfl) (fun _ _ _ h => h) (Or.inl ⟨by rfl, fun W hW => by go_simp⟩) hS ?_
        simp only [pS]
        refine takeH (i := 24) (v := .pointer (some ⟨tb, i * 4 + 1, none⟩)) rfl (by kernel_rfl) (by kernel_rfl) (by kernel_rfl) (fun _ _ _ h => h) (Or.inl ⟨by rfl, fun W hW => by go_simp⟩) hS ?_
        simp only [pS]
        refine takeH (i := 25) (v := .int .u64 le) rfl (by kernel_rfl) (by kernel_rfl) (by kernel_rfl) (fun _ _ _ h => h) (Or.inl ⟨by rfl, fun W hW => by obtain ⟨s0, s1, s2, s3, s4⟩ := hW; go_simp⟩) hS ?_
        simp only [pS]
        refine takeH (i := 26) (v := .pointer (some ⟨yb, 5, none⟩)) rfl (by kernel_rfl) (by kernel_rfl) (by kernel_rfl) (fun _ _ _ h => h) (Or.inl ⟨by rfl, fun W hW => by go_simp⟩) hS ?_
        simp only [pS]
        refine takeH (i := 27) (v := .agg #[.int .i64 dfr, .int .i64 dtil]) rfl (by kernel_rfl) (by kernel_rfl) (by kernel_rfl) (fun _ _ _ h => h) (yieldsIf_load_mid (by rfl) 36 _ rfl yb 5 rfl _ _ (fun W hW => hW.2.2.2.2) Tryz.underlying36 rfl (by kernel_rfl)) hS ?_
        simp only [pS]
        refine onlyH (i := 28) rfl (by kernel_rfl) (fun K hK => ?_)
        go_simp
        go_at_call 20
        (with_reducible refine (LO.out wr.drew).mono ?_)
        clear hS
        rintro e w8 ⟨rfl, bb⟩
        have hb8 : Below wr.heap.size wr w8 := ⟨bb.os, bb.tape, bb.output, bb.size, bb.block⟩
        have hS := HKEEP.out w8 hb8
        refine hK _ _ ⟨hS, ?_⟩
        clear hK K bb
        refine takeH (i := 29) (v := .bool false) rfl (by kernel_rfl) (by kernel_rfl) (by kernel_rfl) (fun _ _ _ h => h) (Or.inl ⟨by rfl, fun W hW => by go_simp⟩) hS ?_
        simp only [pS]
        refine takeH (i := 30) (v := .bool false) rfl (by kernel_rfl) (by kernel_rfl) (by kernel_rfl) (fun _ _ _ h => h) (Or.inl ⟨by rfl, fun W hW => by go_simp⟩) hS ?_
        simp only [pS]
        refine takeH (i := 31) (v := .bool false) rfl (by kernel_rfl) (by kernel_rfl) (by kernel_rfl) (fun _ _ _ h => h) (Or.inl ⟨by rfl, fun W hW => by go_simp⟩) hS ?_
        simp only [pS]
        refine takeH (i := 32) (v := .slice (some ⟨tb, 0, none⟩) n oc) rfl (by kernel_rfl) (by kernel_rfl) (by kernel_rfl) (fun _ _ _ h => h) (Or.inl ⟨by rfl, fun W hW => by go_simp⟩) hS ?_
        simp only [pS]
        refine takeH (i := 33) (v := .int .i64 (i : Int)) rfl (by kernel_rfl) (by kernel_rfl) (by kernel_rfl) (fun _ _ _ h => h) (Or.inl ⟨by rfl, fun W hW => by go_simp⟩) hS ?_
        simp only [pS]
        refine takeH (i := 34) (v := .pointer (some ⟨tb, i * 4, none⟩)) rfl (by kernel_rfl) (by kernel_rfl) (by kernel_rfl) (fun _ _ _ h => h) (Or.inl ⟨by rfl, fun W hW => by go_simp⟩) hS ?_
        simp only [pS]
        refine takeH (i := 35) (v := .pointer (some ⟨tb, i * 4 + 2, none⟩)) rfl (by kernel_rfl) (by kernel_rfl) (by kernel_rfl) (fun _ _ _ h => h) (Or.inl ⟨by rfl, fun W hW => by go_simp⟩) hS ?_
        simp only [pS]
        refine takeH (i := 36) (v := .int .u64 ex) rfl (by kernel_rfl) (by kernel_rfl) (by kernel_rfl) (fun _ _ _ h => h) (Or.inl ⟨by rfl, fun W hW => by obtain ⟨s0, s1, s2, s3, s4⟩ := hW; go_simp⟩) hS ?_
        simp only [pS]
        refine takeH (i := 37) (v := .pointer (some ⟨yb, 5, none⟩)) rfl (by kernel_rfl) (by kernel_rfl) (by kernel_rfl) (fun _ _ _ h => h) (Or.inl ⟨by rfl, fun W hW => by go_simp⟩) hS ?_
        simp only [pS]
        refine takeH (i := 38) (v := .agg #[.int .i64 dfr, .int .i64 dtil]) rfl (by kernel_rfl) (by kernel_rfl) (by kernel_rfl) (fun _ _ _ h => h) (yieldsIf_load_mid (by rfl) 36 _ rfl yb 5 rfl _ _ (fun W hW => hW.2.2.2.2) Tryz.underlying36 rfl (by kernel_rfl)) hS ?_
        simp only [pS]
        refine takeH (i := 40) (v := .pointer (some ⟨yb, 5, none⟩)) rfl (by kernel_rfl) (by kernel_rfl) (by kernel_rfl) (fun _ _ _ h => h) (Or.inl ⟨by rfl, fun W hW => by go_simp⟩) hS ?_
        simp only [pS]
        refine takeH (i := 41) (v := .agg #[.int .i64 dfr, .int .i64 dtil]) rfl (by kernel_rfl) (by kernel_rfl) (by kernel_rfl) (fun _ _ _ h => h) (yieldsIf_load_mid (by rfl) 36 _ rfl yb 5 rfl _ _ (fun W hW => hW.2.2.2.2) Tryz.underlying36 rfl (by kernel_rfl)) hS ?_
        simp only [pS]
        refine takeH (i := 42) (v := .slice ca k cc) rfl (by kernel_rfl) (by kernel_rfl) (by kernel_rfl) (fun _ _ _ h => h) (Or.inl ⟨by rfl, fun W hW => by go_simp⟩) hS ?_
        simp only [pS]
        refine onlyH (i := 39) rfl (by kernel_rfl) (fun K hK => ?_)
        go_simp
        go_at_call 20
        (with_reducible refine (LO.out w8).mono ?_)
        clear hS
        rintro e w9 ⟨rfl, bb⟩
        have hb9 : Below wr.heap.size wr w9 := hb8.trans (bb.mono hb8.size)
        have hS := HKEEP.out w9 hb9
        refine hK _ _ ⟨hS, ?_⟩
        clear hK K bb
        refine onlyH (i := 43) rfl (by kernel_rfl) (fun K hK => ?_)
        go_simp
        go_at_call 21
        (with_reducible refine (HCV.out w9 hb9).mono ?_)
        clear hS
        rintro e w10 ⟨rfl, bb⟩
        have hb10 : Below wr.heap.size wr w10 := hb9.trans (bb.mono hb9.size)
        have hS := HKEEP.out w10 hb10
        refine hK _ _ ⟨hS, ?_⟩
        clear hK K bb
        refine takeH (i := 44) (v := .int .u64 ex) rfl (by kernel_rfl) (by kernel_rfl) (by kernel_rfl) (fun _ _ _ h => h) (Or.inl ⟨by rfl, fun W hW => by go_simp⟩) hS ?_
        simp only [pS]
        refine takeH (i := 45) (v := .bool false) rfl (by kernel_rfl) (by kernel_rfl) (by kernel_rfl) (fun _ _ _ h => h) (Or.inl ⟨by rfl, fun W hW => by go_simp⟩) hS ?_
        simp only [pS]
        refine takeH (i := 46) (v := .bool false) rfl (by kernel_rfl) (by kernel_rfl) (by kernel_rfl) (fun _ _ _ h => h) (Or.inl ⟨by rfl, fun W hW => by go_simp⟩) hS ?_
        simp only [pS]
        refine takeH (i := 47) (v := .bool false) rfl (by kernel_rfl) (by kernel_rfl) (by kernel_rfl) (fun _ _ _ h => h) (Or.inl ⟨by rfl, fun W hW => by go_simp⟩) hS ?_
        simp only [pS]
        refine takeH (i := 48) (v := .slice (some ⟨tb, 0, none⟩) n oc) rfl (by kernel_rfl) (by kernel_rfl) (by kernel_rfl) (fun _ _ _ h => h) (Or.inl ⟨by rfl, fun W hW => by go_simp⟩) hS ?_
        simp only [pS]
        refine takeH (i := 49) (v := .int .i64 (i : Int)) rfl (by kernel_rfl) (by kernel_rfl) (by kernel_rfl) (fun _ _ _ h => h) (Or.inl ⟨by rfl, fun W hW => by go_simp⟩) hS ?_
        simp only [pS]
        refine takeH (i := 50) (v := .pointer (some ⟨tb, i * 4, none⟩)) rfl (by kernel_rfl) (by kernel_rfl) (by kernel_rfl) (fun _ _ _ h => h) (Or.inl ⟨by rfl, fun W hW => by go_simp⟩) hS ?_
        simp only [pS]
        refine takeH (i := 51) (v := .pointer (some ⟨tb, i * 4 + 3, none⟩)) rfl (by kernel_rfl) (by kernel_rfl) (by kernel_rfl) (fun _ _ _ h => h) (Or.inl ⟨by rfl, fun W hW => by go_simp⟩) hS ?_
        simp only [pS]
        refine takeH (i := 52) (v := .int .u64 se) rfl (by kernel_rfl) (by kernel_rfl) (by kernel_rfl) (fun _ _ _ h => h) (Or.inl ⟨by rfl, fun W hW => by obtain ⟨s0, s1, s2, s3, s4⟩ := hW; go_simp⟩) hS ?_
        simp only [pS]
        refine takeH (i := 53) (v := .slice (some ⟨tb, 0, none⟩) n oc) rfl (by kernel_rfl) (by kernel_rfl) (by kernel_rfl) (fun _ _ _ h => h) (Or.inl ⟨by rfl, fun W hW => by go_simp⟩) hS ?_
        simp only [pS]
        refine takeH (i := 54) (v := .int .i64 (i : Int)) rfl (by kernel_rfl) (by kernel_rfl) (by kernel_rfl) (fun _ _ _ h => h) (Or.inl ⟨by rfl, fun W hW => by go_simp⟩) hS ?_
        simp only [pS]
        refine takeH (i := 55) (v := .pointer (some ⟨tb, i * 4, none⟩)) rfl (by kernel_rfl) (by kernel_rfl) (by kernel_rfl) (fun _ _ _ h => h) (Or.inl ⟨by rfl, fun W hW => by go_simp⟩) hS ?_
        simp only [pS]
        refine takeH (i := 56) (v := .pointer (some ⟨tb, i * 4 + 2, none⟩)) rfl (by kernel_rfl) (by kernel_rfl) (by kernel_rfl) (fun _ _ _ h => h) (Or.inl ⟨by rfl, fun W hW => by go_simp⟩) hS ?_
        simp only [pS]
        refine takeH (i := 57) (v := .int .u64 ex) rfl (by kernel_rfl) (by kernel_rfl) (by kernel_rfl) (fun _ _ _ h => h) (Or.inl ⟨by rfl, fun W hW => by obtain ⟨s0, s1, s2, s3, s4⟩ := hW; go_simp⟩) hS ?_
        simp only [pS]
        refine takeH (i := 58) (v := .bool false) rfl (by kernel_rfl) (by kernel_rfl) (by kernel_rfl) (fun _ _ _ h => h) (Or.inl ⟨by rfl, fun W hW => by go_simp⟩) hS ?_
        simp only [pS]
        refine takeH (i := 59) (v := .bool false) rfl (by kernel_rfl) (by kernel_rfl) (by kernel_rfl) (fun _ _ _ h => h) (Or.inl ⟨by rfl, fun W hW => by go_simp⟩) hS ?_
        simp only [pS]
        have HB10 : Hid (Below wr.heap.size wr w10) := hb10
        clear hb8 hb9 hb10 hS
        refine wpAnyH_done (by kernel_rfl) ?_ _
        go_wp2
        go_roundw
        case rel => exact ⟨i + 1, by go_num, by omega, HW9.out.trans (HB10.out.mono HW9.out.size)⟩
        case measure => (simp [intOf]; omega)
      ·as_aux_lemma =>
        obtain ⟨j, hij⟩ : ∃ j, i = j + 1 := ⟨i - 1, by omega⟩
        obtain ⟨pid, _, hp2, hp3⟩ := HPV.out wr (Below.refl _ _) j hij
        have HKEEP : Hid (∀ U, Below wr.heap.size wr U → U.cell? ⟨tb, i * 4, none⟩ = some (.int .u64 did) ∧ U.cell? ⟨tb, i * 4 + 1, none⟩ = some (.int .u64 le) ∧ U.cell? ⟨tb, i * 4 + 2, none⟩ = some (.int .u64 ex) ∧ U.cell? ⟨tb, i * 4 + 3, none⟩ = some (.int .u64 se) ∧ U.rangeAt yb 5 [.int .i64 dfr, .int .i64 dtil] ∧ U.cell? ⟨tb, j * 4, none⟩ = some (.int .u64 pid)) := fun U hU => by
         obtain ⟨⟨a1, a2, a3, a4⟩, a5⟩ := HTI.out U hU
         obtain ⟨_, b1, _, _⟩ := HPV.out U hU j hij
         rw [← hp2] at b1
         exact ⟨a1, a2, a3, a4, a5, b1⟩
        have HK0 : Hid (0 < i) := by show 0 < i; omega
        have hsub : (i : Int) - 1 = (j : Int) := by omega
        have hwr : IntKind.i64.wrap (j : Int) = (j : Int) := by simp [IntKind.wrap, IntKind.bits, IntKind.signed]; omega
        have hin3 : (j : Int) < (n : Int) := by omega
        have dge : decide (did ≤ pid) = false := decide_eq_false (by omega)
        clear HPV hi0 HTI hij hp2 hp3
        refine wp_region_held (S := fun U => U.cell? ⟨tb, i * 4, none⟩ = some (.int .u64 did) ∧ U.cell? ⟨tb, i * 4 + 1, none⟩ = some (.int .u64 le) ∧ U.cell? ⟨tb, i * 4 + 2, none⟩ = some (.int .u64 ex) ∧ U.cell? ⟨tb, i * 4 + 3, none⟩ = some (.int .u64 se) ∧ U.rangeAt yb 5 [.int .i64 dfr, .int .i64 dtil] ∧ U.cell? ⟨tb, j * 4, none⟩ = some (.int .u64 pid)) (by kernel_rfl) ?_
        change wpAnyH _ _ _ _ _ _ _ _ (World.drew _)
        have hS := HKEEP.out wr.drew ((Below.refl _ _).drew)
        refine takeH (i := 0) (v := .bool true) rfl (by kernel_rfl) (by kernel_rfl) (by kernel_rfl) (fun _ _ _ h => h) (Or.inl ⟨by rfl, fun W hW => by go_simp⟩) hS ?_
        simp only [pS]
        refine takeH (i := 1) (v := .bool false) rfl (by kernel_rfl) (by kernel_rfl) (by kernel_rfl) (fun _ _ _ h => h) (Or.inl ⟨by rfl, fun W hW => by go_simp⟩) hS ?_
        simp only [pS]
        refine takeH (i := 2) (v := .bool false) rfl (by kernel_rfl) (by kernel_rfl) (by kernel_rfl) (fun _ _ _ h => h) (Or.inl ⟨by rfl, fun W hW => by go_simp⟩) hS ?_
        simp only [pS]
        refine takeH (i := 3) (v := .int .i64 (i : Int)) rfl (by kernel_rfl) (by kernel_rfl) (by kernel_rfl) (fun _ _ _ h => h) (Or.inl ⟨by rfl, fun W hW => by go_simp⟩) hS ?_
        simp only [pS]
        refine takeH (i := 4) (v := .bool true) rfl (by kernel_rfl) (by kernel_rfl) (by kernel_rfl) (fun _ _ _ h => h) (Or.inl ⟨by rfl, fun W hW => by go_simp; exact HK0.out⟩) hS ?_
        simp only [pS]
        refine takeH (i := 5) (v := .bool true) rfl (by kernel_rfl) (by kernel_rfl) (by kernel_rfl) (fun _ _ _ h => h) (Or.inl ⟨by rfl, fun W hW => by go_simp⟩) hS ?_
        simp only [pS]
        refine takeH (i := 6) (v := .slice (some ⟨tb, 0, none⟩) n oc) rfl (by kernel_rfl) (by kernel_rfl) (by kernel_rfl) (fun _ _ _ h => h) (Or.inl ⟨by rfl, fun W hW => by go_simp⟩) hS ?_
        simp only [pS]
        refine takeH (i := 7) (v := .int .i64 (i : Int)) rfl (by kernel_rfl) (by kernel_rfl) (by kernel_rfl) (fun _ _ _ h => h) (Or.inl ⟨by rfl, fun W hW => by go_simp⟩) hS ?_
        simp only [pS]
        refine takeH (i := 8) (v := .pointer (some ⟨tb, i * 4, none⟩)) rfl (by kernel_rfl) (by kernel_rfl) (by kernel_rfl) (fun _ _ _ h => h) (Or.inl ⟨by rfl, fun W hW => by go_simp⟩) hS ?_
        simp only [pS]
        refine takeH (i := 9) (v := .pointer (some ⟨tb, i * 4, none⟩)) rfl (by kernel_rfl) (by kernel_rfl) (by kernel_rfl) (fun _ _ _ h => h) (Or.inl ⟨by rfl, fun W hW => by go_simp⟩) hS ?_
        simp only [pS]
        refine takeH (i := 10) (v := .int .u64 did) rfl (by kernel_rfl) (by kernel_rfl) (by kernel_rfl) (fun _ _ _ h => h) (Or.inl ⟨by rfl, fun W hW => by obtain ⟨s0, s1, s2, s3, s4, s5⟩ := hW; go_simp⟩) hS ?_
        simp only [pS]
        refine takeH (i := 11) (v := .slice (some ⟨tb, 0, none⟩) n oc) rfl (by kernel_rfl) (by kernel_rfl) (by kernel_rfl) (fun _ _ _ h => h) (Or.inl ⟨by rfl, fun W hW => by go_simp⟩) hS ?_
        simp only [pS]
        refine takeH (i := 12) (v := .int .i64 (i : Int)) rfl (by kernel_rfl) (by kernel_rfl) (by kernel_rfl) (fun _ _ _ h => h) (Or.inl ⟨by rfl, fun W hW => by go_simp⟩) hS ?_
        simp only [pS]
        refine takeH (i := 13) (v := .int .i64 (j : Int)) rfl (by kernel_rfl) (by kernel_rfl) (by kernel_rfl) (fun _ _ _ h => h) (Or.inl ⟨by rfl, fun W hW => by go_simp⟩) hS ?_
        simp only [pS]
        refine takeH (i := 14) (v := .pointer (some ⟨tb, j * 4, none⟩)) rfl (by kernel_rfl) (by kernel_rfl) (by kernel_rfl) (fun _ _ _ h => h) (Or.inl ⟨by rfl, fun W hW => by go_simp⟩) hS ?_
        simp only [pS]
        refine takeH (i := 15) (v := .pointer (some ⟨tb, j * 4, none⟩)) rfl (by kernel_rfl) (by kernel_rfl) (by kernel_rfl) (fun _ _ _ h => h) (Or.inl ⟨by rfl, fun W hW => by go_simp⟩) hS ?_
        simp only [pS]
        refine takeH (i := 16) (v := .int .u64 pid) rfl (by kernel_rfl) (by kernel_rfl) (by kernel_rfl) (fun _ _ _ h => h) (Or.inl ⟨by rfl, fun W hW => by obtain ⟨s0, s1, s2, s3, s4, s5⟩ := hW; go_simp⟩) hS ?_
        simp only [pS]
        refine takeH (i := 17) (v := .bool false) rfl (by kernel_rfl) (by kernel_rfl) (by kernel_rfl) (fun _ _ _ h => h) (Or.inl ⟨by rfl, fun W hW => by go_simp⟩) hS ?_
        simp only [pS]
        refine takeH (i := 18) (v := .bool false) rfl (by kernel_rfl) (by kernel_rfl) (by kernel_rfl) (fun _ _ _ h => h) (Or.inl ⟨by rfl, fun W hW => by go_simp⟩) hS ?_
        simp only [pS]
        refine takeH (i := 19) (v := .bool false) rfl (by kernel_rfl) (by kernel_rfl) (by kernel_rfl) (fun _ _ _ h => h) (Or.inl ⟨by rfl, fun W hW => by go_simp⟩) hS ?_
        simp only [pS]
        refine takeH (i := 20) (v := .bool false) rfl (by kernel_rfl) (by kernel_rfl) (by kernel_rfl) (fun _ _ _ h => h) (Or.inl ⟨by rfl, fun W hW => by go_simp⟩) hS ?_
        simp only [pS]
        refine takeH (i := 21) (v := .slice (some ⟨tb, 0, none⟩) n oc) rfl (by kernel_rfl) (by kernel_rfl) (by kernel_rfl) (fun _ _ _ h => h) (Or.inl ⟨by rfl, fun W hW => by go_simp⟩) hS ?_
        simp only [pS]
        refine takeH (i := 22) (v := .int .i64 (i : Int)) rfl (by kernel_rfl) (by kernel_rfl) (by kernel_rfl) (fun _ _ _ h => h) (Or.inl ⟨by rfl, fun W hW => by go_simp⟩) hS ?_
        simp only [pS]
        refine takeH (i := 23) (v := .pointer (some ⟨tb, i * 4, none⟩)) rfl (by kernel_rfl) (by kernel_rfl) (by kernel_rfl) (fun _ _ _ h => h) (Or.inl ⟨by rfl, fun W hW => by go_simp⟩) hS ?_
        simp only [pS]
        refine takeH (i := 24) (v := .pointer (some ⟨tb, i * 4 + 1, none⟩)) rfl (by kernel_rfl) (by kernel_rfl) (by kernel_rfl) (fun _ _ _ h => h) (Or.inl ⟨by rfl, fun W hW => by go_simp⟩) hS ?_
        simp only [pS]
        refine takeH (i := 25) (v := .int .u64 le) rfl (by kernel_rfl) (by kernel_rfl) (by kernel_rfl) (fun _ _ _ h => h) (Or.inl ⟨by rfl, fun W hW => by obtain ⟨s0, s1, s2, s3, s4, s5⟩ := hW; go_simp⟩) hS ?_
        simp only [pS]
        refine takeH (i := 26) (v := .pointer (some ⟨yb, 5, none⟩)) rfl (by kernel_rfl) (by kernel_rfl) (by kernel_rfl) (fun _ _ _ h => h) (Or.inl ⟨by rfl, fun W hW => by go_simp⟩) hS ?_
        simp only [pS]
        refine takeH (i := 27) (v := .agg #[.int .i64 dfr, .int .i64 dtil]) rfl (by kernel_rfl) (by kernel_rfl) (by kernel_rfl) (fun _ _ _ h => h) (yieldsIf_load_mid (by rfl) 36 _ rfl yb 5 rfl _ _ (fun W hW => hW.2.2.2.2.1) Tryz.underlying36 rfl (by kernel_rfl)) hS ?_
        simp only [pS]
        refine onlyH (i := 28) rfl (by kernel_rfl) (fun K hK => ?_)
        go_simp
        go_at_call 20
        (with_reducible refine (LO.out wr.drew).mono ?_)
        clear hS
        rintro e w8 ⟨rfl, bb⟩
        have hb8 : Below wr.heap.size wr w8 := ⟨bb.os, bb.tape, bb.output, bb.size, bb.block⟩
        have hS := HKEEP.out w8 hb8
        refine hK _ _ ⟨hS, ?_⟩
        clear hK K bb
        refine takeH (i := 29) (v := .bool false) rfl (by kernel_rfl) (by kernel_rfl) (by kernel_rfl) (fun _ _ _ h => h) (Or.inl ⟨by rfl, fun W hW => by go_simp⟩) hS ?_
        simp only [pS]
        refine takeH (i := 30) (v := .bool false) rfl (by kernel_rfl) (by kernel_rfl) (by kernel_rfl) (fun _ _ _ h => h) (Or.inl ⟨by rfl, fun W hW => by go_simp⟩) hS ?_
        simp only [pS]
        refine takeH (i := 31) (v := .bool false) rfl (by kernel_rfl) (by kernel_rfl) (by kernel_rfl) (fun _ _ _ h => h) (Or.inl ⟨by rfl, fun W hW => by go_simp⟩) hS ?_
        simp only [pS]
        refine takeH (i := 32) (v := .slice (some ⟨tb, 0, none⟩) n oc) rfl (by kernel_rfl) (by kernel_rfl) (by kernel_rfl) (fun _ _ _ h => h) (Or.inl ⟨by rfl, fun W hW => by go_simp⟩) hS ?_
        simp only [pS]
        refine takeH (i := 33) (v := .int .i64 (i : Int)) rfl (by kernel_rfl) (by kernel_rfl) (by kernel_rfl) (fun _ _ _ h => h) (Or.inl ⟨by rfl, fun W hW => by go_simp⟩) hS ?_
        simp only [pS]
        refine takeH (i := 34) (v := .pointer (some ⟨tb, i * 4, none⟩)) rfl (by kernel_rfl) (by kernel_rfl) (by kernel_rfl) (fun _ _ _ h => h) (Or.inl ⟨by rfl, fun W hW => by go_simp⟩) hS ?_
        simp only [pS]
        refine takeH (i := 35) (v := .pointer (some ⟨tb, i * 4 + 2, none⟩)) rfl (by kernel_rfl) (by kernel_rfl) (by kernel_rfl) (fun _ _ _ h => h) (Or.inl ⟨by rfl, fun W hW => by go_simp⟩) hS ?_
        simp only [pS]
        refine takeH (i := 36) (v := .int .u64 ex) rfl (by kernel_rfl) (by kernel_rfl) (by kernel_rfl) (fun _ _ _ h => h) (Or.inl ⟨by rfl, fun W hW => by obtain ⟨s0, s1, s2, s3, s4, s5⟩ := hW; go_simp⟩) hS ?_
        simp only [pS]
        refine takeH (i := 37) (v := .pointer (some ⟨yb, 5, none⟩)) rfl (by kernel_rfl) (by kernel_rfl) (by kernel_rfl) (fun _ _ _ h => h) (Or.inl ⟨by rfl, fun W hW => by go_simp⟩) hS ?_
        simp only [pS]
        refine takeH (i := 38) (v := .agg #[.int .i64 dfr, .int .i64 dtil]) rfl (by kernel_rfl) (by kernel_rfl) (by kernel_rfl) (fun _ _ _ h => h) (yieldsIf_load_mid (by rfl) 36 _ rfl yb 5 rfl _ _ (fun W hW => hW.2.2.2.2.1) Tryz.underlying36 rfl (by kernel_rfl)) hS ?_
        simp only [pS]
        refine takeH (i := 40) (v := .pointer (some ⟨yb, 5, none⟩)) rfl (by kernel_rfl) (by kernel_rfl) (by kernel_rfl) (fun _ _ _ h => h) (Or.inl ⟨by rfl, fun W hW => by go_simp⟩) hS ?_
        simp only [pS]
        refine takeH (i := 41) (v := .agg #[.int .i64 dfr, .int .i64 dtil]) rfl (by kernel_rfl) (by kernel_rfl) (by kernel_rfl) (fun _ _ _ h => h) (yieldsIf_load_mid (by rfl) 36 _ rfl yb 5 rfl _ _ (fun W hW => hW.2.2.2.2.1) Tryz.underlying36 rfl (by kernel_rfl)) hS ?_
        simp only [pS]
        refine takeH (i := 42) (v := .slice ca k cc) rfl (by kernel_rfl) (by kernel_rfl) (by kernel_rfl) (fun _ _ _ h => h) (Or.inl ⟨by rfl, fun W hW => by go_simp⟩) hS ?_
        simp only [pS]
        refine onlyH (i := 39) rfl (by kernel_rfl) (fun K hK => ?_)
        go_simp
        go_at_call 20
        (with_reducible refine (LO.out w8).mono ?_)
        clear hS
        rintro e w9 ⟨rfl, bb⟩
        have hb9 : Below wr.heap.size wr w9 := hb8.trans (bb.mono hb8.size)
        have hS := HKEEP.out w9 hb9
        refine hK _ _ ⟨hS, ?_⟩
        clear hK K bb
        refine onlyH (i := 43) rfl (by kernel_rfl) (fun K hK => ?_)
        go_simp
        go_at_call 21
        (with_reducible refine (HCV.out w9 hb9).mono ?_)
        clear hS
        rintro e w10 ⟨rfl, bb⟩
        have hb10 : Below wr.heap.size wr w10 := hb9.trans (bb.mono hb9.size)
        have hS := HKEEP.out w10 hb10
        refine hK _ _ ⟨hS, ?_⟩
        clear hK K bb
        refine takeH (i := 44) (v := .int .u64 ex) rfl (by kernel_rfl) (by kernel_rfl) (by kernel_rfl) (fun _ _ _ h => h) (Or.inl ⟨by rfl, fun W hW => by go_simp⟩) hS ?_
        simp only [pS]
        refine takeH (i := 45) (v := .bool false) rfl (by kernel_rfl) (by kernel_rfl) (by kernel_rfl) (fun _ _ _ h => h) (Or.inl ⟨by rfl, fun W hW => by go_simp⟩) hS ?_
        simp only [pS]
        refine takeH (i := 46) (v := .bool false) rfl (by kernel_rfl) (by kernel_rfl) (by kernel_rfl) (fun _ _ _ h => h) (Or.inl ⟨by rfl, fun W hW => by go_simp⟩) hS ?_
        simp only [pS]
        refine takeH (i := 47) (v := .bool false) rfl (by kernel_rfl) (by kernel_rfl) (by kernel_rfl) (fun _ _ _ h => h) (Or.inl ⟨by rfl, fun W hW => by go_simp⟩) hS ?_
        simp only [pS]
        refine takeH (i := 48) (v := .slice (some ⟨tb, 0, none⟩) n oc) rfl (by kernel_rfl) (by kernel_rfl) (by kernel_rfl) (fun _ _ _ h => h) (Or.inl ⟨by rfl, fun W hW => by go_simp⟩) hS ?_
        simp only [pS]
        refine takeH (i := 49) (v := .int .i64 (i : Int)) rfl (by kernel_rfl) (by kernel_rfl) (by kernel_rfl) (fun _ _ _ h => h) (Or.inl ⟨by rfl, fun W hW => by go_simp⟩) hS ?_
        simp only [pS]
        refine takeH (i := 50) (v := .pointer (some ⟨tb, i * 4, none⟩)) rfl (by kernel_rfl) (by kernel_rfl) (by kernel_rfl) (fun _ _ _ h => h) (Or.inl ⟨by rfl, fun W hW => by go_simp⟩) hS ?_
        simp only [pS]
        refine takeH (i := 51) (v := .pointer (some ⟨tb, i * 4 + 3, none⟩)) rfl (by kernel_rfl) (by kernel_rfl) (by kernel_rfl) (fun _ _ _ h => h) (Or.inl ⟨by rfl, fun W hW => by go_simp⟩) hS ?_
        simp only [pS]
        refine takeH (i := 52) (v := .int .u64 se) rfl (by kernel_rfl) (by kernel_rfl) (by kernel_rfl) (fun _ _ _ h => h) (Or.inl ⟨by rfl, fun W hW => by obtain ⟨s0, s1, s2, s3, s4, s5⟩ := hW; go_simp⟩) hS ?_
        simp only [pS]
        refine takeH (i := 53) (v := .slice (some ⟨tb, 0, none⟩) n oc) rfl (by kernel_rfl) (by kernel_rfl) (by kernel_rfl) (fun _ _ _ h => h) (Or.inl ⟨by rfl, fun W hW => by go_simp⟩) hS ?_
        simp only [pS]
        refine takeH (i := 54) (v := .int .i64 (i : Int)) rfl (by kernel_rfl) (by kernel_rfl) (by kernel_rfl) (fun _ _ _ h => h) (Or.inl ⟨by rfl, fun W hW => by go_simp⟩) hS ?_
        simp only [pS]
        refine takeH (i := 55) (v := .pointer (some ⟨tb, i * 4, none⟩)) rfl (by kernel_rfl) (by kernel_rfl) (by kernel_rfl) (fun _ _ _ h => h) (Or.inl ⟨by rfl, fun W hW => by go_simp⟩) hS ?_
        simp only [pS]
        refine takeH (i := 56) (v := .pointer (some ⟨tb, i * 4 + 2, none⟩)) rfl (by kernel_rfl) (by kernel_rfl) (by kernel_rfl) (fun _ _ _ h => h) (Or.inl ⟨by rfl, fun W hW => by go_simp⟩) hS ?_
        simp only [pS]
        refine takeH (i := 57) (v := .int .u64 ex) rfl (by kernel_rfl) (by kernel_rfl) (by kernel_rfl) (fun _ _ _ h => h) (Or.inl ⟨by rfl, fun W hW => by obtain ⟨s0, s1, s2, s3, s4, s5⟩ := hW; go_simp⟩) hS ?_
        simp only [pS]
        refine takeH (i := 58) (v := .bool false) rfl (by kernel_rfl) (by kernel_rfl) (by kernel_rfl) (fun _ _ _ h => h) (Or.inl ⟨by rfl, fun W hW => by go_simp⟩) hS ?_
        simp only [pS]
        refine takeH (i := 59) (v := .bool false) rfl (by kernel_rfl) (by kernel_rfl) (by kernel_rfl) (fun _ _ _ h => h) (Or.inl ⟨by rfl, fun W hW => by go_simp⟩) hS ?_
        simp only [pS]
        have HB10 : Hid (Below wr.heap.size wr w10) := hb10
        clear hb8 hb9 hb10 hS
        refine wpAnyH_done (by kernel_rfl) ?_ _
        go_wp2
        go_roundw
        case rel => exact ⟨i + 1, by go_num, by omega, HW9.out.trans (HB10.out.mono HW9.out.size)⟩
        case measure => (simp [intOf]; omega)
  ·obtain rfl : n = i := by omega
   have hin : ¬ (n : Int) < (n : Int) := by omega
   have R1 := HRO.out wr (HB3.out wr HBR.out)
   clear HCO HMU HRI HCH HRO
   go_wp2_with (go_at_call 9; (with_reducible refine R1.mono ?_); clear R1; rintro e w5 ⟨rr, rfl, hb5, hr5, b5⟩; have H5 : Hid (Blk w5 rr (fillC .u64 (idsOf X R) 0) 33 ∧ Below w3.heap.size w3 w5) := ⟨hb5, HBR.out.trans (b5.mono HBR.out.size)⟩; clear hb5 hr5 b5)
   have HU3 : Hid (∀ U, Below w5.heap.size w5 U → Below w3.heap.size w3 U) := fun U hU => H5.out.2.trans (hU.mono H5.out.2.size)
   have HU2 : Hid (∀ U, Below w5.heap.size w5 U → Below w2.heap.size w2 U) := fun U hU => HB3.out U (HU3.out U hU)
   have HRC : Hid (∀ i (hi : i < R.length), ∃ x : Nat, x < n ∧ (fin x).org ≠ 0 ∧ (fin x).tree = (fin x).id ∧ ∀ U, Below w5.heap.size w5 U → U.cell? ⟨rr, i, none⟩ = some (.int .u64 (fin x).id)) := fun i hi => by
    obtain ⟨x, a1, a2, a3, a4⟩ := HRT.out i hi
    exact ⟨x, a1, a2, a3, fun U hU => a4 U rr (H5.out.1.below hU H5.out.1.lt)⟩
   clear HBR H5 HRT hin
   go_loopw [17] (fun z wr => ∃ i : Nat, z = .int .i64 i ∧ i ≤ rn ∧ Hid (Below w5.heap.size w5 wr)) (fun z _ => rn - (intOf z).toNat)
   case atStart => exact ⟨0, rfl, by omega, Below.refl _ _⟩
   case round =>
    obtain ⟨i, rfl, hi, HBR⟩ := hrel
    by_cases hlt : i < rn
    ·as_aux_lemma =>
      have hin : (i : Int) < (rn : Int) := by omega
      obtain ⟨x, hx, hox, htx, hcx⟩ := HRC.out i (by rw [HRN.out]; exact hlt)
      have HX : Hid (x < n ∧ (fin x).org ≠ 0 ∧ (fin x).tree = (fin x).id) := ⟨hx, hox, htx⟩
      have HCX : Hid (∀ U, Below w5.heap.size w5 U → U.cell? ⟨rr, i, none⟩ = some (.int .u64 (fin x).id)) := hcx
      have c0 := HCX.out wr HBR.out
      have C1 := HCL.out x hx wr (HU2.out wr HBR.out)
      obtain ⟨M, hM1, hM2, hM3, hM4⟩ := HSH.out x hx hox
      have HMM : Hid ((∀ p ∈ M, p.1 < n ∧ 0 < p.2 ∧ p.2 ≤ lenI ((fin p.1).fr, (fin p.1).til) - iv.muV N (memI (kidI fin K p.1))) ∧ (M.map (fun p => p.2)).sum = (fin x).til - (fin x).fr) := ⟨hM2, hM3⟩
      have HMS : Hid (∀ W, Below w2.heap.size w2 W → Calls Tryz.prog 22 #[.pointer (some ⟨f, 0, none⟩), .int .u64 (fin x).id] W fun e W' => ∃ ad cap, e = .returned (.tuple #[.slice ad M.length cap, .int .i64 0]) ∧ Hid (LieIn (fun p => [.int .u64 (fin p.1).id, .int .u64 p.2]) 2 W' ad M) ∧ Below W.heap.size W W') := hM4
      obtain ⟨hs1, hs2, hs3⟩ := HSS.out x hx htx
      have HSX : Hid ((∀ y, y < n → ((fin y).tree = (fin x).id → selfX fin K dp ro y = sumH (legsX fin K dp x) y) ∧ ((fin y).tree ≠ (fin x).id → sumH (legsX fin K dp x) y = 0)) ∧ sumN (sumH (legsX fin K dp x)) n = (fin x).til - (fin x).fr ∧ ∀ k, 0 ≤ sumN (sumH (legsX fin K dp x)) k ∧ sumN (sumH (legsX fin K dp x)) k ≤ (fin x).til - (fin x).fr) := ⟨hs1, hs2, hs3⟩
      have hbn := HBN.out x hx
      have HBX : Hid (0 ≤ (fin x).fr ∧ (fin x).fr ≤ (fin x).til ∧ (fin x).til ≤ 4611686018427387904) := hbn
      have LO : Hid (∀ U, Calls Tryz.prog 20 #[.agg #[.int .i64 (fin x).fr, .int .i64 (fin x).til]] U fun e w' => e = .returned (.int .u64 ((fin x).til - (fin x).fr)) ∧ Below U.heap.size U w') := fun U => by
       have h := long_any (fin x).fr (fin x).til (by omega) U
       have e : lenI ((fin x).fr, (fin x).til) = (fin x).til - (fin x).fr := by unfold lenI; simp only; split <;> omega
       rwa [e] at h
      have HTX : Hid (∀ ad q cap W1, (legsX fin K dp x).length = q → LieIn (fun l => legC (legI fin l)) 3 W1 ad (legsX fin K dp x) → Calls Tryz.prog 23 #[.slice ad q cap, .agg #[.int .i64 (fin x).fr, .int .i64 (fin x).til]] W1 fun e W' => e = .returned (.bool true) ∧ Below W1.heap.size W1 W') := HTL.out x hx
      have HLX : Hid (∀ W1, Below w2.heap.size w2 W1 → Calls Tryz.prog 11 #[.pointer (some ⟨f, 0, none⟩), .int .u64 (fin x).id] W1 fun e W' => ∃ ad cap, e = .returned (.tuple #[.slice ad (legsX fin K dp x).length cap, .int .i64 0]) ∧ Hid (LieIn (fun l => legC (legI fin l)) 3 W' ad (legsX fin K dp x)) ∧ Below W1.heap.size W1 W') := HLG.out x hx hox
      have HLY := HLN.out x hx
      obtain ⟨hq1, hlg⟩ := HLY
      have HLL : Hid (∀ l ∈ legsX fin K dp x, 0 ≤ l.2.1 ∧ l.2.1 < l.2.2 ∧ l.2.2 ≤ 4611686018427387904 ∧ ∀ t, l.2.1 ≤ t → t < l.2.2 → ownX fin K dp x t = l.1) := hlg
      have HIX : Hid (∀ t W1, Below w2.heap.size w2 W1 → Calls Tryz.prog 24 #[.pointer (some ⟨f, 0, none⟩), .int .u64 (fin x).id, .int .i64 t] W1 fun e w' => e = .returned (.int .u64 (fin (ownX fin K dp x t)).id) ∧ Below W1.heap.size W1 w') := HIN.out x hx
      have HOX : Hid (∀ t, (fin x).fr ≤ t → t < (fin x).til → ∀ W1, Below w2.heap.size w2 W1 → Calls Tryz.prog 26 #[.pointer (some ⟨f, 0, none⟩), .int .u64 (fin x).id, .int .i64 t] W1 fun e w' => e = .returned (.tuple #[.int .u64 (fin (ownX fin K dp x t)).id, .int .i64 0]) ∧ Below W1.heap.size W1 w') := HOW.out x hx hox
      clear hcx hM2 hM3 hM4 hs1 hs2 hs3 hbn hlg hx hox htx
      obtain ⟨q, hq⟩ : ∃ q, (legsX fin K dp x).length = q := ⟨_, rfl⟩
      have HQ : Hid ((legsX fin K dp x).length = q) := hq
      rw [hq] at hq1 HLX
      clear hq
      obtain ⟨mq, hmq⟩ : ∃ q, M.length = q := ⟨_, rfl⟩
      have HMQ : Hid (M.length = mq) := hmq
      rw [hmq] at hM1 HMS
      clear hmq
      go_upto_region 25 with (go_at_call 19; (with_reducible refine C1.mono ?_); clear C1; rintro e w6 ⟨rfl, b6⟩; have HB6 : Hid (Below wr.heap.size wr w6) := b6; clear b6 c0)
      obtain ⟨V6, hV6⟩ : ∃ V, w6.alloc (.cells #[.int .i64 (fin x).fr, .int .i64 (fin x).til] 36) = V := ⟨_, rfl⟩
      have HBK6 : Hid (Blk V6 w6.heap.size [.int .i64 (fin x).fr, .int .i64 (fin x).til].toArray 36) := by rw [← hV6]; exact Blk.new _ _ _
      have HV6 : Hid (Below w5.heap.size w5 V6) := by rw [← hV6]; exact (HBR.out.trans (HB6.out.mono HBR.out.size)).alloc (Nat.le_trans HBR.out.size HB6.out.size) _
      rw [hV6]
      obtain ⟨cb, hcb⟩ : ∃ b, w6.heap.size = b := ⟨_, rfl⟩
      rw [hcb] at HBK6 ⊢
      clear hV6 HB6 hcb HBR
      have HK6 : Hid (∀ U, Below V6.heap.size V6 U → U.cell? ⟨cb, 0, none⟩ = some (.int .i64 (fin x).fr) ∧ U.cell? ⟨cb, 1, none⟩ = some (.int .i64 (fin x).til) ∧ U.cell? ⟨rr, i, none⟩ = some (.int .u64 (fin x).id) ∧ Below w5.heap.size w5 U) := fun U hU => by
       have b := HBK6.out.below hU HBK6.out.lt
       have bb := HV6.out.trans (hU.mono HV6.out.size)
       exact ⟨b.cell 0 rfl, b.cell 1 rfl, HCX.out U bb, bb⟩
      clear HBK6 HV6 HCX
      obtain ⟨dfr, hdf⟩ : ∃ d, (fin x).fr = d := ⟨_, rfl⟩
      obtain ⟨dtil, hdt⟩ : ∃ d, (fin x).til = d := ⟨_, rfl⟩
      rw [hdf, hdt] at HK6 LO HTX HSX HBX HOX
      rw [hdf, hdt] at HMM
      clear hdf hdt
      go_wp2
      go_loopw [19, 20] (fun z19 z20 wq => ∃ k : Nat, z19 = .int .u64 (sumN (sumH (legsX fin K dp x)) k) ∧ z20 = .int .i64 k ∧ k ≤ n ∧ Hid (Below V6.heap.size V6 wq)) (fun _ z20 _ => n - (intOf z20).toNat)
      case atStart => exact ⟨0, rfl, rfl, by omega, Below.refl _ _⟩
      case round =>
       obtain ⟨k, rfl, rfl, hk, HBK⟩ := hrel
       by_cases hkn : k < n
       ·have hki : (k : Int) < (n : Int) := by omega
        have hb5 := (HK6.out wr HBK.out).2.2.2
        obtain ⟨tb, rfl, t0, _⟩ := HTC.out wr (HU3.out wr hb5) k hkn
        have N1 := HND.out k hkn wr (HU2.out wr hb5)
        have HT3 : Hid (∀ U, Below wr.heap.size wr U → U.cell? ⟨tb, k * 4 + 3, none⟩ = some (.int .u64 (selfX fin K dp ro k)) ∧ U.cell? ⟨rr, i, none⟩ = some (.int .u64 (fin x).id)) := fun U hU => by
         obtain ⟨_, _, j1, j2⟩ := HK6.out U (HBK.out.trans (hU.mono HBK.out.size))
         obtain ⟨t2, e, _, _, _, h⟩ := HTC.out U (HU3.out U j2) k hkn
         injection e with e
         injection e with e _ _
         subst e
         exact ⟨h, j1⟩
        obtain ⟨g1, g2⟩ := HSX.out.1 k hkn
        have g3 := HSX.out.2.2 (k + 1)
        have g4 := HBX.out
        have hnx : sumN (sumH (legsX fin K dp x)) (k + 1) = sumN (sumH (legsX fin K dp x)) k + sumH (legsX fin K dp x) k := sumN_succ _ _
        have HNX : Hid (((fin k).tree = (fin x).id → IntKind.u64.wrap (sumN (sumH (legsX fin K dp x)) k + selfX fin K dp ro k) = sumN (sumH (legsX fin K dp x)) (k + 1)) ∧ ((fin k).tree ≠ (fin x).id → sumN (sumH (legsX fin K dp x)) (k + 1) = sumN (sumH (legsX fin K dp x)) k)) := by
         refine ⟨fun e => ?_, fun e => ?_⟩
         ·rw [g1 e, ← hnx, IntKind.wrap_u64]
          omega
         ·rw [hnx, g2 e]
          omega
        clear g1 g2 g3 g4 hnx hb5
        unfold ndV at N1
        obtain ⟨s1, hs1⟩ : ∃ s, sumN (sumH (legsX fin K dp x)) (k + 1) = s := ⟨_, rfl⟩
        have HS1 : Hid (sumN (sumH (legsX fin K dp x)) (k + 1) = s1) := hs1
        rw [hs1] at HNX
        clear hs1
        generalize sumN (sumH (legsX fin K dp x)) k = s0 at *
        generalize selfX fin K dp ro k = se at *
        generalize fin k = d at *
        go_upto_region 30 with (go_at_call 10; (with_reducible refine N1.mono ?_); clear N1; rintro e w7 ⟨rfl, b7⟩; have HB7 : Hid (Below wr.heap.size wr w7) := b7; clear b7 t0)
        obtain ⟨V7, hV7⟩ : ∃ V, w7.alloc (.cells #[.int .u64 d.id, .int .u64 d.par, .int .i64 d.org, .int .u64 d.tree, .int .i64 d.dep, .int .i64 d.fr, .int .i64 d.til] 38) = V := ⟨_, rfl⟩
        have bk : Blk V7 w7.heap.size #[.int .u64 d.id, .int .u64 d.par, .int .i64 d.org, .int .u64 d.tree, .int .i64 d.dep, .int .i64 d.fr, .int .i64 d.til] 38 := by rw [← hV7]; exact Blk.new _ _ _
        have n3 : V7.cell? ⟨w7.heap.size, 3, none⟩ = some (.int .u64 d.tree) := bk.cell 3 rfl
        have BV7 : Below wr.heap.size wr V7 := by rw [← hV7]; exact HB7.out.alloc HB7.out.size _
        obtain ⟨t3, cr⟩ := HT3.out V7 BV7
        have HV7 : Hid (Below V6.heap.size V6 V7) := HBK.out.trans (BV7.mono HBK.out.size)
        rw [hV7]
        clear hV7 bk HB7 BV7 HT3
        by_cases htr : d.tree = (fin x).id
        ·as_aux_lemma =>
          have eq0 : (d.tree == (fin x).id) = true := by simp [htr]
          have ws := HNX.out.1 htr
          clear HNX htr
          generalize d.tree = dt9 at *
          go_quiet (fail)
          go_wp2
          go_roundw
          case rel => exact ⟨k + 1, by rw [HS1.out], by go_num, by omega, below_drS HV7.out _⟩
          case measure => (simp [intOf]; omega)
        ·as_aux_lemma =>
          have eq0 : (d.tree == (fin x).id) = false := by simp [htr]
          have HSE : Hid (s1 = s0) := HNX.out.2 htr
          clear HNX htr
          generalize d.tree = dt9 at *
          go_quiet (fail)
          go_wp2
          go_roundw
          case rel => exact ⟨k + 1, by rw [HS1.out, HSE.out], by go_num, by omega, below_drS HV7.out _⟩
          case measure => (simp [intOf]; omega)
       ·as_aux_lemma =>
         obtain rfl : n = k := by omega
         have hki : ¬ (n : Int) < (n : Int) := by omega
         rw [HSX.out.2.1]
         have nss : (dtil - dfr != dtil - dfr) = false := by simp
         obtain ⟨_, _, cr, hb5⟩ := HK6.out wr HBK.out
         have L1 := HLX.out wr (HU2.out wr hb5)
         clear hb5
         go_upto_region 36 with (first
          | (go_at_call 11; (with_reducible refine L1.mono ?_); clear L1; rintro e w8 ⟨ga, gc, rfl, HL8, b8⟩; have HB8 : Hid (Below V6.heap.size V6 w8) := HBK.out.trans (b8.mono HBK.out.size); obtain ⟨_, _, cr8, hb8⟩ := HK6.out w8 HB8.out; have S1 := HMS.out w8 (HU2.out w8 hb8); clear b8 cr hb8)
          | (go_at_call 22; (with_reducible refine S1.mono ?_); clear S1; rintro e w9 ⟨sa, sc, rfl, HS9, b9⟩; have HB9 : Hid (Below V6.heap.size V6 w9 ∧ LieIn (fun l => legC (legI fin l)) 3 w9 ga (legsX fin K dp x)) := ⟨HB8.out.trans (b9.mono HB8.out.size), HL8.out.below b9⟩; obtain ⟨k0, k1, _, _⟩ := HK6.out w9 HB9.out.1; have G1 := LO.out w9; clear b9 cr8)
          | (go_at_call 20; (with_reducible refine G1.mono ?_); clear G1; rintro e w10 ⟨rfl, b10⟩; have HB10 : Hid (Below V6.heap.size V6 w10 ∧ LieIn (fun l => legC (legI fin l)) 3 w10 ga (legsX fin K dp x) ∧ LieIn (fun p : Nat × Int => [.int .u64 (fin p.1).id, .int .u64 p.2]) 2 w10 sa M) := ⟨HB9.out.1.trans (b10.mono HB9.out.1.size), HB9.out.2.below b10, HS9.out.below b10⟩; obtain ⟨j0, j1, _, _⟩ := HK6.out w10 HB10.out.1; have T1 := HTX.out ga q gc w10 HQ.out HB10.out.2.1; clear b10 k0 k1)
          | (go_at_call 23; (with_reducible refine T1.mono ?_); clear T1; rintro e w11 ⟨rfl, b11⟩; have HB11 : Hid (Below V6.heap.size V6 w11 ∧ LieIn (fun l => legC (legI fin l)) 3 w11 ga (legsX fin K dp x) ∧ LieIn (fun p : Nat × Int => [.int .u64 (fin p.1).id, .int .u64 p.2]) 2 w11 sa M) := ⟨HB10.out.1.trans (b11.mono HB10.out.1.size), HB10.out.2.1.below b11, HB10.out.2.2.below b11⟩; clear b11 j0 j1))
         have HK11 : Hid (∀ U, Below w11.heap.size w11 U → U.cell? ⟨cb, 0, none⟩ = some (.int .i64 dfr) ∧ U.cell? ⟨cb, 1, none⟩ = some (.int .i64 dtil) ∧ U.cell? ⟨rr, i, none⟩ = some (.int .u64 (fin x).id) ∧ Below w5.heap.size w5 U) := fun U hU => HK6.out U (HB11.out.1.trans (hU.mono HB11.out.1.size))
         clear HK6 HB8 HL8 HB9 HS9 HB10 HBK hki
         go_wp2
         go_loopw [27] (fun z wq => ∃ k : Nat, z = .int .i64 k ∧ k ≤ q ∧ Hid (Below w11.heap.size w11 wq)) (fun z _ => q - (intOf z).toNat)
         case atStart => exact ⟨0, rfl, by omega, Below.refl _ _⟩
         case round =>
          obtain ⟨k, rfl, hk, HBQ⟩ := hrel
          by_cases hkq : k < q
          ·as_aux_lemma =>
            have hkn : (k : Int) < (q : Int) := by omega
            have hkL : k < (legsX fin K dp x).length := by rw [HQ.out]; exact hkq
            obtain ⟨g, rfl, hgl, hc⟩ := HB11.out.2.1 (fun e => by rw [e] at hkL; simp at hkL)
            obtain ⟨b0, b1, b2, b3⟩ := HLL.out _ (List.getElem_mem hkL)
            have CE : ∀ U, Below wr.heap.size wr U → U.cell? ⟨g, k * 3, none⟩ = some (.int .u64 (fin (legsX fin K dp x)[k].1).id) ∧ U.cell? ⟨g, k * 3 + 1, none⟩ = some (.int .i64 (legsX fin K dp x)[k].2.1) ∧ U.cell? ⟨g, k * 3 + 2, none⟩ = some (.int .i64 (legsX fin K dp x)[k].2.2) ∧ U.cell? ⟨rr, i, none⟩ = some (.int .u64 (fin x).id) := fun U hU => by
             have bb := HBQ.out.trans (hU.mono HBQ.out.size)
             have h := fun j v hv => (bb.cell (p := ⟨g, k * 3 + j, none⟩) hgl).trans (hc k hkL j v hv)
             exact ⟨h 0 _ rfl, h 1 _ rfl, h 2 _ rfl, (HK11.out U bb).2.2.1⟩
            have HG1 : Hid (∀ t, (legsX fin K dp x)[k].2.1 ≤ t → t < (legsX fin K dp x)[k].2.2 → ∀ U, Below wr.heap.size wr U → Calls Tryz.prog 24 #[.pointer (some ⟨f, 0, none⟩), .int .u64 (fin x).id, .int .i64 t] U fun e w' => e = .returned (.int .u64 (fin (legsX fin K dp x)[k].1).id) ∧ Below U.heap.size U w') := fun t t1 t2 U hU => by
             have h := HIX.out t U (HU2.out U (HK11.out U (HBQ.out.trans (hU.mono HBQ.out.size))).2.2.2)
             rwa [b3 t t1 t2] at h
            have KP : ∀ U, Below wr.heap.size wr U → _ := CE
            clear CE b3 hc hgl
            generalize (legsX fin K dp x)[k].2.1 = lb at *
            generalize (legsX fin K dp x)[k].2.2 = lc at *
            generalize (fin (legsX fin K dp x)[k].1).id = la at *
            have BR : Below wr.heap.size wr wr.drew := (Below.refl _ _).drew
            have AL := HG1.out lb (Int.le_refl _) b1 wr.drew BR
            have nb : (la != la) = false := by simp
            have hwp : IntKind.i64.wrap (lc - 1) = lc - 1 := by simp [IntKind.wrap, IntKind.bits, IntKind.signed]; omega
            go_upto_region 39 with fail
            go_region_held3 (fun W => W.cell? ⟨g, k * 3, none⟩ = some (.int .u64 la) ∧ W.cell? ⟨g, k * 3 + 1, none⟩ = some (.int .i64 lb) ∧ W.cell? ⟨g, k * 3 + 2, none⟩ = some (.int .i64 lc) ∧ W.cell? ⟨rr, i, none⟩ = some (.int .u64 (fin x).id)) (first | exact KP _ BR | exact KP _ (BR.trans (B7.mono BR.size)) | exact KP _ (BR.trans (B8.mono BR.size))) (first
             | (go_at_call 24; (with_reducible refine AL.mono ?_); clear AL; rintro e w7 ⟨rfl, b7⟩; have B7 : Below wr.drew.heap.size wr.drew w7 := b7; have AM := HG1.out (lc - 1) (by omega) (by omega) w7 (BR.trans (B7.mono BR.size)); clear b7)
             | (go_at_call 24; (with_reducible refine AM.mono ?_); clear AM; rintro e w8 ⟨rfl, b8⟩; have B8 : Below wr.drew.heap.size wr.drew w8 := B7.trans (b8.mono B7.size); clear b8))
            have HB9 : Hid (Below w11.heap.size w11 w8) := HBQ.out.trans ((BR.trans (B8.mono BR.size)).mono HBQ.out.size)
            clear KP B7 B8 BR HG1
            go_wp2
            go_roundw
            case rel => exact ⟨k + 1, by go_num, by omega, HB9⟩
            case measure => (simp [intOf]; omega)
          ·as_aux_lemma =>
            obtain rfl : q = k := by omega
            have hkn : ¬ (q : Int) < (q : Int) := by omega
            have HBQ2 : Hid (Below w11.heap.size w11 wr) := HBQ.out
            clear HBQ
            go_wp2
            go_loopw [28, 29] (fun z28 z29 wq => ∃ k : Nat, z28 = .int .u64 (preT M k) ∧ z29 = .int .i64 k ∧ k ≤ mq ∧ Hid (Below w11.heap.size w11 wq)) (fun _ z29 _ => mq - (intOf z29).toNat)
            case atStart => exact ⟨0, rfl, rfl, by omega, HBQ2⟩
            case round =>
             clear HBQ2
             obtain ⟨k, rfl, rfl, hk, HBS⟩ := hrel
             by_cases hkm : k < mq
             ·as_aux_lemma =>
               have hki : (k : Int) < (mq : Int) := by omega
               have hkM : k < M.length := by rw [HMQ.out]; exact hkm
               obtain ⟨g, rfl, hgl, hc⟩ := HB11.out.2.2 (fun e => by rw [e] at hkM; simp at hkM)
               obtain ⟨y1, y2, y3⟩ := HMM.out.1 _ (List.getElem_mem hkM)
               have HG : Hid (∀ U, Below wr.heap.size wr U → U.cell? ⟨g, k * 2, none⟩ = some (.int .u64 (fin M[k].1).id) ∧ U.cell? ⟨g, k * 2 + 1, none⟩ = some (.int .u64 M[k].2)) := fun U hU => by
                have bb := HBS.out.trans (hU.mono HBS.out.size)
                have h := fun j v hv => (bb.cell (p := ⟨g, k * 2 + j, none⟩) hgl).trans (hc k hkM j v hv)
                exact ⟨h 0 _ rfl, h 1 _ rfl⟩
               have T1 := times9_any oa n oc fin (fun y => lenI ((fin y).fr, (fin y).til)) (fun y => lenI ((fin y).fr, (fin y).til) - iv.muV N (memI (kidI fin K y))) (fun y => selfX fin K dp ro y) wr (HLT.out wr (HU3.out wr (HK11.out wr HBS.out).2.2.2)) hn1 M[k].1 y1 (fun a ha e => HIJ.out a _ ha y1 e)
               have g3 := preT_bd (fun p hp => (HMM.out.1 p hp).2.1) (k + 1)
               have g4 := HBX.out
               have ws : IntKind.u64.wrap (preT M k + M[k].2) = preT M (k + 1) := by
                rw [HMM.out.2] at g3
                rw [← preT_next hkM, IntKind.wrap_u64]
                omega
               obtain ⟨s1, hs1⟩ : ∃ s, preT M (k + 1) = s := ⟨_, rfl⟩
               have HS1 : Hid (preT M (k + 1) = s1) := hs1
               rw [hs1] at ws
               have dn0 : (M[k].2 == 0) = false := by simp; omega
               have dge : decide (lenI ((fin M[k].1).fr, (fin M[k].1).til) - iv.muV N (memI (kidI fin K M[k].1)) < M[k].2) = false := decide_eq_false (by omega)
               clear g3 g4 hs1 hc hgl y1 y2 y3
               generalize preT M k = s0 at *
               generalize lenI ((fin M[k].1).fr, (fin M[k].1).til) - iv.muV N (memI (kidI fin K M[k].1)) = ex at *
               generalize lenI ((fin M[k].1).fr, (fin M[k].1).til) = le at *
               generalize selfX fin K dp ro M[k].1 = se at *
               generalize (fin M[k].1).id = yi at *
               generalize M[k].2 = hv at *
               have c0 := (HG.out wr (Below.refl _ _)).1
               go_upto_region 46 with (go_at_call 25; (with_reducible refine T1.mono ?_); clear T1; rintro e w7 ⟨rfl, b7⟩; have HB7 : Hid (Below wr.heap.size wr w7) := b7; clear b7 c0)
               obtain ⟨V7, hV7⟩ : ∃ V, w7.alloc (.cells #[.int .u64 yi, .int .u64 le, .int .u64 ex, .int .u64 se] 52) = V := ⟨_, rfl⟩
               have bk : Blk V7 w7.heap.size #[.int .u64 yi, .int .u64 le, .int .u64 ex, .int .u64 se] 52 := by rw [← hV7]; exact Blk.new _ _ _
               have n2 : V7.cell? ⟨w7.heap.size, 2, none⟩ = some (.int .u64 ex) := bk.cell 2 rfl
               have BV7 : Below wr.heap.size wr V7 := by rw [← hV7]; exact HB7.out.alloc HB7.out.size _
               obtain ⟨c1, c2⟩ := HG.out V7 BV7
               have HV7 : Hid (Below w11.heap.size w11 V7) := HBS.out.trans (BV7.mono HBS.out.size)
               rw [hV7]
               clear hV7 bk HB7 BV7 HG
               go_quiet (fail)
               go_wp2
               go_roundw
               case rel => exact ⟨k + 1, by rw [HS1.out], by go_num, by omega, below_drS HV7.out _⟩
               case measure => (simp [intOf]; omega)
             ·as_aux_lemma =>
               obtain rfl : mq = k := by omega
               have hki : ¬ (mq : Int) < (mq : Int) := by omega
               have hsum : preT M mq = dtil - dfr := by
                rw [← HMM.out.2]
                unfold preT
                rw [List.take_of_length_le (by rw [HMQ.out]; exact Nat.le_refl _)]
               rw [hsum]
               obtain ⟨k0, k1, k2, hb5⟩ := HK11.out wr HBS.out
               have G1 := LO.out wr
               have HKW : Hid (∀ U, Below wr.heap.size wr U → U.cell? ⟨cb, 0, none⟩ = some (.int .i64 dfr) ∧ U.cell? ⟨cb, 1, none⟩ = some (.int .i64 dtil) ∧ U.cell? ⟨rr, i, none⟩ = some (.int .u64 (fin x).id) ∧ Below w5.heap.size w5 U) := fun U hU => HK11.out U (HBS.out.trans (hU.mono HBS.out.size))
               clear hsum hb5 HK11 HBS HB11
               go_upto_region 51 with (go_at_call 20; (with_reducible refine G1.mono ?_); clear G1; rintro e w7 ⟨rfl, b7⟩; obtain ⟨j0, j1, j2, j3⟩ := HKW.out w7 b7; have HJ3 : Hid (Below w5.heap.size w5 w7) := j3; have HKX : Hid (∀ U, Below w7.heap.size w7 U → U.cell? ⟨rr, i, none⟩ = some (.int .u64 (fin x).id) ∧ Below w5.heap.size w5 U) := fun U hU => ⟨(HKW.out U (b7.trans (hU.mono b7.size))).2.2.1, (HKW.out U (b7.trans (hU.mono b7.size))).2.2.2⟩; clear b7 k0 k1 k2 j3)
               clear HKW nss
               by_cases a1 : dfr ≤ at_
               ·by_cases a2 : at_ < dtil
                ·have O1 := HOX.out at_ a1 a2 w7 (HU2.out w7 HJ3.out)
                 have HI1 : Hid (∀ U, Below w7.heap.size w7 U → Calls Tryz.prog 24 #[.pointer (some ⟨f, 0, none⟩), .int .u64 (fin x).id, .int .i64 at_] U fun e w' => e = .returned (.int .u64 (fin (ownX fin K dp x at_)).id) ∧ Below U.heap.size U w') := fun U hU => HIX.out at_ U (HU2.out U (HKX.out U hU).2)
                 generalize (fin (ownX fin K dp x at_)).id = oi at *
                 have nb : (oi != oi) = false := by simp
                 go_wp2_with (first
                  | (go_at_call 26; (with_reducible refine O1.mono ?_); clear O1; rintro e w8 ⟨rfl, b8⟩; have HB8 : Hid (Below w7.heap.size w7 w8) := b8; have cr8 := (HKX.out w8 b8).1; have I1 := HI1.out w8 b8; clear b8)
                  | (go_at_call 24; (with_reducible refine I1.mono ?_); clear I1; rintro e w9 ⟨rfl, b9⟩; have HB9 : Hid (Below w5.heap.size w5 w9) := (HKX.out w9 (HB8.out.trans (b9.mono HB8.out.size))).2; clear b9))
                 go_roundw
                 case rel => exact ⟨i + 1, by go_num, by omega, HB9⟩
                 case measure => (simp [intOf]; omega)
                ·go_wp2
                 go_roundw
                 case rel => exact ⟨i + 1, by go_num, by omega, HJ3⟩
                 case measure => (simp [intOf]; omega)
               ·go_wp2
                go_roundw
                case rel => exact ⟨i + 1, by go_num, by omega, HJ3⟩
                case measure => (simp [intOf]; omega)
    ·obtain rfl : i = rn := by omega
     have hin : ¬ (i : Int) < (i : Int) := by omega
     have b := HU2.out wr HBR.out
     have HE : Hid (Below w.heap.size w wr) := HB2.out.trans (b.mono HB2.out.size)
     clear b
     go_wp2
     go_ret
     exact ⟨rfl, HE.out⟩
end Go.Proofs.YtnffedmcblbkoaaGreatDoor
