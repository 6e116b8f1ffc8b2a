/-
  Ofi.
-/
import Derived.Test.YtnffedmcblbkoaaGreatDoorO7q
import Derived.BigQuiet
namespace Go.Proofs.YtnffedmcblbkoaaGreatDoor
open Go Go.RowKit Go.Lib
set_option maxRecDepth 100000
def posN (lo : Int) (N : List LegN) : Nat → Int
 | 0 => lo
 | i + 1 => (N.getD i (0, lo, lo)).2.2
theorem posN_cons (lo : Int) (y : Nat) (a b : Int) (r : List LegN) (i : Nat) (hi : i ≤ r.length) : posN lo ((y, a, b) :: r) (i + 1) = posN b r i := by
 cases i with
 | zero => rfl
 | succ j =>
  show (((y, a, b) :: r).getD (j + 1) (0, lo, lo)).2.2 = (r.getD j (0, b, b)).2.2
  have hj : j < r.length := hi
  simp [List.getD, hj]
theorem tile_at {hi : Int} : ∀ (lo : Int) (N : List LegN), TileF hi lo N → posN lo N N.length = hi ∧ ∀ i (h : i < N.length), N[i].2.1 = posN lo N i
 | lo, [], h => ⟨h, fun i h => by simp at h⟩
 | lo, (y, a, b) :: r, h => by
  obtain ⟨h1, h2, h3⟩ := h
  obtain ⟨i1, i2⟩ := tile_at b r h3
  refine ⟨by rw [List.length_cons, posN_cons _ _ _ _ _ _ (Nat.le_refl _)]; exact i1, fun i hi => ?_⟩
  cases i with
  | zero => exact h1
  | succ j =>
   have hj : j < r.length := by simpa using hi
   rw [posN_cons _ _ _ _ _ _ (by omega)]
   exact i2 j hj
theorem adj_at : ∀ (N : List LegN), AdjN N → ∀ i (h : i + 1 < N.length), (N[i]'(by omega)).1 ≠ N[i + 1].1
 | [], _, i, h => by simp at h
 | [_], _, i, h => by simp at h
 | x :: y :: r, hA, i, h => by
  obtain ⟨h1, h2⟩ := hA
  cases i with
  | zero => exact h1
  | succ j => exact adj_at (y :: r) h2 j (by simpa using h)
theorem FoB.ownM9 {Y : List Sp} {C : List Int} {dp : Nat → Nat} {fin : Nat → Nod} {X : List Spot} {K : Nat → List Int} {R : List Int} (h : FoB Y C dp fin X K R) {x : Nat} (hx : x < Y.length) (t : Int) : (ownerM fin t (1000 - dp x + 1) (fun i => swO fin (knO K i)) nils x).1 = ownX fin K dp x t :=
 (owner_spec (h.kidS hx) t (1000 - dp x + 1) x t (swF fin K) nils (Int.le_refl _) (h.inTx hx) (fun y _ => StN.start fin (swF fin K y) t)).1
theorem ownerO_any {f sb : Nat} {Y : List Sp} {C : List Int} {dp : Nat → Nat} {fin : Nat → Nod} {X : List Spot} {K : Nat → List Int} {rv : Value} {R : List Int} {w W : World} (hF : ForestAt w f sb X K rv R) (h : FoB Y C dp fin X K R) (hb : Below w.heap.size w W) (x : Nat) (hx : x < Y.length) (ho : (fin x).org ≠ 0) (t : Int) (h1 : (fin x).fr ≤ t) (h2 : t < (fin x).til) : Calls Tryz.prog 26 #[.pointer (some ⟨f, 0, none⟩), .int .u64 (fin x).id, .int .i64 t] W fun e W' => e = .returned (.tuple #[.int .u64 (fin (ownX fin K dp x t)).id, .int .i64 0]) ∧ Below W.heap.size W W' := by
 have := ownerB f sb X K rv R Y C fin dp x t W (hF.below hb) h.fo h.sh hx ho h1 h2
 rwa [h.ownM9 hx t] at this
set_option maxHeartbeats 16000000 in
theorem fitsO_any {f sb : Nat} {Y : List Sp} {C : List Int} {dp : Nat → Nat} {fin : Nat → Nod} {X : List Spot} {K : Nat → List Int} {rv : Value} {R : List Int} {w W : World} (hF : ForestAt w f sb X K rv R) (h : FoB Y C dp fin X K R) (hb : Below w.heap.size w W) (x : Nat) (hx : x < Y.length) (ho : (fin x).org ≠ 0) (ht : (fin x).tree = (fin x).id) (ad : Option Addr) (q cap : Nat) (hq : (legsX fin K dp x).length = q) (HL : LieIn (fun l => legC (legI fin l)) 3 W ad (legsX fin K dp x)) :
  Calls Tryz.prog 13 #[.pointer (some ⟨f, 0, none⟩), .agg #[.int .u64 (fin x).id, .int .u64 (fin x).par, .int .i64 (fin x).org, .int .u64 (fin x).tree, .int .i64 (fin x).dep, .int .i64 (fin x).fr, .int .i64 (fin x).til], .slice ad q cap] W fun e W' => e = .returned (.bool true) ∧ Below W.heap.size W W' := by
 have hl := h.fo.len
 have hFW := hF.below hb
 have ND : Hid (∀ c, c < Y.length → ∀ W1, Below W.heap.size W W1 → Calls Tryz.prog 10 #[.pointer (some ⟨f, 0, none⟩), .int .u64 (fin c).id] W1 fun e w' => e = .returned (.tuple #[ndV (fin c), .bool true]) ∧ Below W1.heap.size W1 w') := fun c hc W1 hb => by
  have e := (h.fo.each c hc (by omega)).2
  have h := node_at (hFW.below hb) c (by omega) (fin c).id (by rw [e])
  rwa [e] at h
 have CH : Hid (∀ c, c < Y.length → ∀ W1, Below W.heap.size W W1 → Calls Tryz.prog 15 #[.pointer (some ⟨f, 0, none⟩), .int .u64 (fin c).id] W1 fun e w' => ∃ r n, e = .returned (.slice (some ⟨r, 0, none⟩) n n) ∧ Hid ((knK K c).length = n ∧ n ≤ 1000 ∧ Blk w' r (fillC .u64 ((knK K c).map (fun c => (fin c).id)) 0) 33 ∧ ∀ k ∈ knK K c, k < Y.length) ∧ Below W1.heap.size W1 w') := fun c hc W1 hb => by
  have T := h.senv c hc
  refine (children_at f sb X K rv R fin (knK K) W1 (hFW.below hb) T.nd c T.xX (T.kn c T.xX).1 (T.kn c T.xX).2.1).mono ?_
  rintro e w' ⟨r, rfl, h1, _, h2⟩
  exact ⟨r, _, rfl, ⟨rfl, (T.kn c T.xX).2.2, h1, fun k hk => by have := (T.kn c T.xX).2.1 k hk; omega⟩, h2⟩
 have OW : Hid (∀ t, (fin x).fr ≤ t → t < (fin x).til → ∀ W1, Below W.heap.size W W1 → Calls Tryz.prog 26 #[.pointer (some ⟨f, 0, none⟩), .int .u64 (fin x).id, .int .i64 t] W1 fun e w' => e = .returned (.tuple #[.int .u64 (fin (ownX fin K dp x t)).id, .int .i64 0]) ∧ Below W1.heap.size W1 w') := fun t h1 h2 W1 hb => ownerO_any hFW h hb x hx ho t h1 h2
 obtain ⟨_, n2, n3, n4⟩ := h.legsO hx
 obtain ⟨t1, t2⟩ := tile_at _ _ n2.tile
 have hbd := h.inn (dp x) x rfl hx
 have HLG : Hid (∀ i (hi : i < (legsX fin K dp x).length), ((legsX fin K dp x)[i]).1 < Y.length ∧ (fin ((legsX fin K dp x)[i]).1).tree = (fin x).id ∧ (fin ((legsX fin K dp x)[i]).1).fr ≤ ((legsX fin K dp x)[i]).2.1 ∧ ((legsX fin K dp x)[i]).2.1 < ((legsX fin K dp x)[i]).2.2 ∧ ((legsX fin K dp x)[i]).2.2 ≤ (fin ((legsX fin K dp x)[i]).1).til ∧ (∀ c ∈ knK K ((legsX fin K dp x)[i]).1, ∀ t, ((legsX fin K dp x)[i]).2.1 ≤ t → t < ((legsX fin K dp x)[i]).2.2 → runB fin t c = false) ∧ ((legsX fin K dp x)[i]).2.1 = posN (fin x).fr (legsX fin K dp x) i ∧ posN (fin x).fr (legsX fin K dp x) (i + 1) = ((legsX fin K dp x)[i]).2.2 ∧ (∀ t, ((legsX fin K dp x)[i]).2.1 ≤ t → t < ((legsX fin K dp x)[i]).2.2 → ownX fin K dp x t = ((legsX fin K dp x)[i]).1) ∧ (fin x).fr ≤ ((legsX fin K dp x)[i]).2.1 ∧ ((legsX fin K dp x)[i]).2.2 ≤ (fin x).til) := fun i hi => by
  have hm := List.getElem_mem hi
  obtain ⟨a1, a2, a3, a4, a5, a6⟩ := n4 _ hm
  have lo := (TileF.leO _ _ n2.tile).2 _ hm
  refine ⟨a1, a2.trans ht, a3, a4, a5, a6, t2 i hi, ?_, n2.own _ hm, lo.1, lo.2.2⟩
  show ((legsX fin K dp x).getD i (0, _, _)).2.2 = _
  simp [List.getD, hi]
 have HAD : Hid (∀ i (hi : i + 1 < (legsX fin K dp x).length), (fin ((legsX fin K dp x)[i]'(Nat.lt_of_succ_lt hi)).1).id ≠ (fin ((legsX fin K dp x)[i + 1]).1).id) := fun i hi e => adj_at _ n2.adj i hi (h.inj (n4 _ (List.getElem_mem _)).1 (n4 _ (List.getElem_mem _)).1 e)
 have HEN : Hid (posN (fin x).fr (legsX fin K dp x) q = (fin x).til) := by rw [← hq]; exact t1
 have HLL : Hid (LieIn (fun l => legC (legI fin l)) 3 W ad (legsX fin K dp x) ∧ (legsX fin K dp x).length = q) := ⟨HL, hq⟩
 have HBD : Hid (0 ≤ (fin x).fr ∧ (fin x).til ≤ 4611686018427387904) := ⟨hbd.1, hbd.2.2⟩
 have hq1 : q ≤ 2000 := by rw [← hq]; exact n3
 clear hF h hb hl hFW n2 n3 n4 t1 t2 HL hq hbd ho ht
 generalize legsX fin K dp x = N at *
 generalize Y.length = n at *
 have HB0 : Hid (Below W.heap.size W (W.alloc (.cells #[.int .u64 (fin x).id, .int .u64 (fin x).par, .int .i64 (fin x).org, .int .u64 (fin x).tree, .int .i64 (fin x).dep, .int .i64 (fin x).fr, .int .i64 (fin x).til] 38))) := (Below.refl _ _).alloc (Nat.le_refl _) _
 have HK0 : Hid (Blk (W.alloc (.cells #[.int .u64 (fin x).id, .int .u64 (fin x).par, .int .i64 (fin x).org, .int .u64 (fin x).tree, .int .i64 (fin x).dep, .int .i64 (fin x).fr, .int .i64 (fin x).til] 38)) W.heap.size #[.int .u64 (fin x).id, .int .u64 (fin x).par, .int .i64 (fin x).org, .int .u64 (fin x).tree, .int .i64 (fin x).dep, .int .i64 (fin x).fr, .int .i64 (fin x).til] 38) := Blk.new _ _ _
 have g5 : (W.alloc (.cells #[.int .u64 (fin x).id, .int .u64 (fin x).par, .int .i64 (fin x).org, .int .u64 (fin x).tree, .int .i64 (fin x).dep, .int .i64 (fin x).fr, .int .i64 (fin x).til] 38)).cell? ⟨W.heap.size, 5, none⟩ = some (.int .i64 (fin x).fr) := HK0.out.cell 5 rfl
 go_enter Tryz.func13, Tryz.ntmps13
 go_upto_region 3 with fail
 obtain ⟨V0, hV0⟩ : ∃ V, W.alloc (.cells #[.int .u64 (fin x).id, .int .u64 (fin x).par, .int .i64 (fin x).org, .int .u64 (fin x).tree, .int .i64 (fin x).dep, .int .i64 (fin x).fr, .int .i64 (fin x).til] 38) = V := ⟨_, rfl⟩
 rw [hV0] at HB0 HK0 ⊢
 clear hV0 g5
 go_loopw [7, 8] (fun z7 z8 wr => ∃ i : Nat, z7 = .int .i64 (posN (fin x).fr N i) ∧ z8 = .int .i64 i ∧ i ≤ q ∧ Hid (Below V0.heap.size V0 wr)) (fun _ z8 _ => q - (intOf z8).toNat)
 case atStart => exact ⟨0, rfl, rfl, by omega, Below.refl _ _⟩
 case round =>
  obtain ⟨i, rfl, rfl, hi, HBR⟩ := hrel
  by_cases hlt : i < q
  ·have hin : (i : Int) < (q : Int) := by omega
   have hiN : i < N.length := by rw [HLL.out.2]; exact hlt
   obtain ⟨a1, a2, a3, a4, a5, a6, a7, a8, a9, a10, a11⟩ := HLG.out i hiN
   have HBW : Hid (Below W.heap.size W wr) := HB0.out.trans (HBR.out.mono HB0.out.size)
   obtain ⟨gb, rfl, hgl, hcl⟩ := HLL.out.1 (fun e => by rw [e] at hiN; simp at hiN)
   have HCP : Hid (∀ U, Below W.heap.size W U → ∀ j (hj : j < N.length), U.cell? ⟨gb, j * 3, none⟩ = some (.int .u64 (fin N[j].1).id) ∧ U.cell? ⟨gb, j * 3 + 1, none⟩ = some (.int .i64 N[j].2.1) ∧ U.cell? ⟨gb, j * 3 + 2, none⟩ = some (.int .i64 N[j].2.2)) := fun U hU j hj => ⟨(hU.cell (p := ⟨gb, j * 3, none⟩) hgl).trans (hcl j hj 0 _ rfl), (hU.cell (p := ⟨gb, j * 3 + 1, none⟩) hgl).trans (hcl j hj 1 _ rfl), (hU.cell (p := ⟨gb, j * 3 + 2, none⟩) hgl).trans (hcl j hj 2 _ rfl)⟩
   obtain ⟨c0, c1, c2⟩ := HCP.out wr HBW.out i hiN
   have HPV : Hid (∀ U, Below W.heap.size W U → 0 < i → ∃ p, U.cell? ⟨gb, (i - 1) * 3, none⟩ = some (.int .u64 p) ∧ p ≠ (fin N[i].1).id) := fun U hU h0 => by
    obtain ⟨j, rfl⟩ : ∃ j, i = j + 1 := ⟨i - 1, by omega⟩
    refine ⟨_, (HCP.out U hU j (by omega)).1, HAD.out j hiN⟩
   have HOWL : Hid (∀ t, N[i].2.1 ≤ t → t < N[i].2.2 → ∀ W1, Below W.heap.size W W1 → Calls Tryz.prog 26 #[.pointer (some ⟨f, 0, none⟩), .int .u64 (fin x).id, .int .i64 t] W1 fun e w' => e = .returned (.tuple #[.int .u64 (fin N[i].1).id, .int .i64 0]) ∧ Below W1.heap.size W1 w') := fun t h1 h2 W1 hb => by
    have := OW.out t (Int.le_trans a10 h1) (by omega) W1 hb
    rwa [a9 t h1 h2] at this
   have HKN : Hid (∀ c ∈ knK K N[i].1, ¬ ((fin c).fr < (fin c).til ∧ (fin c).fr < N[i].2.2 ∧ N[i].2.1 < (fin c).til)) := fun c hc hh => by
    have h1 := a6 c hc (if N[i].2.1 < (fin c).fr then (fin c).fr else N[i].2.1)
    have h2 := h1 (by split <;> omega) (by split <;> omega)
    unfold runB at h2
    rw [Bool.and_eq_false_iff] at h2
    simp only [decide_eq_false_iff_not] at h2
    split at h2 <;> omega
   have N1 := ND.out N[i].1 a1
   have HN1 : Hid _ := N1
   have HC1 : Hid _ := CH.out N[i].1 a1
   have HP8 : Hid (posN (fin x).fr N (i + 1) = N[i].2.2) := a8
   rw [← a7]
   have hba := HBD.out
   have HA2 : Hid ((fin N[i].1).tree = (fin x).id) := a2
   clear N1 hcl a6 a7 a8 a9 a2
   unfold ndV at HN1
   generalize knK K N[i].1 = kn at *
   generalize N[i].2.1 = la at *
   generalize N[i].2.2 = lb at *
   generalize N[i].1 = y at *
   clear HCP
   go_upto_region 6 with fail
   obtain ⟨V1, hV1⟩ : ∃ V, wr.alloc (.cells #[.int .u64 (fin y).id, .int .i64 la, .int .i64 lb] 50) = V := ⟨_, rfl⟩
   have HX1 : Hid (Blk V1 wr.heap.size #[.int .u64 (fin y).id, .int .i64 la, .int .i64 lb] 50 ∧ Below V0.heap.size V0 V1) := by rw [← hV1]; exact ⟨Blk.new _ _ _, HBR.out.alloc HBR.out.size _⟩
   have x0 : V1.cell? ⟨wr.heap.size, 0, none⟩ = some (.int .u64 (fin y).id) := HX1.out.1.cell 0 rfl
   have N1 := HN1.out V1 (HB0.out.trans (HX1.out.2.mono HB0.out.size))
   rw [hV1]
   obtain ⟨xb, hxb⟩ : ∃ b, wr.heap.size = b := ⟨_, rfl⟩
   rw [hxb] at HX1 x0 ⊢
   clear hV1 c0 c1 c2 hxb HN1
   go_upto_region 7 with (go_at_call 10; (with_reducible refine N1.mono ?_); clear N1; rintro e w5 ⟨rfl, b5⟩; have HB5 : Hid (Below V1.heap.size V1 w5) := b5; clear b5)
   obtain ⟨V2, hV2⟩ : ∃ V, w5.alloc (.cells #[.int .u64 (fin y).id, .int .u64 (fin y).par, .int .i64 (fin y).org, .int .u64 (fin y).tree, .int .i64 (fin y).dep, .int .i64 (fin y).fr, .int .i64 (fin y).til] 38) = V := ⟨_, rfl⟩
   have HX2 : Hid (Blk V2 xb #[.int .u64 (fin y).id, .int .i64 la, .int .i64 lb] 50 ∧ Blk V2 w5.heap.size #[.int .u64 (fin y).id, .int .u64 (fin y).par, .int .i64 (fin y).org, .int .u64 (fin y).tree, .int .i64 (fin y).dep, .int .i64 (fin y).fr, .int .i64 (fin y).til] 38 ∧ Below V0.heap.size V0 V2) := by
    rw [← hV2]
    have e5 := HX1.out.1.below HB5.out HX1.out.1.lt
    exact ⟨e5.below ((Below.refl _ _).alloc (Nat.le_refl _) _) e5.lt, Blk.new _ _ _, (HX1.out.2.trans (HB5.out.mono HX1.out.2.size)).alloc (by have := HX1.out.2.size; have := HB5.out.size; omega) _⟩
   rw [hV2]
   obtain ⟨yb, hyb⟩ : ∃ b, w5.heap.size = b := ⟨_, rfl⟩
   rw [hyb] at HX2 ⊢
   have HBV2 : Hid (Below W.heap.size W V2) := HB0.out.trans (HX2.out.2.2.mono HB0.out.size)
   have HV20 : Hid (Below V0.heap.size V0 V2) := HX2.out.2.2
   clear hV2 hyb x0 HX1 HB5
   have HXB : Hid (∀ U, Below V2.heap.size V2 U → U.cell? ⟨xb, 0, none⟩ = some (.int .u64 (fin y).id) ∧ U.cell? ⟨xb, 1, none⟩ = some (.int .i64 la) ∧ U.cell? ⟨xb, 2, none⟩ = some (.int .i64 lb) ∧ U.cell? ⟨W.heap.size, 0, none⟩ = some (.int .u64 (fin x).id)) := fun U hU => by
    have q1 := HX2.out.1.below hU HX2.out.1.lt
    have q2 := HK0.out.below (HX2.out.2.2.trans (hU.mono HX2.out.2.2.size)) HK0.out.lt
    exact ⟨q1.cell 0 rfl, q1.cell 1 rfl, q1.cell 2 rfl, q2.cell 0 rfl⟩
   obtain ⟨k0, k1, k2, k3⟩ := HXB.out V2 (Below.refl _ _)
   have n3 : V2.cell? ⟨yb, 3, none⟩ = some (.int .u64 (fin y).tree) := HX2.out.2.1.cell 3 rfl
   rw [HA2.out] at n3
   have n5 : V2.cell? ⟨yb, 5, none⟩ = some (.int .i64 (fin y).fr) := HX2.out.2.1.cell 5 rfl
   have n6 : V2.cell? ⟨yb, 5 + 1, none⟩ = some (.int .i64 (fin y).til) := HX2.out.2.1.cell 6 rfl
   have nb1 : (la != la) = false := by simp
   have nb2 : ((fin x).id != (fin x).id) = false := by simp
   have nb3 : ((fin y).id != (fin y).id) = false := by simp
   have g1 : ¬ lb ≤ la := by omega
   have g2 : ¬ la < (fin y).fr := by omega
   have g3 : ¬ (fin y).til < lb := by omega
   have C1 := fun nq => HC1.out (V2.drewN nq) (below_dr HBV2.out nq)
   have e9 : ∃ p : Int, ((0 : Int) < i → V2.cell? ⟨gb, (i - 1) * 3, none⟩ = some (.int .u64 p) ∧ (p == (fin y).id) = false ∧ IntKind.i64.wrap ((i : Int) - 1) = ((i - 1 : Nat) : Int) ∧ ((i - 1 : Nat) : Int) < (q : Int)) := by
    by_cases h0 : 0 < i
    ·obtain ⟨p, p1, p2⟩ := HPV.out V2 HBV2.out h0
     refine ⟨p, fun _ => ⟨p1, by simpa using p2, ?_, by omega⟩⟩
     have : ((i - 1 : Nat) : Int) = (i : Int) - 1 := by omega
     rw [this]
     simp [IntKind.wrap, IntKind.bits, IntKind.signed]
     omega
    ·exact ⟨0, fun h => absurd h (by omega)⟩
   obtain ⟨p, hp⟩ := e9
   clear HPV HX2 HC1
   have HWB : Hid (IntKind.i64.wrap (lb - 1) = lb - 1 ∧ IntKind.i64.wrap (lb - la) = lb - la) := by
    constructor <;> (simp [IntKind.wrap, IntKind.bits, IntKind.signed]; omega)
   have hAL : la < lb := a4
   by_cases hz : (0 : Int) < (i : Int)
   have hz2 : 0 < i := by omega
   have hz3 : decide (0 < i) = true := decide_eq_true hz2
   have hz4 : decide ((0 : Int) < (i : Int)) = true := decide_eq_true hz
   obtain ⟨p1, p2, p3, p4⟩ := hp hz
   rotate_left 1
   have hz2 : ¬ 0 < i := by omega
   have hz3 : decide (0 < i) = false := decide_eq_false hz2
   have hz4 : decide ((0 : Int) < (i : Int)) = false := decide_eq_false hz
   rotate_left 1
   all_goals clear hp
   all_goals go_quiet (fail)
   all_goals clear hz hz2 hz3 hz4 n3 n5 n6 nb1 nb2 g1 g2 g3
   all_goals (try clear p1 p2 p3 p4)
   all_goals
    go_upto_region 11 with (go_at_call 15; (with_reducible refine (C1 _).mono ?_); clear C1; rintro e w6 ⟨r, n2, rfl, HR, b6⟩; have HB6 : Hid (Below V2.heap.size V2 w6) := (below_dr (Below.refl _ _) _).trans b6; clear b6)
   all_goals
    have HQ9 : Hid (Below W.heap.size W w6) := HBV2.out.trans (HB6.out.mono HBV2.out.size)
    have hn2 : n2 ≤ 1000 := HR.out.2.1
    go_loopw [13] (fun z13 wr => ∃ k : Nat, z13 = .int .i64 k ∧ k ≤ n2 ∧ Hid (Below w6.heap.size w6 wr)) (fun z13 _ => n2 - (intOf z13).toNat)
    case atStart => exact ⟨0, rfl, by omega, Below.refl _ _⟩
    case round =>
     obtain ⟨k, rfl, hk, HBK⟩ := hrel
     by_cases hlk : k < n2
     ·have hkn : (k : Int) < (n2 : Int) := by omega
      have hkk : k < kn.length := by rw [HR.out.1]; exact hlk
      have c0 : wr.cell? ⟨r, k, none⟩ = some (.int .u64 (fin kn[k]).id) := (HR.out.2.2.1.below HBK.out HR.out.2.2.1.lt).cell k (by simp [fillC, hkk])
      have HBW9 : Hid (Below W.heap.size W wr) := HQ9.out.trans (HBK.out.mono HQ9.out.size)
      have N2 := ND.out kn[k] (HR.out.2.2.2 _ (List.getElem_mem hkk)) wr HBW9.out
      have HNO := HKN.out kn[k] (List.getElem_mem hkk)
      have HX9 : Hid (∀ U, Below wr.heap.size wr U → U.cell? ⟨xb, 1, none⟩ = some (.int .i64 la) ∧ U.cell? ⟨xb, 2, none⟩ = some (.int .i64 lb)) := fun U hU => by
       obtain ⟨_, q1, q2, _⟩ := HXB.out U (HB6.out.trans ((HBK.out.trans (hU.mono HBK.out.size)).mono HB6.out.size))
       exact ⟨q1, q2⟩
      unfold ndV at N2
      generalize fin kn[k] = dc at *
      go_upto_region 14 with (go_at_call 10; (with_reducible refine N2.mono ?_); clear N2; rintro e w7 ⟨rfl, b7⟩; have HB7 : Hid (Below wr.heap.size wr w7) := b7; clear b7)
      obtain ⟨V7, hV7⟩ : ∃ V, w7.alloc (.cells #[.int .u64 dc.id, .int .u64 dc.par, .int .i64 dc.org, .int .u64 dc.tree, .int .i64 dc.dep, .int .i64 dc.fr, .int .i64 dc.til] 38) = V := ⟨_, rfl⟩
      have bk : Blk V7 w7.heap.size #[.int .u64 dc.id, .int .u64 dc.par, .int .i64 dc.org, .int .u64 dc.tree, .int .i64 dc.dep, .int .i64 dc.fr, .int .i64 dc.til] 38 := by rw [← hV7]; exact Blk.new _ _ _
      have m5 : V7.cell? ⟨w7.heap.size, 5, none⟩ = some (.int .i64 dc.fr) := bk.cell 5 rfl
      have m6 : V7.cell? ⟨w7.heap.size, 5 + 1, none⟩ = some (.int .i64 dc.til) := bk.cell 6 rfl
      have BV7 : Hid (Below wr.heap.size wr V7) := by rw [← hV7]; exact HB7.out.alloc HB7.out.size _
      obtain ⟨x1, x2⟩ := HX9.out V7 BV7.out
      have HE7 : Hid (Below w6.heap.size w6 V7) := HBK.out.trans (BV7.out.mono HBK.out.size)
      rw [hV7]
      clear hV7 bk HB7 BV7 c0
      generalize dc.fr = df at *
      generalize dc.til = dt at *
      by_cases e1 : df < dt
      ·by_cases e2 : df < lb
       ·have e3 : ¬ la < dt := fun e3 => HNO ⟨e1, e2, e3⟩
        clear HNO
        go_wp2
        go_roundw
        case rel => exact ⟨k + 1, by go_num, by omega, HE7⟩
        case measure => (simp [intOf]; omega)
       ·clear HNO
        go_wp2
        go_roundw
        case rel => exact ⟨k + 1, by go_num, by omega, HE7⟩
        case measure => (simp [intOf]; omega)
      ·clear HNO
       go_wp2
       go_roundw
       case rel => exact ⟨k + 1, by go_num, by omega, HE7⟩
       case measure => (simp [intOf]; omega)
     ·obtain rfl : k = n2 := by omega
      have hkn : ¬ (k : Int) < (k : Int) := by omega
      have HBW9 : Hid (Below W.heap.size W wr) := HQ9.out.trans (HBK.out.mono HQ9.out.size)
      have HXU : Hid (∀ U, Below wr.heap.size wr U → U.cell? ⟨xb, 0, none⟩ = some (.int .u64 (fin y).id) ∧ U.cell? ⟨xb, 1, none⟩ = some (.int .i64 la) ∧ U.cell? ⟨xb, 2, none⟩ = some (.int .i64 lb) ∧ U.cell? ⟨W.heap.size, 0, none⟩ = some (.int .u64 (fin x).id)) := fun U hU => HXB.out U (HB6.out.trans ((HBK.out.trans (hU.mono HBK.out.size)).mono HB6.out.size))
      obtain ⟨r0, r1, r2, r3⟩ := HXU.out wr (Below.refl _ _)
      have HV9 : Hid (∀ U, Below wr.heap.size wr U → Below V0.heap.size V0 U) := fun U hU => HV20.out.trans ((HB6.out.trans ((HBK.out.trans (hU.mono HBK.out.size)).mono HB6.out.size)).mono HV20.out.size)
      obtain ⟨wb1, wb2⟩ := HWB.out
      have O1 := HOWL.out la (Int.le_refl _) hAL wr HBW9.out
      clear k0 k1 k2 k3 hkn
      go_wp2_with (first
       | (go_at_call 26; (with_reducible refine O1.mono ?_); clear O1; rintro e w7 ⟨rfl, b7⟩; have HB7 : Hid (Below wr.heap.size wr w7) := b7; obtain ⟨s0, s1, s2, s3⟩ := HXU.out w7 b7; have O2 := HOWL.out (lb - 1) (by omega) (by omega) w7 (HBW9.out.trans (b7.mono HBW9.out.size)); clear b7 r0 r1 r2 r3)
       | (go_at_call 26; (with_reducible refine O2.mono ?_); clear O2; rintro e w8 ⟨rfl, b8⟩; have HB8 : Hid (Below wr.heap.size wr w8) := HB7.out.trans (b8.mono HB7.out.size); obtain ⟨y0, y1, y2, y3⟩ := HXU.out w8 HB8.out; have O3 := fun t h1 h2 => HOWL.out t h1 h2 w8 (HBW9.out.trans (HB8.out.mono HBW9.out.size)); clear b8 s0 s1 s2 s3)
       | (go_at_call 26; (with_reducible refine (O3 _ ?_ ?_).mono ?_); (omega); (omega); clear O3; rintro e w9 ⟨rfl, b9⟩; have HB9 : Hid (Below wr.heap.size wr w9) := HB8.out.trans (b9.mono HB8.out.size); obtain ⟨s0, s1, s2, s3⟩ := HXU.out w9 HB9.out; clear b9 y0 y1 y2 y3))
      go_roundw
      case rel => first
       | exact ⟨i + 1, by rw [HP8.out], by go_num, by omega, HV9.out w9 HB9.out⟩
       | exact ⟨i + 1, by rw [HP8.out], by go_num, by omega, below_dr (HV9.out w9 HB9.out) _⟩
      case measure => (simp [intOf]; omega)
  ·obtain rfl : i = q := by omega
   have hin : ¬ (i : Int) < (i : Int) := by omega
   have HE : Hid (Below W.heap.size W wr) := HB0.out.trans (HBR.out.mono HB0.out.size)
   have q2 := HK0.out.below HBR.out HK0.out.lt
   have r5 : wr.cell? ⟨W.heap.size, 5, none⟩ = some (.int .i64 (fin x).fr) := q2.cell 5 rfl
   have r6 : wr.cell? ⟨W.heap.size, 5 + 1, none⟩ = some (.int .i64 (fin x).til) := q2.cell 6 rfl
   rw [HEN.out]
   have nb1 : ((fin x).til == (fin x).til) = true := by simp
   clear q2
   go_wp2
   go_ret
   exact ⟨rfl, HE.out⟩
end Go.Proofs.YtnffedmcblbkoaaGreatDoor
