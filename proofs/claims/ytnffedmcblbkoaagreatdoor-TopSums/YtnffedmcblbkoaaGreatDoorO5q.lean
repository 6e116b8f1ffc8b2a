/-
  Merged: O5, Ofi.
-/
import Derived.Test.YtnffedmcblbkoaaGreatDoorO2q
import Derived.Test.YtnffedmcblbkoaaGreatDoorQAq
import Derived.Test.YtnffedmcblbkoaaGreatDoorPIq
import Derived.Test.YtnffedmcblbkoaaGreatDoorRAq
import Derived.Test.YtnffedmcblbkoaaGreatDoorZmq
import Derived.Test.YtnffedmcblbkoaaGreatDoorFSq
import Derived.Test.YtnffedmcblbkoaaGreatDoorFIq
import Derived.Test.YtnffedmcblbkoaaGreatDoorFXq
import Derived.BigQuiet
import Derived.Test.YtnffedmcblbkoaaGreatDoorOZ
import Derived.Test.YtnffedmcblbkoaaGreatDoorYcq
import Derived.Test.YtnffedmcblbkoaaGreatDoorMwq
import Derived.Laws.StructEq
import Derived.Test.YtnffedmcblbkoaaGreatDoorUCq
import Derived.Test.YtnffedmcblbkoaaGreatDoorFKq
import Derived.Test.YtnffedmcblbkoaaGreatDoorSOq
import Derived.Test.YtnffedmcblbkoaaGreatDoorTGq
import Derived.Test.YtnffedmcblbkoaaGreatDoorOXq
import Derived.Test.YtnffedmcblbkoaaGreatDoorGAq
import Derived.Test.YtnffedmcblbkoaaGreatDoorOLq
namespace Go.Proofs.YtnffedmcblbkoaaGreatDoor
open Go Go.RowKit Go.Lib Go.Maps
set_option maxRecDepth 100000
theorem preN_of (KN : Nat → List Nat) : ∀ (fu : Nat) (L : List Nat) (y : Nat), y ∈ preN KN fu L → ∃ x ∈ L, y ∈ preN KN fu [x]
 | 0, _, _, h => by cases h
 | fu + 1, L, y, h => by
  simp only [preN, List.mem_flatMap] at h ⊢
  obtain ⟨z, hz, h⟩ := h
  exact ⟨z, hz, z, by simp, h⟩
def RooF (Y : List Sp) (fin : Nat → Nod) (K : Nat → List Int) (R : List Int) (ro : Nat → Nat) : Prop := ∀ y, y < Y.length → ro y < Y.length ∧ (fin (ro y)).org ≠ 0 ∧ (fin (ro y)).tree = (fin (ro y)).id ∧ inT K (ro y) y ∧ (fin y).tree = (fin (ro y)).id ∧ ((ro y : Nat) : Int) ∈ R
section
variable {Y : List Sp} {C : List Int} {dp : Nat → Nat} {fin : Nat → Nod} {X : List Spot} {K : Nat → List Int} {R : List Int}
theorem FoB.rootF9 (h : FoB Y C dp fin X K R) : ∃ ro, RooF Y fin K R ro := by
 have one : ∀ y, ∃ x, y < Y.length → x < Y.length ∧ (fin x).org ≠ 0 ∧ (fin x).tree = (fin x).id ∧ inT K x y ∧ (fin y).tree = (fin x).id ∧ ((x : Nat) : Int) ∈ R := fun y => by
  by_cases hy : y < Y.length
  ·obtain ⟨x, hx, hp⟩ := preN_of _ _ _ _ ((h.all.2.2.1 y).2 hy)
   obtain ⟨z, hz, rfl⟩ := List.mem_map.1 hx
   obtain ⟨x, rfl, h1, h2, h3⟩ := h.root z hz
   refine ⟨x, fun _ => ⟨h1, h2, h3, ?_, ?_, hz⟩⟩
   ·have hp2 := hp
    simp only [Int.toNat_natCast] at hp2
    exact hp2
   ·have : inT K x y := by
     have hp2 := hp
     simp only [Int.toNat_natCast] at hp2
     exact hp2
    exact (h.inTlt h1 y this).2.2.2.2.trans h3
  ·exact ⟨0, fun h => absurd h hy⟩
 exact ⟨fun y => Classical.choose (one y), fun y hy => Classical.choose_spec (one y) hy⟩
def selfX (fin : Nat → Nod) (K : Nat → List Int) (dp : Nat → Nat) (ro : Nat → Nat) (y : Nat) : Int := sumH (legsX fin K dp (ro y)) y
theorem sumH_none {N : List LegN} {y : Nat} (h : ∀ l ∈ N, l.1 ≠ y) : sumH N y = 0 := by
 unfold sumH
 have e : N.map (fun l => if l.1 = y then lenI (l.2.1, l.2.2) else 0) = N.map (fun _ => (0 : Int)) := List.map_congr_left (fun l hl => if_neg (h l hl))
 rw [e]
 clear e h
 induction N with
 | nil => rfl
 | cons a r ih => rw [List.map_cons, List.sum_cons, ih]; rfl
theorem RooF.same (h : FoB Y C dp fin X K R) {ro : Nat → Nat} (hr : RooF Y fin K R ro) {x y : Nat} (hx : x < Y.length) (hy : y < Y.length) (ht : (fin x).tree = (fin x).id) (e : (fin y).tree = (fin x).tree) : ro y = x :=
 h.inj (hr y hy).1 hx ((hr y hy).2.2.2.2.1.symm.trans (e.trans ht))
theorem RooF.other (h : FoB Y C dp fin X K R) {ro : Nat → Nat} (hr : RooF Y fin K R ro) {x y : Nat} (hx : x < Y.length) (hy : y < Y.length) (ht : (fin x).tree = (fin x).id) (hne : ro y ≠ x) : ∀ l ∈ legsX fin K dp x, l.1 ≠ y := fun l hl e => by
 obtain ⟨_, _, _, n4⟩ := h.legsO hx
 have := (n4 l hl).2.1
 rw [e] at this
 exact hne (hr.same h hx hy ht this)
theorem FoB.sumDX (h : FoB Y C dp fin X K R) {x y : Nat} (hx : x < Y.length) (hy : y < Y.length) : sumD fin (legsX fin K dp x) (fin y).id = sumH (legsX fin K dp x) y := by
 obtain ⟨_, _, _, n4⟩ := h.legsO hx
 exact sumD_sumH (fun l hl e => h.inj (n4 l hl).1 hy e)
theorem FoB.kidsLe (h : FoB Y C dp fin X K R) {y : Nat} (hy : y < Y.length) {N : Nat} (hN : (N : Int) = 18446744073709551615) : cntM (memI (kidI fin K y)) (-9223372036854775808) N ≤ lenI ((fin y).fr, (fin y).til) := by
 have hiy := h.inn (dp y) y rfl hy
 rw [← cnt_clip (a := (fin y).fr) (b := (fin y).til) hiy.1 hiy.2.1 hiy.2.2 hN]
 exact cntM_le (fun x hx => h.kidsIn hy x hx) _ _
end
def timC (fin : Nat → Nod) (K : Nat → List Int) (dp : Nat → Nat) (ro : Nat → Nat) (N : Nat) (y : Nat) : List Value := [.int .u64 (fin y).id, .int .u64 (lenI ((fin y).fr, (fin y).til)), .int .u64 (lenI ((fin y).fr, (fin y).til) - iv.muV N (memI (kidI fin K y))), .int .u64 (selfX fin K dp ro y)]
theorem infoOw_parts : ∃ i, Tryz.prog.info? 52 = some i ∧ i.zero = some (.agg #[.int .u64 0, .int .u64 0, .int .u64 0, .int .u64 0]) ∧ i.size = 4 ∧ i.bytes = 32 := by
 have h : (Tryz.prog.info? 52).map (fun i => (i.zero, i.size, i.bytes)) = some (some (.agg #[.int .u64 0, .int .u64 0, .int .u64 0, .int .u64 0]), 4, 32) := by kernel_rfl
 cases hi : Tryz.prog.info? 52 with
 | none => rw [hi] at h; simp at h
 | some i => rw [hi] at h; simp at h; exact ⟨i, rfl, h.1, h.2.1, h.2.2⟩
theorem wpList_appOw {ops : Array Oper} {rest : List Oper} {o : Oper} {a : Act} {Q : Exit → Act → World → Prop} (wr : World) (hgd : o.guard = none) (s x : Operand)
  (ho : o.op = .call { callee := .builtin .append, args := #[s, x], argTypes := #[28, 28] })
  (base : Nat) (v : Value) (n : Nat) (xs : List Value) (p q r t : Int) (b : Nat) (hb : b = wr.heap.size) (hv : a.eval s = v) (hown : wr.ownsRow base 52 4 v n xs) (hx : a.eval x = .slice (some ⟨b, 0, none⟩) 1 1) (hn : n ≤ 1000000) (hbase : base ≤ wr.heap.size)
  (h : ∀ va vc w', w'.ownsRow base 52 4 (.slice va (n + 1) vc) (n + 1) (xs ++ [.int .u64 p, .int .u64 q, .int .u64 r, .int .u64 t]) → Upd (fun k => v.ownBlock = some k) wr w' → wpList Tryz.prog ops Q rest (a.put o.dst (.slice va (n + 1) vc)) w') : wpList Tryz.prog ops Q (o :: rest) a (wr.alloc (.cells #[.int .u64 p, .int .u64 q, .int .u64 r, .int .u64 t] 52)) := by
 subst hb
 obtain ⟨i0, hi0, hz0, hz1, hz2⟩ := infoOw_parts
 have hown' : (wr.alloc (.cells #[.int .u64 p, .int .u64 q, .int .u64 r, .int .u64 t] 52)).ownsRow base 52 4 v n xs := ownsRow_upd hown ((Upd.refl (fun _ => False) wr).alloc _) (fun _ _ h => h)
 have hs : Src Tryz.prog 4 28 (.slice (some ⟨wr.heap.size, 0, none⟩) 1 1) 1 [.int .u64 p, .int .u64 q, .int .u64 r, .int .u64 t] (wr.alloc (.cells #[.int .u64 p, .int .u64 q, .int .u64 r, .int .u64 t] 52)) := by
  refine Src.ofSlice _ Tryz.underlying28 ⟨wr.heap.size, 0, none⟩ 1 1 _ rfl (fun j u hj => ?_) (fun u hu => ?_)
  ·rw [Addr.add_lit, Nat.zero_add]
   exact (Blk.new wr #[.int .u64 p, .int .u64 q, .int .u64 r, .int .u64 t] 52).cell j (by simpa using hj)
  ·simp at hu
   rcases hu with rfl | rfl | rfl | rfl <;> rfl
 refine wpList_appW _ hgd s x 28 28 ho base 52 i0 _ 4 32 Tryz.underlying28 hi0 hz0 hz1 hz2 rfl v n _ hv hown' _ 1 _ hx hs (by unfold maxLen; omega) (by omega) (by simp; omega) ?_
 intro v1 w1 o1 g1 m1
 obtain ⟨va, vc, rfl⟩ := owns_sliceS o1
 exact h va vc w1 o1 (((Upd.refl _ wr).alloc _).grown g1 (fun k _ e => e))
def TmI (Y : List Sp) (fin : Nat → Nod) (K : Nat → List Int) (dp ro : Nat → Nat) (R : List Int) (mb : Nat) (w3 : World) (j : Nat) (wr : World) : Prop := (∃ F n P, IdM wr mb F n P ∧ n ≤ 2000 * j ∧ ∀ y, y < Y.length → F (fin y).id = if ((ro y : Nat) : Int) ∈ R.take j then selfX fin K dp ro y else 0) ∧ Upd (fun q => q = mb) w3 wr
def TnI (fin : Nat → Nod) (K : Nat → List Int) (dp ro : Nat → Nat) (N : Nat) (ids : List Int) (rid : Nat) (w5 : World) (i : Nat) (oa : Option Addr) (oc : Nat) (wr : World) : Prop := wr.ownsRow w5.heap.size 52 4 (.slice oa i oc) i ((List.range i).flatMap (timC fin K dp ro N)) ∧ Blk wr rid (fillC .u64 ids 0) 33 ∧ Below w5.heap.size w5 wr
def TimP (fin : Nat → Nod) (K : Nat → List Int) (dp ro : Nat → Nat) (N n : Nat) (W : World) (e : Ending) (W' : World) : Prop := ∃ b oa oc, e = .returned (.slice oa n oc) ∧ W'.ownsRow b 52 4 (.slice oa n oc) n ((List.range n).flatMap (timC fin K dp ro N)) ∧ W.heap.size ≤ b ∧ Below W.heap.size W W'
set_option maxHeartbeats 8000000 in
theorem times_any (f sb : Nat) (X : List Spot) (K : Nat → List Int) (rv : Value) (R : List Int) (Y : List Sp) (C : List Int) (dp : Nat → Nat) (fin : Nat → Nod) (W : World) (hF : ForestAt W f sb X K rv R) (hB : FoB Y C dp fin X K R) (ro : Nat → Nat) (hro : RooF Y fin K R ro) {N : Nat} (hN : (N : Int) = 18446744073709551615) :
  Calls Tryz.prog 8 #[.pointer (some ⟨f, 0, none⟩)] W fun e W' => TimP fin K dp ro N Y.length W e W' := by
 have hl := hB.fo.len
 have hn1 : Y.length ≤ 1000 := hB.one.len
 have HR : Hid (∀ W1, Below W.heap.size W W1 → Calls Tryz.prog 9 #[.pointer (some ⟨f, 0, none⟩)] W1 fun e w' => ∃ r, e = .returned (.slice (some ⟨r, 0, none⟩) R.length R.length) ∧ Blk w' r (fillC .u64 (idsOf X R) 0) 33 ∧ W1.heap.size ≤ r ∧ Below W1.heap.size W1 w') := fun W1 hb => roots_any f sb X K rv R W1 (hF.below hb)
 have HD : Hid (∀ W1, Below W.heap.size W W1 → Calls Tryz.prog 14 #[.pointer (some ⟨f, 0, none⟩)] W1 fun e w' => ∃ r, e = .returned (.slice (some ⟨r, 0, none⟩) X.length X.length) ∧ Blk w' r (fillC .u64 (X.map (fun x => x.nd.id)) 0) 33 ∧ W1.heap.size ≤ r ∧ Below W1.heap.size W1 w') := fun W1 hb => ids_any f sb X K rv R W1 (hF.below hb)
 have HC : Hid (∀ W1, Below W.heap.size W W1 → Calls Tryz.prog 33 #[.pointer (some ⟨f, 0, none⟩)] W1 fun e w' => e = .returned (.int .i64 (Y.length : Int)) ∧ w' = W1) := fun W1 hb => by
  have := count_any f sb X K rv R W1 (hF.below hb)
  rwa [hl] at this
 have HS : Hid (∀ x, x < Y.length → ∀ W1, Below W.heap.size W W1 → Calls Tryz.prog 32 #[.pointer (some ⟨f, 0, none⟩), .int .u64 (fin x).id] W1 fun e W' => SelP fin K dp x W1 e W') := fun x hx W1 hb => selves_any f sb X K rv R Y C dp fin W1 (hF.below hb) hB x hx
 have HA : Hid (∀ y, y < Y.length → ∀ W1, Below W.heap.size W W1 → Calls Tryz.prog 34 #[.pointer (some ⟨f, 0, none⟩), .int .u64 (fin y).id] W1 fun e W' => e = .returned (.tuple #[.int .u64 (lenI ((fin y).fr, (fin y).til)), .int .u64 (lenI ((fin y).fr, (fin y).til) - iv.muV N (memI (kidI fin K y)))]) ∧ Below W1.heap.size W1 W') := fun y hy W1 hb => aloneO_any f sb X K rv R Y C dp fin W1 (hF.below hb) hB y hy hN (hB.kidsLe hy hN) (cntM_nonneg _ _ _).1
 have HX : Hid (X.map (fun x => x.nd.id) = (List.range Y.length).map (fun i => (fin i).id)) := by
  refine List.ext_getElem (by simp [hl]) (fun i h1 h2 => ?_)
  have hi : i < X.length := by simpa using h1
  simp [(hB.fo.each i (by omega) hi).2]
 have HBB : Hid (FoB Y C dp fin X K R ∧ RooF Y fin K R ro) := ⟨hB, hro⟩
 have hrl : R.length ≤ 1000 := by
  have h1 := hB.rlen
  unfold rtN at h1
  rwa [List.length_map] at h1
 have HE : Hid (∀ b oa oc W', W'.ownsRow b 52 4 (.slice oa Y.length oc) Y.length ((List.range Y.length).flatMap (timC fin K dp ro N)) → W.heap.size ≤ b → Below W.heap.size W W' → TimP fin K dp ro N Y.length W (.returned (.slice oa Y.length oc)) W') := fun b oa oc W' h1 h2 h3 => ⟨b, oa, oc, rfl, h1, h2, h3⟩
 have HXL : Hid (X.length = Y.length) := hl
 generalize TimP fin K dp ro N Y.length W = POST at *
 clear hF hB hro
 obtain ⟨n, hn⟩ : ∃ n, Y.length = n := ⟨_, rfl⟩
 have HN : Hid (Y.length = n) := hn
 rw [hn] at hn1 HC HS HA HX HE HXL
 rw [HXL.out] at HD
 obtain ⟨rn, hrn⟩ : ∃ n, R.length = n := ⟨_, rfl⟩
 have HRN : Hid (R.length = rn) := hrn
 rw [hrn] at HR hrl
 clear hl hn hrn
 obtain ⟨i0, hi0, hz0, hz1, hz2⟩ := infoOw_parts
 have hmm := @run_makeMap Tryz.prog
 have HM1 : Hid (IdM (W.alloc (.map #[] 0)) W.heap.size (fun _ => 0) 0 (fun _ => False)) := IdM.made W
 have B1 : Below W.heap.size W (W.alloc (.map #[] 0)) := (Below.refl _ _).alloc (Nat.le_refl _) _
 have R1 := HR.out _ B1
 have HB1 : Hid (Below W.heap.size W (W.alloc (.map #[] 0))) := B1
 clear HR B1
 go_enter Tryz.func8, Tryz.ntmps8
 go_wp2_with (go_at_call 9; (with_reducible refine R1.mono ?_); clear R1; rintro e w3 ⟨r, rfl, hrb, hrl2, hb⟩; have H3 : Hid (Blk w3 r (fillC .u64 (idsOf X R) 0) 33 ∧ W.heap.size + 1 ≤ r ∧ IdM w3 W.heap.size (fun _ => 0) 0 (fun _ => False) ∧ Below W.heap.size W w3) := ⟨hrb, by rw [World.size_alloc] at hrl2; exact hrl2, HM1.out.upd (Upd.ofBelow (S := fun _ => False) hb (fun k h1 h2 => by omega)) (fun h => h), HB1.out.trans (hb.mono HB1.out.size)⟩; clear hrb hrl2 hb)
 obtain ⟨mb, hmb⟩ : ∃ m, W.heap.size = m := ⟨_, rfl⟩
 have HMB : Hid (W.heap.size = mb) := hmb
 have HI0 : Hid (TmI Y fin K dp ro R mb w3 0 w3) := ⟨⟨_, _, _, by rw [← hmb]; exact H3.out.2.2.1, by omega, fun y hy => by simp⟩, Upd.refl _ _⟩
 rw [hmb]
 clear hmm hmb HM1 HB1
 go_loopw [17] (fun z wr => ∃ j : Nat, z = .int .i64 j ∧ j ≤ rn ∧ Hid (TmI Y fin K dp ro R mb w3 j wr)) (fun z _ => rn - (intOf z).toNat)
 case atStart => exact ⟨0, rfl, by omega, HI0⟩
 case round =>
  clear HI0
  obtain ⟨j, rfl, hj, HI⟩ := hrel
  by_cases hlt : j < rn
  ·have hjn : (j : Int) < (rn : Int) := by omega
   have hjR : j < R.length := by rw [HRN.out]; exact hlt
   obtain ⟨x, hxz, hx, hx1, hx2⟩ := HBB.out.1.root R[j] (List.getElem_mem hjR)
   have hrr := H3.out.1.upd HI.out.2 (fun e => by have h1 := H3.out.2.1; have h2 := HMB.out; omega)
   have c0 : wr.cell? ⟨r, j, none⟩ = some (.int .u64 (fin x).id) := by
    refine hrr.cell j ?_
    have hl := HBB.out.1.fo.len
    have e := (HBB.out.1.fo.each x hx (by omega)).2
    have hxX : x < X.length := by omega
    simp [fillC, idsOf, hjR, hxz, hxX, e]
   have HBW : Hid (Below W.heap.size W wr) := H3.out.2.2.2.trans (HI.out.2.below H3.out.2.2.2.size (fun k hk e => by have := HMB.out; omega))
   have SV := HS.out x (by rw [← HN.out]; exact hx) wr HBW.out
   have HNX : Hid (∀ w5, SelP fin K dp x wr (.returned (.map (some wr.heap.size))) w5 → ∃ (F : Int → Int) (n : Nat) (P : Int → Prop) (H : Int → Int), IdM w5 mb F n P ∧ IdM w5 wr.heap.size (sumD fin (legsX fin K dp x)) 2000 (fun i => ∃ l ∈ legsX fin K dp x, (fin l.1).id = i) ∧ n + 2000 ≤ 2000 * (j + 1) ∧ (∀ i, ((∃ l ∈ legsX fin K dp x, (fin l.1).id = i) → H i = sumD fin (legsX fin K dp x) i) ∧ (¬ (∃ l ∈ legsX fin K dp x, (fin l.1).id = i) → H i = F i)) ∧ ∀ y, y < Y.length → H (fin y).id = if ((ro y : Nat) : Int) ∈ R.take (j + 1) then selfX fin K dp ro y else 0) := fun w5 hs => by
    obtain ⟨_, hm, hbl⟩ := hs
    obtain ⟨⟨F, n, P, f1, f2, f3⟩, _⟩ := HI.out
    haveI : ∀ i, Decidable (∃ l ∈ legsX fin K dp x, (fin l.1).id = i) := fun i => Classical.propDecidable _
    refine ⟨F, n, P, fun i => if (∃ l ∈ legsX fin K dp x, (fin l.1).id = i) then sumD fin (legsX fin K dp x) i else F i, f1.upd (Upd.ofBelow (S := fun _ => False) hbl (fun k h1 h2 => by omega)) (fun h => h), hm, by omega, fun i => ⟨fun h => if_pos h, fun h => if_neg h⟩, fun y hy => ?_⟩
    have htk : R.take (j + 1) = R.take j ++ [(x : Int)] := by rw [List.take_succ_eq_append_getElem hjR, hxz]
    rw [htk]
    by_cases hro : ro y = x
    ·have hin : ((ro y : Nat) : Int) ∈ R.take j ++ [(x : Int)] := by rw [hro]; simp
     rw [if_pos hin]
     by_cases hq : ∃ l ∈ legsX fin K dp x, (fin l.1).id = (fin y).id
     ·show (if _ then _ else _) = _
      rw [if_pos hq, HBB.out.1.sumDX hx hy]
      unfold selfX
      rw [hro]
     ·show (if _ then _ else _) = _
      rw [if_neg hq, f3 y hy]
      have h0 : selfX fin K dp ro y = 0 := by
       unfold selfX
       rw [hro]
       exact sumH_none (fun l hl e => hq ⟨l, hl, by rw [e]⟩)
      rw [h0]
      split <;> rfl
    ·have hq : ¬ ∃ l ∈ legsX fin K dp x, (fin l.1).id = (fin y).id := fun ⟨l, hl, e⟩ => by
      obtain ⟨_, _, _, n4⟩ := HBB.out.1.legsO hx
      exact HBB.out.2.other HBB.out.1 hx hy hx2 hro l hl (HBB.out.1.inj (n4 l hl).1 hy e)
     show (if _ then _ else _) = _
     rw [if_neg hq, f3 y hy]
     have e : (((ro y : Nat) : Int) ∈ R.take j ++ [(x : Int)]) ↔ ((ro y : Nat) : Int) ∈ R.take j := by
      rw [List.mem_append, List.mem_singleton]
      constructor
      ·rintro (h | h)
       ·exact h
       ·exact absurd (by omega) hro
      ·exact Or.inl
     by_cases h : ((ro y : Nat) : Int) ∈ R.take j
     ·rw [if_pos h, if_pos (e.2 h)]
     ·rw [if_neg h, if_neg (fun q => h (e.1 q))]
   have HML : Hid (mb < wr.heap.size) := by
    obtain ⟨⟨F, n, P, f1, _⟩, _⟩ := HI.out
    exact f1.lt
   obtain ⟨id, hid⟩ : ∃ i, (fin x).id = i := ⟨_, rfl⟩
   rw [hid] at c0 SV
   have HUP : Hid (∀ w5, SelP fin K dp x wr (.returned (.map (some wr.heap.size))) w5 → Upd (fun q => q = mb) w3 w5) := fun w5 hs => HI.out.2.trans (Upd.ofBelow (S := fun _ => False) hs.2.2 (fun k h1 h2 => by omega)) (fun _ _ h => h.elim)
   clear hrr hjR hxz hx hx1 hx2 hid HI
   go_wp2_with (first
    | (go_at_call 32; (with_reducible refine SV.mono ?_); clear SV; intro e w5 hs; have he := hs.1; subst he; obtain ⟨F, nn, P, H, g1, g2, g3, g4, g5⟩ := HNX.out w5 hs; have CP := copyI_any g1 g2 (by have := HML.out; omega) (by omega) g4; have H5 : Hid (nn + 2000 ≤ 2000 * (j + 1) ∧ (∀ y, y < Y.length → H (fin y).id = if ((ro y : Nat) : Int) ∈ R.take (j + 1) then selfX fin K dp ro y else 0) ∧ Upd (fun q => q = mb) w3 w5) := ⟨g3, g5, HUP.out w5 hs⟩; clear hs g1 g2 g3 g4 g5 HNX HUP)
    | (go_at_call 31; (with_reducible refine CP.mono ?_); clear CP; rintro e w6 ⟨rfl, k1, k2⟩; have HI6 : Hid (TmI Y fin K dp ro R mb w3 (j + 1) w6) := ⟨⟨_, _, _, k1, H5.out.1, H5.out.2.1⟩, H5.out.2.2.trans k2 (fun _ _ h => h)⟩; clear k1 k2))
   go_roundw
   case rel => exact ⟨j + 1, by go_num, by omega, HI6⟩
   case measure => (simp [intOf]; omega)
  ·obtain rfl : j = rn := by omega
   have hjn : ¬ (j : Int) < (j : Int) := by omega
   have HMF : Hid (∃ F n P, IdM wr mb F n P ∧ ∀ y, y < Y.length → F (fin y).id = selfX fin K dp ro y) := by
    obtain ⟨⟨F, n, P, f1, _, f3⟩, _⟩ := HI.out
    refine ⟨F, n, P, f1, fun y hy => ?_⟩
    rw [f3 y hy, List.take_of_length_le (by rw [HRN.out]; omega), if_pos (HBB.out.2 y hy).2.2.2.2.2]
   have HBW : Hid (Below W.heap.size W wr) := H3.out.2.2.2.trans (HI.out.2.below H3.out.2.2.2.size (fun k hk e => by have := HMB.out; omega))
   have CT := HC.out wr HBW.out
   clear HI H3 HRN HS HC
   generalize wr = w5 at *
   go_upto_region 11 with (first
    | (go_at_call 33; (with_reducible refine CT.mono ?_); clear CT; rintro e w6 ⟨rfl, hw⟩; obtain rfl := hw.symm)
    | (at_make; refine wpList_make_own w5 rfl _ _ 28 rfl w5.heap.size 52 i0 (.agg #[.int .u64 0, .int .u64 0, .int .u64 0, .int .u64 0]) 4 Tryz.underlying28 hi0 hz0 hz1 .i64 .i64 _ n rfl rfl rfl (by rw [hz2]; omega) (by unfold maxLen; omega) (Nat.le_refl _) ?_; intro w6 o6 g6; have H6 : Hid (w6.ownsRow w5.heap.size 52 4 (.slice (some ⟨w5.heap.size, 0, none⟩) 0 n) 0 [] ∧ Below w5.heap.size w5 w6) := ⟨o6, ((Upd.refl (fun _ => False) w5).grown g6 (fun _ _ e => (by cases e))).below (Nat.le_refl _) (fun _ _ h => h)⟩; have ID := HD.out w6 (HBW.out.trans (H6.out.2.mono HBW.out.size)); clear o6 g6)
    | (go_at_call 14; (with_reducible refine ID.mono ?_); clear ID; rintro e w7 ⟨rid, rfl, hb7, _, hb⟩; have HI0 : Hid (TnI fin K dp ro N ((List.range n).map (fun i => (fin i).id)) rid w5 0 (some ⟨w5.heap.size, 0, none⟩) n w7) := ⟨ownsRow_upd H6.out.1 (Upd.ofBelow (S := fun _ => False) hb (fun k h1 h2 => by omega)) (fun _ _ h => h), by rw [← HX.out]; exact hb7, H6.out.2.trans (hb.mono H6.out.2.size)⟩; clear hb7 hb))
   go_wp2
   go_loopw [6, 33] (fun z6 z wr => ∃ (i : Nat) (oa : Option Addr) (oc : Nat), z6 = .slice oa i oc ∧ z = .int .i64 i ∧ i ≤ n ∧ Hid (TnI fin K dp ro N ((List.range n).map (fun i => (fin i).id)) rid w5 i oa oc wr)) (fun _ z _ => n - (intOf z).toNat)
   case atStart => exact ⟨0, _, _, rfl, rfl, by omega, HI0⟩
   case round =>
    clear HI0
    obtain ⟨i, oa, oc, rfl, rfl, hi, HI⟩ := hrel
    by_cases hlt : i < n
    ·have hin : (i : Int) < (n : Int) := by omega
     have c0 : wr.cell? ⟨rid, i, none⟩ = some (.int .u64 (fin i).id) := HI.out.2.1.cell i (by simp [fillC, hlt])
     have HBR : Hid (Below W.heap.size W wr) := HBW.out.trans (HI.out.2.2.mono HBW.out.size)
     have AL := HA.out i hlt wr HBR.out
     have HID : Hid (u64J (fin i).id) := (HBB.out.1.u64 i (by rw [HN.out]; exact hlt)).1
     have HLK : Hid (∀ U, Below wr.heap.size wr U → (Instr.lookup 82 (.map (some mb)) (.int .u64 (fin i).id) false).run Tryz.prog U = .ok (.int .u64 (selfX fin K dp ro i)) U) := fun U hu => by
      obtain ⟨F, n', P, f1, f2⟩ := HMF.out
      have h2 := HI.out.2.2.trans (hu.mono HI.out.2.2.size)
      have := (f1.upd (Upd.ofBelow (S := fun _ => False) h2 (fun k h1 h2 => by omega)) (fun h => h)).ask HID.out
      rwa [f2 i (by rw [HN.out]; exact hlt)] at this
     have HNX : Hid (∀ U va vc w', Below wr.heap.size wr U → w'.ownsRow w5.heap.size 52 4 (.slice va (i + 1) vc) (i + 1) ((List.range i).flatMap (timC fin K dp ro N) ++ [.int .u64 (fin i).id, .int .u64 (lenI ((fin i).fr, (fin i).til)), .int .u64 (lenI ((fin i).fr, (fin i).til) - iv.muV N (memI (kidI fin K i))), .int .u64 (selfX fin K dp ro i)]) → Upd (fun k => (Value.slice oa i oc).ownBlock = some k) U w' → TnI fin K dp ro N ((List.range n).map (fun i => (fin i).id)) rid w5 (i + 1) va vc w') := fun U va vc w' hu ho hw => by
      have hb := HI.out.2.1.below hu HI.out.2.1.lt
      refine ⟨?_, hb.upd hw (fun e => ?_), (HI.out.2.2.trans (hu.mono HI.out.2.2.size)).trans (hw.below (Nat.le_trans HI.out.2.2.size hu.size) (fun k hk e => by have := (owns_lt HI.out.1 e).1; omega))⟩
      ·rw [List.range_succ, List.flatMap_append]
       exact ho
      ·obtain ⟨cur, hc⟩ := owns_typeS (ownsRow_upd HI.out.1 (Upd.ofBelow (S := fun _ => False) hu (fun k h1 h2 => by omega)) (fun _ _ h => h)) e
       unfold Blk at hb
       rw [hc] at hb
       simp at hb
     have HOW : Hid (∀ U, Below wr.heap.size wr U → U.ownsRow w5.heap.size 52 4 (.slice oa i oc) i ((List.range i).flatMap (timC fin K dp ro N))) := fun U hu => ownsRow_upd HI.out.1 (Upd.ofBelow (S := fun _ => False) hu (fun k h1 h2 => by omega)) (fun _ _ h => h)
     have HSZ : Hid (w5.heap.size ≤ wr.heap.size) := HI.out.2.2.size
     clear HI
     generalize (fin i).id = id at *
     generalize lenI ((fin i).fr, (fin i).til) = le at *
     generalize le - iv.muV N (memI (kidI fin K i)) = al at *
     generalize selfX fin K dp ro i = se at *
     generalize (List.range i).flatMap (timC fin K dp ro N) = xs at *
     go_upto_region 14 with (go_at_call 34; (with_reducible refine AL.mono ?_); clear AL; rintro e w8 ⟨rfl, hb⟩; have HB8 : Hid (Below wr.heap.size wr w8) := hb; have LK := HLK.out w8 hb; clear hb)
     go_wp2_with (at_builtin; (refine wpList_appOw w8 rfl _ _ rfl w5.heap.size (.slice oa i oc) i xs id le al se _ rfl rfl (HOW.out w8 HB8.out) rfl (by omega) (Nat.le_trans HSZ.out HB8.out.size) ?_; intro va9 vc9 w9 o9 u9); have HI9 : Hid (TnI fin K dp ro N ((List.range n).map (fun i => (fin i).id)) rid w5 (i + 1) va9 vc9 w9) := HNX.out w8 va9 vc9 w9 HB8.out o9 u9; clear o9 u9 HNX)
     go_roundw
     case rel => exact ⟨i + 1, va9, vc9, by go_num, by go_num, by omega, HI9⟩
     case measure => (simp [intOf]; omega)
    ·obtain rfl : i = n := by omega
     have hin : ¬ (i : Int) < (i : Int) := by omega
     have HF : Hid (POST (.returned (.slice oa i oc)) wr) := HE.out w5.heap.size oa oc wr HI.out.1 HBW.out.size (HBW.out.trans (HI.out.2.2.mono HBW.out.size))
     go_wp2
     exact HF.out
end Go.Proofs.YtnffedmcblbkoaaGreatDoor
namespace Go.Proofs.YtnffedmcblbkoaaGreatDoor
open Go Go.RowKit Go.Lib
set_option maxRecDepth 100000
def posN (lo : Int) (N : List LegN) : Nat → Int
 | 0 => lo
 | i + 1 => (N.getD i (0, lo, lo)).2.2
theorem posN_cons (lo : Int) (y : Nat) (a b : Int) (r : List LegN) (i : Nat) (hi : i ≤ r.length) : posN lo ((y, a, b) :: r) (i + 1) = posN b r i := by
 cases i with
 | zero => rfl
 | succ j =>
  show (((y, a, b) :: r).getD (j + 1) (0, lo, lo)).2.2 = (r.getD j (0, b, b)).2.2
  have hj : j < r.length := hi
  simp [List.getD, hj]
theorem tile_at {hi : Int} : ∀ (lo : Int) (N : List LegN), TileF hi lo N → posN lo N N.length = hi ∧ ∀ i (h : i < N.length), N[i].2.1 = posN lo N i
 | lo, [], h => ⟨h, fun i h => by simp at h⟩
 | lo, (y, a, b) :: r, h => by
  obtain ⟨h1, h2, h3⟩ := h
  obtain ⟨i1, i2⟩ := tile_at b r h3
  refine ⟨by rw [List.length_cons, posN_cons _ _ _ _ _ _ (Nat.le_refl _)]; exact i1, fun i hi => ?_⟩
  cases i with
  | zero => exact h1
  | succ j =>
   have hj : j < r.length := by simpa using hi
   rw [posN_cons _ _ _ _ _ _ (by omega)]
   exact i2 j hj
theorem adj_at : ∀ (N : List LegN), AdjN N → ∀ i (h : i + 1 < N.length), (N[i]'(by omega)).1 ≠ N[i + 1].1
 | [], _, i, h => by simp at h
 | [_], _, i, h => by simp at h
 | x :: y :: r, hA, i, h => by
  obtain ⟨h1, h2⟩ := hA
  cases i with
  | zero => exact h1
  | succ j => exact adj_at (y :: r) h2 j (by simpa using h)
theorem FoB.ownM9 {Y : List Sp} {C : List Int} {dp : Nat → Nat} {fin : Nat → Nod} {X : List Spot} {K : Nat → List Int} {R : List Int} (h : FoB Y C dp fin X K R) {x : Nat} (hx : x < Y.length) (t : Int) : (ownerM fin t (1000 - dp x + 1) (fun i => swO fin (knO K i)) nils x).1 = ownX fin K dp x t :=
 (owner_spec (h.kidS hx) t (1000 - dp x + 1) x t (swF fin K) nils (Int.le_refl _) (h.inTx hx) (fun y _ => StN.start fin (swF fin K y) t)).1
theorem ownerO_any {f sb : Nat} {Y : List Sp} {C : List Int} {dp : Nat → Nat} {fin : Nat → Nod} {X : List Spot} {K : Nat → List Int} {rv : Value} {R : List Int} {w W : World} (hF : ForestAt w f sb X K rv R) (h : FoB Y C dp fin X K R) (hb : Below w.heap.size w W) (x : Nat) (hx : x < Y.length) (ho : (fin x).org ≠ 0) (t : Int) (h1 : (fin x).fr ≤ t) (h2 : t < (fin x).til) : Calls Tryz.prog 26 #[.pointer (some ⟨f, 0, none⟩), .int .u64 (fin x).id, .int .i64 t] W fun e W' => e = .returned (.tuple #[.int .u64 (fin (ownX fin K dp x t)).id, .int .i64 0]) ∧ Below W.heap.size W W' := by
 have := ownerB f sb X K rv R Y C fin dp x t W (hF.below hb) h.fo h.sh hx ho h1 h2
 rwa [h.ownM9 hx t] at this
theorem legsO_any {f sb : Nat} {Y : List Sp} {C : List Int} {dp : Nat → Nat} {fin : Nat → Nod} {X : List Spot} {K : Nat → List Int} {rv : Value} {R : List Int} {w W : World} (hF : ForestAt w f sb X K rv R) (h : FoB Y C dp fin X K R) (hb : Below w.heap.size w W) (x : Nat) (hx : x < Y.length) (ho : (fin x).org ≠ 0) : Calls Tryz.prog 11 #[.pointer (some ⟨f, 0, none⟩), .int .u64 (fin x).id] W fun e W' => ∃ ad cap, e = .returned (.tuple #[.slice ad (legsX fin K dp x).length cap, .int .i64 0]) ∧ Hid (LieIn (fun l => legC (legI fin l)) 3 W' ad (legsX fin K dp x)) ∧ Below W.heap.size W W' := by
 refine (legsB f sb X K rv R Y C fin dp x W (hF.below hb) h.fo h.sh hx ho).mono ?_
 rintro e W' ⟨v, L, b, rfl, hL, _, hrow, hbl⟩
 rw [(h.legsO hx).1] at hL
 subst hL
 rw [List.length_map, List.flatMap_map] at hrow
 obtain ⟨ad, cap, rfl⟩ := owns_sliceS hrow
 exact ⟨ad, cap, rfl, LieIn.of_owns (f := fun l => legC (legI fin l)) (fun _ => rfl) hrow rfl, hbl⟩
end Go.Proofs.YtnffedmcblbkoaaGreatDoor
