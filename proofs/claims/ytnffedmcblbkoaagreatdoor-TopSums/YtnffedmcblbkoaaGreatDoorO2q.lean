/-
  Merged: O2, O1, O3, O4.
-/
import Derived.Test.YtnffedmcblbkoaaGreatDoorOVq
import Derived.Test.YtnffedmcblbkoaaGreatDoorOXq
import Derived.Test.YtnffedmcblbkoaaGreatDoorQViq
import Derived.Test.YtnffedmcblbkoaaGreatDoorSA
import Derived.Test.YtnffedmcblbkoaaGreatDoorMwq
import Derived.Test.YtnffedmcblbkoaaGreatDoorFXq
import Derived.OrdersHeld
import Derived.Shelf.SlMaps.Copy
import Derived.Ground.SlmpProg
namespace Go.Proofs.YtnffedmcblbkoaaGreatDoor
open Go Go.RowKit
set_option maxRecDepth 100000
theorem infoIvO_parts : ∃ i, Tryz.prog.info? 36 = some i ∧ i.zero = some (.agg #[.int .i64 0, .int .i64 0]) ∧ i.size = 2 ∧ i.bytes = 16 := by
 have h : (Tryz.prog.info? 36).map (fun i => (i.zero, i.size, i.bytes)) = some (some (.agg #[.int .i64 0, .int .i64 0]), 2, 16) := by kernel_rfl
 cases hi : Tryz.prog.info? 36 with
 | none => rw [hi] at h; simp at h
 | some i => rw [hi] at h; simp at h; exact ⟨i, rfl, h.1, h.2.1, h.2.2⟩
theorem wpList_appJO {ops : Array Oper} {rest : List Oper} {o : Oper} {a : Act} {Q : Exit → Act → World → Prop} (wr : World) (hgd : o.guard = none) (s x : Operand)
  (ho : o.op = .call { callee := .builtin .append, args := #[s, x], argTypes := #[60, 60] })
  (base : Nat) (v : Value) (n : Nat) (xs : List Value) (p q : Int) (b : Nat) (hb : b = wr.heap.size) (hv : a.eval s = v) (hown : wr.ownsRow base 36 2 v n xs) (hx : a.eval x = .slice (some ⟨b, 0, none⟩) 1 1) (hn : n ≤ 1000000) (hbase : base ≤ wr.heap.size)
  (h : ∀ va vc w', w'.ownsRow base 36 2 (.slice va (n + 1) vc) (n + 1) (xs ++ [.int .i64 p, .int .i64 q]) → Upd (fun k => v.ownBlock = some k) wr w' → wpList Tryz.prog ops Q rest (a.put o.dst (.slice va (n + 1) vc)) w') : wpList Tryz.prog ops Q (o :: rest) a (wr.alloc (.cells #[.int .i64 p, .int .i64 q] 36)) := by
 subst hb
 obtain ⟨i0, hi0, hz0, hz1, hz2⟩ := infoIvO_parts
 have hown' : (wr.alloc (.cells #[.int .i64 p, .int .i64 q] 36)).ownsRow base 36 2 v n xs := ownsRow_upd hown ((Upd.refl (fun _ => False) wr).alloc _) (fun _ _ h => h)
 refine wpList_appW _ hgd s x 60 60 ho base 36 i0 (.agg #[.int .i64 0, .int .i64 0]) 2 16 Tryz.underlying60 hi0 hz0 hz1 hz2 rfl v n _ hv hown' _ 1 [.int .i64 p, .int .i64 q] hx (src_two Tryz.underlying60 (heap_alloc_new wr _) rfl rfl) (by unfold maxLen; omega) (by omega) (by simp; omega) ?_
 intro v1 w1 o1 g1 m1
 obtain ⟨va, vc, rfl⟩ := owns_sliceS o1
 exact h va vc w1 o1 (((Upd.refl _ wr).alloc _).grown g1 (fun k _ e => e))
def AlO (w3 : World) (cs : List (Int × Int)) (i : Nat) (oa : Option Addr) (oc : Nat) (wr : World) : Prop := wr.ownsRow w3.heap.size 36 2 (.slice oa i oc) i ((cs.take i).flatMap iv.ivC) ∧ Below w3.heap.size w3 wr
set_option maxHeartbeats 4000000 in
theorem aloneO_any (f sb : Nat) (X : List Spot) (K : Nat → List Int) (rv : Value) (R : List Int) (Y : List Sp) (C : List Int) (dp : Nat → Nat) (fin : Nat → Nod) (W : World) (hF : ForestAt W f sb X K rv R) (hB : FoB Y C dp fin X K R) (y : Nat) (hy : y < Y.length) {N : Nat} (hN : (N : Int) = 18446744073709551615) (hmu : iv.muV N (memI (kidI fin K y)) ≤ lenI ((fin y).fr, (fin y).til)) (h0 : 0 ≤ iv.muV N (memI (kidI fin K y))) :
  Calls Tryz.prog 34 #[.pointer (some ⟨f, 0, none⟩), .int .u64 (fin y).id] W fun e W' => e = .returned (.tuple #[.int .u64 (lenI ((fin y).fr, (fin y).til)), .int .u64 (lenI ((fin y).fr, (fin y).til) - iv.muV N (memI (kidI fin K y)))]) ∧ Below W.heap.size W W' := by
 have hl := hB.fo.len
 have hiy := hB.inn (dp y) y rfl hy
 have ND : Hid (∀ c, c < Y.length → ∀ W1, Below W.heap.size W W1 → Calls Tryz.prog 10 #[.pointer (some ⟨f, 0, none⟩), .int .u64 (fin c).id] W1 fun e w' => e = .returned (.tuple #[ndV (fin c), .bool true]) ∧ Below W1.heap.size W1 w') := fun c hc W1 hb => by
  have e := (hB.fo.each c hc (by omega)).2
  have h := node_at (hF.below hb) c (by omega) (fin c).id (by rw [e])
  rwa [e] at h
 have T := hB.senv y hy
 have KL : Hid (∀ c ∈ knK K y, c < Y.length) := fun c hc => by have := (T.kn y T.xX).2.1 c hc; omega
 have CH : Hid (∀ W1, Below W.heap.size W W1 → Calls Tryz.prog 15 #[.pointer (some ⟨f, 0, none⟩), .int .u64 (fin y).id] W1 fun e w' => ∃ r n, e = .returned (.slice (some ⟨r, 0, none⟩) n n) ∧ Hid ((knK K y).length = n ∧ Blk w' r (fillC .u64 ((knK K y).map (fun c => (fin c).id)) 0) 33) ∧ Below W1.heap.size W1 w') := fun W1 hb => by
  refine (children_at f sb X K rv R fin (knK K) W1 (hF.below hb) T.nd y T.xX (T.kn y T.xX).1 (T.kn y T.xX).2.1).mono ?_
  rintro e w' ⟨r, rfl, h1, _, h2⟩
  exact ⟨r, _, rfl, ⟨rfl, h1⟩, h2⟩
 have hk1 : (knK K y).length ≤ 1000 := (T.kn y T.xX).2.2
 have IN : Hid (∀ c, c < Y.length → In64 ((fin c).fr, (fin c).til)) := fun c hc => by
  have := hB.inn (dp c) c rfl hc
  refine ⟨⟨?_, ?_⟩, ⟨?_, ?_⟩⟩ <;> simp only <;> omega
 have ewr : IntKind.u64.wrap (lenI ((fin y).fr, (fin y).til) - iv.muV N (memI (kidI fin K y))) = lenI ((fin y).fr, (fin y).til) - iv.muV N (memI (kidI fin K y)) := by
  have : lenI ((fin y).fr, (fin y).til) ≤ 4611686018427387904 := by unfold lenI; simp only; split <;> omega
  rw [IntKind.wrap_u64]
  omega
 have LN : Hid (∀ W1, Calls Tryz.prog 62 #[.agg #[.int .i64 (fin y).fr, .int .i64 (fin y).til]] W1 fun e w' => e = .returned (.int .u64 (lenI ((fin y).fr, (fin y).til))) ∧ Below W1.heap.size W1 w') := fun W1 => length_any ((fin y).fr, (fin y).til) W1 (IN.out y hy)
 have ME : Hid (∀ ad n ca w1, iv.IvAt w1 ad n (kidI fin K y) → n ≤ 1000 → Calls Tryz.prog 63 #[.slice ad n ca] w1 fun e w' => e = .returned (.int .u64 (iv.muV N (memI (kidI fin K y)))) ∧ Below w1.heap.size w1 w') := fun ad n ca w1 h1 h2 => by
  refine (iv.measure_any ad n ca (kidI fin K y) w1 h1 (by omega) (fun i hi => by
   obtain ⟨c, hc, rfl⟩ := List.mem_map.1 hi
   exact IN.out c (KL.out c hc))).mono ?_
  rintro e w' ⟨L, rfl, hfm, hme, hin, hb⟩
  refine ⟨?_, hb⟩
  rw [iv.sum_is hN hfm hin, cntM_congr hme]
  rfl
 have hyy := hy
 have HKI : Hid (kidI fin K y = (knK K y).map (fun c => ((fin c).fr, (fin c).til))) := rfl
 clear hF hB hl hiy T IN hmu h0 hN
 generalize lenI ((fin y).fr, (fin y).til) = le at *
 generalize kidI fin K y = cs at *
 generalize iv.muV N (memI cs) = mu at *
 generalize knK K y = kn at *
 have C1 := CH.out W (Below.refl _ _)
 clear CH
 go_enter Tryz.func34, Tryz.ntmps34
 go_wp2_with (go_at_call 15; (with_reducible refine C1.mono ?_); clear C1; rintro e w3 ⟨r, n, rfl, HR, hb3⟩; have HB3 : Hid (Below W.heap.size W w3) := hb3; clear hb3)
 have hn1 : n ≤ 1000 := by rw [← HR.out.1]; exact hk1
 have HI0 : Hid (AlO w3 cs 0 none 0 w3) := ⟨World.ownsRow_nil _ _ _ _, Below.refl _ _⟩
 go_loopw [6, 17] (fun z8 z9 wr => ∃ (i : Nat) (oa : Option Addr) (oc : Nat), z8 = .slice oa i oc ∧ z9 = .int .i64 i ∧ i ≤ n ∧ Hid (AlO w3 cs i oa oc wr)) (fun _ z9 _ => n - (intOf z9).toNat)
 case atStart => exact ⟨0, none, 0, rfl, rfl, by omega, HI0⟩
 case round =>
  clear HI0
  obtain ⟨i, oa, oc, rfl, rfl, hi, HI⟩ := hrel
  by_cases hlt : i < n
  ·have hin : (i : Int) < (n : Int) := by omega
   have hik : i < kn.length := by rw [HR.out.1]; exact hlt
   have hrr := HR.out.2.below HI.out.2 HR.out.2.lt
   have c0 : wr.cell? ⟨r, i, none⟩ = some (.int .u64 (fin kn[i]).id) := hrr.cell i (by simp [fillC, hik])
   have N2 := ND.out kn[i] (KL.out _ (List.getElem_mem hik)) wr (HB3.out.trans (HI.out.2.mono HB3.out.size))
   have HTK : Hid (cs.take (i + 1) = cs.take i ++ [((fin kn[i]).fr, (fin kn[i]).til)]) := by
    have hic : i < cs.length := by rw [HKI.out, List.length_map]; exact hik
    have e : cs[i] = ((fin kn[i]).fr, (fin kn[i]).til) := by simp [HKI.out]
    show _ = _
    rw [List.take_add_one, List.getElem?_eq_getElem hic, e]
    rfl
   unfold ndV at N2
   generalize kn[i] = c at *
   clear hrr
   go_upto_region 6 with (go_at_call 10; (with_reducible refine N2.mono ?_); clear N2; rintro e w5 ⟨rfl, hb5⟩; have HB5 : Hid (Below wr.heap.size wr w5) := hb5; clear hb5)
   obtain ⟨V5, hV5⟩ : ∃ V, w5.alloc (.cells #[.int .u64 (fin c).id, .int .u64 (fin c).par, .int .i64 (fin c).org, .int .u64 (fin c).tree, .int .i64 (fin c).dep, .int .i64 (fin c).fr, .int .i64 (fin c).til] 38) = V := ⟨_, rfl⟩
   have bk : Blk V5 w5.heap.size #[.int .u64 (fin c).id, .int .u64 (fin c).par, .int .i64 (fin c).org, .int .u64 (fin c).tree, .int .i64 (fin c).dep, .int .i64 (fin c).fr, .int .i64 (fin c).til] 38 := by rw [← hV5]; exact Blk.new _ _ _
   have k5 : V5.cell? ⟨w5.heap.size, 5, none⟩ = some (.int .i64 (fin c).fr) := bk.cell 5 rfl
   have k6 : V5.cell? ⟨w5.heap.size, 5 + 1, none⟩ = some (.int .i64 (fin c).til) := bk.cell 6 rfl
   have BV : Hid (Below wr.heap.size wr V5) := by rw [← hV5]; exact HB5.out.alloc HB5.out.size _
   have HOW : Hid (V5.ownsRow w3.heap.size 36 2 (.slice oa i oc) i ((cs.take i).flatMap iv.ivC)) := ownsRow_upd HI.out.1 (Upd.ofBelow (S := fun _ => False) BV.out (fun k h1 h2 => by omega)) (fun _ _ h => h)
   have HSZ : Hid (w3.heap.size ≤ V5.heap.size) := Nat.le_trans HI.out.2.size BV.out.size
   have HNX : Hid (∀ va' vc' w', w'.ownsRow w3.heap.size 36 2 (.slice va' (i + 1) vc') (i + 1) ((cs.take i).flatMap iv.ivC ++ [.int .i64 (fin c).fr, .int .i64 (fin c).til]) → Upd (fun q => (Value.slice oa i oc).ownBlock = some q) V5 w' → AlO w3 cs (i + 1) va' vc' w') := fun va' vc' w' ho hu => by
    have b5 := HI.out.2.trans (BV.out.mono HI.out.2.size)
    refine ⟨?_, b5.trans (hu.below b5.size (fun k hk e => by have := (owns_lt HI.out.1 e).1; omega))⟩
    rw [HTK.out, List.flatMap_append]
    exact ho
   rw [hV5]
   clear hV5 bk HB5 BV HI c0 HTK
   generalize (fin c).fr = cf at *
   generalize (fin c).til = ct at *
   go_wp2_with (at_builtin; (refine wpList_appJO V5 rfl _ _ rfl w3.heap.size (.slice oa i oc) i _ cf ct _ rfl rfl HOW.out rfl (by omega) HSZ.out ?_; intro va9 vc9 w9 o9 u9); have HI9 : Hid (AlO w3 cs (i + 1) va9 vc9 w9) := HNX.out va9 vc9 w9 o9 u9; clear o9 u9 HNX)
   go_roundw
   case rel => exact ⟨i + 1, va9, vc9, rfl, by go_num, by omega, HI9⟩
   case measure => (simp [intOf]; omega)
  ·obtain rfl : i = n := by omega
   have hin : ¬ (i : Int) < (i : Int) := by omega
   have hcl : cs.length = i := by rw [HKI.out, List.length_map]; exact HR.out.1
   have hown : iv.OwnI w3.heap.size wr (.slice oa i oc) cs := by
    have h := HI.out.1
    rw [List.take_of_length_le (by omega)] at h
    unfold iv.OwnI
    rw [hcl]
    exact h
   have HIV : Hid (∀ V, Below wr.heap.size wr V → iv.IvAt V oa i cs) := fun V hb => hown.at.below hb
   have HBE : Hid (Below W.heap.size W wr) := HB3.out.trans (HI.out.2.mono HB3.out.size)
   have N1 := ND.out y hyy wr HBE.out
   unfold ndV at N1
   clear HI HR hown hcl ND KL HB3 HKI hin
   go_upto_region 9 with (go_at_call 10; (with_reducible refine N1.mono ?_); clear N1; rintro e w5 ⟨rfl, hb5⟩; have HB5 : Hid (Below wr.heap.size wr w5) := hb5; clear hb5)
   obtain ⟨V5, hV5⟩ : ∃ V, w5.alloc (.cells #[.int .u64 (fin y).id, .int .u64 (fin y).par, .int .i64 (fin y).org, .int .u64 (fin y).tree, .int .i64 (fin y).dep, .int .i64 (fin y).fr, .int .i64 (fin y).til] 38) = V := ⟨_, rfl⟩
   have bk : Blk V5 w5.heap.size #[.int .u64 (fin y).id, .int .u64 (fin y).par, .int .i64 (fin y).org, .int .u64 (fin y).tree, .int .i64 (fin y).dep, .int .i64 (fin y).fr, .int .i64 (fin y).til] 38 := by rw [← hV5]; exact Blk.new _ _ _
   have k5 : V5.cell? ⟨w5.heap.size, 5, none⟩ = some (.int .i64 (fin y).fr) := bk.cell 5 rfl
   have k6 : V5.cell? ⟨w5.heap.size, 5 + 1, none⟩ = some (.int .i64 (fin y).til) := bk.cell 6 rfl
   have BV : Hid (Below wr.heap.size wr V5) := by rw [← hV5]; exact HB5.out.alloc HB5.out.size _
   have L1 := LN.out V5
   rw [hV5]
   clear hV5 bk HB5 LN
   go_wp2_with (first
    | (go_at_call 62; (with_reducible refine L1.mono ?_); clear L1; rintro e w6 ⟨rfl, hb6⟩; have M1 := ME.out oa i oc w6 (HIV.out w6 (BV.out.trans (hb6.mono BV.out.size))) hn1; have HB6 : Hid (Below W.heap.size W w6) := HBE.out.trans ((BV.out.trans (hb6.mono BV.out.size)).mono HBE.out.size); clear hb6 ME HIV)
    | (go_at_call 63; (with_reducible refine M1.mono ?_); clear M1; rintro e w7 ⟨rfl, hb7⟩; have HB7 : Hid (Below W.heap.size W w7) := HB6.out.trans (hb7.mono HB6.out.size); clear hb7))
   go_ret2
   exact ⟨rfl, HB7.out⟩
end Go.Proofs.YtnffedmcblbkoaaGreatDoor
namespace Go.Proofs.YtnffedmcblbkoaaGreatDoor
open Go Go.RowKit Go.Maps
set_option maxRecDepth 100000
theorem zero_u64I (w : World) (e : TypeId) (he : Tryz.prog.underlying 82 = some (.map 33 e)) : (zeroValue e).run Tryz.prog w = .ok (.int .u64 0) w := by
 have h : Tryz.prog.underlying 82 = some (.map 33 32) := Tryz.underlying82
 rw [h] at he
 injection he with he
 injection he with _ he
 subst he
 rfl
def IdM (w : World) (b : Nat) (F : Int → Int) (n : Nat) (S : Int → Prop) : Prop := ∃ D, ownM w 33 b D ∧ Maps.size D ≤ n ∧ (∀ i, Maps.has D (ikey i) = true ↔ S i) ∧ ∀ i, D.atKey (ikey i) (.held (.int .u64 0)) = .held (.int .u64 (F i))
theorem IdM.made (w : World) : IdM (w.alloc (.map #[] 0)) w.heap.size (fun _ => 0) 0 (fun _ => False) := ⟨.map [], World.ownsMap_made w Tryz.prog 33 valR, Nat.le_refl _, (fun _ => ⟨fun h => (by cases h), fun h => False.elim h⟩), fun _ => rfl⟩
theorem IdM.congr {w : World} {b : Nat} {F G : Int → Int} {n m : Nat} {P Q : Int → Prop} (h : IdM w b F n P) (hF : ∀ i, F i = G i) (hn : n ≤ m) (hP : ∀ i, P i ↔ Q i) : IdM w b G m Q := by
 obtain ⟨D, h1, h2, h3, h4⟩ := h
 exact ⟨D, h1, Nat.le_trans h2 hn, fun i => (h3 i).trans (hP i), fun i => by rw [← hF i]; exact h4 i⟩
theorem IdM.upd {S : Nat → Prop} {w w' : World} {b : Nat} {F : Int → Int} {n : Nat} {P : Int → Prop} (h : IdM w b F n P) (hu : Upd S w w') (hS : ¬ S b) : IdM w' b F n P := by
 obtain ⟨D, h1, h2⟩ := h
 exact ⟨D, h1.upd hu hS, h2⟩
theorem IdM.lt {w : World} {b : Nat} {F : Int → Int} {n : Nat} {P : Int → Prop} (h : IdM w b F n P) : b < w.heap.size := by
 obtain ⟨D, h1, _⟩ := h
 exact World.ownsMap.lt h1
theorem IdM.isMap {w : World} {b : Nat} {F : Int → Int} {n : Nat} {P : Int → Prop} (h : IdM w b F n P) : ∃ es cl, w.heap[b]? = some (.map es cl) := by
 obtain ⟨D, ⟨es, cl, hb, _⟩, _⟩ := h
 exact ⟨es, cl, hb⟩
theorem IdM.not {w : World} {b c : Nat} {F : Int → Int} {n : Nat} {P : Int → Prop} {cs : Array Value} {t : TypeId} {r : Nat × Nat} (h : IdM w b F n P) (hc : w.heap[c]? = some (.cells cs t r)) : b ≠ c := by
 obtain ⟨es, cl, hb⟩ := h.isMap
 intro e
 subst e
 rw [hc] at hb
 simp at hb
theorem IdM.ask {w : World} {b : Nat} {F : Int → Int} {n : Nat} {P : Int → Prop} (h : IdM w b F n P) {i : Int} (hi : u64J i) : (Instr.lookup 82 (.map (some b)) (.int .u64 i) false).run Tryz.prog w = .ok (.int .u64 (F i)) w := by
 obtain ⟨D, h1, _, _, h5⟩ := h
 obtain ⟨v, ps, hr, hv⟩ := World.ownsMap.lookup h1 lawD Tryz.underlying82 (zero_u64I w _ Tryz.underlying82) (valR_mk (.int .u64 0)) (key_d i hi)
 rw [h5 i, valR_mk] at hv
 injection hv with hv
 injection hv with hv _
 injection hv with hv
 subst hv
 exact hr
theorem IdM.set {w : World} {b : Nat} {F : Int → Int} {n : Nat} {P : Int → Prop} (h : IdM w b F n P) {i : Int} (hi : u64J i) (v : Int) (hl : n < 1000000) : ∃ w', (Instr.mapUpdate 82 (.map (some b)) (.int .u64 i) (.int .u64 v)).run Tryz.prog w = .ok () w' ∧ IdM w' b (fun k => if k = i then v else F k) (n + 1) (fun k => k = i ∨ P k) ∧ Upd (fun k => k = b) w w' := by
 obtain ⟨D, h1, h2, h3, h5⟩ := h
 obtain ⟨w', hr, o1, t1⟩ := World.ownsMap.store h1 lawD Tryz.underlying82 (by unfold maxLen; omega) (key_d i hi) (valR_mk (.int .u64 v))
 refine ⟨w', hr, ⟨_, own_tight o1, ?_, fun k => ?_, fun k => ?_⟩, turned_updM t1⟩
 ·rw [size_put (World.ownsMap.tidy h1 lawD)]
  split <;> omega
 ·by_cases hk : k = i
  ·subst hk
   rw [has_put_same (World.ownsMap.isMap h1) (lawD.key (key_d _ hi))]
   simp
  ·rw [has_put_other (fun e => hk (ikey_inj e)), h3 k]
   simp [hk]
 ·by_cases hk : k = i
  ·subst hk
   rw [atKey_put_same (World.ownsMap.isMap h1) (lawD.key (key_d _ hi))]
   simp only [if_true]
  ·rw [atKey_put_other (fun e => hk (ikey_inj e)), h5 k]
   simp only [if_neg hk]
end Go.Proofs.YtnffedmcblbkoaaGreatDoor
namespace Go.Proofs.YtnffedmcblbkoaaGreatDoor
open Go Go.RowKit Go.Lib Go.Maps
set_option maxRecDepth 100000
theorem twoO {P : Program} {Q : Exit → Act → World → Prop} {md : Region.Mode} {S : World → Prop} {l : List Oper} {i j : Nat} {oi oj : Oper} {fuel : Nat} {listed : Array Bool} {a : Act} {w : World} (hi : l[i]? = some oi) (hj : l[j]? = some oj)
  (hr : Region.ready md l.toArray listed = [i, j])
  (h : ∀ K : Act → World → Prop, (∀ a' w', S w' ∧ wpAnyH P md l.toArray Q S fuel (listed.setIfInBounds i true) a' w' → K a' w') → if Region.wanted oi (yielded l.toArray a.tmps) = true then Oper.wp P oi a w K Q else K (a.put oi.dst undef) w)
  (h' : ∀ K : Act → World → Prop, (∀ a' w', S w' ∧ wpAnyH P md l.toArray Q S fuel (listed.setIfInBounds j true) a' w' → K a' w') → if Region.wanted oj (yielded l.toArray a.tmps) = true then Oper.wp P oj a w K Q else K (a.put oj.dst undef) w) : wpAnyH P md l.toArray Q S (fuel + 1) listed a w := by
 refine wpAnyH_all hr (by simp) ?_
 intro k hk
 simp at hk
 rcases hk with rfl | rfl
 ·have hi' : l.toArray[k]? = some oi := by simpa using hi
  unfold wpOp
  simp only [hi']
  have := h (fun a' w' => S w' ∧ wpAnyH P md l.toArray Q S fuel (listed.setIfInBounds k true) a' w') (fun _ _ h => h)
  split
  ·rename_i hw; rw [if_pos hw] at this; exact Or.inl this
  ·rename_i hw; rw [if_neg hw] at this; exact this
 ·have hj' : l.toArray[k]? = some oj := by simpa using hj
  unfold wpOp
  simp only [hj']
  have := h' (fun a' w' => S w' ∧ wpAnyH P md l.toArray Q S fuel (listed.setIfInBounds k true) a' w') (fun _ _ h => h)
  split
  ·rename_i hw; rw [if_pos hw] at this; exact Or.inl this
  ·rename_i hw; rw [if_neg hw] at this; exact this
def sumD (fin : Nat → Nod) (N : List LegN) (i : Int) : Int := (N.map (fun l => if (fin l.1).id = i then lenL l else 0)).sum
theorem len_nonneg9 (i : Int × Int) : 0 ≤ lenI i := by unfold lenI; split <;> omega
theorem sumD_next (fin : Nat → Nod) (N : List LegN) (k : Nat) (hk : k < N.length) (i : Int) : sumD fin (N.take (k + 1)) i = sumD fin (N.take k) i + (if (fin N[k].1).id = i then lenL N[k] else 0) := by
 unfold sumD
 rw [List.take_succ_eq_append_getElem hk, List.map_append, List.sum_append]
 simp
theorem sumD_le (fin : Nat → Nod) : ∀ (N : List LegN) (i : Int), 0 ≤ sumD fin N i ∧ sumD fin N i ≤ (N.map lenL).sum
 | [], _ => ⟨Int.le_refl _, Int.le_refl _⟩
 | l :: r, i => by
  obtain ⟨h1, h2⟩ := sumD_le fin r i
  have hn := lenL_nn l
  have e : sumD fin (l :: r) i = (if (fin l.1).id = i then lenL l else 0) + sumD fin r i := by simp [sumD]
  rw [e, List.map_cons, List.sum_cons]
  split <;> omega
theorem lens_take : ∀ (N : List LegN) (k : Nat), ((N.take k).map lenL).sum ≤ (N.map lenL).sum
 | [], k => by simp
 | l :: r, 0 => by
  have h1 := lens_take r 0
  have hn := lenL_nn l
  simp only [List.take_zero, List.map_nil, List.sum_nil, List.map_cons, List.sum_cons] at h1 ⊢
  omega
 | l :: r, k + 1 => by
  have h1 := lens_take r k
  simp only [List.take_succ_cons, List.map_cons, List.sum_cons]
  omega
theorem sumD_sumH {fin : Nat → Nod} {N : List LegN} {y : Nat} (inj : ∀ l ∈ N, (fin l.1).id = (fin y).id → l.1 = y) : sumD fin N (fin y).id = sumH N y := by
 unfold sumD sumH
 congr 1
 refine List.map_congr_left (fun l hl => ?_)
 by_cases h : l.1 = y
 ·rw [if_pos h, if_pos (by rw [h])]
  rfl
 ·rw [if_neg h, if_neg (fun e => h (inj l hl e))]
def SlI (fin : Nat → Nod) (N : List LegN) (mb : Nat) (w4 : World) (k : Nat) (wr : World) : Prop := IdM wr mb (sumD fin (N.take k)) k (fun i => ∃ l ∈ N.take k, (fin l.1).id = i) ∧ Upd (fun q => q = mb) w4 wr
def SelP (fin : Nat → Nod) (K : Nat → List Int) (dp : Nat → Nat) (x : Nat) (W : World) (e : Ending) (W' : World) : Prop := e = .returned (.map (some W.heap.size)) ∧ IdM W' W.heap.size (sumD fin (legsX fin K dp x)) 2000 (fun i => ∃ l ∈ legsX fin K dp x, (fin l.1).id = i) ∧ Below W.heap.size W W'
set_option maxHeartbeats 8000000 in
theorem selves_any (f sb : Nat) (X : List Spot) (K : Nat → List Int) (rv : Value) (R : List Int) (Y : List Sp) (C : List Int) (dp : Nat → Nat) (fin : Nat → Nod) (W : World) (hF : ForestAt W f sb X K rv R) (hB : FoB Y C dp fin X K R) (x : Nat) (hx : x < Y.length) :
  Calls Tryz.prog 32 #[.pointer (some ⟨f, 0, none⟩), .int .u64 (fin x).id] W fun e W' => SelP fin K dp x W e W' := by
 obtain ⟨n1, n2, n3, n4⟩ := hB.legsO hx
 have T := hB.envO hx
 have hi := hB.inn (dp x) x rfl hx
 have hel := endsN_len fin (preN (knO K) 1001 [x])
 have hpl : 1 ≤ (preN (knO K) 1001 [x]).length := List.length_pos_of_mem (hB.inTx hx)
 have hpt := T.ln
 have h3 := srtE_len (endsN fin (preN (knO K) 1001 [x]))
 have h4 := cptE_len (srtE (endsN fin (preN (knO K) 1001 [x]))) (by omega)
 obtain ⟨N, hNN⟩ : ∃ N, legsX fin K dp x = N := ⟨_, rfl⟩
 rw [hNN] at n1 n2 n3 n4
 have GR : Hid (∀ w1, Below W.heap.size W w1 → Calls Tryz.prog 38 #[.pointer (some ⟨f, 0, none⟩), .int .u64 (fin x).id] w1 fun e W' => e = .returned (.pointer (some ⟨w1.heap.size, 0, none⟩)) ∧ (∃ B wv wb ev, TreeO w1.heap.size W' fin w1.heap.size x (preN (knO K) 1001 [x]) B (swF fin K) nils wv (fun _ => nilV) wb ev (endsN fin (preN (knO K) 1001 [x]))) ∧ Below w1.heap.size w1 W') := fun w1 hb => grown_any f sb X K rv R fin (knO K) (swF fin K) 1001 x w1 (hF.below hb) T
 have LG : Hid (∀ base W1 tb B wv wb ev, TreeO base W1 fin tb x (preN (knO K) 1001 [x]) B (swF fin K) nils wv (fun _ => nilV) wb ev (endsN fin (preN (knO K) 1001 [x])) → Calls Tryz.prog 39 #[.pointer (some ⟨tb, 0, none⟩)] W1 fun e W' => ∃ v, e = .returned v ∧ W'.ownsRow base 50 3 v N.length ((N.map (legI fin)).flatMap legC) ∧ Upd (fun k => base ≤ k) W1 W') := fun base W1 tb B wv wb ev hT => by
  refine (legs_any base fin tb x (preN (knO K) 1001 [x]) B (swF fin K) (fun i => 1000 - dp i) wv wb ev _ W1 hT (ownG_of hB.fo hB.sh hB.rise hB.one.len x hx) (by omega) (by omega) h4.1 (by omega)).mono ?_
  rintro e W' ⟨v, L, rfl, hL, hrow, hu⟩
  refine ⟨v, rfl, ?_, hu⟩
  have e2 : L = N.map (legI fin) := hL.trans n1
  rw [e2, List.length_map] at hrow
  exact hrow
 have HE : Hid (∀ w', IdM w' W.heap.size (sumD fin N) N.length (fun i => ∃ l ∈ N, (fin l.1).id = i) → Below W.heap.size W w' → SelP fin K dp x W (.returned (.map (some W.heap.size))) w') := fun w' h1 h2 => by
  unfold SelP
  rw [hNN]
  exact ⟨rfl, h1.congr (fun _ => rfl) n3 (fun _ => Iff.rfl), h2⟩
 have HS : Hid (∀ k i, 0 ≤ sumD fin (N.take k) i ∧ sumD fin (N.take k) i ≤ 4611686018427387904) := fun k i => by
  have h1 := sumD_le fin (N.take k) i
  have h2 := lens_take N k
  have h5 := tile_sum _ _ n2.tile
  omega
 have HI4 : Hid (∀ l ∈ N, u64J (fin l.1).id ∧ In64 (l.2.1, l.2.2)) := fun l hl => by
  obtain ⟨l1, _, l3, l4, l5, _⟩ := n4 l hl
  have hq := hB.inn (dp l.1) l.1 rfl l1
  have hid : (spAt Y l.1).id = (fin l.1).id := hB.ids l.1 l1
  have e2 : spAt Y l.1 = Y[l.1] := by simp [spAt, List.getD, l1]
  have hf := (hB.one.fits Y[l.1] (List.getElem_mem l1)).id
  rw [← hid, e2]
  refine ⟨hf, ⟨?_, ?_⟩, ⟨?_, ?_⟩⟩ <;> simp only <;> omega
 have hN2 := n3
 generalize SelP fin K dp x W = POST at *
 clear hF hB hx hNN n1 n2 n3 n4 T hi hel hpl hpt h3 h4
 obtain ⟨id0, hid0⟩ : ∃ i, (fin x).id = i := ⟨_, rfl⟩
 rw [hid0] at GR ⊢
 clear hid0
 obtain ⟨n, hn⟩ : ∃ n, N.length = n := ⟨_, rfl⟩
 have HN : Hid (N.length = n) := hn
 rw [hn] at LG hN2
 have hmm := @run_makeMap Tryz.prog
 go_enter Tryz.func32, Tryz.ntmps32
 have HM1 : Hid (IdM (W.alloc (.map #[] 0)) W.heap.size (fun _ => 0) 0 (fun _ => False)) := IdM.made W
 have G1 := GR.out (W.alloc (.map #[] 0)) ((Below.refl _ _).alloc (Nat.le_refl _) _)
 have hs1 : (W.alloc (.map #[] 0)).heap.size = W.heap.size + 1 := World.size_alloc _ _
 have HSZ : Hid ((W.alloc (.map #[] 0)).heap.size = W.heap.size + 1) := hs1
 rw [hs1] at G1
 clear hs1 hn
 go_wp2_with (first
  | (go_at_call 38; (with_reducible refine G1.mono ?_); clear G1; rintro e w2 ⟨rfl, ⟨B, wv, wb, ev, hT⟩, hb2⟩; have L1 := LG.out _ _ _ _ _ _ _ hT; have HB2 : Hid (Below (W.heap.size + 1) (W.alloc (.map #[] 0)) w2) := hb2; clear hT hb2)
  | (go_at_call 39; (with_reducible refine L1.mono ?_); clear L1; rintro e w4 ⟨v, rfl, hrow, hu4⟩; obtain ⟨la, lc, rfl⟩ := owns_sliceS hrow; have H4 : Hid (w4.ownsRow (W.heap.size + 1) 50 3 (.slice la n lc) n ((N.map (legI fin)).flatMap legC) ∧ IdM w4 W.heap.size (fun _ => 0) 0 (fun _ => False) ∧ Below W.heap.size W w4) := ⟨hrow, (HM1.out.upd (Upd.ofBelow (S := fun k => W.heap.size + 1 ≤ k) HB2.out (fun k h1 h2 => h2)) (by omega)).upd hu4 (by omega), (((Below.refl W.heap.size W).alloc (Nat.le_refl _) _).trans (HB2.out.mono (Nat.le_succ _))).trans (hu4.below (by have h1 := HB2.out.size; have h2 := HSZ.out; omega) (fun k h1 h2 => by omega))⟩; clear hrow hu4))
 obtain ⟨mb, hmb⟩ : ∃ m, W.heap.size = m := ⟨_, rfl⟩
 have HMB : Hid (W.heap.size = mb) := hmb
 have HI0 : Hid (SlI fin N mb w4 0 w4) := ⟨by rw [← hmb]; exact H4.out.2.1.congr (fun i => by simp [sumD]) (Nat.le_refl _) (fun i => ⟨fun h => h.elim, fun ⟨l, hl, _⟩ => by simp at hl⟩), Upd.refl _ _⟩
 rw [hmb] at HE ⊢
 have hcl : w4.ownsRow (mb + 1) 50 3 (.slice la n lc) n ((N.map (legI fin)).flatMap legC) := by rw [← hmb]; exact H4.out.1
 have HRW : Hid (w4.ownsRow (mb + 1) 50 3 (.slice la n lc) n ((N.map (legI fin)).flatMap legC)) := hcl
 clear hmm hmb hcl GR LG
 go_loopw [14] (fun z wr => ∃ k : Nat, z = .int .i64 k ∧ k ≤ n ∧ Hid (SlI fin N mb w4 k wr)) (fun z _ => n - (intOf z).toNat)
 case atStart => exact ⟨0, rfl, by omega, HI0⟩
 case round =>
  clear HI0
  obtain ⟨k, rfl, hk, HI⟩ := hrel
  by_cases hlt : k < n
  ·have hkn : (k : Int) < (n : Int) := by omega
   have hkN : k < N.length := by rw [HN.out]; exact hlt
   have hrow := ownsRow_upd HRW.out HI.out.2 (fun j hj e => by have h1 := (owns_lt HRW.out hj).1; omega)
   obtain ⟨nn, hnn⟩ : ∃ m, n = m + 1 := ⟨n - 1, by omega⟩
   obtain ⟨g, hg⟩ : ∃ g, la = some ⟨g, 0, none⟩ := by rw [hnn] at hrow; exact owns_some hrow
   subst hg
   have hcell := legsIn_row hrow
   have hkL : k < (N.map (legI fin)).length := by rw [List.length_map]; exact hkN
   obtain ⟨q0, q1, q2⟩ := hcell k hkL
   rw [List.getElem_map] at q0 q1 q2
   have hmem := List.getElem_mem hkN
   obtain ⟨l, hl⟩ : ∃ l, N[k] = l := ⟨_, rfl⟩
   rw [hl] at q0 q1 q2 hmem
   obtain ⟨y, a, b⟩ := l
   have HID : Hid (u64J (fin y).id ∧ In64 (a, b)) := HI4.out _ hmem
   have HNX : Hid (∀ i, sumD fin (N.take (k + 1)) i = sumD fin (N.take k) i + (if (fin y).id = i then lenI (a, b) else 0)) := fun i => by
    have := sumD_next fin N k hkN i
    rw [hl] at this
    exact this
   have HMX : Hid (∀ i, (i = (fin y).id ∨ ∃ l ∈ N.take k, (fin l.1).id = i) ↔ ∃ l ∈ N.take (k + 1), (fin l.1).id = i) := fun i => by
    rw [List.take_succ_eq_append_getElem hkN, hl]
    constructor
    ·rintro (rfl | ⟨l, h1, h2⟩)
     ·exact ⟨(y, a, b), by simp, rfl⟩
     ·exact ⟨l, List.mem_append.2 (Or.inl h1), h2⟩
    ·rintro ⟨l, h1, h2⟩
     rcases List.mem_append.1 h1 with q | q
     ·exact Or.inr ⟨l, q, h2⟩
     ·simp at q
      subst q
      exact Or.inl h2.symm
   have hlen : 0 ≤ lenI (a, b) := len_nonneg9 _
   have hsk := HS.out k (fin y).id
   have hsk1 := HS.out (k + 1) (fin y).id
   rw [HNX.out, if_pos rfl] at hsk1
   unfold legI at q0 q1 q2
   simp only at q0 q1 q2
   obtain ⟨id, hid⟩ : ∃ i, (fin y).id = i := ⟨_, rfl⟩
   rw [hid] at HID HNX HMX hsk hsk1 q0
   obtain ⟨c, hc⟩ : ∃ c, sumD fin (N.take k) id = c := ⟨_, rfl⟩
   obtain ⟨le, hle⟩ : ∃ c, lenI (a, b) = c := ⟨_, rfl⟩
   rw [hc] at hsk hsk1
   rw [hle] at hlen hsk1 HNX
   have hw : IntKind.u64.wrap (c + le) = c + le := by rw [IntKind.wrap_u64]; omega
   have HCC : Hid (sumD fin (N.take k) id = c ∧ lenI (a, b) = le ∧ IntKind.u64.wrap (c + le) = c + le) := ⟨hc, hle, hw⟩
   have HKK : Hid (k < 2000) := by show k < 2000; omega
   clear hrow hnn hcell hkL hmem hl hid hc hle hw hlen hsk hsk1 hkN
   go_upto_region 5 with fail
   obtain ⟨V, hV⟩ : ∃ V, wr.alloc (.cells #[.int .u64 id, .int .i64 a, .int .i64 b] 50) = V := ⟨_, rfl⟩
   have bk : Blk V wr.heap.size #[.int .u64 id, .int .i64 a, .int .i64 b] 50 := by rw [← hV]; exact Blk.new _ _ _
   have HV : Hid (Blk V wr.heap.size #[.int .u64 id, .int .i64 a, .int .i64 b] 50 ∧ Below wr.heap.size wr V) := ⟨bk, by rw [← hV]; exact (Below.refl _ _).alloc (Nat.le_refl _) _⟩
   rw [hV]
   obtain ⟨vb, hvb⟩ : ∃ x, wr.heap.size = x := ⟨_, rfl⟩
   rw [hvb] at HV ⊢
   have HVB : Hid (wr.heap.size = vb) := hvb
   clear hV bk hvb q0 q1 q2
   have HSD : Hid (∀ U, Below V.heap.size V U → U.cell? ⟨vb, 0, none⟩ = some (.int .u64 id) ∧ U.cell? ⟨vb, 1, none⟩ = some (.int .i64 a) ∧ U.cell? ⟨vb, 2, none⟩ = some (.int .i64 b)) := fun U hu => by
    have hb := HV.out.1.below hu HV.out.1.lt
    exact ⟨hb.cell 0 rfl, hb.cell 1 rfl, hb.cell 2 rfl⟩
   have HIM : Hid (∀ U, Below V.heap.size V U → IdM U mb (sumD fin (N.take k)) k (fun i => ∃ l ∈ N.take k, (fin l.1).id = i) ∧ Upd (fun q => q = mb) w4 U) := fun U hu => by
    have h1 : Below wr.heap.size wr V := by rw [HVB.out]; exact HV.out.2
    have h2 := h1.trans (hu.mono h1.size)
    exact ⟨HI.out.1.upd (Upd.ofBelow (S := fun _ => False) h2 (fun k h1 h2 => by omega)) (fun h => h), HI.out.2.trans (Upd.ofBelow (S := fun _ => False) h2 (fun k h1 h2 => by omega)) (fun _ _ h => h.elim)⟩
   have LK : Hid (∀ U, Below V.heap.size V U → (Instr.lookup 82 (.map (some mb)) (.int .u64 id) false).run Tryz.prog U = .ok (.int .u64 c) U) := fun U hu => by
    have := (HIM.out U hu).1.ask HID.out.1
    rwa [HCC.out.1] at this
   have UP : Hid (∀ U, Below V.heap.size V U → ∃ w', (Instr.mapUpdate 82 (.map (some mb)) (.int .u64 id) (.int .u64 (IntKind.u64.wrap (c + le)))).run Tryz.prog U = .ok () w' ∧ SlI fin N mb w4 (k + 1) w' ∧ w'.cell? ⟨vb, 0, none⟩ = some (.int .u64 id) ∧ w'.cell? ⟨vb, 1, none⟩ = some (.int .i64 a) ∧ w'.cell? ⟨vb, 2, none⟩ = some (.int .i64 b)) := fun U hu => by
    obtain ⟨h1, h2⟩ := HIM.out U hu
    obtain ⟨w', hr, hi, hu2⟩ := h1.set HID.out.1 (IntKind.u64.wrap (c + le)) (by have := HKK.out; omega)
    have hbk := HV.out.1.below hu HV.out.1.lt
    have hb := hbk.upd hu2 (fun e => h1.not hbk e.symm)
    refine ⟨w', hr, ⟨hi.congr (fun i => ?_) (Nat.le_refl _) HMX.out, h2.trans hu2 (fun _ _ h => h)⟩, hb.cell 0 rfl, hb.cell 1 rfl, hb.cell 2 rfl⟩
    rw [HNX.out i]
    by_cases e : i = id
    ·rw [if_pos e, if_pos e.symm, HCC.out.2.2, e, HCC.out.1]
    ·rw [if_neg e, if_neg (fun h => e h.symm), Int.add_zero]
   have LN : Hid (∀ U, Calls Tryz.prog 62 #[.agg #[.int .i64 a, .int .i64 b]] U fun e w' => e = .returned (.int .u64 le) ∧ Below U.heap.size U w') := fun U => by
    have := length_any (a, b) U HID.out.2
    rwa [HCC.out.2.1] at this
   have BD : Hid (Below V.heap.size V V.drew) := (Below.refl _ _).drew
   clear HI HNX HMX HKK HVB
   refine wp_region_held (S := fun U => U.cell? ⟨vb, 0, none⟩ = some (.int .u64 id) ∧ U.cell? ⟨vb, 1, none⟩ = some (.int .i64 a) ∧ U.cell? ⟨vb, 2, none⟩ = some (.int .i64 b)) (by kernel_rfl) ?_
   change wpAnyH _ _ _ _ _ _ _ _ (World.drew _)
   have hS := HSD.out _ BD.out
   refine takeH (i := 0) (v := .map (some mb)) rfl (by kernel_rfl) (by kernel_rfl) (by kernel_rfl) (fun _ _ _ h => h) (Or.inl ⟨by rfl, fun W hW => by go_simp⟩) hS ?_
   simp only [pS]
   refine takeH (i := 1) (v := .pointer (some ⟨vb, 0, none⟩)) rfl (by kernel_rfl) (by kernel_rfl) (by kernel_rfl) (fun _ _ _ h => h) (Or.inl ⟨by rfl, fun W hW => by go_simp⟩) hS ?_
   simp only [pS]
   refine takeH (i := 2) (v := .int .u64 id) rfl (by kernel_rfl) (by kernel_rfl) (by kernel_rfl) (fun _ _ _ h => h) (Or.inl ⟨by rfl, fun W hW => by obtain ⟨s0, s1, s2⟩ := hW; go_simp⟩) hS ?_
   simp only [pS]
   refine takeH (i := 4) (v := .pointer (some ⟨vb, 1, none⟩)) rfl (by kernel_rfl) (by kernel_rfl) (by kernel_rfl) (fun _ _ _ h => h) (Or.inl ⟨by rfl, fun W hW => by go_simp⟩) hS ?_
   simp only [pS]
   refine takeH (i := 5) (v := .int .i64 a) rfl (by kernel_rfl) (by kernel_rfl) (by kernel_rfl) (fun _ _ _ h => h) (Or.inl ⟨by rfl, fun W hW => by obtain ⟨s0, s1, s2⟩ := hW; go_simp⟩) hS ?_
   simp only [pS]
   refine takeH (i := 6) (v := .pointer (some ⟨vb, 2, none⟩)) rfl (by kernel_rfl) (by kernel_rfl) (by kernel_rfl) (fun _ _ _ h => h) (Or.inl ⟨by rfl, fun W hW => by go_simp⟩) hS ?_
   simp only [pS]
   refine takeH (i := 7) (v := .int .i64 b) rfl (by kernel_rfl) (by kernel_rfl) (by kernel_rfl) (fun _ _ _ h => h) (Or.inl ⟨by rfl, fun W hW => by obtain ⟨s0, s1, s2⟩ := hW; go_simp⟩) hS ?_
   simp only [pS]
   refine takeH (i := 8) (v := .agg #[.int .i64 a, .int .i64 b]) rfl (by kernel_rfl) (by kernel_rfl) (by kernel_rfl) (fun _ _ _ h => h) (Or.inl ⟨by rfl, fun W hW => by go_simp⟩) hS ?_
   simp only [pS]
   refine twoO (i := 3) (j := 9) rfl rfl (by kernel_rfl) (fun K hK => ?_) (fun K hK => ?_)
   ·have LKE := LK.out _ BD.out
    go_simp
    clear LKE
    refine hK _ _ ⟨hS, ?_⟩
    clear hK K
    refine onlyH (i := 9) rfl (by kernel_rfl) (fun K hK => ?_)
    go_simp
    go_at_call 62
    (with_reducible refine (LN.out _).mono ?_)
    clear hS
    rintro e w8 ⟨rfl, hb8⟩
    have HB8 : Hid (Below V.heap.size V w8) := BD.out.trans (hb8.mono BD.out.size)
    clear hb8
    have hS := HSD.out w8 HB8.out
    refine hK _ _ ⟨hS, ?_⟩
    clear hK K
    refine takeH (i := 10) (v := .int .u64 (IntKind.u64.wrap (c + le))) rfl (by kernel_rfl) (by kernel_rfl) (by kernel_rfl) (fun _ _ _ h => h) (Or.inl ⟨by rfl, fun W hW => by go_simp⟩) hS ?_
    simp only [pS]
    refine onlyH (i := 11) rfl (by kernel_rfl) (fun K hK => ?_)
    obtain ⟨w9, UPR, hi9, hS9⟩ := UP.out _ HB8.out
    have HI9 : Hid (SlI fin N mb w4 (k + 1) w9) := hi9
    go_simp
    refine hK _ _ ⟨hS9, ?_⟩
    clear hK K UPR hi9 hS9 hS
    refine wpAnyH_done (by kernel_rfl) ?_ _
    go_wp2
    go_roundw
    case rel => exact ⟨k + 1, by go_num, by omega, HI9⟩
    case measure => (simp [intOf]; omega)
   ·go_simp
    go_at_call 62
    (with_reducible refine (LN.out _).mono ?_)
    clear hS
    rintro e w8 ⟨rfl, hb8⟩
    have HB8 : Hid (Below V.heap.size V w8) := BD.out.trans (hb8.mono BD.out.size)
    clear hb8
    have hS := HSD.out w8 HB8.out
    refine hK _ _ ⟨hS, ?_⟩
    clear hK K
    refine onlyH (i := 3) rfl (by kernel_rfl) (fun K hK => ?_)
    have LKE := LK.out _ HB8.out
    go_simp
    clear LKE
    refine hK _ _ ⟨hS, ?_⟩
    clear hK K
    refine takeH (i := 10) (v := .int .u64 (IntKind.u64.wrap (c + le))) rfl (by kernel_rfl) (by kernel_rfl) (by kernel_rfl) (fun _ _ _ h => h) (Or.inl ⟨by rfl, fun W hW => by go_simp⟩) hS ?_
    simp only [pS]
    refine onlyH (i := 11) rfl (by kernel_rfl) (fun K hK => ?_)
    obtain ⟨w9, UPR, hi9, hS9⟩ := UP.out _ HB8.out
    have HI9 : Hid (SlI fin N mb w4 (k + 1) w9) := hi9
    go_simp
    refine hK _ _ ⟨hS9, ?_⟩
    clear hK K UPR hi9 hS9 hS
    refine wpAnyH_done (by kernel_rfl) ?_ _
    go_wp2
    go_roundw
    case rel => exact ⟨k + 1, by go_num, by omega, HI9⟩
    case measure => (simp [intOf]; omega)
  ·obtain rfl : k = n := by omega
   have HF : Hid (POST (.returned (.map (some mb))) wr) := HE.out wr (by
    have h := HI.out.1
    rw [List.take_of_length_le (by rw [HN.out]; omega)] at h
    rw [HN.out]
    exact h) (by
    have h1 := H4.out.2.2
    have h2 := h1.size
    rw [HMB.out] at h1 h2
    exact h1.trans (HI.out.2.below h2 (fun q hq e => by omega)))
   go_wp2
   exact HF.out
end Go.Proofs.YtnffedmcblbkoaaGreatDoor
namespace Go.Proofs.YtnffedmcblbkoaaGreatDoor
open Go Go.RowKit Go.Maps Go.Shelf
set_option maxRecDepth 100000
def Tryz.copyI_ren : Go.Shelf.Ren := ⟨fun | 5 => 31 | n => n, fun | 23 => 82 | 24 => 82 | 26 => 33 | 27 => 32 | 0 => 0 | 4 => 4 | n => n, fun | n => n⟩
theorem Tryz.copyI : Go.Proofs.SlLaysX.n5 Tryz.prog Tryz.copyI_ren := {
 mixed := by kernel_rfl
 f5 := ⟨Tryz.f31.name, by decide, Tryz.func31.trans (congrArg some (by kernel_rfl))⟩
 t0 := Tryz.underlying0
 a0 := Tryz.isAgg0
 z0 := Tryz.sizeOf0
 v0 := Tryz.zeroValue0
 t4 := Tryz.underlying4
 a4 := Tryz.isAgg4
 z4 := Tryz.sizeOf4
 v4 := Tryz.zeroValue4
 t23 := Tryz.underlying82
 a23 := Tryz.isAgg82
 z23 := Tryz.sizeOf82
 v23 := Tryz.zeroValue82
 t24 := Tryz.underlying82
 a24 := Tryz.isAgg82
 z24 := Tryz.sizeOf82
 v24 := Tryz.zeroValue82
 a26 := Tryz.isAgg33
 z26 := Tryz.sizeOf33
 a27 := Tryz.isAgg32
 z27 := Tryz.sizeOf32 }
theorem copyI_any {w : World} {bd bs : Nat} {F G H : Int → Int} {n m : Nat} {P Q : Int → Prop} (hd : IdM w bd F n P) (hs : IdM w bs G m Q) (hne : bd ≠ bs) (hn : n + m ≤ 100000000) (hH : ∀ i, (Q i → H i = G i) ∧ (¬ Q i → H i = F i)) :
  Calls Tryz.prog 31 #[.map (some bd), .map (some bs)] w fun e w' => e = .returned (.tuple #[]) ∧ IdM w' bd H (n + m) (fun i => P i ∨ Q i) ∧ Upd (fun k => k = bd) w w' := by
 obtain ⟨D, d1, d2, d3, d4⟩ := hd
 obtain ⟨E, e1, e2, e3, e4⟩ := hs
 have C := AnyX.maps_Copy Tryz.copyI lawD valR bd bs (Maps.size D) (Maps.size E) D E w d1 e1 hne (by unfold maxLen; omega)
 change Calls Tryz.prog 31 _ _ _ at C
 refine C.mono ?_
 rintro e w' ⟨rfl, h1, _, h3⟩
 have hck := World.ownsMap.canonK e1 lawD
 obtain ⟨es, rfl, rs, ks⟩ := hck
 have hmD := World.ownsMap.isMap d1
 have klit : ∀ p ∈ es, WideAt.IsKeyLit p.1 := fun p hp => lawD.one.key (ks p hp)
 have hsz := World.ownsMap.size_le h1
 refine ⟨rfl, ⟨_, own_tight h1, Nat.le_trans hsz (by omega), fun i => ?_, fun i => ?_⟩, (Upd.refl _ w).grown h3 (fun k _ e => (Option.some.inj e).symm)⟩
 ·show Maps.has (es.foldl (fun D p => D.put p.1 p.2) D) (ikey i) = true ↔ _
  have hq := e3 i
  rw [has_eq] at hq
  rw [has_foldPut (ikey i) es D hmD klit, Bool.or_eq_true, d3 i, hq]
 ·show (es.foldl (fun D p => D.put p.1 p.2) D).atKey (ikey i) (.held (.int .u64 0)) = _
  rw [atKey_foldPut (ikey i) (.held (.int .u64 0)) es D hmD klit (apart_of_rising rs)]
  have hq := e3 i
  have hg := e4 i
  rw [has_eq] at hq
  cases hf : es.find? (fun p => p.1.sameKey (ikey i)) with
  | none =>
   have h0 : ¬ Q i := fun h => by
    have h2 := hq.2 h
    rw [List.any_eq_true] at h2
    obtain ⟨p, hp, h4⟩ := h2
    have := List.find?_eq_none.1 hf p hp
    exact this h4
   show D.atKey (ikey i) (.held (.int .u64 0)) = _
   rw [d4 i, (hH i).2 h0]
  | some p =>
   have h0 : Q i := hq.1 (List.any_eq_true.2 ⟨p, List.mem_of_find?_eq_some hf, List.find?_some (p := fun (q : Lit × DataW Value) => q.1.sameKey (ikey i)) hf⟩)
   have h2 : (DataW.map es).atKey (ikey i) (.held (.int .u64 0)) = p.2 := by
    simp only [DataW.atKey, hf]
   rw [h2] at hg
   show p.2 = _
   rw [hg, (hH i).1 h0]
end Go.Proofs.YtnffedmcblbkoaaGreatDoor
