/-
  Merged: ToF, ToG, ToI.
-/
import Derived.Test.YtnffedmcblbkoaaGreatDoorYcq
import Derived.Test.YtnffedmcblbkoaaGreatDoorRAq
import Derived.Test.YtnffedmcblbkoaaGreatDoorZmq
import Derived.Test.YtnffedmcblbkoaaGreatDoorUCq
import Derived.Test.YtnffedmcblbkoaaGreatDoorFXq
import Derived.Test.YtnffedmcblbkoaaGreatDoorFIq
import Derived.Test.YtnffedmcblbkoaaGreatDoorOZ
import Derived.Test.YtnffedmcblbkoaaGreatDoorTGq
import Derived.Test.YtnffedmcblbkoaaGreatDoorSV
import Derived.Laws.OwnMore
namespace Go.Proofs.YtnffedmcblbkoaaGreatDoor
open Go Go.RowKit
set_option maxRecDepth 100000
theorem wpList_appS {ops : Array Oper} {rest : List Oper} {o : Oper} {a : Act} {Q : Exit → Act → World → Prop} (wr : World) (hgd : o.guard = none) (s x : Operand)
  (ho : o.op = .call { callee := .builtin .append, args := #[s, x], argTypes := #[22, 22] })
  (base : Nat) (v : Value) (n : Nat) (L : List Sq) (y : Sq) (b : Nat) (hb : b = wr.heap.size) (hv : a.eval s = v) (hown : wr.ownsRow base 102 13 v n (L.flatMap sqL)) (hx : a.eval x = .slice (some ⟨b, 0, none⟩) 1 1) (hn : n * 168 ≤ 140737488351232) (hbase : base ≤ wr.heap.size)
  (h : ∀ va vc w', w'.ownsRow base 102 13 (.slice va (n + 1) vc) (n + 1) ((L ++ [y]).flatMap sqL) → Upd (fun q => v.ownBlock = some q) wr w' → wpList Tryz.prog ops Q rest (a.put o.dst (.slice va (n + 1) vc)) w') : wpList Tryz.prog ops Q (o :: rest) a (wr.alloc (.cells (sqL y).toArray 102)) := by
 subst hb
 obtain ⟨i0, hi0, hz0, hz1, hz2⟩ := info_parts infoQ
 have hB := Blk.new wr (sqL y).toArray 102
 have hown' : (wr.alloc (.cells (sqL y).toArray 102)).ownsRow base 102 13 v n (L.flatMap sqL) := ownsRow_upd hown ((Upd.refl (fun _ => False) wr).alloc _) (fun _ _ h => h)
 have hS : Src Tryz.prog 13 22 (.slice (some ⟨wr.heap.size, 0, none⟩) 1 1) 1 (sqL y) (wr.alloc (.cells (sqL y).toArray 102)) := by
  refine Src.ofSlice _ Tryz.underlying22 _ 1 1 _ rfl (fun j u hj => ?_) (sqL_one _)
  rw [Addr.add_lit, Nat.zero_add]
  exact hB.cell j (by rw [List.getElem?_toArray]; exact hj)
 refine wpList_appW _ hgd s x 22 22 ho base 102 i0 _ 13 168 Tryz.underlying22 hi0 hz0 hz1 hz2 rfl v n _ hv hown' _ 1 _ hx hS (by unfold maxLen; omega) (by omega) (by simp; omega) ?_
 intro v1 w1 o1 g1 m1
 have e : L.flatMap sqL ++ sqL y = (L ++ [y]).flatMap sqL := by simp
 rw [e] at o1
 obtain ⟨va, vc, rfl⟩ := owns_sliceS o1
 exact h va vc w1 o1 (((Upd.refl _ wr).alloc _).grown g1 (fun k _ e => e))
def MayP (X : List Sp) (P : Nat → Pl) (x : Sq) : Prop := ∃ i, ∃ h : i < X.length, x = (X[i], P i) ∧ chkS X[i] = 0
def MayI (w : World) (X : List Sp) (P : Nat → Pl) (k ll : Nat) (oa : Option Addr) (oc : Nat) (wr : World) : Prop := ∃ A : List Sq, ll ≤ k ∧ A.length = ll ∧ (∀ x ∈ A, MayP X P x) ∧ wr.ownsRow w.heap.size 102 13 (.slice oa ll oc) ll (A.flatMap sqL) ∧ Below w.heap.size w wr
set_option maxHeartbeats 4000000 in
theorem may_any (ad : Option Addr) (n cap : Nat) (X : List Sp) (P : Nat → Pl) (w : World) (hX : SpsAt w ad n X P) (hSm : ∀ a ∈ X, a.Small) (hn : n * 168 ≤ 140737488351232) :
  Calls Tryz.prog 73 #[.slice ad n cap] w fun e w' => ∃ va vl vc, e = .returned (.slice va vl vc) ∧ Hid (MayI w X P n vl va vc w') := by
 have HX : Hid (SpsAt w ad n X P) := hX
 have HL : Hid (X.length = n) := hX.len
 have HSM : Hid (∀ a ∈ X, a.Small) := hSm
 have H0 : Hid (MayI w X P 0 0 none 0 w) := ⟨[], by omega, rfl, (fun x hx => by cases hx), World.ownsRow_nil _ _ _ _, Below.refl _ _⟩
 clear hX hSm
 go_enter Tryz.func73, Tryz.ntmps73
 go_wp2
 go_loopw [3, 4] (fun z3 z4 wr => ∃ (k ll : Nat) (oa : Option Addr) (oc : Nat), z3 = .slice oa ll oc ∧ z4 = .int .i64 k ∧ k ≤ n ∧ Hid (MayI w X P k ll oa oc wr)) (fun _ z4 _ => n - (intOf z4).toNat)
 case atStart => exact ⟨0, 0, none, 0, rfl, rfl, by omega, H0⟩
 case round =>
  clear H0
  obtain ⟨k, ll, oa, oc, rfl, rfl, hk, HI⟩ := hrel
  by_cases hlt : k < n
  ·have hlt' : (k : Int) < (n : Int) := by omega
   have hn0 : 0 < n := by omega
   have hkX : k < X.length := by rw [HL.out]; exact hlt
   obtain ⟨A, hA1, hA2, hA3, hown, hbel⟩ := HI.out
   obtain ⟨b1, o1, rfl, hc⟩ := HX.out.lies hn0
   obtain ⟨a, ha⟩ : ∃ a, X[k] = a := ⟨_, rfl⟩
   obtain ⟨p, hp⟩ : ∃ p, P k = p := ⟨_, rfl⟩
   have RG : Hid (∀ W, Below wr.heap.size wr W → W.rangeAt b1 (o1 + k * 13) (spC a p).toList) := fun W hW => by
    have := (HX.out.below (hbel.trans (hW.mono hbel.size))).range k hkX
    rw [ha, hp] at this
    exact this
   have hsa : a.Small := HSM.out a (by rw [← ha]; exact List.getElem_mem hkX)
   have hat : SpAt wr a p := by
    have := (HX.out.below hbel).each k hkX
    rw [ha, hp] at this
    exact this
   have CHK : Calls Tryz.prog 93 #[.agg (spC a p).toList.toArray] wr fun e w' => e = .returned (.int .i64 (chkS a)) ∧ Below wr.heap.size wr w' := rCheck_any a p wr hat hsa
   have R0 := RG.out wr (Below.refl _ _)
   have HKP : Hid (∀ w', Below wr.heap.size wr w' → MayI w X P (k + 1) ll oa oc w') := fun w' hb => ⟨A, by omega, hA2, hA3, ownsRow_upd hown (Upd.ofBelow (S := fun _ => False) hb (fun k h1 h2 => by omega)) (fun _ _ h => h), hbel.trans (hb.mono hbel.size)⟩
   have HOW : Hid (∀ w', Below wr.heap.size wr w' → w'.ownsRow w.heap.size 102 13 (.slice oa ll oc) ll (A.flatMap sqL) ∧ w.heap.size ≤ w'.heap.size) := fun w' hb => ⟨ownsRow_upd hown (Upd.ofBelow (S := fun _ => False) hb (fun k h1 h2 => by omega)) (fun _ _ h => h), Nat.le_trans hbel.size hb.size⟩
   have HNX : Hid (chkS a = 0 → ∀ W va' vc' w', Below wr.heap.size wr W → w'.ownsRow w.heap.size 102 13 (.slice va' (ll + 1) vc') (ll + 1) ((A ++ [(a, p)]).flatMap sqL) → Upd (fun q => (Value.slice oa ll oc).ownBlock = some q) W w' → MayI w X P (k + 1) (ll + 1) va' vc' w') := fun h0 W va' vc' w' hW ho hu => by
    have bW := hbel.trans (hW.mono hbel.size)
    refine ⟨A ++ [(a, p)], by omega, by simp [hA2], fun x hx => ?_, ho, bW.trans (hu.below bW.size (fun q hq e => by have := (owns_lt hown e).1; omega))⟩
    rcases List.mem_append.1 hx with hx | hx
    ·exact hA3 x hx
    ·rw [List.mem_singleton] at hx
     exact ⟨k, hkX, by rw [hx, ha, hp], by rw [ha]; exact h0⟩
   have hll : ll * 168 ≤ 140737488351232 := by omega
   clear hA1 hA2 hA3 hown hbel hc ha hp hsa hat HI
   obtain ⟨ck, hck⟩ : ∃ c, chkS a = c := ⟨_, rfl⟩
   rw [hck] at CHK HNX
   clear hck
   go_upto_region 6 with (first
    | (refine wpList_load_mid rfl 102 _ rfl b1 (o1 + k * 13) rfl (spC a p).toList _ R0 Tryz.underlying102 rfl (by kernel_rfl) ?_; clear R0)
    | (go_at_call 93; (with_reducible refine CHK.mono ?_); clear CHK; rintro e w5 ⟨rfl, hb5⟩; have HB5 : Hid (Below wr.heap.size wr w5) := hb5; clear hb5))
   ·rename_i h0
    have h0' : ck = 0 := by simpa using h0
    have R5 : w5.rangeAt b1 (o1 + k * 13) [.int .u64 a.hi, .int .u64 a.lo, .int .u64 a.id, .int .u64 a.par, .slice p.la a.links.length p.lc, .string a.svc, .string a.op, .int .i64 a.kind, .int .i64 a.status, .int .i64 a.start, .int .i64 a.fin, .slice p.aa a.attrs.length p.ac, .slice p.ea a.events.length p.ec] := RG.out w5 HB5.out
    obtain ⟨o5, z5⟩ := HOW.out w5 HB5.out
    have HN5 : Hid (∀ va' vc' w', w'.ownsRow w.heap.size 102 13 (.slice va' (ll + 1) vc') (ll + 1) ((A ++ [(a, p)]).flatMap sqL) → Upd (fun q => (Value.slice oa ll oc).ownBlock = some q) w5 w' → MayI w X P (k + 1) (ll + 1) va' vc' w') := fun va' vc' w' h1 h2 => HNX.out h0' w5 va' vc' w' HB5.out h1 h2
    clear HNX HKP HOW RG HB5
    go_wp2_with (first
     | (refine wpList_load_mid rfl 102 _ rfl b1 (o1 + k * 13) rfl [.int .u64 a.hi, .int .u64 a.lo, .int .u64 a.id, .int .u64 a.par, .slice p.la a.links.length p.lc, .string a.svc, .string a.op, .int .i64 a.kind, .int .i64 a.status, .int .i64 a.start, .int .i64 a.fin, .slice p.aa a.attrs.length p.ac, .slice p.ea a.events.length p.ec] _ R5 Tryz.underlying102 rfl (by kernel_rfl) ?_; clear R5)
     | (at_builtin; refine wpList_appS w5 rfl (.tmp 17) (.tmp 22) rfl w.heap.size (.slice oa ll oc) ll A (a, p) w5.heap.size rfl rfl o5 rfl hll z5 ?_; intro va' vc' w6 h6 h7; have H6 : Hid (MayI w X P (k + 1) (ll + 1) va' vc' w6) := HN5.out va' vc' w6 h6 h7; clear h6 h7 o5 HN5))
    exact ⟨⟨k + 1, ll + 1, va', vc', rfl, by go_num, by omega, H6⟩, by simp [intOf]; omega⟩
   ·exact ⟨⟨k + 1, ll, oa, oc, rfl, by go_num, by omega, HKP.out w5 HB5.out⟩, by simp [intOf]; omega⟩
  ·obtain rfl : n = k := by omega
   clear HX
   go_wp2
   go_ret
   exact ⟨oa, ll, oc, rfl, HI⟩
def sameI (a b : Sp) : Prop := (a.hi = b.hi ∧ a.lo = b.lo) ∧ a.id = b.id
def PutR (A : List Sq) (x : Sq) (B : List Sq) : Prop := (∃ i, ∃ h : i < A.length, sameI A[i].1 x.1 ∧ (B = A ∨ B = A.set i x)) ∨ ((∀ y ∈ A, ¬ sameI y.1 x.1) ∧ B = A ++ [x])
theorem sq_at (A : List Sq) (i : Nat) (h : i < A.length) (j : Nat) (hj : j < 13) : (A.flatMap sqL)[i * 13 + j]? = (sqL A[i])[j]? := by
 induction A generalizing i with
 | nil => simp at h
 | cons y A ih =>
  cases i with
  | zero => simp only [List.flatMap_cons, Nat.zero_mul, Nat.zero_add]; rw [List.getElem?_append_left (by rw [sqL_len]; exact hj)]; rfl
  | succ i =>
   simp only [List.flatMap_cons]
   rw [List.getElem?_append_right (by rw [sqL_len]; omega), sqL_len, show (i + 1) * 13 + j - 13 = i * 13 + j from by omega, ih i (by simpa using h)]
   rfl
def setL (xs : List Value) (i : Nat) : List Value → List Value
 | [] => xs
 | v :: vs => setL (xs.set i v) (i + 1) vs
theorem setL_mid (pre old post vs : List Value) (h : old.length = vs.length) (i : Nat) (hi : i = pre.length) : setL (pre ++ (old ++ post)) i vs = pre ++ (vs ++ post) := by
 induction vs generalizing pre old i with
 | nil =>
  have : old = [] := List.length_eq_zero_iff.1 (by simpa using h)
  subst this
  rfl
 | cons v vs ih =>
  cases old with
  | nil => simp at h
  | cons o old =>
   subst hi
   show setL ((pre ++ (o :: old ++ post)).set pre.length v) (pre.length + 1) vs = _
   rw [List.set_append_right _ _ (Nat.le_refl _), Nat.sub_self]
   have := ih (pre ++ [v]) old (by simpa using h) (pre.length + 1) (by simp)
   simpa using this
theorem sq_set (A : List Sq) (k : Nat) (h : k < A.length) (x : Sq) : setL (A.flatMap sqL) (k * 13) (sqL x) = (A.set k x).flatMap sqL := by
 have e1 : A = A.take k ++ (A[k] :: A.drop (k + 1)) := by simp
 have e2 : A.set k x = A.take k ++ (x :: A.drop (k + 1)) := List.set_eq_take_append_cons_drop.trans (if_pos h)
 have e3 : ((A.take k).flatMap sqL).length = k * 13 := by
  have : ∀ B : List Sq, (B.flatMap sqL).length = B.length * 13 := fun B => by
   induction B with
   | nil => rfl
   | cons y B ih => simp only [List.flatMap_cons, List.length_append, ih, sqL_len, List.length_cons]; omega
  rw [this, List.length_take, Nat.min_eq_left (Nat.le_of_lt h)]
 rw [e2]
 conv => lhs; rw [e1]
 simp only [List.flatMap_append, List.flatMap_cons]
 exact setL_mid _ (sqL A[k]) _ (sqL x) (by rw [sqL_len, sqL_len]) _ e3.symm
theorem owns_setW {base : Nat} {e : TypeId} {s g n cap : Nat} (vs : List Value) (i : Nat) (W : World) (xs : List Value) (h : W.ownsRow base e s (.slice (some ⟨g, 0, none⟩) n cap) n xs) : (W.setCells g i vs).ownsRow base e s (.slice (some ⟨g, 0, none⟩) n cap) n (setL xs i vs) ∧ Upd (fun q => q = g) W (W.setCells g i vs) := by
 induction vs generalizing W xs i with
 | nil => exact ⟨h, Upd.refl _ _⟩
 | cons v vs ih =>
  obtain ⟨h1, h2⟩ := ih (i + 1) _ _ (h.stored i v).1
  exact ⟨h1, (Upd.setCell (S := fun q => q = g) (Upd.refl _ W) (p := ⟨g, i, none⟩) (fun _ => rfl) v).trans h2 (fun _ _ h => h)⟩
set_option maxHeartbeats 4000000 in
theorem put_any (base : Nat) (oa : Option Addr) (ll oc : Nat) (A : List Sq) (a : Sp) (p : Pl) (w : World) (hown : w.ownsRow base 102 13 (.slice oa ll oc) ll (A.flatMap sqL)) (hbase : base ≤ w.heap.size) (hA : A.length = ll) (hAll : ∀ x ∈ A, SpAt w x.1 x.2 ∧ x.1.Small) (hat : SpAt w a p) (hsa : a.Small) (hll : ll ≤ 1000) :
  Calls Tryz.prog 74 #[.slice oa ll oc, spV a p] w fun e w' => ∃ va vl vc, e = .returned (.slice va vl vc) ∧ Hid (∃ B, PutR A (a, p) B ∧ B.length = vl ∧ w'.ownsRow base 102 13 (.slice va vl vc) vl (B.flatMap sqL) ∧ Upd (fun q => (Value.slice oa ll oc).ownBlock = some q) w w') := by
 have HB0 : Hid (Below w.heap.size w (w.alloc (.cells #[.int .u64 a.hi, .int .u64 a.lo, .int .u64 a.id, .int .u64 a.par, .slice p.la a.links.length p.lc, .string a.svc, .string a.op, .int .i64 a.kind, .int .i64 a.status, .int .i64 a.start, .int .i64 a.fin, .slice p.aa a.attrs.length p.ac, .slice p.ea a.events.length p.ec] 102))) := (Below.refl _ _).alloc (Nat.le_refl _) _
 have HX0 : Hid (Blk (w.alloc (.cells #[.int .u64 a.hi, .int .u64 a.lo, .int .u64 a.id, .int .u64 a.par, .slice p.la a.links.length p.lc, .string a.svc, .string a.op, .int .i64 a.kind, .int .i64 a.status, .int .i64 a.start, .int .i64 a.fin, .slice p.aa a.attrs.length p.ac, .slice p.ea a.events.length p.ec] 102)) w.heap.size #[.int .u64 a.hi, .int .u64 a.lo, .int .u64 a.id, .int .u64 a.par, .slice p.la a.links.length p.lc, .string a.svc, .string a.op, .int .i64 a.kind, .int .i64 a.status, .int .i64 a.start, .int .i64 a.fin, .slice p.aa a.attrs.length p.ac, .slice p.ea a.events.length p.ec] 102) := Blk.new _ _ _
 have HOW : Hid (∀ W, Below w.heap.size w W → W.ownsRow base 102 13 (.slice oa ll oc) ll (A.flatMap sqL)) := fun W hW => ownsRow_upd hown (Upd.ofBelow (S := fun _ => False) hW (fun k h1 h2 => by omega)) (fun _ _ h => h)
 have HAL : Hid (A.length = ll ∧ ∀ x ∈ A, SpAt w x.1 x.2 ∧ x.1.Small) := ⟨hA, hAll⟩
 have HAT : Hid (SpAt w a p ∧ a.Small) := ⟨hat, hsa⟩
 have HBS : Hid (base ≤ w.heap.size) := hbase
 have hF : 0 < ll → ∃ g, oa = some ⟨g, 0, none⟩ := fun h => by
  rcases hown.2 with ⟨_, e⟩ | ⟨g, _, _, e, _⟩
  ·omega
  ·exact ⟨g, by injection e⟩
 have HOA : Hid (0 < ll → ∃ g, oa = some ⟨g, 0, none⟩) := hF
 clear hown hA hAll hat hsa hbase hF
 obtain ⟨w1, hw1⟩ : ∃ w1, w.alloc (.cells #[.int .u64 a.hi, .int .u64 a.lo, .int .u64 a.id, .int .u64 a.par, .slice p.la a.links.length p.lc, .string a.svc, .string a.op, .int .i64 a.kind, .int .i64 a.status, .int .i64 a.start, .int .i64 a.fin, .slice p.aa a.attrs.length p.ac, .slice p.ea a.events.length p.ec] 102) = w1 := ⟨_, rfl⟩
 unfold spV spC
 go_enter Tryz.func74, Tryz.ntmps74
 go_wp2
 rw [hw1] at HB0 HX0
 clear hw1
 go_loopw [5] (fun z5 wr => ∃ (k : Nat), z5 = .int .i64 k ∧ k ≤ ll ∧ Hid (∀ j (h : j < A.length), j < k → ¬ sameI A[j].1 a) ∧ Hid (Below w1.heap.size w1 wr)) (fun z5 _ => ll - (intOf z5).toNat)
 case atStart => exact ⟨0, rfl, by omega, (fun j _ h => by omega), Below.refl _ _⟩
 case round =>
  obtain ⟨k, rfl, hk, HNO, HBR⟩ := hrel
  by_cases hlt : k < ll
  ·have hkn : (k : Int) < (ll : Int) := by omega
   have hkA : k < A.length := by rw [HAL.out.1]; exact hlt
   obtain ⟨g, rfl⟩ := HOA.out (by omega)
   obtain ⟨y, hy⟩ : ∃ y, A[k] = y := ⟨_, rfl⟩
   have BW : Hid (Below w.heap.size w wr) := HB0.out.trans (HBR.out.mono HB0.out.size)
   have RC : ∀ W, Below w.heap.size w W → ∀ j u, (sqL y)[j]? = some u → W.cell? ⟨g, k * 13 + j, none⟩ = some u := fun W hW j u hu => by
    have hj : j < 13 := by
     have := (List.getElem?_eq_some_iff.1 hu).1
     rw [sqL_len] at this
     exact this
    rw [(HOW.out W hW).cellAt (k * 13 + j) (by omega), sq_at A k hkA j hj, hy]
    exact hu
   have XC : ∀ W, Below w1.heap.size w1 W → ∀ j u, #[.int .u64 a.hi, .int .u64 a.lo, .int .u64 a.id, .int .u64 a.par, .slice p.la a.links.length p.lc, .string a.svc, .string a.op, .int .i64 a.kind, .int .i64 a.status, .int .i64 a.start, .int .i64 a.fin, .slice p.aa a.attrs.length p.ac, .slice p.ea a.events.length p.ec][j]? = some u → W.cell? ⟨w.heap.size, j, none⟩ = some u := fun W hW j u hu => (HX0.out.below hW HX0.out.lt).cell j hu
   obtain ⟨b, q⟩ := y
   have c0 : wr.cell? ⟨g, k * 13, none⟩ = some (.int .u64 b.hi) := RC wr BW.out 0 _ rfl
   have c1 : wr.cell? ⟨g, k * 13 + 1, none⟩ = some (.int .u64 b.lo) := RC wr BW.out 1 _ rfl
   have c2 : wr.cell? ⟨g, k * 13 + 2, none⟩ = some (.int .u64 b.id) := RC wr BW.out 2 _ rfl
   have x0 : wr.cell? ⟨w.heap.size, 0, none⟩ = some (.int .u64 a.hi) := XC wr HBR.out 0 _ rfl
   have x1 : wr.cell? ⟨w.heap.size, 1, none⟩ = some (.int .u64 a.lo) := XC wr HBR.out 1 _ rfl
   have x2 : wr.cell? ⟨w.heap.size, 2, none⟩ = some (.int .u64 a.id) := XC wr HBR.out 2 _ rfl
   have HRC : Hid _ := RC
   have HXC : Hid _ := XC
   have HY : Hid (A[k] = (b, q)) := hy
   have HBD : Hid (∀ j, Below w1.heap.size w1 (wr.drewN j)) := fun j => below_drewN HBR.out j
   clear RC XC hy
   by_cases h1 : b.hi = a.hi ∧ b.lo = a.lo
   ·rw [h1.1] at c0
    rw [h1.2] at c1
    by_cases h2 : b.id = a.id
    ·have HSM : Hid (sameI A[k].1 a) := by
      show sameI _ _
      rw [HY.out]
      exact ⟨h1, h2⟩
     rw [h2] at c2
     clear h1 h2 HNO
     go_upto_region 4 with fail
     go_quiet (fail)
     go_upto_region 5 with fail
     obtain ⟨U, hU⟩ : ∃ U, wr.drewN nq = U := ⟨_, rfl⟩
     have HBU : Hid (Below w1.heap.size w1 U) := by rw [← hU]; exact HBD.out nq
     rw [hU]
     clear hU c0 c1 c2 x0 x1 x2
     have HBW : Hid (Below w.heap.size w U) := HB0.out.trans (HBU.out.mono HB0.out.size)
     have hbq := HAL.out.2 _ (List.getElem_mem hkA)
     rw [HY.out] at hbq
     have CC := refCompare_any a b p q U.drew (HAT.out.1.below (HBW.out.trans (Below.refl _ _).drew)) (hbq.1.below (HBW.out.trans (Below.refl _ _).drew))
     obtain ⟨v, hv⟩ : ∃ v, cmpP a b = v := ⟨_, rfl⟩
     rw [hv] at CC
     unfold spV spC at CC
     have KP : ∀ W, Below U.heap.size U W → W.cell? ⟨w.heap.size, 0, none⟩ = some (.int .u64 a.hi) ∧ W.cell? ⟨w.heap.size, 1, none⟩ = some (.int .u64 a.lo) ∧ W.cell? ⟨w.heap.size, 2, none⟩ = some (.int .u64 a.id) ∧ W.cell? ⟨w.heap.size, 3, none⟩ = some (.int .u64 a.par) ∧ W.cell? ⟨w.heap.size, 4, none⟩ = some (.slice p.la a.links.length p.lc) ∧ W.cell? ⟨w.heap.size, 5, none⟩ = some (.string a.svc) ∧ W.cell? ⟨w.heap.size, 6, none⟩ = some (.string a.op) ∧ W.cell? ⟨w.heap.size, 7, none⟩ = some (.int .i64 a.kind) ∧ W.cell? ⟨w.heap.size, 8, none⟩ = some (.int .i64 a.status) ∧ W.cell? ⟨w.heap.size, 9, none⟩ = some (.int .i64 a.start) ∧ W.cell? ⟨w.heap.size, 10, none⟩ = some (.int .i64 a.fin) ∧ W.cell? ⟨w.heap.size, 11, none⟩ = some (.slice p.aa a.attrs.length p.ac) ∧ W.cell? ⟨w.heap.size, 12, none⟩ = some (.slice p.ea a.events.length p.ec) ∧ W.cell? ⟨g, k * 13, none⟩ = some (.int .u64 b.hi) ∧ W.cell? ⟨g, k * 13 + 1, none⟩ = some (.int .u64 b.lo) ∧ W.cell? ⟨g, k * 13 + 2, none⟩ = some (.int .u64 b.id) ∧ W.cell? ⟨g, k * 13 + 3, none⟩ = some (.int .u64 b.par) ∧ W.cell? ⟨g, k * 13 + 4, none⟩ = some (.slice q.la b.links.length q.lc) ∧ W.cell? ⟨g, k * 13 + 5, none⟩ = some (.string b.svc) ∧ W.cell? ⟨g, k * 13 + 6, none⟩ = some (.string b.op) ∧ W.cell? ⟨g, k * 13 + 7, none⟩ = some (.int .i64 b.kind) ∧ W.cell? ⟨g, k * 13 + 8, none⟩ = some (.int .i64 b.status) ∧ W.cell? ⟨g, k * 13 + 9, none⟩ = some (.int .i64 b.start) ∧ W.cell? ⟨g, k * 13 + 10, none⟩ = some (.int .i64 b.fin) ∧ W.cell? ⟨g, k * 13 + 11, none⟩ = some (.slice q.aa b.attrs.length q.ac) ∧ W.cell? ⟨g, k * 13 + 12, none⟩ = some (.slice q.ea b.events.length q.ec) := fun W hW => ⟨HXC.out W (HBU.out.trans (hW.mono HBU.out.size)) 0 _ rfl, HXC.out W (HBU.out.trans (hW.mono HBU.out.size)) 1 _ rfl, HXC.out W (HBU.out.trans (hW.mono HBU.out.size)) 2 _ rfl, HXC.out W (HBU.out.trans (hW.mono HBU.out.size)) 3 _ rfl, HXC.out W (HBU.out.trans (hW.mono HBU.out.size)) 4 _ rfl, HXC.out W (HBU.out.trans (hW.mono HBU.out.size)) 5 _ rfl, HXC.out W (HBU.out.trans (hW.mono HBU.out.size)) 6 _ rfl, HXC.out W (HBU.out.trans (hW.mono HBU.out.size)) 7 _ rfl, HXC.out W (HBU.out.trans (hW.mono HBU.out.size)) 8 _ rfl, HXC.out W (HBU.out.trans (hW.mono HBU.out.size)) 9 _ rfl, HXC.out W (HBU.out.trans (hW.mono HBU.out.size)) 10 _ rfl, HXC.out W (HBU.out.trans (hW.mono HBU.out.size)) 11 _ rfl, HXC.out W (HBU.out.trans (hW.mono HBU.out.size)) 12 _ rfl, HRC.out W (HBW.out.trans (hW.mono HBW.out.size)) 0 _ rfl, HRC.out W (HBW.out.trans (hW.mono HBW.out.size)) 1 _ rfl, HRC.out W (HBW.out.trans (hW.mono HBW.out.size)) 2 _ rfl, HRC.out W (HBW.out.trans (hW.mono HBW.out.size)) 3 _ rfl, HRC.out W (HBW.out.trans (hW.mono HBW.out.size)) 4 _ rfl, HRC.out W (HBW.out.trans (hW.mono HBW.out.size)) 5 _ rfl, HRC.out W (HBW.out.trans (hW.mono HBW.out.size)) 6 _ rfl, HRC.out W (HBW.out.trans (hW.mono HBW.out.size)) 7 _ rfl, HRC.out W (HBW.out.trans (hW.mono HBW.out.size)) 8 _ rfl, HRC.out W (HBW.out.trans (hW.mono HBW.out.size)) 9 _ rfl, HRC.out W (HBW.out.trans (hW.mono HBW.out.size)) 10 _ rfl, HRC.out W (HBW.out.trans (hW.mono HBW.out.size)) 11 _ rfl, HRC.out W (HBW.out.trans (hW.mono HBW.out.size)) 12 _ rfl⟩
     have BR : Below U.heap.size U U.drew := (Below.refl _ _).drew
     have HBR2 : Hid _ := BR
     clear hv hbq BW HBR HBD
     by_cases h0 : 0 < v
     ·have h0' : decide (0 < v) = true := decide_eq_true h0
      have h0'' : decide (v > 0) = true := decide_eq_true h0
      clear h0
      go_region_held3 (fun W => W.cell? ⟨w.heap.size, 0, none⟩ = some (.int .u64 a.hi) ∧ W.cell? ⟨w.heap.size, 1, none⟩ = some (.int .u64 a.lo) ∧ W.cell? ⟨w.heap.size, 2, none⟩ = some (.int .u64 a.id) ∧ W.cell? ⟨w.heap.size, 3, none⟩ = some (.int .u64 a.par) ∧ W.cell? ⟨w.heap.size, 4, none⟩ = some (.slice p.la a.links.length p.lc) ∧ W.cell? ⟨w.heap.size, 5, none⟩ = some (.string a.svc) ∧ W.cell? ⟨w.heap.size, 6, none⟩ = some (.string a.op) ∧ W.cell? ⟨w.heap.size, 7, none⟩ = some (.int .i64 a.kind) ∧ W.cell? ⟨w.heap.size, 8, none⟩ = some (.int .i64 a.status) ∧ W.cell? ⟨w.heap.size, 9, none⟩ = some (.int .i64 a.start) ∧ W.cell? ⟨w.heap.size, 10, none⟩ = some (.int .i64 a.fin) ∧ W.cell? ⟨w.heap.size, 11, none⟩ = some (.slice p.aa a.attrs.length p.ac) ∧ W.cell? ⟨w.heap.size, 12, none⟩ = some (.slice p.ea a.events.length p.ec) ∧ W.cell? ⟨g, k * 13, none⟩ = some (.int .u64 b.hi) ∧ W.cell? ⟨g, k * 13 + 1, none⟩ = some (.int .u64 b.lo) ∧ W.cell? ⟨g, k * 13 + 2, none⟩ = some (.int .u64 b.id) ∧ W.cell? ⟨g, k * 13 + 3, none⟩ = some (.int .u64 b.par) ∧ W.cell? ⟨g, k * 13 + 4, none⟩ = some (.slice q.la b.links.length q.lc) ∧ W.cell? ⟨g, k * 13 + 5, none⟩ = some (.string b.svc) ∧ W.cell? ⟨g, k * 13 + 6, none⟩ = some (.string b.op) ∧ W.cell? ⟨g, k * 13 + 7, none⟩ = some (.int .i64 b.kind) ∧ W.cell? ⟨g, k * 13 + 8, none⟩ = some (.int .i64 b.status) ∧ W.cell? ⟨g, k * 13 + 9, none⟩ = some (.int .i64 b.start) ∧ W.cell? ⟨g, k * 13 + 10, none⟩ = some (.int .i64 b.fin) ∧ W.cell? ⟨g, k * 13 + 11, none⟩ = some (.slice q.aa b.attrs.length q.ac) ∧ W.cell? ⟨g, k * 13 + 12, none⟩ = some (.slice q.ea b.events.length q.ec)) (first | exact KP _ BR | exact KP _ (BR.trans bb)) (first
       | (go_at_call 107; refine CC.mono ?_; rintro e w5 ⟨rfl, bb⟩))
      all_goals
       have hb5 := HBW.out.trans ((HBR2.out.trans bb).mono HBW.out.size)
       have hx5 := HBU.out.trans ((HBR2.out.trans bb).mono HBU.out.size)
       have hX5 : w5.heap[w.heap.size]? = some (.cells #[.int .u64 a.hi, .int .u64 a.lo, .int .u64 a.id, .int .u64 a.par, .slice p.la a.links.length p.lc, .string a.svc, .string a.op, .int .i64 a.kind, .int .i64 a.status, .int .i64 a.start, .int .i64 a.fin, .slice p.aa a.attrs.length p.ac, .slice p.ea a.events.length p.ec] 102 (0, 0)) := HX0.out.below hx5 HX0.out.lt
       have O5 := HOW.out w5 hb5
       have TH : w5.there g (k * 13) 13 := fun j hj => by
        refine ⟨?_, O5.frozenAt _⟩
        rw [O5.cellAt (k * 13 + j) (by omega), sq_at A k hkA j hj]
        simp [sqL_len, hj]
       have HEN : Hid (∃ B, PutR A (a, p) B ∧ B.length = ll ∧ (w5.setCells g (k * 13) #[.int .u64 a.hi, .int .u64 a.lo, .int .u64 a.id, .int .u64 a.par, .slice p.la a.links.length p.lc, .string a.svc, .string a.op, .int .i64 a.kind, .int .i64 a.status, .int .i64 a.start, .int .i64 a.fin, .slice p.aa a.attrs.length p.ac, .slice p.ea a.events.length p.ec].toList).ownsRow base 102 13 (.slice (some ⟨g, 0, none⟩) ll oc) ll (B.flatMap sqL) ∧ Upd (fun q => (Value.slice (some ⟨g, 0, none⟩) ll oc).ownBlock = some q) w (w5.setCells g (k * 13) #[.int .u64 a.hi, .int .u64 a.lo, .int .u64 a.id, .int .u64 a.par, .slice p.la a.links.length p.lc, .string a.svc, .string a.op, .int .i64 a.kind, .int .i64 a.status, .int .i64 a.start, .int .i64 a.fin, .slice p.aa a.attrs.length p.ac, .slice p.ea a.events.length p.ec].toList)) := by
        obtain ⟨t1, t2⟩ := owns_setW (sqL (a, p)) (k * 13) w5 _ O5
        rw [sq_set A k hkA (a, p)] at t1
        exact ⟨A.set k (a, p), Or.inl ⟨k, hkA, HSM.out, Or.inr rfl⟩, by simp [HAL.out.1], t1, (Upd.ofBelow hb5 (fun k h1 h2 => by omega)).trans t2 (fun i _ h => by rw [h]; rfl)⟩
       obtain ⟨cs, hcs⟩ : ∃ cs : Array Value, (#[.int .u64 a.hi, .int .u64 a.lo, .int .u64 a.id, .int .u64 a.par, .slice p.la a.links.length p.lc, .string a.svc, .string a.op, .int .i64 a.kind, .int .i64 a.status, .int .i64 a.start, .int .i64 a.fin, .slice p.aa a.attrs.length p.ac, .slice p.ea a.events.length p.ec] : Array Value) = cs := ⟨_, rfl⟩
       have hsz : cs.size = 13 := by rw [← hcs]; rfl
       have hone : cs.all (·.oneCell') = true := by rw [← hcs]; exact all_oneCell_toArray (sqL_one (a, p))
       rw [hcs] at hX5 HEN
       have ST := run_storeCells_cells (P := Tryz.prog) g (k * 13) cs.toList 0 w5 (fun j hj => by simpa using (TH j (by rw [← hsz]; simpa using hj)).1) (fun j hj => by simpa using (TH j (by rw [← hsz]; simpa using hj)).2) (fun v hv => (Array.all_eq_true_iff_forall_mem.1 hone) v (by simpa using hv))
       simp only [Nat.add_zero] at ST
       clear KP bb CC O5 hb5 hx5 BR hcs TH
       go_wp2_with (first
        | (refine wpList_load_row rfl 102 (.tmp 3) rfl w.heap.size 102 cs rfl _ hX5 Tryz.underlying102 rfl (by rw [hsz]; exact Tryz.info102) ?_; clear hX5))
       go_returns
       exact ⟨_, ll, oc, rfl, HEN⟩
     ·have h0' : decide (0 < v) = false := decide_eq_false h0
      have h0'' : decide (v > 0) = false := decide_eq_false h0
      clear h0
      go_region_held3 (fun W => W.cell? ⟨w.heap.size, 0, none⟩ = some (.int .u64 a.hi) ∧ W.cell? ⟨w.heap.size, 1, none⟩ = some (.int .u64 a.lo) ∧ W.cell? ⟨w.heap.size, 2, none⟩ = some (.int .u64 a.id) ∧ W.cell? ⟨w.heap.size, 3, none⟩ = some (.int .u64 a.par) ∧ W.cell? ⟨w.heap.size, 4, none⟩ = some (.slice p.la a.links.length p.lc) ∧ W.cell? ⟨w.heap.size, 5, none⟩ = some (.string a.svc) ∧ W.cell? ⟨w.heap.size, 6, none⟩ = some (.string a.op) ∧ W.cell? ⟨w.heap.size, 7, none⟩ = some (.int .i64 a.kind) ∧ W.cell? ⟨w.heap.size, 8, none⟩ = some (.int .i64 a.status) ∧ W.cell? ⟨w.heap.size, 9, none⟩ = some (.int .i64 a.start) ∧ W.cell? ⟨w.heap.size, 10, none⟩ = some (.int .i64 a.fin) ∧ W.cell? ⟨w.heap.size, 11, none⟩ = some (.slice p.aa a.attrs.length p.ac) ∧ W.cell? ⟨w.heap.size, 12, none⟩ = some (.slice p.ea a.events.length p.ec) ∧ W.cell? ⟨g, k * 13, none⟩ = some (.int .u64 b.hi) ∧ W.cell? ⟨g, k * 13 + 1, none⟩ = some (.int .u64 b.lo) ∧ W.cell? ⟨g, k * 13 + 2, none⟩ = some (.int .u64 b.id) ∧ W.cell? ⟨g, k * 13 + 3, none⟩ = some (.int .u64 b.par) ∧ W.cell? ⟨g, k * 13 + 4, none⟩ = some (.slice q.la b.links.length q.lc) ∧ W.cell? ⟨g, k * 13 + 5, none⟩ = some (.string b.svc) ∧ W.cell? ⟨g, k * 13 + 6, none⟩ = some (.string b.op) ∧ W.cell? ⟨g, k * 13 + 7, none⟩ = some (.int .i64 b.kind) ∧ W.cell? ⟨g, k * 13 + 8, none⟩ = some (.int .i64 b.status) ∧ W.cell? ⟨g, k * 13 + 9, none⟩ = some (.int .i64 b.start) ∧ W.cell? ⟨g, k * 13 + 10, none⟩ = some (.int .i64 b.fin) ∧ W.cell? ⟨g, k * 13 + 11, none⟩ = some (.slice q.aa b.attrs.length q.ac) ∧ W.cell? ⟨g, k * 13 + 12, none⟩ = some (.slice q.ea b.events.length q.ec)) (first | exact KP _ BR | exact KP _ (BR.trans bb)) (first
       | (go_at_call 107; refine CC.mono ?_; rintro e w5 ⟨rfl, bb⟩))
      all_goals
       have HB5 : Hid (Below w.heap.size w w5) := HBW.out.trans ((HBR2.out.trans bb).mono HBW.out.size)
       go_wp2
       go_returns
       exact ⟨_, ll, oc, rfl, A, Or.inl ⟨k, hkA, HSM.out, Or.inl rfl⟩, HAL.out.1, HOW.out w5 HB5.out, Upd.ofBelow HB5.out (fun k h1 h2 => by omega)⟩
    ·have e2 : (b.id == a.id) = false := by simp; exact h2
     have HN2 : Hid (∀ j (h : j < A.length), j < k + 1 → ¬ sameI A[j].1 a) := fun j hj hjk hs => by
      by_cases e : j = k
      ·subst e
       rw [HY.out] at hs
       exact h2 hs.2
      ·exact HNO.out j hj (by omega) hs
     clear h1 h2
     go_upto_region 4 with fail
     go_quiet (fail)
     go_wp2
     go_roundw
     case rel => exact ⟨k + 1, by go_num, by omega, HN2, HBD.out _⟩
     case measure => (simp [intOf]; omega)
   ·have HN2 : Hid (∀ j (h : j < A.length), j < k + 1 → ¬ sameI A[j].1 a) := fun j hj hjk hs => by
     by_cases e : j = k
     ·subst e
      rw [HY.out] at hs
      exact h1 hs.1
     ·exact HNO.out j hj (by omega) hs
    by_cases h2 : b.hi = a.hi
    ·have e2 : (b.lo == a.lo) = false := by simp; exact fun e => h1 ⟨h2, e⟩
     rw [h2] at c0
     clear h1 h2
     go_upto_region 4 with fail
     go_quiet (fail)
     go_wp2
     go_roundw
     case rel => exact ⟨k + 1, by go_num, by omega, HN2, HBD.out _⟩
     case measure => (simp [intOf]; omega)
    ·have e2 : (b.hi == a.hi) = false := by simp; exact h2
     clear h1 h2
     go_upto_region 4 with fail
     go_quiet (fail)
     go_wp2
     go_roundw
     case rel => exact ⟨k + 1, by go_num, by omega, HN2, HBD.out _⟩
     case measure => (simp [intOf]; omega)
  ·obtain rfl : ll = k := by omega
   have BW := HB0.out.trans (HBR.out.mono HB0.out.size)
   have hX : wr.heap[w.heap.size]? = some (.cells #[.int .u64 a.hi, .int .u64 a.lo, .int .u64 a.id, .int .u64 a.par, .slice p.la a.links.length p.lc, .string a.svc, .string a.op, .int .i64 a.kind, .int .i64 a.status, .int .i64 a.start, .int .i64 a.fin, .slice p.aa a.attrs.length p.ac, .slice p.ea a.events.length p.ec] 102 (0, 0)) := HX0.out.below HBR.out HX0.out.lt
   have o5 := HOW.out wr BW
   have HEN : Hid (∀ va vc w', w'.ownsRow base 102 13 (.slice va (ll + 1) vc) (ll + 1) ((A ++ [(a, p)]).flatMap sqL) → Upd (fun q => (Value.slice oa ll oc).ownBlock = some q) wr w' → ∃ B, PutR A (a, p) B ∧ B.length = ll + 1 ∧ w'.ownsRow base 102 13 (.slice va (ll + 1) vc) (ll + 1) (B.flatMap sqL) ∧ Upd (fun q => (Value.slice oa ll oc).ownBlock = some q) w w') := fun va vc w' h1 h2 => ⟨A ++ [(a, p)], Or.inr ⟨fun y hy hs => by
    obtain ⟨j, hj, rfl⟩ := List.mem_iff_getElem.1 hy
    exact HNO.out j hj (by rw [HAL.out.1] at hj; exact hj) hs, rfl⟩, by simp [HAL.out.1], h1, (Upd.ofBelow BW (fun k h1 h2 => by omega)).trans h2 (fun _ _ h => h)⟩
   have zb : base ≤ wr.heap.size := Nat.le_trans HBS.out BW.size
   clear HNO HAL HAT HOW HOA HBR HX0 HB0 BW
   go_wp2_with (first
    | (refine wpList_load_row rfl 102 (.tmp 3) rfl w.heap.size 102 #[.int .u64 a.hi, .int .u64 a.lo, .int .u64 a.id, .int .u64 a.par, .slice p.la a.links.length p.lc, .string a.svc, .string a.op, .int .i64 a.kind, .int .i64 a.status, .int .i64 a.start, .int .i64 a.fin, .slice p.aa a.attrs.length p.ac, .slice p.ea a.events.length p.ec] rfl _ hX Tryz.underlying102 rfl Tryz.info102 ?_; clear hX)
    | (at_builtin; refine wpList_appS wr rfl (.tmp 42) (.tmp 44) rfl base (.slice oa ll oc) ll A (a, p) wr.heap.size rfl rfl o5 rfl (by omega) zb ?_; intro va' vc' w6 h6 h7; have H6 : Hid _ := HEN.out va' vc' w6 h6 h7; clear h6 h7 o5 HEN))
   go_ret
   exact ⟨va', ll + 1, vc', rfl, H6⟩
structure TrQ (hi lo : Int) (B : List Sq) : Prop where
 tr : ∀ x ∈ B, x.1.hi = hi ∧ x.1.lo = lo
 ids : (B.map (fun x => x.1.id)).Nodup
theorem TrQ.put {hi lo : Int} {A B : List Sq} {x : Sq} (h : TrQ hi lo A) (hx : x.1.hi = hi ∧ x.1.lo = lo) (hp : PutR A x B) : TrQ hi lo B := by
 rcases hp with ⟨i, hi', hs, rfl | rfl⟩ | ⟨hn, rfl⟩
 ·exact h
 ·refine ⟨fun y hy => ?_, ?_⟩
  ·rcases List.mem_or_eq_of_mem_set hy with hy | rfl
   ·exact h.tr y hy
   ·exact hx
  ·have e : (A.set i x).map (fun x => x.1.id) = A.map (fun x => x.1.id) := by
    rw [List.map_set]
    have : x.1.id = (A.map (fun x => x.1.id))[i]'(by simpa using hi') := by rw [List.getElem_map]; exact hs.2.symm
    rw [this]
    exact List.set_getElem_self _
   rw [e]
   exact h.ids
 ·refine ⟨fun y hy => ?_, ?_⟩
  ·rcases List.mem_append.1 hy with hy | hy
   ·exact h.tr y hy
   ·rw [List.mem_singleton] at hy; subst hy; exact hx
  ·rw [List.map_append, List.nodup_append]
   refine ⟨h.ids, by simp, fun a ha b hb e => ?_⟩
   obtain ⟨y, hy, rfl⟩ := List.mem_map.1 ha
   rw [List.map_singleton, List.mem_singleton] at hb
   have := h.tr y hy
   exact hn y hy ⟨⟨this.1.trans hx.1.symm, this.2.trans hx.2.symm⟩, e.trans hb⟩
theorem put_mem {A B : List Sq} {x : Sq} (hp : PutR A x B) : (∀ y ∈ B, y ∈ A ∨ y = x) ∧ B.length ≤ A.length + 1 := by
 rcases hp with ⟨i, hi', hs, rfl | rfl⟩ | ⟨hn, rfl⟩
 ·exact ⟨fun y hy => Or.inl hy, by omega⟩
 ·exact ⟨fun y hy => List.mem_or_eq_of_mem_set hy, by simp⟩
 ·exact ⟨fun y hy => by simpa using hy, by simp⟩
theorem own_mono {w : World} {base base' : Nat} {e : TypeId} {s : Nat} {v : Value} {n : Nat} {xs : List Value} (h : w.ownsRow base e s v n xs) (hb : base' ≤ base) : w.ownsRow base' e s v n xs := by
 rcases h with ⟨h1, h2 | ⟨g, cap, cur, e1, e2, e3⟩⟩
 ·exact ⟨h1, Or.inl h2⟩
 ·exact ⟨h1, Or.inr ⟨g, cap, cur, e1, Nat.le_trans hb e2, e3⟩⟩
def TrI (w : World) (X : List Sp) (P : Nat → Pl) (hi lo : Int) (ll : Nat) (oa : Option Addr) (oc : Nat) (wr : World) : Prop := ∃ B : List Sq, B.length = ll ∧ ll ≤ 1000 ∧ (∀ x ∈ B, MayP X P x) ∧ TrQ hi lo B ∧ wr.ownsRow w.heap.size 102 13 (.slice oa ll oc) ll (B.flatMap sqL) ∧ Below w.heap.size w wr
end Go.Proofs.YtnffedmcblbkoaaGreatDoor
