/-
  Merged: TV, TW, IA.
-/
import Derived.Test.YtnffedmcblbkoaaGreatDoorTQq
import Derived.Test.YtnffedmcblbkoaaGreatDoorTJq
import Derived.Test.YtnffedmcblbkoaaGreatDoorQAq
import Derived.BigQuiet
import Derived.Test.YtnffedmcblbkoaaGreatDoorGMq
namespace Go.Proofs.YtnffedmcblbkoaaGreatDoor
open Go Go.RowKit
set_option maxRecDepth 100000
def nd0 (fin : Nat → Nod) (i : Nat) : Nod := ⟨(fin i).id, (fin i).par, (fin i).org, 0, 0, 0, 0⟩
def iniF (Y : List Sp) (fin : Nat → Nod) (i : Nat) : Nod := ⟨(fin i).id, (fin i).par, (fin i).org, 0, 0, (spAt Y i).start, (spAt Y i).fin⟩
theorem spAt_is {Y : List Sp} {i : Nat} (h : i < Y.length) : spAt Y i = Y[i] := by simp [spAt, List.getD, h]
section
variable {Y : List Sp} {C : List Int} {dp : Nat → Nat} {fin : Nat → Nod} {X : List Spot} {K : Nat → List Int} {R : List Int}
theorem FoB.idY (h : FoB Y C dp fin X K R) (i : Nat) (hi : i < Y.length) : (fin i).id = Y[i].id := by
 have hcl : (cutX C (zs Y)).length = Y.length := by rw [cutX_len, zs_len]
 have hi' : i < (cutX C (zs Y)).length := by omega
 obtain ⟨hz, z1, z2⟩ := zs_get Y i hi
 obtain ⟨s1, _, s3⟩ := cutX_same C (zs Y) i hz hi'
 rw [h.sh.idG (fun j hj hn => ?_) i hi', s3, z2]
 rcases nmC_range Y C j (by omega) with e | ⟨q, hq, e⟩
 ·exact absurd e hn
 ·rw [e]; omega
theorem FoB.root_of (h : FoB Y C dp fin X K R) (i : Nat) (hi : i < Y.length) : (fin i).org ≠ 0 ↔ (cutN C (nmOf (zs Y))).getD i (-1) = -1 := by
 have o := h.orgZ i hi
 rcases h.two i hi with ⟨e, e1, _⟩ | ⟨j, hj, e, e1, _⟩
 ·exact ⟨fun _ => e, fun _ => o.1 e1⟩
 ·exact ⟨fun hh => absurd (o.2 (by omega)) hh, fun hh => by omega⟩
theorem FoB.denv (h : FoB Y C dp fin X K R) : DEnv Y.length (cutN C (nmOf (zs Y))) K fin (iniF Y fin) := by
 have hnl : (nmOf (zs Y)).length = Y.length := by simp [nmOf, zs_len]
 have hcl : (cutX C (zs Y)).length = Y.length := by rw [cutX_len, zs_len]
 refine ⟨by rw [cutN_len, hnl], h.one.len, fun i hi => ⟨rfl, rfl, rfl⟩, fun k i hk hi => ?_, fun k i hk hi hn => ?_, fun k hk => h.fo.kids k hk, fun i j hi hj e => h.idInjR hi hj e, fun k hk => (h.sh.bd k (by omega)).2⟩
 ·have o := h.orgZ i hi
  show ((fin i).org = 0 ∧ (fin i).par = (fin k).id) ↔ _
  rcases h.two i hi with ⟨e, e1, _⟩ | ⟨j, hj, e, e1, _, _, _, e5⟩
  ·constructor
   ·rintro ⟨h1, _⟩
    exact absurd h1 (o.1 e1)
   ·intro h1; omega
  ·rw [e5, e]
   constructor
   ·rintro ⟨_, h2⟩
    rw [h.idInjR hj hk h2]
   ·intro h1
    obtain rfl : j = k := by omega
    exact ⟨o.2 (by omega), rfl⟩
 ·rcases h.two i hi with ⟨e, _⟩ | ⟨j, hj, e, _, e2, e3, e4, e5⟩
  ·omega
  ·obtain rfl : j = k := by omega
   rw [← spAt_is hi] at e3
   have e31 := congrArg Prod.fst e3
   have e32 := congrArg Prod.snd e3
   simp only at e31 e32
   show fin i = (⟨(fin i).id, (fin i).par, (fin i).org, (fin j).tree, (fin j).dep + 1, _, _⟩ : Nod)
   rw [← e2, ← e4]
   show (⟨_, _, _, _, _, (fin i).fr, (fin i).til⟩ : Nod) = ⟨_, _, _, _, _, _, _⟩
   congr 1
theorem FoB.rootF (h : FoB Y C dp fin X K R) (i : Nat) (hi : i < Y.length) (hn : (cutN C (nmOf (zs Y))).getD i (-1) = -1) : fin i = { iniF Y fin i with tree := (iniF Y fin i).id } := by
 rcases h.two i hi with ⟨_, _, e1, e2, e3, e4, e5⟩ | ⟨j, hj, e, _⟩
 ·rw [← spAt_is hi] at e2 e3
  show (⟨_, _, _, (fin i).tree, (fin i).dep, (fin i).fr, (fin i).til⟩ : Nod) = ⟨(fin i).id, (fin i).par, (fin i).org, (fin i).id, 0, (spAt Y i).start, (spAt Y i).fin⟩
  rw [e1, e2, e3, e4]
 ·omega
theorem FoB.rootL (h : FoB Y C dp fin X K R) {a b : Nat} (ha : a < Y.length) (hb : b < Y.length) (na : (cutN C (nmOf (zs Y))).getD a (-1) = -1) (nb : (cutN C (nmOf (zs Y))).getD b (-1) = -1) : ltK (iniF Y fin a) (iniF Y fin b) ↔ ltK (fin a) (fin b) := by
 rw [h.rootF a ha na, h.rootF b hb nb]
 exact Iff.rfl
structure OrgR (Y : List Sp) (fin : Nat → Nod) (i : Nat) (a : Sp) (u : Int) : Prop where
 born : a.par = 0 → nd0 fin i = ⟨a.id, 0, 1, 0, 0, 0, 0⟩
 orphan : a.par ≠ 0 → u < 0 → nd0 fin i = ⟨a.id, 0, 2, 0, 0, 0, 0⟩
 looped : a.par ≠ 0 → 0 ≤ u → LeastOwn (nmY Y) Y.length i → nd0 fin i = ⟨a.id, 0, 3, 0, 0, 0, 0⟩
 inner : a.par ≠ 0 → 0 ≤ u → ¬ LeastOwn (nmY Y) Y.length i → nd0 fin i = ⟨a.id, a.par, 0, 0, 0, 0, 0⟩
theorem FoB.orgR (h : FoB Y C dp fin X K R) (hr : Y.Pairwise (fun a b => a.id < b.id)) (hC : CutsL (nmOf (zs Y)) Y.length Y.length C) (i : Nat) (hi : i < Y.length) : OrgR Y fin i Y[i] ((nmY Y).getD i 0) := by
 have o := h.org hr hC i hi
 have hid := h.idY i hi
 have hrg := nmY_range Y ((nmY Y).getD i 0) (by
  have : i < (nmY Y).length := by rw [nmY_len]; exact hi
  rw [List.getD_eq_getElem?_getD, List.getElem?_eq_getElem this]
  exact List.getElem_mem this)
 have key : ∀ g p, (fin i).org = g → (fin i).par = p → nd0 fin i = ⟨Y[i].id, p, g, 0, 0, 0, 0⟩ := fun g p h1 h2 => by
  unfold nd0
  rw [hid, h1, h2]
 have hj : 0 ≤ (nmY Y).getD i 0 → ∃ j, ∃ hj : j < Y.length, Y[j].id = Y[i].par := fun h0 => by
  have h1 : ((nmY Y).getD i 0).toNat < Y.length := by omega
  exact ⟨_, h1, (nmY_some hr hi h1).1 (by omega)⟩
 refine ⟨fun hp => ?_, fun hp hu => ?_, fun hp hu hl => ?_, fun hp hu hl => ?_⟩
 ·have h1 := o.born hp
  exact key _ _ h1 (o.par.2 (by omega))
 ·have h1 := o.orphan hp ((nmY_none hr hi).1 (by omega))
  exact key _ _ h1 (o.par.2 (by omega))
 ·obtain ⟨j, hj, e⟩ := hj hu
  have h1 := o.looped j hj e hl
  exact key _ _ h1 (o.par.2 (by omega))
 ·obtain ⟨j, hj, e⟩ := hj hu
  have h1 := o.inner j hj e hl
  exact key _ _ h1 (o.par.1 h1)
end
structure B1I (base : Nat) (w1 wr : World) (f : Nat) (sv nv : Value) (fin : Nat → Nod) (k : Nat) : Prop where
 head : Blk wr f #[sv, nv, .slice none 0 0] 144
 own : wr.ownsRow base 38 7 nv k (((List.range k).map (nd0 fin)).flatMap ndL)
 upd : Upd (fun q => q = f) w1 wr
def rgN (fin : Nat → Nod) (k : Nat) : List Nod := (List.range k).map (nd0 fin)
theorem rgN_len (fin : Nat → Nod) (k : Nat) : (rgN fin k).length = k := by simp [rgN]
theorem rgN_succ (fin : Nat → Nod) (k : Nat) : rgN fin (k + 1) = rgN fin k ++ [nd0 fin k] := by unfold rgN; rw [List.range_succ, List.map_append]; rfl
def midN (Y : List Sp) (fin : Nat → Nod) (n k : Nat) : List Nod := (List.range n).map (fun i => if i < k then iniF Y fin i else nd0 fin i)
theorem midN_len (Y : List Sp) (fin : Nat → Nod) (n k : Nat) : (midN Y fin n k).length = n := by simp [midN]
theorem midN_get (Y : List Sp) (fin : Nat → Nod) (n k i : Nat) (h : i < (midN Y fin n k).length) : (midN Y fin n k)[i] = if i < k then iniF Y fin i else nd0 fin i := by simp [midN]
theorem midN_zero (Y : List Sp) (fin : Nat → Nod) (n : Nat) : midN Y fin n 0 = rgN fin n := by simp [midN, rgN]
theorem midN_set (Y : List Sp) (fin : Nat → Nod) (n k : Nat) (hk : k < n) : (midN Y fin n k).set k (iniF Y fin k) = midN Y fin n (k + 1) := by
 refine List.ext_getElem (by rw [List.length_set, midN_len, midN_len]) fun i h1 h2 => ?_
 rw [midN_get]
 by_cases e : i = k
 ·subst e
  rw [List.getElem_set_self, if_pos (by omega)]
 ·rw [List.getElem_set_ne (fun h => e h.symm), midN_get]
  by_cases h : i < k
  ·rw [if_pos h, if_pos (by omega)]
  ·rw [if_neg h, if_neg (by omega)]
theorem midN_st (Y : List Sp) (fin : Nat → Nod) (n : Nat) : StV n fin (iniF Y fin) (fun _ => False) (midN Y fin n n) :=
 ⟨midN_len _ _ _ _, fun _ _ h => h.elim, fun i h _ => by rw [midN_get, if_pos (by rw [midN_len] at h; exact h)]⟩
structure L4I (base f nb cn : Nat) (sv : Value) (n : Nat) (fin ini : Nat → Nod) (T : Nat → List Nat) (R : List Int) (w4 wr : World) (q : Nat) (ov : Value) (V : List Nod) : Prop where
 fo : RFo wr base f nb cn sv ov V ((((R.take q).map Int.toNat).flatMap (fun c => c :: T c)).map (fun c : Nat => (c : Int)))
 st : StV n fin ini (fun i => i ∈ ((R.take q).map Int.toNat).flatMap (fun c => c :: T c)) V
 upd : Upd (fun q => q = f ∨ q = nb) w4 wr
 mov : ∀ q, ov.ownBlock = some q → w4.heap.size ≤ q
theorem and_two {b c : Bool} (h : (b && c) = true) : b = true ∧ c = true := by simpa using h
theorem two_cases {b c : Bool} (h : ¬ (b && c) = true) : b = false ∨ (b = true ∧ c = false) := by cases b <;> cases c <;> simp_all
theorem twoQ {P : Program} {Q : Exit → Act → World → Prop} {md : Region.Mode} {S : World → Prop} {l : List Oper} {i j : Nat} {oi oj : Oper} {fuel : Nat} {listed : Array Bool} {a : Act} {w : World} (hi : l[i]? = some oi) (hj : l[j]? = some oj)
  (hr : Region.ready md l.toArray listed = [i, j])
  (h : ∀ K : Act → World → Prop, (∀ a' w', S w' ∧ wpAnyH P md l.toArray Q S fuel (listed.setIfInBounds i true) a' w' → K a' w') → if Region.wanted oi (yielded l.toArray a.tmps) = true then Oper.wp P oi a w K Q else K (a.put oi.dst undef) w)
  (h' : ∀ K : Act → World → Prop, (∀ a' w', S w' ∧ wpAnyH P md l.toArray Q S fuel (listed.setIfInBounds j true) a' w' → K a' w') → if Region.wanted oj (yielded l.toArray a.tmps) = true then Oper.wp P oj a w K Q else K (a.put oj.dst undef) w) : wpAnyH P md l.toArray Q S (fuel + 1) listed a w := by
 refine wpAnyH_all hr (by simp) ?_
 intro k hk
 simp at hk
 rcases hk with rfl | rfl
 ·have hi' : l.toArray[k]? = some oi := by simpa using hi
  unfold wpOp
  simp only [hi']
  have := h (fun a' w' => S w' ∧ wpAnyH P md l.toArray Q S fuel (listed.setIfInBounds k true) a' w') (fun _ _ h => h)
  split
  ·rename_i hw; rw [if_pos hw] at this; exact Or.inl this
  ·rename_i hw; rw [if_neg hw] at this; exact this
 ·have hj' : l.toArray[k]? = some oj := by simpa using hj
  unfold wpOp
  simp only [hj']
  have := h' (fun a' w' => S w' ∧ wpAnyH P md l.toArray Q S fuel (listed.setIfInBounds k true) a' w') (fun _ _ h => h)
  split
  ·rename_i hw; rw [if_pos hw] at this; exact Or.inl this
  ·rename_i hw; rw [if_neg hw] at this; exact this
theorem n7_two {w5 : World} {B : Nat} {i p : Int} (h : Blk w5 B (ndL ⟨i, p, 0, 0, 0, 0, 0⟩).toArray 38) (v : Int) : Blk ((w5.setCell ⟨B, 2, none⟩ (.int .i64 v)).setCell ⟨B, 1, none⟩ (.int .u64 0)) B (ndL ⟨i, 0, v, 0, 0, 0, 0⟩).toArray 38 := by
 have h1 := h.set 2 (.int .i64 v)
 rw [List.setIfInBounds_toArray] at h1
 have h2 := Blk.set (c := ((ndL ⟨i, p, 0, 0, 0, 0, 0⟩).set 2 (.int .i64 v)).toArray) h1 1 (.int .u64 0)
 rw [List.setIfInBounds_toArray] at h2
 exact h2
theorem infoN1 : ∃ i, Tryz.prog.info? 38 = some i ∧ i.zero = some (.agg (ndL zNd).toArray) ∧ i.size = 7 ∧ i.bytes = 56 := by
 have h : (Tryz.prog.info? 38).map (fun i => (i.zero, i.size, i.bytes)) = some (some (.agg (ndL zNd).toArray), 7, 56) := by kernel_rfl
 cases hi : Tryz.prog.info? 38 with
 | none => rw [hi] at h; simp at h
 | some i => rw [hi] at h; simp at h; exact ⟨i, rfl, h.1, h.2.1, h.2.2⟩
theorem step_appN {ops : Array Oper} {o : Oper} {a : Act} {K : Act → World → Prop} {Q : Exit → Act → World → Prop} {E : Prop} (W : World) (hgd : o.guard = none) (s x : Operand)
  (ho : o.op = .call { callee := .builtin .append, args := #[s, x], argTypes := #[142, 142] })
  (base : Nat) (v : Value) (n : Nat) (L : List Nod) (d : Nod) (hv : a.eval s = v) (hown : W.ownsRow base 38 7 v n (L.flatMap ndL)) (hl : L.length = n) (hx : a.eval x = .slice (some ⟨W.heap.size, 0, none⟩) 1 1) (hn : n ≤ 1000) (hbase : base ≤ W.heap.size)
  (h : ∀ a1 c1 w', w'.ownsRow base 38 7 (.slice a1 (n + 1) c1) (n + 1) ((L ++ [d]).flatMap ndL) → Upd (fun q => v.ownBlock = some q) W w' → K (a.put o.dst (.slice a1 (n + 1) c1)) w') : if Region.wanted o (yielded ops a.tmps) = true then Oper.wp Tryz.prog o a (W.alloc (.cells (ndL d).toArray 38)) K Q else E := by
 obtain ⟨i0, hi0, hz0, hz1, hz2⟩ := infoN1
 have hw : Region.wanted o (yielded ops a.tmps) = true := by simp [Region.wanted, hgd]
 rw [if_pos hw]
 have hB := Blk.new W (ndL d).toArray 38
 have hown' : (W.alloc (.cells (ndL d).toArray 38)).ownsRow base 38 7 v n (L.flatMap ndL) := ownsRow_upd hown ((Upd.refl (fun _ => False) W).alloc _) (fun _ _ h => h)
 have hS : Src Tryz.prog 7 142 (.slice (some ⟨W.heap.size, 0, none⟩) 1 1) 1 (ndL d) (W.alloc (.cells (ndL d).toArray 38)) := by
  refine Src.ofSlice _ Tryz.underlying142 _ 1 1 _ rfl (fun j u hj => ?_) (ndL_one _)
  rw [Addr.add_lit, Nat.zero_add]
  exact hB.cell j (by rw [List.getElem?_toArray]; exact hj)
 obtain ⟨v', w', hr, h2, h3, h4⟩ := run_appW (P := Tryz.prog) _ base 142 142 o.type 38 i0 _ 7 Tryz.underlying142 hi0 hz0 hz1 rfl v n _ hown' _ 1 _ hS (by unfold maxLen; omega) (by rw [hz2]; omega) (by simp; omega)
 unfold Oper.wp execOp
 simp only [ho, resolve, invoke, builtin, Sem.run_bind, Sem.run_pure, Result.andThen_ok, List.map_toArray, List.map_cons, List.map_nil, hv, hx, hr]
 have e : L.flatMap ndL ++ ndL d = (L ++ [d]).flatMap ndL := by simp
 rw [e] at h2
 obtain ⟨a1, c1, rfl⟩ := owns_sliceS h2
 exact h a1 c1 w' h2 (((Upd.refl _ W).alloc _).grown h3 (fun k _ e => e))
theorem part_head {T : Nat → List Nat} {A B : List Nat} {c : Nat} (h : ((A ++ c :: B).flatMap (fun c => c :: T c)).Nodup) : c ∉ A.flatMap (fun c => c :: T c) := fun hh => by
 rw [List.flatMap_append, List.flatMap_cons, List.cons_append] at h
 obtain ⟨h1, h2, h3⟩ := List.nodup_append.1 h
 exact h3 c hh c List.mem_cons_self rfl
def RFor (w : World) (f : Nat) (Y : List Sp) (fin : Nat → Nod) : Prop := ∃ sa sc L, FSp w f sa sc L ∧ L.map (·.1) = Y ∧ (∀ x ∈ L, SpAt w x.1 x.2) ∧ (0 < Y.length → ∃ nb cn V, FNd w f nb cn V ∧ V.length = Y.length ∧ ∀ i (h : i < V.length), V[i] = fin i) ∧ ROd w f Y.length
def RBuP (X Y : List Sp) (fin : Nat → Nod) (w : World) (e : Ending) (w' : World) : Prop := (∃ f, e = .returned (.tuple #[.pointer (some ⟨f, 0, none⟩), .int .i64 0]) ∧ Hid (OneT X ∧ RFor w' f Y fin) ∧ Below w.heap.size w w') ∨ (e = .returned (.tuple #[.pointer none, .int .i64 101]) ∧ Hid (¬ OneT X) ∧ Below w.heap.size w w')
theorem B1I.fsp {base : Nat} {w1 wr W : World} {f k n vc gv : Nat} {nv : Value} {fin : Nat → Nod} {L : List Sq} (h : B1I base w1 wr f (.slice (some ⟨gv, 0, none⟩) n vc) nv fin k) (hb : Below wr.heap.size wr W) (hr : RwG sqL 13 102 w1 gv vc L) (hgf : gv ≠ f) (hn : L.length = n) (hrise : (L.map (·.1)).Pairwise (fun a b => a.id < b.id)) (hl : n ≤ 1000) (hp : ∀ x ∈ L, x.1.id ≠ 0) : FSp W f (some ⟨gv, 0, none⟩) vc L :=
 ⟨by rw [hn]; exact (h.head.below hb h.head.lt).cell 0 rfl, fun _ => ⟨gv, rfl, (hr.upd h.upd hgf).below hb⟩, hrise, by omega, hp⟩
theorem B1I.next {w2 wr wb w7 w8 : World} {f k : Nat} {sv : Value} {na a1 : Option Addr} {nc c1 : Nat} {fin : Nat → Nod} (h : B1I w2.heap.size w2 wr f sv (.slice na k nc) fin k) (hf : f < w2.heap.size) (hb : Below wr.heap.size wr wb) (o7 : w7.ownsRow w2.heap.size 38 7 (.slice a1 (k + 1) c1) (k + 1) ((rgN fin k ++ [nd0 fin k]).flatMap ndL)) (u7 : Upd (fun q => (Value.slice na k nc).ownBlock = some q) wb.drew w7) (hw8 : w8 = w7.setCell ⟨f, 1, none⟩ (.slice a1 (k + 1) c1)) : B1I w2.heap.size w2 w8 f sv (.slice a1 (k + 1) c1) fin (k + 1) := by
 subst hw8
 have hn : ∀ q, (Value.slice na k nc).ownBlock = some q → w2.heap.size ≤ q := fun q e => (owns_blk h.own e).1
 have hu7 : Upd (fun q => (Value.slice na k nc).ownBlock = some q) wb w7 := (Upd.refl _ wb).drew.trans u7 (fun _ _ h => h)
 have hf7 : Blk w7 f #[sv, .slice na k nc, .slice none 0 0] 144 := (h.head.below hb h.head.lt).upd hu7 (fun e => by have := hn f e; omega)
 have hu8 : Upd (fun q => q = f) w7 (w7.setCell ⟨f, 1, none⟩ (.slice a1 (k + 1) c1)) := setCell_updI _ _ _ _
 refine ⟨?_, ?_, ?_⟩
 ·have := hf7.set 1 (.slice a1 (k + 1) c1)
  exact this
 ·rw [← rgN_succ] at o7
  refine ownsRow_upd o7 hu8 (fun q e e' => ?_)
  subst e'
  obtain ⟨_, cur, hb⟩ := owns_blk o7 e
  exact blk_two hf7 hb (by decide)
 ·refine ((h.upd.trans (Upd.ofBelow (S := fun _ => False) hb (fun k h1 h2 => by omega)) (fun _ _ h => h.elim)).trans hu7 (fun q hq e => ?_)).trans hu8 (fun _ _ h => h)
  have := hn q e
  omega
set_option maxHeartbeats 64000000 in
theorem rBuild_any (ad : Option Addr) (n cap : Nat) (X : List Sp) (P : Nat → Pl) (w : World) (hX : SpsAt w ad n X P) (hF : ∀ a ∈ X, a.Fits) (hSm : ∀ a ∈ X, a.Small) {Y : List Sp} {C : List Int} {dp : Nat → Nat} {fin : Nat → Nod} {X' : List Spot} {K : Nat → List Int} {R : List Int} (hB : OneT X → X.Perm Y ∧ Y.Pairwise (fun a b => a.id < b.id) ∧ FoB Y C dp fin X' K R ∧ CutsL (nmOf (zs Y)) Y.length Y.length C) :
  Calls Tryz.prog 30 #[.slice ad n cap] w (RBuP X Y fin w) := by
 have RIS : Hid (Calls Tryz.prog 57 #[.slice ad n cap] w (RisP X w)) := rRising_any ad n cap X P w hX hF hSm
 have HB : Hid (OneT X → X.Perm Y ∧ Y.Pairwise (fun a b => a.id < b.id) ∧ FoB Y C dp fin X' K R ∧ CutsL (nmOf (zs Y)) Y.length Y.length C) := hB
 have HXL : Hid (X.length = n) := hX.len
 have HNO : Hid (∀ w', ¬ OneT X → Below w.heap.size w w' → RBuP X Y fin w (.returned (.tuple #[.pointer none, .int .i64 101])) w') := fun w' h1 h2 => Or.inr ⟨rfl, h1, h2⟩
 have HYES : Hid (∀ f w', OneT X → RFor w' f Y fin → Below w.heap.size w w' → RBuP X Y fin w (.returned (.tuple #[.pointer (some ⟨f, 0, none⟩), .int .i64 0])) w') := fun f w' h1 h2 h3 => Or.inl ⟨f, rfl, ⟨h1, h2⟩, h3⟩
 clear hX hF hSm hB
 generalize RBuP X Y fin w = RR at *
 by_cases h1 : OneT X
 rotate_left
 ·go_enter Tryz.func30, Tryz.ntmps30
  go_wp2_with (go_at_call 57; (with_reducible refine RIS.out.mono ?_); clear RIS; rintro e w1 ⟨va, vl, vc, b, rfl, HRR, hb1⟩; obtain rfl : b = false := (by rcases HRR.out with h | h; exact absurd h.2.1 h1; exact h.1); have FN := HNO.out w1 h1 hb1)
  exact FN
 have HONE : Hid (OneT X) := h1
 obtain ⟨hp0, hr0, hfo, hcl⟩ := HB.out h1
 have HFO : Hid (FoB Y C dp fin X' K R) := hfo
 have HYR : Hid (Y.Pairwise (fun a b => a.id < b.id)) := hr0
 have HOR : Hid (∀ k (hk : k < Y.length), OrgR Y fin k Y[k] ((nmY Y).getD k 0)) := fun k hk => hfo.orgR hr0 hcl k hk
 have HYL : Hid (Y.length = n) := by show Y.length = n; rw [← HXL.out, hp0.length_eq]
 have hn1 : n ≤ 1000 := by have := h1.len; rw [HXL.out] at this; exact this
 have hn2 : (n : Int) ≤ 1000 := by omega
 have HRI : Hid (∀ w1 va vl vc x0 L, RisI w w1 X x0 X.length (.slice va vl vc) L → L.map (·.1) = Y ∧ L.length = n ∧ n = vl) := fun w1 va vl vc x0 L h => by
  have hp := h.perm
  rw [List.take_length] at hp
  refine ⟨(rise_unique Y _ (hp0.symm.trans hp) hr0 h.rise).symm, by rw [h.len, HXL.out], ?_⟩
  obtain ⟨ad', c', e⟩ := owns_sliceS h.own
  injection e with _ e2 _
  rw [e2, HXL.out]
 clear hp0 hr0 hfo hcl HB HNO h1
 go_enter Tryz.func30, Tryz.ntmps30
 go_wp2_with (go_at_call 57; (with_reducible refine RIS.out.mono ?_); clear RIS; rintro e w1 ⟨va, vl, vc, b, rfl, HRR, hb1⟩; obtain ⟨rfl, x0, L, HRL⟩ : b = true ∧ ∃ x0 L, Hid (RisI w w1 X x0 X.length (.slice va vl vc) L) := (by rcases HRR.out with h | h; exact ⟨h.1, h.2.2.choose, h.2.2.choose_spec.choose, h.2.2.choose_spec.choose_spec⟩; exact absurd HONE.out h.2); clear HRR; obtain ⟨hLY, hLn, hvl⟩ := HRI.out _ _ _ _ _ _ HRL.out; subst hvl; have HB1 : Hid (Below w.heap.size w w1) := hb1; clear hb1)
 have HLY : Hid (L.map (·.1) = Y) := hLY
 have HLN : Hid (L.length = n) := hLn
 obtain ⟨w2, hw2⟩ : ∃ W, w1.alloc (.cells #[.slice va n vc, .slice none 0 0, .slice none 0 0] 144) = W := ⟨_, rfl⟩
 obtain ⟨f, hff⟩ : ∃ f, w1.heap.size = f := ⟨_, rfl⟩
 have HW2 : Hid (Blk w2 f #[.slice va n vc, .slice none 0 0, .slice none 0 0] 144 ∧ w2.heap.size = f + 1 ∧ w1.heap.size = f ∧ Below f w1 w2 ∧ w.heap.size ≤ f) := by
  rw [← hw2, ← hff]
  exact ⟨Blk.new _ _ _, by simp, rfl, (Below.refl _ _).alloc (Nat.le_refl _) _, HB1.out.size⟩
 (try rw [hw2])
 (try rw [hff])
 have HBW2 : Hid (Below w.heap.size w w2) := HB1.out.trans (HW2.out.2.2.2.1.mono HW2.out.2.2.2.2)
 clear hLY hLn hw2 hff
 by_cases hn0 : n = 0
 ·subst hn0
  have FN : Hid (∀ W, Below w2.heap.size w2 W → RR (.returned (.tuple #[.pointer (some ⟨f, 0, none⟩), .int .i64 0])) W) := fun W hW => by
   have hL0 : L = [] := List.eq_nil_of_length_eq_zero HLN.out
   refine HYES.out f W HONE.out ⟨va, vc, L, ⟨?_, (fun h => by rw [HLN.out] at h; omega), (by rw [HLY.out]; exact HYR.out), (by rw [HLN.out]; omega), (fun x hx => by rw [hL0] at hx; cases hx)⟩, HLY.out, (fun x hx => by rw [hL0] at hx; cases hx), (fun h => by rw [HYL.out] at h; omega), w2.heap.size, .slice none 0 0, [], (HW2.out.1.below hW HW2.out.1.lt).cell 2 rfl, World.ownsRow_nil _ _ _ _, (fun i => by rw [HYL.out]; simp), List.Pairwise.nil⟩ (HBW2.out.trans (hW.mono HBW2.out.size))
   rw [HLN.out]
   exact (HW2.out.1.below hW HW2.out.1.lt).cell 0 rfl
  have ORD : Hid (Calls Tryz.prog 60 #[.pointer (some ⟨f, 0, none⟩), .slice none 0 0] w2 (OrdP [] [] 0 w2)) := rOrd_any f 0 0 [] none 0 0 [] w2 (fun h => by omega) ⟨rfl, fun j u h => by simp [intsV] at h⟩ (fun x hx => by cases hx) (by omega)
  clear HYES HRL
  go_wp2
  go_loop [7] (fun a => a = .int .i64 0) (fun _ => 0)
  case atStart => rfl
  case round =>
   subst hrel
   go_wp2
   go_loop [11] (fun a => a = .int .i64 0) (fun _ => 0)
   case atStart => rfl
   case round =>
    subst hrel
    go_wp2
    go_loop [12, 13] (fun z a => z = .slice none 0 0 ∧ a = .int .i64 0) (fun _ _ => 0)
    case atStart => exact ⟨rfl, rfl⟩
    case round =>
     obtain ⟨rfl, rfl⟩ := hrel
     go_wp2_with (go_at_call 60; (with_reducible refine ORD.out.mono ?_); clear ORD; rintro e w4 ⟨ao, c4, M, rfl, HO⟩; have FN4 := FN.out w4 HO.out.bel)
     go_loop [14] (fun a => a = .int .i64 0) (fun _ => 0)
     case atStart => rfl
     case round =>
      subst hrel
      go_wp2
      exact FN4
 have hnp : 0 < n := by omega
 obtain ⟨gv, vc', hve, hgv, hRV1⟩ := RwG.of_owns HRL.out.own (by rw [HLN.out, HXL.out]) (by rw [HXL.out]; exact hnp)
 injection hve with hve1 hve2 hve3
 subst hve1
 subst hve3
 have HGV : Hid (gv < f ∧ w.heap.size ≤ gv) := by
  have := hRV1.lt
  have := HW2.out.2.2.1
  exact ⟨by omega, hgv⟩
 have HRV : Hid (RwG sqL 13 102 w2 gv vc L) := hRV1.below (HW2.out.2.2.2.1.mono (by have := HW2.out.2.2.1; omega))
 have HPOS : Hid (∀ x ∈ L, x.1.id ≠ 0) := fun x hx => by
  refine chk_id (HONE.out.chk x.1 ?_)
  have hp := HRL.out.perm
  rw [List.take_length] at hp
  exact hp.mem_iff.2 (List.mem_map.2 ⟨x, hx, rfl⟩)
 have HKEP : Hid (∀ x ∈ L, KepQ w.heap.size w1 gv x) := fun x hx => HRL.out.kept x hx
 have HYK : Hid (∀ k (hk : k < n), ∃ (h1 : k < L.length) (h2 : k < Y.length), Y[k] = L[k].1) := fun k hk => by
  have h1 : k < L.length := by rw [HLN.out]; exact hk
  have h2 : k < Y.length := by rw [HYL.out]; exact hk
  refine ⟨h1, h2, ?_⟩
  have : (L.map (·.1))[k]'(by rw [List.length_map]; exact h1) = L[k].1 := by simp
  rw [← this]
  congr 1
  exact HLY.out.symm
 have H10 : Hid (B1I w2.heap.size w2 w2 f (.slice (some ⟨gv, 0, none⟩) n vc) (.slice none 0 0) fin 0) := ⟨HW2.out.1, World.ownsRow_nil _ _ _ _, Upd.refl _ _⟩
 have hfs : Hid (f < w2.heap.size) := HW2.out.1.lt
 clear HRL hRV1 hve2 hgv HRI
 go_wp2
 go_loopw [7] (fun z7 wr => ∃ (k : Nat) (na : Option Addr) (nc : Nat), z7 = .int .i64 k ∧ k ≤ n ∧ Hid (B1I w2.heap.size w2 wr f (.slice (some ⟨gv, 0, none⟩) n vc) (.slice na k nc) fin k)) (fun z7 _ => n - (intOf z7).toNat)
 case atStart => exact ⟨0, none, 0, rfl, by omega, H10⟩
 case round =>
  clear H10
  obtain ⟨k, na, nc, rfl, hk, HI⟩ := hrel
  by_cases hlt : k < n
  ·have hlt' : (k : Int) < (n : Int) := by omega
   obtain ⟨hkL, hkY, hYk⟩ := HYK.out k hlt
   obtain ⟨a, ha⟩ : ∃ a, L[k].1 = a := ⟨_, rfl⟩
   have FSPW : Hid (∀ W, Below wr.heap.size wr W → FSp W f (some ⟨gv, 0, none⟩) vc L) := fun W hW => HI.out.fsp hW HRV.out (by have := HGV.out; omega) HLN.out (by rw [HLY.out]; exact HYR.out) hn1 HPOS.out
   have CE : Hid (∀ W, Below wr.heap.size wr W → W.cell? ⟨gv, k * 13 + 2, none⟩ = some (.int .u64 a.id) ∧ W.cell? ⟨gv, k * 13 + 3, none⟩ = some (.int .u64 a.par)) := fun W hW => by
    obtain ⟨g', e, c2, c3⟩ := (FSPW.out W hW).idpar k hkL
    injection e with e
    injection e with e
    subst e
    rw [ha] at c2 c3
    exact ⟨c2, c3⟩
   obtain ⟨u, hu⟩ : ∃ u, (nmY Y).getD k 0 = u := ⟨_, rfl⟩
   have RG : Hid (∀ W, Below wr.heap.size wr W → Calls Tryz.prog 58 #[.pointer (some ⟨f, 0, none⟩), .int .i64 k] W (RingP (nmY Y) n k W)) := fun W hW => by
    have := rRing_any f (some ⟨gv, 0, none⟩) vc L k W (FSPW.out W hW) hkL
    rw [HLY.out, HLN.out] at this
    exact this
   have NMD : Hid (∀ W, Below wr.heap.size wr W → Calls Tryz.prog 59 #[.pointer (some ⟨f, 0, none⟩), .int .i64 k] W fun e w' => e = .returned (.int .i64 u) ∧ w' = W) := fun W hW => by
    have := rNamed_any f (some ⟨gv, 0, none⟩) vc L k W (FSPW.out W hW) hkL
    rw [HLY.out, hu] at this
    exact this
   have ORG : Hid (OrgR Y fin k a u) := by
    have := HOR.out k hkY
    rw [hu, hYk, ha] at this
    exact this
   have R18 : Hid (∀ wb, Below wr.heap.size wr wb → wb.cell? ⟨f, 1, none⟩ = some (.slice na k nc) ∧ wb.ownsRow w2.heap.size 38 7 (.slice na k nc) k ((rgN fin k).flatMap ndL) ∧ (∀ w7, Upd (fun q => (Value.slice na k nc).ownBlock = some q) wb.drew w7 → w7.there f 1 1) ∧ (¬ (wr.heap.size = f ∨ (Value.slice na k nc).ownBlock = some wr.heap.size)) ∧ w2.heap.size ≤ wb.heap.size) := fun wb hb => by
    have hh := HI.out.head.below hb HI.out.head.lt
    have hz := HI.out.upd.size
    have hf := hfs.out
    refine ⟨hh.cell 1 rfl, ownsRow_upd HI.out.own (Upd.ofBelow (S := fun _ => False) hb (fun k h1 h2 => by omega)) (fun _ _ h => h), fun w7 u7 => ?_, ?_, Nat.le_trans hz hb.size⟩
    ·have hu7 : Upd (fun q => (Value.slice na k nc).ownBlock = some q) wb w7 := (Upd.refl _ wb).drew.trans u7 (fun _ _ h => h)
     exact (hh.upd hu7 (fun e => by have := (owns_blk HI.out.own e).1; omega)).one 1 (Nat.lt_of_sub_pos (by simp))
    ·rintro (e | e)
     ·omega
     ·obtain ⟨_, cur, hb⟩ := owns_blk HI.out.own e
      have := hb.lt
      omega
   have NX1 : Hid (∀ (wb : World) (a1 : Option Addr) (c1 : Nat) (w7 w8 : World), Below wr.heap.size wr wb → w7.ownsRow w2.heap.size 38 7 (.slice a1 (k + 1) c1) (k + 1) ((rgN fin k ++ [nd0 fin k]).flatMap ndL) → Upd (fun q => (Value.slice na k nc).ownBlock = some q) wb.drew w7 → w8 = w7.setCell ⟨f, 1, none⟩ (.slice a1 (k + 1) c1) → Hid (B1I w2.heap.size w2 w8 f (.slice (some ⟨gv, 0, none⟩) n vc) (.slice a1 (k + 1) c1) fin (k + 1))) := fun wb a1 c1 w7 w8 h1 h2 h3 h4 => HI.out.next hfs.out h1 h2 h3 h4
   clear hkL hkY hYk ha FSPW
   by_cases hp : a.par = 0
   ·have hp' : (a.par == 0) = true := by simpa using hp
    have HP : Hid (a.par = 0) := hp
    clear hu hp
    ·go_wp2
     refine wp_region_held (S := fun W => Below wr.heap.size wr W) (by kernel_rfl) ?_
     change wpAnyH _ _ _ _ _ _ _ _ (World.drew _)
     have hS : Below wr.heap.size wr wr.drew := ⟨rfl, rfl, rfl, Nat.le_refl _, fun _ _ => rfl⟩
     refine takeH (i := 0) (v := .slice (some ⟨gv, 0, none⟩) n vc) rfl (by kernel_rfl) (by kernel_rfl) (by kernel_rfl) (fun _ _ _ h => h) (Or.inl ⟨by rfl, fun W hW => by go_simp⟩) hS ?_
     simp only [pS]
     refine takeH (i := 1) (v := .int .i64 (k : Int)) rfl (by kernel_rfl) (by kernel_rfl) (by kernel_rfl) (fun _ _ _ h => h) (Or.inl ⟨by rfl, fun W hW => by go_simp⟩) hS ?_
     simp only [pS]
     refine takeH (i := 2) (v := .pointer (some ⟨gv, k * 13, none⟩)) rfl (by kernel_rfl) (by kernel_rfl) (by kernel_rfl) (fun _ _ _ h => h) (Or.inl ⟨by rfl, fun W hW => by go_simp⟩) hS ?_
     simp only [pS]
     refine takeH (i := 3) (v := .pointer (some ⟨gv, k * 13 + 2, none⟩)) rfl (by kernel_rfl) (by kernel_rfl) (by kernel_rfl) (fun _ _ _ h => h) (Or.inl ⟨by rfl, fun W hW => by go_simp⟩) hS ?_
     simp only [pS]
     refine takeH (i := 4) (v := .int .u64 a.id) rfl (by kernel_rfl) (by kernel_rfl) (by kernel_rfl) (fun _ _ _ h => h) (Or.inl ⟨by rfl, fun W hW => by obtain ⟨s0, s1⟩ := CE.out W hW; go_simp⟩) hS ?_
     simp only [pS]
     refine takeH (i := 5) (v := .slice (some ⟨gv, 0, none⟩) n vc) rfl (by kernel_rfl) (by kernel_rfl) (by kernel_rfl) (fun _ _ _ h => h) (Or.inl ⟨by rfl, fun W hW => by go_simp⟩) hS ?_
     simp only [pS]
     refine takeH (i := 6) (v := .int .i64 (k : Int)) rfl (by kernel_rfl) (by kernel_rfl) (by kernel_rfl) (fun _ _ _ h => h) (Or.inl ⟨by rfl, fun W hW => by go_simp⟩) hS ?_
     simp only [pS]
     refine takeH (i := 7) (v := .pointer (some ⟨gv, k * 13, none⟩)) rfl (by kernel_rfl) (by kernel_rfl) (by kernel_rfl) (fun _ _ _ h => h) (Or.inl ⟨by rfl, fun W hW => by go_simp⟩) hS ?_
     simp only [pS]
     refine takeH (i := 8) (v := .pointer (some ⟨gv, k * 13 + 3, none⟩)) rfl (by kernel_rfl) (by kernel_rfl) (by kernel_rfl) (fun _ _ _ h => h) (Or.inl ⟨by rfl, fun W hW => by go_simp⟩) hS ?_
     simp only [pS]
     refine takeH (i := 9) (v := .int .u64 a.par) rfl (by kernel_rfl) (by kernel_rfl) (by kernel_rfl) (fun _ _ _ h => h) (Or.inl ⟨by rfl, fun W hW => by obtain ⟨s0, s1⟩ := CE.out W hW; go_simp⟩) hS ?_
     simp only [pS]
     refine takeH (i := 10) (v := .agg #[.int .u64 a.id, .int .u64 a.par, .int .i64 0, .int .u64 0, .int .i64 0, .int .i64 0, .int .i64 0]) rfl (by kernel_rfl) (by kernel_rfl) (by kernel_rfl) (fun _ _ _ h => h) (Or.inl ⟨by rfl, fun W hW => by go_simp⟩) hS ?_
     simp only [pS]
     refine onlyH (i := 11) rfl (by kernel_rfl) (fun K hK => ?_)
     go_simp
     have hS1 : Below wr.heap.size wr (wr.drew.alloc (.cells (ndL zNd).toArray 38)) := hS.alloc hS.size _
     refine hK _ _ ⟨hS1, ?_⟩
     clear hK K
     refine onlyH (i := 12) rfl (by kernel_rfl) (fun K hK => ?_)
     refine step_stB (by rfl) 38 _ _ (by rfl) wr.heap.size (ndL zNd) (ndL ⟨a.id, a.par, 0, 0, 0, 0, 0⟩) 38 (Blk.new wr.drew (ndL zNd).toArray 38) (by rfl) (by rfl) rfl (by kernel_rfl) (ndL_one _) ?_
     intro w5 hB5 hu5
     have hS5 : Below wr.heap.size wr w5 := hS1.trans (hu5.below (by simp) (fun q hq e => by omega))
     refine hK _ _ ⟨hS5, ?_⟩
     clear hK K hS hS1 hu5
     simp only [Act.put]
     refine wpAnyH_done (by kernel_rfl) ?_ _
     have HS5 : Hid (Below wr.heap.size wr w5) := hS5
     have HB5 : Hid (Blk w5 wr.heap.size (ndL ⟨a.id, a.par, 0, 0, 0, 0, 0⟩).toArray 38) := hB5
     have RNG := RG.out w5 hS5
     obtain ⟨e0, e1, e2, e3, e4, e5, e6, e7⟩ := node_cells hB5
     have p5 := (CE.out w5 hS5).2
     obtain ⟨B, hBB⟩ : ∃ B, wr.heap.size = B := ⟨_, rfl⟩
     have HBB : Hid (wr.heap.size = B) := hBB
     rw [hBB] at HB5 e0 e1 e2 e3 e4 e5 e6 e7
     (try rw [hBB])
     clear hS5 hB5 hBB
     go_wp2_with (go_at_call 58; (with_reducible refine RNG.mono ?_); clear RNG; rintro e w6 ⟨b, c, rfl, HBC, hw6⟩; obtain rfl := hw6.symm; clear hw6)
     obtain ⟨wb, hwb⟩ : ∃ W, (w5.setCell ⟨B, 2, none⟩ (.int .i64 1)).setCell ⟨B, 1, none⟩ (.int .u64 0) = W := ⟨_, rfl⟩
     have HBK : Hid (Blk wb B (ndL (nd0 fin k)).toArray 38) := by rw [← hwb, ORG.out.born HP.out]; exact (n7_two HB5.out 1)
     have HWB : Hid (Below wr.heap.size wr wb) := by rw [← hwb]; exact (HS5.out.setCell (p := ⟨B, 2, none⟩) (Nat.le_of_eq HBB.out) _).setCell (p := ⟨B, 1, none⟩) (Nat.le_of_eq HBB.out) _
     (try rw [hwb])
     clear hwb e0 e1 e2 e3 e4 e5 e6 e7 p5 ORG
     have HBF := R18.out wb HWB.out
     obtain ⟨hF1, hOW, hBf, hnB, hbs⟩ := HBF
     rw [HBB.out] at hnB
     refine wp_region_held (S := fun W => Upd (fun q => q = f ∨ (Value.slice na k nc).ownBlock = some q) wb W) (by kernel_rfl) ?_
     change wpAnyH _ _ _ _ _ _ _ _ (World.drew _)
     have hS : Upd (fun q => q = f ∨ (Value.slice na k nc).ownBlock = some q) wb wb.drew := (Upd.refl _ _).drew
     refine takeH (i := 0) (v := .pointer (some ⟨f, 0, none⟩)) rfl (by kernel_rfl) (by kernel_rfl) (by kernel_rfl) (fun _ _ _ h => h) (Or.inl ⟨by rfl, fun W hW => by go_simp⟩) hS ?_
     simp only [pS]
     refine takeH (i := 1) (v := .pointer (some ⟨f, 0, none⟩)) rfl (by kernel_rfl) (by kernel_rfl) (by kernel_rfl) (fun _ _ _ h => h) (Or.inl ⟨by rfl, fun W hW => by go_simp⟩) hS ?_
     simp only [pS]
     refine takeH (i := 2) (v := .pointer (some ⟨f, 0, none⟩)) rfl (by kernel_rfl) (by kernel_rfl) (by kernel_rfl) (fun _ _ _ h => h) (Or.inl ⟨by rfl, fun W hW => by go_simp⟩) hS ?_
     simp only [pS]
     refine takeH (i := 3) (v := .pointer (some ⟨f, 1, none⟩)) rfl (by kernel_rfl) (by kernel_rfl) (by kernel_rfl) (fun _ _ _ h => h) (Or.inl ⟨by rfl, fun W hW => by go_simp⟩) hS ?_
     simp only [pS]
     refine takeH (i := 5) (v := .agg (ndL (nd0 fin k)).toArray) rfl (by kernel_rfl) (by kernel_rfl) (by kernel_rfl) (fun _ _ _ h => h) (yieldsIf_load_mid (by rfl) 38 _ rfl B 0 rfl _ _ (fun W hW => (fun j v hv => by rw [Nat.zero_add]; exact (HBK.out.upd hW hnB).cell j (by rw [List.getElem?_toArray]; exact hv))) Tryz.underlying38 rfl (by kernel_rfl)) hS ?_
     simp only [pS]
     have hF1a : (wb.drew.alloc (.cells (ndL (nd0 fin k)).toArray 38)).cell? ⟨f, 1, none⟩ = some (.slice na k nc) := (((Below.refl wb.heap.size wb).drew.alloc (Nat.le_refl _) _).cell (p := ⟨f, 1, none⟩) (World.block_lt_of_cell? wb _ hF1)).trans hF1
     refine twoQ (i := 4) (j := 6) rfl rfl (by kernel_rfl) (fun K hK => ?_) (fun K hK => ?_)
     ·have f1d : wb.drew.cell? ⟨f, 1, none⟩ = some (.slice na k nc) := hF1
      go_simp
      refine hK _ _ ⟨hS, ?_⟩
      clear hK K f1d
      (try simp only [pS])
      refine onlyH (i := 6) rfl (by kernel_rfl) (fun K hK => ?_)
      go_simp
      have hS6 : Upd (fun q => q = f ∨ (Value.slice na k nc).ownBlock = some q) wb (wb.drew.alloc (.cells (ndL (nd0 fin k)).toArray 38)) := hS.alloc _
      refine hK _ _ ⟨hS6, ?_⟩
      clear hK K
      refine onlyH (i := 7) rfl (by kernel_rfl) (fun K hK => ?_)
      refine step_appN wb.drew (by rfl) _ _ (by rfl) w2.heap.size (.slice na k nc) k (rgN fin k) (nd0 fin k) (by rfl) hOW (rgN_len fin k) (by rfl) (by omega) hbs ?_
      intro a1 c1 w7 o7 u7
      have hS7 : Upd (fun q => q = f ∨ (Value.slice na k nc).ownBlock = some q) wb w7 := hS.trans (u7.mono (fun q _ e => Or.inr e)) (fun _ _ h => h)
      refine hK _ _ ⟨hS7, ?_⟩
      clear hK K hS hS6
      (try simp only [pS])
      refine takeH (i := 8) (v := .pointer (some ⟨f, 0, none⟩)) rfl (by kernel_rfl) (by kernel_rfl) (by kernel_rfl) (fun _ _ _ h => h) (Or.inl ⟨by rfl, fun W hW => by go_simp⟩) hS7 ?_
      simp only [pS]
      refine takeH (i := 9) (v := .pointer (some ⟨f, 1, none⟩)) rfl (by kernel_rfl) (by kernel_rfl) (by kernel_rfl) (fun _ _ _ h => h) (Or.inl ⟨by rfl, fun W hW => by go_simp⟩) hS7 ?_
      simp only [pS]
      refine onlyH (i := 10) rfl (by kernel_rfl) (fun K hK => ?_)
      refine step_st1 (by rfl) _ _ _ (by rfl) f 1 (.slice a1 (k + 1) c1) (by rfl) (by rfl) rfl (hBf w7 u7) (by kernel_rfl) rfl ?_
      intro w8 hw8
      have hS8 : Upd (fun q => q = f ∨ (Value.slice na k nc).ownBlock = some q) wb w8 := by rw [hw8]; exact hS7.trans (setCell_updI _ _ _ _) (fun q _ e => Or.inl e)
      refine hK _ _ ⟨hS8, ?_⟩
      clear hK K hS7 hS8
      simp only [Act.put]
      refine wpAnyH_done (by kernel_rfl) ?_ _
      have HN8 := NX1.out wb a1 c1 w7 w8 HWB.out o7 u7 hw8
      clear hw8 o7 u7 hF1 hOW hBf hnB hbs
      go_wp2
      go_roundw
      case rel => exact ⟨k + 1, _, _, by go_num, by omega, HN8⟩
      case measure => simp [intOf]; omega
     ·go_simp
      have hS6 : Upd (fun q => q = f ∨ (Value.slice na k nc).ownBlock = some q) wb (wb.drew.alloc (.cells (ndL (nd0 fin k)).toArray 38)) := hS.alloc _
      refine hK _ _ ⟨hS6, ?_⟩
      clear hK K
      change wpAnyH _ _ _ _ _ _ _ _ (wb.drew.alloc (.cells (ndL (nd0 fin k)).toArray 38))
      obtain ⟨w6, hw6⟩ : ∃ W, wb.drew.alloc (.cells (ndL (nd0 fin k)).toArray 38) = W := ⟨_, rfl⟩
      rw [hw6] at hF1a hS6 ⊢
      refine onlyH (i := 4) rfl (by kernel_rfl) (fun K hK => ?_)
      go_simp
      refine hK _ _ ⟨hS6, ?_⟩
      clear hK K hF1a
      (try simp only [pS])
      rw [← hw6] at hS6 ⊢
      clear hw6
      refine onlyH (i := 7) rfl (by kernel_rfl) (fun K hK => ?_)
      refine step_appN wb.drew (by rfl) _ _ (by rfl) w2.heap.size (.slice na k nc) k (rgN fin k) (nd0 fin k) (by rfl) hOW (rgN_len fin k) (by rfl) (by omega) hbs ?_
      intro a1 c1 w7 o7 u7
      have hS7 : Upd (fun q => q = f ∨ (Value.slice na k nc).ownBlock = some q) wb w7 := hS.trans (u7.mono (fun q _ e => Or.inr e)) (fun _ _ h => h)
      refine hK _ _ ⟨hS7, ?_⟩
      clear hK K hS hS6
      (try simp only [pS])
      refine takeH (i := 8) (v := .pointer (some ⟨f, 0, none⟩)) rfl (by kernel_rfl) (by kernel_rfl) (by kernel_rfl) (fun _ _ _ h => h) (Or.inl ⟨by rfl, fun W hW => by go_simp⟩) hS7 ?_
      simp only [pS]
      refine takeH (i := 9) (v := .pointer (some ⟨f, 1, none⟩)) rfl (by kernel_rfl) (by kernel_rfl) (by kernel_rfl) (fun _ _ _ h => h) (Or.inl ⟨by rfl, fun W hW => by go_simp⟩) hS7 ?_
      simp only [pS]
      refine onlyH (i := 10) rfl (by kernel_rfl) (fun K hK => ?_)
      refine step_st1 (by rfl) _ _ _ (by rfl) f 1 (.slice a1 (k + 1) c1) (by rfl) (by rfl) rfl (hBf w7 u7) (by kernel_rfl) rfl ?_
      intro w8 hw8
      have hS8 : Upd (fun q => q = f ∨ (Value.slice na k nc).ownBlock = some q) wb w8 := by rw [hw8]; exact hS7.trans (setCell_updI _ _ _ _) (fun q _ e => Or.inl e)
      refine hK _ _ ⟨hS8, ?_⟩
      clear hK K hS7 hS8
      simp only [Act.put]
      refine wpAnyH_done (by kernel_rfl) ?_ _
      have HN8 := NX1.out wb a1 c1 w7 w8 HWB.out o7 u7 hw8
      clear hw8 o7 u7 hF1 hOW hBf hnB hbs
      go_wp2
      go_roundw
      case rel => exact ⟨k + 1, _, _, by go_num, by omega, HN8⟩
      case measure => simp [intOf]; omega
   have hp' : (a.par == 0) = false := by simpa using hp
   have HP : Hid (a.par ≠ 0) := hp
   clear hu hp
   by_cases hu : u < 0
   ··go_wp2
     refine wp_region_held (S := fun W => Below wr.heap.size wr W) (by kernel_rfl) ?_
     change wpAnyH _ _ _ _ _ _ _ _ (World.drew _)
     have hS : Below wr.heap.size wr wr.drew := ⟨rfl, rfl, rfl, Nat.le_refl _, fun _ _ => rfl⟩
     refine takeH (i := 0) (v := .slice (some ⟨gv, 0, none⟩) n vc) rfl (by kernel_rfl) (by kernel_rfl) (by kernel_rfl) (fun _ _ _ h => h) (Or.inl ⟨by rfl, fun W hW => by go_simp⟩) hS ?_
     simp only [pS]
     refine takeH (i := 1) (v := .int .i64 (k : Int)) rfl (by kernel_rfl) (by kernel_rfl) (by kernel_rfl) (fun _ _ _ h => h) (Or.inl ⟨by rfl, fun W hW => by go_simp⟩) hS ?_
     simp only [pS]
     refine takeH (i := 2) (v := .pointer (some ⟨gv, k * 13, none⟩)) rfl (by kernel_rfl) (by kernel_rfl) (by kernel_rfl) (fun _ _ _ h => h) (Or.inl ⟨by rfl, fun W hW => by go_simp⟩) hS ?_
     simp only [pS]
     refine takeH (i := 3) (v := .pointer (some ⟨gv, k * 13 + 2, none⟩)) rfl (by kernel_rfl) (by kernel_rfl) (by kernel_rfl) (fun _ _ _ h => h) (Or.inl ⟨by rfl, fun W hW => by go_simp⟩) hS ?_
     simp only [pS]
     refine takeH (i := 4) (v := .int .u64 a.id) rfl (by kernel_rfl) (by kernel_rfl) (by kernel_rfl) (fun _ _ _ h => h) (Or.inl ⟨by rfl, fun W hW => by obtain ⟨s0, s1⟩ := CE.out W hW; go_simp⟩) hS ?_
     simp only [pS]
     refine takeH (i := 5) (v := .slice (some ⟨gv, 0, none⟩) n vc) rfl (by kernel_rfl) (by kernel_rfl) (by kernel_rfl) (fun _ _ _ h => h) (Or.inl ⟨by rfl, fun W hW => by go_simp⟩) hS ?_
     simp only [pS]
     refine takeH (i := 6) (v := .int .i64 (k : Int)) rfl (by kernel_rfl) (by kernel_rfl) (by kernel_rfl) (fun _ _ _ h => h) (Or.inl ⟨by rfl, fun W hW => by go_simp⟩) hS ?_
     simp only [pS]
     refine takeH (i := 7) (v := .pointer (some ⟨gv, k * 13, none⟩)) rfl (by kernel_rfl) (by kernel_rfl) (by kernel_rfl) (fun _ _ _ h => h) (Or.inl ⟨by rfl, fun W hW => by go_simp⟩) hS ?_
     simp only [pS]
     refine takeH (i := 8) (v := .pointer (some ⟨gv, k * 13 + 3, none⟩)) rfl (by kernel_rfl) (by kernel_rfl) (by kernel_rfl) (fun _ _ _ h => h) (Or.inl ⟨by rfl, fun W hW => by go_simp⟩) hS ?_
     simp only [pS]
     refine takeH (i := 9) (v := .int .u64 a.par) rfl (by kernel_rfl) (by kernel_rfl) (by kernel_rfl) (fun _ _ _ h => h) (Or.inl ⟨by rfl, fun W hW => by obtain ⟨s0, s1⟩ := CE.out W hW; go_simp⟩) hS ?_
     simp only [pS]
     refine takeH (i := 10) (v := .agg #[.int .u64 a.id, .int .u64 a.par, .int .i64 0, .int .u64 0, .int .i64 0, .int .i64 0, .int .i64 0]) rfl (by kernel_rfl) (by kernel_rfl) (by kernel_rfl) (fun _ _ _ h => h) (Or.inl ⟨by rfl, fun W hW => by go_simp⟩) hS ?_
     simp only [pS]
     refine onlyH (i := 11) rfl (by kernel_rfl) (fun K hK => ?_)
     go_simp
     have hS1 : Below wr.heap.size wr (wr.drew.alloc (.cells (ndL zNd).toArray 38)) := hS.alloc hS.size _
     refine hK _ _ ⟨hS1, ?_⟩
     clear hK K
     refine onlyH (i := 12) rfl (by kernel_rfl) (fun K hK => ?_)
     refine step_stB (by rfl) 38 _ _ (by rfl) wr.heap.size (ndL zNd) (ndL ⟨a.id, a.par, 0, 0, 0, 0, 0⟩) 38 (Blk.new wr.drew (ndL zNd).toArray 38) (by rfl) (by rfl) rfl (by kernel_rfl) (ndL_one _) ?_
     intro w5 hB5 hu5
     have hS5 : Below wr.heap.size wr w5 := hS1.trans (hu5.below (by simp) (fun q hq e => by omega))
     refine hK _ _ ⟨hS5, ?_⟩
     clear hK K hS hS1 hu5
     simp only [Act.put]
     refine wpAnyH_done (by kernel_rfl) ?_ _
     have HS5 : Hid (Below wr.heap.size wr w5) := hS5
     have HB5 : Hid (Blk w5 wr.heap.size (ndL ⟨a.id, a.par, 0, 0, 0, 0, 0⟩).toArray 38) := hB5
     have RNG := RG.out w5 hS5
     obtain ⟨e0, e1, e2, e3, e4, e5, e6, e7⟩ := node_cells hB5
     have p5 := (CE.out w5 hS5).2
     obtain ⟨B, hBB⟩ : ∃ B, wr.heap.size = B := ⟨_, rfl⟩
     have HBB : Hid (wr.heap.size = B) := hBB
     rw [hBB] at HB5 e0 e1 e2 e3 e4 e5 e6 e7
     (try rw [hBB])
     clear hS5 hB5 hBB
     go_wp2_with (first | (go_at_call 58; (with_reducible refine RNG.mono ?_); clear RNG; rintro e w6 ⟨b, c, rfl, HBC, hw6⟩; obtain rfl := hw6.symm; clear hw6) | (go_at_call 59; (with_reducible refine (NMD.out _ HS5.out).mono ?_); clear NMD; rintro e w6 ⟨rfl, hw6⟩; obtain rfl := hw6.symm; clear hw6))
     obtain ⟨wb, hwb⟩ : ∃ W, (w5.setCell ⟨B, 2, none⟩ (.int .i64 2)).setCell ⟨B, 1, none⟩ (.int .u64 0) = W := ⟨_, rfl⟩
     have HBK : Hid (Blk wb B (ndL (nd0 fin k)).toArray 38) := by rw [← hwb, ORG.out.orphan HP.out hu]; exact (n7_two HB5.out 2)
     have HWB : Hid (Below wr.heap.size wr wb) := by rw [← hwb]; exact (HS5.out.setCell (p := ⟨B, 2, none⟩) (Nat.le_of_eq HBB.out) _).setCell (p := ⟨B, 1, none⟩) (Nat.le_of_eq HBB.out) _
     (try rw [hwb])
     clear hwb e0 e1 e2 e3 e4 e5 e6 e7 p5 ORG
     have HBF := R18.out wb HWB.out
     obtain ⟨hF1, hOW, hBf, hnB, hbs⟩ := HBF
     rw [HBB.out] at hnB
     refine wp_region_held (S := fun W => Upd (fun q => q = f ∨ (Value.slice na k nc).ownBlock = some q) wb W) (by kernel_rfl) ?_
     change wpAnyH _ _ _ _ _ _ _ _ (World.drew _)
     have hS : Upd (fun q => q = f ∨ (Value.slice na k nc).ownBlock = some q) wb wb.drew := (Upd.refl _ _).drew
     refine takeH (i := 0) (v := .pointer (some ⟨f, 0, none⟩)) rfl (by kernel_rfl) (by kernel_rfl) (by kernel_rfl) (fun _ _ _ h => h) (Or.inl ⟨by rfl, fun W hW => by go_simp⟩) hS ?_
     simp only [pS]
     refine takeH (i := 1) (v := .pointer (some ⟨f, 0, none⟩)) rfl (by kernel_rfl) (by kernel_rfl) (by kernel_rfl) (fun _ _ _ h => h) (Or.inl ⟨by rfl, fun W hW => by go_simp⟩) hS ?_
     simp only [pS]
     refine takeH (i := 2) (v := .pointer (some ⟨f, 0, none⟩)) rfl (by kernel_rfl) (by kernel_rfl) (by kernel_rfl) (fun _ _ _ h => h) (Or.inl ⟨by rfl, fun W hW => by go_simp⟩) hS ?_
     simp only [pS]
     refine takeH (i := 3) (v := .pointer (some ⟨f, 1, none⟩)) rfl (by kernel_rfl) (by kernel_rfl) (by kernel_rfl) (fun _ _ _ h => h) (Or.inl ⟨by rfl, fun W hW => by go_simp⟩) hS ?_
     simp only [pS]
     refine takeH (i := 5) (v := .agg (ndL (nd0 fin k)).toArray) rfl (by kernel_rfl) (by kernel_rfl) (by kernel_rfl) (fun _ _ _ h => h) (yieldsIf_load_mid (by rfl) 38 _ rfl B 0 rfl _ _ (fun W hW => (fun j v hv => by rw [Nat.zero_add]; exact (HBK.out.upd hW hnB).cell j (by rw [List.getElem?_toArray]; exact hv))) Tryz.underlying38 rfl (by kernel_rfl)) hS ?_
     simp only [pS]
     have hF1a : (wb.drew.alloc (.cells (ndL (nd0 fin k)).toArray 38)).cell? ⟨f, 1, none⟩ = some (.slice na k nc) := (((Below.refl wb.heap.size wb).drew.alloc (Nat.le_refl _) _).cell (p := ⟨f, 1, none⟩) (World.block_lt_of_cell? wb _ hF1)).trans hF1
     refine twoQ (i := 4) (j := 6) rfl rfl (by kernel_rfl) (fun K hK => ?_) (fun K hK => ?_)
     ·have f1d : wb.drew.cell? ⟨f, 1, none⟩ = some (.slice na k nc) := hF1
      go_simp
      refine hK _ _ ⟨hS, ?_⟩
      clear hK K f1d
      (try simp only [pS])
      refine onlyH (i := 6) rfl (by kernel_rfl) (fun K hK => ?_)
      go_simp
      have hS6 : Upd (fun q => q = f ∨ (Value.slice na k nc).ownBlock = some q) wb (wb.drew.alloc (.cells (ndL (nd0 fin k)).toArray 38)) := hS.alloc _
      refine hK _ _ ⟨hS6, ?_⟩
      clear hK K
      refine onlyH (i := 7) rfl (by kernel_rfl) (fun K hK => ?_)
      refine step_appN wb.drew (by rfl) _ _ (by rfl) w2.heap.size (.slice na k nc) k (rgN fin k) (nd0 fin k) (by rfl) hOW (rgN_len fin k) (by rfl) (by omega) hbs ?_
      intro a1 c1 w7 o7 u7
      have hS7 : Upd (fun q => q = f ∨ (Value.slice na k nc).ownBlock = some q) wb w7 := hS.trans (u7.mono (fun q _ e => Or.inr e)) (fun _ _ h => h)
      refine hK _ _ ⟨hS7, ?_⟩
      clear hK K hS hS6
      (try simp only [pS])
      refine takeH (i := 8) (v := .pointer (some ⟨f, 0, none⟩)) rfl (by kernel_rfl) (by kernel_rfl) (by kernel_rfl) (fun _ _ _ h => h) (Or.inl ⟨by rfl, fun W hW => by go_simp⟩) hS7 ?_
      simp only [pS]
      refine takeH (i := 9) (v := .pointer (some ⟨f, 1, none⟩)) rfl (by kernel_rfl) (by kernel_rfl) (by kernel_rfl) (fun _ _ _ h => h) (Or.inl ⟨by rfl, fun W hW => by go_simp⟩) hS7 ?_
      simp only [pS]
      refine onlyH (i := 10) rfl (by kernel_rfl) (fun K hK => ?_)
      refine step_st1 (by rfl) _ _ _ (by rfl) f 1 (.slice a1 (k + 1) c1) (by rfl) (by rfl) rfl (hBf w7 u7) (by kernel_rfl) rfl ?_
      intro w8 hw8
      have hS8 : Upd (fun q => q = f ∨ (Value.slice na k nc).ownBlock = some q) wb w8 := by rw [hw8]; exact hS7.trans (setCell_updI _ _ _ _) (fun q _ e => Or.inl e)
      refine hK _ _ ⟨hS8, ?_⟩
      clear hK K hS7 hS8
      simp only [Act.put]
      refine wpAnyH_done (by kernel_rfl) ?_ _
      have HN8 := NX1.out wb a1 c1 w7 w8 HWB.out o7 u7 hw8
      clear hw8 o7 u7 hF1 hOW hBf hnB hbs
      go_wp2
      go_roundw
      case rel => exact ⟨k + 1, _, _, by go_num, by omega, HN8⟩
      case measure => simp [intOf]; omega
     ·go_simp
      have hS6 : Upd (fun q => q = f ∨ (Value.slice na k nc).ownBlock = some q) wb (wb.drew.alloc (.cells (ndL (nd0 fin k)).toArray 38)) := hS.alloc _
      refine hK _ _ ⟨hS6, ?_⟩
      clear hK K
      change wpAnyH _ _ _ _ _ _ _ _ (wb.drew.alloc (.cells (ndL (nd0 fin k)).toArray 38))
      obtain ⟨w6, hw6⟩ : ∃ W, wb.drew.alloc (.cells (ndL (nd0 fin k)).toArray 38) = W := ⟨_, rfl⟩
      rw [hw6] at hF1a hS6 ⊢
      refine onlyH (i := 4) rfl (by kernel_rfl) (fun K hK => ?_)
      go_simp
      refine hK _ _ ⟨hS6, ?_⟩
      clear hK K hF1a
      (try simp only [pS])
      rw [← hw6] at hS6 ⊢
      clear hw6
      refine onlyH (i := 7) rfl (by kernel_rfl) (fun K hK => ?_)
      refine step_appN wb.drew (by rfl) _ _ (by rfl) w2.heap.size (.slice na k nc) k (rgN fin k) (nd0 fin k) (by rfl) hOW (rgN_len fin k) (by rfl) (by omega) hbs ?_
      intro a1 c1 w7 o7 u7
      have hS7 : Upd (fun q => q = f ∨ (Value.slice na k nc).ownBlock = some q) wb w7 := hS.trans (u7.mono (fun q _ e => Or.inr e)) (fun _ _ h => h)
      refine hK _ _ ⟨hS7, ?_⟩
      clear hK K hS hS6
      (try simp only [pS])
      refine takeH (i := 8) (v := .pointer (some ⟨f, 0, none⟩)) rfl (by kernel_rfl) (by kernel_rfl) (by kernel_rfl) (fun _ _ _ h => h) (Or.inl ⟨by rfl, fun W hW => by go_simp⟩) hS7 ?_
      simp only [pS]
      refine takeH (i := 9) (v := .pointer (some ⟨f, 1, none⟩)) rfl (by kernel_rfl) (by kernel_rfl) (by kernel_rfl) (fun _ _ _ h => h) (Or.inl ⟨by rfl, fun W hW => by go_simp⟩) hS7 ?_
      simp only [pS]
      refine onlyH (i := 10) rfl (by kernel_rfl) (fun K hK => ?_)
      refine step_st1 (by rfl) _ _ _ (by rfl) f 1 (.slice a1 (k + 1) c1) (by rfl) (by rfl) rfl (hBf w7 u7) (by kernel_rfl) rfl ?_
      intro w8 hw8
      have hS8 : Upd (fun q => q = f ∨ (Value.slice na k nc).ownBlock = some q) wb w8 := by rw [hw8]; exact hS7.trans (setCell_updI _ _ _ _) (fun q _ e => Or.inl e)
      refine hK _ _ ⟨hS8, ?_⟩
      clear hK K hS7 hS8
      simp only [Act.put]
      refine wpAnyH_done (by kernel_rfl) ?_ _
      have HN8 := NX1.out wb a1 c1 w7 w8 HWB.out o7 u7 hw8
      clear hw8 o7 u7 hF1 hOW hBf hnB hbs
      go_wp2
      go_roundw
      case rel => exact ⟨k + 1, _, _, by go_num, by omega, HN8⟩
      case measure => simp [intOf]; omega
   have hu : 0 ≤ u := by omega
   have hu' : ¬ u < 0 := by omega
   by_cases hl : LeastOwn (nmY Y) n k
   ·rw [← HYL.out] at hl
    ·go_wp2
     refine wp_region_held (S := fun W => Below wr.heap.size wr W) (by kernel_rfl) ?_
     change wpAnyH _ _ _ _ _ _ _ _ (World.drew _)
     have hS : Below wr.heap.size wr wr.drew := ⟨rfl, rfl, rfl, Nat.le_refl _, fun _ _ => rfl⟩
     refine takeH (i := 0) (v := .slice (some ⟨gv, 0, none⟩) n vc) rfl (by kernel_rfl) (by kernel_rfl) (by kernel_rfl) (fun _ _ _ h => h) (Or.inl ⟨by rfl, fun W hW => by go_simp⟩) hS ?_
     simp only [pS]
     refine takeH (i := 1) (v := .int .i64 (k : Int)) rfl (by kernel_rfl) (by kernel_rfl) (by kernel_rfl) (fun _ _ _ h => h) (Or.inl ⟨by rfl, fun W hW => by go_simp⟩) hS ?_
     simp only [pS]
     refine takeH (i := 2) (v := .pointer (some ⟨gv, k * 13, none⟩)) rfl (by kernel_rfl) (by kernel_rfl) (by kernel_rfl) (fun _ _ _ h => h) (Or.inl ⟨by rfl, fun W hW => by go_simp⟩) hS ?_
     simp only [pS]
     refine takeH (i := 3) (v := .pointer (some ⟨gv, k * 13 + 2, none⟩)) rfl (by kernel_rfl) (by kernel_rfl) (by kernel_rfl) (fun _ _ _ h => h) (Or.inl ⟨by rfl, fun W hW => by go_simp⟩) hS ?_
     simp only [pS]
     refine takeH (i := 4) (v := .int .u64 a.id) rfl (by kernel_rfl) (by kernel_rfl) (by kernel_rfl) (fun _ _ _ h => h) (Or.inl ⟨by rfl, fun W hW => by obtain ⟨s0, s1⟩ := CE.out W hW; go_simp⟩) hS ?_
     simp only [pS]
     refine takeH (i := 5) (v := .slice (some ⟨gv, 0, none⟩) n vc) rfl (by kernel_rfl) (by kernel_rfl) (by kernel_rfl) (fun _ _ _ h => h) (Or.inl ⟨by rfl, fun W hW => by go_simp⟩) hS ?_
     simp only [pS]
     refine takeH (i := 6) (v := .int .i64 (k : Int)) rfl (by kernel_rfl) (by kernel_rfl) (by kernel_rfl) (fun _ _ _ h => h) (Or.inl ⟨by rfl, fun W hW => by go_simp⟩) hS ?_
     simp only [pS]
     refine takeH (i := 7) (v := .pointer (some ⟨gv, k * 13, none⟩)) rfl (by kernel_rfl) (by kernel_rfl) (by kernel_rfl) (fun _ _ _ h => h) (Or.inl ⟨by rfl, fun W hW => by go_simp⟩) hS ?_
     simp only [pS]
     refine takeH (i := 8) (v := .pointer (some ⟨gv, k * 13 + 3, none⟩)) rfl (by kernel_rfl) (by kernel_rfl) (by kernel_rfl) (fun _ _ _ h => h) (Or.inl ⟨by rfl, fun W hW => by go_simp⟩) hS ?_
     simp only [pS]
     refine takeH (i := 9) (v := .int .u64 a.par) rfl (by kernel_rfl) (by kernel_rfl) (by kernel_rfl) (fun _ _ _ h => h) (Or.inl ⟨by rfl, fun W hW => by obtain ⟨s0, s1⟩ := CE.out W hW; go_simp⟩) hS ?_
     simp only [pS]
     refine takeH (i := 10) (v := .agg #[.int .u64 a.id, .int .u64 a.par, .int .i64 0, .int .u64 0, .int .i64 0, .int .i64 0, .int .i64 0]) rfl (by kernel_rfl) (by kernel_rfl) (by kernel_rfl) (fun _ _ _ h => h) (Or.inl ⟨by rfl, fun W hW => by go_simp⟩) hS ?_
     simp only [pS]
     refine onlyH (i := 11) rfl (by kernel_rfl) (fun K hK => ?_)
     go_simp
     have hS1 : Below wr.heap.size wr (wr.drew.alloc (.cells (ndL zNd).toArray 38)) := hS.alloc hS.size _
     refine hK _ _ ⟨hS1, ?_⟩
     clear hK K
     refine onlyH (i := 12) rfl (by kernel_rfl) (fun K hK => ?_)
     refine step_stB (by rfl) 38 _ _ (by rfl) wr.heap.size (ndL zNd) (ndL ⟨a.id, a.par, 0, 0, 0, 0, 0⟩) 38 (Blk.new wr.drew (ndL zNd).toArray 38) (by rfl) (by rfl) rfl (by kernel_rfl) (ndL_one _) ?_
     intro w5 hB5 hu5
     have hS5 : Below wr.heap.size wr w5 := hS1.trans (hu5.below (by simp) (fun q hq e => by omega))
     refine hK _ _ ⟨hS5, ?_⟩
     clear hK K hS hS1 hu5
     simp only [Act.put]
     refine wpAnyH_done (by kernel_rfl) ?_ _
     have HS5 : Hid (Below wr.heap.size wr w5) := hS5
     have HB5 : Hid (Blk w5 wr.heap.size (ndL ⟨a.id, a.par, 0, 0, 0, 0, 0⟩).toArray 38) := hB5
     have RNG := RG.out w5 hS5
     obtain ⟨e0, e1, e2, e3, e4, e5, e6, e7⟩ := node_cells hB5
     have p5 := (CE.out w5 hS5).2
     obtain ⟨B, hBB⟩ : ∃ B, wr.heap.size = B := ⟨_, rfl⟩
     have HBB : Hid (wr.heap.size = B) := hBB
     rw [hBB] at HB5 e0 e1 e2 e3 e4 e5 e6 e7
     (try rw [hBB])
     clear hS5 hB5 hBB
     go_wp2_with (first | (go_at_call 58; (with_reducible refine RNG.mono ?_); clear RNG; rintro e w6 ⟨b, c, rfl, HBC, hw6⟩; obtain rfl := hw6.symm; clear hw6; obtain ⟨rfl, rfl⟩ := and_two (HBC.out.2 (HYL.out ▸ hl))) | (go_at_call 59; (with_reducible refine (NMD.out _ HS5.out).mono ?_); clear NMD; rintro e w6 ⟨rfl, hw6⟩; obtain rfl := hw6.symm; clear hw6))
     obtain ⟨wb, hwb⟩ : ∃ W, (w5.setCell ⟨B, 2, none⟩ (.int .i64 3)).setCell ⟨B, 1, none⟩ (.int .u64 0) = W := ⟨_, rfl⟩
     have HBK : Hid (Blk wb B (ndL (nd0 fin k)).toArray 38) := by rw [← hwb, ORG.out.looped HP.out hu hl]; exact (n7_two HB5.out 3)
     have HWB : Hid (Below wr.heap.size wr wb) := by rw [← hwb]; exact (HS5.out.setCell (p := ⟨B, 2, none⟩) (Nat.le_of_eq HBB.out) _).setCell (p := ⟨B, 1, none⟩) (Nat.le_of_eq HBB.out) _
     (try rw [hwb])
     clear hwb e0 e1 e2 e3 e4 e5 e6 e7 p5 ORG
     have HBF := R18.out wb HWB.out
     obtain ⟨hF1, hOW, hBf, hnB, hbs⟩ := HBF
     rw [HBB.out] at hnB
     refine wp_region_held (S := fun W => Upd (fun q => q = f ∨ (Value.slice na k nc).ownBlock = some q) wb W) (by kernel_rfl) ?_
     change wpAnyH _ _ _ _ _ _ _ _ (World.drew _)
     have hS : Upd (fun q => q = f ∨ (Value.slice na k nc).ownBlock = some q) wb wb.drew := (Upd.refl _ _).drew
     refine takeH (i := 0) (v := .pointer (some ⟨f, 0, none⟩)) rfl (by kernel_rfl) (by kernel_rfl) (by kernel_rfl) (fun _ _ _ h => h) (Or.inl ⟨by rfl, fun W hW => by go_simp⟩) hS ?_
     simp only [pS]
     refine takeH (i := 1) (v := .pointer (some ⟨f, 0, none⟩)) rfl (by kernel_rfl) (by kernel_rfl) (by kernel_rfl) (fun _ _ _ h => h) (Or.inl ⟨by rfl, fun W hW => by go_simp⟩) hS ?_
     simp only [pS]
     refine takeH (i := 2) (v := .pointer (some ⟨f, 0, none⟩)) rfl (by kernel_rfl) (by kernel_rfl) (by kernel_rfl) (fun _ _ _ h => h) (Or.inl ⟨by rfl, fun W hW => by go_simp⟩) hS ?_
     simp only [pS]
     refine takeH (i := 3) (v := .pointer (some ⟨f, 1, none⟩)) rfl (by kernel_rfl) (by kernel_rfl) (by kernel_rfl) (fun _ _ _ h => h) (Or.inl ⟨by rfl, fun W hW => by go_simp⟩) hS ?_
     simp only [pS]
     refine takeH (i := 5) (v := .agg (ndL (nd0 fin k)).toArray) rfl (by kernel_rfl) (by kernel_rfl) (by kernel_rfl) (fun _ _ _ h => h) (yieldsIf_load_mid (by rfl) 38 _ rfl B 0 rfl _ _ (fun W hW => (fun j v hv => by rw [Nat.zero_add]; exact (HBK.out.upd hW hnB).cell j (by rw [List.getElem?_toArray]; exact hv))) Tryz.underlying38 rfl (by kernel_rfl)) hS ?_
     simp only [pS]
     have hF1a : (wb.drew.alloc (.cells (ndL (nd0 fin k)).toArray 38)).cell? ⟨f, 1, none⟩ = some (.slice na k nc) := (((Below.refl wb.heap.size wb).drew.alloc (Nat.le_refl _) _).cell (p := ⟨f, 1, none⟩) (World.block_lt_of_cell? wb _ hF1)).trans hF1
     refine twoQ (i := 4) (j := 6) rfl rfl (by kernel_rfl) (fun K hK => ?_) (fun K hK => ?_)
     ·have f1d : wb.drew.cell? ⟨f, 1, none⟩ = some (.slice na k nc) := hF1
      go_simp
      refine hK _ _ ⟨hS, ?_⟩
      clear hK K f1d
      (try simp only [pS])
      refine onlyH (i := 6) rfl (by kernel_rfl) (fun K hK => ?_)
      go_simp
      have hS6 : Upd (fun q => q = f ∨ (Value.slice na k nc).ownBlock = some q) wb (wb.drew.alloc (.cells (ndL (nd0 fin k)).toArray 38)) := hS.alloc _
      refine hK _ _ ⟨hS6, ?_⟩
      clear hK K
      refine onlyH (i := 7) rfl (by kernel_rfl) (fun K hK => ?_)
      refine step_appN wb.drew (by rfl) _ _ (by rfl) w2.heap.size (.slice na k nc) k (rgN fin k) (nd0 fin k) (by rfl) hOW (rgN_len fin k) (by rfl) (by omega) hbs ?_
      intro a1 c1 w7 o7 u7
      have hS7 : Upd (fun q => q = f ∨ (Value.slice na k nc).ownBlock = some q) wb w7 := hS.trans (u7.mono (fun q _ e => Or.inr e)) (fun _ _ h => h)
      refine hK _ _ ⟨hS7, ?_⟩
      clear hK K hS hS6
      (try simp only [pS])
      refine takeH (i := 8) (v := .pointer (some ⟨f, 0, none⟩)) rfl (by kernel_rfl) (by kernel_rfl) (by kernel_rfl) (fun _ _ _ h => h) (Or.inl ⟨by rfl, fun W hW => by go_simp⟩) hS7 ?_
      simp only [pS]
      refine takeH (i := 9) (v := .pointer (some ⟨f, 1, none⟩)) rfl (by kernel_rfl) (by kernel_rfl) (by kernel_rfl) (fun _ _ _ h => h) (Or.inl ⟨by rfl, fun W hW => by go_simp⟩) hS7 ?_
      simp only [pS]
      refine onlyH (i := 10) rfl (by kernel_rfl) (fun K hK => ?_)
      refine step_st1 (by rfl) _ _ _ (by rfl) f 1 (.slice a1 (k + 1) c1) (by rfl) (by rfl) rfl (hBf w7 u7) (by kernel_rfl) rfl ?_
      intro w8 hw8
      have hS8 : Upd (fun q => q = f ∨ (Value.slice na k nc).ownBlock = some q) wb w8 := by rw [hw8]; exact hS7.trans (setCell_updI _ _ _ _) (fun q _ e => Or.inl e)
      refine hK _ _ ⟨hS8, ?_⟩
      clear hK K hS7 hS8
      simp only [Act.put]
      refine wpAnyH_done (by kernel_rfl) ?_ _
      have HN8 := NX1.out wb a1 c1 w7 w8 HWB.out o7 u7 hw8
      clear hw8 o7 u7 hF1 hOW hBf hnB hbs
      go_wp2
      go_roundw
      case rel => exact ⟨k + 1, _, _, by go_num, by omega, HN8⟩
      case measure => simp [intOf]; omega
     ·go_simp
      have hS6 : Upd (fun q => q = f ∨ (Value.slice na k nc).ownBlock = some q) wb (wb.drew.alloc (.cells (ndL (nd0 fin k)).toArray 38)) := hS.alloc _
      refine hK _ _ ⟨hS6, ?_⟩
      clear hK K
      change wpAnyH _ _ _ _ _ _ _ _ (wb.drew.alloc (.cells (ndL (nd0 fin k)).toArray 38))
      obtain ⟨w6, hw6⟩ : ∃ W, wb.drew.alloc (.cells (ndL (nd0 fin k)).toArray 38) = W := ⟨_, rfl⟩
      rw [hw6] at hF1a hS6 ⊢
      refine onlyH (i := 4) rfl (by kernel_rfl) (fun K hK => ?_)
      go_simp
      refine hK _ _ ⟨hS6, ?_⟩
      clear hK K hF1a
      (try simp only [pS])
      rw [← hw6] at hS6 ⊢
      clear hw6
      refine onlyH (i := 7) rfl (by kernel_rfl) (fun K hK => ?_)
      refine step_appN wb.drew (by rfl) _ _ (by rfl) w2.heap.size (.slice na k nc) k (rgN fin k) (nd0 fin k) (by rfl) hOW (rgN_len fin k) (by rfl) (by omega) hbs ?_
      intro a1 c1 w7 o7 u7
      have hS7 : Upd (fun q => q = f ∨ (Value.slice na k nc).ownBlock = some q) wb w7 := hS.trans (u7.mono (fun q _ e => Or.inr e)) (fun _ _ h => h)
      refine hK _ _ ⟨hS7, ?_⟩
      clear hK K hS hS6
      (try simp only [pS])
      refine takeH (i := 8) (v := .pointer (some ⟨f, 0, none⟩)) rfl (by kernel_rfl) (by kernel_rfl) (by kernel_rfl) (fun _ _ _ h => h) (Or.inl ⟨by rfl, fun W hW => by go_simp⟩) hS7 ?_
      simp only [pS]
      refine takeH (i := 9) (v := .pointer (some ⟨f, 1, none⟩)) rfl (by kernel_rfl) (by kernel_rfl) (by kernel_rfl) (fun _ _ _ h => h) (Or.inl ⟨by rfl, fun W hW => by go_simp⟩) hS7 ?_
      simp only [pS]
      refine onlyH (i := 10) rfl (by kernel_rfl) (fun K hK => ?_)
      refine step_st1 (by rfl) _ _ _ (by rfl) f 1 (.slice a1 (k + 1) c1) (by rfl) (by rfl) rfl (hBf w7 u7) (by kernel_rfl) rfl ?_
      intro w8 hw8
      have hS8 : Upd (fun q => q = f ∨ (Value.slice na k nc).ownBlock = some q) wb w8 := by rw [hw8]; exact hS7.trans (setCell_updI _ _ _ _) (fun q _ e => Or.inl e)
      refine hK _ _ ⟨hS8, ?_⟩
      clear hK K hS7 hS8
      simp only [Act.put]
      refine wpAnyH_done (by kernel_rfl) ?_ _
      have HN8 := NX1.out wb a1 c1 w7 w8 HWB.out o7 u7 hw8
      clear hw8 o7 u7 hF1 hOW hBf hnB hbs
      go_wp2
      go_roundw
      case rel => exact ⟨k + 1, _, _, by go_num, by omega, HN8⟩
      case measure => simp [intOf]; omega
   ·rw [← HYL.out] at hl
    ·go_wp2
     refine wp_region_held (S := fun W => Below wr.heap.size wr W) (by kernel_rfl) ?_
     change wpAnyH _ _ _ _ _ _ _ _ (World.drew _)
     have hS : Below wr.heap.size wr wr.drew := ⟨rfl, rfl, rfl, Nat.le_refl _, fun _ _ => rfl⟩
     refine takeH (i := 0) (v := .slice (some ⟨gv, 0, none⟩) n vc) rfl (by kernel_rfl) (by kernel_rfl) (by kernel_rfl) (fun _ _ _ h => h) (Or.inl ⟨by rfl, fun W hW => by go_simp⟩) hS ?_
     simp only [pS]
     refine takeH (i := 1) (v := .int .i64 (k : Int)) rfl (by kernel_rfl) (by kernel_rfl) (by kernel_rfl) (fun _ _ _ h => h) (Or.inl ⟨by rfl, fun W hW => by go_simp⟩) hS ?_
     simp only [pS]
     refine takeH (i := 2) (v := .pointer (some ⟨gv, k * 13, none⟩)) rfl (by kernel_rfl) (by kernel_rfl) (by kernel_rfl) (fun _ _ _ h => h) (Or.inl ⟨by rfl, fun W hW => by go_simp⟩) hS ?_
     simp only [pS]
     refine takeH (i := 3) (v := .pointer (some ⟨gv, k * 13 + 2, none⟩)) rfl (by kernel_rfl) (by kernel_rfl) (by kernel_rfl) (fun _ _ _ h => h) (Or.inl ⟨by rfl, fun W hW => by go_simp⟩) hS ?_
     simp only [pS]
     refine takeH (i := 4) (v := .int .u64 a.id) rfl (by kernel_rfl) (by kernel_rfl) (by kernel_rfl) (fun _ _ _ h => h) (Or.inl ⟨by rfl, fun W hW => by obtain ⟨s0, s1⟩ := CE.out W hW; go_simp⟩) hS ?_
     simp only [pS]
     refine takeH (i := 5) (v := .slice (some ⟨gv, 0, none⟩) n vc) rfl (by kernel_rfl) (by kernel_rfl) (by kernel_rfl) (fun _ _ _ h => h) (Or.inl ⟨by rfl, fun W hW => by go_simp⟩) hS ?_
     simp only [pS]
     refine takeH (i := 6) (v := .int .i64 (k : Int)) rfl (by kernel_rfl) (by kernel_rfl) (by kernel_rfl) (fun _ _ _ h => h) (Or.inl ⟨by rfl, fun W hW => by go_simp⟩) hS ?_
     simp only [pS]
     refine takeH (i := 7) (v := .pointer (some ⟨gv, k * 13, none⟩)) rfl (by kernel_rfl) (by kernel_rfl) (by kernel_rfl) (fun _ _ _ h => h) (Or.inl ⟨by rfl, fun W hW => by go_simp⟩) hS ?_
     simp only [pS]
     refine takeH (i := 8) (v := .pointer (some ⟨gv, k * 13 + 3, none⟩)) rfl (by kernel_rfl) (by kernel_rfl) (by kernel_rfl) (fun _ _ _ h => h) (Or.inl ⟨by rfl, fun W hW => by go_simp⟩) hS ?_
     simp only [pS]
     refine takeH (i := 9) (v := .int .u64 a.par) rfl (by kernel_rfl) (by kernel_rfl) (by kernel_rfl) (fun _ _ _ h => h) (Or.inl ⟨by rfl, fun W hW => by obtain ⟨s0, s1⟩ := CE.out W hW; go_simp⟩) hS ?_
     simp only [pS]
     refine takeH (i := 10) (v := .agg #[.int .u64 a.id, .int .u64 a.par, .int .i64 0, .int .u64 0, .int .i64 0, .int .i64 0, .int .i64 0]) rfl (by kernel_rfl) (by kernel_rfl) (by kernel_rfl) (fun _ _ _ h => h) (Or.inl ⟨by rfl, fun W hW => by go_simp⟩) hS ?_
     simp only [pS]
     refine onlyH (i := 11) rfl (by kernel_rfl) (fun K hK => ?_)
     go_simp
     have hS1 : Below wr.heap.size wr (wr.drew.alloc (.cells (ndL zNd).toArray 38)) := hS.alloc hS.size _
     refine hK _ _ ⟨hS1, ?_⟩
     clear hK K
     refine onlyH (i := 12) rfl (by kernel_rfl) (fun K hK => ?_)
     refine step_stB (by rfl) 38 _ _ (by rfl) wr.heap.size (ndL zNd) (ndL ⟨a.id, a.par, 0, 0, 0, 0, 0⟩) 38 (Blk.new wr.drew (ndL zNd).toArray 38) (by rfl) (by rfl) rfl (by kernel_rfl) (ndL_one _) ?_
     intro w5 hB5 hu5
     have hS5 : Below wr.heap.size wr w5 := hS1.trans (hu5.below (by simp) (fun q hq e => by omega))
     refine hK _ _ ⟨hS5, ?_⟩
     clear hK K hS hS1 hu5
     simp only [Act.put]
     refine wpAnyH_done (by kernel_rfl) ?_ _
     have HS5 : Hid (Below wr.heap.size wr w5) := hS5
     have HB5 : Hid (Blk w5 wr.heap.size (ndL ⟨a.id, a.par, 0, 0, 0, 0, 0⟩).toArray 38) := hB5
     have RNG := RG.out w5 hS5
     obtain ⟨e0, e1, e2, e3, e4, e5, e6, e7⟩ := node_cells hB5
     have p5 := (CE.out w5 hS5).2
     obtain ⟨B, hBB⟩ : ∃ B, wr.heap.size = B := ⟨_, rfl⟩
     have HBB : Hid (wr.heap.size = B) := hBB
     rw [hBB] at HB5 e0 e1 e2 e3 e4 e5 e6 e7
     (try rw [hBB])
     clear hS5 hB5 hBB
     go_wp2_with (first | (go_at_call 58; (with_reducible refine RNG.mono ?_); clear RNG; rintro e w6 ⟨b, c, rfl, HBC, hw6⟩; obtain rfl := hw6.symm; clear hw6; rcases two_cases (fun h => hl (HYL.out.symm ▸ HBC.out.1 h)) with rfl | ⟨rfl, rfl⟩) | (go_at_call 59; (with_reducible refine (NMD.out _ HS5.out).mono ?_); clear NMD; rintro e w6 ⟨rfl, hw6⟩; obtain rfl := hw6.symm; clear hw6))
     all_goals
      obtain ⟨wb, hwb⟩ : ∃ W, w5 = W := ⟨_, rfl⟩
      have HBK : Hid (Blk wb B (ndL (nd0 fin k)).toArray 38) := by rw [← hwb, ORG.out.inner HP.out hu hl]; exact HB5.out
      have HWB : Hid (Below wr.heap.size wr wb) := by rw [← hwb]; exact HS5.out
      (try rw [hwb])
      clear hwb e0 e1 e2 e3 e4 e5 e6 e7 p5 ORG
      have HBF := R18.out wb HWB.out
      obtain ⟨hF1, hOW, hBf, hnB, hbs⟩ := HBF
      rw [HBB.out] at hnB
      refine wp_region_held (S := fun W => Upd (fun q => q = f ∨ (Value.slice na k nc).ownBlock = some q) wb W) (by kernel_rfl) ?_
      change wpAnyH _ _ _ _ _ _ _ _ (World.drew _)
      have hS : Upd (fun q => q = f ∨ (Value.slice na k nc).ownBlock = some q) wb wb.drew := (Upd.refl _ _).drew
      refine takeH (i := 0) (v := .pointer (some ⟨f, 0, none⟩)) rfl (by kernel_rfl) (by kernel_rfl) (by kernel_rfl) (fun _ _ _ h => h) (Or.inl ⟨by rfl, fun W hW => by go_simp⟩) hS ?_
      simp only [pS]
      refine takeH (i := 1) (v := .pointer (some ⟨f, 0, none⟩)) rfl (by kernel_rfl) (by kernel_rfl) (by kernel_rfl) (fun _ _ _ h => h) (Or.inl ⟨by rfl, fun W hW => by go_simp⟩) hS ?_
      simp only [pS]
      refine takeH (i := 2) (v := .pointer (some ⟨f, 0, none⟩)) rfl (by kernel_rfl) (by kernel_rfl) (by kernel_rfl) (fun _ _ _ h => h) (Or.inl ⟨by rfl, fun W hW => by go_simp⟩) hS ?_
      simp only [pS]
      refine takeH (i := 3) (v := .pointer (some ⟨f, 1, none⟩)) rfl (by kernel_rfl) (by kernel_rfl) (by kernel_rfl) (fun _ _ _ h => h) (Or.inl ⟨by rfl, fun W hW => by go_simp⟩) hS ?_
      simp only [pS]
      refine takeH (i := 5) (v := .agg (ndL (nd0 fin k)).toArray) rfl (by kernel_rfl) (by kernel_rfl) (by kernel_rfl) (fun _ _ _ h => h) (yieldsIf_load_mid (by rfl) 38 _ rfl B 0 rfl _ _ (fun W hW => (fun j v hv => by rw [Nat.zero_add]; exact (HBK.out.upd hW hnB).cell j (by rw [List.getElem?_toArray]; exact hv))) Tryz.underlying38 rfl (by kernel_rfl)) hS ?_
      simp only [pS]
      have hF1a : (wb.drew.alloc (.cells (ndL (nd0 fin k)).toArray 38)).cell? ⟨f, 1, none⟩ = some (.slice na k nc) := (((Below.refl wb.heap.size wb).drew.alloc (Nat.le_refl _) _).cell (p := ⟨f, 1, none⟩) (World.block_lt_of_cell? wb _ hF1)).trans hF1
      refine twoQ (i := 4) (j := 6) rfl rfl (by kernel_rfl) (fun K hK => ?_) (fun K hK => ?_)
      ·have f1d : wb.drew.cell? ⟨f, 1, none⟩ = some (.slice na k nc) := hF1
       go_simp
       refine hK _ _ ⟨hS, ?_⟩
       clear hK K f1d
       (try simp only [pS])
       refine onlyH (i := 6) rfl (by kernel_rfl) (fun K hK => ?_)
       go_simp
       have hS6 : Upd (fun q => q = f ∨ (Value.slice na k nc).ownBlock = some q) wb (wb.drew.alloc (.cells (ndL (nd0 fin k)).toArray 38)) := hS.alloc _
       refine hK _ _ ⟨hS6, ?_⟩
       clear hK K
       refine onlyH (i := 7) rfl (by kernel_rfl) (fun K hK => ?_)
       refine step_appN wb.drew (by rfl) _ _ (by rfl) w2.heap.size (.slice na k nc) k (rgN fin k) (nd0 fin k) (by rfl) hOW (rgN_len fin k) (by rfl) (by omega) hbs ?_
       intro a1 c1 w7 o7 u7
       have hS7 : Upd (fun q => q = f ∨ (Value.slice na k nc).ownBlock = some q) wb w7 := hS.trans (u7.mono (fun q _ e => Or.inr e)) (fun _ _ h => h)
       refine hK _ _ ⟨hS7, ?_⟩
       clear hK K hS hS6
       (try simp only [pS])
       refine takeH (i := 8) (v := .pointer (some ⟨f, 0, none⟩)) rfl (by kernel_rfl) (by kernel_rfl) (by kernel_rfl) (fun _ _ _ h => h) (Or.inl ⟨by rfl, fun W hW => by go_simp⟩) hS7 ?_
       simp only [pS]
       refine takeH (i := 9) (v := .pointer (some ⟨f, 1, none⟩)) rfl (by kernel_rfl) (by kernel_rfl) (by kernel_rfl) (fun _ _ _ h => h) (Or.inl ⟨by rfl, fun W hW => by go_simp⟩) hS7 ?_
       simp only [pS]
       refine onlyH (i := 10) rfl (by kernel_rfl) (fun K hK => ?_)
       refine step_st1 (by rfl) _ _ _ (by rfl) f 1 (.slice a1 (k + 1) c1) (by rfl) (by rfl) rfl (hBf w7 u7) (by kernel_rfl) rfl ?_
       intro w8 hw8
       have hS8 : Upd (fun q => q = f ∨ (Value.slice na k nc).ownBlock = some q) wb w8 := by rw [hw8]; exact hS7.trans (setCell_updI _ _ _ _) (fun q _ e => Or.inl e)
       refine hK _ _ ⟨hS8, ?_⟩
       clear hK K hS7 hS8
       simp only [Act.put]
       refine wpAnyH_done (by kernel_rfl) ?_ _
       have HN8 := NX1.out wb a1 c1 w7 w8 HWB.out o7 u7 hw8
       clear hw8 o7 u7 hF1 hOW hBf hnB hbs
       go_wp2
       go_roundw
       case rel => exact ⟨k + 1, _, _, by go_num, by omega, HN8⟩
       case measure => simp [intOf]; omega
      ·go_simp
       have hS6 : Upd (fun q => q = f ∨ (Value.slice na k nc).ownBlock = some q) wb (wb.drew.alloc (.cells (ndL (nd0 fin k)).toArray 38)) := hS.alloc _
       refine hK _ _ ⟨hS6, ?_⟩
       clear hK K
       change wpAnyH _ _ _ _ _ _ _ _ (wb.drew.alloc (.cells (ndL (nd0 fin k)).toArray 38))
       obtain ⟨w6, hw6⟩ : ∃ W, wb.drew.alloc (.cells (ndL (nd0 fin k)).toArray 38) = W := ⟨_, rfl⟩
       rw [hw6] at hF1a hS6 ⊢
       refine onlyH (i := 4) rfl (by kernel_rfl) (fun K hK => ?_)
       go_simp
       refine hK _ _ ⟨hS6, ?_⟩
       clear hK K hF1a
       (try simp only [pS])
       rw [← hw6] at hS6 ⊢
       clear hw6
       refine onlyH (i := 7) rfl (by kernel_rfl) (fun K hK => ?_)
       refine step_appN wb.drew (by rfl) _ _ (by rfl) w2.heap.size (.slice na k nc) k (rgN fin k) (nd0 fin k) (by rfl) hOW (rgN_len fin k) (by rfl) (by omega) hbs ?_
       intro a1 c1 w7 o7 u7
       have hS7 : Upd (fun q => q = f ∨ (Value.slice na k nc).ownBlock = some q) wb w7 := hS.trans (u7.mono (fun q _ e => Or.inr e)) (fun _ _ h => h)
       refine hK _ _ ⟨hS7, ?_⟩
       clear hK K hS hS6
       (try simp only [pS])
       refine takeH (i := 8) (v := .pointer (some ⟨f, 0, none⟩)) rfl (by kernel_rfl) (by kernel_rfl) (by kernel_rfl) (fun _ _ _ h => h) (Or.inl ⟨by rfl, fun W hW => by go_simp⟩) hS7 ?_
       simp only [pS]
       refine takeH (i := 9) (v := .pointer (some ⟨f, 1, none⟩)) rfl (by kernel_rfl) (by kernel_rfl) (by kernel_rfl) (fun _ _ _ h => h) (Or.inl ⟨by rfl, fun W hW => by go_simp⟩) hS7 ?_
       simp only [pS]
       refine onlyH (i := 10) rfl (by kernel_rfl) (fun K hK => ?_)
       refine step_st1 (by rfl) _ _ _ (by rfl) f 1 (.slice a1 (k + 1) c1) (by rfl) (by rfl) rfl (hBf w7 u7) (by kernel_rfl) rfl ?_
       intro w8 hw8
       have hS8 : Upd (fun q => q = f ∨ (Value.slice na k nc).ownBlock = some q) wb w8 := by rw [hw8]; exact hS7.trans (setCell_updI _ _ _ _) (fun q _ e => Or.inl e)
       refine hK _ _ ⟨hS8, ?_⟩
       clear hK K hS7 hS8
       simp only [Act.put]
       refine wpAnyH_done (by kernel_rfl) ?_ _
       have HN8 := NX1.out wb a1 c1 w7 w8 HWB.out o7 u7 hw8
       clear hw8 o7 u7 hF1 hOW hBf hnB hbs
       go_wp2
       go_roundw
       case rel => exact ⟨k + 1, _, _, by go_num, by omega, HN8⟩
       case measure => simp [intOf]; omega
  ·obtain rfl : k = n := by omega
   have hlt' : ¬ (k : Int) < (k : Int) := by omega
   obtain ⟨nb, cn, hne, hnb, hRN⟩ := RwG.of_owns (L := rgN fin k) HI.out.own (rgN_len fin k) hnp
   injection hne with hne1 hne2 hne3
   subst hne1
   have hne4 := hne3.symm
   subst hne4
   clear hne2
   rename World => wA
   have HNBL : Hid (w2.heap.size ≤ nb) := hnb
   have HFA : Hid (RFo wA w.heap.size f nb cn (.slice (some ⟨gv, 0, none⟩) k vc) (.slice none 0 0) (rgN fin k) []) := ⟨by rw [rgN_len]; exact HI.out.head, hRN, World.ownsRow_nil _ _ _ _, by rw [rgN_len]; exact hn1, HW2.out.2.2.2.2, Nat.le_trans HBW2.out.size hnb⟩
   have HUA : Hid (Upd (fun q => q = f) w2 wA) := HI.out.upd
   have H20 : Hid (RwG ndL 7 38 wA nb cn (midN Y fin k 0) ∧ Upd (fun q => q = nb) wA wA) := ⟨by rw [midN_zero]; exact hRN, Upd.refl _ _⟩
   have HSC : Hid (∀ W, Upd (fun q => q = f ∨ q = nb) w2 W → RwG sqL 13 102 W gv vc L) := fun W hW => HRV.out.upd hW (fun e => by
    have := HGV.out
    have := HNBL.out
    have := hfs.out
    omega)
   clear hRN HI hnb HOR
   go_wp2
   go_loopw [11] (fun z wq => ∃ (i : Nat), z = .int .i64 i ∧ i ≤ k ∧ Hid (RwG ndL 7 38 wq nb cn (midN Y fin k i) ∧ Upd (fun q => q = nb) wA wq)) (fun z _ => k - (intOf z).toNat)
   case atStart => exact ⟨0, rfl, by omega, H20⟩
   case round =>
    clear H20
    obtain ⟨i, rfl, hi, HI⟩ := hrel
    by_cases hlt2 : i < k
    ·have hlt2' : (i : Int) < (k : Int) := by omega
     obtain ⟨hiL, hiY, hYi⟩ := HYK.out i hlt2
     obtain ⟨a, ha⟩ : ∃ a, L[i].1 = a := ⟨_, rfl⟩
     have hiM : Hid (i < (midN Y fin k i).length) := by show i < _; rw [midN_len]; exact hlt2
     have CE : Hid (∀ W, Upd (fun q => q = nb) wr W → W.cell? ⟨f, 1, none⟩ = some (.slice (some ⟨nb, 0, none⟩) k cn) ∧ W.cell? ⟨gv, i * 13 + 9, none⟩ = some (.int .i64 a.start) ∧ W.cell? ⟨gv, i * 13 + 10, none⟩ = some (.int .i64 a.fin)) := fun W hW => by
      have hu : Upd (fun q => q = nb) wA W := HI.out.2.trans hW (fun _ _ h => h)
      have h1 := (HFA.out.head.upd hu HFA.out.ne.1).cell 1 rfl
      rw [rgN_len] at h1
      have h2 := HSC.out W ((HUA.out.mono (fun q _ e => Or.inl e)).trans hu (fun q _ e => Or.inr e))
      have h3 := h2.cell sqL_len i hiL 9 (u := .int .i64 L[i].1.start) rfl
      have h4 := h2.cell sqL_len i hiL 10 (u := .int .i64 L[i].1.fin) rfl
      rw [ha] at h3 h4
      exact ⟨h1, h3, h4⟩
     have RD : Hid (RwG ndL 7 38 wr.drew nb cn (midN Y fin k i)) := HI.out.1.below ⟨rfl, rfl, rfl, Nat.le_refl _, fun _ _ => rfl⟩
     have NX2 : Hid (∀ w9, RwG ndL 7 38 w9 nb cn ((midN Y fin k i).set i { (midN Y fin k i)[i]'hiM.out with fr := a.start, til := a.fin }) → Upd (fun q => q = nb) wr w9 → Hid (RwG ndL 7 38 w9 nb cn (midN Y fin k (i + 1)) ∧ Upd (fun q => q = nb) wA w9)) := fun w9 h1 h2 => by
      refine ⟨?_, HI.out.2.trans h2 (fun _ _ h => h)⟩
      rw [midN_get, if_neg (by omega)] at h1
      have e : ({ nd0 fin i with fr := a.start, til := a.fin } : Nod) = iniF Y fin i := by
       unfold iniF nd0
       rw [spAt_is hiY, hYi, ha]
      rw [e, midN_set Y fin k i hlt2] at h1
      exact h1
     clear hiL hiY hYi ha
     go_wp2
     refine wp_region_held (S := fun W => Upd (fun q => q = nb) wr W) (by kernel_rfl) ?_
     change wpAnyH _ _ _ _ _ _ _ _ (World.drew _)
     have hS : Upd (fun q => q = nb) wr wr.drew := (Upd.refl _ _).drew
     refine takeH (i := 0) (v := .pointer (some ⟨f, 0, none⟩)) rfl (by kernel_rfl) (by kernel_rfl) (by kernel_rfl) (fun _ _ _ h => h) (Or.inl ⟨by rfl, fun W hW => by go_simp⟩) hS ?_
     simp only [pS]
     refine takeH (i := 1) (v := .pointer (some ⟨f, 0, none⟩)) rfl (by kernel_rfl) (by kernel_rfl) (by kernel_rfl) (fun _ _ _ h => h) (Or.inl ⟨by rfl, fun W hW => by go_simp⟩) hS ?_
     simp only [pS]
     refine takeH (i := 2) (v := .pointer (some ⟨f, 1, none⟩)) rfl (by kernel_rfl) (by kernel_rfl) (by kernel_rfl) (fun _ _ _ h => h) (Or.inl ⟨by rfl, fun W hW => by go_simp⟩) hS ?_
     simp only [pS]
     refine takeH (i := 3) (v := .slice (some ⟨nb, 0, none⟩) k cn) rfl (by kernel_rfl) (by kernel_rfl) (by kernel_rfl) (fun _ _ _ h => h) (Or.inl ⟨by rfl, fun W hW => by obtain ⟨s0, s1, s2⟩ := CE.out W hW; go_simp⟩) hS ?_
     simp only [pS]
     refine takeH (i := 4) (v := .int .i64 (i : Int)) rfl (by kernel_rfl) (by kernel_rfl) (by kernel_rfl) (fun _ _ _ h => h) (Or.inl ⟨by rfl, fun W hW => by go_simp⟩) hS ?_
     simp only [pS]
     refine takeH (i := 5) (v := .slice (some ⟨gv, 0, none⟩) k vc) rfl (by kernel_rfl) (by kernel_rfl) (by kernel_rfl) (fun _ _ _ h => h) (Or.inl ⟨by rfl, fun W hW => by go_simp⟩) hS ?_
     simp only [pS]
     refine takeH (i := 6) (v := .int .i64 (i : Int)) rfl (by kernel_rfl) (by kernel_rfl) (by kernel_rfl) (fun _ _ _ h => h) (Or.inl ⟨by rfl, fun W hW => by go_simp⟩) hS ?_
     simp only [pS]
     refine takeH (i := 7) (v := .pointer (some ⟨gv, i * 13, none⟩)) rfl (by kernel_rfl) (by kernel_rfl) (by kernel_rfl) (fun _ _ _ h => h) (Or.inl ⟨by rfl, fun W hW => by go_simp⟩) hS ?_
     simp only [pS]
     refine takeH (i := 8) (v := .pointer (some ⟨gv, i * 13 + 9, none⟩)) rfl (by kernel_rfl) (by kernel_rfl) (by kernel_rfl) (fun _ _ _ h => h) (Or.inl ⟨by rfl, fun W hW => by go_simp⟩) hS ?_
     simp only [pS]
     refine takeH (i := 9) (v := .int .i64 a.start) rfl (by kernel_rfl) (by kernel_rfl) (by kernel_rfl) (fun _ _ _ h => h) (Or.inl ⟨by rfl, fun W hW => by obtain ⟨s0, s1, s2⟩ := CE.out W hW; go_simp⟩) hS ?_
     simp only [pS]
     refine takeH (i := 10) (v := .slice (some ⟨gv, 0, none⟩) k vc) rfl (by kernel_rfl) (by kernel_rfl) (by kernel_rfl) (fun _ _ _ h => h) (Or.inl ⟨by rfl, fun W hW => by go_simp⟩) hS ?_
     simp only [pS]
     refine takeH (i := 11) (v := .int .i64 (i : Int)) rfl (by kernel_rfl) (by kernel_rfl) (by kernel_rfl) (fun _ _ _ h => h) (Or.inl ⟨by rfl, fun W hW => by go_simp⟩) hS ?_
     simp only [pS]
     refine takeH (i := 12) (v := .pointer (some ⟨gv, i * 13, none⟩)) rfl (by kernel_rfl) (by kernel_rfl) (by kernel_rfl) (fun _ _ _ h => h) (Or.inl ⟨by rfl, fun W hW => by go_simp⟩) hS ?_
     simp only [pS]
     refine takeH (i := 13) (v := .pointer (some ⟨gv, i * 13 + 10, none⟩)) rfl (by kernel_rfl) (by kernel_rfl) (by kernel_rfl) (fun _ _ _ h => h) (Or.inl ⟨by rfl, fun W hW => by go_simp⟩) hS ?_
     simp only [pS]
     refine takeH (i := 14) (v := .int .i64 a.fin) rfl (by kernel_rfl) (by kernel_rfl) (by kernel_rfl) (fun _ _ _ h => h) (Or.inl ⟨by rfl, fun W hW => by obtain ⟨s0, s1, s2⟩ := CE.out W hW; go_simp⟩) hS ?_
     simp only [pS]
     refine takeH (i := 15) (v := .agg #[.int .i64 a.start, .int .i64 a.fin]) rfl (by kernel_rfl) (by kernel_rfl) (by kernel_rfl) (fun _ _ _ h => h) (Or.inl ⟨by rfl, fun W hW => by go_simp⟩) hS ?_
     simp only [pS]
     refine takeH (i := 16) (v := .pointer (some ⟨nb, i * 7, none⟩)) rfl (by kernel_rfl) (by kernel_rfl) (by kernel_rfl) (fun _ _ _ h => h) (Or.inl ⟨by rfl, fun W hW => by go_simp⟩) hS ?_
     simp only [pS]
     refine takeH (i := 17) (v := .pointer (some ⟨nb, i * 7 + 5, none⟩)) rfl (by kernel_rfl) (by kernel_rfl) (by kernel_rfl) (fun _ _ _ h => h) (Or.inl ⟨by rfl, fun W hW => by go_simp⟩) hS ?_
     simp only [pS]
     refine onlyH (i := 18) rfl (by kernel_rfl) (fun K hK => ?_)
     refine step_stI (by rfl) _ _ (by rfl) nb cn i _ _ _ RD.out hiM.out (by rfl) (by rfl) ?_
     intro w9 hr9 hu9
     have hS9 : Upd (fun q => q = nb) wr w9 := hS.trans hu9 (fun _ _ h => h)
     refine hK _ _ ⟨hS9, ?_⟩
     clear hK K hu9 hS
     simp only [Act.put]
     refine wpAnyH_done (by kernel_rfl) ?_ _
     have HN9 := NX2.out w9 hr9 hS9
     clear hr9 hS9
     go_wp2
     go_roundw
     case rel => exact ⟨i + 1, by go_num, by omega, HN9⟩
     case measure => simp [intOf]; omega
    ·obtain rfl : i = k := by omega
     have hlt2' : ¬ (i : Int) < (i : Int) := by omega
     have HRB : Hid (RwG ndL 7 38 wr nb cn (midN Y fin i i)) := HI.out.1
     have HUB : Hid (Upd (fun q => q = nb) wA wr) := HI.out.2
     rename World => wB
     have HFB : Hid (RFo wB w.heap.size f nb cn (.slice (some ⟨gv, 0, none⟩) i vc) (.slice none 0 0) (midN Y fin i i) []) := HFA.out.nodes HUB.out HRB.out (by rw [midN_len, rgN_len])
     have HU2 : Hid (Upd (fun q => q = f ∨ q = nb) w2 wB) := (HUA.out.mono (fun q _ e => Or.inl e)).trans HUB.out (fun q _ e => Or.inr e)
     obtain ⟨cN, hcN⟩ : ∃ cN, cutN C (nmOf (zs Y)) = cN := ⟨_, rfl⟩
     have HCN : Hid (cutN C (nmOf (zs Y)) = cN) := hcN
     have HCL : Hid (cN.length = i) := by show cN.length = i; rw [← hcN, HFO.out.denv.nml, HYL.out]
     have HMS : Hid (StV i fin (iniF Y fin) (fun _ => False) (midN Y fin i i)) := midN_st Y fin i
     have HMG : Hid (∀ q (h : q < i), ndAt (midN Y fin i i) (q : Int) = iniF Y fin q) := fun q h => by
      have h' : q < (midN Y fin i i).length := by rw [midN_len]; exact h
      rw [ndAt_is h', midN_get, if_pos h]
     clear HI HFA HUA HUB HRB hcN HMS
     go_wp2
     go_loopw [12, 13] (fun z12 z13 wq => ∃ (q m : Nat) (la : Option Addr) (lc : Nat), z12 = .slice la m lc ∧ z13 = .int .i64 q ∧ q ≤ i ∧ m ≤ q ∧ Hid ((kidsF cN q (-1)).length = m ∧ wq.ownsRow wB.heap.size 3 1 (.slice la m lc) m ((kidsF cN q (-1)).flatMap iL) ∧ Below wB.heap.size wB wq)) (fun _ z13 _ => i - (intOf z13).toNat)
     case atStart => exact ⟨0, 0, none, 0, rfl, rfl, by omega, by omega, rfl, World.ownsRow_nil _ _ _ _, Below.refl _ _⟩
     case round =>
      obtain ⟨q, m, la, lc, rfl, rfl, hq, hmq, HL⟩ := hrel
      have HFR : Hid (RFo wr w.heap.size f nb cn (.slice (some ⟨gv, 0, none⟩) i vc) (.slice none 0 0) (midN Y fin i i) []) := HFB.out.below HL.out.2.2
      by_cases hlt3 : q < i
      ·have hlt3' : (q : Int) < (i : Int) := by omega
       have f1 := HFR.out.head.cell 1 rfl
       rw [midN_len] at f1
       have hqM : q < (midN Y fin i i).length := by rw [midN_len]; exact hlt3
       have c2 := HFR.out.row.cell ndL_len q hqM 2 (u := .int .i64 (fin q).org) (by rw [midN_get, if_pos hlt3]; rfl)
       have hqC : q < cN.length := by rw [HCL.out]; exact hlt3
       have HRO := HFO.out.root_of q (by rw [HYL.out]; exact hlt3)
       rw [HCN.out, getD_nm hqC] at HRO
       obtain ⟨og, hog⟩ : ∃ og, (fin q).org = og := ⟨_, rfl⟩
       rw [hog] at c2 HRO
       have KS := kidsF_succ cN q (-1) hqC
       have hz : Hid (wB.heap.size ≤ wr.heap.size) := HL.out.2.2.size
       by_cases ho : og = 0
       ·have ho' : (og != 0) = false := by simp [ho]
        have hnc : ¬ cN[q] = -1 := fun e => absurd ho (HRO.2 e)
        rw [if_neg hnc] at KS
        have FN : Hid ((kidsF cN (q + 1) (-1)).length = m ∧ wr.ownsRow wB.heap.size 3 1 (.slice la m lc) m ((kidsF cN (q + 1) (-1)).flatMap iL) ∧ Below wB.heap.size wB wr) := by rw [KS]; exact HL.out
        clear KS HRO hnc ho hog hqM hqC
        go_wp2
        go_roundw
        case rel => exact ⟨q + 1, m, la, lc, rfl, by go_num, by omega, by omega, FN⟩
        case measure => simp [intOf]; omega
       ·have ho' : (og != 0) = true := by simpa using ho
        have hyc : cN[q] = -1 := HRO.1 ho
        rw [if_pos hyc] at KS
        have NX3 : Hid (∀ (g5 c5 : Nat) (w10 : World), wB.heap.size ≤ g5 → RwG iL 1 3 w10 g5 c5 (kidsF cN q (-1) ++ [(q : Int)]) → Upd (fun j => (Value.slice la m lc).ownBlock = some j) wr w10 → Hid ((kidsF cN (q + 1) (-1)).length = m + 1 ∧ w10.ownsRow wB.heap.size 3 1 (.slice (some ⟨g5, 0, none⟩) (m + 1) c5) (m + 1) ((kidsF cN (q + 1) (-1)).flatMap iL) ∧ Below wB.heap.size wB w10)) := fun g5 c5 w10 h1 h2 h3 => by
         have hl : (kidsF cN q (-1) ++ [(q : Int)]).length = m + 1 := by rw [List.length_append, HL.out.1]; rfl
         refine ⟨by rw [KS]; exact hl, ?_, HL.out.2.2.trans (h3.below hz.out (fun j hj e => by have := (owns_blk HL.out.2.1 e).1; omega))⟩
         have := h2.owns iL_len h1
         rw [hl] at this
         rw [KS]
         exact this
        clear KS HRO hyc ho hog hqM hqC
        go_wp2_with (at_builtin; refine wpList_appI wr rfl _ _ rfl wB.heap.size (.slice la m lc) m (kidsF cN q (-1)) (q : Int) _ rfl rfl HL.out.2.1 HL.out.1 rfl (by omega) hz.out ?_; intro g5 c5 w10 hg5 hr5 hu5 hm5; have HL10 := NX3.out g5 c5 w10 hg5 hr5 hu5; clear hr5 hu5 hm5 hg5)
        go_wp2
        go_roundw
        case rel => exact ⟨q + 1, m + 1, _, c5, rfl, by go_num, by omega, by omega, HL10⟩
        case measure => simp [intOf]; omega
      ·obtain rfl : q = i := by omega
       have hlt3' : ¬ (q : Int) < (q : Int) := by omega
       have HFR2 : Hid (RFo wr w.heap.size f nb cn (.slice (some ⟨gv, 0, none⟩) q vc) (.slice none 0 0) (midN Y fin q q) []) := HFR.out
       have HLC : Hid ((kidsF cN q (-1)).length = m ∧ wr.ownsRow wB.heap.size 3 1 (.slice la m lc) m ((kidsF cN q (-1)).flatMap iL) ∧ Below wB.heap.size wB wr) := HL.out
       have f1 := HFR.out.head.cell 1 rfl
       rw [midN_len] at f1
       rename World => wC
       have ORD : Hid (Calls Tryz.prog 60 #[.pointer (some ⟨f, 0, none⟩), .slice la m lc] wC (OrdP (midN Y fin q q) (kidsF cN q (-1)) m wC)) := rOrd_any f nb cn (midN Y fin q q) la m lc (kidsF cN q (-1)) wC (fun _ => HFR2.out.fnd) (own_ints HLC.out.2.1) (fun x hx => by rw [midN_len]; exact kidsF_mem hx) (by omega)
       have HRT : Hid (∀ y ∈ R, ∃ c : Nat, y = (c : Int) ∧ c < q ∧ cN.getD c (-1) = -1) := fun y hy => by
        have := HFO.out.fo.roots.1.mem_iff.2 hy
        rw [HCN.out, HYL.out] at this
        obtain ⟨c, e, h1, h2⟩ := kidsF_iff.1 this
        exact ⟨c, e, h1, h2⟩
       have HKM : Hid (∀ w4 v M, OrdI wC w4 (midN Y fin q q) (kidsF cN q (-1)) m v M → M = R) := fun w4 v M h => by
        have hp : (kidsF cN q (-1)).Perm M := by
         have := h.perm
         rw [List.take_of_length_le (by rw [HLC.out.1]; exact Nat.le_refl _)] at this
         exact this
        have hR1 := HFO.out.fo.roots
        rw [HCN.out, HYL.out] at hR1
        have hmem : ∀ y ∈ M, y ∈ R := fun y hy => hR1.1.mem_iff.1 (hp.mem_iff.2 hy)
        refine sort_one (fin := fin) (hp.symm.trans hR1.1) (fun a ha b hb e => ?_) ?_ hR1.2
        ·obtain ⟨c, rfl, hc, _⟩ := HRT.out a (hmem a ha)
         obtain ⟨d, rfl, hd, _⟩ := HRT.out b (hmem b hb)
         have := HFO.out.idInjR (i := c) (j := d) (by rw [HYL.out]; exact hc) (by rw [HYL.out]; exact hd) (by simpa using e)
         rw [this]
        ·refine List.Pairwise.imp_of_mem ?_ h.sort
         intro a b ha hb hab
         obtain ⟨c, rfl, hc, hc2⟩ := HRT.out a (hmem a ha)
         obtain ⟨d, rfl, hd, hd2⟩ := HRT.out b (hmem b hb)
         rw [HMG.out c hc, HMG.out d hd] at hab
         simp only [Int.toNat_natCast]
         rw [← HCN.out] at hc2 hd2
         exact fun hh => hab ((HFO.out.rootL (by rw [HYL.out]; exact hd) (by rw [HYL.out]; exact hc) hd2 hc2).2 hh)
       clear HL HFR
       go_wp2_with (go_at_call 60; (with_reducible refine ORD.out.mono ?_); clear ORD; rintro e w4 ⟨ao, c4, M, rfl, HO⟩; have HMK : Hid (M = R) := HKM.out _ _ _ HO.out)
       have HML : Hid (R.length = m) := by have h1 := HO.out.len; rw [HMK.out] at h1; exact h1
       have HB4 : Hid (Below wC.heap.size wC w4) := HO.out.bel
       have HF4 : Hid (RFo w4 w.heap.size f nb cn (.slice (some ⟨gv, 0, none⟩) q vc) (.slice none 0 0) (midN Y fin q q) []) := HFR2.out.below HB4.out
       have HOW : Hid (w4.ownsRow wC.heap.size 3 1 (.slice ao m c4) m (R.flatMap iL)) := by have h1 := HO.out.own; rw [HMK.out] at h1; exact h1
       have HU4 : Hid (Upd (fun q => q = f ∨ q = nb) w2 w4) := (HU2.out.trans (Upd.ofBelow (S := fun _ => False) HLC.out.2.2 (fun k h1 h2 => by omega)) (fun _ _ h => h.elim)).trans (Upd.ofBelow (S := fun _ => False) HB4.out (fun k h1 h2 => by omega)) (fun _ _ h => h.elim)
       have HFL : Hid (f < wC.heap.size ∧ nb < wC.heap.size) := ⟨HFR2.out.head.lt, HFR2.out.row.lt⟩
       obtain ⟨T, hT⟩ : ∃ T : Nat → List Nat, T = fun c => preN (knK K) 1000 (knK K c) := ⟨_, rfl⟩
       have HALL : Hid (DeepN (knK K) 1001 (rtN R) ∧ ((rtN R).flatMap (fun c => c :: T c)).Nodup ∧ (∀ x, x ∈ (rtN R).flatMap (fun c => c :: T c) ↔ x < q) ∧ ((rtN R).flatMap (fun c => c :: T c)).length = q) := by
        have := HFO.out.all
        rw [HYL.out] at this
        rw [hT]
        exact this
       have HDW : Hid (∀ c, c ∈ rtN R → c < q → DownC w.heap.size f nb cn (.slice (some ⟨gv, 0, none⟩) q vc) q fin (iniF Y fin) (T c) c) := fun c hc hcq => by
        have E := HFO.out.denv
        rw [HYL.out] at E
        rw [hT]
        exact down_all _ f nb cn _ q _ K fin (iniF Y fin) E 1000 c hcq (HALL.out.1 c hc)
       have L40 : Hid (L4I w.heap.size f nb cn (.slice (some ⟨gv, 0, none⟩) q vc) q fin (iniF Y fin) T R w4 w4 0 (.slice none 0 0) (midN Y fin q q)) := ⟨by simpa using HF4.out, (midN_st Y fin q).cast (fun i hi => by simp), Upd.refl _ _, fun q e => by simp [Value.ownBlock] at e⟩
       have HZ4 : Hid (w.heap.size ≤ w4.heap.size) := Nat.le_trans HBW2.out.size HU4.out.size
       clear HKM HO HMK HFR2 HF4 HLC hT f1 HFB HMG
       go_wp2
       go_loopw [14] (fun z wq => ∃ (t : Nat) (ov2 : Value) (V2 : List Nod), z = .int .i64 t ∧ t ≤ m ∧ Hid (L4I w.heap.size f nb cn (.slice (some ⟨gv, 0, none⟩) q vc) q fin (iniF Y fin) T R w4 wq t ov2 V2)) (fun z _ => m - (intOf z).toNat)
       case atStart => exact ⟨0, _, _, rfl, by omega, L40⟩
       case round =>
        clear L40
        obtain ⟨t, ov2, V2, rfl, htm, HL4⟩ := hrel
        by_cases hlt4 : t < m
        ·have hlt4' : (t : Int) < (m : Int) := by omega
         have htR : t < R.length := by rw [HML.out]; exact hlt4
         obtain ⟨ri, hri, hrq, hrc⟩ := HRT.out _ (List.getElem_mem htR)
         obtain ⟨gm, hao, hgc⟩ := own_at HOW.out (by omega)
         subst hao
         have hgb := (owns_blk HOW.out (g := gm) rfl).1
         have hgl : gm < w4.heap.size := by obtain ⟨_, cur, hb⟩ := owns_blk HOW.out (g := gm) rfl; exact hb.lt
         have HGM : Hid (∀ W, Upd (fun q => q = nb) wr W → W.cell? ⟨gm, t, none⟩ = some (.int .i64 (ri : Int))) := fun W hW => by
          have h1 := hgc t (.int .i64 (ri : Int)) (by rw [iL_flat, intsV_get (k := .i64) htR, hri])
          have h2 := (HL4.out.upd.trans hW (fun q _ e => Or.inr e)).block gm hgl (fun h => by have := HFL.out; omega)
          simp only [World.cell?, h2] at h1 ⊢
          exact h1
         have hmem : ri ∈ rtN R := List.mem_map.2 ⟨(ri : Int), by rw [← hri]; exact List.getElem_mem htR, by simp⟩
         have hsp : rtN R = (R.take t).map Int.toNat ++ ri :: (R.drop (t + 1)).map Int.toNat := by
          show R.map Int.toNat = _
          conv => lhs; rw [← List.take_append_drop t R, List.drop_eq_getElem_cons htR]
          simp [hri]
         have HP := part_apart (T := T) (A := (R.take t).map Int.toNat) (B := (R.drop (t + 1)).map Int.toNat) (c := ri) (by rw [← hsp]; exact HALL.out.2.1)
         have HPH := part_head (T := T) (A := (R.take t).map Int.toNat) (B := (R.drop (t + 1)).map Int.toNat) (c := ri) (by rw [← hsp]; exact HALL.out.2.1)
         have hln : (((R.take t).map Int.toNat).flatMap (fun c => c :: T c)).length + 1 + (T ri).length ≤ 1000000 := by
          have h1 := HALL.out.2.2.2
          rw [hsp, List.flatMap_append, List.length_append, List.flatMap_cons, List.length_append, List.length_cons] at h1
          omega
         have hrV : Hid (ri < V2.length) := by show ri < V2.length; rw [HL4.out.st.len]; exact hrq
         have hVr : V2[ri]'hrV.out = iniF Y fin ri := HL4.out.st.no ri hrV.out HPH
         obtain ⟨d, hd⟩ : ∃ d, iniF Y fin ri = d := ⟨_, rfl⟩
         have hfr : fin ri = { d with tree := d.id } := by
          have := HFO.out.rootF ri (by rw [HYL.out]; exact hrq) (by rw [HCN.out]; exact hrc)
          rw [hd] at this
          exact this
         have HPUT : Hid (ndL (fin ri) = (ndL (V2[ri]'hrV.out)).set 3 (.int .u64 d.id)) := by show _ = _; rw [hVr, hd, hfr]; rfl
         have HID : Hid ((ndL (fin ri))[0]? = some (.int .u64 d.id)) := by show _ = _; rw [hfr]; rfl
         have g0 := HL4.out.fo.row.cell ndL_len ri hrV.out 0 (u := .int .u64 d.id) (by rw [hVr, hd]; rfl)
         rw [Nat.add_zero] at g0
         have f0 := HL4.out.fo.head
         rw [HL4.out.st.len] at f0
         have CE : Hid (∀ W, (Upd (fun q => q = nb) wr W ∧ W.cell? ⟨nb, ri * 7, none⟩ = some (.int .u64 d.id)) → W.cell? ⟨f, 1, none⟩ = some (.slice (some ⟨nb, 0, none⟩) q cn) ∧ W.cell? ⟨gm, t, none⟩ = some (.int .i64 (ri : Int)) ∧ W.cell? ⟨nb, ri * 7, none⟩ = some (.int .u64 d.id)) := fun W hW => ⟨(f0.upd hW.1 HL4.out.fo.ne.1).cell 1 rfl, HGM.out W hW.1, hW.2⟩
         have DN : Hid (∀ w7, RwG ndL 7 38 w7 nb cn (V2.set ri (fin ri)) → Upd (fun q => q = nb) wr w7 → Hid (Calls Tryz.prog 61 #[.pointer (some ⟨f, 0, none⟩), .int .i64 (ri : Int)] w7 (DnP w.heap.size f nb cn (.slice (some ⟨gv, 0, none⟩) q vc) q fin (iniF Y fin) (T ri) ri (fun i => i ∈ ((R.take t).map Int.toNat).flatMap (fun c => c :: T c) ∨ i = ri) ov2 ((((R.take t).map Int.toNat).flatMap (fun c => c :: T c)).map (fun c : Nat => (c : Int))) w7) ∧ w7.cell? ⟨gm, t, none⟩ = some (.int .i64 (ri : Int)))) := fun w7 h1 h2 => by
          refine ⟨?_, HGM.out w7 h2⟩
          refine HDW.out ri hmem hrq w7 _ _ _ ov2 (HL4.out.fo.nodes h2 h1 (by rw [List.length_set])) (HL4.out.st.set ri) (Or.inr rfl) (fun x hx hh => ?_) HP.1 (by rw [List.length_map]; exact hln) (Nat.le_trans (Nat.le_trans HZ4.out HL4.out.upd.size) h2.size)
          rcases hh with hh | hh
          ·obtain ⟨y, hy, hxy⟩ := List.mem_flatMap.1 hh
           rcases List.mem_cons.1 hxy with e | e
           ·subst e; exact (HP.2 x hx).1 (List.mem_append.2 (Or.inl hy))
           ·exact (HP.2 x hx).2 (List.mem_flatMap.2 ⟨y, hy, e⟩)
          ·subst hh; exact (HP.2 x hx).1 (List.mem_append.2 (Or.inr List.mem_cons_self))
         have NX4 : Hid (∀ w7 w8 ov3 V3, Upd (fun q => q = nb) wr w7 → RFo w8 w.heap.size f nb cn (.slice (some ⟨gv, 0, none⟩) q vc) ov3 V3 ((((R.take t).map Int.toNat).flatMap (fun c => c :: T c)).map (fun c : Nat => (c : Int)) ++ (ri :: T ri).map (fun c : Nat => (c : Int))) → StV q fin (iniF Y fin) (fun i => (i ∈ ((R.take t).map Int.toNat).flatMap (fun c => c :: T c) ∨ i = ri) ∨ i ∈ T ri) V3 → Upd (FW f nb ov2) w7 w8 → (∀ j, ov3.ownBlock = some j → j < w7.heap.size → ov2.ownBlock = some j) → Hid (L4I w.heap.size f nb cn (.slice (some ⟨gv, 0, none⟩) q vc) q fin (iniF Y fin) T R w4 w8 (t + 1) ov3 V3)) := fun w7 w8 ov3 V3 h0 h1 h2 h3 h4 => by
          have e := take_map_succ htR
          rw [hri, Int.toNat_natCast] at e
          refine ⟨?_, ?_, ?_, ?_⟩
          ·rw [e, List.flatMap_append]
           simpa using h1
          ·refine h2.cast fun i hi => ?_
           rw [e, List.flatMap_append, List.mem_append]
           simp [or_assoc]
          ·refine (HL4.out.upd.trans h0 (fun j _ e => Or.inr e)).trans h3 (fun j hj hh => ?_)
           rcases hh with hh | hh | hh
           ·exact Or.inl hh
           ·exact Or.inr hh
           ·have := HL4.out.mov j hh; omega
          ·intro j hj
           by_cases hjl : j < w7.heap.size
           ·exact HL4.out.mov j (h4 j hj hjl)
           ·have := HL4.out.upd.size
            have := h0.size
            omega
         clear hri hrc hgc hgb hgl hmem hsp HP HPH hln hVr hd hfr f0 htR
         have hrq' : (ri : Int) < (q : Int) := by omega
         go_wp2
         refine wp_region_held (S := fun W => Upd (fun q => q = nb) wr W ∧ W.cell? ⟨nb, ri * 7, none⟩ = some (.int .u64 d.id)) (by kernel_rfl) ?_
         change wpAnyH _ _ _ _ _ _ _ _ (World.drew _)
         have hS : Upd (fun q => q = nb) wr wr.drew ∧ wr.drew.cell? ⟨nb, ri * 7, none⟩ = some (.int .u64 d.id) := ⟨(Upd.refl _ _).drew, g0⟩
         refine takeH (i := 0) (v := .pointer (some ⟨f, 0, none⟩)) rfl (by kernel_rfl) (by kernel_rfl) (by kernel_rfl) (fun _ _ _ h => h) (Or.inl ⟨by rfl, fun W hW => by go_simp⟩) hS ?_
         simp only [pS]
         refine takeH (i := 1) (v := .pointer (some ⟨f, 0, none⟩)) rfl (by kernel_rfl) (by kernel_rfl) (by kernel_rfl) (fun _ _ _ h => h) (Or.inl ⟨by rfl, fun W hW => by go_simp⟩) hS ?_
         simp only [pS]
         refine takeH (i := 2) (v := .pointer (some ⟨f, 1, none⟩)) rfl (by kernel_rfl) (by kernel_rfl) (by kernel_rfl) (fun _ _ _ h => h) (Or.inl ⟨by rfl, fun W hW => by go_simp⟩) hS ?_
         simp only [pS]
         refine takeH (i := 3) (v := .slice (some ⟨nb, 0, none⟩) q cn) rfl (by kernel_rfl) (by kernel_rfl) (by kernel_rfl) (fun _ _ _ h => h) (Or.inl ⟨by rfl, fun W hW => by obtain ⟨s0, s1, s2⟩ := CE.out W hW; go_simp⟩) hS ?_
         simp only [pS]
         refine takeH (i := 4) (v := .slice (some ⟨gm, 0, none⟩) m c4) rfl (by kernel_rfl) (by kernel_rfl) (by kernel_rfl) (fun _ _ _ h => h) (Or.inl ⟨by rfl, fun W hW => by go_simp⟩) hS ?_
         simp only [pS]
         refine takeH (i := 5) (v := .int .i64 (t : Int)) rfl (by kernel_rfl) (by kernel_rfl) (by kernel_rfl) (fun _ _ _ h => h) (Or.inl ⟨by rfl, fun W hW => by go_simp⟩) hS ?_
         simp only [pS]
         refine takeH (i := 6) (v := .pointer (some ⟨gm, t, none⟩)) rfl (by kernel_rfl) (by kernel_rfl) (by kernel_rfl) (fun _ _ _ h => h) (Or.inl ⟨by rfl, fun W hW => by go_simp⟩) hS ?_
         simp only [pS]
         refine takeH (i := 7) (v := .int .i64 (ri : Int)) rfl (by kernel_rfl) (by kernel_rfl) (by kernel_rfl) (fun _ _ _ h => h) (Or.inl ⟨by rfl, fun W hW => by obtain ⟨s0, s1, s2⟩ := CE.out W hW; go_simp⟩) hS ?_
         simp only [pS]
         refine takeH (i := 8) (v := .pointer (some ⟨f, 0, none⟩)) rfl (by kernel_rfl) (by kernel_rfl) (by kernel_rfl) (fun _ _ _ h => h) (Or.inl ⟨by rfl, fun W hW => by go_simp⟩) hS ?_
         simp only [pS]
         refine takeH (i := 9) (v := .pointer (some ⟨f, 0, none⟩)) rfl (by kernel_rfl) (by kernel_rfl) (by kernel_rfl) (fun _ _ _ h => h) (Or.inl ⟨by rfl, fun W hW => by go_simp⟩) hS ?_
         simp only [pS]
         refine takeH (i := 10) (v := .pointer (some ⟨f, 1, none⟩)) rfl (by kernel_rfl) (by kernel_rfl) (by kernel_rfl) (fun _ _ _ h => h) (Or.inl ⟨by rfl, fun W hW => by go_simp⟩) hS ?_
         simp only [pS]
         refine takeH (i := 11) (v := .slice (some ⟨nb, 0, none⟩) q cn) rfl (by kernel_rfl) (by kernel_rfl) (by kernel_rfl) (fun _ _ _ h => h) (Or.inl ⟨by rfl, fun W hW => by obtain ⟨s0, s1, s2⟩ := CE.out W hW; go_simp⟩) hS ?_
         simp only [pS]
         refine takeH (i := 12) (v := .slice (some ⟨gm, 0, none⟩) m c4) rfl (by kernel_rfl) (by kernel_rfl) (by kernel_rfl) (fun _ _ _ h => h) (Or.inl ⟨by rfl, fun W hW => by go_simp⟩) hS ?_
         simp only [pS]
         refine takeH (i := 13) (v := .int .i64 (t : Int)) rfl (by kernel_rfl) (by kernel_rfl) (by kernel_rfl) (fun _ _ _ h => h) (Or.inl ⟨by rfl, fun W hW => by go_simp⟩) hS ?_
         simp only [pS]
         refine takeH (i := 14) (v := .pointer (some ⟨gm, t, none⟩)) rfl (by kernel_rfl) (by kernel_rfl) (by kernel_rfl) (fun _ _ _ h => h) (Or.inl ⟨by rfl, fun W hW => by go_simp⟩) hS ?_
         simp only [pS]
         refine takeH (i := 15) (v := .int .i64 (ri : Int)) rfl (by kernel_rfl) (by kernel_rfl) (by kernel_rfl) (fun _ _ _ h => h) (Or.inl ⟨by rfl, fun W hW => by obtain ⟨s0, s1, s2⟩ := CE.out W hW; go_simp⟩) hS ?_
         simp only [pS]
         refine takeH (i := 16) (v := .pointer (some ⟨nb, ri * 7, none⟩)) rfl (by kernel_rfl) (by kernel_rfl) (by kernel_rfl) (fun _ _ _ h => h) (Or.inl ⟨by rfl, fun W hW => by go_simp⟩) hS ?_
         simp only [pS]
         refine takeH (i := 17) (v := .pointer (some ⟨nb, ri * 7, none⟩)) rfl (by kernel_rfl) (by kernel_rfl) (by kernel_rfl) (fun _ _ _ h => h) (Or.inl ⟨by rfl, fun W hW => by go_simp⟩) hS ?_
         simp only [pS]
         refine takeH (i := 18) (v := .int .u64 d.id) rfl (by kernel_rfl) (by kernel_rfl) (by kernel_rfl) (fun _ _ _ h => h) (Or.inl ⟨by rfl, fun W hW => by obtain ⟨s0, s1, s2⟩ := CE.out W hW; go_simp⟩) hS ?_
         simp only [pS]
         refine takeH (i := 19) (v := .pointer (some ⟨nb, ri * 7, none⟩)) rfl (by kernel_rfl) (by kernel_rfl) (by kernel_rfl) (fun _ _ _ h => h) (Or.inl ⟨by rfl, fun W hW => by go_simp⟩) hS ?_
         simp only [pS]
         refine takeH (i := 20) (v := .pointer (some ⟨nb, ri * 7 + 3, none⟩)) rfl (by kernel_rfl) (by kernel_rfl) (by kernel_rfl) (fun _ _ _ h => h) (Or.inl ⟨by rfl, fun W hW => by go_simp⟩) hS ?_
         simp only [pS]
         refine onlyH (i := 21) rfl (by kernel_rfl) (fun K hK => ?_)
         refine step_st1 (by rfl) _ _ _ (by rfl) nb (ri * 7 + 3) (.int .u64 d.id) (by rfl) (by rfl) rfl ((HL4.out.fo.row.below ⟨rfl, rfl, rfl, Nat.le_refl _, fun _ _ => rfl⟩).one ndL_len ri hrV.out 3 (by omega)) (by kernel_rfl) rfl ?_
         intro w7 hw7
         have hr7 : RwG ndL 7 38 w7 nb cn (V2.set ri (fin ri)) := by rw [hw7]; exact (HL4.out.fo.row.below (w' := wr.drew) ⟨rfl, rfl, rfl, Nat.le_refl _, fun _ _ => rfl⟩).put ndL_len ri hrV.out 3 (by omega) _ (fin ri) HPUT.out
         have hU7 : Upd (fun q => q = nb) wr w7 := by rw [hw7]; exact hS.1.trans (setCell_updI _ _ _ _) (fun _ _ h => h)
         have g7 : w7.cell? ⟨nb, ri * 7, none⟩ = some (.int .u64 d.id) := by have := hr7.cell ndL_len ri (by rw [List.length_set]; exact hrV.out) 0 (u := .int .u64 d.id) (by rw [List.getElem_set_self]; exact HID.out); rwa [Nat.add_zero] at this
         refine hK _ _ ⟨⟨hU7, g7⟩, ?_⟩
         clear hK K hw7 hS g7
         simp only [Act.put]
         refine wpAnyH_done (by kernel_rfl) ?_ _
         have DWN := DN.out w7 hr7 hU7
         have HU7 : Hid (Upd (fun q => q = nb) wr w7) := hU7
         have k7 := DWN.out.2
         have DW := DWN.out.1
         have HDWN : Hid (Calls Tryz.prog 61 #[.pointer (some ⟨f, 0, none⟩), .int .i64 (ri : Int)] w7 (DnP w.heap.size f nb cn (.slice (some ⟨gv, 0, none⟩) q vc) q fin (iniF Y fin) (T ri) ri (fun i => i ∈ ((R.take t).map Int.toNat).flatMap (fun c => c :: T c) ∨ i = ri) ov2 ((((R.take t).map Int.toNat).flatMap (fun c => c :: T c)).map (fun c : Nat => (c : Int))) w7)) := DW
         clear hr7 hU7 DWN DW g0
         go_wp2_with (go_at_call 61; (with_reducible refine HDWN.out.mono ?_); clear HDWN; rintro e w8 ⟨rfl, ov3, V3, h1, h2, h3, h4⟩; have HN8 := NX4.out w7 w8 ov3 V3 HU7.out h1 h2 h3 h4; clear h1 h2 h3 h4)
         go_roundw
         case rel => exact ⟨t + 1, ov3, V3, by go_num, by omega, HN8⟩
         case measure => simp [intOf]; omega
        ·obtain rfl : t = m := by omega
         have hlt4' : ¬ (t : Int) < (t : Int) := by omega
         have ht : R.take t = R := List.take_of_length_le (by rw [HML.out]; exact Nat.le_refl _)
         have HUF : Hid (Upd (fun q => q = f ∨ q = nb) w2 wr) := HU4.out.trans HL4.out.upd (fun _ _ h => h)
         have FN := HYES.out f wr HONE.out ⟨_, vc, L, ⟨by rw [HLN.out]; exact HL4.out.fo.head.cell 0 rfl, fun _ => ⟨gv, rfl, HSC.out wr HUF.out⟩, by rw [HLY.out]; exact HYR.out, by rw [HLN.out]; exact hn1, HPOS.out⟩, HLY.out, (fun x hx => by
          obtain ⟨lo, hi, h1, h2, h3, h4⟩ := HKEP.out x hx
          refine h4 wr fun j a b => ?_
          have hw := HW2.out
          have h5 := HUF.out.block j (by omega) (fun e => by have := HNBL.out; have := hfs.out; omega)
          exact h5.trans (hw.2.2.2.1.block j (by omega))), (fun _ => ⟨nb, cn, V2, HL4.out.fo.fnd, by rw [HL4.out.st.len, HYL.out], fun i hi => HL4.out.st.yes i hi (by rw [ht]; exact (HALL.out.2.2.1 i).2 (by rw [← HL4.out.st.len]; exact hi))⟩), w.heap.size, ov2, (R.map Int.toNat).flatMap (fun c => c :: T c), HL4.out.fo.head.cell 2 rfl, (by have := HL4.out.fo.ord; rw [ht, List.length_map] at this; exact this), (fun i => (HALL.out.2.2.1 i).trans (by rw [HYL.out])), HALL.out.2.1⟩ (HBW2.out.trans (HUF.out.below HBW2.out.size (fun j hj e => by have := HW2.out.2.2.2.2; have := HNBL.out; have := HBW2.out.size; omega)))
         clear ht
         go_wp2
         exact FN
structure BuT (X : List Sp) (w : World) (f sb : Nat) (Y : List Sp) (C : List Int) (dp : Nat → Nat) (fin : Nat → Nod) (X' : List Spot) (K : Nat → List Int) (rv : Value) (R : List Int) : Prop where
 at_ : ForestAt w f sb X' K rv R
 fo : FoB Y C dp fin X' K R
 perm : X.Perm Y
 rise : Y.Pairwise (fun a b => a.id < b.id)
 cuts : CutsL (nmOf (zs Y)) Y.length Y.length C
theorem BuT.below {X : List Sp} {w w' : World} {f sb : Nat} {Y : List Sp} {C : List Int} {dp : Nat → Nat} {fin : Nat → Nod} {X' : List Spot} {K : Nat → List Int} {rv : Value} {R : List Int} (h : BuT X w f sb Y C dp fin X' K rv R) (hb : Below w.heap.size w w') : BuT X w' f sb Y C dp fin X' K rv R := ⟨h.at_.below hb, h.fo, h.perm, h.rise, h.cuts⟩
theorem build_one (ad : Option Addr) (n cap : Nat) (X : List Sp) (P : Nat → Pl) (w : World) (hX : SpsAt w ad n X P) (hF : ∀ a ∈ X, a.Fits) (hS : ∀ a ∈ X, a.Small) (hT : Tabs w) (h1 : OneT X) : Calls Tryz.prog 27 #[.slice ad n cap] w fun e w' => ∃ f sb Y C dp fin X' K rv R, e = .returned (.tuple #[.pointer (some ⟨f, 0, none⟩), .int .i64 0]) ∧ Hid (BuT X w' f sb Y C dp fin X' K rv R) ∧ Below w.heap.size w w' := by
 refine (build_total ad n cap X P w hX hF hS hT).mono ?_
 rintro e w' (⟨h1, Y, hp, hr, f, sb, X', K, rv, R, C, dp, fin, rfl, h2, h3, h4, h5, h6⟩ | ⟨h, _⟩)
 ·exact ⟨f, sb, Y, C, dp, fin, X', K, rv, R, rfl, ⟨h2, ⟨h5, h4, h2.rise, one_permR h1 hp⟩, hp, hr, h3⟩, h6⟩
 ·exact absurd h1 h
theorem build_none (ad : Option Addr) (n cap : Nat) (X : List Sp) (P : Nat → Pl) (w : World) (hX : SpsAt w ad n X P) (hF : ∀ a ∈ X, a.Fits) (hS : ∀ a ∈ X, a.Small) (hT : Tabs w) (h1 : ¬ OneT X) : Calls Tryz.prog 27 #[.slice ad n cap] w fun e w' => e = .returned (.tuple #[.pointer none, .int .i64 101]) ∧ Below w.heap.size w w' := build_no ad n cap X P w hX hF hS hT h1
theorem rBuild_one (ad : Option Addr) (n cap : Nat) (X : List Sp) (P : Nat → Pl) (w : World) (hX : SpsAt w ad n X P) (hF : ∀ a ∈ X, a.Fits) (hS : ∀ a ∈ X, a.Small) (h1 : OneT X) {w0 : World} {f sb : Nat} {Y : List Sp} {C : List Int} {dp : Nat → Nat} {fin : Nat → Nod} {X' : List Spot} {K : Nat → List Int} {rv : Value} {R : List Int} (hB : BuT X w0 f sb Y C dp fin X' K rv R) : Calls Tryz.prog 30 #[.slice ad n cap] w fun e w' => ∃ g, e = .returned (.tuple #[.pointer (some ⟨g, 0, none⟩), .int .i64 0]) ∧ Hid (RFor w' g Y fin) ∧ Below w.heap.size w w' := by
 refine (rBuild_any ad n cap X P w hX hF hS (fun _ => ⟨hB.perm, hB.rise, hB.fo, hB.cuts⟩)).mono ?_
 rintro e w' (⟨g, rfl, h2, h3⟩ | ⟨_, h2, _⟩)
 ·exact ⟨g, rfl, h2.out.2, h3⟩
 ·exact absurd h1 h2.out
theorem rBuild_none (ad : Option Addr) (n cap : Nat) (X : List Sp) (P : Nat → Pl) (w : World) (hX : SpsAt w ad n X P) (hF : ∀ a ∈ X, a.Fits) (hS : ∀ a ∈ X, a.Small) (h1 : ¬ OneT X) : Calls Tryz.prog 30 #[.slice ad n cap] w fun e w' => e = .returned (.tuple #[.pointer none, .int .i64 101]) ∧ Below w.heap.size w w' := by
 refine (rBuild_any (Y := []) (C := []) (dp := fun _ => 0) (fin := fun _ => zNd) (X' := []) (K := fun _ => []) (R := []) ad n cap X P w hX hF hS (fun h => absurd h h1)).mono ?_
 rintro e w' (⟨g, rfl, h2, h3⟩ | ⟨rfl, _, h2⟩)
 ·exact absurd h2.out.1 h1
 ·exact ⟨rfl, h2⟩
end Go.Proofs.YtnffedmcblbkoaaGreatDoor
