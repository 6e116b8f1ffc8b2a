/-
  Merged: TQ, TR, TS, TT, VR, TU.
-/
import Derived.Test.YtnffedmcblbkoaaGreatDoorTJq
import Derived.Test.YtnffedmcblbkoaaGreatDoorFSq
import Derived.Test.YtnffedmcblbkoaaGreatDoorFIq
import Derived.Test.YtnffedmcblbkoaaGreatDoorFXq
import Derived.BigQuiet
import Derived.Test.YtnffedmcblbkoaaGreatDoorOZ
import Derived.Test.YtnffedmcblbkoaaGreatDoorMwq
import Derived.Test.YtnffedmcblbkoaaGreatDoorZmq
import Derived.Laws.StructEq
import Derived.Test.YtnffedmcblbkoaaGreatDoorUAq
namespace Go.Proofs.YtnffedmcblbkoaaGreatDoor
open Go Go.RowKit
set_option maxRecDepth 100000
def iL (x : Int) : List Value := [.int .i64 x]
theorem iL_len (x : Int) : (iL x).length = 1 := rfl
theorem iL_flat : ∀ M : List Int, M.flatMap iL = intsV .i64 M
 | [] => rfl
 | x :: M => by rw [List.flatMap_cons, iL_flat M]; rfl
theorem ndL_len (d : Nod) : (ndL d).length = 7 := rfl
theorem infoI1 : ∃ i, Tryz.prog.info? 3 = some i ∧ i.zero = some (.int .i64 0) ∧ i.size = 1 ∧ i.bytes = 8 := by
 have h := infoI
 cases hi : Tryz.prog.info? 3 with
 | none => rw [hi] at h; simp at h
 | some i => rw [hi] at h; simp at h; exact ⟨i, rfl, h.1, h.2.1, h.2.2⟩
theorem wpList_appI {ops : Array Oper} {rest : List Oper} {o : Oper} {a : Act} {Q : Exit → Act → World → Prop} (wr : World) (hgd : o.guard = none) (s x : Operand)
  (ho : o.op = .call { callee := .builtin .append, args := #[s, x], argTypes := #[90, 90] })
  (base : Nat) (v : Value) (n : Nat) (M : List Int) (y : Int) (b : Nat) (hb : b = wr.heap.size) (hv : a.eval s = v) (hown : wr.ownsRow base 3 1 v n (M.flatMap iL)) (hl : M.length = n) (hx : a.eval x = .slice (some ⟨b, 0, none⟩) 1 1) (hn : n ≤ 1000000) (hbase : base ≤ wr.heap.size)
  (h : ∀ g cap w', base ≤ g → RwG iL 1 3 w' g cap (M ++ [y]) → Upd (fun q => v.ownBlock = some q) wr w' → (v.ownBlock = some g ∨ wr.heap.size ≤ g) → wpList Tryz.prog ops Q rest (a.put o.dst (.slice (some ⟨g, 0, none⟩) (n + 1) cap)) w') : wpList Tryz.prog ops Q (o :: rest) a (wr.alloc (.cells #[.int .i64 y] 3)) := by
 subst hb
 obtain ⟨i0, hi0, hz0, hz1, hz2⟩ := infoI1
 have hown' : (wr.alloc (.cells #[.int .i64 y] 3)).ownsRow base 3 1 v n (M.flatMap iL) := ownsRow_upd hown ((Upd.refl (fun _ => False) wr).alloc _) (fun _ _ h => h)
 refine wpList_app _ hgd s x 90 90 ho base 3 i0 (.int .i64 0) 8 Tryz.underlying90 hi0 hz0 hz1 hz2 rfl v n _ hv hown' _ 1 [.int .i64 y] hx (src_one Tryz.underlying90 wr _ _ rfl) (by unfold maxLen; omega) (by omega) (by simp; omega) ?_
 intro v1 w1 o1 g1 m1
 have e : M.flatMap iL ++ [.int .i64 y] = (M ++ [y]).flatMap iL := by simp [iL]
 rw [e] at o1
 obtain ⟨g, cap, rfl, hg, hr⟩ := RwG.of_owns o1 (by simp [hl]) (by omega)
 refine h g cap w1 hg hr (((Upd.refl _ wr).alloc _).grown g1 (fun k _ e => e)) ?_
 rcases m1 with e | ⟨k, e, hk⟩
 ·exact Or.inl e.symm
 ·simp [Value.ownBlock] at e
  subst e
  simp at hk
  exact Or.inr (by omega)
theorem RwI.set {w : World} {g cap : Nat} {M : List Int} (h : RwG iL 1 3 w g cap M) (t : Nat) (ht : t < M.length) (y : Int) : RwG iL 1 3 (w.setCell ⟨g, t, none⟩ (.int .i64 y)) g cap (M.set t y) := by
 have := h.put iL_len t ht 0 (by omega) (.int .i64 y) y rfl
 rwa [Nat.mul_one, Nat.add_zero] at this
theorem RwI.cell {w : World} {g cap : Nat} {M : List Int} (h : RwG iL 1 3 w g cap M) (t : Nat) (ht : t < M.length) : w.cell? ⟨g, t, none⟩ = some (.int .i64 M[t]) := by
 have := RwG.cell h iL_len t ht 0 (u := .int .i64 M[t]) rfl
 rwa [Nat.mul_one, Nat.add_zero] at this
theorem setCell_updI (w : World) (g t : Nat) (v : Value) : Upd (fun q => q = g) w (w.setCell ⟨g, t, none⟩ v) := Upd.setCell (S := fun q => q = g) (Upd.refl _ w) (p := ⟨g, t, none⟩) (fun _ => rfl) v
def ndAt (V : List Nod) (x : Int) : Nod := V.getD x.toNat zNd
theorem ndAt_is {V : List Nod} {i : Nat} (h : i < V.length) : ndAt V (i : Int) = V[i] := by simp [ndAt, List.getD, h]
structure FNd (w : World) (f nb cn : Nat) (V : List Nod) : Prop where
 head : w.cell? ⟨f, 1, none⟩ = some (.slice (some ⟨nb, 0, none⟩) V.length cn)
 row : RwG ndL 7 38 w nb cn V
 len : V.length ≤ 1000
theorem FNd.below {w w' : World} {f nb cn : Nat} {V : List Nod} (h : FNd w f nb cn V) (hb : Below w.heap.size w w') : FNd w' f nb cn V :=
 ⟨(hb.cell (p := ⟨f, 1, none⟩) (World.block_lt_of_cell? w _ h.head)).trans h.head, h.row.below hb, h.len⟩
theorem ltK_as (a b : Nod) : ltK a b → ¬ ltK b a := by unfold ltK; omega
theorem ltK_tr (a b c : Nod) : ¬ ltK b a → ¬ ltK c b → ¬ ltK c a := by unfold ltK; omega
structure OrdI (w wr : World) (V : List Nod) (l : List Int) (k : Nat) (v : Value) (M : List Int) : Prop where
 own : wr.ownsRow w.heap.size 3 1 v k (M.flatMap iL)
 len : M.length = k
 perm : (l.take k).Perm M
 sort : M.Pairwise (fun a b => ¬ ltK (ndAt V b) (ndAt V a))
 bel : Below w.heap.size w wr
structure OrnI (w wr : World) (V : List Nod) (g cap B : Nat) (d : Nod) (M N : List Int) (t : Nat) : Prop where
 row : RwG iL 1 3 wr g cap N
 lo : w.heap.size ≤ g
 box : Blk wr B (ndL d).toArray 38
 ne : B ≠ g
 mid : MidI M N t
 gt : ∀ j (hj : j < M.length), t ≤ j → ltK d (ndAt V M[j])
 bel : Below w.heap.size w wr
theorem OrdI.zero (w : World) (V : List Nod) (l : List Int) : OrdI w w V l 0 (.slice none 0 0) [] :=
 ⟨World.ownsRow_nil _ _ _ _, rfl, by simp, List.Pairwise.nil, Below.refl _ _⟩
theorem OrdI.grow {w wr w5 : World} {V : List Nod} {l : List Int} {k : Nat} {v : Value} {M : List Int} (h : OrdI w wr V l k v M) (hb : Below wr.heap.size wr w5) : OrdI w w5 V l k v M :=
 ⟨ownsRow_upd h.own (Upd.ofBelow (S := fun _ => False) hb (fun k h1 h2 => by omega)) (fun _ _ h => h), h.len, h.perm, h.sort, h.bel.trans (hb.mono h.bel.size)⟩
theorem OrnI.grow {w wr w5 : World} {V : List Nod} {g cap B : Nat} {d : Nod} {M N : List Int} {t : Nat} (h : OrnI w wr V g cap B d M N t) (hb : Below wr.heap.size wr w5) : OrnI w w5 V g cap B d M N t :=
 ⟨h.row.below hb, h.lo, h.box.below hb h.box.lt, h.ne, h.mid, h.gt, h.bel.trans (hb.mono h.bel.size)⟩
theorem OrdI.start {w wr w2 : World} {V : List Nod} {l : List Int} {k : Nat} {v : Value} {M : List Int} (h : OrdI w wr V l k v M) (d : Nod) {B g cap : Nat} (hB : Blk wr B (ndL d).toArray 38) (hg : w.heap.size ≤ g) (hr : RwG iL 1 3 w2 g cap (M ++ [0])) (hu : Upd (fun q => v.ownBlock = some q) wr w2) : OrnI w w2 V g cap B d M (M ++ [0]) k := by
 have hT : (38 : TypeId) ≠ 3 := by decide
 have hnv : v.ownBlock ≠ some B := fun e => by
  rcases h.own.2 with ⟨e1, _⟩ | ⟨g', cap', cur, e1, _, hh, _⟩
  ·rw [e1] at e; simp [Value.ownBlock] at e
  ·rw [e1] at e
   simp [Value.ownBlock] at e
   subst e
   have h2 : wr.heap[g']? = some (.cells (ndL d).toArray 38 (0, 0)) := hB
   rw [hh] at h2
   injection h2 with h2
   injection h2 with _ h3 _
   exact hT h3.symm
 have hB2 : Blk w2 B (ndL d).toArray 38 := hB.upd hu hnv
 refine ⟨hr, hg, hB2, fun e => ?_, by rw [← h.len]; exact MidI.start M 0, fun j hj hkj => by have := h.len; omega, h.bel.trans (hu.below h.bel.size (fun q hq e => by have := (owns_lt h.own e).1; omega))⟩
 subst e
 obtain ⟨rest, hb, _⟩ := hr.blk
 have h2 : w2.heap[B]? = some (.cells (ndL d).toArray 38 (0, 0)) := hB2
 have h3 : w2.heap[B]? = some (.cells ((M ++ [0]).flatMap iL ++ rest).toArray 3 (0, 0)) := hb
 rw [h3] at h2
 injection h2 with h2
 injection h2 with _ h4 _
 exact hT h4.symm
theorem OrnI.step {w wr : World} {V : List Nod} {g cap B : Nat} {d : Nod} {M N : List Int} {t : Nat} (h : OrnI w wr V g cap B d M N (t + 1)) (ht : t < N.length) (hlt : ltK d (ndAt V N[t])) : OrnI w (wr.setCell ⟨g, t + 1, none⟩ (.int .i64 N[t])) V g cap B d M (N.set (t + 1) N[t]) t := by
 obtain ⟨h1, h2, he⟩ := h.mid.at_
 have hu := setCell_updI wr g (t + 1) (.int .i64 N[t])
 refine ⟨RwI.set h.row (t + 1) (by rw [h.mid.len]; have := h.mid.le; omega) _, h.lo, h.box.upd hu (fun e => h.ne e), h.ne, h.mid.step ht, fun j hj htj => ?_, h.bel.trans (hu.below h.bel.size (fun q hq e => by have := h.lo; omega))⟩
 by_cases e : j = t
 ·subst e; rw [← he]; exact hlt
 ·exact h.gt j hj (by omega)
theorem OrnI.done {w wr w0 : World} {V : List Nod} {l : List Int} {k : Nat} {v0 : Value} {g cap B : Nat} {M N : List Int} {t : Nat} {x : Int} (h0 : OrdI w w0 V l k v0 M) (h : OrnI w wr V g cap B (ndAt V x) M N t) (hx : l[k]? = some x) (hle : ∀ m (hm : m < M.length), t = m + 1 → ¬ ltK (ndAt V x) (ndAt V M[m])) : OrdI w (wr.setCell ⟨g, t, none⟩ (.int .i64 x)) V l (k + 1) (.slice (some ⟨g, 0, none⟩) (k + 1) cap) (M.take t ++ x :: M.drop t) := by
 have hL := h0.len
 have hu := setCell_updI wr g t (.int .i64 x)
 have hr := RwI.set h.row t (by rw [h.mid.len]; have := h.mid.le; omega) x
 rw [h.mid.done] at hr
 have hlen : (M.take t ++ x :: M.drop t).length = k + 1 := by rw [(ins_perm M t x).length_eq]; simp [hL]
 have h1 := hr.owns iL_len h.lo
 rw [hlen] at h1
 refine ⟨h1, hlen, ?_, ?_, h.bel.trans (hu.below h.bel.size (fun q hq e => by have := h.lo; omega))⟩
 ·obtain ⟨hn, e⟩ := List.getElem?_eq_some_iff.1 hx
  rw [List.take_succ_eq_append_getElem hn, e]
  exact (h0.perm.append_right [x]).trans (ins_perm M t x).symm
 ·exact ins_sort (lt := fun a b => ltK (ndAt V a) (ndAt V b)) (fun a b => ltK_as _ _) (fun a b c => ltK_tr _ _ _) h0.sort h.mid.le (fun j hj htj => h.gt j hj htj) hle
def OrdP (V : List Nod) (l : List Int) (m : Nat) (w : World) (e : Ending) (w' : World) : Prop := ∃ ao c M, e = .returned (.slice ao m c) ∧ Hid (OrdI w w' V l m (.slice ao m c) M)
theorem step_stB {ops : Array Oper} {o : Oper} {a : Act} {w : World} {K : Act → World → Prop} {Q : Exit → Act → World → Prop} {E : Prop} (hgd : o.guard = none) (ty : TypeId) (x y : Operand) (ho : o.op = .store ty x y) (b : Nat) (l cs : List Value) (e : TypeId) (hB : Blk w b l.toArray e) (hx : a.eval x = .pointer (some ⟨b, 0, none⟩)) (hy : a.eval y = .agg cs.toArray) (hl : l.length = cs.length)
  (hi : (Tryz.prog.info? ty).map (·.size) = some cs.length) (h1 : ∀ v ∈ cs, v.oneCell' = true)
  (h : ∀ w', Blk w' b cs.toArray e → Upd (fun k => k = b) w w' → K (a.put o.dst undef) w') : if Region.wanted o (yielded ops a.tmps) = true then Oper.wp Tryz.prog o a w K Q else E := by
 have hw : Region.wanted o (yielded ops a.tmps) = true := by simp [Region.wanted, hgd]
 rw [if_pos hw]
 refine wp_store_mid ty x y ho b 0 cs.toArray hx hy (by simpa using hB.there 0 cs.length (by omega)) (by simpa using hi) (all_oneCell_toArray h1) ?_
 refine h _ ?_ (setCells_upd _ _ _ _)
 have := setCells_blk cs 0 l w hB
 rw [putL_eq cs l 0 (by omega)] at this
 simp only [List.take_zero, List.nil_append, Nat.zero_add, ← hl, List.drop_length, List.append_nil] at this
 exact this
set_option maxHeartbeats 8000000 in
theorem rOrd_any (f nb cn : Nat) (V : List Nod) (ad : Option Addr) (m cap : Nat) (l : List Int) (w : World) (hN : 0 < m → FNd w f nb cn V) (hl : HoldsV w ad m (intsV .i64 l)) (hr : ∀ x ∈ l, 0 ≤ x ∧ x < V.length) (hm : m ≤ 1000) :
  Calls Tryz.prog 60 #[.pointer (some ⟨f, 0, none⟩), .slice ad m cap] w (OrdP V l m w) := by
 have HN : Hid (0 < m → FNd w f nb cn V) := hN
 have HLl : Hid (l.length = m) := by have := hl.len; simp [intsV] at this; exact this
 have HL : Hid (HoldsV w ad m (intsV .i64 l)) := hl
 have HR : Hid (∀ x ∈ l, 0 ≤ x ∧ x < V.length) := hr
 have HE : Hid (∀ ao c w' M, OrdI w w' V l m (.slice ao m c) M → OrdP V l m w (.returned (.slice ao m c)) w') := fun ao c w' M h => ⟨ao, c, M, rfl, h⟩
 generalize OrdP V l m w = RR at *
 clear hN hl hr
 have H0 : Hid (OrdI w w V l 0 (.slice none 0 0) []) := OrdI.zero w V l
 obtain ⟨nv, hnv⟩ : ∃ nv, V.length = nv := ⟨_, rfl⟩
 have HNV : Hid (V.length = nv) := hnv
 clear hnv
 go_enter Tryz.func60, Tryz.ntmps60
 go_wp2
 go_loopw [5, 6] (fun z5 z6 wr => ∃ (k : Nat) (ao : Option Addr) (ca : Nat) (M : List Int), z5 = .slice ao k ca ∧ z6 = .int .i64 k ∧ k ≤ m ∧ Hid (OrdI w wr V l k (.slice ao k ca) M)) (fun _ z6 _ => m - (intOf z6).toNat)
 case atStart => exact ⟨0, none, 0, [], rfl, rfl, by omega, H0⟩
 case round =>
  obtain ⟨k, ao, ca, M, rfl, rfl, hk, HI⟩ := hrel
  by_cases hlt : k < m
  rotate_left
  ·obtain rfl : k = m := by omega
   have hlt' : ¬ (k : Int) < (k : Int) := by omega
   have FN := HE.out ao ca wr M HI.out
   go_wp2
   exact FN
  ·have hlt' : (k : Int) < (m : Int) := by omega
   have hkl : k < l.length := by rw [HLl.out]; exact hlt
   have FN0 := HN.out (by omega)
   have hV1 := FN0.len
   rw [HNV.out] at hV1
   obtain ⟨x, hx⟩ : ∃ x, l[k] = x := ⟨_, rfl⟩
   have HX : Hid (l[k]? = some x) := by rw [← hx]; exact List.getElem?_eq_getElem hkl
   have hxr := HR.out x (by rw [← hx]; exact List.getElem_mem hkl)
   obtain ⟨xi, hxi⟩ : ∃ xi : Nat, x = (xi : Int) := ⟨x.toNat, by omega⟩
   have HXI : Hid (x = (xi : Int)) := hxi
   have hxn : xi < V.length := by omega
   obtain ⟨d, hd⟩ : ∃ d, V[xi] = d := ⟨_, rfl⟩
   have HD : Hid (ndAt V x = d) := by show ndAt V x = d; rw [hxi, ndAt_is hxn]; exact hd
   obtain ⟨lb, lo, had, hlc⟩ := HL.out.plain (intsV_get (k := .i64) hkl)
   subst had
   have CE : Hid (∀ W, Below wr.heap.size wr W → W.cell? ⟨f, 1, none⟩ = some (.slice (some ⟨nb, 0, none⟩) nv cn) ∧ W.cell? ⟨lb, lo + k, none⟩ = some (.int .i64 (xi : Int)) ∧ W.rangeAt nb (xi * 7) (ndL d)) := fun W hW => by
    have hb : Below w.heap.size w W := HI.out.bel.trans (hW.mono HI.out.bel.size)
    have f1 := FN0.below hb
    refine ⟨by rw [← HNV.out]; exact f1.head, ?_, by rw [← hd]; exact f1.row.range ndL_len xi hxn⟩
    have c := hlc k _ (intsV_get (k := .i64) hkl)
    rw [hx, hxi] at c
    exact (hb.cell (p := ⟨lb, _, none⟩) (World.block_lt_of_cell? w _ c)).trans c
   have CW : Hid (∀ W, Below w.heap.size w W → W.cell? ⟨f, 1, none⟩ = some (.slice (some ⟨nb, 0, none⟩) nv cn) ∧ W.cell? ⟨lb, lo + k, none⟩ = some (.int .i64 (xi : Int)) ∧ FNd W f nb cn V) := fun W hb => by
    have f1 := FN0.below hb
    refine ⟨by rw [← HNV.out]; exact f1.head, ?_, f1⟩
    have c := hlc k _ (intsV_get (k := .i64) hkl)
    rw [hx, hxi] at c
    exact (hb.cell (p := ⟨lb, _, none⟩) (World.block_lt_of_cell? w _ c)).trans c
   have hxv : (xi : Int) < (nv : Int) := by have := HNV.out; omega
   have hkc : Hid (k ≤ 1000) := by show k ≤ 1000; omega
   clear FN0 hx hxr hxi hd hlc
   have hML : Hid (M.length = k) := HI.out.len
   go_wp2
   refine wp_region_held (S := fun W => Below wr.heap.size wr W) (by kernel_rfl) ?_
   change wpAnyH _ _ _ _ _ _ _ _ (World.drew _)
   have hS : Below wr.heap.size wr wr.drew := ⟨rfl, rfl, rfl, Nat.le_refl _, fun _ _ => rfl⟩
   refine takeH (i := 0) (v := .pointer (some ⟨f, 0, none⟩)) rfl (by kernel_rfl) (by kernel_rfl) (by kernel_rfl) (fun _ _ _ h => h) (Or.inl ⟨by rfl, fun W hW => by go_simp⟩) hS ?_
   simp only [pS]
   refine takeH (i := 1) (v := .pointer (some ⟨f, 0, none⟩)) rfl (by kernel_rfl) (by kernel_rfl) (by kernel_rfl) (fun _ _ _ h => h) (Or.inl ⟨by rfl, fun W hW => by go_simp⟩) hS ?_
   simp only [pS]
   refine takeH (i := 2) (v := .pointer (some ⟨f, 1, none⟩)) rfl (by kernel_rfl) (by kernel_rfl) (by kernel_rfl) (fun _ _ _ h => h) (Or.inl ⟨by rfl, fun W hW => by go_simp⟩) hS ?_
   simp only [pS]
   refine takeH (i := 3) (v := .slice (some ⟨nb, 0, none⟩) nv cn) rfl (by kernel_rfl) (by kernel_rfl) (by kernel_rfl) (fun _ _ _ h => h) (Or.inl ⟨by rfl, fun W hW => by obtain ⟨s0, s1, s2⟩ := CE.out W hW; go_simp⟩) hS ?_
   simp only [pS]
   refine takeH (i := 4) (v := .slice (some ⟨lb, lo, none⟩) m cap) rfl (by kernel_rfl) (by kernel_rfl) (by kernel_rfl) (fun _ _ _ h => h) (Or.inl ⟨by rfl, fun W hW => by go_simp⟩) hS ?_
   simp only [pS]
   refine takeH (i := 5) (v := .int .i64 (k : Int)) rfl (by kernel_rfl) (by kernel_rfl) (by kernel_rfl) (fun _ _ _ h => h) (Or.inl ⟨by rfl, fun W hW => by go_simp⟩) hS ?_
   simp only [pS]
   refine takeH (i := 6) (v := .pointer (some ⟨lb, lo + k, none⟩)) rfl (by kernel_rfl) (by kernel_rfl) (by kernel_rfl) (fun _ _ _ h => h) (Or.inl ⟨by rfl, fun W hW => by go_simp⟩) hS ?_
   simp only [pS]
   refine takeH (i := 7) (v := .int .i64 (xi : Int)) rfl (by kernel_rfl) (by kernel_rfl) (by kernel_rfl) (fun _ _ _ h => h) (Or.inl ⟨by rfl, fun W hW => by obtain ⟨s0, s1, s2⟩ := CE.out W hW; go_simp⟩) hS ?_
   simp only [pS]
   refine takeH (i := 8) (v := .pointer (some ⟨nb, xi * 7, none⟩)) rfl (by kernel_rfl) (by kernel_rfl) (by kernel_rfl) (fun _ _ _ h => h) (Or.inl ⟨by rfl, fun W hW => by go_simp⟩) hS ?_
   simp only [pS]
   refine takeH (i := 9) (v := .agg (ndL d).toArray) rfl (by kernel_rfl) (by kernel_rfl) (by kernel_rfl) (fun _ _ _ h => h) (yieldsIf_load_mid (by rfl) 38 _ rfl nb (xi * 7) rfl _ _ (fun W hW => (CE.out W hW).2.2) Tryz.underlying38 rfl (by kernel_rfl)) hS ?_
   simp only [pS]
   refine onlyH (i := 10) rfl (by kernel_rfl) (fun K hK => ?_)
   go_simp
   have hS1 : Below wr.heap.size wr (wr.drew.alloc (.cells (ndL zNd).toArray 38)) := hS.alloc hS.size _
   refine hK _ _ ⟨hS1, ?_⟩
   clear hK K
   refine onlyH (i := 11) rfl (by kernel_rfl) (fun K hK => ?_)
   refine step_stB (by rfl) 38 _ _ (by rfl) wr.heap.size (ndL zNd) (ndL d) 38 (Blk.new wr.drew (ndL zNd).toArray 38) (by rfl) (by rfl) rfl (by kernel_rfl) (ndL_one d) ?_
   intro w5 hB5 hu5
   have hS5 : Below wr.heap.size wr w5 := hS1.trans (hu5.below (by simp) (fun q hq e => by omega))
   refine hK _ _ ⟨hS5, ?_⟩
   clear hK K hS hS1 hu5
   simp only [Act.put]
   refine wpAnyH_done (by kernel_rfl) ?_ _
   have HI5 : Hid (OrdI w w5 V l k (.slice ao k ca) M) := HI.out.grow hS5
   have HB5 : Hid (Blk w5 wr.heap.size (ndL d).toArray 38) := hB5
   have hz5 : Hid (w.heap.size ≤ w5.heap.size) := HI5.out.bel.size
   obtain ⟨B, hBB⟩ : ∃ B, wr.heap.size = B := ⟨_, rfl⟩
   rw [hBB] at HB5
   (try rw [hBB])
   clear HI CE hS5 hB5 hBB
   go_wp2_with (at_builtin; refine wpList_appI w5 rfl _ _ rfl w.heap.size (.slice ao k ca) k M 0 _ rfl rfl HI5.out.own hML.out rfl (by have := hkc.out; omega) hz5.out ?_; intro g c6 w6 hg6 hr6 hu6 hm6; have HNN : Hid (OrnI w w6 V g c6 B d M (M ++ [0]) k) := HI5.out.start d HB5.out hg6 hr6 hu6; clear hr6 hu6 hm6 hg6)
   go_loopw [8] (fun z8 wq => ∃ (t : Nat) (N : List Int), z8 = .int .i64 t ∧ t ≤ k ∧ Hid (OrnI w wq V g c6 B d M N t)) (fun z8 _ => (intOf z8).toNat)
   case atStart => exact ⟨k, M ++ [0], rfl, Nat.le_refl _, HNN⟩
   case round =>
    obtain ⟨t, N, rfl, htk, HM⟩ := hrel
    obtain ⟨q0, q1, _⟩ := CW.out wr HM.out.bel
    obtain ⟨e0, e1, e2, e3, e4, e5, e6⟩ := node_cells HM.out.box
    have hMp : Hid (∀ y ∈ M, 0 ≤ y ∧ y < V.length) := fun y hy => HR.out y (List.mem_of_mem_take (HI5.out.perm.mem_iff.2 hy))
    have htn : t < N.length := by rw [HM.out.mid.len, hML.out]; omega
    have htI : (t : Int) < ((k + 1 : Nat) : Int) := by omega
    have ct := RwI.cell HM.out.row t htn
    have fr := HM.out.row.free t
    by_cases ht0 : t = 0
    ·subst ht0
     have hg0 : decide (0 < 0) = false := rfl
     have FN : Hid (∀ q, OrdI w ((wr.drewN q).setCell ⟨g, 0, none⟩ (.int .i64 (xi : Int))) V l (k + 1) (.slice (some ⟨g, 0, none⟩) (k + 1) c6) (M.take 0 ++ (xi : Int) :: M.drop 0)) := fun q => by
      rw [← HXI.out]
      exact OrnI.done HI5.out (by rw [HD.out]; exact HM.out.grow ⟨rfl, rfl, rfl, Nat.le_refl _, fun _ _ => rfl⟩) HX.out (by intro m hm e; omega)
     go_wp2
     go_quiet (fail)
     go_wp2
     go_roundw
     case rel => exact ⟨k + 1, _, c6, _, by go_num, by go_num, by omega, FN.out nq⟩
     case measure => simp [intOf]; omega
    ·obtain ⟨j, rfl⟩ : ∃ j, t = j + 1 := ⟨t - 1, by omega⟩
     have hj0 : (0 : Int) < ((j + 1 : Nat) : Int) := by omega
     have hjw : IntKind.i64.wrap (((j + 1 : Nat) : Int) - 1) = (j : Int) := by rw [IntKind.wrap_i64]; omega
     have hjk : (j : Int) < ((k + 1 : Nat) : Int) := by omega
     obtain ⟨hjN, hjM, hje⟩ := HM.out.mid.at_
     have cj := RwI.cell HM.out.row j hjN
     obtain ⟨y, hy⟩ : ∃ y, N[j] = y := ⟨_, rfl⟩
     have hyr := hMp.out y (by rw [← hy, hje]; exact List.getElem_mem hjM)
     obtain ⟨yi, rfl⟩ : ∃ yi : Nat, y = (yi : Int) := ⟨y.toNat, by omega⟩
     have hyn : yi < V.length := by omega
     have hyv : (yi : Int) < (nv : Int) := by have := HNV.out; omega
     rw [hy] at cj
     obtain ⟨e, he⟩ : ∃ e, V[yi] = e := ⟨_, rfl⟩
     have HEY : Hid (ndAt V N[j] = e) := by show ndAt V N[j] = e; rw [hy, ndAt_is hyn]; exact he
     have HMJ : Hid (M[j] = N[j]) := hje.symm
     have y5 := (CW.out wr HM.out.bel).2.2.row.cell ndL_len yi hyn 5 (u := .int .i64 e.fr) (by rw [he]; rfl)
     have y0 := (CW.out wr HM.out.bel).2.2.row.cell ndL_len yi hyn 0 (u := .int .u64 e.id) (by rw [he]; rfl)
     rw [Nat.add_zero] at y0
     have HST : Hid (ltK d e → ∀ q, Hid (OrnI w ((wr.drewN q).setCell ⟨g, j + 1, none⟩ (.int .i64 (yi : Int))) V g c6 B d M (N.set (j + 1) (yi : Int)) j)) := fun h q => by
      have h2 := OrnI.step (HM.out.grow (w5 := wr.drewN q) ⟨rfl, rfl, rfl, Nat.le_refl _, fun _ _ => rfl⟩) hjN (by rw [HEY.out]; exact h)
      rw [hy] at h2
      exact h2
     have HFN : Hid (¬ ltK d e → ∀ q, OrdI w ((wr.drewN q).setCell ⟨g, j + 1, none⟩ (.int .i64 (xi : Int))) V l (k + 1) (.slice (some ⟨g, 0, none⟩) (k + 1) c6) (M.take (j + 1) ++ (xi : Int) :: M.drop (j + 1))) := fun h q => by
      rw [← HXI.out]
      refine OrnI.done HI5.out (by rw [HD.out]; exact HM.out.grow ⟨rfl, rfl, rfl, Nat.le_refl _, fun _ _ => rfl⟩) HX.out (fun m hm e2 => ?_)
      obtain rfl : m = j := by omega
      rw [HD.out, HMJ.out, HEY.out]
      exact h
     clear hje hy he hyr hMp
     by_cases f1 : d.fr < e.fr
     ·have f1' : decide (d.fr < e.fr) = true := decide_eq_true f1
      have FN := HST.out (Or.inl f1)
      clear HST HFN f1
      go_wp2
      go_quiet (fail)
      go_wp2
      go_roundw
      case rel => exact ⟨j, _, by go_num, by omega, FN nq⟩
      case measure => simp [intOf]
     have f1' : decide (d.fr < e.fr) = false := decide_eq_false f1
     by_cases f2 : e.fr = d.fr
     ·have f2' : (e.fr == d.fr) = true := by simpa using f2
      by_cases f3 : d.id < e.id
      ·have f3' : decide (d.id < e.id) = true := decide_eq_true f3
       have FN := HST.out (Or.inr ⟨f2.symm, f3⟩)
       clear HST HFN f1 f2 f3
       go_wp2
       go_quiet (fail)
       go_wp2
       go_roundw
       case rel => exact ⟨j, _, by go_num, by omega, FN nq⟩
       case measure => simp [intOf]
      ·have f3' : decide (d.id < e.id) = false := decide_eq_false f3
       have FN : Hid _ := HFN.out (by unfold ltK; omega)
       clear HST HFN f1 f2 f3
       go_wp2
       go_quiet (fail)
       go_wp2
       go_roundw
       case rel => exact ⟨k + 1, _, c6, _, by go_num, by go_num, by omega, FN.out nq⟩
       case measure => simp [intOf]; omega
     ·have f2' : (e.fr == d.fr) = false := by simpa using f2
      have FN : Hid _ := HFN.out (by unfold ltK; omega)
      clear HST HFN f1 f2
      go_wp2
      go_quiet (fail)
      go_wp2
      go_roundw
      case rel => exact ⟨k + 1, _, c6, _, by go_num, by go_num, by omega, FN.out nq⟩
      case measure => simp [intOf]; omega
structure RFo (w : World) (base f nb cn : Nat) (sv ov : Value) (V : List Nod) (O : List Int) : Prop where
 head : Blk w f #[sv, .slice (some ⟨nb, 0, none⟩) V.length cn, ov] 144
 row : RwG ndL 7 38 w nb cn V
 ord : w.ownsRow base 3 1 ov O.length (O.flatMap iL)
 len : V.length ≤ 1000
 fb : base ≤ f
 nbb : base ≤ nb
theorem blk_two {w : World} {b : Nat} {c d : Array Value} {T U : TypeId} (h : Blk w b c T) (h' : Blk w b d U) (hT : T ≠ U) : False := by
 have e : w.heap[b]? = some (.cells c T (0, 0)) := h
 have e' : w.heap[b]? = some (.cells d U (0, 0)) := h'
 rw [e] at e'
 injection e' with e'
 injection e' with _ e2 _
 exact hT e2
theorem owns_blk {w : World} {base n s g : Nat} {e : TypeId} {v : Value} {xs : List Value} (h : w.ownsRow base e s v n xs) (hg : v.ownBlock = some g) : base ≤ g ∧ ∃ cur, Blk w g cur e := by
 rcases h.2 with ⟨e1, _⟩ | ⟨g', cap, cur, e1, hb, hh, _⟩
 ·rw [e1] at hg; simp [Value.ownBlock] at hg
 ·rw [e1] at hg
  simp [Value.ownBlock] at hg
  subst hg
  exact ⟨hb, cur, hh⟩
theorem RwG.blk_ {α : Type} {f : α → List Value} {s : Nat} {T : TypeId} {w : World} {g cap : Nat} {L : List α} (h : RwG f s T w g cap L) : ∃ c, Blk w g c T := by
 obtain ⟨rest, hB, _⟩ := h.blk
 exact ⟨_, hB⟩
theorem RFo.ne {w : World} {base f nb cn : Nat} {sv ov : Value} {V : List Nod} {O : List Int} (h : RFo w base f nb cn sv ov V O) : f ≠ nb ∧ ov.ownBlock ≠ some f ∧ ov.ownBlock ≠ some nb := by
 obtain ⟨c, hc⟩ := h.row.blk_
 refine ⟨fun e => ?_, fun e => ?_, fun e => ?_⟩
 ·subst e; exact blk_two h.head hc (by decide)
 ·obtain ⟨_, cur, hb⟩ := owns_blk h.ord e
  exact blk_two h.head hb (by decide)
 ·obtain ⟨_, cur, hb⟩ := owns_blk h.ord e
  exact blk_two hc hb (by decide)
theorem RFo.below {w w' : World} {base f nb cn : Nat} {sv ov : Value} {V : List Nod} {O : List Int} (h : RFo w base f nb cn sv ov V O) (hb : Below w.heap.size w w') : RFo w' base f nb cn sv ov V O :=
 ⟨h.head.below hb h.head.lt, h.row.below hb, ownsRow_upd h.ord (Upd.ofBelow (S := fun _ => False) hb (fun k h1 h2 => by omega)) (fun _ _ h => h), h.len, h.fb, h.nbb⟩
theorem RFo.nodes {w w' : World} {base f nb cn : Nat} {sv ov : Value} {V V' : List Nod} {O : List Int} (h : RFo w base f nb cn sv ov V O) (hu : Upd (fun q => q = nb) w w') (hr : RwG ndL 7 38 w' nb cn V') (hl : V'.length = V.length) : RFo w' base f nb cn sv ov V' O := by
 obtain ⟨n1, n2, n3⟩ := h.ne
 refine ⟨by rw [hl]; exact h.head.upd hu n1, hr, ownsRow_upd h.ord hu (fun k e e' => ?_), by rw [hl]; exact h.len, h.fb, h.nbb⟩
 subst e'
 exact n3 e
theorem RFo.fnd {w : World} {base f nb cn : Nat} {sv ov : Value} {V : List Nod} {O : List Int} (h : RFo w base f nb cn sv ov V O) : FNd w f nb cn V := ⟨h.head.cell 1 rfl, h.row, h.len⟩
def FW (f nb : Nat) (ov : Value) (q : Nat) : Prop := q = f ∨ q = nb ∨ ov.ownBlock = some q
structure StV (n : Nat) (fin ini : Nat → Nod) (D : Nat → Prop) (V : List Nod) : Prop where
 len : V.length = n
 yes : ∀ i (h : i < V.length), D i → V[i] = fin i
 no : ∀ i (h : i < V.length), ¬ D i → V[i] = ini i
theorem StV.cast {n : Nat} {fin ini : Nat → Nod} {D D' : Nat → Prop} {V : List Nod} (h : StV n fin ini D V) (hD : ∀ i, i < n → (D i ↔ D' i)) : StV n fin ini D' V :=
 ⟨h.len, fun i hi d => h.yes i hi ((hD i (by have := h.len; omega)).2 d), fun i hi d => h.no i hi (fun hh => d ((hD i (by have := h.len; omega)).1 hh))⟩
theorem StV.set {n : Nat} {fin ini : Nat → Nod} {D : Nat → Prop} {V : List Nod} (h : StV n fin ini D V) (i : Nat) : StV n fin ini (fun j => D j ∨ j = i) (V.set i (fin i)) := by
 refine ⟨by rw [List.length_set]; exact h.len, fun j hj d => ?_, fun j hj d => ?_⟩
 ·rw [List.length_set] at hj
  by_cases e : j = i
  ·subst e; rw [List.getElem_set_self]
  ·rw [List.getElem_set_ne (fun h => e h.symm)]
   exact h.yes j hj (by rcases d with d | d; exact d; exact absurd d e)
 ·rw [List.length_set] at hj
  rw [List.getElem_set_ne (fun e => d (Or.inr e.symm))]
  exact h.no j hj (fun hh => d (Or.inl hh))
def hangI (d x : Nod) : Nod := { d with tree := x.tree, dep := x.dep + 1, fr := (clipI (d.fr, d.til) (x.fr, x.til)).1, til := (clipI (d.fr, d.til) (x.fr, x.til)).2 }
structure DEnv (n : Nat) (nm : List Int) (K : Nat → List Int) (fin ini : Nat → Nod) : Prop where
 nml : nm.length = n
 le : n ≤ 1000
 same : ∀ i, i < n → (fin i).org = (ini i).org ∧ (fin i).par = (ini i).par ∧ (fin i).id = (ini i).id
 kid : ∀ k i, k < n → i < n → (((ini i).org = 0 ∧ (ini i).par = (fin k).id) ↔ nm.getD i (-1) = (k : Int))
 hang : ∀ k i, k < n → i < n → nm.getD i (-1) = (k : Int) → fin i = hangI (ini i) (fin k)
 kids : ∀ k, k < n → (kidsF nm n k).Perm (K k) ∧ (K k).Pairwise (fun a b => ¬ ltK (fin b.toNat) (fin a.toNat))
 inj : ∀ i j, i < n → j < n → (fin i).id = (fin j).id → i = j
 dep : ∀ k, k < n → 0 ≤ (fin k).dep ∧ (fin k).dep ≤ 1000000
theorem DEnv.test {n : Nat} {nm : List Int} {K : Nat → List Int} {fin ini : Nat → Nod} (E : DEnv n nm K fin ini) {D : Nat → Prop} {V : List Nod} (h : StV n fin ini D V) {k i : Nat} (hk : k < n) (hi : i < V.length) : ((V[i].org = 0 ∧ V[i].par = (fin k).id) ↔ nm.getD i (-1) = (k : Int)) := by
 have hi' : i < n := by rw [← h.len]; exact hi
 rw [← E.kid k i hk hi']
 by_cases d : D i
 ·rw [h.yes i hi d, (E.same i hi').1, (E.same i hi').2.1]
 ·rw [h.no i hi d]
theorem getD_nm {nm : List Int} {i : Nat} (h : i < nm.length) : nm.getD i (-1) = nm[i] := by simp [List.getD, h]
structure L1I (w2 wr : World) (n : Nat) (nm : List Int) (fin ini : Nat → Nod) (D : Nat → Prop) (nb cn k i : Nat) (lv : Value) (V : List Nod) : Prop where
 upd : Upd (fun q => q = nb) w2 wr
 row : RwG ndL 7 38 wr nb cn V
 st : StV n fin ini (fun j => D j ∨ (j < i ∧ nm.getD j (-1) = (k : Int))) V
 own : wr.ownsRow w2.heap.size 3 1 lv (kidsF nm i k).length ((kidsF nm i k).flatMap iL)
theorem L1I.skip {w2 wr w5 : World} {n : Nat} {nm : List Int} {fin ini : Nat → Nod} {D : Nat → Prop} {nb cn k i : Nat} {lv : Value} {V : List Nod} (h : L1I w2 wr n nm fin ini D nb cn k i lv V) (hi : i < nm.length) (hn : nm.getD i (-1) ≠ (k : Int)) (hb : Below wr.heap.size wr w5) : L1I w2 w5 n nm fin ini D nb cn k (i + 1) lv V := by
 have e : kidsF nm (i + 1) k = kidsF nm i k := by
  rw [kidsF_succ nm i k hi, if_neg]
  rw [← getD_nm hi]; exact hn
 have hu : Upd (fun _ => False) wr w5 := Upd.ofBelow hb (fun k h1 h2 => by omega)
 refine ⟨h.upd.trans hu (fun _ _ h => h.elim), h.row.below hb, h.st.cast fun j hj => ?_, by rw [e]; exact ownsRow_upd h.own hu (fun _ _ h => h)⟩
 constructor
 ·rintro (d | ⟨d1, d2⟩)
  ·exact Or.inl d
  ·exact Or.inr ⟨by omega, d2⟩
 ·rintro (d | ⟨d1, d2⟩)
  ·exact Or.inl d
  ·by_cases e : j = i
   ·subst e; exact absurd d2 hn
   ·exact Or.inr ⟨by omega, d2⟩
theorem L1I.take {w2 wr w5 w6 : World} {n : Nat} {nm : List Int} {fin ini : Nat → Nod} {D : Nat → Prop} {nb cn k i : Nat} {lv : Value} {V : List Nod} (h : L1I w2 wr n nm fin ini D nb cn k i lv V) (hi : i < nm.length) (hn : nm.getD i (-1) = (k : Int)) (hu5 : Upd (fun q => q = nb) wr w5) (hr5 : RwG ndL 7 38 w5 nb cn (V.set i (fin i))) {g cap : Nat} (hg : w2.heap.size ≤ g) (hr6 : RwG iL 1 3 w6 g cap (kidsF nm i k ++ [(i : Int)])) (hu6 : Upd (fun q => lv.ownBlock = some q) w5 w6) (hnb : nb < w2.heap.size) : L1I w2 w6 n nm fin ini D nb cn k (i + 1) (.slice (some ⟨g, 0, none⟩) ((kidsF nm i k).length + 1) cap) (V.set i (fin i)) := by
 have e : kidsF nm (i + 1) k = kidsF nm i k ++ [(i : Int)] := by
  rw [kidsF_succ nm i k hi, if_pos]
  rw [← getD_nm hi]; exact hn
 have hl : ∀ q, lv.ownBlock = some q → w2.heap.size ≤ q := fun q e => (owns_blk h.own e).1
 refine ⟨(h.upd.trans hu5 (fun _ _ h => h)).trans hu6 (fun q hq e => by have := hl q e; omega), hr5.upd hu6 (fun e => by have := hl nb e; omega), (h.st.set i).cast fun j hj => ?_, ?_⟩
 ·constructor
  ·rintro ((d | ⟨d1, d2⟩) | d)
   ·exact Or.inl d
   ·exact Or.inr ⟨by omega, d2⟩
   ·subst d; exact Or.inr ⟨by omega, hn⟩
  ·rintro (d | ⟨d1, d2⟩)
   ·exact Or.inl (Or.inl d)
   ·by_cases e : j = i
    ·exact Or.inr e
    ·exact Or.inl (Or.inr ⟨by omega, d2⟩)
 ·have := hr6.owns iL_len hg
  rw [e]
  simpa using this
theorem own_ints {w : World} {base n c : Nat} {e : TypeId} {ad : Option Addr} {X : List Int} (h : w.ownsRow base e 1 (.slice ad n c) n (X.flatMap iL)) : HoldsV w ad n (intsV .i64 X) := by
 rw [iL_flat] at h
 refine ⟨by have := h.1; omega, fun j u hj => ?_⟩
 have hl : j < n := by have := (List.getElem?_eq_some_iff.mp hj).1; have := h.1; omega
 obtain ⟨g, rfl, hc⟩ := own_at h (by omega)
 exact ⟨_, rfl, by rw [Addr.add_lit, Nat.zero_add]; exact hc j u hj⟩
def DnP (base f nb cn : Nat) (sv : Value) (n : Nat) (fin ini : Nat → Nod) (T : List Nat) (k : Nat) (D : Nat → Prop) (ov : Value) (O : List Int) (w : World) (e : Ending) (w' : World) : Prop := e = .returned (.tuple #[]) ∧ ∃ ov' V', RFo w' base f nb cn sv ov' V' (O ++ (k :: T).map (fun c : Nat => (c : Int))) ∧ StV n fin ini (fun i => D i ∨ i ∈ T) V' ∧ Upd (FW f nb ov) w w' ∧ ∀ q, ov'.ownBlock = some q → q < w.heap.size → ov.ownBlock = some q
def DownC (base f nb cn : Nat) (sv : Value) (n : Nat) (fin ini : Nat → Nod) (T : List Nat) (k : Nat) : Prop := ∀ (w : World) (V : List Nod) (D : Nat → Prop) (O : List Int) (ov : Value), RFo w base f nb cn sv ov V O → StV n fin ini D V → D k → (∀ x ∈ T, ¬ D x) → T.Nodup → O.length + 1 + T.length ≤ 1000000 → base ≤ w.heap.size → Calls Tryz.prog 61 #[.pointer (some ⟨f, 0, none⟩), .int .i64 k] w (DnP base f nb cn sv n fin ini T k D ov O w)
structure L2I (base f nb cn : Nat) (sv : Value) (n : Nat) (fin ini : Nat → Nod) (T : Nat → List Nat) (k : Nat) (D : Nat → Prop) (ov1 : Value) (O : List Int) (M : List Int) (w4 wr : World) (q : Nat) (ov : Value) (V : List Nod) : Prop where
 fo : RFo wr base f nb cn sv ov V (O ++ (k :: ((M.take q).map Int.toNat).flatMap (fun c => c :: T c)).map (fun c : Nat => (c : Int)))
 st : StV n fin ini (fun i => (D i ∨ i ∈ M.map Int.toNat) ∨ i ∈ ((M.take q).map Int.toNat).flatMap T) V
 upd : Upd (FW f nb ov1) w4 wr
 mov : ∀ q, ov.ownBlock = some q → q < w4.heap.size → ov1.ownBlock = some q
def ROd (w : World) (f n : Nat) : Prop := ∃ (base : Nat) (ov : Value) (O : List Nat), w.cell? ⟨f, 2, none⟩ = some ov ∧ w.ownsRow base 3 1 ov O.length ((O.map (fun c : Nat => (c : Int))).flatMap iL) ∧ (∀ i, i ∈ O ↔ i < n) ∧ O.Nodup
theorem run_st1 {P : Program} (w : World) (b o : Nat) (ty : TypeId) (v : Value) (hv : v.cells = #[v]) (ht : w.there b o 1) (hi : (P.info? ty).map (·.size) = some 1) (h1 : v.oneCell' = true) : (storeVar ty ⟨b, o, none⟩ v).run P w = .ok () (w.setCell ⟨b, o, none⟩ v) := by
 have := run_storeCells_cells (P := P) b o [v] 0 w (fun j hj => by simpa using (ht j (by simpa using hj)).1) (fun j hj => by simpa using (ht j (by simpa using hj)).2) (fun u hu => by simp at hu; subst hu; exact h1)
 cases hq : P.info? ty with
 | none => simp [hq] at hi
 | some i =>
  have hs : i.size = 1 := by simpa [hq] using hi
  simp only [Nat.add_zero] at this
  simp [storeVar, sizeOf, typeInfo, hq, hv, hs, this, World.setCells]
theorem wp_st1 {op : Oper} {a : Act} {w : World} {K : Act → World → Prop} {Q : Exit → Act → World → Prop} (ty : TypeId) (x y : Operand) (ho : op.op = .store ty x y) (b o : Nat) (v : Value) (hx : a.eval x = .pointer (some ⟨b, o, none⟩)) (hy : a.eval y = v) (hv : v.cells = #[v]) (ht : w.there b o 1) (hi : (Tryz.prog.info? ty).map (·.size) = some 1) (h1 : v.oneCell' = true)
  (h : K (a.put op.dst undef) (w.setCell ⟨b, o, none⟩ v)) : op.wp Tryz.prog a w K Q := by
 unfold Oper.wp execOp
 simp only [ho, hx, hy, Instr.storeAt, Instr.sureAddr, Sem.run_bind, Sem.run_pure, Result.andThen_ok, run_st1 w b o ty v hv ht hi h1]
 exact h
theorem wpList_st1 {ops : Array Oper} {rest : List Oper} {op : Oper} {a : Act} {w : World} {Q : Exit → Act → World → Prop} (hgd : op.guard = none) (ty : TypeId) (x y : Operand) (ho : op.op = .store ty x y) (b o : Nat) (v : Value) (hx : a.eval x = .pointer (some ⟨b, o, none⟩)) (hy : a.eval y = v) (hv : v.cells = #[v]) (ht : w.there b o 1) (hi : (Tryz.prog.info? ty).map (·.size) = some 1) (h1 : v.oneCell' = true)
  (h : ∀ w', w' = w.setCell ⟨b, o, none⟩ v → wpList Tryz.prog ops Q rest (a.put op.dst undef) w') : wpList Tryz.prog ops Q (op :: rest) a w :=
 wpList_plain hgd fun _ hK => wp_st1 ty x y ho b o v hx hy hv ht hi h1 (hK _ _ (h _ rfl))
theorem step_st1 {ops : Array Oper} {op : Oper} {a : Act} {w : World} {K : Act → World → Prop} {Q : Exit → Act → World → Prop} {E : Prop} (hgd : op.guard = none) (ty : TypeId) (x y : Operand) (ho : op.op = .store ty x y) (b o : Nat) (v : Value) (hx : a.eval x = .pointer (some ⟨b, o, none⟩)) (hy : a.eval y = v) (hv : v.cells = #[v]) (ht : w.there b o 1) (hi : (Tryz.prog.info? ty).map (·.size) = some 1) (h1 : v.oneCell' = true)
  (h : ∀ w', w' = w.setCell ⟨b, o, none⟩ v → K (a.put op.dst undef) w') : if Region.wanted op (yielded ops a.tmps) = true then Oper.wp Tryz.prog op a w K Q else E := by
 have hw : Region.wanted op (yielded ops a.tmps) = true := by simp [Region.wanted, hgd]
 rw [if_pos hw]
 exact wp_st1 ty x y ho b o v hx hy hv ht hi h1 (h _ rfl)
theorem RwG.one {α : Type} {f : α → List Value} {s : Nat} {T : TypeId} {w : World} {g cap : Nat} {L : List α} (h : RwG f s T w g cap L) (hf : ∀ x, (f x).length = s) (i : Nat) (hi : i < L.length) (j : Nat) (hj : j < s) : w.there g (i * s + j) 1 := fun q hq => by
 obtain rfl : q = 0 := by omega
 refine ⟨?_, h.free _⟩
 have hl : j < (f L[i]).length := by rw [hf]; exact hj
 rw [Nat.add_zero, h.cell hf i hi j (u := (f L[i])[j]) (List.getElem?_eq_getElem hl)]
 rfl
theorem Blk.one {w : World} {b : Nat} {c : Array Value} {T : TypeId} (h : Blk w b c T) (j : Nat) (hj : j < c.size) : w.there b j 1 := fun q hq => by
 obtain rfl : q = 0 := by omega
 refine ⟨?_, h.frozen _⟩
 rw [Nat.add_zero, h.cell j (v := c[j]) (by simp [hj])]
 rfl
theorem step_stI {ops : Array Oper} {o : Oper} {a : Act} {w : World} {K : Act → World → Prop} {Q : Exit → Act → World → Prop} {E : Prop} (hgd : o.guard = none) (x y : Operand) (ho : o.op = .store 36 x y) (g cn i : Nat) (V : List Nod) (p q : Int) (hB : RwG ndL 7 38 w g cn V) (hi : i < V.length) (hx : a.eval x = .pointer (some ⟨g, i * 7 + 5, none⟩)) (hy : a.eval y = .agg #[.int .i64 p, .int .i64 q])
  (h : ∀ w', RwG ndL 7 38 w' g cn (V.set i { V[i] with fr := p, til := q }) → Upd (fun k => k = g) w w' → K (a.put o.dst undef) w') : if Region.wanted o (yielded ops a.tmps) = true then Oper.wp Tryz.prog o a w K Q else E := by
 have hw : Region.wanted o (yielded ops a.tmps) = true := by simp [Region.wanted, hgd]
 rw [if_pos hw]
 have ht : w.there g (i * 7 + 5) 2 := fun j hj => by
  have h1 := hB.there ndL_len i hi (5 + j) (by omega)
  rwa [← Nat.add_assoc] at h1
 refine wp_store_mid 36 x y ho g (i * 7 + 5) #[.int .i64 p, .int .i64 q] hx hy ht (by kernel_rfl) (all_oneCell_toArray (cs := [.int .i64 p, .int .i64 q]) (by intro v hv; simp at hv; rcases hv with rfl | rfl <;> rfl)) ?_
 refine h _ ?_ (setCells_upd _ _ _ _)
 have h1 := hB.put ndL_len i hi 5 (by omega) (.int .i64 p) { V[i] with fr := p } rfl
 have h2 := h1.put ndL_len i (by rw [List.length_set]; exact hi) 6 (by omega) (.int .i64 q) { V[i] with fr := p, til := q } (by rw [List.getElem_set_self]; rfl)
 rw [List.set_set] at h2
 exact h2
end Go.Proofs.YtnffedmcblbkoaaGreatDoor
namespace Go.Proofs.YtnffedmcblbkoaaGreatDoor
open Go Go.RowKit Go.Lib
set_option maxRecDepth 100000
theorem refEmpty_any (f t : Int) (w : World) :
  Calls Tryz.prog 144 #[.agg #[.int .i64 f, .int .i64 t]] w fun e w' => e = .returned (.bool (decide (t ≤ f))) ∧ w' = w.alloc (.cells #[.int .i64 f, .int .i64 t] 36) := by
 go_enter Tryz.func144, Tryz.ntmps144
 go_wp2
 go_ret
 exact ⟨rfl, rfl⟩
theorem into_any (v x y : Int) (w : World) :
  Calls Tryz.prog 145 #[.int .i64 v, .int .i64 x, .int .i64 y] w fun e w' => e = .returned (.int .i64 (if v < x then x else if y < v then y else v)) ∧ w' = w := by
 by_cases h1 : v < x
 ·rw [if_pos h1]
  go_enter Tryz.func145, Tryz.ntmps145
  go_wp2
  go_ret
  exact ⟨rfl, rfl⟩
 ·rw [if_neg h1]
  by_cases h2 : y < v
  ·rw [if_pos h2]
   go_enter Tryz.func145, Tryz.ntmps145
   go_wp2
   go_ret
   exact ⟨rfl, rfl⟩
  ·rw [if_neg h2]
   go_enter Tryz.func145, Tryz.ntmps145
   go_wp2
   go_ret
   exact ⟨rfl, rfl⟩
theorem into_br {v x y : Int} (h : x < y) : (if v < x then x else if y < v then y else v) = brI v x y := by
 unfold brI
 repeat' split
 all_goals omega
theorem refClip_any (a b : Int × Int) (w : World) :
  Calls Tryz.prog 96 #[.agg #[.int .i64 a.1, .int .i64 a.2], .agg #[.int .i64 b.1, .int .i64 b.2]] w fun e w' => e = .returned (.agg #[.int .i64 (clipI a b).1, .int .i64 (clipI a b).2]) ∧ Below w.heap.size w w' := by
 obtain ⟨a1, a2⟩ := a
 obtain ⟨b1, b2⟩ := b
 have E := refEmpty_any
 unfold clipI
 by_cases h : b2 ≤ b1
 ·rw [if_pos h]
  have h' : decide (b2 ≤ b1) = true := decide_eq_true h
  go_enter Tryz.func96, Tryz.ntmps96
  go_wp2_with (go_at_call 144; refine (E _ _ _).mono ?_; rintro e w1 ⟨rfl, rfl⟩)
  go_returns
  refine ⟨rfl, ?_⟩
  repeat' first | exact Below.refl _ _ | refine Below.alloc ?_ (by simp <;> omega) _ | refine Below.setCell ?_ ?_ _
 ·rw [if_neg h]
  have h' : decide (b2 ≤ b1) = false := decide_eq_false h
  have B : ∀ v w, Calls Tryz.prog 145 #[.int .i64 v, .int .i64 b1, .int .i64 b2] w fun e w' => e = .returned (.int .i64 (brI v b1 b2)) ∧ w' = w := fun v w => by
   have := into_any v b1 b2 w
   rw [into_br (by omega)] at this
   exact this
  by_cases k : a2 ≤ a1
  ·rw [if_pos k]
   have k' : decide (a2 ≤ a1) = true := decide_eq_true k
   go_enter Tryz.func96, Tryz.ntmps96
   go_wp2_with (first
    | (go_at_call 144; refine (E _ _ _).mono ?_; rintro e w1 ⟨rfl, rfl⟩)
    | (go_at_call 145; refine (B _ _).mono ?_; rintro e w1 ⟨rfl, rfl⟩))
   go_returns
   refine ⟨rfl, ?_⟩
   repeat' first | exact Below.refl _ _ | refine Below.alloc ?_ (by simp <;> omega) _ | refine Below.setCell ?_ ?_ _
  ·rw [if_neg k]
   have k' : decide (a2 ≤ a1) = false := decide_eq_false k
   go_enter Tryz.func96, Tryz.ntmps96
   go_wp2_with (first
    | (go_at_call 144; refine (E _ _ _).mono ?_; rintro e w1 ⟨rfl, rfl⟩)
    | (go_at_call 145; refine (B _ _).mono ?_; rintro e w1 ⟨rfl, rfl⟩))
   go_returns
   refine ⟨rfl, ?_⟩
   repeat' first | exact Below.refl _ _ | refine Below.alloc ?_ (by simp <;> omega) _ | refine Below.setCell ?_ ?_ _
end Go.Proofs.YtnffedmcblbkoaaGreatDoor
namespace Go.Proofs.YtnffedmcblbkoaaGreatDoor
open Go Go.RowKit
set_option maxRecDepth 100000
section
variable {T : Nat → List Nat}
theorem part_apart {A B : List Nat} {c : Nat} (h : ((A ++ c :: B).flatMap (fun c => c :: T c)).Nodup) : (T c).Nodup ∧ ∀ x ∈ T c, x ∉ A ++ c :: B ∧ x ∉ A.flatMap T := by
 rw [List.flatMap_append, List.flatMap_cons, List.cons_append] at h
 obtain ⟨h1, h2, h3⟩ := List.nodup_append.1 h
 obtain ⟨h4, h5⟩ := List.nodup_cons.1 h2
 obtain ⟨h6, h7, h8⟩ := List.nodup_append.1 h5
 have hin : ∀ (L : List Nat) y, y ∈ L → y ∈ L.flatMap (fun c => c :: T c) := fun L y hy => List.mem_flatMap.2 ⟨y, hy, List.mem_cons_self⟩
 refine ⟨h6, fun x hx => ⟨fun hh => ?_, fun hh => ?_⟩⟩
 ·rcases List.mem_append.1 hh with hh | hh
  ·exact h3 x (hin A x hh) x (List.mem_cons_of_mem _ (List.mem_append.2 (Or.inl hx))) rfl
  ·rcases List.mem_cons.1 hh with hh | hh
   ·subst hh; exact h4 (List.mem_append.2 (Or.inl hx))
   ·exact h8 x hx x (hin B x hh) rfl
 ·obtain ⟨y, hy, hxy⟩ := List.mem_flatMap.1 hh
  exact h3 x (List.mem_flatMap.2 ⟨y, hy, List.mem_cons_of_mem _ hxy⟩) x (List.mem_cons_of_mem _ (List.mem_append.2 (Or.inl hx))) rfl
end
theorem take_map_succ {M : List Int} {q : Nat} (hq : q < M.length) : (M.take (q + 1)).map Int.toNat = (M.take q).map Int.toNat ++ [M[q].toNat] := by
 rw [List.take_succ_eq_append_getElem hq, List.map_append]; rfl
theorem L2I.next {base f nb cn : Nat} {sv : Value} {n : Nat} {fin ini : Nat → Nod} {T : Nat → List Nat} {k : Nat} {D : Nat → Prop} {ov1 : Value} {O M : List Int} {w4 wr w5 : World} {q : Nat} {ov ov3 : Value} {V V3 : List Nod} (h : L2I base f nb cn sv n fin ini T k D ov1 O M w4 wr q ov V) (hq : q < M.length) {c : Nat} (hc : M[q].toNat = c)
  (h1 : RFo w5 base f nb cn sv ov3 V3 ((O ++ (k :: ((M.take q).map Int.toNat).flatMap (fun c => c :: T c)).map (fun c : Nat => (c : Int))) ++ (c :: T c).map (fun c : Nat => (c : Int)))) (h2 : StV n fin ini (fun i => ((D i ∨ i ∈ M.map Int.toNat) ∨ i ∈ ((M.take q).map Int.toNat).flatMap T) ∨ i ∈ T c) V3) (h3 : Upd (FW f nb ov) wr w5) (h4 : ∀ q, ov3.ownBlock = some q → q < wr.heap.size → ov.ownBlock = some q) : L2I base f nb cn sv n fin ini T k D ov1 O M w4 w5 (q + 1) ov3 V3 := by
 have e := take_map_succ hq
 rw [hc] at e
 refine ⟨?_, ?_, ?_, ?_⟩
 ·rw [e, List.flatMap_append]
  simpa using h1
 ·refine h2.cast fun i hi => ?_
  rw [e, List.flatMap_append, List.mem_append]
  simp [or_assoc]
 ·refine h.upd.trans h3 fun j hj hh => ?_
  rcases hh with hh | hh | hh
  ·exact Or.inl hh
  ·exact Or.inr (Or.inl hh)
  ·exact Or.inr (Or.inr (h.mov j hh hj))
 ·intro j hj hl
  exact h.mov j (h4 j hj (Nat.lt_of_lt_of_le hl h.upd.size)) hl
theorem a3_2 (a b c d : Value) : (#[a, b, c]).setIfInBounds 2 d = #[a, b, d] := rfl
set_option maxHeartbeats 16000000 in
theorem down_step (base f nb cn : Nat) (sv : Value) (n : Nat) (nm : List Int) (K : Nat → List Int) (fin ini : Nat → Nod) (E : DEnv n nm K fin ini) (T : Nat → List Nat) (k : Nat) (hk : k < n) (IH : ∀ c ∈ (K k).map Int.toNat, DownC base f nb cn sv n fin ini (T c) c) : DownC base f nb cn sv n fin ini (((K k).map Int.toNat).flatMap (fun c => c :: T c)) k := by
 intro w V D O ov hfo hst hDk hTD hnd hlen hbase
 obtain ⟨oa, oc, rfl⟩ := owns_slice hfo.ord
 have HE : Hid (DEnv n nm K fin ini) := E
 have HIH : Hid (∀ c ∈ (K k).map Int.toNat, DownC base f nb cn sv n fin ini (T c) c) := IH
 have HFO : Hid (RFo w base f nb cn sv (.slice oa O.length oc) V O) := hfo
 have HST : Hid (StV n fin ini D V) := hst
 have HDK : Hid (D k) := hDk
 have HTD : Hid (∀ x ∈ ((K k).map Int.toNat).flatMap (fun c => c :: T c), ¬ D x) := hTD
 have HND : Hid ((((K k).map Int.toNat).flatMap (fun c => c :: T c)).Nodup) := hnd
 have HLN : Hid (O.length + 1 + (((K k).map Int.toNat).flatMap (fun c => c :: T c)).length ≤ 1000000) := hlen
 have HBS : Hid (base ≤ w.heap.size) := hbase
 have FIN : Hid (∀ w' ov' V', RFo w' base f nb cn sv ov' V' (O ++ (k :: ((K k).map Int.toNat).flatMap (fun c => c :: T c)).map (fun c : Nat => (c : Int))) → StV n fin ini (fun i => D i ∨ i ∈ ((K k).map Int.toNat).flatMap (fun c => c :: T c)) V' → Upd (FW f nb (.slice oa O.length oc)) w w' → (∀ q, ov'.ownBlock = some q → q < w.heap.size → (Value.slice oa O.length oc).ownBlock = some q) → DnP base f nb cn sv n fin ini (((K k).map Int.toNat).flatMap (fun c => c :: T c)) k D (.slice oa O.length oc) O w (.returned (.tuple #[])) w') := fun w' ov' V' h1 h2 h3 h4 => ⟨rfl, ov', V', h1, h2, h3, h4⟩
 generalize DnP base f nb cn sv n fin ini (((K k).map Int.toNat).flatMap (fun c => c :: T c)) k D (.slice oa O.length oc) O w = RR at *
 have HVL : Hid (V.length = n) := hst.len
 have hn1 := E.le
 have hn2 : (n : Int) ≤ 1000 := by omega
 obtain ⟨x, hx⟩ : ∃ x, fin k = x := ⟨_, rfl⟩
 have HX : Hid (fin k = x) := hx
 have hdep := E.dep k hk
 rw [hx] at hdep
 obtain ⟨hd0, hd1⟩ := hdep
 have c1 := hfo.head.cell 1 rfl
 rw [hst.len] at c1
 have c2 := hfo.head.cell 2 rfl
 have NE := hfo.ne
 have HNE : Hid (f ≠ nb ∧ (Value.slice oa O.length oc).ownBlock ≠ some f ∧ (Value.slice oa O.length oc).ownBlock ≠ some nb) := NE
 have hkn : (k : Int) < (n : Int) := by omega
 have HOB : Hid (O.length ≤ 1000000) := by show O.length ≤ 1000000; omega
 obtain ⟨ol, hol⟩ : ∃ ol, O.length = ol := ⟨_, rfl⟩
 have HOL : Hid (O.length = ol) := hol
 rw [hol] at HFO FIN HNE HOB c2
 have HKV : Hid (∀ h : k < V.length, V[k] = x) := fun h => by rw [hst.yes k h hDk]; exact hx
 have HORD : Hid (w.ownsRow base 3 1 (.slice oa ol oc) ol (O.flatMap iL)) := by have := HFO.out.ord; rw [HOL.out] at this; exact this
 have ST2 : Hid (∀ (g c3 : Nat) (w1 w2 : World), base ≤ g → RwG iL 1 3 w1 g c3 (O ++ [(k : Int)]) → Upd (fun q => (Value.slice oa ol oc).ownBlock = some q) w w1 → ((Value.slice oa ol oc).ownBlock = some g ∨ w.heap.size ≤ g) → w2 = w1.setCell ⟨f, 2, none⟩ (.slice (some ⟨g, 0, none⟩) (ol + 1) c3) → RFo w2 base f nb cn sv (.slice (some ⟨g, 0, none⟩) (ol + 1) c3) V (O ++ [(k : Int)]) ∧ Upd (FW f nb (.slice oa ol oc)) w w2) := fun g c3 w1 w2 hg hr hu hm e => by
  subst e
  obtain ⟨m1, m2, m3⟩ := HNE.out
  have hf : Blk w1 f #[sv, .slice (some ⟨nb, 0, none⟩) V.length cn, .slice oa ol oc] 144 := HFO.out.head.upd hu m2
  have hu2 : Upd (fun q => q = f) w1 (w1.setCell ⟨f, 2, none⟩ (.slice (some ⟨g, 0, none⟩) (ol + 1) c3)) := setCell_updI _ _ _ _
  have hgf : g ≠ f := fun e => by
   subst e
   obtain ⟨c, hc⟩ := hr.blk_
   exact blk_two hf hc (by decide)
  refine ⟨⟨?_, (HFO.out.row.upd hu m3).upd hu2 (fun e => m1 e.symm), ?_, HFO.out.len, HFO.out.fb, HFO.out.nbb⟩, ?_⟩
  ·have := hf.set 2 (.slice (some ⟨g, 0, none⟩) (ol + 1) c3)
   rwa [a3_2] at this
  ·have h1 := (hr.upd hu2 hgf).owns iL_len hg
   rw [List.length_append, HOL.out] at h1
   rw [List.length_append, HOL.out]
   exact h1
  ·refine (hu.mono (fun q _ e => Or.inr (Or.inr e))).trans (hu2.mono (fun q _ e => Or.inl e)) (fun _ _ h => h)
 have RNX : Hid (∀ (w2 : World) (v : Value) (O' : List Int) (_ : Unit), RFo w2 base f nb cn sv v V O' → w2.rangeAt nb (k * 7) (ndL x)) := fun w2 v O' _ h => by
  have hkV : k < V.length := by rw [HVL.out]; exact hk
  have := h.row.range ndL_len k hkV
  rw [HKV.out hkV] at this
  exact this
 have HC1 : Hid (∀ (w2 : World) (v : Value) (O' : List Int) (_ : Unit), RFo w2 base f nb cn sv v V O' → w2.cell? ⟨f, 1, none⟩ = some (.slice (some ⟨nb, 0, none⟩) n cn)) := fun w2 v O' _ h => by
  have := h.head.cell 1 rfl
  rw [HVL.out] at this
  exact this
 clear E IH hfo hst hDk hTD hnd hlen hbase hx NE hol
 go_enter Tryz.func61, Tryz.ntmps61
 go_wp2_with (first
  | (at_builtin; refine wpList_appI w rfl _ _ rfl base (.slice oa ol oc) ol O (k : Int) _ rfl rfl HORD.out HOL.out rfl HOB.out HBS.out ?_; intro g c3 w1 hg1 hr1 hu1 hm1; have HH1 : Hid (Blk w1 f #[sv, .slice (some ⟨nb, 0, none⟩) V.length cn, .slice oa ol oc] 144) := HFO.out.head.upd hu1 HNE.out.2.1; have HG1 : Hid (base ≤ g) := hg1; have HR1 : Hid (RwG iL 1 3 w1 g c3 (O ++ [(k : Int)])) := hr1; have HU1 : Hid (Upd (fun q => (Value.slice oa ol oc).ownBlock = some q) w w1) := hu1; have HM1 : Hid ((Value.slice oa ol oc).ownBlock = some g ∨ w.heap.size ≤ g) := hm1; clear hg1 hr1 hu1 hm1 c1 c2)
  | (refine wpList_st1 rfl _ _ _ rfl f 2 (.slice (some ⟨g, 0, none⟩) (ol + 1) c3) rfl rfl rfl (HH1.out.one 2 (Nat.lt_succ_self 2)) (by kernel_rfl) rfl ?_; intro w2 hw2; have H2 : Hid (RFo w2 base f nb cn sv (.slice (some ⟨g, 0, none⟩) (ol + 1) c3) V (O ++ [(k : Int)]) ∧ Upd (FW f nb (.slice oa ol oc)) w w2) := ST2.out g c3 w1 w2 HG1.out HR1.out HU1.out HM1.out hw2; clear hw2 HR1 HU1 HH1; have RN2 : Hid (w2.rangeAt nb (k * 7) (ndL x)) := RNX.out _ _ _ () H2.out.1; have d1 := HC1.out _ _ _ () H2.out.1)
  | (refine wpList_load_mid rfl 38 _ rfl nb (k * 7) rfl (ndL x) _ RN2.out Tryz.underlying38 rfl (by kernel_rfl) ?_)
  | (refine wpList_stW rfl 38 _ _ rfl w2.heap.size (ndL zNd) (ndL x) 38 (Blk.new _ _ _) rfl rfl rfl (by kernel_rfl) (ndL_one _) ?_; intro w3 n3 u3; have HB3 : Hid (Blk w3 w2.heap.size (ndL x).toArray 38) := n3; have HBW : Hid (Below w2.heap.size w2 w3) := ((Below.refl _ _).alloc (Nat.le_refl _) _).trans (u3.below (by simp) (fun q hq e => by omega)); clear n3 u3 d1))
 (try simp only [Act.put])
 obtain ⟨B, hB⟩ : ∃ B, w2.heap.size = B := ⟨_, rfl⟩
 have HBB : Hid (w2.heap.size = B) := hB
 rw [hB] at HB3
 (try rw [hB])
 clear hB RN2
 obtain ⟨ov1, hov1⟩ : ∃ v, Value.slice (some ⟨g, 0, none⟩) (ol + 1) c3 = v := ⟨_, rfl⟩
 rw [hov1] at H2
 have HF3 : Hid (RFo w3 base f nb cn sv ov1 V (O ++ [(k : Int)])) := H2.out.1.below HBW.out
 have HU3 : Hid (Upd (FW f nb (.slice oa ol oc)) w w3) := H2.out.2.trans (Upd.ofBelow (S := fun _ => False) HBW.out (fun k h1 h2 => by omega)) (fun _ _ h => h.elim)
 have HMV : Hid (∀ q, ov1.ownBlock = some q → q < w.heap.size → (Value.slice oa ol oc).ownBlock = some q) := fun q e hq => by
  rw [← hov1] at e
  have e' : g = q := by simpa [Value.ownBlock] using e
  subst e'
  rcases HM1.out with h | h
  ·exact h
  ·omega
 have HNB : Hid (nb < w3.heap.size) := by show nb < w3.heap.size; exact HF3.out.row.lt
 have HBN : Hid (B ≠ nb) := by
  show B ≠ nb
  intro e
  have h1 := H2.out.1.row.lt
  have h2 := HBB.out
  omega
 have HOV : Hid (∀ q, ov1.ownBlock = some q → q < w3.heap.size) := fun q e => by
  obtain ⟨_, cur, hb⟩ := owns_blk HF3.out.ord e
  exact hb.lt
 have L0 : Hid (L1I w3 w3 n nm fin ini D nb cn k 0 (.slice none 0 0) V) := ⟨Upd.refl _ _, HF3.out.row, HST.out.cast (fun i hi => ⟨Or.inl, fun h => by rcases h with h | h; exact h; omega⟩), World.ownsRow_nil _ _ _ _⟩
 clear hov1 HM1 HG1
 go_wp2
 go_loopw [5, 6] (fun z5 z6 wr => ∃ (i m : Nat) (V : List Nod) (la : Option Addr) (ca : Nat), z5 = .slice la m ca ∧ z6 = .int .i64 i ∧ i ≤ n ∧ m ≤ i ∧ Hid ((kidsF nm i k).length = m ∧ L1I w3 wr n nm fin ini D nb cn k i (.slice la m ca) V)) (fun _ z6 _ => n - (intOf z6).toNat)
 case atStart => exact ⟨0, 0, V, none, 0, rfl, rfl, by omega, by omega, rfl, L0.out⟩
 case round =>
  clear L0
  obtain ⟨i, m, V, la, ca, rfl, rfl, hi, hmi, HL⟩ := hrel
  have HVn : Hid (V.length = n) := HL.out.2.st.len
  have q1 := (HF3.out.head.upd HL.out.2.upd HNE.out.1).cell 1 rfl
  rw [HVL.out] at q1
  obtain ⟨e0, e1, e2, e3, e4, e5, e6, _⟩ := node_cells (HB3.out.upd HL.out.2.upd HBN.out)
  by_cases hlt : i < n
  ·have hlt' : (i : Int) < (n : Int) := by omega
   have hiV : Hid (i < V.length) := by show i < V.length; rw [HVn.out]; exact hlt
   have hinm : Hid (i < nm.length) := by show i < nm.length; rw [HE.out.nml]; exact hlt
   have TS := HE.out.test HL.out.2.st hk hiV.out
   rw [HX.out] at TS
   have v2 := HL.out.2.row.cell ndL_len i hiV.out 2 (u := .int .i64 (V[i]'hiV.out).org) rfl
   have v1 := HL.out.2.row.cell ndL_len i hiV.out 1 (u := .int .u64 (V[i]'hiV.out).par) rfl
   have HVI0 : Hid (∀ h : i < V.length, nm.getD i (-1) = (k : Int) → V[i] = ini i) := fun h hn => by
    refine HL.out.2.st.no i h fun hh => ?_
    rcases hh with hh | hh
    ·refine HTD.out i ?_ hh
     have hm := (HE.out.kids k hk).1.mem_iff.1 (kidsF_iff.2 ⟨i, rfl, hlt, hn⟩)
     exact List.mem_flatMap.2 ⟨i, List.mem_map.2 ⟨(i : Int), hm, by simp⟩, List.mem_cons_self⟩
    ·omega
   obtain ⟨og, hog⟩ : ∃ og, (V[i]'hiV.out).org = og := ⟨_, rfl⟩
   obtain ⟨pr, hpr⟩ : ∃ pr, (V[i]'hiV.out).par = pr := ⟨_, rfl⟩
   rw [hog] at v2 TS
   rw [hpr] at v1 TS
   have HTS : Hid ((og = 0 ∧ pr = x.id) ↔ nm.getD i (-1) = (k : Int)) := TS
   have SK : Hid (nm.getD i (-1) ≠ (k : Int) → ∀ W, Below wr.heap.size wr W → Hid ((kidsF nm (i + 1) k).length = m ∧ L1I w3 W n nm fin ini D nb cn k (i + 1) (.slice la m ca) V)) := fun h W hW => by
    refine ⟨?_, HL.out.2.skip hinm.out h hW⟩
    rw [kidsF_succ nm i k hinm.out, if_neg (by rw [← getD_nm hinm.out]; exact h)]
    exact HL.out.1
   clear TS hog hpr
   by_cases ho : og = 0
   rotate_left
   ·have ho' : (og == 0) = false := by simpa using ho
    have FN := SK.out (fun e => ho (HTS.out.2 e).1)
    clear SK HTS ho HVI0
    go_wp2
    go_quiet (fail)
    go_wp2
    go_roundw
    case rel => exact ⟨i + 1, m, V, la, ca, rfl, by go_num, by omega, by omega, FN _ ⟨rfl, rfl, rfl, Nat.le_refl _, fun _ _ => rfl⟩⟩
    case measure => simp [intOf]; omega
   ·subst ho
    by_cases hp : pr = x.id
    rotate_left
    ·have hp' : (pr == x.id) = false := by simpa using hp
     have FN := SK.out (fun e => hp (HTS.out.2 e).2)
     clear SK HTS hp HVI0
     go_wp2
     go_quiet (fail)
     go_wp2
     go_roundw
     case rel => exact ⟨i + 1, m, V, la, ca, rfl, by go_num, by omega, by omega, FN _ ⟨rfl, rfl, rfl, Nat.le_refl _, fun _ _ => rfl⟩⟩
     case measure => simp [intOf]; omega
    ·have hp' : (pr == x.id) = true := by simpa using hp
     have HKD : Hid (nm.getD i (-1) = (k : Int)) := HTS.out.1 ⟨rfl, hp⟩
     have HVI : Hid (V[i]'hiV.out = ini i) := HVI0.out hiV.out HKD.out
     have HFI : Hid (fin i = { { ini i with tree := x.tree, dep := x.dep + 1 } with fr := (clipI ((ini i).fr, (ini i).til) (x.fr, x.til)).1, til := (clipI ((ini i).fr, (ini i).til) (x.fr, x.til)).2 }) := by
      have := HE.out.hang k i hk hlt HKD.out
      rw [HX.out] at this
      exact this
     have CLP : Hid (∀ W, Calls Tryz.prog 96 #[.agg #[.int .i64 (ini i).fr, .int .i64 (ini i).til], .agg #[.int .i64 x.fr, .int .i64 x.til]] W fun e w' => e = .returned (.agg #[.int .i64 (clipI ((ini i).fr, (ini i).til) (x.fr, x.til)).1, .int .i64 (clipI ((ini i).fr, (ini i).til) (x.fr, x.til)).2]) ∧ Below W.heap.size W w') := fun W => refClip_any ((ini i).fr, (ini i).til) (x.fr, x.til) W
     have TK : Hid (∀ (w9 w10 : World) (g5 c5 : Nat), Upd (fun q => q = nb) wr w9 → RwG ndL 7 38 w9 nb cn (V.set i (fin i)) → w3.heap.size ≤ g5 → RwG iL 1 3 w10 g5 c5 (kidsF nm i k ++ [(i : Int)]) → Upd (fun q => (Value.slice la m ca).ownBlock = some q) w9 w10 → Hid ((kidsF nm (i + 1) k).length = m + 1 ∧ L1I w3 w10 n nm fin ini D nb cn k (i + 1) (.slice (some ⟨g5, 0, none⟩) (m + 1) c5) (V.set i (fin i)))) := fun w9 w10 g5 c5 h1 h2 h3 h4 h5 => by
      have := HL.out.2.take hinm.out HKD.out h1 h2 h3 h4 h5 HNB.out
      rw [HL.out.1] at this
      refine ⟨?_, this⟩
      rw [kidsF_succ nm i k hinm.out, if_pos (by rw [← getD_nm hinm.out]; exact HKD.out), List.length_append, HL.out.1]
      rfl
     clear SK HTS hp HVI0
     go_wp2
     go_quiet (fail)
     obtain ⟨wq, hwq⟩ : ∃ W, wr.drewN nq = W := ⟨_, rfl⟩
     have HWQ : Hid (Upd (fun q => q = nb) wr wq) := by show Upd _ wr wq; rw [← hwq]; exact (Upd.refl _ _).drewN nq
     have RV0 : Hid (RwG ndL 7 38 wq nb cn V) := by show RwG _ _ _ wq nb cn V; rw [← hwq]; exact HL.out.2.row.below ⟨rfl, rfl, rfl, Nat.le_refl _, fun _ _ => rfl⟩
     (try rw [hwq])
     clear hwq v1 v2 e0 e1 e2 e3 e4 e5 e6 q1
     have hiS : Hid (∀ d, i < (V.set i d).length) := fun d => by rw [List.length_set]; exact hiV.out
     have hiS : Hid (∀ {d}, i < (V.set i d).length) := fun {d} => hiS.out d
     have CE : Hid (∀ W, Upd (fun q => q = nb) wq W → W.cell? ⟨f, 1, none⟩ = some (.slice (some ⟨nb, 0, none⟩) n cn) ∧ W.cell? ⟨B, 3, none⟩ = some (.int .u64 x.tree) ∧ W.cell? ⟨B, 4, none⟩ = some (.int .i64 x.dep) ∧ W.cell? ⟨B, 5, none⟩ = some (.int .i64 x.fr) ∧ W.cell? ⟨B, 6, none⟩ = some (.int .i64 x.til)) := fun W hW => by
      have hu : Upd (fun q => q = nb) w3 W := (HL.out.2.upd.trans HWQ.out (fun _ _ h => h)).trans hW (fun _ _ h => h)
      have q1 := (HF3.out.head.upd hu HNE.out.1).cell 1 rfl
      rw [HVL.out] at q1
      obtain ⟨e0, e1, e2, e3, e4, e5, e6, _⟩ := node_cells (HB3.out.upd hu HBN.out)
      exact ⟨q1, e3, e4, e5, e6⟩
     have hwd : IntKind.i64.wrap (x.dep + 1) = x.dep + 1 := by rw [IntKind.wrap_i64]; omega
     go_wp2
     refine wp_region_held (S := fun W => Upd (fun q => q = nb) wq W) (by kernel_rfl) ?_
     change wpAnyH _ _ _ _ _ _ _ _ (World.drew _)
     have hS : Upd (fun q => q = nb) wq wq.drew := (Upd.refl _ _).drew
     refine takeH (i := 0) (v := .pointer (some ⟨f, 0, none⟩)) rfl (by kernel_rfl) (by kernel_rfl) (by kernel_rfl) (fun _ _ _ h => h) (Or.inl ⟨by rfl, fun W hW => by go_simp⟩) hS ?_
     simp only [pS]
     refine takeH (i := 1) (v := .pointer (some ⟨f, 0, none⟩)) rfl (by kernel_rfl) (by kernel_rfl) (by kernel_rfl) (fun _ _ _ h => h) (Or.inl ⟨by rfl, fun W hW => by go_simp⟩) hS ?_
     simp only [pS]
     refine takeH (i := 2) (v := .pointer (some ⟨f, 1, none⟩)) rfl (by kernel_rfl) (by kernel_rfl) (by kernel_rfl) (fun _ _ _ h => h) (Or.inl ⟨by rfl, fun W hW => by go_simp⟩) hS ?_
     simp only [pS]
     refine takeH (i := 3) (v := .slice (some ⟨nb, 0, none⟩) n cn) rfl (by kernel_rfl) (by kernel_rfl) (by kernel_rfl) (fun _ _ _ h => h) (Or.inl ⟨by rfl, fun W hW => by obtain ⟨s0, s1, s2, s3, s4⟩ := CE.out W hW; go_simp⟩) hS ?_
     simp only [pS]
     refine takeH (i := 4) (v := .int .i64 (i : Int)) rfl (by kernel_rfl) (by kernel_rfl) (by kernel_rfl) (fun _ _ _ h => h) (Or.inl ⟨by rfl, fun W hW => by go_simp⟩) hS ?_
     simp only [pS]
     refine takeH (i := 5) (v := .pointer (some ⟨B, 3, none⟩)) rfl (by kernel_rfl) (by kernel_rfl) (by kernel_rfl) (fun _ _ _ h => h) (Or.inl ⟨by rfl, fun W hW => by go_simp⟩) hS ?_
     simp only [pS]
     refine takeH (i := 6) (v := .int .u64 x.tree) rfl (by kernel_rfl) (by kernel_rfl) (by kernel_rfl) (fun _ _ _ h => h) (Or.inl ⟨by rfl, fun W hW => by obtain ⟨s0, s1, s2, s3, s4⟩ := CE.out W hW; go_simp⟩) hS ?_
     simp only [pS]
     refine takeH (i := 7) (v := .pointer (some ⟨nb, i * 7, none⟩)) rfl (by kernel_rfl) (by kernel_rfl) (by kernel_rfl) (fun _ _ _ h => h) (Or.inl ⟨by rfl, fun W hW => by go_simp⟩) hS ?_
     simp only [pS]
     refine takeH (i := 8) (v := .pointer (some ⟨nb, i * 7 + 3, none⟩)) rfl (by kernel_rfl) (by kernel_rfl) (by kernel_rfl) (fun _ _ _ h => h) (Or.inl ⟨by rfl, fun W hW => by go_simp⟩) hS ?_
     simp only [pS]
     refine onlyH (i := 9) rfl (by kernel_rfl) (fun K hK => ?_)
     refine step_st1 (by rfl) _ _ _ (by rfl) nb (i * 7 + 3) (.int .u64 x.tree) (by rfl) (by rfl) rfl ((RV0.out.below ⟨rfl, rfl, rfl, Nat.le_refl _, fun _ _ => rfl⟩).one ndL_len i hiV.out 3 (by omega)) (by kernel_rfl) rfl ?_
     intro w7 hw7
     have hr7 : RwG ndL 7 38 w7 nb cn (V.set i { ini i with tree := x.tree }) := by rw [hw7]; exact (RV0.out.below (w' := wq.drew) ⟨rfl, rfl, rfl, Nat.le_refl _, fun _ _ => rfl⟩).put ndL_len i hiV.out 3 (by omega) _ { ini i with tree := x.tree } (by rw [HVI.out]; rfl)
     have hU2 : Upd (fun q => q = nb) wq.drew w7 := by rw [hw7]; exact setCell_updI _ _ _ _
     clear hw7
     have hS2 : Upd (fun q => q = nb) wq w7 := hS.trans hU2 (fun _ _ h => h)
     refine hK _ _ ⟨hS2, ?_⟩
     clear hK K hS
     simp only [Act.put]
     refine wpAnyH_done (by kernel_rfl) ?_ _
     have HU7 : Hid (Upd (fun q => q = nb) wq w7) := hS2
     have HR7 : Hid (RwG ndL 7 38 w7 nb cn (V.set i { ini i with tree := x.tree })) := hr7
     clear hS2 hU2 hr7
     have CE7 : Hid (∀ W, Upd (fun q => q = nb) w7 W → W.cell? ⟨f, 1, none⟩ = some (.slice (some ⟨nb, 0, none⟩) n cn) ∧ W.cell? ⟨B, 3, none⟩ = some (.int .u64 x.tree) ∧ W.cell? ⟨B, 4, none⟩ = some (.int .i64 x.dep) ∧ W.cell? ⟨B, 5, none⟩ = some (.int .i64 x.fr) ∧ W.cell? ⟨B, 6, none⟩ = some (.int .i64 x.til)) := fun W hW => CE.out W (HU7.out.trans hW (fun _ _ h => h))
     go_wp2
     refine wp_region_held (S := fun W => Upd (fun q => q = nb) w7 W) (by kernel_rfl) ?_
     change wpAnyH _ _ _ _ _ _ _ _ (World.drew _)
     have hS : Upd (fun q => q = nb) w7 w7.drew := (Upd.refl _ _).drew
     refine takeH (i := 0) (v := .pointer (some ⟨f, 0, none⟩)) rfl (by kernel_rfl) (by kernel_rfl) (by kernel_rfl) (fun _ _ _ h => h) (Or.inl ⟨by rfl, fun W hW => by go_simp⟩) hS ?_
     simp only [pS]
     refine takeH (i := 1) (v := .pointer (some ⟨f, 0, none⟩)) rfl (by kernel_rfl) (by kernel_rfl) (by kernel_rfl) (fun _ _ _ h => h) (Or.inl ⟨by rfl, fun W hW => by go_simp⟩) hS ?_
     simp only [pS]
     refine takeH (i := 2) (v := .pointer (some ⟨f, 1, none⟩)) rfl (by kernel_rfl) (by kernel_rfl) (by kernel_rfl) (fun _ _ _ h => h) (Or.inl ⟨by rfl, fun W hW => by go_simp⟩) hS ?_
     simp only [pS]
     refine takeH (i := 3) (v := .slice (some ⟨nb, 0, none⟩) n cn) rfl (by kernel_rfl) (by kernel_rfl) (by kernel_rfl) (fun _ _ _ h => h) (Or.inl ⟨by rfl, fun W hW => by obtain ⟨s0, s1, s2, s3, s4⟩ := CE7.out W hW; go_simp⟩) hS ?_
     simp only [pS]
     refine takeH (i := 4) (v := .int .i64 (i : Int)) rfl (by kernel_rfl) (by kernel_rfl) (by kernel_rfl) (fun _ _ _ h => h) (Or.inl ⟨by rfl, fun W hW => by go_simp⟩) hS ?_
     simp only [pS]
     refine takeH (i := 5) (v := .pointer (some ⟨B, 4, none⟩)) rfl (by kernel_rfl) (by kernel_rfl) (by kernel_rfl) (fun _ _ _ h => h) (Or.inl ⟨by rfl, fun W hW => by go_simp⟩) hS ?_
     simp only [pS]
     refine takeH (i := 6) (v := .int .i64 x.dep) rfl (by kernel_rfl) (by kernel_rfl) (by kernel_rfl) (fun _ _ _ h => h) (Or.inl ⟨by rfl, fun W hW => by obtain ⟨s0, s1, s2, s3, s4⟩ := CE7.out W hW; go_simp⟩) hS ?_
     simp only [pS]
     refine takeH (i := 7) (v := .int .i64 (x.dep + 1)) rfl (by kernel_rfl) (by kernel_rfl) (by kernel_rfl) (fun _ _ _ h => h) (Or.inl ⟨by rfl, fun W hW => by go_simp⟩) hS ?_
     simp only [pS]
     refine takeH (i := 8) (v := .pointer (some ⟨nb, i * 7, none⟩)) rfl (by kernel_rfl) (by kernel_rfl) (by kernel_rfl) (fun _ _ _ h => h) (Or.inl ⟨by rfl, fun W hW => by go_simp⟩) hS ?_
     simp only [pS]
     refine takeH (i := 9) (v := .pointer (some ⟨nb, i * 7 + 4, none⟩)) rfl (by kernel_rfl) (by kernel_rfl) (by kernel_rfl) (fun _ _ _ h => h) (Or.inl ⟨by rfl, fun W hW => by go_simp⟩) hS ?_
     simp only [pS]
     refine onlyH (i := 10) rfl (by kernel_rfl) (fun K hK => ?_)
     refine step_st1 (by rfl) _ _ _ (by rfl) nb (i * 7 + 4) (.int .i64 (x.dep + 1)) (by rfl) (by rfl) rfl ((HR7.out.below ⟨rfl, rfl, rfl, Nat.le_refl _, fun _ _ => rfl⟩).one ndL_len i hiS.out 4 (by omega)) (by kernel_rfl) rfl ?_
     intro w8 hw8
     have hr8 : RwG ndL 7 38 w8 nb cn (V.set i { ini i with tree := x.tree, dep := x.dep + 1 }) := by rw [hw8]; have h := (HR7.out.below (w' := w7.drew) ⟨rfl, rfl, rfl, Nat.le_refl _, fun _ _ => rfl⟩).put ndL_len i hiS.out 4 (by omega) (.int .i64 (x.dep + 1)) { ini i with tree := x.tree, dep := x.dep + 1 } (by rw [List.getElem_set_self]; rfl); rw [List.set_set] at h; exact h
     have hU2 : Upd (fun q => q = nb) w7.drew w8 := by rw [hw8]; exact setCell_updI _ _ _ _
     clear hw8
     have hS2 : Upd (fun q => q = nb) w7 w8 := hS.trans hU2 (fun _ _ h => h)
     refine hK _ _ ⟨hS2, ?_⟩
     clear hK K hS
     simp only [Act.put]
     refine wpAnyH_done (by kernel_rfl) ?_ _
     have HU8 : Hid (Upd (fun q => q = nb) wq w8) := HU7.out.trans hS2 (fun _ _ h => h)
     have HR8 : Hid (RwG ndL 7 38 w8 nb cn (V.set i { ini i with tree := x.tree, dep := x.dep + 1 })) := hr8
     clear hS2 hU2 hr8 CE7 HR7 HU7
     have CE8 : Hid (∀ W, Upd (fun q => q = nb) w8 W → W.cell? ⟨f, 1, none⟩ = some (.slice (some ⟨nb, 0, none⟩) n cn) ∧ W.cell? ⟨B, 3, none⟩ = some (.int .u64 x.tree) ∧ W.cell? ⟨B, 4, none⟩ = some (.int .i64 x.dep) ∧ W.cell? ⟨B, 5, none⟩ = some (.int .i64 x.fr) ∧ W.cell? ⟨B, 6, none⟩ = some (.int .i64 x.til)) := fun W hW => CE.out W (HU8.out.trans hW (fun _ _ h => h))
     have g5 := HR8.out.cell ndL_len i hiS.out 5 (u := .int .i64 (ini i).fr) (by rw [List.getElem_set_self]; rfl)
     have g6 := HR8.out.cell ndL_len i hiS.out 6 (u := .int .i64 (ini i).til) (by rw [List.getElem_set_self]; rfl)
     go_wp2
     refine wp_region_held (S := fun W => Upd (fun q => q = nb) w8 W) (by kernel_rfl) ?_
     change wpAnyH _ _ _ _ _ _ _ _ (World.drew _)
     have hS : Upd (fun q => q = nb) w8 w8.drew := (Upd.refl _ _).drew
     refine takeH (i := 0) (v := .pointer (some ⟨f, 0, none⟩)) rfl (by kernel_rfl) (by kernel_rfl) (by kernel_rfl) (fun _ _ _ h => h) (Or.inl ⟨by rfl, fun W hW => by go_simp⟩) hS ?_
     simp only [pS]
     refine takeH (i := 1) (v := .pointer (some ⟨f, 0, none⟩)) rfl (by kernel_rfl) (by kernel_rfl) (by kernel_rfl) (fun _ _ _ h => h) (Or.inl ⟨by rfl, fun W hW => by go_simp⟩) hS ?_
     simp only [pS]
     refine takeH (i := 2) (v := .pointer (some ⟨f, 1, none⟩)) rfl (by kernel_rfl) (by kernel_rfl) (by kernel_rfl) (fun _ _ _ h => h) (Or.inl ⟨by rfl, fun W hW => by go_simp⟩) hS ?_
     simp only [pS]
     refine takeH (i := 3) (v := .slice (some ⟨nb, 0, none⟩) n cn) rfl (by kernel_rfl) (by kernel_rfl) (by kernel_rfl) (fun _ _ _ h => h) (Or.inl ⟨by rfl, fun W hW => by obtain ⟨s0, s1, s2, s3, s4⟩ := CE8.out W hW; go_simp⟩) hS ?_
     simp only [pS]
     refine takeH (i := 4) (v := .int .i64 (i : Int)) rfl (by kernel_rfl) (by kernel_rfl) (by kernel_rfl) (fun _ _ _ h => h) (Or.inl ⟨by rfl, fun W hW => by go_simp⟩) hS ?_
     simp only [pS]
     refine takeH (i := 5) (v := .pointer (some ⟨f, 0, none⟩)) rfl (by kernel_rfl) (by kernel_rfl) (by kernel_rfl) (fun _ _ _ h => h) (Or.inl ⟨by rfl, fun W hW => by go_simp⟩) hS ?_
     simp only [pS]
     refine takeH (i := 6) (v := .pointer (some ⟨f, 0, none⟩)) rfl (by kernel_rfl) (by kernel_rfl) (by kernel_rfl) (fun _ _ _ h => h) (Or.inl ⟨by rfl, fun W hW => by go_simp⟩) hS ?_
     simp only [pS]
     refine takeH (i := 7) (v := .pointer (some ⟨f, 1, none⟩)) rfl (by kernel_rfl) (by kernel_rfl) (by kernel_rfl) (fun _ _ _ h => h) (Or.inl ⟨by rfl, fun W hW => by go_simp⟩) hS ?_
     simp only [pS]
     refine takeH (i := 8) (v := .slice (some ⟨nb, 0, none⟩) n cn) rfl (by kernel_rfl) (by kernel_rfl) (by kernel_rfl) (fun _ _ _ h => h) (Or.inl ⟨by rfl, fun W hW => by obtain ⟨s0, s1, s2, s3, s4⟩ := CE8.out W hW; go_simp⟩) hS ?_
     simp only [pS]
     refine takeH (i := 9) (v := .int .i64 (i : Int)) rfl (by kernel_rfl) (by kernel_rfl) (by kernel_rfl) (fun _ _ _ h => h) (Or.inl ⟨by rfl, fun W hW => by go_simp⟩) hS ?_
     simp only [pS]
     refine takeH (i := 10) (v := .pointer (some ⟨nb, i * 7, none⟩)) rfl (by kernel_rfl) (by kernel_rfl) (by kernel_rfl) (fun _ _ _ h => h) (Or.inl ⟨by rfl, fun W hW => by go_simp⟩) hS ?_
     simp only [pS]
     refine takeH (i := 11) (v := .pointer (some ⟨nb, i * 7 + 5, none⟩)) rfl (by kernel_rfl) (by kernel_rfl) (by kernel_rfl) (fun _ _ _ h => h) (Or.inl ⟨by rfl, fun W hW => by go_simp⟩) hS ?_
     simp only [pS]
     refine takeH (i := 13) (v := .pointer (some ⟨B, 5, none⟩)) rfl (by kernel_rfl) (by kernel_rfl) (by kernel_rfl) (fun _ _ _ h => h) (Or.inl ⟨by rfl, fun W hW => by go_simp⟩) hS ?_
     simp only [pS]
     refine takeH (i := 14) (v := .agg #[.int .i64 x.fr, .int .i64 x.til]) rfl (by kernel_rfl) (by kernel_rfl) (by kernel_rfl) (fun _ _ _ h => h) (Or.inl ⟨by rfl, fun W hW => by obtain ⟨s0, s1, s2, s3, s4⟩ := CE8.out W hW; go_simp⟩) hS ?_
     simp only [pS]
     refine onlyH (i := 12) rfl (by kernel_rfl) (fun K hK => ?_)
     have g5d : w8.drew.cell? ⟨nb, i * 7 + 5, none⟩ = some (.int .i64 (ini i).fr) := g5
     have g6d : w8.drew.cell? ⟨nb, i * 7 + 5 + 1, none⟩ = some (.int .i64 (ini i).til) := g6
     go_simp
     refine hK _ _ ⟨hS, ?_⟩
     clear hK K g5d g6d
     (try simp only [pS])
     refine onlyH (i := 15) rfl (by kernel_rfl) (fun K hK => ?_)
     go_simp
     go_at_call 96
     (with_reducible refine (CLP.out _).mono ?_)
     clear CLP
     rintro e wc ⟨rfl, hbc⟩
     have hSc : Upd (fun q => q = nb) w8 wc := hS.trans (Upd.ofBelow (S := fun _ => False) hbc (fun k h1 h2 => by omega)) (fun _ _ h => h.elim)
     have hRc : RwG ndL 7 38 wc nb cn (V.set i { ini i with tree := x.tree, dep := x.dep + 1 }) := (HR8.out.below (w' := w8.drew) ⟨rfl, rfl, rfl, Nat.le_refl _, fun _ _ => rfl⟩).below hbc
     refine hK _ _ ⟨hSc, ?_⟩
     clear hK K hS hbc
     (try simp only [pS])
     refine takeH (i := 16) (v := .pointer (some ⟨nb, i * 7, none⟩)) rfl (by kernel_rfl) (by kernel_rfl) (by kernel_rfl) (fun _ _ _ h => h) (Or.inl ⟨by rfl, fun W hW => by go_simp⟩) hSc ?_
     simp only [pS]
     refine takeH (i := 17) (v := .pointer (some ⟨nb, i * 7 + 5, none⟩)) rfl (by kernel_rfl) (by kernel_rfl) (by kernel_rfl) (fun _ _ _ h => h) (Or.inl ⟨by rfl, fun W hW => by go_simp⟩) hSc ?_
     simp only [pS]
     refine onlyH (i := 18) rfl (by kernel_rfl) (fun K hK => ?_)
     refine step_stI (by rfl) _ _ (by rfl) nb cn i _ _ _ hRc hiS.out (by rfl) (by rfl) ?_
     intro w9 hr9 hu9
     have hS9 : Upd (fun q => q = nb) w8 w9 := hSc.trans hu9 (fun _ _ h => h)
     refine hK _ _ ⟨hS9, ?_⟩
     clear hK K hu9 hSc hRc
     simp only [Act.put]
     refine wpAnyH_done (by kernel_rfl) ?_ _
     have HU9 : Hid (Upd (fun q => q = nb) wr w9) := HWQ.out.trans (HU8.out.trans hS9 (fun _ _ h => h)) (fun _ _ h => h)
     have HR9 : Hid (RwG ndL 7 38 w9 nb cn (V.set i (fin i))) := by rw [List.getElem_set_self, List.set_set] at hr9; rw [HFI.out]; exact hr9
     clear hS9 hr9 HU8 HR8 CE8 g5 g6
     have OW9 : Hid (w9.ownsRow w3.heap.size 3 1 (.slice la m ca) m ((kidsF nm i k).flatMap iL)) := by
      have := ownsRow_upd HL.out.2.own HU9.out (fun q e e' => by subst e'; have := (owns_blk HL.out.2.own e).1; have := HNB.out; omega)
      rw [HL.out.1] at this
      exact this
     have hz9 : Hid (w3.heap.size ≤ w9.heap.size) := Nat.le_trans HL.out.2.upd.size HU9.out.size
     go_wp2_with (at_builtin; refine wpList_appI w9 rfl _ _ rfl w3.heap.size (.slice la m ca) m (kidsF nm i k) (i : Int) _ rfl rfl OW9.out HL.out.1 rfl (by omega) hz9.out ?_; intro g5 c5 w10 hg5 hr5 hu5 hm5; have HL10 : Hid ((kidsF nm (i + 1) k).length = m + 1 ∧ L1I w3 w10 n nm fin ini D nb cn k (i + 1) (.slice (some ⟨g5, 0, none⟩) (m + 1) c5) (V.set i (fin i))) := TK.out _ _ _ _ HU9.out HR9.out hg5 hr5 hu5; clear hr5 hu5 hm5 hg5)
     go_wp2
     go_roundw
     case rel => exact ⟨i + 1, m + 1, _, _, c5, rfl, by go_num, by omega, by omega, HL10⟩
     case measure => simp [intOf]; omega
  ·obtain rfl : i = n := by omega
   have hlt' : ¬ (i : Int) < (i : Int) := by omega
   have HFR : Hid (RFo wr base f nb cn sv ov1 V (O ++ [(k : Int)])) := HF3.out.nodes HL.out.2.upd HL.out.2.row (by rw [HVn.out, HVL.out])
   have HKF : Hid (∀ x ∈ kidsF nm i k, 0 ≤ x ∧ x < V.length) := fun x hx => by
    have := kidsF_mem hx
    rw [HVn.out]
    exact this
   have ORD : Hid (Calls Tryz.prog 60 #[.pointer (some ⟨f, 0, none⟩), .slice la m ca] wr (OrdP V (kidsF nm i k) m wr)) := rOrd_any f nb cn V la m ca (kidsF nm i k) wr (fun _ => HFR.out.fnd) (own_ints (by have := HL.out.2.own; rw [HL.out.1] at this; exact this)) HKF.out (by omega)
   have HYES : Hid (∀ y ∈ K k, 0 ≤ y ∧ y < (i : Int) ∧ ndAt V y = fin y.toNat) := fun y hy => by
    obtain ⟨c, rfl, hc1, hc2⟩ := kidsF_iff.1 ((HE.out.kids k hk).1.mem_iff.2 hy)
    have hcV : c < V.length := by rw [HVn.out]; exact hc1
    refine ⟨by omega, by omega, ?_⟩
    rw [ndAt_is hcV, HL.out.2.st.yes c hcV (Or.inr ⟨hc1, hc2⟩)]
    simp
   have HKM : Hid (∀ w4 v M, OrdI wr w4 V (kidsF nm i k) m v M → M = K k) := fun w4 v M h => by
    have hp : (kidsF nm i k).Perm M := by
     have := h.perm
     rw [List.take_of_length_le (by rw [HL.out.1]; exact Nat.le_refl _)] at this
     exact this
    have hmem : ∀ y ∈ M, y ∈ K k := fun y hy => (HE.out.kids k hk).1.mem_iff.1 (hp.mem_iff.2 hy)
    refine sort_one (fin := fin) (hp.symm.trans (HE.out.kids k hk).1) (fun a ha b hb e => ?_) ?_ (HE.out.kids k hk).2
    ·have ha' := HYES.out a (hmem a ha)
     have hb' := HYES.out b (hmem b hb)
     have := HE.out.inj a.toNat b.toNat (by omega) (by omega) e
     omega
    ·refine List.Pairwise.imp_of_mem ?_ h.sort
     intro a b ha hb hab
     rw [← (HYES.out a (hmem a ha)).2.2, ← (HYES.out b (hmem b hb)).2.2]
     exact hab
   have hm2 : Hid (m ≤ 1000) := by show m ≤ 1000; omega
   have HNBr : Hid (nb < wr.heap.size) := HL.out.2.row.lt
   have HFL : Hid (f < wr.heap.size) := Nat.lt_of_lt_of_le HF3.out.head.lt HL.out.2.upd.size
   clear e0 e1 e2 e3 e4 e5 e6
   go_wp2_with (go_at_call 60; (with_reducible refine ORD.out.mono ?_); clear ORD; rintro e w4 ⟨ao, c4, M, rfl, HO⟩; have HMK : Hid (M = K k) := HKM.out _ _ _ HO.out)
   have HML : Hid ((K k).length = m) := by have h1 := HO.out.len; rw [HMK.out] at h1; exact h1
   have HB4 : Hid (Below wr.heap.size wr w4) := HO.out.bel
   have HF4 : Hid (RFo w4 base f nb cn sv ov1 V (O ++ [(k : Int)])) := HFR.out.below HB4.out
   have HOW : Hid (w4.ownsRow wr.heap.size 3 1 (.slice ao m c4) m ((K k).flatMap iL)) := by have h1 := HO.out.own; rw [HMK.out] at h1; exact h1
   have HOV4 : Hid (∀ q, ov1.ownBlock = some q → q < wr.heap.size) := fun q e => Nat.lt_of_lt_of_le (HOV.out q e) HL.out.2.upd.size
   have HU4 : Hid (Upd (FW f nb (.slice oa ol oc)) w w4) := ((HU3.out.trans (HL.out.2.upd.mono (fun q _ e => Or.inr (Or.inl e))) (fun q _ h => by rcases h with h | h | h; exact Or.inl h; exact Or.inr (Or.inl h); exact Or.inr (Or.inr h))).trans (Upd.ofBelow (S := fun _ => False) HB4.out (fun k h1 h2 => by omega)) (fun _ _ h => h.elim))
   have L20 : Hid (L2I base f nb cn sv i fin ini T k D ov1 O (K k) w4 w4 0 ov1 V) := by
    refine ⟨by simpa using HF4.out, HL.out.2.st.cast fun j hj => ?_, Upd.refl _ _, fun q e _ => e⟩
    constructor
    ·rintro (d | ⟨d1, d2⟩)
     ·exact Or.inl (Or.inl d)
     ·exact Or.inl (Or.inr (List.mem_map.2 ⟨(j : Int), (HE.out.kids k hk).1.mem_iff.1 (kidsF_iff.2 ⟨j, rfl, d1, d2⟩), by simp⟩))
    ·rintro ((d | d) | d)
     ·exact Or.inl d
     ·obtain ⟨z, hz, rfl⟩ := List.mem_map.1 d
      obtain ⟨c, rfl, hc1, hc2⟩ := kidsF_iff.1 ((HE.out.kids k hk).1.mem_iff.2 hz)
      exact Or.inr ⟨by simpa using hc1, by simpa using hc2⟩
     ·simp at d
   have HSZ : Hid (base ≤ w4.heap.size) := Nat.le_trans HBS.out HU4.out.size
   clear HKM HO HMK HFR HF4 HL
   go_wp2
   go_loopw [7] (fun z7 wr => ∃ (q : Nat) (ov2 : Value) (V2 : List Nod), z7 = .int .i64 q ∧ q ≤ m ∧ Hid (L2I base f nb cn sv i fin ini T k D ov1 O (K k) w4 wr q ov2 V2)) (fun z7 _ => m - (intOf z7).toNat)
   case atStart => exact ⟨0, ov1, V, rfl, by omega, L20⟩
   case round =>
    clear L20
    obtain ⟨q, ov2, V2, rfl, hqm, HL2⟩ := hrel
    by_cases hq : q < m
    ·have hq' : (q : Int) < (m : Int) := by omega
     have hqK : q < (K k).length := by rw [HML.out]; exact hq
     have hcr := HYES.out _ (List.getElem_mem hqK)
     obtain ⟨ci, hci⟩ : ∃ ci : Nat, (K k)[q] = (ci : Int) := ⟨(K k)[q].toNat, by omega⟩
     obtain ⟨gm, hao, hgc⟩ := own_at HOW.out (by omega)
     subst hao
     have hgb := (owns_blk HOW.out (g := gm) rfl).1
     have hgl : gm < w4.heap.size := by obtain ⟨_, cur, hb⟩ := owns_blk HOW.out (g := gm) rfl; exact hb.lt
     have cq : wr.cell? ⟨gm, q, none⟩ = some (.int .i64 (ci : Int)) := by
      have h1 := hgc q (.int .i64 (ci : Int)) (by rw [iL_flat, intsV_get (k := .i64) hqK, hci])
      have h2 := HL2.out.upd.block gm hgl (fun h => by
       rcases h with h | h | h
       ·have := HFL.out; omega
       ·have := HNBr.out; omega
       ·have := HOV4.out gm h; omega)
      simp only [World.cell?, h2] at h1 ⊢
      exact h1
     have hmem : ci ∈ (K k).map Int.toNat := List.mem_map.2 ⟨(ci : Int), by rw [← hci]; exact List.getElem_mem hqK, by simp⟩
     have hsp : (K k).map Int.toNat = ((K k).take q).map Int.toNat ++ ci :: ((K k).drop (q + 1)).map Int.toNat := by
      conv => lhs; rw [← List.take_append_drop q (K k), List.drop_eq_getElem_cons hqK]
      simp [hci]
     have HP := part_apart (T := T) (A := ((K k).take q).map Int.toNat) (B := ((K k).drop (q + 1)).map Int.toNat) (c := ci) (by rw [← hsp]; exact HND.out)
     rw [← hsp] at HP
     have hln : O.length + 1 + ((((K k).take q).map Int.toNat).flatMap (fun c => c :: T c)).length + 1 + (T ci).length ≤ 1000000 := by
      have h1 := HLN.out
      rw [hsp, List.flatMap_append, List.length_append, List.flatMap_cons, List.length_append, List.length_cons] at h1
      omega
     have IHC : Hid (Calls Tryz.prog 61 #[.pointer (some ⟨f, 0, none⟩), .int .i64 (ci : Int)] wr (DnP base f nb cn sv i fin ini (T ci) ci (fun j => (D j ∨ j ∈ (K k).map Int.toNat) ∨ j ∈ (((K k).take q).map Int.toNat).flatMap T) ov2 (O ++ (k :: (((K k).take q).map Int.toNat).flatMap (fun c => c :: T c)).map (fun c : Nat => (c : Int))) wr)) := by
      refine HIH.out ci hmem wr V2 _ _ ov2 HL2.out.fo HL2.out.st (Or.inl (Or.inr hmem)) (fun x hx hh => ?_) HP.1 ?_ (Nat.le_trans HSZ.out HL2.out.upd.size)
      ·rcases hh with (hh | hh) | hh
       ·exact HTD.out x (List.mem_flatMap.2 ⟨ci, hmem, List.mem_cons_of_mem _ hx⟩) hh
       ·exact (HP.2 x hx).1 hh
       ·exact (HP.2 x hx).2 hh
      ·rw [List.length_append, List.length_map, List.length_cons]
       omega
     have HNX : Hid (∀ w5 ov3 V3, RFo w5 base f nb cn sv ov3 V3 ((O ++ (k :: (((K k).take q).map Int.toNat).flatMap (fun c => c :: T c)).map (fun c : Nat => (c : Int))) ++ (ci :: T ci).map (fun c : Nat => (c : Int))) → StV i fin ini (fun j => ((D j ∨ j ∈ (K k).map Int.toNat) ∨ j ∈ (((K k).take q).map Int.toNat).flatMap T) ∨ j ∈ T ci) V3 → Upd (FW f nb ov2) wr w5 → (∀ q, ov3.ownBlock = some q → q < wr.heap.size → ov2.ownBlock = some q) → Hid (L2I base f nb cn sv i fin ini T k D ov1 O (K k) w4 w5 (q + 1) ov3 V3)) := fun w5 ov3 V3 h1 h2 h3 h4 => HL2.out.next hqK (by rw [hci]; simp) h1 h2 h3 h4
     clear hcr hci hgc hgb hgl hmem hsp HP hln hqK
     go_wp2_with (go_at_call 61; (with_reducible refine IHC.out.mono ?_); clear IHC; rintro e w5 ⟨rfl, ov3, V3, h1, h2, h3, h4⟩; have HN5 := HNX.out w5 ov3 V3 h1 h2 h3 h4; clear h1 h2 h3 h4)
     go_roundw
     case rel => exact ⟨q + 1, ov3, V3, by go_num, by omega, HN5⟩
     case measure => simp [intOf]; omega
    ·obtain rfl : q = m := by omega
     have hq' : ¬ (q : Int) < (q : Int) := by omega
     have ht : (K k).take q = K k := List.take_of_length_le (by rw [HML.out]; exact Nat.le_refl _)
     have FN := FIN.out wr ov2 V2 (by have := HL2.out.fo; rw [ht] at this; exact this) (HL2.out.st.cast (fun j hj => by
      rw [ht]
      constructor
      ·rintro ((d | d) | d)
       ·exact Or.inl d
       ·exact Or.inr (List.mem_flatMap.2 ⟨j, d, List.mem_cons_self⟩)
       ·obtain ⟨y, hy, hxy⟩ := List.mem_flatMap.1 d
        exact Or.inr (List.mem_flatMap.2 ⟨y, hy, List.mem_cons_of_mem _ hxy⟩)
      ·rintro (d | d)
       ·exact Or.inl (Or.inl d)
       ·obtain ⟨y, hy, hxy⟩ := List.mem_flatMap.1 d
        rcases List.mem_cons.1 hxy with e | e
        ·subst e; exact Or.inl (Or.inr hy)
        ·exact Or.inr (List.mem_flatMap.2 ⟨y, hy, e⟩))) (HU4.out.trans HL2.out.upd (fun j hj hh => by
      rcases hh with hh | hh | hh
      ·exact Or.inl hh
      ·exact Or.inr (Or.inl hh)
      ·exact Or.inr (Or.inr (HMV.out j hh hj)))) (fun j hj hl => HMV.out j (HL2.out.mov j hj (Nat.lt_of_lt_of_le hl HU4.out.size)) hl)
     clear ht
     go_wp2
     go_end0
     exact FN
theorem down_all (base f nb cn : Nat) (sv : Value) (n : Nat) (nm : List Int) (K : Nat → List Int) (fin ini : Nat → Nod) (E : DEnv n nm K fin ini) : ∀ (fu k : Nat), k < n → DeepN (knK K) fu (knK K k) → DownC base f nb cn sv n fin ini (preN (knK K) fu (knK K k)) k := by
 intro fu
 induction fu with
 | zero =>
  intro k hk hd
  have h0 : (K k).map Int.toNat = [] := hd
  have := down_step base f nb cn sv n nm K fin ini E (fun _ => []) k hk (fun c hc => by rw [h0] at hc; cases hc)
  rw [h0] at this
  exact this
 | succ fu ih =>
  intro k hk hd
  refine down_step base f nb cn sv n nm K fin ini E (fun c => preN (knK K) fu (knK K c)) k hk (fun c hc => ?_)
  obtain ⟨z, hz, rfl⟩ := List.mem_map.1 hc
  have h1 := kidsF_mem ((E.kids k hk).1.mem_iff.2 hz)
  exact ih z.toNat (by omega) (hd _ hc)
end Go.Proofs.YtnffedmcblbkoaaGreatDoor
