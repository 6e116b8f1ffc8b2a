/-
  A book of lists: keep.
-/
import Derived.Test.YtkfefebjciolcaaMq
import Derived.Test.YtkfefebjciolcaaBm
import Derived.Test.YtkfefebjciolcaaPv
import Derived.Deep.RegionLaw
import Derived.Handy
namespace Go.Proofs.Ytkfefebjciolcaa
open Go Go.RowKit
set_option maxRecDepth 100000

def Hid (p : Prop) : Prop := p
theorem Hid.out {p : Prop} (h : Hid p) : p := h
theorem Try.infoBB : (Try.prog.info? 23).map (fun i => (i.zero, i.size, i.bytes)) = some (some (.slice none 0 0), 1, 24) := by kernel_rfl
theorem src_one {P : Program} {tx e : TypeId} (hu : P.underlying tx = some (.slice e)) (w : World) (x : Value) (t : TypeId) (h1 : x.oneCell' = true) : Src P 1 tx (.slice (some ⟨w.heap.size, 0, none⟩) 1 1) 1 [x] (w.alloc (.cells #[x] t)) := by
  refine Src.ofSlice _ hu ⟨w.heap.size, 0, none⟩ 1 1 _ rfl ?_ ?_
  · intro j u hj
    match j, hj with
    | 0, hj => simp at hj; subst hj; simp [Addr.add]
  · intro u hu; simp at hu; subst hu; exact h1
theorem cell2 {w : World} {f : Nat} {a b : Value} {t : TypeId} (h : w.heap[f]? = some (.cells #[a, b] t (0, 0))) : w.cell? ⟨f, 0, none⟩ = some a ∧ w.cell? ⟨f, 1, none⟩ = some b := by
  simp [World.cell?, h]
theorem free2 {w : World} {f : Nat} {cs : Array Value} {t : TypeId} (h : w.heap[f]? = some (.cells cs t (0, 0))) (i : Nat) : w.frozen? ⟨f, i, none⟩ = false := by
  simp [World.frozen?, h]
theorem set2_0 {w : World} {f : Nat} {a b : Value} {t : TypeId} (x : Value) (h : w.heap[f]? = some (.cells #[a, b] t (0, 0))) : (w.setCell ⟨f, 0, none⟩ x).heap[f]? = some (.cells #[x, b] t (0, 0)) := by
  show (w.heap.modify f _)[f]? = _
  rw [Array.getElem?_modify, if_pos rfl, h]
  rfl
theorem set2_1 {w : World} {f : Nat} {a b : Value} {t : TypeId} (x : Value) (h : w.heap[f]? = some (.cells #[a, b] t (0, 0))) : (w.setCell ⟨f, 1, none⟩ x).heap[f]? = some (.cells #[a, x] t (0, 0)) := by
  show (w.heap.modify f _)[f]? = _
  rw [Array.getElem?_modify, if_pos rfl, h]
  rfl
theorem size_set (w : World) (p : Addr) (v : Value) : (w.setCell p v).heap.size = w.heap.size := by
  show (w.heap.modify _ _).size = _
  simp
theorem own_type {base : Nat} {w : World} {e : TypeId} {size : Nat} {v : Value} {n : Nat} {xs : List Value} (h : w.ownsRow base e size v n xs) {k : Nat} (hk : v.ownBlock = some k) : ∃ cs, w.heap[k]? = some (.cells cs e (0, 0)) := by
  rcases h.2 with ⟨rfl, _⟩ | ⟨g, cap, cur, rfl, _, hg, _⟩
  · simp [Value.ownBlock] at hk
  · simp [Value.ownBlock] at hk; subst hk; exact ⟨cur, hg⟩
theorem own_not {base : Nat} {w : World} {e : TypeId} {size : Nat} {v : Value} {n : Nat} {xs : List Value} (h : w.ownsRow base e size v n xs) {k : Nat} {o : Obj} (ho : w.heap[k]? = some o) (hne : ∀ cs, o ≠ .cells cs e (0, 0)) : v.ownBlock ≠ some k := by
  intro hk
  obtain ⟨cs, hc⟩ := own_type h hk
  rw [ho] at hc
  exact hne cs (Option.some.inj hc)
theorem own_apart {base base' : Nat} {w : World} {e e' : TypeId} {size size' : Nat} {v v' : Value} {n n' : Nat} {xs xs' : List Value} (h : w.ownsRow base e size v n xs) (h' : w.ownsRow base' e' size' v' n' xs') (hne : e ≠ e') {k : Nat} (hk : v.ownBlock = some k) : v'.ownBlock ≠ some k := by
  obtain ⟨cs, hc⟩ := own_type h hk
  exact own_not h' hc (fun cs' e => by simp at e; exact hne e.2)

/-- An append to a row of one's own, at a step of a region that draws its order; nothing may be appended too. -/
theorem step_app {P : Program} (w : World) {ops : Array Oper} {o : Oper} {a : Act} {K : Act → World → Prop} {Q : Exit → Act → World → Prop} {E : Prop} (hgd : o.guard = none) (s x : Operand) (t tx : TypeId)
    (ho : o.op = .call { callee := .builtin .append, args := #[s, x], argTypes := #[t, tx] })
    (base : Nat) (e : TypeId) (i : TypeInfo) (z : Value) (bytes : Nat) (ht : P.underlying t = some (.slice e)) (hi : P.info? e = some i) (hz : i.zero = some z) (hsize : i.size = 1) (hby : i.bytes = bytes) (hzs : z.cells.size = 1)
    (v : Value) (n : Nat) (xs : List Value) (hv : a.eval s = v) (hown : w.ownsRow base e 1 v n xs) (y : Value) (m : Nat) (news : List Value) (hx : a.eval x = y) (hs : Src P 1 tx y m news w)
    (h63 : n + m ≤ maxLen) (hbytes : (n + m) * bytes ≤ 140737488355328) (hbase : base ≤ w.heap.size)
    (h : ∀ v' w', w'.ownsRow base e 1 v' (n + m) (xs ++ news) → w.grownBy w' v.ownBlock → Moved w v v' → K (a.put o.dst v') w') : if Region.wanted o (yielded ops a.tmps) = true then Oper.wp P o a w K Q else E := by
  subst hby
  have hw : Region.wanted o (yielded ops a.tmps) = true := by simp [Region.wanted, hgd]
  rw [if_pos hw]
  obtain ⟨v', w', hr, h2, h3, h4⟩ := run_app (P := P) w base t tx o.type e i z ht hi hz hsize hzs v n xs hown y m news hs h63 hbytes hbase
  unfold Oper.wp execOp
  simp only [ho, resolve, invoke, builtin, Sem.run_bind, Sem.run_pure, Result.andThen_ok, List.map_toArray, List.map_cons, List.map_nil, hv, hx, hr]
  exact h v' w' h2 h3 h4

/-- Bytes of one's own. -/
def OwnK (base : Nat) (w : World) (v : Value) (K : List Int) : Prop := w.ownsRow base 5 1 v K.length (K.map (Value.int .u8))
theorem OwnK.upd {S : Nat → Prop} {base : Nat} {w w' : World} {v : Value} {K : List Int} (h : OwnK base w v K) (u : Upd S w w') (hS : ∀ k, v.ownBlock = some k → ¬ S k) : OwnK base w' v K := ownsRow_upd h u hS
/-- A book: its lists, and for each what it was. -/
structure BookAt (base : Nat) (w : World) (gb : Nat) (bv wv : Value) (vs us : List Value) (Ks : List (List Int)) : Prop where
  block : w.heap[gb]? = some (.cells #[bv, wv] 30 (0, 0))
  le : base ≤ gb
  lown : w.ownsRow base 23 1 bv vs.length vs
  wown : w.ownsRow base 23 1 wv us.length us
  ne : ∀ k, bv.ownBlock = some k → wv.ownBlock ≠ some k
  vlen : vs.length = Ks.length
  ulen : us.length = Ks.length
  vrow : ∀ (j : Nat) v K, vs[j]? = some v → Ks[j]? = some K → OwnK base w v K
  urow : ∀ (j : Nat) v K, us[j]? = some v → Ks[j]? = some K → OwnK base w v K
  apart : ∀ (i j : Nat) u v, vs[i]? = some u → vs[j]? = some v → i ≠ j → ∀ k, u.ownBlock = some k → v.ownBlock ≠ some k
theorem push_get {α : Type} {l : List α} {x y : α} {j : Nat} (h : (l ++ [x])[j]? = some y) : (j < l.length ∧ l[j]? = some y) ∨ (j = l.length ∧ y = x) := by
  by_cases hj : j < l.length
  · rw [List.getElem?_append_left hj] at h
    exact Or.inl ⟨hj, h⟩
  · rw [List.getElem?_append_right (by omega)] at h
    have hlt : j - l.length < 1 := by have := (List.getElem?_eq_some_iff.1 h).1; simpa using this
    have : j - l.length = 0 := by omega
    rw [this] at h
    simp at h
    exact Or.inr ⟨by omega, h.symm⟩
theorem keep_end {base gb : Nat} {w w1 Wc w3 : World} {bv wv bv' wv' x y : Value} {vs us : List Value} {Ks : List (List Int)} {K : List Int} {o1 o2 : Obj} (B : BookAt base w gb bv wv vs us Ks) (hx : OwnK base w x K) (ha : ∀ (j : Nat) v, vs[j]? = some v → ∀ k, x.ownBlock = some k → v.ownBlock ≠ some k)
    (h1 : w1.ownsRow base 23 1 bv' (vs.length + 1) (vs ++ [x])) (g1 : (w.alloc o1).grownBy w1 bv.ownBlock) (m1 : Moved (w.alloc o1) bv bv')
    (uc : Upd (fun _ => False) (w1.setCell ⟨gb, 0, none⟩ bv') Wc) (hy : OwnK base Wc y K)
    (h3 : w3.ownsRow base 23 1 wv' (us.length + 1) (us ++ [y])) (g3 : (Wc.alloc o2).grownBy w3 wv.ownBlock) (m3 : Moved (Wc.alloc o2) wv wv') :
    BookAt base (w3.setCell ⟨gb, 1, none⟩ wv') gb bv' wv' (vs ++ [x]) (us ++ [y]) (Ks ++ [K]) ∧ Upd (fun k => k = gb ∨ bv.ownBlock = some k ∨ wv.ownBlock = some k) w (w3.setCell ⟨gb, 1, none⟩ wv') := by
  have hgb := lt_of_block B.block
  have nb : bv.ownBlock ≠ some gb := own_not B.lown B.block (fun cs h => by simp at h)
  have nw : wv.ownBlock ≠ some gb := own_not B.wown B.block (fun cs h => by simp at h)
  have u1 : Upd (fun k => k = gb ∨ bv.ownBlock = some k ∨ wv.ownBlock = some k) w w1 := ((Upd.refl _ _).alloc o1).grown g1 (fun k _ e => Or.inr (Or.inl e))
  have z0 : (w.alloc o1).heap.size = w.heap.size + 1 := by simp
  have z1 := g1.size
  have k1 : w1.heap[gb]? = some (.cells #[bv, wv] 30 (0, 0)) := (g1.block gb (by omega) (fun e => nb e.symm)).trans ((Below.heap_alloc _ _ _ hgb).trans B.block)
  have k2 := set2_0 bv' k1
  have kc := (uc.block gb (lt_of_block k2) (fun h => h)).trans k2
  have kd := (Below.heap_alloc Wc o2 gb (lt_of_block kc)).trans kc
  have zc := uc.size
  have zd : (Wc.alloc o2).heap.size = Wc.heap.size + 1 := by simp
  have zs := size_set w1 ⟨gb, 0, none⟩ bv'
  have k3 := (g3.block gb (by have := lt_of_block kd; omega) (fun e => nw e.symm)).trans kd
  have k4 := set2_1 wv' k3
  -- from w1 on
  have U1 : Upd (fun k => k = gb ∨ wv.ownBlock = some k) w1 (w3.setCell ⟨gb, 1, none⟩ wv') := by
    have a1 : Upd (fun k => k = gb ∨ wv.ownBlock = some k) w1 (w1.setCell ⟨gb, 0, none⟩ bv') := (Upd.refl _ _).setCell (p := ⟨gb, 0, none⟩) (fun _ => Or.inl rfl) _
    have a2 := a1.trans uc (fun _ _ h => h.elim)
    have a3 := (a2.alloc o2).grown g3 (fun k _ e => Or.inr e)
    exact a3.setCell (p := ⟨gb, 1, none⟩) (fun _ => Or.inl rfl) _
  have Uc : Upd (fun k => k = gb ∨ wv.ownBlock = some k) Wc (w3.setCell ⟨gb, 1, none⟩ wv') :=
    (((Upd.refl (fun k => k = gb ∨ wv.ownBlock = some k) _).alloc o2).grown g3 (fun k _ e => Or.inr e)).setCell (p := ⟨gb, 1, none⟩) (fun _ => Or.inl rfl) _
  have U : Upd (fun k => k = gb ∨ bv.ownBlock = some k ∨ wv.ownBlock = some k) w (w3.setCell ⟨gb, 1, none⟩ wv') := u1.trans U1 (fun k _ h => by rcases h with h | h; exact Or.inl h; exact Or.inr (Or.inr h))
  have old : ∀ v L, OwnK base w v L → OwnK base (w3.setCell ⟨gb, 1, none⟩ wv') v L := fun v L h => h.upd U (fun k hk e => by
    rcases e with rfl | e | e
    · exact own_not h B.block (fun cs h => by simp at h) hk
    · exact own_apart h B.lown (by decide) hk e
    · exact own_apart h B.wown (by decide) hk e)
  have hwlt : ∀ k, wv.ownBlock = some k → k < w.heap.size := fun k hk => (own_lt B.wown hk).1
  have nbw : ∀ k, bv'.ownBlock = some k → wv.ownBlock ≠ some k := fun k hk e => by
    rcases m1 with h | ⟨j, h, hj⟩
    · exact B.ne k (h ▸ hk) e
    · rw [hk] at h
      simp at h
      have := hwlt k e
      omega
  have Uw : Upd (fun k => k = gb ∨ bv.ownBlock = some k) w Wc := by
    have a1 : Upd (fun k => k = gb ∨ bv.ownBlock = some k) w w1 := ((Upd.refl _ _).alloc o1).grown g1 (fun k _ e => Or.inr e)
    exact (a1.setCell (p := ⟨gb, 0, none⟩) (fun _ => Or.inl rfl) _).trans uc (fun _ _ h => h.elim)
  refine ⟨⟨k4, B.le, ?_, ?_, ?_, by simp [B.vlen], by simp [B.ulen], ?_, ?_, ?_⟩, U⟩
  · rw [List.length_append]
    refine ownsRow_upd h1 U1 (fun k hk e => ?_)
    rcases e with rfl | e
    · exact own_not h1 k1 (fun cs h => by simp at h) hk
    · exact nbw k hk e
  · rw [List.length_append]
    refine ownsRow_upd h3 ((Upd.refl (fun k => k = gb) _).setCell (p := ⟨gb, 1, none⟩) (fun _ => rfl) _) (fun k hk e => ?_)
    subst e
    exact own_not h3 k3 (fun cs h => by simp at h) hk
  · intro k hk e
    rcases m3 with h | ⟨j, h, hj⟩
    · exact nbw k hk (h ▸ e)
    · rw [e] at h
      simp at h
      have := (own_lt h1 hk).1
      omega
  · intro j v L hv hL
    rcases push_get hv with ⟨hj, hv⟩ | ⟨hj, rfl⟩
    · rcases push_get hL with ⟨hj', hL⟩ | ⟨hj', rfl⟩
      · exact old v L (B.vrow j v L hv hL)
      · have := B.vlen; omega
    · rcases push_get hL with ⟨hj', hL⟩ | ⟨hj', rfl⟩
      · have := B.vlen; omega
      · exact old _ _ hx
  · intro j v L hv hL
    rcases push_get hv with ⟨hj, hv⟩ | ⟨hj, rfl⟩
    · rcases push_get hL with ⟨hj', hL⟩ | ⟨hj', rfl⟩
      · exact old v L (B.urow j v L hv hL)
      · have := B.ulen; omega
    · rcases push_get hL with ⟨hj', hL⟩ | ⟨hj', rfl⟩
      · have := B.ulen; omega
      · refine hy.upd Uc (fun k hk e => ?_)
        rcases e with rfl | e
        · exact own_not hy kc (fun cs h => by simp at h) hk
        · have hw := ownsRow_upd (S := fun k => k = gb ∨ bv.ownBlock = some k) B.wown Uw (fun k hk e => ?_)
          · exact own_apart hy hw (by decide) hk e
          · rcases e with rfl | e
            · exact nw hk
            · exact B.ne k e hk
  · intro i j u v hu hv hne k hk
    rcases push_get hu with ⟨hi, hu'⟩ | ⟨hi, eu⟩
    · rcases push_get hv with ⟨hj, hv'⟩ | ⟨hj, ev⟩
      · exact B.apart i j u v hu' hv' hne k hk
      · exact fun e => ha i u hu' k (ev ▸ e) hk
    · rcases push_get hv with ⟨hj, hv'⟩ | ⟨hj, ev⟩
      · exact ha j v hv' k (eu ▸ hk)
      · omega
set_option maxHeartbeats 2000000 in
theorem keep_any (base gb : Nat) (bv wv : Value) (vs us : List Value) (Ks : List (List Int)) (ax : Option Addr) (nx cx : Nat) (K : List Int) (w : World) (B : BookAt base w gb bv wv vs us Ks) (hb : base ≤ w.heap.size) (hx : OwnK base w (.slice ax nx cx) K) (hK : K.length ≤ 140737488355328) (hn : Ks.length ≤ 1000)
    (ha : ∀ (j : Nat) v, vs[j]? = some v → ∀ k, (Value.slice ax nx cx).ownBlock = some k → v.ownBlock ≠ some k) :
    Calls Try.prog 9 #[.pointer (some ⟨gb, 0, none⟩), .slice ax nx cx] w fun e w' => e = .returned (.tuple #[]) ∧ ∃ bv' wv' y, BookAt base w' gb bv' wv' (vs ++ [.slice ax nx cx]) (us ++ [y]) (Ks ++ [K]) ∧ Upd (fun k => k = gb ∨ bv.ownBlock = some k ∨ wv.ownBlock = some k) w w' ∧ Moved w bv bv' ∧ Moved w wv wv' := by
  obtain ⟨i0, hi, hz0, hz1, hz2⟩ := info_parts Try.info5
  obtain ⟨i1, hiq, hq0, hq1, hq2⟩ := info_parts Try.infoBB
  obtain ⟨c0, c1⟩ := cell2 B.block
  have hgb := lt_of_block B.block
  have nb : bv.ownBlock ≠ some gb := own_not B.lown B.block (fun cs h => by simp at h)
  have nw : wv.ownBlock ≠ some gb := own_not B.wown B.block (fun cs h => by simp at h)
  have hvl := B.vlen
  have hul := B.ulen
  obtain ⟨ab, lb, cb, rfl⟩ := row_shape B.lown
  obtain ⟨aw, lw, cw, rfl⟩ := row_shape B.wown
  have HX : Hid (OwnK base w (.slice ax nx cx) K) := hx
  have hnx : Hid (nx = K.length) := (own_cap hx).1
  have L1 := B.lown.alloc (.cells #[.slice ax nx cx] 23)
  have S1 := src_one Try.underlying28 w (.slice ax nx cx) 23 rfl
  obtain ⟨Q, hQ⟩ : ∃ Q : World → Prop, Q = fun w' => ∃ bv' wv' y, BookAt base w' gb bv' wv' (vs ++ [.slice ax nx cx]) (us ++ [y]) (Ks ++ [K]) ∧ Upd (fun k => k = gb ∨ (Value.slice ab lb cb).ownBlock = some k ∨ (Value.slice aw lw cw).ownBlock = some k) w w' ∧ Moved w (.slice ab lb cb) bv' ∧ Moved w (.slice aw lw cw) wv' := ⟨_, rfl⟩
  suffices H : Calls Try.prog 9 #[.pointer (some ⟨gb, 0, none⟩), .slice ax nx cx] w fun e w' => e = .returned (.tuple #[]) ∧ Q w' by rw [hQ] at H; exact H
  have END : Hid (∀ (w1 Wc w3 : World) (bv' wv' y : Value) (o1 o2 : Obj), w1.ownsRow base 23 1 bv' (vs.length + 1) (vs ++ [.slice ax nx cx]) → (w.alloc o1).grownBy w1 (Value.slice ab lb cb).ownBlock → Moved (w.alloc o1) (.slice ab lb cb) bv' → Upd (fun _ => False) (w1.setCell ⟨gb, 0, none⟩ bv') Wc → OwnK base Wc y K → w3.ownsRow base 23 1 wv' (us.length + 1) (us ++ [y]) → (Wc.alloc o2).grownBy w3 (Value.slice aw lw cw).ownBlock → Moved (Wc.alloc o2) (.slice aw lw cw) wv' → Q (w3.setCell ⟨gb, 1, none⟩ wv')) :=
    fun w1 Wc w3 bv' wv' y o1 o2 h1 g1 m1 uc hy h3 g3 m3 => by
      obtain ⟨b, u⟩ := keep_end B hx ha h1 g1 m1 uc hy h3 g3 m3
      have z1 := g1.size
      have zc := uc.size
      rw [size_set] at zc
      have za : (w.alloc o1).heap.size = w.heap.size + 1 := by simp
      have zb : (Wc.alloc o2).heap.size = Wc.heap.size + 1 := by simp
      rw [hQ]
      exact ⟨bv', wv', y, b, u, (Moved.refl _ _).trans (by omega) m1, (Moved.refl _ _).trans (by omega) m3⟩
  have HW : Hid (∀ (w1 W : World) (v : Value) (o1 : Obj), (w.alloc o1).grownBy w1 (Value.slice ab lb cb).ownBlock → Upd (fun _ => False) (w1.setCell ⟨gb, 0, none⟩ v) W → W.ownsRow base 23 1 (.slice aw lw cw) us.length us ∧ OwnK base W (.slice ax nx cx) K ∧ W.heap[gb]? = some (.cells #[v, .slice aw lw cw] 30 (0, 0)) ∧ base ≤ W.heap.size) := fun w1 W v o1 g1 u => by
    have a1 : Upd (fun k => k = gb ∨ (Value.slice ab lb cb).ownBlock = some k) w w1 := ((Upd.refl _ _).alloc o1).grown g1 (fun k _ e => Or.inr e)
    have a2 := (a1.setCell (p := ⟨gb, 0, none⟩) (fun _ => Or.inl rfl) v).trans u (fun _ _ h => h.elim)
    have za : (w.alloc o1).heap.size = w.heap.size + 1 := by simp
    have k1 : w1.heap[gb]? = _ := (g1.block gb (by omega) (fun e => nb e.symm)).trans ((Below.heap_alloc _ _ _ hgb).trans B.block)
    have k2 := set2_0 v k1
    refine ⟨ownsRow_upd B.wown a2 (fun k hk e => ?_), hx.upd a2 (fun k hk e => ?_), (u.block gb (lt_of_block k2) (fun h => h)).trans k2, by have := a2.size; omega⟩
    · rcases e with rfl | e
      · exact nw hk
      · exact B.ne k e hk
    · rcases e with rfl | e
      · exact own_not hx B.block (fun cs h => by simp at h) hk
      · exact own_apart hx B.lown (by decide) hk e
  have h63 : vs.length + 1 ≤ maxLen := by unfold maxLen; omega
  have hby : (vs.length + 1) * 24 ≤ 140737488355328 := by omega
  have h64 : us.length + 1 ≤ maxLen := by unfold maxLen; omega
  have hbz : (us.length + 1) * 24 ≤ 140737488355328 := by omega
  have hal : base ≤ (w.alloc (.cells #[.slice ax nx cx] 23)).heap.size := by simp; omega
  have HK : Hid (∀ w1, (w.alloc (.cells #[.slice ax nx cx] 23)).grownBy w1 (Value.slice ab lb cb).ownBlock → w1.heap[gb]? = some (.cells #[.slice ab lb cb, .slice aw lw cw] 30 (0, 0))) := fun w1 g1 => by
    have za : (w.alloc (.cells #[.slice ax nx cx] 23)).heap.size = w.heap.size + 1 := by simp
    exact (g1.block gb (by omega) (fun e => nb e.symm)).trans ((Below.heap_alloc _ _ _ hgb).trans B.block)
  have hlw : Hid (lw = us.length) := (own_cap B.wown).1
  obtain ⟨nv, hnv⟩ : ∃ n, vs.length = n := ⟨_, rfl⟩
  obtain ⟨nu, hnu⟩ : ∃ n, us.length = n := ⟨_, rfl⟩
  rw [hnv] at L1 END h63 hby
  rw [hnu] at END HW h64 hbz hlw
  clear hQ B hx ha nw hvl hul hnv hnu hn
  go_enter Try.func9, Try.ntmps9
  go_wp2_with (at_builtin; refine wpList_app _ rfl _ _ 28 28 rfl base 23 i1 (.slice none 0 0) 24 Try.underlying28 hiq hq0 hq1 hq2 rfl _ _ _ rfl L1 _ 1 [.slice ax nx cx] rfl S1 h63 hby hal ?_; intro v1 w1 o1 g1 m1; obtain ⟨a1, l1, c1', rfl⟩ := row_shape o1; have k1 := HK.out w1 g1; have k1c := (cell2 k1).1; have k1f := free2 k1 0)
  have k2 := set2_0 (.slice a1 l1 c1') k1
  have k2c := (cell2 k2).2
  have k2b := k2
  have HE : Hid (∀ Wc w3 wv' y o2, Upd (fun _ => False) (w1.setCell ⟨gb, 0, none⟩ (.slice a1 l1 c1')) Wc → _) := fun Wc w3 wv' y o2 uc => END.out w1 Wc w3 (.slice a1 l1 c1') wv' y _ o2 o1 g1 m1 uc
  have HV : Hid (∀ W, Upd (fun _ => False) (w1.setCell ⟨gb, 0, none⟩ (.slice a1 l1 c1')) W → _) := fun W u => HW.out w1 W (.slice a1 l1 c1') _ g1 u
  clear END HW HK o1 g1 m1 k1 k1c k1f S1 L1 c0 c1 hal k2
  obtain ⟨w2, hw2⟩ : ∃ W, w1.setCell ⟨gb, 0, none⟩ (.slice a1 l1 c1') = W := ⟨_, rfl⟩
  rw [hw2] at HE HV k2c k2b ⊢
  clear hw2
  have hg2 := lt_of_block k2b
  have b2 := (HV.out w2 (Upd.refl _ _)).2.2.2
  have ka : (w2.alloc (.cells #[] 5)).cell? ⟨gb, 1, none⟩ = some (.slice aw lw cw) := (cell2 ((Below.heap_alloc _ _ _ hg2).trans k2b)).2
  have FR := own_fresh w2 base b2
  have SX : Hid (∀ W, Upd (fun _ => False) w2 W → Src Try.prog 1 23 (.slice ax nx cx) nx (K.map (Value.int .u8)) W) := fun W u => (Holds.ofRow (HV.out W u).2.1).src cx
  have S2 := SX.out (w2.alloc (.cells #[] 5)) ((Upd.refl _ _).alloc _)
  have q1 : 0 + nx ≤ maxLen := by have := hnx.out; unfold maxLen; omega
  have q2 : (0 + nx) * 1 ≤ 140737488355328 := by have := hnx.out; omega
  have q3 : base ≤ (w2.alloc (.cells #[] 5)).heap.size := by simp; omega
  have NW : (Value.slice aw lw cw).ownBlock ≠ some gb := own_not (HV.out w2 (Upd.refl _ _)).1 k2b (fun cs h => by simp at h)
  have HA3 : Hid (∀ W w3 : World, Upd (fun _ => False) w2 W → W.grownBy w3 (Value.slice (some ⟨w2.heap.size, 0, none⟩) 0 0).ownBlock → Upd (fun _ => False) w2 w3) := fun W w3 u g => u.grown g (fun k hk e => by simp [Value.ownBlock] at e; omega)
  go_region_law (first
    | (refine step_app _ (by rfl) _ _ 23 23 (by rfl) base 5 i0 (.int .u8 0) 1 Try.underlying23 hi hz0 hz1 hz2 rfl (.slice (some ⟨w2.heap.size, 0, none⟩) 0 0) 0 [] (by rfl) (by first | exact FR | exact FR.drew) (.slice ax nx cx) nx (K.map (Value.int .u8)) (by rfl) (SX.out _ (by repeat' first | exact Upd.refl _ _ | refine Upd.alloc ?_ _ | refine Upd.drew ?_)) q1 q2 (by first | exact q3 | (simp; omega)) ?_; intro v3 w3 o3 g3 m3; have u3 := HA3.out _ w3 (by repeat' first | exact Upd.refl _ _ | refine Upd.alloc ?_ _ | refine Upd.drew ?_) g3; clear g3 m3; obtain ⟨a3, l3, c3, rfl⟩ := row_shape o3; have k3 := (u3.block gb hg2 (fun h => h)).trans k2b; have k3c := (cell2 k3).2; have k3d := (cell2 ((Below.heap_alloc w3 (.cells #[.slice a3 l3 c3] 23) _ (lt_of_block k3)).trans k3)).2; have w3o := (HV.out _ u3).1.alloc (.cells #[.slice a3 l3 c3] 23); have S3 := src_one Try.underlying28 w3 (.slice a3 l3 c3) 23 rfl; have b3 : base ≤ (w3.alloc (.cells #[.slice a3 l3 c3] 23)).heap.size := (by have := (HV.out _ u3).2.2.2; simp; omega); have k3e := (Below.heap_alloc w3 (.cells #[.slice a3 l3 c3] 23) _ (lt_of_block k3)).trans k3)
    | (refine step_app _ (by rfl) _ _ 28 28 (by rfl) base 23 i1 (.slice none 0 0) 24 Try.underlying28 hiq hq0 hq1 hq2 rfl (.slice aw lw cw) nu us (by rfl) (by first | exact w3o | exact w3o.drew) (.slice (some ⟨w3.heap.size, 0, none⟩) 1 1) 1 [.slice a3 l3 c3] (by rfl) (by first | exact S3) h64 hbz b3 ?_; intro v5 w5 o5 g5 m5; obtain ⟨a5, l5, c5, rfl⟩ := row_shape o5; have k5 := (g5.block gb (lt_of_block k3e) (fun e => NW e.symm)).trans k3e; have k5c := (cell2 k5).2; have k5f := free2 k5 1))
  all_goals (
    have y3 : OwnK base w3 (.slice a3 l3 c3) K := (by have h := o3; rw [Nat.zero_add, List.nil_append, hnx.out] at h; exact h)
    have fin := HE.out w3 w5 (.slice a5 l5 c5) (.slice a3 l3 c3) _ u3 y3 o5 g5 m5
    clear HE HV SX HA3
    go_wp2
    go_returns
    exact ⟨rfl, fin⟩)
end Go.Proofs.Ytkfefebjciolcaa
