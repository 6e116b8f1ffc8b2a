/-
  Layer 13 (sketch): SketchPlays: the sketches that came out: hold (written by gen_ld.py).
-/
import Derived.Test.YtmegmjhkjaejgaaLC
import Derived.Test.YtmegmjhkjaejgaaMq
namespace Go.Proofs.Ytmegmjhkjaejgaa.sk.pl
open Go Go.RowKit Go.Proofs.Ytmegmjhkjaejgaa.sk
set_option maxRecDepth 100000

theorem Try.infoBB : (Try.prog.info? 28).map (fun i => (i.zero, i.size, i.bytes)) = some (some (.slice none 0 0), 1, 24) := by kernel_rfl
theorem src_one {P : Program} {tx e : TypeId} (hu : P.underlying tx = some (.slice e)) (w : World) (x : Value) (t : TypeId) (h1 : x.oneCell' = true) : Src P 1 tx (.slice (some ⟨w.heap.size, 0, none⟩) 1 1) 1 [x] (w.alloc (.cells #[x] t)) := by
  refine Src.ofSlice _ hu ⟨w.heap.size, 0, none⟩ 1 1 _ rfl ?_ ?_
  · intro j u hj
    match j, hj with
    | 0, hj => simp at hj; subst hj; simp [Addr.add]
  · intro u hu; simp at hu; subst hu; exact h1
theorem cell2 {w : World} {f : Nat} {a b : Value} {t : TypeId} (h : w.heap[f]? = some (.cells #[a, b] t (0, 0))) : w.cell? ⟨f, 0, none⟩ = some a ∧ w.cell? ⟨f, 1, none⟩ = some b := by
  simp [World.cell?, h]
theorem free2 {w : World} {f : Nat} {cs : Array Value} {t : TypeId} (h : w.heap[f]? = some (.cells cs t (0, 0))) (i : Nat) : w.frozen? ⟨f, i, none⟩ = false := by
  simp [World.frozen?, h]
theorem set2_0 {w : World} {f : Nat} {a b : Value} {t : TypeId} (x : Value) (h : w.heap[f]? = some (.cells #[a, b] t (0, 0))) : (w.setCell ⟨f, 0, none⟩ x).heap[f]? = some (.cells #[x, b] t (0, 0)) := by
  show (w.heap.modify f _)[f]? = _
  rw [Array.getElem?_modify, if_pos rfl, h]
  rfl
theorem set2_1 {w : World} {f : Nat} {a b : Value} {t : TypeId} (x : Value) (h : w.heap[f]? = some (.cells #[a, b] t (0, 0))) : (w.setCell ⟨f, 1, none⟩ x).heap[f]? = some (.cells #[a, x] t (0, 0)) := by
  show (w.heap.modify f _)[f]? = _
  rw [Array.getElem?_modify, if_pos rfl, h]
  rfl
theorem size_set (w : World) (p : Addr) (v : Value) : (w.setCell p v).heap.size = w.heap.size := by
  show (w.heap.modify _ _).size = _
  simp
theorem own_type {base : Nat} {w : World} {e : TypeId} {size : Nat} {v : Value} {n : Nat} {xs : List Value} (h : w.ownsRow base e size v n xs) {k : Nat} (hk : v.ownBlock = some k) : ∃ cs, w.heap[k]? = some (.cells cs e (0, 0)) := by
  rcases h.2 with ⟨rfl, _⟩ | ⟨g, cap, cur, rfl, _, hg, _⟩
  · simp [Value.ownBlock] at hk
  · simp [Value.ownBlock] at hk; subst hk; exact ⟨cur, hg⟩
theorem own_not {base : Nat} {w : World} {e : TypeId} {size : Nat} {v : Value} {n : Nat} {xs : List Value} (h : w.ownsRow base e size v n xs) {k : Nat} {o : Obj} (ho : w.heap[k]? = some o) (hne : ∀ cs, o ≠ .cells cs e (0, 0)) : v.ownBlock ≠ some k := by
  intro hk
  obtain ⟨cs, hc⟩ := own_type h hk
  rw [ho] at hc
  exact hne cs (Option.some.inj hc)
theorem own_apart {base base' : Nat} {w : World} {e e' : TypeId} {size size' : Nat} {v v' : Value} {n n' : Nat} {xs xs' : List Value} (h : w.ownsRow base e size v n xs) (h' : w.ownsRow base' e' size' v' n' xs') (hne : e ≠ e') {k : Nat} (hk : v.ownBlock = some k) : v'.ownBlock ≠ some k := by
  obtain ⟨cs, hc⟩ := own_type h hk
  exact own_not h' hc (fun cs' e => by simp at e; exact hne e.2)

theorem own_lt {base : Nat} {e : TypeId} {size : Nat} {w : World} {v : Value} {n : Nat} {xs : List Value} (h : w.ownsRow base e size v n xs) {k : Nat} (hk : v.ownBlock = some k) : k < w.heap.size ∧ base ≤ k := by
  rcases h.2 with ⟨rfl, _⟩ | ⟨g, cap, cur, rfl, hg, hh, _⟩
  · simp [Value.ownBlock] at hk
  · simp [Value.ownBlock] at hk
    subst hk
    exact ⟨lt_of_block hh, hg⟩
/-- A book: its lists, and for each what it was. -/
structure BookAt (base : Nat) (w : World) (gb : Nat) (bv wv : Value) (vs us : List Value) (Ks : List (List (Int × Int))) : Prop where
  block : w.heap[gb]? = some (.cells #[bv, wv] 27 (0, 0))
  le : base ≤ gb
  lown : w.ownsRow base 28 1 bv vs.length vs
  wown : w.ownsRow base 28 1 wv us.length us
  ne : ∀ k, bv.ownBlock = some k → wv.ownBlock ≠ some k
  vlen : vs.length = Ks.length
  ulen : us.length = Ks.length
  vrow : ∀ (j : Nat) v K, vs[j]? = some v → Ks[j]? = some K → OwnBar base w v K
  urow : ∀ (j : Nat) v K, us[j]? = some v → Ks[j]? = some K → OwnBar base w v K
  apart : ∀ (i j : Nat) u v, vs[i]? = some u → vs[j]? = some v → i ≠ j → ∀ k, u.ownBlock = some k → v.ownBlock ≠ some k
theorem push_get {α : Type} {l : List α} {x y : α} {j : Nat} (h : (l ++ [x])[j]? = some y) : (j < l.length ∧ l[j]? = some y) ∨ (j = l.length ∧ y = x) := by
  by_cases hj : j < l.length
  · rw [List.getElem?_append_left hj] at h
    exact Or.inl ⟨hj, h⟩
  · rw [List.getElem?_append_right (by omega)] at h
    have hlt : j - l.length < 1 := by have := (List.getElem?_eq_some_iff.1 h).1; simpa using this
    have : j - l.length = 0 := by omega
    rw [this] at h
    simp at h
    exact Or.inr ⟨by omega, h.symm⟩
theorem keep_end {base gb : Nat} {w w1 Wc w3 : World} {bv wv bv' wv' x y : Value} {vs us : List Value} {Ks : List (List (Int × Int))} {K : List (Int × Int)} {o1 o2 : Obj} (B : BookAt base w gb bv wv vs us Ks) (hx : OwnBar base w x K) (ha : ∀ (j : Nat) v, vs[j]? = some v → ∀ k, x.ownBlock = some k → v.ownBlock ≠ some k)
    (h1 : w1.ownsRow base 28 1 bv' (vs.length + 1) (vs ++ [x])) (g1 : (w.alloc o1).grownBy w1 bv.ownBlock) (m1 : Moved (w.alloc o1) bv bv')
    (uc : Upd (fun _ => False) (w1.setCell ⟨gb, 0, none⟩ bv') Wc) (hy : OwnBar base Wc y K)
    (h3 : w3.ownsRow base 28 1 wv' (us.length + 1) (us ++ [y])) (g3 : (Wc.alloc o2).grownBy w3 wv.ownBlock) (m3 : Moved (Wc.alloc o2) wv wv') :
    BookAt base (w3.setCell ⟨gb, 1, none⟩ wv') gb bv' wv' (vs ++ [x]) (us ++ [y]) (Ks ++ [K]) ∧ Upd (fun k => k = gb ∨ bv.ownBlock = some k ∨ wv.ownBlock = some k) w (w3.setCell ⟨gb, 1, none⟩ wv') := by
  have hgb := lt_of_block B.block
  have nb : bv.ownBlock ≠ some gb := own_not B.lown B.block (fun cs h => by simp at h)
  have nw : wv.ownBlock ≠ some gb := own_not B.wown B.block (fun cs h => by simp at h)
  have u1 : Upd (fun k => k = gb ∨ bv.ownBlock = some k ∨ wv.ownBlock = some k) w w1 := ((Upd.refl _ _).alloc o1).grown g1 (fun k _ e => Or.inr (Or.inl e))
  have z0 : (w.alloc o1).heap.size = w.heap.size + 1 := by simp
  have z1 := g1.size
  have k1 : w1.heap[gb]? = some (.cells #[bv, wv] 27 (0, 0)) := (g1.block gb (by omega) (fun e => nb e.symm)).trans ((Below.heap_alloc _ _ _ hgb).trans B.block)
  have k2 := set2_0 bv' k1
  have kc := (uc.block gb (lt_of_block k2) (fun h => h)).trans k2
  have kd := (Below.heap_alloc Wc o2 gb (lt_of_block kc)).trans kc
  have zc := uc.size
  have zd : (Wc.alloc o2).heap.size = Wc.heap.size + 1 := by simp
  have zs := size_set w1 ⟨gb, 0, none⟩ bv'
  have k3 := (g3.block gb (by have := lt_of_block kd; omega) (fun e => nw e.symm)).trans kd
  have k4 := set2_1 wv' k3
  -- from w1 on
  have U1 : Upd (fun k => k = gb ∨ wv.ownBlock = some k) w1 (w3.setCell ⟨gb, 1, none⟩ wv') := by
    have a1 : Upd (fun k => k = gb ∨ wv.ownBlock = some k) w1 (w1.setCell ⟨gb, 0, none⟩ bv') := (Upd.refl _ _).setCell (p := ⟨gb, 0, none⟩) (fun _ => Or.inl rfl) _
    have a2 := a1.trans uc (fun _ _ h => h.elim)
    have a3 := (a2.alloc o2).grown g3 (fun k _ e => Or.inr e)
    exact a3.setCell (p := ⟨gb, 1, none⟩) (fun _ => Or.inl rfl) _
  have Uc : Upd (fun k => k = gb ∨ wv.ownBlock = some k) Wc (w3.setCell ⟨gb, 1, none⟩ wv') :=
    (((Upd.refl (fun k => k = gb ∨ wv.ownBlock = some k) _).alloc o2).grown g3 (fun k _ e => Or.inr e)).setCell (p := ⟨gb, 1, none⟩) (fun _ => Or.inl rfl) _
  have U : Upd (fun k => k = gb ∨ bv.ownBlock = some k ∨ wv.ownBlock = some k) w (w3.setCell ⟨gb, 1, none⟩ wv') := u1.trans U1 (fun k _ h => by rcases h with h | h; exact Or.inl h; exact Or.inr (Or.inr h))
  have old : ∀ v L, OwnBar base w v L → OwnBar base (w3.setCell ⟨gb, 1, none⟩ wv') v L := fun v L h => ownsRow_upd h U (fun k hk e => by
    rcases e with rfl | e | e
    · exact own_not h B.block (fun cs h => by simp at h) hk
    · exact own_apart h B.lown (by decide) hk e
    · exact own_apart h B.wown (by decide) hk e)
  have hwlt : ∀ k, wv.ownBlock = some k → k < w.heap.size := fun k hk => (own_lt B.wown hk).1
  have nbw : ∀ k, bv'.ownBlock = some k → wv.ownBlock ≠ some k := fun k hk e => by
    rcases m1 with h | ⟨j, h, hj⟩
    · exact B.ne k (h ▸ hk) e
    · rw [hk] at h
      simp at h
      have := hwlt k e
      omega
  have Uw : Upd (fun k => k = gb ∨ bv.ownBlock = some k) w Wc := by
    have a1 : Upd (fun k => k = gb ∨ bv.ownBlock = some k) w w1 := ((Upd.refl _ _).alloc o1).grown g1 (fun k _ e => Or.inr e)
    exact (a1.setCell (p := ⟨gb, 0, none⟩) (fun _ => Or.inl rfl) _).trans uc (fun _ _ h => h.elim)
  refine ⟨⟨k4, B.le, ?_, ?_, ?_, by simp [B.vlen], by simp [B.ulen], ?_, ?_, ?_⟩, U⟩
  · rw [List.length_append]
    refine ownsRow_upd h1 U1 (fun k hk e => ?_)
    rcases e with rfl | e
    · exact own_not h1 k1 (fun cs h => by simp at h) hk
    · exact nbw k hk e
  · rw [List.length_append]
    refine ownsRow_upd h3 ((Upd.refl (fun k => k = gb) _).setCell (p := ⟨gb, 1, none⟩) (fun _ => rfl) _) (fun k hk e => ?_)
    subst e
    exact own_not h3 k3 (fun cs h => by simp at h) hk
  · intro k hk e
    rcases m3 with h | ⟨j, h, hj⟩
    · exact nbw k hk (h ▸ e)
    · rw [e] at h
      simp at h
      have := (own_lt h1 hk).1
      omega
  · intro j v L hv hL
    rcases push_get hv with ⟨hj, hv⟩ | ⟨hj, rfl⟩
    · rcases push_get hL with ⟨hj', hL⟩ | ⟨hj', rfl⟩
      · exact old v L (B.vrow j v L hv hL)
      · have := B.vlen; omega
    · rcases push_get hL with ⟨hj', hL⟩ | ⟨hj', rfl⟩
      · have := B.vlen; omega
      · exact old _ _ hx
  · intro j v L hv hL
    rcases push_get hv with ⟨hj, hv⟩ | ⟨hj, rfl⟩
    · rcases push_get hL with ⟨hj', hL⟩ | ⟨hj', rfl⟩
      · exact old v L (B.urow j v L hv hL)
      · have := B.ulen; omega
    · rcases push_get hL with ⟨hj', hL⟩ | ⟨hj', rfl⟩
      · have := B.ulen; omega
      · refine ownsRow_upd hy Uc (fun k hk e => ?_)
        rcases e with rfl | e
        · exact own_not hy kc (fun cs h => by simp at h) hk
        · have hw := ownsRow_upd (S := fun k => k = gb ∨ bv.ownBlock = some k) B.wown Uw (fun k hk e => ?_)
          · exact own_apart hy hw (by decide) hk e
          · rcases e with rfl | e
            · exact nw hk
            · exact B.ne k e hk
  · intro i j u v hu hv hne k hk
    rcases push_get hu with ⟨hi, hu'⟩ | ⟨hi, eu⟩
    · rcases push_get hv with ⟨hj, hv'⟩ | ⟨hj, ev⟩
      · exact B.apart i j u v hu' hv' hne k hk
      · exact fun e => ha i u hu' k (ev ▸ e) hk
    · rcases push_get hv with ⟨hj, hv'⟩ | ⟨hj, ev⟩
      · exact ha j v hv' k (eu ▸ hk)
      · omega
theorem BookAt.drewN {base : Nat} {w : World} {gb : Nat} {bv wv : Value} {vs us : List Value} {Ks : List (List (Int × Int))} (B : BookAt base w gb bv wv vs us Ks) (q : Nat) : BookAt base (w.drewN q) gb bv wv vs us Ks := by
  have u : Upd (fun _ => False) w (w.drewN q) := (Upd.refl _ w).drewN q
  exact ⟨(u.block gb (lt_of_block B.block) (fun h => h)).trans B.block, B.le, ownsRow_upd B.lown u (fun _ _ h => h), ownsRow_upd B.wown u (fun _ _ h => h), B.ne, B.vlen, B.ulen, fun j v K h1 h2 => ownsRow_upd (B.vrow j v K h1 h2) u (fun _ _ h => h), fun j v K h1 h2 => ownsRow_upd (B.urow j v K h1 h2) u (fun _ _ h => h), B.apart⟩
/-- What hold leaves. -/
def HoldP (base gb : Nat) (bv wv x y : Value) (vs us : List Value) (Ks : List (List (Int × Int))) (K : List (Int × Int)) (w : World) (e : Ending) (w' : World) : Prop := e = .returned (.bool true) ∧ ∃ bv' wv', BookAt base w' gb bv' wv' (vs ++ [x]) (us ++ [y]) (Ks ++ [K]) ∧ Upd (fun k => k = gb ∨ bv.ownBlock = some k ∨ wv.ownBlock = some k) w w'
set_option maxHeartbeats 2000000 in
theorem hold_any (base gb : Nat) (bv wv : Value) (vs us : List Value) (Ks : List (List (Int × Int))) (ax ay : Option Addr) (nx cx ny cy : Nat) (K : List (Int × Int)) (w : World) (B : BookAt base w gb bv wv vs us Ks) (hb : base ≤ w.heap.size) (hx : OwnBar base w (.slice ax nx cx) K) (hy : OwnBar base w (.slice ay ny cy) K) (hK : K.length ≤ 1920 ∧ Bin K) (hn : Ks.length ≤ 7000000000)
    (ha : ∀ (j : Nat) v, vs[j]? = some v → ∀ k, (Value.slice ax nx cx).ownBlock = some k → v.ownBlock ≠ some k) :
    Calls Try.prog 20 #[.pointer (some ⟨gb, 0, none⟩), .slice ax nx cx, .slice ay ny cy] w (HoldP base gb bv wv (.slice ax nx cx) (.slice ay ny cy) vs us Ks K w) := by
  obtain ⟨i1, hiq, hq0, hq1, hq2⟩ := info_parts Try.infoBB
  obtain ⟨c0, c1⟩ := cell2 B.block
  have hgb := lt_of_block B.block
  have nb : bv.ownBlock ≠ some gb := own_not B.lown B.block (fun cs h => by simp at h)
  have nw : wv.ownBlock ≠ some gb := own_not B.wown B.block (fun cs h => by simp at h)
  have hvl := B.vlen
  have hul := B.ulen
  obtain ⟨ab, lb, cb, rfl⟩ := row_shape B.lown
  obtain ⟨aw, lw, cw, rfl⟩ := row_shape B.wown
  have L1 := B.lown.alloc (.cells #[.slice ax nx cx] 28)
  have S1 := src_one Try.underlying25 w (.slice ax nx cx) 28 rfl
  have hin : ∀ {W : World} {ao : Option Addr} {n c : Nat}, OwnBar base W (.slice ao n c) K → InAt W ao n K := fun h => ⟨h.at, fun a ha _ => by
    subst ha
    exact (own_lt h (by rfl)).1, by have h2 := (own_cap h).1; unfold maxLen; omega, hK.2⟩
  have END : Hid (∀ (w1 w3 : World) (bv' wv' : Value) (o1 o2 : Obj), w1.ownsRow base 28 1 bv' (vs.length + 1) (vs ++ [.slice ax nx cx]) → (w.alloc o1).grownBy w1 (Value.slice ab lb cb).ownBlock → Moved (w.alloc o1) (.slice ab lb cb) bv' → w3.ownsRow base 28 1 wv' (us.length + 1) (us ++ [.slice ay ny cy]) → ((w1.setCell ⟨gb, 0, none⟩ bv').alloc o2).grownBy w3 (Value.slice aw lw cw).ownBlock → Moved ((w1.setCell ⟨gb, 0, none⟩ bv').alloc o2) (.slice aw lw cw) wv' → BookAt base (w3.setCell ⟨gb, 1, none⟩ wv') gb bv' wv' (vs ++ [.slice ax nx cx]) (us ++ [.slice ay ny cy]) (Ks ++ [K]) ∧ Upd (fun k => k = gb ∨ (Value.slice ab lb cb).ownBlock = some k ∨ (Value.slice aw lw cw).ownBlock = some k) w (w3.setCell ⟨gb, 1, none⟩ wv') ∧ InAt (w3.setCell ⟨gb, 1, none⟩ wv') ax nx K ∧ InAt (w3.setCell ⟨gb, 1, none⟩ wv') ay ny K) :=
    fun w1 w3 bv' wv' o1 o2 h1 g1 m1 h3 g3 m3 => by
      have a1 : Upd (fun k => k = gb ∨ (Value.slice ab lb cb).ownBlock = some k) w w1 := ((Upd.refl _ _).alloc o1).grown g1 (fun k _ e => Or.inr e)
      have a2 := a1.setCell (p := ⟨gb, 0, none⟩) (fun _ => Or.inl rfl) bv'
      have hy' : OwnBar base (w1.setCell ⟨gb, 0, none⟩ bv') (.slice ay ny cy) K := ownsRow_upd hy a2 (fun k hk e => by
        rcases e with rfl | e
        · exact own_not hy B.block (fun cs h => by simp at h) hk
        · exact own_apart hy B.lown (by decide) hk e)
      obtain ⟨b, u⟩ := keep_end B hx ha h1 g1 m1 (Upd.refl _ _) hy' h3 g3 m3
      have hl : vs.length = Ks.length := hvl
      have hl2 : us.length = Ks.length := hul
      refine ⟨b, u, hin (c := cx) (b.vrow vs.length (.slice ax nx cx) K (by simp) (by rw [hl]; simp)), hin (c := cy) (b.urow us.length (.slice ay ny cy) K (by simp) (by rw [hl2]; simp))⟩
  have HK1 : Hid (∀ w1, (w.alloc (.cells #[.slice ax nx cx] 28)).grownBy w1 (Value.slice ab lb cb).ownBlock → w1.heap[gb]? = some (.cells #[.slice ab lb cb, .slice aw lw cw] 27 (0, 0)) ∧ ∀ v, (w1.setCell ⟨gb, 0, none⟩ v).ownsRow base 28 1 (.slice aw lw cw) us.length us) := fun w1 g1 => by
    have za : (w.alloc (.cells #[.slice ax nx cx] 28)).heap.size = w.heap.size + 1 := by simp
    refine ⟨(g1.block gb (by omega) (fun e => nb e.symm)).trans ((Below.heap_alloc _ _ _ hgb).trans B.block), fun v => ?_⟩
    have a1 : Upd (fun k => k = gb ∨ (Value.slice ab lb cb).ownBlock = some k) w w1 := ((Upd.refl _ _).alloc _).grown g1 (fun k _ e => Or.inr e)
    have a2 := a1.setCell (p := ⟨gb, 0, none⟩) (fun _ => Or.inl rfl) v
    refine ownsRow_upd B.wown a2 (fun k hk e => ?_)
    rcases e with rfl | e
    · exact nw hk
    · exact B.ne k e hk
  have HK2 : Hid (∀ w1 v, (w.alloc (.cells #[.slice ax nx cx] 28)).grownBy w1 (Value.slice ab lb cb).ownBlock → w1.heap[gb]? = some (.cells #[.slice ab lb cb, .slice aw lw cw] 27 (0, 0)) ∧ w1.cell? ⟨gb, 0, none⟩ = some (.slice ab lb cb) ∧ w1.frozen? ⟨gb, 0, none⟩ = false ∧ (w1.setCell ⟨gb, 0, none⟩ v).heap[gb]? = some (.cells #[v, .slice aw lw cw] 27 (0, 0)) ∧ (w1.setCell ⟨gb, 0, none⟩ v).cell? ⟨gb, 1, none⟩ = some (.slice aw lw cw) ∧ ((w1.setCell ⟨gb, 0, none⟩ v).alloc (.cells #[.slice ay ny cy] 28)).ownsRow base 28 1 (.slice aw lw cw) us.length us ∧ base ≤ ((w1.setCell ⟨gb, 0, none⟩ v).alloc (.cells #[.slice ay ny cy] 28)).heap.size ∧ (Value.slice aw lw cw).ownBlock ≠ some gb ∧ ((w1.setCell ⟨gb, 0, none⟩ v).alloc (.cells #[.slice ay ny cy] 28)).heap[gb]? = some (.cells #[v, .slice aw lw cw] 27 (0, 0))) := fun w1 v g1 => by
    obtain ⟨k1, ow1⟩ := HK1.out w1 g1
    have k2 := set2_0 v k1
    refine ⟨k1, (cell2 k1).1, free2 k1 0, k2, (cell2 k2).2, (ow1 v).alloc _, ?_, own_not (ow1 v) k2 (fun cs h => by simp at h), (Below.heap_alloc _ _ gb (lt_of_block k2)).trans k2⟩
    have := g1.size
    have h9 := size_set w1 ⟨gb, 0, none⟩ v
    simp at this
    simp
    omega
  have SM : Hid (∀ W, InAt W ax nx K → InAt W ay ny K → Calls Try.prog 27 #[.slice ax nx cx, .slice ay ny cy] W fun e w' => e = .returned (.bool true) ∧ ∃ q, w' = W.drewN q) := fun W h1 h2 => by
    have h := same_any ax ay nx ny cx cy K K W h1 h2
    unfold SameP at h
    rw [show sameB K K = true by unfold sameB; simp] at h
    exact h
  have HQ : Hid (∀ w3 w' bv' wv', BookAt base w3 gb bv' wv' (vs ++ [.slice ax nx cx]) (us ++ [.slice ay ny cy]) (Ks ++ [K]) → Upd (fun k => k = gb ∨ (Value.slice ab lb cb).ownBlock = some k ∨ (Value.slice aw lw cw).ownBlock = some k) w w3 → (∃ q, w' = w3.drewN q) → HoldP base gb (.slice ab lb cb) (.slice aw lw cw) (.slice ax nx cx) (.slice ay ny cy) vs us Ks K w (.returned (.bool true)) w') := fun w3 w' bv' wv' h1 h2 h3 => by
    obtain ⟨q, rfl⟩ := h3
    exact ⟨rfl, bv', wv', h1.drewN q, h2.trans ((Upd.refl (fun _ => False) w3).drewN q) (fun _ _ h => h.elim)⟩
  have h63 : vs.length + 1 ≤ maxLen := by unfold maxLen; omega
  have hby : (vs.length + 1) * 24 ≤ 140737488355328 := by omega
  have h64 : us.length + 1 ≤ maxLen := by unfold maxLen; omega
  have hbz : (us.length + 1) * 24 ≤ 140737488355328 := by omega
  have hal : base ≤ (w.alloc (.cells #[.slice ax nx cx] 28)).heap.size := by simp; omega
  generalize HoldP base gb (.slice ab lb cb) (.slice aw lw cw) (.slice ax nx cx) (.slice ay ny cy) vs us Ks K w = R at *
  have hlw : Hid (base ≤ w.heap.size) := hb
  clear B hx hy ha nw hvl hul hn hK hb hin
  go_enter Try.func20, Try.ntmps20
  go_wp2_with (first
    | (at_builtin; refine wpList_app _ rfl _ _ 25 25 rfl base 28 i1 (.slice none 0 0) 24 Try.underlying25 hiq hq0 hq1 hq2 rfl _ _ _ rfl L1 _ 1 [.slice ax nx cx] rfl S1 h63 hby hal ?_; intro v1 w1 o1 g1 m1; obtain ⟨a1, l1, c1', rfl⟩ := row_shape o1; obtain ⟨k1, k1c, k1f, k2, k2c, L2, hal2, nw2, k2a⟩ := HK2.out w1 (.slice a1 l1 c1') g1; have S2 := src_one Try.underlying25 (w1.setCell ⟨gb, 0, none⟩ (.slice a1 l1 c1')) (.slice ay ny cy) 28 rfl; rw [size_set] at S2; have HE : Hid _ := fun (w3 : World) (wv' : Value) (o2 : Obj) => END.out w1 w3 (.slice a1 l1 c1') wv' _ o2 o1 g1 m1; have KK := And.intro k2a nw2; have KKh : Hid _ := KK; clear KK; have KK := KKh; clear KKh; clear END HK2 HK1 o1 g1 m1 k1 S1 L1 c0 c1 hal k2 k2a nw2)
    | (at_builtin; refine wpList_app _ rfl _ _ 25 25 rfl base 28 i1 (.slice none 0 0) 24 Try.underlying25 hiq hq0 hq1 hq2 rfl _ _ _ rfl L2 _ 1 [.slice ay ny cy] rfl S2 h64 hbz hal2 ?_; intro v3 w3 o3 g3 m3; obtain ⟨a3, l3, c3, rfl⟩ := row_shape o3; have k3 := (g3.block gb (lt_of_block KK.out.1) (fun e => KK.out.2 e.symm)).trans KK.out.1; have k3c := (cell2 k3).2; have k3f := free2 k3 1; have FIN : Hid _ := HE.out w3 _ _ o3 g3 m3; clear o3 g3 m3 HE L2 S2 KK k3 hal2)
    | (go_at_call 27; (with_reducible refine (SM.out _ FIN.out.2.2.1 FIN.out.2.2.2).mono ?_); clear SM; rintro e w5 ⟨rfl, hq5⟩))
  exact HQ.out _ _ _ _ FIN.out.1 FIN.out.2.1 hq5
end Go.Proofs.Ytmegmjhkjaejgaa.sk.pl
