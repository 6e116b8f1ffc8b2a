/-
  Layer 7 (disk): a file, and what is done with it (written by gen_db.py).
-/
import Derived.Test.YtgoafinbaiepmaaGreatDoorDa
import Derived.Deep.RegionHeld3
import Derived.Deep.RegionWith
import Derived.Handy
namespace Go.Proofs.YtgoafinbaiepmaaGreatDoor
open Go.RowKit Go.Shelf
set_option maxRecDepth 100000
theorem Tryz.info254 : (Tryz.prog.info? 254).map (fun i => (i.zero, i.size, i.bytes)) = some (some .nilIface, 1, 16) := by kernel_rfl
theorem meth_app (v : Value) (w : World) : (Go.method 473 275 v "spoor/disk.units").run Tryz.prog w = .ok (292, v) w := by kernel_rfl
theorem meth_cut (v : Value) (w : World) : (Go.method 473 277 v "spoor/disk.units").run Tryz.prog w = .ok (293, v) w := by kernel_rfl
theorem St.one (s : St) : s.v.oneCell' = true := by unfold St.v; split <;> rfl

/-- What a file is: its three slices, the bytes, the lasting ones, the steps. -/
structure Fl where
  bv : Value
  lv : Value
  sv : Value
  B : List Int
  L : List Int
  S : List St
/-- All steps done. -/
def allOn (L : List Int) (S : List St) : List Int := S.foldl (fun L s => s.on L s.units) L
/-- The first units of them. -/
def firstOn : List Int → List St → Nat → List Int
  | L, [], _ => L
  | L, s :: r, u => firstOn (s.on L u) r (u - min u s.units)
def unitsL (S : List St) : Nat := (S.map St.units).sum
/-- Each Cut leaves what is there. -/
def Legal : List Int → List St → Prop
  | _, [] => True
  | L, s :: r => (s.cut = true → s.n ≤ L.length) ∧ (s.cut = false → s.K.length = s.n ∧ 0 < s.n) ∧ Legal (s.on L s.units) r
structure FileAt (base : Nat) (w : World) (f : Nat) (F : Fl) : Prop where
  block : w.heap[f]? = some (.cells #[F.bv, F.lv, F.sv] 174 (0, 0))
  low : base ≤ f
  bown : OwnB base w F.bv F.B
  lown : OwnB base w F.lv F.L
  sown : w.ownsRow base 254 1 F.sv F.S.length (F.S.map St.v)
  steps : ∀ s ∈ F.S, StAt base w s
  bl : ∀ k, F.bv.ownBlock = some k → F.lv.ownBlock ≠ some k
  bs : ∀ s ∈ F.S, ∀ k, s.bl = some k → F.bv.ownBlock ≠ some k ∧ F.lv.ownBlock ≠ some k
  legal : Legal F.L F.S
  sum : F.B = allOn F.L F.S
/-- What may be written of a file. -/
def FW (f : Nat) (F : Fl) (k : Nat) : Prop := k = f ∨ F.bv.ownBlock = some k ∨ F.lv.ownBlock = some k ∨ F.sv.ownBlock = some k

theorem cell3 {w : World} {f : Nat} {a b c : Value} {t : TypeId} (h : w.heap[f]? = some (.cells #[a, b, c] t (0, 0))) : w.cell? ⟨f, 0, none⟩ = some a ∧ w.cell? ⟨f, 1, none⟩ = some b ∧ w.cell? ⟨f, 2, none⟩ = some c := by
  simp [World.cell?, h]
theorem free3 {w : World} {f : Nat} {cs : Array Value} {t : TypeId} (h : w.heap[f]? = some (.cells cs t (0, 0))) (i : Nat) : w.frozen? ⟨f, i, none⟩ = false := by
  simp [World.frozen?, h]
theorem set3_0 {w : World} {f : Nat} {a b c : Value} {t : TypeId} (x : Value) (h : w.heap[f]? = some (.cells #[a, b, c] t (0, 0))) : (w.setCell ⟨f, 0, none⟩ x).heap[f]? = some (.cells #[x, b, c] t (0, 0)) := by
  show (w.heap.modify f _)[f]? = _
  rw [Array.getElem?_modify, if_pos rfl, h]
  rfl
theorem set3_1 {w : World} {f : Nat} {a b c : Value} {t : TypeId} (x : Value) (h : w.heap[f]? = some (.cells #[a, b, c] t (0, 0))) : (w.setCell ⟨f, 1, none⟩ x).heap[f]? = some (.cells #[a, x, c] t (0, 0)) := by
  show (w.heap.modify f _)[f]? = _
  rw [Array.getElem?_modify, if_pos rfl, h]
  rfl
theorem set3_2 {w : World} {f : Nat} {a b c : Value} {t : TypeId} (x : Value) (h : w.heap[f]? = some (.cells #[a, b, c] t (0, 0))) : (w.setCell ⟨f, 2, none⟩ x).heap[f]? = some (.cells #[a, b, x] t (0, 0)) := by
  show (w.heap.modify f _)[f]? = _
  rw [Array.getElem?_modify, if_pos rfl, h]
  rfl
theorem size_set (w : World) (p : Addr) (v : Value) : (w.setCell p v).heap.size = w.heap.size := by
  show (w.heap.modify _ _).size = _
  simp
/-- A row's block is of its elements' type. -/
theorem own_type {base : Nat} {w : World} {e : TypeId} {size : Nat} {v : Value} {n : Nat} {xs : List Value} (h : w.ownsRow base e size v n xs) {k : Nat} (hk : v.ownBlock = some k) : ∃ cs, w.heap[k]? = some (.cells cs e (0, 0)) := by
  rcases h.2 with ⟨rfl, _⟩ | ⟨g, cap, cur, rfl, _, hg, _⟩
  · simp [Value.ownBlock] at hk
  · simp [Value.ownBlock] at hk; subst hk; exact ⟨cur, hg⟩
theorem own_not {base : Nat} {w : World} {e : TypeId} {size : Nat} {v : Value} {n : Nat} {xs : List Value} (h : w.ownsRow base e size v n xs) {k : Nat} {o : Obj} (ho : w.heap[k]? = some o) (hne : ∀ cs, o ≠ .cells cs e (0, 0)) : v.ownBlock ≠ some k := by
  intro hk
  obtain ⟨cs, hc⟩ := own_type h hk
  rw [ho] at hc
  exact hne cs (Option.some.inj hc)
theorem St.bl_own {s : St} {k : Nat} (h : s.bl = some k) : s.cut = false ∧ (Value.slice s.a s.n s.c).ownBlock = some k := by
  unfold St.bl at h
  cases hc : s.cut with
  | true => rw [hc] at h; simp at h
  | false => rw [hc] at h; exact ⟨rfl, by simpa using h⟩
theorem St.bl_of {s : St} {k : Nat} (hc : s.cut = false) (h : (Value.slice s.a s.n s.c).ownBlock = some k) : s.bl = some k := by
  unfold St.bl; rw [hc]; simpa using h
theorem StAt.upd {S : Nat → Prop} {base : Nat} {w w' : World} {s : St} (h : StAt base w s) (hu : Upd S w w') (hS : ∀ k, s.bl = some k → ¬ S k) : StAt base w' s :=
  ⟨fun hc => (h.own hc).upd hu (fun k hk => hS k (St.bl_of hc hk)), h.big⟩
theorem StAt.below {base : Nat} {w w' : World} {s : St} (h : StAt base w s) (hb : Below w.heap.size w w') : StAt base w' s :=
  h.upd (Upd.ofBelow (S := fun _ => False) hb (fun k hk hk' => by omega)) (fun _ _ h => h)
theorem StAt.lt {base : Nat} {w : World} {s : St} (h : StAt base w s) {k : Nat} (hk : s.bl = some k) : base ≤ k ∧ k < w.heap.size := by
  obtain ⟨hc, he⟩ := St.bl_own hk
  exact ⟨((h.own hc).lt he).2, ((h.own hc).lt he).1⟩
theorem StAt.type {base : Nat} {w : World} {s : St} (h : StAt base w s) {k : Nat} (hk : s.bl = some k) : ∃ cs, w.heap[k]? = some (.cells cs 5 (0, 0)) := by
  obtain ⟨hc, he⟩ := St.bl_own hk
  exact own_type (h.own hc) he
theorem FileAt.lt {base : Nat} {w : World} {f : Nat} {F : Fl} (h : FileAt base w f F) {k : Nat} (hk : FW f F k) : base ≤ k ∧ k < w.heap.size := by
  rcases hk with rfl | hk | hk | hk
  · exact ⟨h.low, lt_of_block h.block⟩
  · exact ⟨(h.bown.lt hk).2, (h.bown.lt hk).1⟩
  · exact ⟨(h.lown.lt hk).2, (h.lown.lt hk).1⟩
  · exact ⟨(own_lt h.sown hk).2, (own_lt h.sown hk).1⟩
/-- Elsewhere. -/
theorem FileAt.upd {S : Nat → Prop} {base : Nat} {w w' : World} {f : Nat} {F : Fl} (h : FileAt base w f F) (hu : Upd S w w') (hS : ∀ k, FW f F k → ¬ S k) (hT : ∀ s ∈ F.S, ∀ k, s.bl = some k → ¬ S k) : FileAt base w' f F :=
  ⟨(hu.block f (lt_of_block h.block) (hS f (Or.inl rfl))).trans h.block, h.low, h.bown.upd hu (fun k hk => hS k (Or.inr (Or.inl hk))), h.lown.upd hu (fun k hk => hS k (Or.inr (Or.inr (Or.inl hk)))), ownsRow_upd h.sown hu (fun k hk => hS k (Or.inr (Or.inr (Or.inr hk)))),
    fun s hs => (h.steps s hs).upd hu (hT s hs), h.bl, h.bs, h.legal, h.sum⟩
theorem FileAt.below {base : Nat} {w w' : World} {f : Nat} {F : Fl} (h : FileAt base w f F) (hb : Below w.heap.size w w') : FileAt base w' f F :=
  h.upd (Upd.ofBelow (S := fun _ => False) hb (fun k hk hk' => by omega)) (fun _ _ h => h) (fun _ _ _ _ h => h)
theorem FileAt.not_cells {base : Nat} {w : World} {f : Nat} {F : Fl} (h : FileAt base w f F) {k : Nat} {cs : Array Value} {t : TypeId} {fz : Nat × Nat} (hk : w.heap[k]? = some (.cells cs t fz)) (h1 : t ≠ 174) (h2 : t ≠ 5) (h3 : t ≠ 254) : ¬ FW f F k := by
  rintro (rfl | hk' | hk' | hk')
  · rw [h.block] at hk; simp at hk; exact h1 hk.2.1.symm
  · exact own_not h.bown hk (fun cs h => by simp at h; exact h2 h.2.1) hk'
  · exact own_not h.lown hk (fun cs h => by simp at h; exact h2 h.2.1) hk'
  · exact own_not h.sown hk (fun cs h => by simp at h; exact h3 h.2.1) hk'
theorem FileAt.not_map {base : Nat} {w : World} {f : Nat} {F : Fl} (h : FileAt base w f F) {k : Nat} {es : Array MapEntry} {c : Nat} (hk : w.heap[k]? = some (.map es c)) : ¬ FW f F k := by
  rintro (rfl | hk' | hk' | hk')
  · rw [h.block] at hk; simp at hk
  · exact own_not h.bown hk (fun cs h => by simp at h) hk'
  · exact own_not h.lown hk (fun cs h => by simp at h) hk'
  · exact own_not h.sown hk (fun cs h => by simp at h) hk'

theorem legal_snoc : ∀ (S : List St) (L : List Int) (s : St), Legal L S → (s.cut = true → s.n ≤ (allOn L S).length) → (s.cut = false → s.K.length = s.n ∧ 0 < s.n) → Legal L (S ++ [s])
  | [], _, _, _, h1, h2 => ⟨h1, h2, trivial⟩
  | _ :: r, _, s, h, h1, h2 => ⟨h.1, h.2.1, legal_snoc r _ s h.2.2 h1 h2⟩
theorem allOn_snoc (S : List St) (L : List Int) (s : St) : allOn L (S ++ [s]) = s.on (allOn L S) s.units := by simp [allOn]
theorem firstOn_all : ∀ (S : List St) (L : List Int) (u : Nat), Legal L S → unitsL S ≤ u → firstOn L S u = allOn L S
  | [], L, u, _, _ => rfl
  | s :: r, L, u, hl, h => by
    have hu : s.units ≤ u := by have : unitsL (s :: r) = s.units + unitsL r := by simp [unitsL]
                                omega
    have hr : unitsL r ≤ u - s.units := by have : unitsL (s :: r) = s.units + unitsL r := by simp [unitsL]
                                           omega
    have hp : 0 < s.units := by
      unfold St.units
      cases hc : s.cut with
      | true => simp
      | false => simp; exact (hl.2.1 hc).2
    have e : s.on L u = s.on L s.units := by
      unfold St.on
      rw [if_neg (by omega : ¬ u = 0), if_neg (by omega : ¬ s.units = 0)]
      cases hc : s.cut with
      | true => simp
      | false =>
        simp only [Bool.false_eq_true, if_false]
        have e1 : s.units = s.n := by simp [St.units, hc]
        rw [e1] at hu ⊢
        rw [Nat.min_eq_right hu, Nat.min_self]
    show firstOn (s.on L u) r (u - min u s.units) = allOn (s.on L s.units) r
    rw [Nat.min_eq_right hu, e]
    exact firstOn_all r _ _ hl.2.2 hr

theorem fstep_end {base f : Nat} {F : Fl} {s : St} {w w2 w3 w4 : World} {bv sv : Value} (h : FileAt base w f F) (hs : StAt base w s) (hc : s.cut = true → s.n ≤ F.B.length) (hk : s.cut = false → s.K.length = s.n ∧ 0 < s.n) (hsep : ∀ k, s.bl = some k → F.bv.ownBlock ≠ some k ∧ F.lv.ownBlock ≠ some k)
    (o2 : OwnB base w2 bv (s.on F.B s.units)) (u2 : Upd (fun k => F.bv.ownBlock = some k) w w2) (m2 : Moved w F.bv bv)
    (h3 : w3 = w2.setCell ⟨f, 0, none⟩ bv) (x : Obj)
    (o4 : w4.ownsRow base 254 1 sv (F.S.length + 1) (F.S.map St.v ++ [s.v])) (g4 : (w3.alloc x).grownBy w4 F.sv.ownBlock) (m4 : Moved (w3.alloc x) F.sv sv) :
    FileAt base (w4.setCell ⟨f, 2, none⟩ sv) f ⟨bv, F.lv, sv, s.on F.B s.units, F.L, F.S ++ [s]⟩ ∧ Upd (FW f F) w (w4.setCell ⟨f, 2, none⟩ sv) ∧ Moved w F.bv bv ∧ Moved w F.sv sv := by
  subst h3
  have hlt := lt_of_block h.block
  have nb : F.bv.ownBlock ≠ some f := own_not h.bown h.block (fun cs h => by simp at h)
  have nl : F.lv.ownBlock ≠ some f := own_not h.lown h.block (fun cs h => by simp at h)
  have ns : F.sv.ownBlock ≠ some f := own_not h.sown h.block (fun cs h => by simp at h)
  have k2 : w2.heap[f]? = some (.cells #[F.bv, F.lv, F.sv] 174 (0, 0)) := (u2.block f hlt nb).trans h.block
  have k3 := set3_0 bv k2
  have U3 : Upd (fun k => k = f ∨ F.bv.ownBlock = some k) w (w2.setCell ⟨f, 0, none⟩ bv) := (u2.mono (S' := fun k => k = f ∨ F.bv.ownBlock = some k) (fun _ _ h => Or.inr h)).setCell (p := ⟨f, 0, none⟩) (fun _ => Or.inl rfl) _
  have U4 : Upd (fun k => k = f ∨ F.bv.ownBlock = some k ∨ F.sv.ownBlock = some k) w w4 := ((U3.mono (fun k _ h => h.elim Or.inl (fun h => Or.inr (Or.inl h)))).alloc x).grown g4 (fun k _ e => Or.inr (Or.inr e))
  have hs3 : w.heap.size ≤ (w2.setCell ⟨f, 0, none⟩ bv).heap.size := U3.size
  have k4 : w4.heap[f]? = some (.cells #[bv, F.lv, F.sv] 174 (0, 0)) := by
    refine (g4.block f (by rw [World.size_alloc]; omega) (fun e => ns e.symm)).trans ?_
    exact (Below.heap_alloc _ _ _ (lt_of_block k3)).trans k3
  have k5 := set3_2 sv k4
  have m4' : Moved w F.sv sv := (Moved.refl w F.sv).trans (by rw [World.size_alloc]; omega) m4
  have U5 : Upd (fun k => k = f ∨ F.bv.ownBlock = some k ∨ F.sv.ownBlock = some k) w (w4.setCell ⟨f, 2, none⟩ sv) := U4.setCell (fun _ => Or.inl rfl) _
  -- where they lie
  have fresh : ∀ {v v' : Value} {k : Nat}, Moved w v v' → v'.ownBlock = some k → v.ownBlock = some k ∨ w.heap.size ≤ k := by
    intro v v' k hm e
    rcases hm with h1 | ⟨j, h1, h2⟩
    · exact Or.inl (h1 ▸ e)
    · rw [h1] at e; simp at e; exact Or.inr (by omega)
  have bne : bv.ownBlock ≠ some f := fun e => (fresh m2 e).elim nb (fun h1 => by omega)
  have sne : sv.ownBlock ≠ some f := fun e => (fresh m4' e).elim ns (fun h1 => by omega)
  have bs2 : ∀ k, bv.ownBlock = some k → F.sv.ownBlock ≠ some k := by
    intro k e e'
    rcases fresh m2 e with h1 | h1
    · obtain ⟨cs, hcs⟩ := own_type h.sown e'
      exact own_not h.bown hcs (fun cs h => by simp at h) h1
    · have := (own_lt h.sown e').1; omega
  have U35 : Upd (fun k => k = f ∨ F.sv.ownBlock = some k) w2 (w4.setCell ⟨f, 2, none⟩ sv) := ((((Upd.refl (fun k => k = f ∨ F.sv.ownBlock = some k) w2).setCell (p := ⟨f, 0, none⟩) (fun _ => Or.inl rfl) bv).alloc x).grown g4 (fun k _ e => Or.inr e)).setCell (p := ⟨f, 2, none⟩) (fun _ => Or.inl rfl) sv
  refine ⟨⟨k5, h.low, o2.upd U35 (fun k e hh => ?_), h.lown.upd U5 (fun k e hh => ?_), ?_, ?_, fun k e => ?_, ?_, ?_, ?_⟩, U5.mono (fun k _ hh => ?_), m2, m4'⟩
  · rcases hh with rfl | hh
    · exact bne e
    · exact bs2 k e hh
  · rcases hh with rfl | hh | hh
    · exact nl e
    · exact h.bl k hh e
    · obtain ⟨cs, hcs⟩ := own_type h.sown hh
      exact own_not h.lown hcs (fun cs h => by simp at h) e
  · have := ownsRow_upd o4 ((Upd.refl (fun k => k = f) w4).setCell (p := ⟨f, 2, none⟩) (fun _ => rfl) sv) (fun k e hh => by subst hh; exact sne e)
    simpa using this
  · intro y hy
    have hy' : StAt base w y := (List.mem_append.1 hy).elim (h.steps y) (fun e => by rw [List.mem_singleton.1 e]; exact hs)
    refine hy'.upd U5 (fun k e hh => ?_)
    obtain ⟨cs, hcs⟩ := hy'.type e
    rcases hh with rfl | hh | hh
    · rw [h.block] at hcs; simp at hcs
    · exact (List.mem_append.1 hy).elim (fun h1 => (h.bs y h1 k e).1 hh) (fun h1 => by rw [List.mem_singleton.1 h1] at e; exact (hsep k e).1 hh)
    · exact own_not h.sown hcs (fun cs h => by simp at h) hh
  · rcases fresh m2 e with h1 | h1
    · exact h.bl k h1
    · intro h2; have := (h.lown.lt h2).1; omega
  · intro y hy k e
    have hy' : StAt base w y := (List.mem_append.1 hy).elim (h.steps y) (fun e => by rw [List.mem_singleton.1 e]; exact hs)
    have old : F.bv.ownBlock ≠ some k ∧ F.lv.ownBlock ≠ some k := (List.mem_append.1 hy).elim (fun h1 => h.bs y h1 k e) (fun h1 => by rw [List.mem_singleton.1 h1] at e; exact hsep k e)
    refine ⟨fun e2 => ?_, old.2⟩
    rcases fresh m2 e2 with h1 | h1
    · exact old.1 h1
    · have := (hy'.lt e).2; omega
  · exact legal_snoc _ _ _ h.legal (by rw [← h.sum]; exact hc) hk
  · show s.on F.B s.units = _
    rw [allOn_snoc, ← h.sum]
  · rcases hh with rfl | hh | hh
    · exact Or.inl rfl
    · exact Or.inr (Or.inl hh)
    · exact Or.inr (Or.inr (Or.inr hh))
set_option maxHeartbeats 2000000 in
theorem fstep_app (base : Nat) (f : Nat) (F : Fl) (s : St) (hcut : s.cut = false) (w : World) (h : FileAt base w f F) (hb : base ≤ w.heap.size) (hs : StAt base w s) (hc : s.cut = true → s.n ≤ F.B.length) (hk : s.cut = false → s.K.length = s.n ∧ 0 < s.n) (hsep : ∀ k, s.bl = some k → F.bv.ownBlock ≠ some k ∧ F.lv.ownBlock ≠ some k)
    (hbig : F.B.length + s.units ≤ 140737488355328) (hmany : F.S.length ≤ 1000000000000) :
    Calls Tryz.prog 176 #[.pointer (some ⟨f, 0, none⟩), s.v] w fun e w' => e = .returned (.tuple #[]) ∧ ∃ bv sv, FileAt base w' f ⟨bv, F.lv, sv, s.on F.B s.units, F.L, F.S ++ [s]⟩ ∧ Upd (FW f F) w w' ∧ Moved w F.bv bv ∧ Moved w F.sv sv := by
  obtain ⟨i0, hi, hz0, hz1, hz2⟩ := info_parts Tryz.info254
  obtain ⟨c0, c1, c2⟩ := cell3 h.block
  have hlt := lt_of_block h.block
  have nb : F.bv.ownBlock ≠ some f := own_not h.bown h.block (fun cs h => by simp at h)
  have ns : F.sv.ownBlock ≠ some f := own_not h.sown h.block (fun cs h => by simp at h)
  have DF := fun W (b : Below w.heap.size w W) => doFile_any F.bv F.B s s.units W (h.bown.below b) (Nat.le_trans hb b.size) (hs.below b) (fun _ => hc) hbig
  obtain ⟨Q, hQ⟩ : ∃ Q : World → Prop, Q = fun w' => ∃ bv sv, FileAt base w' f ⟨bv, F.lv, sv, s.on F.B s.units, F.L, F.S ++ [s]⟩ ∧ Upd (FW f F) w w' ∧ Moved w F.bv bv ∧ Moved w F.sv sv := ⟨_, rfl⟩
  have END : ∀ (w2 w4 : World) (bv sv : Value) (x : Obj), OwnB base w2 bv (s.on F.B s.units) → Upd (fun k => F.bv.ownBlock = some k) w w2 → Moved w F.bv bv → w4.ownsRow base 254 1 sv (F.S.length + 1) (F.S.map St.v ++ [s.v]) → ((w2.setCell ⟨f, 0, none⟩ bv).alloc x).grownBy w4 F.sv.ownBlock → Moved ((w2.setCell ⟨f, 0, none⟩ bv).alloc x) F.sv sv → Q (w4.setCell ⟨f, 2, none⟩ sv) :=
    fun w2 w4 bv sv x o2 u2 m2 o4 g4 m4 => by rw [hQ]; exact ⟨bv, sv, fstep_end h hs hc hk hsep o2 u2 m2 rfl x o4 g4 m4⟩
  suffices H : Calls Tryz.prog 176 #[.pointer (some ⟨f, 0, none⟩), s.v] w fun e w' => e = .returned (.tuple #[]) ∧ Q w' by rw [hQ] at H; exact H
  clear hQ
  have K2 : ∀ W w2, Below w.heap.size w W → Upd (fun k => F.bv.ownBlock = some k) W w2 → Upd (fun k => F.bv.ownBlock = some k) w w2 ∧ w2.heap[f]? = some (.cells #[F.bv, F.lv, F.sv] 174 (0, 0)) := fun W w2 b u => by
    have u' : Upd (fun k => F.bv.ownBlock = some k) w w2 := (Upd.ofBelow b (fun k hk hk' => by omega)).trans u (fun _ _ h => h)
    exact ⟨u', (u'.block f hlt nb).trans h.block⟩
  have K3 : ∀ (w2 : World) (bv : Value) (x : Obj), Upd (fun k => F.bv.ownBlock = some k) w w2 → ((w2.setCell ⟨f, 0, none⟩ bv).alloc x).ownsRow base 254 1 F.sv F.S.length (F.S.map St.v) := fun w2 bv x u => by
    have u3 : Upd (fun k => k = f ∨ F.bv.ownBlock = some k) w ((w2.setCell ⟨f, 0, none⟩ bv).alloc x) := ((u.mono (S' := fun k => k = f ∨ F.bv.ownBlock = some k) (fun _ _ h => Or.inr h)).setCell (p := ⟨f, 0, none⟩) (fun _ => Or.inl rfl) _).alloc x
    refine ownsRow_upd h.sown u3 (fun k e hh => ?_)
    rcases hh with rfl | hh
    · exact ns e
    · obtain ⟨cs, hcs⟩ := own_type h.sown e
      exact own_not h.bown hcs (fun cs h => by simp at h) hh
  have hsv := s.one
  have hu : (s.units : Int) = (s.n : Int) := by simp [St.units, hcut]
  rw [hu] at DF
  have hv : s.v = .iface 275 (.agg #[.slice s.a s.n s.c]) := by simp [St.v, hcut]
  rw [hv] at DF END hsv ⊢
  have m1 := meth_app
  have ub := fun W => units_app s.a s.n s.c W
  have hlS : F.S.length + 1 ≤ maxLen := by unfold maxLen; omega
  have hlS2 : (F.S.length + 1) * 16 ≤ 140737488355328 := by omega
  obtain ⟨aoS, cS, hsvS⟩ : ∃ ao c, F.sv = .slice ao F.S.length c := by
    obtain ⟨ao, l, c, e⟩ := row_shape h.sown
    have := h.sown; rw [e] at this
    exact ⟨ao, c, by rw [e, (own_len this).1]⟩
  obtain ⟨aoB, cB, hbvB, _⟩ := h.bown.shape
  clear h hs hc hk hsep hv hu c1 hbig hmany
  generalize F.S.map St.v = SV at *
  generalize F.S.length = SL at *
  generalize s.on F.B s.units = NB at *
  generalize F.B.length = BL at *
  generalize F.bv = bv0 at *
  generalize F.sv = sv0 at *
  generalize F.lv = lv0 at *
  subst hsvS
  subst hbvB
  have B0 : Below w.heap.size w w := Below.refl _ _
  go_enter Tryz.func176, Tryz.ntmps176
  go_wp2
  go_region_with (first
    | (go_at_call 292; refine (ub _).mono ?_; rintro e w1 ⟨rfl, b1⟩; have B1 : Below w.heap.size w w1 := Below.trans (by repeat' first | exact Below.refl _ _ | assumption | refine Below.alloc ?_ (by first | omega | (simp; omega) | (simp; done)) _ | refine Below.drew ?_) (b1.mono (by first | omega | (simp; omega) | (simp; done))); clear b1; have d0 : w1.cell? ⟨f, 0, none⟩ = some (.slice aoB BL cB) := (B1.cell (p := ⟨f, 0, none⟩) hlt).trans c0)
    | (go_at_call 198; refine (DF _ (by repeat' first | exact Below.refl _ _ | assumption | refine Below.alloc ?_ (by first | omega | (simp; omega) | (simp; done)) _ | refine Below.drew ?_)).mono ?_; rintro e w2 ⟨v2, rfl, o2, u2, m2⟩; obtain ⟨ao2, c2, rfl, _⟩ := o2.shape; obtain ⟨U2, k2⟩ := K2 _ _ (by repeat' first | exact Below.refl _ _ | assumption | refine Below.alloc ?_ (by first | omega | (simp; omega) | (simp; done)) _ | refine Below.drew ?_) u2; clear u2; have M2 : Moved w (.slice aoB BL cB) (.slice ao2 NB.length c2) := (Moved.refl _ _).trans (by first | omega | (simp; omega) | (simp; done) | (exact B1.size)) m2; clear m2; have e0 := (cell3 k2).1; have fr := free3 k2 0))
  all_goals (
    have k3 := set3_0 (.slice ao2 NB.length c2) k2
    have z2 := (cell3 k3).2.2
    have K3' := K3 w2 (.slice ao2 NB.length c2) (.cells #[(.iface 275 (.agg #[.slice s.a s.n s.c]))] 254) U2
    have zz : base ≤ ((w2.setCell ⟨f, 0, none⟩ (.slice ao2 NB.length c2)).alloc (.cells #[(.iface 275 (.agg #[.slice s.a s.n s.c]))] 254)).heap.size := (by rw [World.size_alloc, size_set]; have := U2.size; omega)
    have SRC := src_one Tryz.underlying172 (w2.setCell ⟨f, 0, none⟩ (.slice ao2 NB.length c2)) (.iface 275 (.agg #[.slice s.a s.n s.c])) 254 hsv
    rw [size_set] at SRC
    go_wp2_with (at_builtin; refine wpList_app _ rfl _ _ 172 172 rfl base 254 i0 .nilIface 16 Tryz.underlying172 hi hz0 hz1 hz2 rfl (.slice aoS SL cS) SL SV rfl K3' _ 1 [(.iface 275 (.agg #[.slice s.a s.n s.c]))] rfl SRC hlS hlS2 zz ?_; intro v4 w4 o4 g4 m4; obtain ⟨ao4, l4, c4, rfl⟩ := row_shape o4; have k4 := (g4.block f (by rw [World.size_alloc]; have := lt_of_block k3; omega) (fun e => ns e.symm)).trans ((Below.heap_alloc _ _ _ (lt_of_block k3)).trans k3); have y2 := (cell3 k4).2.2; have yf := free3 k4 2)
    first | go_returns | skip
    exact ⟨rfl, END w2 w4 _ _ _ o2 U2 M2 o4 g4 m4⟩)
set_option maxHeartbeats 2000000 in
theorem fstep_cut (base : Nat) (f : Nat) (F : Fl) (s : St) (hcut : s.cut = true) (w : World) (h : FileAt base w f F) (hb : base ≤ w.heap.size) (hs : StAt base w s) (hc : s.cut = true → s.n ≤ F.B.length) (hk : s.cut = false → s.K.length = s.n ∧ 0 < s.n) (hsep : ∀ k, s.bl = some k → F.bv.ownBlock ≠ some k ∧ F.lv.ownBlock ≠ some k)
    (hbig : F.B.length + s.units ≤ 140737488355328) (hmany : F.S.length ≤ 1000000000000) :
    Calls Tryz.prog 176 #[.pointer (some ⟨f, 0, none⟩), s.v] w fun e w' => e = .returned (.tuple #[]) ∧ ∃ bv sv, FileAt base w' f ⟨bv, F.lv, sv, s.on F.B s.units, F.L, F.S ++ [s]⟩ ∧ Upd (FW f F) w w' ∧ Moved w F.bv bv ∧ Moved w F.sv sv := by
  obtain ⟨i0, hi, hz0, hz1, hz2⟩ := info_parts Tryz.info254
  obtain ⟨c0, c1, c2⟩ := cell3 h.block
  have hlt := lt_of_block h.block
  have nb : F.bv.ownBlock ≠ some f := own_not h.bown h.block (fun cs h => by simp at h)
  have ns : F.sv.ownBlock ≠ some f := own_not h.sown h.block (fun cs h => by simp at h)
  have DF := fun W (b : Below w.heap.size w W) => doFile_any F.bv F.B s s.units W (h.bown.below b) (Nat.le_trans hb b.size) (hs.below b) (fun _ => hc) hbig
  obtain ⟨Q, hQ⟩ : ∃ Q : World → Prop, Q = fun w' => ∃ bv sv, FileAt base w' f ⟨bv, F.lv, sv, s.on F.B s.units, F.L, F.S ++ [s]⟩ ∧ Upd (FW f F) w w' ∧ Moved w F.bv bv ∧ Moved w F.sv sv := ⟨_, rfl⟩
  have END : ∀ (w2 w4 : World) (bv sv : Value) (x : Obj), OwnB base w2 bv (s.on F.B s.units) → Upd (fun k => F.bv.ownBlock = some k) w w2 → Moved w F.bv bv → w4.ownsRow base 254 1 sv (F.S.length + 1) (F.S.map St.v ++ [s.v]) → ((w2.setCell ⟨f, 0, none⟩ bv).alloc x).grownBy w4 F.sv.ownBlock → Moved ((w2.setCell ⟨f, 0, none⟩ bv).alloc x) F.sv sv → Q (w4.setCell ⟨f, 2, none⟩ sv) :=
    fun w2 w4 bv sv x o2 u2 m2 o4 g4 m4 => by rw [hQ]; exact ⟨bv, sv, fstep_end h hs hc hk hsep o2 u2 m2 rfl x o4 g4 m4⟩
  suffices H : Calls Tryz.prog 176 #[.pointer (some ⟨f, 0, none⟩), s.v] w fun e w' => e = .returned (.tuple #[]) ∧ Q w' by rw [hQ] at H; exact H
  clear hQ
  have K2 : ∀ W w2, Below w.heap.size w W → Upd (fun k => F.bv.ownBlock = some k) W w2 → Upd (fun k => F.bv.ownBlock = some k) w w2 ∧ w2.heap[f]? = some (.cells #[F.bv, F.lv, F.sv] 174 (0, 0)) := fun W w2 b u => by
    have u' : Upd (fun k => F.bv.ownBlock = some k) w w2 := (Upd.ofBelow b (fun k hk hk' => by omega)).trans u (fun _ _ h => h)
    exact ⟨u', (u'.block f hlt nb).trans h.block⟩
  have K3 : ∀ (w2 : World) (bv : Value) (x : Obj), Upd (fun k => F.bv.ownBlock = some k) w w2 → ((w2.setCell ⟨f, 0, none⟩ bv).alloc x).ownsRow base 254 1 F.sv F.S.length (F.S.map St.v) := fun w2 bv x u => by
    have u3 : Upd (fun k => k = f ∨ F.bv.ownBlock = some k) w ((w2.setCell ⟨f, 0, none⟩ bv).alloc x) := ((u.mono (S' := fun k => k = f ∨ F.bv.ownBlock = some k) (fun _ _ h => Or.inr h)).setCell (p := ⟨f, 0, none⟩) (fun _ => Or.inl rfl) _).alloc x
    refine ownsRow_upd h.sown u3 (fun k e hh => ?_)
    rcases hh with rfl | hh
    · exact ns e
    · obtain ⟨cs, hcs⟩ := own_type h.sown e
      exact own_not h.bown hcs (fun cs h => by simp at h) hh
  have hsv := s.one
  have hu : (s.units : Int) = 1 := by simp [St.units, hcut]
  rw [hu] at DF
  have hv : s.v = .iface 277 (.agg #[.int .i64 (s.n : Int)]) := by simp [St.v, hcut]
  rw [hv] at DF END hsv ⊢
  have m1 := meth_cut
  have ub := fun W => units_cut (.int .i64 (s.n : Int)) W
  have hlS : F.S.length + 1 ≤ maxLen := by unfold maxLen; omega
  have hlS2 : (F.S.length + 1) * 16 ≤ 140737488355328 := by omega
  obtain ⟨aoS, cS, hsvS⟩ : ∃ ao c, F.sv = .slice ao F.S.length c := by
    obtain ⟨ao, l, c, e⟩ := row_shape h.sown
    have := h.sown; rw [e] at this
    exact ⟨ao, c, by rw [e, (own_len this).1]⟩
  obtain ⟨aoB, cB, hbvB, _⟩ := h.bown.shape
  clear h hs hc hk hsep hv hu c1 hbig hmany
  generalize F.S.map St.v = SV at *
  generalize F.S.length = SL at *
  generalize s.on F.B s.units = NB at *
  generalize F.B.length = BL at *
  generalize F.bv = bv0 at *
  generalize F.sv = sv0 at *
  generalize F.lv = lv0 at *
  subst hsvS
  subst hbvB
  have B0 : Below w.heap.size w w := Below.refl _ _
  go_enter Tryz.func176, Tryz.ntmps176
  go_wp2
  go_region_with (first
    | (go_at_call 293; refine (ub _).mono ?_; rintro e w1 ⟨rfl, b1⟩; have B1 : Below w.heap.size w w1 := Below.trans (by repeat' first | exact Below.refl _ _ | assumption | refine Below.alloc ?_ (by first | omega | (simp; omega) | (simp; done)) _ | refine Below.drew ?_) (b1.mono (by first | omega | (simp; omega) | (simp; done))); clear b1; have d0 : w1.cell? ⟨f, 0, none⟩ = some (.slice aoB BL cB) := (B1.cell (p := ⟨f, 0, none⟩) hlt).trans c0)
    | (go_at_call 198; refine (DF _ (by repeat' first | exact Below.refl _ _ | assumption | refine Below.alloc ?_ (by first | omega | (simp; omega) | (simp; done)) _ | refine Below.drew ?_)).mono ?_; rintro e w2 ⟨v2, rfl, o2, u2, m2⟩; obtain ⟨ao2, c2, rfl, _⟩ := o2.shape; obtain ⟨U2, k2⟩ := K2 _ _ (by repeat' first | exact Below.refl _ _ | assumption | refine Below.alloc ?_ (by first | omega | (simp; omega) | (simp; done)) _ | refine Below.drew ?_) u2; clear u2; have M2 : Moved w (.slice aoB BL cB) (.slice ao2 NB.length c2) := (Moved.refl _ _).trans (by first | omega | (simp; omega) | (simp; done) | (exact B1.size)) m2; clear m2; have e0 := (cell3 k2).1; have fr := free3 k2 0))
  all_goals (
    have k3 := set3_0 (.slice ao2 NB.length c2) k2
    have z2 := (cell3 k3).2.2
    have K3' := K3 w2 (.slice ao2 NB.length c2) (.cells #[(.iface 277 (.agg #[.int .i64 (s.n : Int)]))] 254) U2
    have zz : base ≤ ((w2.setCell ⟨f, 0, none⟩ (.slice ao2 NB.length c2)).alloc (.cells #[(.iface 277 (.agg #[.int .i64 (s.n : Int)]))] 254)).heap.size := (by rw [World.size_alloc, size_set]; have := U2.size; omega)
    have SRC := src_one Tryz.underlying172 (w2.setCell ⟨f, 0, none⟩ (.slice ao2 NB.length c2)) (.iface 277 (.agg #[.int .i64 (s.n : Int)])) 254 hsv
    rw [size_set] at SRC
    go_wp2_with (at_builtin; refine wpList_app _ rfl _ _ 172 172 rfl base 254 i0 .nilIface 16 Tryz.underlying172 hi hz0 hz1 hz2 rfl (.slice aoS SL cS) SL SV rfl K3' _ 1 [(.iface 277 (.agg #[.int .i64 (s.n : Int)]))] rfl SRC hlS hlS2 zz ?_; intro v4 w4 o4 g4 m4; obtain ⟨ao4, l4, c4, rfl⟩ := row_shape o4; have k4 := (g4.block f (by rw [World.size_alloc]; have := lt_of_block k3; omega) (fun e => ns e.symm)).trans ((Below.heap_alloc _ _ _ (lt_of_block k3)).trans k3); have y2 := (cell3 k4).2.2; have yf := free3 k4 2)
    first | go_returns | skip
    exact ⟨rfl, END w2 w4 _ _ _ o2 U2 M2 o4 g4 m4⟩)
end Go.Proofs.YtgoafinbaiepmaaGreatDoor
