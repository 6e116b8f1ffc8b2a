/-
  Merged: HA, HB, HC, HD, HE.
-/
import Derived.Test.YtbefeobikjnlpaaGreatDoorGDq
import Derived.Test.YtbefeobikjnlpaaGreatDoorGFq
import Derived.Test.YtbefeobikjnlpaaGreatDoorQAq
import Derived.Test.YtbefeobikjnlpaaGreatDoorOZ
namespace Go.Proofs.YtbefeobikjnlpaaGreatDoor
open Go Go.RowKit Go.Shelf
set_option maxRecDepth 100000

attribute [local go_sem] Oper.semAt_some

/-- What is kept but cells of some types from m on. -/
structure UpdT (TI : TypeId → Prop) (m : Nat) (A B : World) : Prop where
  os : B.os = A.os
  tape : B.tape = A.tape
  output : B.output = A.output
  size : A.heap.size ≤ B.heap.size
  block : ∀ j, j < A.heap.size → (∀ c t fr, A.heap[j]? = some (.cells c t fr) → TI t → j < m) → B.heap[j]? = A.heap[j]?
theorem UpdT.ofBelow {TI : TypeId → Prop} {m : Nat} {A B : World} (h : Below A.heap.size A B) : UpdT TI m A B := ⟨h.os, h.tape, h.output, h.size, fun j hj _ => h.block j hj⟩
theorem UpdT.blk {TI : TypeId → Prop} {m b : Nat} {A B : World} {c : Array Value} {t : TypeId} (h : UpdT TI m A B) (hb : Blk A b c t) (ht : ¬ TI t) : Blk B b c t := by
  have hb' := hb
  unfold Blk at hb'
  refine (h.block b hb.lt fun c' t' fr' e ht' => ?_).trans hb'
  rw [hb'] at e
  cases e
  exact absurd ht' ht
theorem UpdT.row {TI : TypeId → Prop} {m base s n : Nat} {A B : World} {e : TypeId} {v : Value} {xs : List Value} (h : UpdT TI m A B) (hr : A.ownsRow base e s v n xs) (ht : ¬ TI e) : B.ownsRow base e s v n xs := by
  refine ⟨hr.1, ?_⟩
  rcases hr.2 with h' | ⟨g, cap, cur, e1, hb, hg, r⟩
  · exact Or.inl h'
  · refine Or.inr ⟨g, cap, cur, e1, hb, (h.block g (Array.getElem?_eq_some_iff.1 hg).1 fun c' t' fr' e' ht' => ?_).trans hg, r⟩
    rw [hg] at e'
    cases e'
    exact absurd ht' ht
/-- What a round keeps: all that lay below B; and all cells but those of U. -/
structure KpG (B : Nat) (U : Nat → TypeId → Prop) (A C : World) : Prop where
  below : Below B A C
  cells : ∀ j c t fr, ¬ U j t → A.heap[j]? = some (.cells c t fr) → C.heap[j]? = some (.cells c t fr)
theorem KpG.refl (B : Nat) (U : Nat → TypeId → Prop) (A : World) : KpG B U A A := ⟨Below.refl _ _, fun _ _ _ _ _ h => h⟩
theorem KpG.trans {B : Nat} {U : Nat → TypeId → Prop} {A C D : World} (h : KpG B U A C) (k : KpG B U C D) : KpG B U A D :=
  ⟨h.below.trans k.below, fun j c t fr hj hc => k.cells j c t fr hj (h.cells j c t fr hj hc)⟩
theorem KpG.put {B n : Nat} {U : Nat → TypeId → Prop} (hB : B ≤ n) (W : World) (l : Nat) (o o' : Obj) (hl : n ≤ l) (ho : W.heap[l]? = some o) (hc : o.isCells = false) (_ : o.isWalk = false) : KpG B U W (W.putObj l o') := by
  refine ⟨⟨rfl, rfl, rfl, by simp [World.putObj], fun k hk => World.putObj_heap_other (by omega)⟩, fun j _ _ _ _ hcs => ?_⟩
  by_cases e : j = l
  · subst e
    rw [ho] at hcs
    cases hcs
    simp [Obj.isCells] at hc
  · exact (World.putObj_heap_other e).trans hcs
theorem KpG.blk {B : Nat} {U : Nat → TypeId → Prop} {A C : World} (h : KpG B U A C) {b : Nat} {c : Array Value} {t : TypeId} (hb : Blk A b c t) (hU : ¬ U b t) : Blk C b c t := h.cells b _ _ _ hU hb
theorem KpG.ofBelow {B : Nat} {U : Nat → TypeId → Prop} {A C : World} (hb : Below A.heap.size A C) (hB : B ≤ A.heap.size) : KpG B U A C :=
  ⟨hb.mono hB, fun j _ _ _ _ hc => (hb.block j (Array.getElem?_eq_some_iff.1 hc).1).trans hc⟩
theorem KpG.own {B n : Nat} {U : Nat → TypeId → Prop} {X0 A C : World} {row : Option Nat} (h : KpG B U X0 A) (hg : A.grownBy C row) (hr : ∀ r, row = some r → n ≤ r ∧ ∃ o : Obj, A.heap[r]? = some o ∧ o.isCells = false) (hB : B ≤ n) (hX : B ≤ X0.heap.size) : KpG B U X0 C := by
  have hs := h.below.size
  refine ⟨h.below.trans ⟨hg.os, hg.tape, hg.output, hg.size, fun k hk => hg.block k (by omega) (fun e => by have := (hr k e.symm).1; omega)⟩, fun j c t fr hj hc => ?_⟩
  have hA := h.cells j c t fr hj hc
  refine (hg.block j (Array.getElem?_eq_some_iff.1 hA).1 (fun e => ?_)).trans hA
  obtain ⟨_, o, ho, hoc⟩ := hr j e.symm
  rw [hA] at ho
  cases ho
  simp [Obj.isCells] at hoc
theorem KpG.mine {B m : Nat} {U : Nat → TypeId → Prop} {TI : TypeId → Prop} {X0 A C : World} (h : KpG B U X0 A) (hm : X0.heap.size ≤ m) (hB : B ≤ X0.heap.size) (hu : UpdT TI m A C) : KpG B U X0 C := by
  have hs := h.below.size
  refine ⟨h.below.trans ⟨hu.os, hu.tape, hu.output, hu.size, fun k hk => hu.block k (by omega) (fun _ _ _ _ _ => by omega)⟩, fun j c t fr hj hc => ?_⟩
  have hjX := (Array.getElem?_eq_some_iff.1 hc).1
  exact (hu.block j (by omega) (fun _ _ _ _ _ => by omega)).trans (h.cells j c t fr hj hc)
/-- An iterator of N rounds: in the k-th one it hands over args k; what it lays and writes lies in blocks of its own. -/
def StepsB (TI : TypeId → Prop) (F : Fence) (n : Nat) (P : Program) (g : Nat) (lb : Array Value) (N : Nat) (args : Nat → Array Value) (Kp : World → World → Prop) (w : World) : Prop :=
  ∀ (l : Nat) (J : Nat → World → Prop) (W : World), Below w.heap.size w W →
    (∀ k A B, W.heap.size ≤ A.heap.size → J k A → UpdT TI W.heap.size A B → J k B) →
    (∀ k W1, k < N → J k W1 → YieldAt F (n - 1) P l (args k) W1 fun e W' => e = .returned (.bool true) ∧ J (k + 1) W' ∧ Kp W1 W') →
    J 0 W → CallsIn F n P g (#[.func (.yield l) #[] #[]] ++ lb) W fun e W' => (∃ v, e = .returned v) ∧ J N W'

theorem wpIn_stepsB {TI : TypeId → Prop} {F : Fence} {n : Nat} {P : Program} {g : Operand} {ps : Array Tmp} {assign body : Code} {Q : Exit → Act → World → Prop} {a : Act} {w : World}
    (hro : F.round = none) (h1 : 1 ≤ n) {gf : Nat} {lb : Array Value} (hg : a.eval g = .func (.func gf) #[] lb) (hFg : F.fn gf) (eg : ∀ args w, (callFunc gf args).run P w = .ok (.enter gf args) w)
    {N : Nat} {args : Nat → Array Value} {Kp : World → World → Prop} (hseq : StepsB TI F (n - 1) P gf lb N args Kp w)
    (hKt : ∀ {A B C : World}, Kp A B → Kp B C → Kp A C) (hKb : ∀ (W : World) (l : Nat) (o o' : Obj), w.heap.size ≤ l → W.heap[l]? = some o → o.isCells = false → o.isWalk = false → Kp W (W.putObj l o')) (hps : ∀ k, (args k).size = ps.size)
    (I : Nat → World → Prop) (hI : OwnFrom w.heap.size I) (hIu : ∀ k A B m, w.heap.size ≤ m → m ≤ A.heap.size → I k A → UpdT TI m A B → I k B) (h0 : I 0 w)
    (hround : ∀ (l k : Nat) (W : World), k < N → I k W → assign.wpIn (F.inRound l) (n - 1 - 1) P (Exit.then (fun a' W' => KeepsFrom w.heap.size W W' ∧ Kp W W' ∧ I k W' ∧ ∀ V, I k V → (∀ (j : Nat) (c : Array Value) (t : TypeId) (fr : Nat × Nat), W'.heap[j]? = some (Obj.cells c t fr) → V.heap[j]? = some (Obj.cells c t fr)) → V.heap.size = W'.heap.size → body.wpIn (F.inRound l) (n - 1 - 1) P (ownPostG (α := Unit) w.heap.size Kp (fun _ => I (k + 1)) (fun _ _ _ => False) [] V) a' V) (fun _ _ _ => False)) { tmps := (ps.zip (args k)).foldl (fun t (p, v) => t.setIfInBounds p v) a.tmps, defers := [] } W)
    (hdone : ∀ (D : Nat) (W : World), w.heap.size ≤ D → I N W → W.heap[D]? = some (.deferred (some [])) → Q .normal { a with defers := markA D :: a.defers } W) :
    (Code.rangeFunc g ps assign body).wpIn F n P Q a w := by
  refine wpIn_rangeFunc fun fn hfn => ?_
  rw [hro]
  -- the loop's record, in its four states
  obtain ⟨R, hR⟩ : ∃ R : LoopState → Loop, R = fun st => { state := st, pending := none, fn, tmps := a.tmps, params := ps, assign, body, defers := w.heap.size } := ⟨_, rfl⟩
  obtain ⟨W1, hW1⟩ : ∃ W1, (w.alloc (.deferred (some []))).alloc (.loop (R .ready)) = W1 := ⟨_, rfl⟩
  have s1 : W1.heap.size = w.heap.size + 2 := by rw [← hW1]; simp
  have r1 : W1.heap[w.heap.size + 1]? = some (.loop (R .ready)) := by
    rw [← hW1]
    have := World.alloc_heap_new (w.alloc (.deferred (some []))) (.loop (R .ready))
    rwa [World.size_alloc] at this
  have m1 : W1.heap[w.heap.size]? = some (.deferred (some [])) := by
    rw [← hW1]
    exact (Below.heap_alloc _ _ _ (by simp)).trans (World.alloc_heap_new w _)
  have i1 : I 0 W1 := by rw [← hW1]; exact hI.alloc _ (hI.alloc _ h0)
  have b1 : Below w.heap.size w W1 := by rw [← hW1]; exact ((Below.refl _ w).alloc (Nat.le_refl _) _).alloc (by simp) _
  refine ⟨w.heap.size + 1, [markA w.heap.size], W1, { target := .fn (.func gf) lb, args := #[.func (.yield (w.heap.size + 1)) #[] #[]] }, W1, gf, #[.func (.yield (w.heap.size + 1)) #[] #[]] ++ lb, W1, ?_, ?_, ?_, ?_, fun _ => h1, ?_⟩
  · rw [← hW1, hR]; exact run_enterLoop_outer _ _ _ _ _
  · simp only [resolve, hg]; simp [go_sem]
  · intro f' hf'
    simp [Target.leads] at hf'
    subst hf'; exact hFg
  · simp [invoke, go_sem, eg]
  refine (hseq (w.heap.size + 1) (fun k W => I k W ∧ W.heap[w.heap.size + 1]? = some (.loop (R .ready)) ∧ W.heap[w.heap.size]? = some (.deferred (some []))) W1 b1 ?abide ?round ⟨i1, r1, m1⟩).mono ?behind
  case abide =>
    rintro k A B hA ⟨hi, hl, hm⟩ hu
    exact ⟨hIu k A B W1.heap.size (by omega) hA hi hu, (hu.block _ (by omega) (fun c t fr hc => by rw [hl] at hc; cases hc)).trans hl, (hu.block _ (by omega) (fun c t fr hc => by rw [hm] at hc; cases hc)).trans hm⟩
  case round =>
    rintro k W hk ⟨hi, hl, hm⟩
    have hy := run_yield (P := P) (args := args k) hl (by rw [hR]; exact hps k)
    rw [hR] at hy
    refine ⟨fn, _, assign, body, hy, roundIn_of_wpIn hfn (wpIn_mono (hround _ k W hk hi) ?_)⟩
    intro e0 a' W' hq
    cases e0 with
    | normal => ?_
    | ret => exact hq
    | exit id => exact hq
    | goto t => exact hq
    | panic ch => exact hq
    | outgrown => exact hq
    obtain ⟨hkf, hkp, hi', hbody⟩ := hq
    have hl' := hkf.same _ _ (by omega) hl rfl
    have hm' := hkf.same _ _ (Nat.le_refl _) hm rfl
    refine ⟨_, run_beginRound hl' (by rw [hR]), ?_⟩
    have hlt := (Array.getElem?_eq_some_iff.1 hl').1
    have eb : ({ R .ready with state := .busy } : Loop) = R .busy := by rw [hR]
    rw [eb]
    obtain ⟨X, hX⟩ : ∃ X, W'.putObj (w.heap.size + 1) (.loop (R .busy)) = X := ⟨_, rfl⟩
    rw [hX]
    have lX : X.heap[w.heap.size + 1]? = some (.loop (R .busy)) := by rw [← hX]; exact World.putObj_heap_same hlt
    have mX : X.heap[w.heap.size]? = some (.deferred (some [])) := by rw [← hX]; exact (World.putObj_heap_other (by omega)).trans hm'
    have kX : Kp W X := hKt hkp (by rw [← hX]; exact hKb _ _ _ _ (by omega) hl' rfl rfl)
    have iX : I k X := by rw [← hX]; exact hI.putObj _ hi' (by omega) hl' rfl
    refine wpIn_mono (hbody X iX (fun j c t fr hc => ?_) (by rw [← hX, World.putObj_size])) ?_
    · rw [← hX]
      refine (World.putObj_heap_other (fun e => ?_)).trans hc
      subst e
      rw [hl'] at hc
      cases hc
    intro e a3 W3 hp
    cases e with
    | normal =>
      obtain ⟨hk3, hkp3, hi3⟩ := hp
      have l3 := hk3.same _ _ (by omega) lX rfl
      have m3 := hk3.same _ _ (Nat.le_refl _) mX rfl
      have hr := run_endRound (P := P) none l3
      have er : ({ R .busy with state := if (none : Option Code).isNone then .ready else .done, pending := none } : Loop) = R .ready := by rw [hR]; rfl
      rw [er] at hr
      refine ⟨_, _, hr, rfl, ⟨hI.putObj _ hi3 (by omega) l3 rfl, World.putObj_heap_same (Array.getElem?_eq_some_iff.1 l3).1, (World.putObj_heap_other (by omega)).trans m3⟩, hKt (hKt kX hkp3) (hKb _ _ _ _ (by omega) l3 rfl rfl)⟩
    | ret => exact hp.2.elim
    | exit id => exact hp.2.elim
    | goto t => exact hp.2.elim
    | panic ch => exact hp.elim
    | outgrown => exact hp.elim
  case behind =>
    rintro e W2 ⟨⟨v, rfl⟩, hi, hl, hm⟩
    refine ⟨none, _, by have := run_endLoop (P := P) hl (by rw [hR]; simp); rw [hR] at this; exact this, hdone _ _ (Nat.le_refl _) (hI.putObj _ hi (by omega) hl rfl) ((World.putObj_heap_other (by omega)).trans hm)⟩
end Go.Proofs.YtbefeobikjnlpaaGreatDoor

namespace Go.Proofs.YtbefeobikjnlpaaGreatDoor
open Go Go.RowKit Go.Shelf
set_option maxRecDepth 100000

end Go.Proofs.YtbefeobikjnlpaaGreatDoor

namespace Go.Proofs.YtbefeobikjnlpaaGreatDoor
open Go Go.RowKit Go.Shelf
set_option maxRecDepth 100000

end Go.Proofs.YtbefeobikjnlpaaGreatDoor

namespace Go.Proofs.YtbefeobikjnlpaaGreatDoor
open Go Go.RowKit Go.Shelf
set_option maxRecDepth 100000

attribute [local go_sem] Oper.semAt_some

theorem wpListIn_app {F : Fence} {nf : Nat} {P : Program} (w : World) {ops : Array Oper} {rest : List Oper} {o : Oper} {a : Act} {Q : Exit → Act → World → Prop} (hgd : o.guard = none) (s x : Operand) (t tx : TypeId)
    (ho : o.op = .call { callee := .builtin .append, args := #[s, x], argTypes := #[t, tx] })
    (base : Nat) (e : TypeId) (i : TypeInfo) (z : Value) (bytes : Nat) (ht : P.underlying t = some (.slice e)) (hi : P.info? e = some i) (hz : i.zero = some z) (hsize : i.size = 1) (hby : i.bytes = bytes) (hzs : z.cells.size = 1)
    (v : Value) (n : Nat) (xs : List Value) (hv : a.eval s = v) (hown : w.ownsRow base e 1 v n xs) (y : Value) (m : Nat) (news : List Value) (hx : a.eval x = y) (hs : Src P 1 tx y m news w)
    (h63 : n + m ≤ maxLen) (hbytes : (n + m) * bytes ≤ 140737488355328) (hbase : base ≤ w.heap.size)
    (h : ∀ v' w', w'.ownsRow base e 1 v' (n + m) (xs ++ news) → w.grownBy w' v.ownBlock → Moved w v v' → wpListIn F nf P ops Q rest (a.put o.dst v') w') : wpListIn F nf P ops Q (o :: rest) a w := by
  subst hby
  refine wpListIn_plain hgd fun K hK => ?_
  obtain ⟨v', w', hr, h2, h3, h4⟩ := run_app (P := P) w base t tx o.type e i z ht hi hz hsize hzs v n xs hown y m news hs h63 hbytes hbase
  unfold Oper.wpIn
  refine ⟨?_, ?_⟩
  · simp [Oper.about, ho, resolve, Target.leads, Sem.run_pure]
  · rw [Oper.semAt_plain F _ _ (by rw [ho]; intro c hc'; cases hc')]
    simp [execOp, ho, resolve, invoke, builtin, hv, hx, hr, Result.andThen]
    exact hK _ _ (h v' w' h2 h3 h4)
theorem owns_grown {n base s k : Nat} {A C : World} {row : Option Nat} {e : TypeId} {v : Value} {xs : List Value} (h : A.ownsRow base e s v k xs) (hg : A.grownBy C row) (hr : ∀ r, row = some r → n ≤ r ∧ ∃ o : Obj, A.heap[r]? = some o ∧ o.isCells = false) : C.ownsRow base e s v k xs := by
  refine ⟨h.1, ?_⟩
  rcases h.2 with h' | ⟨g, cap, cur, e1, hb, hgc, r⟩
  · exact Or.inl h'
  · refine Or.inr ⟨g, cap, cur, e1, hb, (hg.block g (Array.getElem?_eq_some_iff.1 hgc).1 (fun e => ?_)).trans hgc, r⟩
    obtain ⟨_, o, ho, hoc⟩ := hr g e.symm
    rw [hgc] at ho
    cases ho
    simp [Obj.isCells] at hoc
/-- What a round that appends to a row may write. -/
def RowU (bo n0 : Nat) (te : TypeId) (j : Nat) (t : TypeId) : Prop := j = bo ∨ (t = te ∧ n0 ≤ j)
theorem row_block {w : World} {base s n g : Nat} {e : TypeId} {v : Value} {xs : List Value} (h : w.ownsRow base e s v n xs) (hg : v.ownBlock = some g) : base ≤ g ∧ ∃ cur, w.heap[g]? = some (.cells cur e (0, 0)) := by
  rcases h.2 with ⟨h', _⟩ | ⟨g', cap, cur, e1, hb, hgc, _⟩
  · rw [h'] at hg
    simp [Value.ownBlock] at hg
  · rw [e1] at hg
    simp [Value.ownBlock] at hg
    subst hg
    exact ⟨hb, cur, hgc⟩
/-- A row grows, its box is written: what is kept. -/
theorem kp_append {bo n0 B s k : Nat} {te : TypeId} {V w8 : World} {v : Value} {xs : List Value} {o : Obj} (hB : B ≤ bo) (hbo : bo < n0) (hn : n0 ≤ V.heap.size) (hr : V.ownsRow n0 te s v k xs) (g8 : (V.alloc o).grownBy w8 v.ownBlock) (x : Value) : KpG B (RowU bo n0 te) V (w8.setCell ⟨bo, 0, none⟩ x) ∧ KeepsFrom n0 V (w8.setCell ⟨bo, 0, none⟩ x) := by
  have hs := g8.size
  rw [World.size_alloc] at hs
  have hz : (w8.setCell ⟨bo, 0, none⟩ x).heap.size = w8.heap.size := by simp
  have keep : ∀ j, j < V.heap.size → some j ≠ v.ownBlock → w8.heap[j]? = V.heap[j]? := fun j hj hne => (g8.block j (by rw [World.size_alloc]; omega) hne).trans (Below.heap_alloc V _ j hj)
  refine ⟨⟨⟨g8.os, g8.tape, g8.output, by omega, fun j hj => ?_⟩, fun j c t fr hU hc => ?_⟩, by omega, fun j ob hj hob hc => ?_⟩
  · refine (Below.heap_setCell w8 ⟨bo, 0, none⟩ x j (by show j ≠ bo; omega)).trans (keep j (by omega) fun e => ?_)
    have := (row_block hr e.symm).1
    omega
  · have hjl := (Array.getElem?_eq_some_iff.1 hc).1
    refine (Below.heap_setCell w8 ⟨bo, 0, none⟩ x j (fun e => hU (Or.inl e))).trans ((keep j hjl fun e => ?_).trans hc)
    obtain ⟨h1, cur, h2⟩ := row_block hr e.symm
    rw [hc] at h2
    cases h2
    exact hU (Or.inr ⟨rfl, h1⟩)
  · have hjl := (Array.getElem?_eq_some_iff.1 hob).1
    refine (Below.heap_setCell w8 ⟨bo, 0, none⟩ x j (by show j ≠ bo; omega)).trans ((keep j hjl fun e => ?_).trans hob)
    obtain ⟨_, cur, h2⟩ := row_block hr e.symm
    rw [hob] at h2
    cases h2
    simp [Obj.isCells] at hc
theorem owns_setBox {bo n0 s k : Nat} {te : TypeId} {w8 : World} {v : Value} {xs : List Value} (hbo : bo < n0) (hr : w8.ownsRow n0 te s v k xs) (x : Value) : (w8.setCell ⟨bo, 0, none⟩ x).ownsRow n0 te s v k xs :=
  ownsRow_upd hr ((Upd.refl (fun k => k = bo) w8).setCell (p := ⟨bo, 0, none⟩) (fun _ => rfl) x) (fun g e e' => by have := (row_block hr e).1; omega)
end Go.Proofs.YtbefeobikjnlpaaGreatDoor

namespace Go.Proofs.YtbefeobikjnlpaaGreatDoor
open Go Go.RowKit Go.Shelf
set_option maxRecDepth 100000

attribute [local go_sem] Oper.semAt_some

theorem wpListIn_appW {F : Fence} {nf : Nat} {P : Program} (w : World) {ops : Array Oper} {rest : List Oper} {o : Oper} {a : Act} {Q : Exit → Act → World → Prop} (hgd : o.guard = none) (s x : Operand) (t tx : TypeId)
    (ho : o.op = .call { callee := .builtin .append, args := #[s, x], argTypes := #[t, tx] })
    (base : Nat) (e : TypeId) (i : TypeInfo) (z : Value) (size bytes : Nat) (ht : P.underlying t = some (.slice e)) (hi : P.info? e = some i) (hz : i.zero = some z) (hsize : i.size = size) (hby : i.bytes = bytes) (hzs : z.cells.size = size)
    (v : Value) (n : Nat) (xs : List Value) (hv : a.eval s = v) (hown : w.ownsRow base e size v n xs) (y : Value) (m : Nat) (news : List Value) (hx : a.eval x = y) (hs : Src P size tx y m news w)
    (h63 : n + m ≤ maxLen) (hbytes : (n + m + (n + m) / 4 + 192) * bytes ≤ 281474976710656) (hbase : base ≤ w.heap.size)
    (h : ∀ v' w', w'.ownsRow base e size v' (n + m) (xs ++ news) → w.grownBy w' v.ownBlock → Moved w v v' → wpListIn F nf P ops Q rest (a.put o.dst v') w') : wpListIn F nf P ops Q (o :: rest) a w := by
  subst hby
  refine wpListIn_plain hgd fun K hK => ?_
  obtain ⟨v', w', hr, h2, h3, h4⟩ := run_appW (P := P) w base t tx o.type e i z size ht hi hz hsize hzs v n xs hown y m news hs h63 hbytes hbase
  unfold Oper.wpIn
  refine ⟨?_, ?_⟩
  · simp [Oper.about, ho, resolve, Target.leads, Sem.run_pure]
  · rw [Oper.semAt_plain F _ _ (by rw [ho]; intro c hc'; cases hc')]
    simp [execOp, ho, resolve, invoke, builtin, hv, hx, hr, Result.andThen]
    exact hK _ _ (h v' w' h2 h3 h4)
theorem infoNd : (Tryz.prog.info? 53).map (fun i => (i.zero, i.size, i.bytes)) = some (some (.agg #[.int .u64 0, .int .u64 0, .int .i64 0, .int .u64 0, .int .i64 0, .int .i64 0, .int .i64 0]), 7, 56) := by kernel_rfl
theorem infoNd_parts : ∃ i, Tryz.prog.info? 53 = some i ∧ i.zero = some (.agg #[.int .u64 0, .int .u64 0, .int .i64 0, .int .u64 0, .int .i64 0, .int .i64 0, .int .i64 0]) ∧ i.size = 7 ∧ i.bytes = 56 := by
  have h := infoNd
  cases hi : Tryz.prog.info? 53 with
  | none => rw [hi] at h; simp at h
  | some i => rw [hi] at h; simp at h; exact ⟨i, rfl, h.1, h.2.1, h.2.2⟩
theorem src_nd {P : Program} {tx e : TypeId} (hu : P.underlying tx = some (.slice e)) (w : World) (d : Nod) (t : TypeId) : Src P 7 tx (.slice (some ⟨w.heap.size, 0, none⟩) 1 1) 1 [.int .u64 d.id, .int .u64 d.par, .int .i64 d.org, .int .u64 d.tree, .int .i64 d.dep, .int .i64 d.fr, .int .i64 d.til] (w.alloc (.cells #[.int .u64 d.id, .int .u64 d.par, .int .i64 d.org, .int .u64 d.tree, .int .i64 d.dep, .int .i64 d.fr, .int .i64 d.til] t)) := by
  refine Src.ofSlice _ hu ⟨w.heap.size, 0, none⟩ 1 1 _ rfl ?_ ?_
  · intro j u hj
    match j, hj with
    | 0, hj => simp at hj; subst hj; simp [Addr.add]
    | 1, hj => simp at hj; subst hj; simp [Addr.add]
    | 2, hj => simp at hj; subst hj; simp [Addr.add]
    | 3, hj => simp at hj; subst hj; simp [Addr.add]
    | 4, hj => simp at hj; subst hj; simp [Addr.add]
    | 5, hj => simp at hj; subst hj; simp [Addr.add]
    | 6, hj => simp at hj; subst hj; simp [Addr.add]
    | j + 7, hj => simp at hj
  · intro u hu
    simp only [List.mem_cons, List.not_mem_nil, or_false] at hu
    rcases hu with rfl | rfl | rfl | rfl | rfl | rfl | rfl <;> rfl
/-- The nodes in the order of the way down, cell by cell. -/
def ndsL (X : List Spot) (L : List Int) : List Value := L.flatMap (fun x => ndL (nthN X x))
theorem ndsL_take (X : List Spot) (L : List Int) (k : Nat) (hk : k < L.length) : ndsL X (L.take (k + 1)) = ndsL X (L.take k) ++ ndL (nthN X (L[k]?.getD 0)) := by
  unfold ndsL
  rw [List.take_succ_eq_append_getElem hk, List.flatMap_append, List.getElem?_eq_getElem hk]
  simp
end Go.Proofs.YtbefeobikjnlpaaGreatDoor
