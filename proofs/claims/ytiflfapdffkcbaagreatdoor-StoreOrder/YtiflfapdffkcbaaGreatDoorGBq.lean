/-
  Merged: GB, RzF.
-/
import Derived.RangeFuncNested
import Derived.RangeFuncBound
import Derived.RangeFuncCalls
import Derived.RangeFuncLeaves
import Derived.RangeFuncBox
import Derived.Shelf.Abstract
import Derived.Shelf.RegionOpen
import Derived.WalkKit
import Derived.OwnWalkIn
import Derived.TacticsInMore
import Derived.LoopNIn
import Derived.LoopIn
import Derived.Test.YtiflfapdffkcbaaGreatDoorZmq
namespace Go.Proofs.YtiflfapdffkcbaaGreatDoor
open Go Go.RowKit Go.Shelf

attribute [local go_sem] Oper.semAt_some

abbrev markA (D : Nat) : Deferred := { target := .collected D, args := #[] }
theorem roundAnyDepth {F : Fence} (hd : F.depth = none) {m m' : Nat} {P : Program} {l : Nat} {f : FuncId} {tmps : Array Value} {assign body : Code} {w : World} {R : Ending → World → Prop}
    (h : RoundIn F m P l f tmps assign body w R) : RoundIn F m' P l f tmps assign body w R := ⟨h.1, fun c cs _ => h.2 c cs (fun d e => by rw [hd] at e; cases e)⟩
theorem yieldAnyDepth {F : Fence} (hd : F.depth = none) {m : Nat} (m' : Nat) {P : Program} {l : Nat} {args : Array Value} {W : World} {R : Ending → World → Prop} (h : YieldAt F m P l args W R) : YieldAt F m' P l args W R := by
  obtain ⟨fn, tmps, assign, body, hy, hR⟩ := h
  exact ⟨fn, tmps, assign, body, hy, roundAnyDepth hd hR⟩
/-- An iterator of N rounds: in the k-th one it hands over args k; what it lays and writes lies in blocks of its own. -/
def StepsA (F : Fence) (n : Nat) (P : Program) (g : Nat) (lb : Array Value) (N : Nat) (args : Nat → Array Value) (Kp : World → World → Prop) (w : World) : Prop :=
  ∀ (l : Nat) (J : Nat → World → Prop) (W : World), Below w.heap.size w W →
    (∀ k A B, W.heap.size ≤ A.heap.size → J k A → Upd (fun j => W.heap.size ≤ j) A B → J k B) →
    (∀ k W1, k < N → J k W1 → YieldAt F (n - 1) P l (args k) W1 fun e W' => e = .returned (.bool true) ∧ J (k + 1) W' ∧ Kp W1 W') →
    J 0 W → CallsIn F n P g (#[.func (.yield l) #[] #[]] ++ lb) W fun e W' => (∃ v, e = .returned v) ∧ J N W'

theorem wpIn_stepsA {F : Fence} {n : Nat} {P : Program} {g : Operand} {ps : Array Tmp} {assign body : Code} {Q : Exit → Act → World → Prop} {a : Act} {w : World}
    (hro : F.round = none) (h1 : 1 ≤ n) {gf : Nat} {lb : Array Value} (hg : a.eval g = .func (.func gf) #[] lb) (hFg : F.fn gf) (eg : ∀ args w, (callFunc gf args).run P w = .ok (.enter gf args) w)
    {N : Nat} {args : Nat → Array Value} {Kp : World → World → Prop} (hseq : StepsA F (n - 1) P gf lb N args Kp w)
    (hKt : ∀ {A B C : World}, Kp A B → Kp B C → Kp A C) (hKb : ∀ (W : World) (l : Nat) (o o' : Obj), w.heap.size ≤ l → W.heap[l]? = some o → o.isCells = false → o.isWalk = false → Kp W (W.putObj l o')) (hps : ∀ k, (args k).size = ps.size)
    (I : Nat → World → Prop) (hI : OwnFrom w.heap.size I) (hIu : ∀ k A B m, w.heap.size ≤ m → m ≤ A.heap.size → I k A → Upd (fun j => m ≤ j) A B → I k B) (h0 : I 0 w)
    (hround : ∀ (l k : Nat) (W : World), k < N → I k W → assign.wpIn (F.inRound l) (n - 1 - 1) P (Exit.then (fun a' W' => KeepsFrom w.heap.size W W' ∧ Kp W W' ∧ I k W' ∧ ∀ V, I k V → (∀ (j : Nat) (c : Array Value) (t : TypeId) (fr : Nat × Nat), W'.heap[j]? = some (Obj.cells c t fr) → V.heap[j]? = some (Obj.cells c t fr)) → V.heap.size = W'.heap.size → body.wpIn (F.inRound l) (n - 1 - 1) P (ownPostG (α := Unit) w.heap.size Kp (fun _ => I (k + 1)) (fun _ _ _ => False) [] V) a' V) (fun _ _ _ => False)) { tmps := (ps.zip (args k)).foldl (fun t (p, v) => t.setIfInBounds p v) a.tmps, defers := [] } W)
    (hdone : ∀ (D : Nat) (W : World), w.heap.size ≤ D → I N W → W.heap[D]? = some (.deferred (some [])) → Q .normal { a with defers := markA D :: a.defers } W) :
    (Code.rangeFunc g ps assign body).wpIn F n P Q a w := by
  refine wpIn_rangeFunc fun fn hfn => ?_
  rw [hro]
  -- the loop's record, in its four states
  obtain ⟨R, hR⟩ : ∃ R : LoopState → Loop, R = fun st => { state := st, pending := none, fn, tmps := a.tmps, params := ps, assign, body, defers := w.heap.size } := ⟨_, rfl⟩
  obtain ⟨W1, hW1⟩ : ∃ W1, (w.alloc (.deferred (some []))).alloc (.loop (R .ready)) = W1 := ⟨_, rfl⟩
  have s1 : W1.heap.size = w.heap.size + 2 := by rw [← hW1]; simp
  have r1 : W1.heap[w.heap.size + 1]? = some (.loop (R .ready)) := by
    rw [← hW1]
    have := World.alloc_heap_new (w.alloc (.deferred (some []))) (.loop (R .ready))
    rwa [World.size_alloc] at this
  have m1 : W1.heap[w.heap.size]? = some (.deferred (some [])) := by
    rw [← hW1]
    exact (Below.heap_alloc _ _ _ (by simp)).trans (World.alloc_heap_new w _)
  have i1 : I 0 W1 := by rw [← hW1]; exact hI.alloc _ (hI.alloc _ h0)
  have b1 : Below w.heap.size w W1 := by rw [← hW1]; exact ((Below.refl _ w).alloc (Nat.le_refl _) _).alloc (by simp) _
  refine ⟨w.heap.size + 1, [markA w.heap.size], W1, { target := .fn (.func gf) lb, args := #[.func (.yield (w.heap.size + 1)) #[] #[]] }, W1, gf, #[.func (.yield (w.heap.size + 1)) #[] #[]] ++ lb, W1, ?_, ?_, ?_, ?_, fun _ => h1, ?_⟩
  · rw [← hW1, hR]; exact run_enterLoop_outer _ _ _ _ _
  · simp only [resolve, hg]; simp [go_sem]
  · intro f' hf'
    simp [Target.leads] at hf'
    subst hf'; exact hFg
  · simp [invoke, go_sem, eg]
  refine (hseq (w.heap.size + 1) (fun k W => I k W ∧ W.heap[w.heap.size + 1]? = some (.loop (R .ready)) ∧ W.heap[w.heap.size]? = some (.deferred (some []))) W1 b1 ?abide ?round ⟨i1, r1, m1⟩).mono ?behind
  case abide =>
    rintro k A B hA ⟨hi, hl, hm⟩ hu
    exact ⟨hIu k A B W1.heap.size (by omega) hA hi hu, (hu.block _ (by omega) (by omega)).trans hl, (hu.block _ (by omega) (by omega)).trans hm⟩
  case round =>
    rintro k W hk ⟨hi, hl, hm⟩
    have hy := run_yield (P := P) (args := args k) hl (by rw [hR]; exact hps k)
    rw [hR] at hy
    refine ⟨fn, _, assign, body, hy, roundIn_of_wpIn hfn (wpIn_mono (hround _ k W hk hi) ?_)⟩
    intro e0 a' W' hq
    cases e0 with
    | normal => ?_
    | ret => exact hq
    | exit id => exact hq
    | goto t => exact hq
    | panic ch => exact hq
    | outgrown => exact hq
    obtain ⟨hkf, hkp, hi', hbody⟩ := hq
    have hl' := hkf.same _ _ (by omega) hl rfl
    have hm' := hkf.same _ _ (Nat.le_refl _) hm rfl
    refine ⟨_, run_beginRound hl' (by rw [hR]), ?_⟩
    have hlt := (Array.getElem?_eq_some_iff.1 hl').1
    have eb : ({ R .ready with state := .busy } : Loop) = R .busy := by rw [hR]
    rw [eb]
    obtain ⟨X, hX⟩ : ∃ X, W'.putObj (w.heap.size + 1) (.loop (R .busy)) = X := ⟨_, rfl⟩
    rw [hX]
    have lX : X.heap[w.heap.size + 1]? = some (.loop (R .busy)) := by rw [← hX]; exact World.putObj_heap_same hlt
    have mX : X.heap[w.heap.size]? = some (.deferred (some [])) := by rw [← hX]; exact (World.putObj_heap_other (by omega)).trans hm'
    have kX : Kp W X := hKt hkp (by rw [← hX]; exact hKb _ _ _ _ (by omega) hl' rfl rfl)
    have iX : I k X := by rw [← hX]; exact hI.putObj _ hi' (by omega) hl' rfl
    refine wpIn_mono (hbody X iX (fun j c t fr hc => ?_) (by rw [← hX, World.putObj_size])) ?_
    · rw [← hX]
      refine (World.putObj_heap_other (fun e => ?_)).trans hc
      subst e
      rw [hl'] at hc
      cases hc
    intro e a3 W3 hp
    cases e with
    | normal =>
      obtain ⟨hk3, hkp3, hi3⟩ := hp
      have l3 := hk3.same _ _ (by omega) lX rfl
      have m3 := hk3.same _ _ (Nat.le_refl _) mX rfl
      have hr := run_endRound (P := P) none l3
      have er : ({ R .busy with state := if (none : Option Code).isNone then .ready else .done, pending := none } : Loop) = R .ready := by rw [hR]; rfl
      rw [er] at hr
      refine ⟨_, _, hr, rfl, ⟨hI.putObj _ hi3 (by omega) l3 rfl, World.putObj_heap_same (Array.getElem?_eq_some_iff.1 l3).1, (World.putObj_heap_other (by omega)).trans m3⟩, hKt (hKt kX hkp3) (hKb _ _ _ _ (by omega) l3 rfl rfl)⟩
    | ret => exact hp.2.elim
    | exit id => exact hp.2.elim
    | goto t => exact hp.2.elim
    | panic ch => exact hp.elim
    | outgrown => exact hp.elim
  case behind =>
    rintro e W2 ⟨⟨v, rfl⟩, hi, hl, hm⟩
    refine ⟨none, _, by have := run_endLoop (P := P) hl (by rw [hR]; simp); rw [hR] at this; exact this, hdone _ _ (Nat.le_refl _) (hI.putObj _ hi (by omega) hl rfl) ((World.putObj_heap_other (by omega)).trans hm)⟩
end Go.Proofs.YtiflfapdffkcbaaGreatDoor

namespace Go.Proofs.YtiflfapdffkcbaaGreatDoor
open Go Go.RowKit Go.Shelf

attribute [local go_sem] Oper.semAt_some

/-- An iterator of N rounds: in the k-th one it hands over what it has laid (Pa). -/
def StepsB (F : Fence) (n : Nat) (P : Program) (g : Nat) (lb : Array Value) (N : Nat) (Pa : Nat → World → World → Array Value → Prop) (Kp : World → World → Prop) (w : World) : Prop :=
  ∀ (l : Nat) (J : Nat → World → Prop) (W : World), Below w.heap.size w W →
    (∀ k A B args, k < N → W.heap.size ≤ A.heap.size → J k A → Below A.heap.size A B → Pa k A B args → YieldAt F (n - 1) P l args B fun e W' => e = .returned (.bool true) ∧ J (k + 1) W' ∧ Kp B W') →
    J 0 W → CallsIn F n P g (#[.func (.yield l) #[] #[]] ++ lb) W fun e W' => (∃ v, e = .returned v) ∧ J N W'

theorem wpIn_stepsB {F : Fence} {n : Nat} {P : Program} {g : Operand} {ps : Array Tmp} {assign body : Code} {Q : Exit → Act → World → Prop} {a : Act} {w : World}
    (hro : F.round = none) (h1 : 1 ≤ n) {gf : Nat} {lb : Array Value} (hg : a.eval g = .func (.func gf) #[] lb) (hFg : F.fn gf) (eg : ∀ args w, (callFunc gf args).run P w = .ok (.enter gf args) w)
    {N : Nat} {Pa : Nat → World → World → Array Value → Prop} {Kp : World → World → Prop} (hseq : StepsB F (n - 1) P gf lb N Pa Kp w)
    (hKt : ∀ {A B C : World}, Kp A B → Kp B C → Kp A C) (hKb : ∀ (W : World) (l : Nat) (o o' : Obj), w.heap.size ≤ l → W.heap[l]? = some o → o.isCells = false → o.isWalk = false → Kp W (W.putObj l o')) (hps : ∀ k A B args, Pa k A B args → args.size = ps.size)
    (I : Nat → World → Prop) (hI : ∀ k V o o', I k V → V.heap[w.heap.size + 1]? = some o → o.isCells = false → I k (V.putObj (w.heap.size + 1) o')) (h0 : ∀ W1, Below w.heap.size w W1 → W1.heap.size = w.heap.size + 2 → I 0 W1)
    (hround : ∀ (l k : Nat) (A B : World) (args : Array Value), k < N → w.heap.size + 2 ≤ A.heap.size → I k A → Below A.heap.size A B → Pa k A B args → assign.wpIn (F.inRound l) (n - 1 - 1) P (Exit.then (fun a' W' => KeepsFrom w.heap.size B W' ∧ Kp B W' ∧ ∃ Jm : World → Prop, (∀ V o o', Jm V → V.heap[w.heap.size + 1]? = some o → o.isCells = false → Jm (V.putObj (w.heap.size + 1) o')) ∧ Jm W' ∧ ∀ V, Jm V → (∀ (j : Nat) (c : Array Value) (t : TypeId) (fr : Nat × Nat), W'.heap[j]? = some (Obj.cells c t fr) → V.heap[j]? = some (Obj.cells c t fr)) → V.heap.size = W'.heap.size → body.wpIn (F.inRound l) (n - 1 - 1) P (ownPostG (α := Unit) w.heap.size Kp (fun _ => I (k + 1)) (fun _ _ _ => False) [] V) a' V) (fun _ _ _ => False)) { tmps := (ps.zip args).foldl (fun t (p, v) => t.setIfInBounds p v) a.tmps, defers := [] } B)
    (hdone : ∀ (D : Nat) (W : World), D = w.heap.size → I N W → W.heap[D]? = some (.deferred (some [])) → Q .normal { a with defers := markA D :: a.defers } W) :
    (Code.rangeFunc g ps assign body).wpIn F n P Q a w := by
  refine wpIn_rangeFunc fun fn hfn => ?_
  rw [hro]
  -- the loop's record, in its four states
  obtain ⟨R, hR⟩ : ∃ R : LoopState → Loop, R = fun st => { state := st, pending := none, fn, tmps := a.tmps, params := ps, assign, body, defers := w.heap.size } := ⟨_, rfl⟩
  obtain ⟨W1, hW1⟩ : ∃ W1, (w.alloc (.deferred (some []))).alloc (.loop (R .ready)) = W1 := ⟨_, rfl⟩
  have s1 : W1.heap.size = w.heap.size + 2 := by rw [← hW1]; simp
  have r1 : W1.heap[w.heap.size + 1]? = some (.loop (R .ready)) := by
    rw [← hW1]
    have := World.alloc_heap_new (w.alloc (.deferred (some []))) (.loop (R .ready))
    rwa [World.size_alloc] at this
  have m1 : W1.heap[w.heap.size]? = some (.deferred (some [])) := by
    rw [← hW1]
    exact (Below.heap_alloc _ _ _ (by simp)).trans (World.alloc_heap_new w _)
  have b1 : Below w.heap.size w W1 := by rw [← hW1]; exact ((Below.refl _ w).alloc (Nat.le_refl _) _).alloc (by simp) _
  have i1 : I 0 W1 := h0 W1 b1 s1
  refine ⟨w.heap.size + 1, [markA w.heap.size], W1, { target := .fn (.func gf) lb, args := #[.func (.yield (w.heap.size + 1)) #[] #[]] }, W1, gf, #[.func (.yield (w.heap.size + 1)) #[] #[]] ++ lb, W1, ?_, ?_, ?_, ?_, fun _ => h1, ?_⟩
  · rw [← hW1, hR]; exact run_enterLoop_outer _ _ _ _ _
  · simp only [resolve, hg]; simp [go_sem]
  · intro f' hf'
    simp [Target.leads] at hf'
    subst hf'; exact hFg
  · simp [invoke, go_sem, eg]
  refine (hseq (w.heap.size + 1) (fun k W => I k W ∧ W.heap[w.heap.size + 1]? = some (.loop (R .ready)) ∧ W.heap[w.heap.size]? = some (.deferred (some []))) W1 b1 ?round ⟨i1, r1, m1⟩).mono ?behind
  case round =>
    rintro k A W args hk hAs ⟨hi, hl, hm⟩ hAB hPa
    have hl : W.heap[w.heap.size + 1]? = some (.loop (R .ready)) := (hAB.block _ (Array.getElem?_eq_some_iff.1 hl).1).trans hl
    have hm : W.heap[w.heap.size]? = some (.deferred (some [])) := (hAB.block _ (Array.getElem?_eq_some_iff.1 hm).1).trans hm
    have hy := run_yield (P := P) (args := args) hl (by rw [hR]; exact hps _ _ _ _ hPa)
    rw [hR] at hy
    refine ⟨fn, _, assign, body, hy, roundIn_of_wpIn hfn (wpIn_mono (hround _ k A W args hk (by omega) hi hAB hPa) ?_)⟩
    intro e0 a' W' hq
    cases e0 with
    | normal => ?_
    | ret => exact hq
    | exit id => exact hq
    | goto t => exact hq
    | panic ch => exact hq
    | outgrown => exact hq
    obtain ⟨hkf, hkp, Jm, hJm, hi', hbody⟩ := hq
    have hl' := hkf.same _ _ (by omega) hl rfl
    have hm' := hkf.same _ _ (Nat.le_refl _) hm rfl
    refine ⟨_, run_beginRound hl' (by rw [hR]), ?_⟩
    have hlt := (Array.getElem?_eq_some_iff.1 hl').1
    have eb : ({ R .ready with state := .busy } : Loop) = R .busy := by rw [hR]
    rw [eb]
    obtain ⟨X, hX⟩ : ∃ X, W'.putObj (w.heap.size + 1) (.loop (R .busy)) = X := ⟨_, rfl⟩
    rw [hX]
    have lX : X.heap[w.heap.size + 1]? = some (.loop (R .busy)) := by rw [← hX]; exact World.putObj_heap_same hlt
    have mX : X.heap[w.heap.size]? = some (.deferred (some [])) := by rw [← hX]; exact (World.putObj_heap_other (by omega)).trans hm'
    have kX : Kp W X := hKt hkp (by rw [← hX]; exact hKb _ _ _ _ (by omega) hl' rfl rfl)
    have iX : Jm X := by rw [← hX]; exact hJm _ _ _ hi' hl' rfl
    refine wpIn_mono (hbody X iX (fun j c t fr hc => ?_) (by rw [← hX, World.putObj_size])) ?_
    · rw [← hX]
      refine (World.putObj_heap_other (fun e => ?_)).trans hc
      subst e
      rw [hl'] at hc
      cases hc
    intro e a3 W3 hp
    cases e with
    | normal =>
      obtain ⟨hk3, hkp3, hi3⟩ := hp
      have l3 := hk3.same _ _ (by omega) lX rfl
      have m3 := hk3.same _ _ (Nat.le_refl _) mX rfl
      have hr := run_endRound (P := P) none l3
      have er : ({ R .busy with state := if (none : Option Code).isNone then .ready else .done, pending := none } : Loop) = R .ready := by rw [hR]; rfl
      rw [er] at hr
      refine ⟨_, _, hr, rfl, ⟨hI _ _ _ _ hi3 l3 rfl, World.putObj_heap_same (Array.getElem?_eq_some_iff.1 l3).1, (World.putObj_heap_other (by omega)).trans m3⟩, hKt (hKt kX hkp3) (hKb _ _ _ _ (by omega) l3 rfl rfl)⟩
    | ret => exact hp.2.elim
    | exit id => exact hp.2.elim
    | goto t => exact hp.2.elim
    | panic ch => exact hp.elim
    | outgrown => exact hp.elim
  case behind =>
    rintro e W2 ⟨⟨v, rfl⟩, hi, hl, hm⟩
    refine ⟨none, _, by have := run_endLoop (P := P) hl (by rw [hR]; simp); rw [hR] at this; exact this, hdone _ _ rfl (hI _ _ _ _ hi hl rfl) ((World.putObj_heap_other (by omega)).trans hm)⟩
end Go.Proofs.YtiflfapdffkcbaaGreatDoor
