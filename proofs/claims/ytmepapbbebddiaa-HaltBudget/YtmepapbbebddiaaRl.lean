/-
  A loop over an iterator whose rounds are counted: what comes in the k-th round is known ahead, and each comes once (so a body may do what can't be done twice). The iterator slices.Backward, so said.
-/
import Derived.Test.YtmepapbbebddiaaBr
namespace Go.Proofs.Ytmepapbbebddiaa
open Go Go.RowKit Go.Shelf

attribute [local go_sem] Oper.semAt_some

/-- An iterator of N rounds: in the k-th one it hands over args k. -/
def Steps (F : Fence) (n : Nat) (P : Program) (g : Nat) (lb : Array Value) (N : Nat) (args : Nat → Array Value) (Kp : World → World → Prop) (w : World) : Prop :=
  ∀ (l : Nat) (J : Nat → World → Prop) (W : World), Below w.heap.size w W →
    (∀ k W1, k < N → J k W1 → YieldAt F (n - 1) P l (args k) W1 fun e W' => e = .returned (.bool true) ∧ J (k + 1) W' ∧ Kp W1 W') →
    J 0 W → CallsIn F n P g (#[.func (.yield l) #[] #[]] ++ lb) W fun e W' => (∃ v, e = .returned v) ∧ J N W'

theorem wpIn_steps {F : Fence} {n : Nat} {P : Program} {g : Operand} {ps : Array Tmp} {assign body : Code} {Q : Exit → Act → World → Prop} {a : Act} {w : World}
    (hro : F.round = none) (h1 : 1 ≤ n) {gf : Nat} {lb : Array Value} (hg : a.eval g = .func (.func gf) #[] lb) (hFg : F.fn gf) (eg : ∀ args w, (callFunc gf args).run P w = .ok (.enter gf args) w)
    {N : Nat} {args : Nat → Array Value} {Kp : World → World → Prop} (hseq : Steps F (n - 1) P gf lb N args Kp w)
    (hKt : ∀ {A B C : World}, Kp A B → Kp B C → Kp A C) (hKb : ∀ (W : World) (l : Nat) (o o' : Obj), w.heap.size ≤ l → W.heap[l]? = some o → o.isCells = false → o.isWalk = false → Kp W (W.putObj l o')) (hps : ∀ k, (args k).size = ps.size)
    (I : Nat → World → Prop) (hI : OwnFrom w.heap.size I) (h0 : I 0 w) (a₁ : Nat → Act)
    (hassign : ∀ (l k : Nat) (W : World) (K : Act → World → Prop), k < N → K (a₁ k) W →
      assign.wpIn (F.inRound l) (n - 1 - 1) P (Exit.then K (fun _ _ _ => False)) { tmps := (ps.zip (args k)).foldl (fun t (p, v) => t.setIfInBounds p v) a.tmps, defers := [] } W)
    (hbody : ∀ (l k : Nat) (W : World), k < N → I k W → body.wpIn (F.inRound l) (n - 1 - 1) P (ownPostG (α := Unit) w.heap.size Kp (fun _ => I (k + 1)) (fun _ _ _ => False) [] W) (a₁ k) W)
    (hdone : ∀ (D : Nat) (W : World), w.heap.size ≤ D → I N W → W.heap[D]? = some (.deferred (some [])) → Q .normal { a with defers := mark D :: a.defers } W) :
    (Code.rangeFunc g ps assign body).wpIn F n P Q a w := by
  refine wpIn_rangeFunc fun fn hfn => ?_
  rw [hro]
  -- the loop's record, in its four states
  obtain ⟨R, hR⟩ : ∃ R : LoopState → Loop, R = fun st => { state := st, pending := none, fn, tmps := a.tmps, params := ps, assign, body, defers := w.heap.size } := ⟨_, rfl⟩
  obtain ⟨W1, hW1⟩ : ∃ W1, (w.alloc (.deferred (some []))).alloc (.loop (R .ready)) = W1 := ⟨_, rfl⟩
  have s1 : W1.heap.size = w.heap.size + 2 := by rw [← hW1]; simp
  have r1 : W1.heap[w.heap.size + 1]? = some (.loop (R .ready)) := by
    rw [← hW1]
    have := World.alloc_heap_new (w.alloc (.deferred (some []))) (.loop (R .ready))
    rwa [World.size_alloc] at this
  have m1 : W1.heap[w.heap.size]? = some (.deferred (some [])) := by
    rw [← hW1]
    exact (Below.heap_alloc _ _ _ (by simp)).trans (World.alloc_heap_new w _)
  have i1 : I 0 W1 := by rw [← hW1]; exact hI.alloc _ (hI.alloc _ h0)
  have b1 : Below w.heap.size w W1 := by rw [← hW1]; exact ((Below.refl _ w).alloc (Nat.le_refl _) _).alloc (by simp) _
  refine ⟨w.heap.size + 1, [mark w.heap.size], W1, { target := .fn (.func gf) lb, args := #[.func (.yield (w.heap.size + 1)) #[] #[]] }, W1, gf, #[.func (.yield (w.heap.size + 1)) #[] #[]] ++ lb, W1, ?_, ?_, ?_, ?_, fun _ => h1, ?_⟩
  · rw [← hW1, hR]; exact run_enterLoop_outer _ _ _ _ _
  · simp only [resolve, hg]; simp [go_sem]
  · intro f' hf'
    simp [Target.leads] at hf'
    subst hf'; exact hFg
  · simp [invoke, go_sem, eg]
  refine (hseq (w.heap.size + 1) (fun k W => I k W ∧ W.heap[w.heap.size + 1]? = some (.loop (R .ready)) ∧ W.heap[w.heap.size]? = some (.deferred (some []))) W1 b1 ?round ⟨i1, r1, m1⟩).mono ?behind
  case round =>
    rintro k W hk ⟨hi, hl, hm⟩
    have hy := run_yield (P := P) (args := args k) hl (by rw [hR]; exact hps k)
    rw [hR] at hy
    refine ⟨fn, _, assign, body, hy, roundIn_of_wpIn hfn (hassign _ k W _ hk ⟨_, run_beginRound hl (by rw [hR]), ?_⟩)⟩
    have hlt := (Array.getElem?_eq_some_iff.1 hl).1
    have eb : ({ R .ready with state := .busy } : Loop) = R .busy := by rw [hR]
    rw [eb]
    obtain ⟨X, hX⟩ : ∃ X, W.putObj (w.heap.size + 1) (.loop (R .busy)) = X := ⟨_, rfl⟩
    rw [hX]
    have lX : X.heap[w.heap.size + 1]? = some (.loop (R .busy)) := by rw [← hX]; exact World.putObj_heap_same hlt
    have mX : X.heap[w.heap.size]? = some (.deferred (some [])) := by rw [← hX]; exact (World.putObj_heap_other (by omega)).trans hm
    have kX : Kp W X := by rw [← hX]; exact hKb _ _ _ _ (by omega) hl rfl rfl
    have iX : I k X := by rw [← hX]; exact hI.putObj _ hi (by omega) hl rfl
    refine wpIn_mono (hbody _ k X hk iX) ?_
    intro e a3 W3 hp
    cases e with
    | normal =>
      obtain ⟨hk3, hkp3, hi3⟩ := hp
      have l3 := hk3.same _ _ (by omega) lX rfl
      have m3 := hk3.same _ _ (Nat.le_refl _) mX rfl
      have hr := run_endRound (P := P) none l3
      have er : ({ R .busy with state := if (none : Option Code).isNone then .ready else .done, pending := none } : Loop) = R .ready := by rw [hR]; rfl
      rw [er] at hr
      refine ⟨_, _, hr, rfl, ⟨hI.putObj _ hi3 (by omega) l3 rfl, World.putObj_heap_same (Array.getElem?_eq_some_iff.1 l3).1, (World.putObj_heap_other (by omega)).trans m3⟩, hKt (hKt kX hkp3) (hKb _ _ _ _ (by omega) l3 rfl rfl)⟩
    | ret => exact hp.2.elim
    | exit id => exact hp.2.elim
    | goto t => exact hp.2.elim
    | panic ch => exact hp.elim
    | outgrown => exact hp.elim
  case behind =>
    rintro e W2 ⟨⟨v, rfl⟩, hi, hl, hm⟩
    refine ⟨none, _, by have := run_endLoop (P := P) hl (by rw [hR]; simp); rw [hR] at this; exact this, hdone _ _ (Nat.le_refl _) (hI.putObj _ hi (by omega) hl rfl) ((World.putObj_heap_other (by omega)).trans hm)⟩

set_option maxRecDepth 100000 in
set_option maxHeartbeats 1000000 in
theorem back1_steps (F : Fence) (n : Nat) (h69 : F.fn 69) (hro : F.round = none) (hn : 1 ≤ n) (l Bs g cap : Nat) (ids : List Nat) (hreach : ids.length * 8 ≤ 140737488355328) (Kp : World → World → Prop) (hKp : ∀ A B, Kp A B → KpB Bs g A B) (J : Nat → World → Prop)
    (hY : ∀ k W, k < ids.length → J k W → YieldAt F (n - 1) Try.prog l #[.int .i64 ((ids.length - 1 - k : Nat) : Int), ptrV (ids[ids.length - 1 - k]?.getD 0)] W fun e W' => e = .returned (.bool true) ∧ J (k + 1) W' ∧ Kp W W')
    (W : World) (hBs : W.cell? ⟨Bs, 0, none⟩ = some (.slice (some ⟨g, 0, none⟩) ids.length cap)) (hc : ∀ j, j < ids.length → W.cell? ⟨g, j, none⟩ = some (ptrV (ids[j]?.getD 0))) (h0 : J 0 W) :
    CallsIn F n Try.prog 69 #[.func (.yield l) #[] #[], .pointer (some ⟨Bs, 0, none⟩)] W fun e W' => (∃ v, e = .returned v) ∧ J ids.length W' := by
  refine callsIn_of_wp Try.func69 rfl h69 ?_ hro
  simp only [Try.ntmps69, List.size_toArray, List.length_cons, List.length_nil, Nat.reduceAdd, Nat.reduceSub, Array.replicate_succ, Array.replicate_zero, List.push_toArray, List.append_toArray, List.nil_append, List.cons_append]
  have HC : Hid (∀ j, j < ids.length → W.cell? ⟨g, j, none⟩ = some (ptrV (ids[j]?.getD 0))) := hc
  clear hc
  gi_wp2
  gi_loopw [3] (fun i wr => ∃ k : Nat, k ≤ ids.length ∧ i = .int .i64 ((ids.length : Int) - 1 - (k : Int)) ∧ J k wr ∧ KpB Bs g W wr)
    (fun i _ => ((intOf i) + 1).toNat)
  case atStart => exact ⟨0, Nat.zero_le _, by simp, h0, ⟨rfl, rfl⟩⟩
  case round =>
    obtain ⟨k, hk, rfl, hJs, hnx⟩ := hrel
    have hB2 : wr.cell? ⟨Bs, 0, none⟩ = some (.slice (some ⟨g, 0, none⟩) ids.length cap) := by rw [← hBs]; simp only [World.cell?, hnx.1]
    by_cases hlt : k < ids.length
    · obtain ⟨fn, tmps, assign, body, hy, hR⟩ := hY k wr hlt hJs
      obtain ⟨i, hi⟩ : ∃ i, ids.length - 1 - k = i := ⟨_, rfl⟩
      rw [hi] at hy
      have hil : i < ids.length := by omega
      have ei : (ids.length : Int) - 1 - (k : Int) = (i : Int) := by omega
      have hcx : wr.cell? ⟨g, i, none⟩ = some (ptrV (ids[i]?.getD 0)) := by
        rw [← (show ∀ j, j < ids.length → W.cell? ⟨g, j, none⟩ = some (ptrV (ids[j]?.getD 0)) from HC) i hil]
        simp only [World.cell?, hnx.2]
      have hiz : (0 : Int) ≤ (i : Int) := by omega
      rw [ei]
      have HE : Hid ((ids.length : Int) - 1 - (k : Int) = (i : Int)) := ei
      generalize ids[i]?.getD 0 = x at hy hcx
      clear hi ei
      gi_wp2
      refine hR.mono ?_
      rintro e W3 ⟨rfl, hJ3, hk3⟩
      gi_wp2
      go_roundw
      case rel => exact ⟨k + 1, by omega, by have := (show (ids.length : Int) - 1 - (k : Int) = (i : Int) from HE); simp; omega, hJ3, hnx.trans (hKp _ _ hk3)⟩
      case measure => simp [intOf]
    · obtain rfl : k = ids.length := by omega
      have ei : (ids.length : Int) - 1 - (ids.length : Int) = -1 := by omega
      rw [ei]
      gi_wp2
      go_end0
      exact ⟨⟨_, rfl⟩, hJs⟩

theorem back_steps (F : Fence) (n : Nat) (h69 : F.fn 69) (hro : F.round = none) (hn : 1 ≤ n) (Bs g : Nat) (sv : Value) (ids : List Nat) (hreach : ids.length * 8 ≤ 140737488355328) (Kp : World → World → Prop) (hKp : ∀ A B, Kp A B → KpB Bs g A B) (w : World) (hBs : Bs < w.heap.size) (hgs : g < w.heap.size)
    (hc : w.cell? ⟨Bs, 0, none⟩ = some sv) (hI : RowIs w sv g ids) :
    Steps F n Try.prog 69 #[.pointer (some ⟨Bs, 0, none⟩)] ids.length (fun k => #[.int .i64 ((ids.length - 1 - k : Nat) : Int), ptrV (ids[ids.length - 1 - k]?.getD 0)]) Kp w := fun l J W hW hY h0 => by
  have hc' := (hW.cell (p := ⟨Bs, 0, none⟩) hBs).trans hc
  rcases hI.same (hW.block g hgs) with ⟨a, cap, rfl, rfl⟩ | ⟨cap, rfl, hcs⟩
  · exact back1_nil_in F n h69 hro l Bs cap a (J 0) W hc' h0
  · exact back1_steps F n h69 hro hn l Bs g cap ids hreach Kp hKp J hY W hc' hcs h0
end Go.Proofs.Ytmepapbbebddiaa
