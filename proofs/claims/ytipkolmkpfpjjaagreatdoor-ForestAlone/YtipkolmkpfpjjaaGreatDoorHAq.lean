/-
  Merged: HA, HB, HC, HD, HE.
-/
import Derived.Test.YtipkolmkpfpjjaaGreatDoorGD
import Derived.Test.YtipkolmkpfpjjaaGreatDoorGFq
import Derived.Test.YtipkolmkpfpjjaaGreatDoorQAq
import Derived.Test.YtipkolmkpfpjjaaGreatDoorOZ
namespace Go.Proofs.YtipkolmkpfpjjaaGreatDoor
open Go Go.RowKit Go.Shelf
set_option maxRecDepth 100000

attribute [local go_sem] Oper.semAt_some

/-- What is kept but cells of some types from m on. -/
structure UpdT (TI : TypeId → Prop) (m : Nat) (A B : World) : Prop where
  os : B.os = A.os
  tape : B.tape = A.tape
  output : B.output = A.output
  size : A.heap.size ≤ B.heap.size
  block : ∀ j, j < A.heap.size → (∀ c t fr, A.heap[j]? = some (.cells c t fr) → TI t → j < m) → B.heap[j]? = A.heap[j]?
theorem UpdT.ofBelow {TI : TypeId → Prop} {m : Nat} {A B : World} (h : Below A.heap.size A B) : UpdT TI m A B := ⟨h.os, h.tape, h.output, h.size, fun j hj _ => h.block j hj⟩
theorem UpdT.blk {TI : TypeId → Prop} {m b : Nat} {A B : World} {c : Array Value} {t : TypeId} (h : UpdT TI m A B) (hb : Blk A b c t) (ht : ¬ TI t) : Blk B b c t := by
  have hb' := hb
  unfold Blk at hb'
  refine (h.block b hb.lt fun c' t' fr' e ht' => ?_).trans hb'
  rw [hb'] at e
  cases e
  exact absurd ht' ht
theorem UpdT.row {TI : TypeId → Prop} {m base s n : Nat} {A B : World} {e : TypeId} {v : Value} {xs : List Value} (h : UpdT TI m A B) (hr : A.ownsRow base e s v n xs) (ht : ¬ TI e) : B.ownsRow base e s v n xs := by
  refine ⟨hr.1, ?_⟩
  rcases hr.2 with h' | ⟨g, cap, cur, e1, hb, hg, r⟩
  · exact Or.inl h'
  · refine Or.inr ⟨g, cap, cur, e1, hb, (h.block g (Array.getElem?_eq_some_iff.1 hg).1 fun c' t' fr' e' ht' => ?_).trans hg, r⟩
    rw [hg] at e'
    cases e'
    exact absurd ht' ht
/-- What a round keeps: all that lay below B; and all cells but those of U. -/
structure KpG (B : Nat) (U : Nat → TypeId → Prop) (A C : World) : Prop where
  below : Below B A C
  cells : ∀ j c t fr, ¬ U j t → A.heap[j]? = some (.cells c t fr) → C.heap[j]? = some (.cells c t fr)
theorem KpG.refl (B : Nat) (U : Nat → TypeId → Prop) (A : World) : KpG B U A A := ⟨Below.refl _ _, fun _ _ _ _ _ h => h⟩
theorem KpG.trans {B : Nat} {U : Nat → TypeId → Prop} {A C D : World} (h : KpG B U A C) (k : KpG B U C D) : KpG B U A D :=
  ⟨h.below.trans k.below, fun j c t fr hj hc => k.cells j c t fr hj (h.cells j c t fr hj hc)⟩
theorem KpG.put {B n : Nat} {U : Nat → TypeId → Prop} (hB : B ≤ n) (W : World) (l : Nat) (o o' : Obj) (hl : n ≤ l) (ho : W.heap[l]? = some o) (hc : o.isCells = false) (_ : o.isWalk = false) : KpG B U W (W.putObj l o') := by
  refine ⟨⟨rfl, rfl, rfl, by simp [World.putObj], fun k hk => World.putObj_heap_other (by omega)⟩, fun j _ _ _ _ hcs => ?_⟩
  by_cases e : j = l
  · subst e
    rw [ho] at hcs
    cases hcs
    simp [Obj.isCells] at hc
  · exact (World.putObj_heap_other e).trans hcs
theorem KpG.blk {B : Nat} {U : Nat → TypeId → Prop} {A C : World} (h : KpG B U A C) {b : Nat} {c : Array Value} {t : TypeId} (hb : Blk A b c t) (hU : ¬ U b t) : Blk C b c t := h.cells b _ _ _ hU hb
theorem KpG.ofBelow {B : Nat} {U : Nat → TypeId → Prop} {A C : World} (hb : Below A.heap.size A C) (hB : B ≤ A.heap.size) : KpG B U A C :=
  ⟨hb.mono hB, fun j _ _ _ _ hc => (hb.block j (Array.getElem?_eq_some_iff.1 hc).1).trans hc⟩
theorem KpG.own {B n : Nat} {U : Nat → TypeId → Prop} {X0 A C : World} {row : Option Nat} (h : KpG B U X0 A) (hg : A.grownBy C row) (hr : ∀ r, row = some r → n ≤ r ∧ ∃ o : Obj, A.heap[r]? = some o ∧ o.isCells = false) (hB : B ≤ n) (hX : B ≤ X0.heap.size) : KpG B U X0 C := by
  have hs := h.below.size
  refine ⟨h.below.trans ⟨hg.os, hg.tape, hg.output, hg.size, fun k hk => hg.block k (by omega) (fun e => by have := (hr k e.symm).1; omega)⟩, fun j c t fr hj hc => ?_⟩
  have hA := h.cells j c t fr hj hc
  refine (hg.block j (Array.getElem?_eq_some_iff.1 hA).1 (fun e => ?_)).trans hA
  obtain ⟨_, o, ho, hoc⟩ := hr j e.symm
  rw [hA] at ho
  cases ho
  simp [Obj.isCells] at hoc
theorem KpG.mine {B m : Nat} {U : Nat → TypeId → Prop} {TI : TypeId → Prop} {X0 A C : World} (h : KpG B U X0 A) (hm : X0.heap.size ≤ m) (hB : B ≤ X0.heap.size) (hu : UpdT TI m A C) : KpG B U X0 C := by
  have hs := h.below.size
  refine ⟨h.below.trans ⟨hu.os, hu.tape, hu.output, hu.size, fun k hk => hu.block k (by omega) (fun _ _ _ _ _ => by omega)⟩, fun j c t fr hj hc => ?_⟩
  have hjX := (Array.getElem?_eq_some_iff.1 hc).1
  exact (hu.block j (by omega) (fun _ _ _ _ _ => by omega)).trans (h.cells j c t fr hj hc)
/-- An iterator of N rounds: in the k-th one it hands over args k; what it lays and writes lies in blocks of its own. -/
def StepsB (TI : TypeId → Prop) (F : Fence) (n : Nat) (P : Program) (g : Nat) (lb : Array Value) (N : Nat) (args : Nat → Array Value) (Kp : World → World → Prop) (w : World) : Prop :=
  ∀ (l : Nat) (J : Nat → World → Prop) (W : World), Below w.heap.size w W →
    (∀ k A B, W.heap.size ≤ A.heap.size → J k A → UpdT TI W.heap.size A B → J k B) →
    (∀ k W1, k < N → J k W1 → YieldAt F (n - 1) P l (args k) W1 fun e W' => e = .returned (.bool true) ∧ J (k + 1) W' ∧ Kp W1 W') →
    J 0 W → CallsIn F n P g (#[.func (.yield l) #[] #[]] ++ lb) W fun e W' => (∃ v, e = .returned v) ∧ J N W'

theorem wpIn_stepsB {TI : TypeId → Prop} {F : Fence} {n : Nat} {P : Program} {g : Operand} {ps : Array Tmp} {assign body : Code} {Q : Exit → Act → World → Prop} {a : Act} {w : World}
    (hro : F.round = none) (h1 : 1 ≤ n) {gf : Nat} {lb : Array Value} (hg : a.eval g = .func (.func gf) #[] lb) (hFg : F.fn gf) (eg : ∀ args w, (callFunc gf args).run P w = .ok (.enter gf args) w)
    {N : Nat} {args : Nat → Array Value} {Kp : World → World → Prop} (hseq : StepsB TI F (n - 1) P gf lb N args Kp w)
    (hKt : ∀ {A B C : World}, Kp A B → Kp B C → Kp A C) (hKb : ∀ (W : World) (l : Nat) (o o' : Obj), w.heap.size ≤ l → W.heap[l]? = some o → o.isCells = false → o.isWalk = false → Kp W (W.putObj l o')) (hps : ∀ k, (args k).size = ps.size)
    (I : Nat → World → Prop) (hI : OwnFrom w.heap.size I) (hIu : ∀ k A B m, w.heap.size ≤ m → m ≤ A.heap.size → I k A → UpdT TI m A B → I k B) (h0 : I 0 w)
    (hround : ∀ (l k : Nat) (W : World), k < N → I k W → assign.wpIn (F.inRound l) (n - 1 - 1) P (Exit.then (fun a' W' => KeepsFrom w.heap.size W W' ∧ Kp W W' ∧ I k W' ∧ ∀ V, I k V → (∀ (j : Nat) (c : Array Value) (t : TypeId) (fr : Nat × Nat), W'.heap[j]? = some (Obj.cells c t fr) → V.heap[j]? = some (Obj.cells c t fr)) → V.heap.size = W'.heap.size → body.wpIn (F.inRound l) (n - 1 - 1) P (ownPostG (α := Unit) w.heap.size Kp (fun _ => I (k + 1)) (fun _ _ _ => False) [] V) a' V) (fun _ _ _ => False)) { tmps := (ps.zip (args k)).foldl (fun t (p, v) => t.setIfInBounds p v) a.tmps, defers := [] } W)
    (hdone : ∀ (D : Nat) (W : World), w.heap.size ≤ D → I N W → W.heap[D]? = some (.deferred (some [])) → Q .normal { a with defers := markA D :: a.defers } W) :
    (Code.rangeFunc g ps assign body).wpIn F n P Q a w := by
  refine wpIn_rangeFunc fun fn hfn => ?_
  rw [hro]
  -- the loop's record, in its four states
  obtain ⟨R, hR⟩ : ∃ R : LoopState → Loop, R = fun st => { state := st, pending := none, fn, tmps := a.tmps, params := ps, assign, body, defers := w.heap.size } := ⟨_, rfl⟩
  obtain ⟨W1, hW1⟩ : ∃ W1, (w.alloc (.deferred (some []))).alloc (.loop (R .ready)) = W1 := ⟨_, rfl⟩
  have s1 : W1.heap.size = w.heap.size + 2 := by rw [← hW1]; simp
  have r1 : W1.heap[w.heap.size + 1]? = some (.loop (R .ready)) := by
    rw [← hW1]
    have := World.alloc_heap_new (w.alloc (.deferred (some []))) (.loop (R .ready))
    rwa [World.size_alloc] at this
  have m1 : W1.heap[w.heap.size]? = some (.deferred (some [])) := by
    rw [← hW1]
    exact (Below.heap_alloc _ _ _ (by simp)).trans (World.alloc_heap_new w _)
  have i1 : I 0 W1 := by rw [← hW1]; exact hI.alloc _ (hI.alloc _ h0)
  have b1 : Below w.heap.size w W1 := by rw [← hW1]; exact ((Below.refl _ w).alloc (Nat.le_refl _) _).alloc (by simp) _
  refine ⟨w.heap.size + 1, [markA w.heap.size], W1, { target := .fn (.func gf) lb, args := #[.func (.yield (w.heap.size + 1)) #[] #[]] }, W1, gf, #[.func (.yield (w.heap.size + 1)) #[] #[]] ++ lb, W1, ?_, ?_, ?_, ?_, fun _ => h1, ?_⟩
  · rw [← hW1, hR]; exact run_enterLoop_outer _ _ _ _ _
  · simp only [resolve, hg]; simp [go_sem]
  · intro f' hf'
    simp [Target.leads] at hf'
    subst hf'; exact hFg
  · simp [invoke, go_sem, eg]
  refine (hseq (w.heap.size + 1) (fun k W => I k W ∧ W.heap[w.heap.size + 1]? = some (.loop (R .ready)) ∧ W.heap[w.heap.size]? = some (.deferred (some []))) W1 b1 ?abide ?round ⟨i1, r1, m1⟩).mono ?behind
  case abide =>
    rintro k A B hA ⟨hi, hl, hm⟩ hu
    exact ⟨hIu k A B W1.heap.size (by omega) hA hi hu, (hu.block _ (by omega) (fun c t fr hc => by rw [hl] at hc; cases hc)).trans hl, (hu.block _ (by omega) (fun c t fr hc => by rw [hm] at hc; cases hc)).trans hm⟩
  case round =>
    rintro k W hk ⟨hi, hl, hm⟩
    have hy := run_yield (P := P) (args := args k) hl (by rw [hR]; exact hps k)
    rw [hR] at hy
    refine ⟨fn, _, assign, body, hy, roundIn_of_wpIn hfn (wpIn_mono (hround _ k W hk hi) ?_)⟩
    intro e0 a' W' hq
    cases e0 with
    | normal => ?_
    | ret => exact hq
    | exit id => exact hq
    | goto t => exact hq
    | panic ch => exact hq
    | outgrown => exact hq
    obtain ⟨hkf, hkp, hi', hbody⟩ := hq
    have hl' := hkf.same _ _ (by omega) hl rfl
    have hm' := hkf.same _ _ (Nat.le_refl _) hm rfl
    refine ⟨_, run_beginRound hl' (by rw [hR]), ?_⟩
    have hlt := (Array.getElem?_eq_some_iff.1 hl').1
    have eb : ({ R .ready with state := .busy } : Loop) = R .busy := by rw [hR]
    rw [eb]
    obtain ⟨X, hX⟩ : ∃ X, W'.putObj (w.heap.size + 1) (.loop (R .busy)) = X := ⟨_, rfl⟩
    rw [hX]
    have lX : X.heap[w.heap.size + 1]? = some (.loop (R .busy)) := by rw [← hX]; exact World.putObj_heap_same hlt
    have mX : X.heap[w.heap.size]? = some (.deferred (some [])) := by rw [← hX]; exact (World.putObj_heap_other (by omega)).trans hm'
    have kX : Kp W X := hKt hkp (by rw [← hX]; exact hKb _ _ _ _ (by omega) hl' rfl rfl)
    have iX : I k X := by rw [← hX]; exact hI.putObj _ hi' (by omega) hl' rfl
    refine wpIn_mono (hbody X iX (fun j c t fr hc => ?_) (by rw [← hX, World.putObj_size])) ?_
    · rw [← hX]
      refine (World.putObj_heap_other (fun e => ?_)).trans hc
      subst e
      rw [hl'] at hc
      cases hc
    intro e a3 W3 hp
    cases e with
    | normal =>
      obtain ⟨hk3, hkp3, hi3⟩ := hp
      have l3 := hk3.same _ _ (by omega) lX rfl
      have m3 := hk3.same _ _ (Nat.le_refl _) mX rfl
      have hr := run_endRound (P := P) none l3
      have er : ({ R .busy with state := if (none : Option Code).isNone then .ready else .done, pending := none } : Loop) = R .ready := by rw [hR]; rfl
      rw [er] at hr
      refine ⟨_, _, hr, rfl, ⟨hI.putObj _ hi3 (by omega) l3 rfl, World.putObj_heap_same (Array.getElem?_eq_some_iff.1 l3).1, (World.putObj_heap_other (by omega)).trans m3⟩, hKt (hKt kX hkp3) (hKb _ _ _ _ (by omega) l3 rfl rfl)⟩
    | ret => exact hp.2.elim
    | exit id => exact hp.2.elim
    | goto t => exact hp.2.elim
    | panic ch => exact hp.elim
    | outgrown => exact hp.elim
  case behind =>
    rintro e W2 ⟨⟨v, rfl⟩, hi, hl, hm⟩
    refine ⟨none, _, by have := run_endLoop (P := P) hl (by rw [hR]; simp); rw [hR] at this; exact this, hdone _ _ (Nat.le_refl _) (hI.putObj _ hi (by omega) hl rfl) ((World.putObj_heap_other (by omega)).trans hm)⟩
end Go.Proofs.YtipkolmkpfpjjaaGreatDoor

namespace Go.Proofs.YtipkolmkpfpjjaaGreatDoor
open Go Go.RowKit Go.Shelf
set_option maxRecDepth 100000

attribute [local go_sem] Oper.semAt_some

set_option maxHeartbeats 4000000 in
theorem up_stepsB (n f sb bf bi B : Nat) (U : Nat → TypeId → Prop) (hn : 1 ≤ n) (X : List Spot) (K : Nat → List Int) (rv : Value) (R : List Int) (id : Int) (A : List Int) (w0 w : World) (h : ForestAt w0 f sb X K rv R) (hB : w0.heap.size ≤ B) (hw : Below B w0 w) (hfB : ¬ U bf 25) (hUw : ∀ j, w.heap.size ≤ j → ¬ U j 49) (hBw : B ≤ w.heap.size)
    (cf : Blk w bf #[.pointer (some ⟨f, 0, none⟩)] 25) (ci : Blk w bi #[.int .u64 id] 35) (hA : UpL X id A) (hnd : A.Nodup) :
    StepsB (fun t => t = 49) Fence.wide n Tryz.prog 29 #[.pointer (some ⟨bf, 0, none⟩), .pointer (some ⟨bi, 0, none⟩)] A.length (fun k => #[.int .u64 (A[k]?.getD 0)]) (KpG B U) w := fun l J W hW hJ hY h0 => by
  have hrise := h.rise
  have hsW := hW.size
  have NODE : Hid (∀ (i : Int) (V : World), KpG B U W V → Calls Tryz.prog 15 #[.pointer (some ⟨f, 0, none⟩), .int .u64 i] V fun e w' => ∃ d b, e = .returned (.tuple #[ndV d, .bool b]) ∧ ((∃ k, ∃ h : k < X.length, X[k].nd.id = i ∧ X[k].nd = d) ∨ ((∀ j (h : j < X.length), X[j].nd.id ≠ i) ∧ d = zNd)) ∧ Below V.heap.size V w') := fun i V hV => by
    have F := h.below ((hw.mono hB).trans ((hW.mono (by omega)).trans (hV.below.mono hB)))
    refine (node_told f sb X K rv R i V F).mono ?_
    rintro e w' ⟨d, b, rfl, hd, hb⟩
    refine ⟨d, b, rfl, ?_, hb⟩
    rcases hd with ⟨k, hk, h1, h2, _⟩ | ⟨h1, h2, _⟩
    · exact Or.inl ⟨k, hk, h1, h2⟩
    · exact Or.inr ⟨h1, h2⟩
  have cfW : Blk W bf #[.pointer (some ⟨f, 0, none⟩)] 25 := cf.below hW cf.lt
  have ciW : Blk W bi #[.int .u64 id] 35 := ci.below hW ci.lt
  have hBW : B ≤ W.heap.size := by omega
  have N0 := NODE.out id W (KpG.refl _ _ _)
  have k1 : W.cell? ⟨bf, 0, none⟩ = some (.pointer (some ⟨f, 0, none⟩)) := cfW.cell 0 rfl
  have k2 : W.cell? ⟨bi, 0, none⟩ = some (.int .u64 id) := ciW.cell 0 rfl
  have HY : Hid (∀ k W1, k < A.length → J k W1 → YieldAt Fence.wide (n - 1) Tryz.prog l #[.int .u64 (A[k]?.getD 0)] W1 fun e W' => e = .returned (.bool true) ∧ J (k + 1) W' ∧ KpG B U W1 W') := hY
  have HJ : Hid (∀ k A B, W.heap.size ≤ A.heap.size → J k A → UpdT (fun t => t = 49) W.heap.size A B → J k B) := hJ
  have START : Hid (∀ d w1, ((∃ k, ∃ h : k < X.length, X[k].nd.id = id ∧ X[k].nd = d) ∨ ((∀ j (h : j < X.length), X[j].nd.id ≠ id) ∧ d = zNd)) → Below W.heap.size W w1 → J 0 (w1.alloc (.cells (ndL d).toArray 49)) ∧ Blk (w1.alloc (.cells (ndL d).toArray 49)) w1.heap.size (ndL d).toArray 49 ∧ d.par = A[0]?.getD 0 ∧ KpG B U W (w1.alloc (.cells (ndL d).toArray 49)) ∧ W.heap.size ≤ w1.heap.size) := fun d w1 hd hb => by
    have hb' : Below W.heap.size W (w1.alloc (.cells (ndL d).toArray 49)) := hb.alloc hb.size _
    exact ⟨hJ 0 W _ (Nat.le_refl _) h0 (UpdT.ofBelow hb'), Blk.new _ _ _, UpL.step hrise hA hd, KpG.ofBelow hb' hBW, hb.size⟩
  have hUW : Hid (∀ j, W.heap.size ≤ j → ¬ U j 49) := fun j hj => hUw j (by omega)
  have STEP : Hid (∀ (k b4 : Nat) (d d' : Nod) (wr W3 w4 : World) (hk : k < A.length), W.heap.size ≤ b4 → b4 < wr.heap.size → KpG B U W wr → KpG B U wr W3 → J (k + 1) W3 → Blk w4 b4 (ndL d).toArray 49 → Below W3.heap.size W3 w4 → ((∃ j, ∃ h : j < X.length, X[j].nd.id = A[k] ∧ X[j].nd = d') ∨ ((∀ j (h : j < X.length), X[j].nd.id ≠ A[k]) ∧ d' = zNd)) → ∀ w5, Blk w5 b4 (ndL d').toArray 49 → Upd (fun k => k = b4) w4 w5 → J (k + 1) w5 ∧ d'.par = A[k + 1]?.getD 0 ∧ KpG B U W w5) := fun k b4 d d' wr W3 w4 hk hb4 hb4r k1 k2 hJ3 hBq hb hd w5 _ hu => by
    have hs3 := k2.below.size
    have hs1 := k1.below.size
    have hs4 := hb.size
    refine ⟨hJ (k + 1) W3 w5 (by omega) hJ3 ?_, ?_, ?_⟩
    · refine ⟨hu.os.trans hb.os, hu.tape.trans hb.tape, hu.output.trans hb.output, by have := hu.size; omega, fun j hj hn => ?_⟩
      by_cases e : j = b4
      · subst e
        have h4 := (hb.block j hj).symm
        have hBq' : w4.heap[j]? = some (.cells (ndL d).toArray 49 (0, 0)) := hBq
        rw [hBq'] at h4
        have := hn _ _ _ h4 rfl
        omega
      · exact (hu.block j (by omega) e).trans (hb.block j hj)
    · have := UpL.step hrise (UpL.drop hA k hk).1 hd
      rw [this, List.getElem?_drop]
      try simp
    · have k3 : KpG B U W w4 := (k1.trans k2).trans (KpG.ofBelow hb (by omega))
      refine ⟨k3.below.trans (hu.below (by omega) (fun j h1 h2 => by omega)), fun j c t fr hj hc => ?_⟩
      have hjW := (Array.getElem?_eq_some_iff.1 hc).1
      exact (hu.block j (by omega) (by omega)).trans (k3.cells j c t fr hj hc)
  obtain ⟨cnt, hcnt⟩ : ∃ cnt : Nat → World → Nat, ∀ b4 wr (k : Nat) (d : Nod), Blk wr b4 (ndL d).toArray 49 → d.par = A[k]?.getD 0 → k ≤ A.length → cnt b4 wr = A.length - k := by
    refine ⟨fun b4 wr => match wr.cell? ⟨b4, 1, none⟩ with | some (.int _ p) => if p = 0 then 0 else A.length - A.idxOf p | _ => 0, fun b4 wr k d hb hd hk => ?_⟩
    have e : wr.cell? ⟨b4, 1, none⟩ = some (.int .u64 d.par) := hb.cell 1 rfl
    simp only [e]
    by_cases hlt : k < A.length
    · have hne := (UpL.drop hA k hlt).2
      rw [hd]
      simp only [List.getElem?_eq_getElem hlt, Option.getD_some]
      rw [if_neg hne, List.Nodup.idxOf_getElem hnd]
    · rw [hd, List.getElem?_eq_none (by omega)]
      simp
      try omega
  have HCNT : Hid (∀ b4 wr (k : Nat) (d : Nod), Blk wr b4 (ndL d).toArray 49 → d.par = A[k]?.getD 0 → k ≤ A.length → cnt b4 wr = A.length - k) := hcnt
  have HAZ : Hid (∀ k (h : k < A.length), A[k] ≠ 0) := fun k h => (UpL.drop hA k h).2
  have HCF : Hid (Blk W bf #[.pointer (some ⟨f, 0, none⟩)] 25) := cfW
  have HNE : Hid (¬ U bf 25) := hfB
  clear hY hJ hcnt hA hrise h0 cfW ciW cf ci hW hsW hw h hB hfB hUw hBw hBW hnd
  refine callsIn_of_wp Tryz.func29 rfl trivial ?_ rfl
  simp only [Tryz.ntmps29, List.size_toArray, List.length_cons, List.length_nil, Nat.reduceAdd, Nat.reduceSub, Array.replicate_succ, Array.replicate_zero, List.push_toArray, List.append_toArray, List.nil_append, List.cons_append]
  gi_wp2_with (first
    | (gi_at_call 15; refine (callsIn_wide.2 N0).mono ?_; clear N0; rintro e w1 ⟨d, b, rfl, hd, hb1⟩; obtain ⟨s1, s2, s3, s4, s5⟩ := START.out d w1 hd hb1; have S1 : Hid (J 0 (w1.alloc (.cells (ndL d).toArray 49))) := s1; have S2 : Hid (Blk (w1.alloc (.cells (ndL d).toArray 49)) w1.heap.size (ndL d).toArray 49) := s2; have S3 : Hid (d.par = A[0]?.getD 0) := s3; have S4 : Hid (KpG B U W (w1.alloc (.cells (ndL d).toArray 49))) := s4; have S5 : Hid (W.heap.size ≤ w1.heap.size) := s5; clear s1 s2 s3 s4 s5 hd hb1 START; unfold ndV)
    | (refine ⟨trivial, ?_⟩; gi_at_call 15; refine (callsIn_wide.2 N0).mono ?_; clear N0; rintro e w1 ⟨d, b, rfl, hd, hb1⟩; obtain ⟨s1, s2, s3, s4, s5⟩ := START.out d w1 hd hb1; have S1 : Hid (J 0 (w1.alloc (.cells (ndL d).toArray 49))) := s1; have S2 : Hid (Blk (w1.alloc (.cells (ndL d).toArray 49)) w1.heap.size (ndL d).toArray 49) := s2; have S3 : Hid (d.par = A[0]?.getD 0) := s3; have S4 : Hid (KpG B U W (w1.alloc (.cells (ndL d).toArray 49))) := s4; have S5 : Hid (W.heap.size ≤ w1.heap.size) := s5; clear s1 s2 s3 s4 s5 hd hb1 START; unfold ndV))
  obtain ⟨b4, hb4⟩ : ∃ b4, w1.heap.size = b4 := ⟨_, rfl⟩
  rw [hb4] at S2 S5 ⊢
  clear hb4
  gi_loopw [12] (fun _ wr => ∃ (k : Nat) (d : Nod), k ≤ A.length ∧ J k wr ∧ Blk wr b4 (ndL d).toArray 49 ∧ d.par = A[k]?.getD 0 ∧ KpG B U W wr) (fun _ wr => cnt b4 wr)
  case atStart => exact ⟨0, d, Nat.zero_le _, S1.out, S2.out, S3.out, S4.out⟩
  case round =>
    obtain ⟨k, d', hkA, hJk, hBk, hpar, hKk⟩ := hrel
    obtain ⟨e0, e1, e2, e3, e4, e5, e6, ef⟩ := node_cells hBk
    have HBk : Hid (Blk wr b4 (ndL d').toArray 49) := hBk
    have HK : Hid (KpG B U W wr) := hKk
    have HP : Hid (d'.par = A[k]?.getD 0) := hpar
    by_cases hlt : k < A.length
    · obtain ⟨fn, tmps, assign, body, hy, hR⟩ := HY.out k wr hlt hJk
      have hpk : A[k]?.getD 0 = A[k] := by simp [hlt]
      rw [hpk] at hpar hy
      have hne : A[k] ≠ 0 := HAZ.out k hlt
      rw [hpar] at e1
      obtain ⟨p, hp⟩ : ∃ p, A[k]'hlt = p := ⟨_, rfl⟩
      have HPK : Hid (A[k]'hlt = p) := hp
      rw [hp] at hpar hy e1 hne
      have hne' : (p != 0) = true := by simp [hne]
      clear hpk hp hpar hBk hKk hJk
      gi_wp2
      refine hR.mono ?_
      rintro e W3 ⟨rfl, hJ3, hk3⟩
      have B3 : Blk W3 b4 (ndL d').toArray 49 := hk3.blk HBk.out (hUW.out b4 S5.out)
      have f3 : W3.cell? ⟨bf, 0, none⟩ = some (.pointer (some ⟨f, 0, none⟩)) := ((HK.out.trans hk3).blk HCF.out HNE.out).cell 0 rfl
      have p3 : W3.cell? ⟨b4, 1, none⟩ = some (.int .u64 p) := by
        have hp3 : W3.cell? ⟨b4, 1, none⟩ = some (.int .u64 d'.par) := B3.cell 1 rfl
        rw [hp3, show d'.par = p from by rw [HP.out, List.getElem?_eq_getElem hlt, HPK.out]; rfl]
      have N1 := NODE.out p W3 (HK.out.trans hk3)
      have HJ3 : Hid (J (k + 1) W3) := hJ3
      have HK3 : Hid (KpG B U wr W3) := hk3
      clear hJ3 hk3 hR hy e0 e1 e2 e3 e4 e5 e6 ef
      gi_wp2_with (first
        | (gi_at_call 15; refine (callsIn_wide.2 N1).mono ?_; clear N1; rintro e w4 ⟨d5, b5, rfl, hd5, hb5⟩; have HB5 : Hid (Below W3.heap.size W3 w4) := hb5; have B5 : Blk w4 b4 (ndL d').toArray 49 := Blk.below B3 hb5 (Blk.lt B3); have HBL5 : Hid (Blk w4 b4 (ndL d').toArray 49) := B5; obtain ⟨q0, q1, q2, q3, q4, q5, q6, qf⟩ := node_cells B5; have HD5 : Hid ((∃ k, ∃ h : k < X.length, X[k].nd.id = p ∧ X[k].nd = d5) ∨ ((∀ j (h : j < X.length), X[j].nd.id ≠ p) ∧ d5 = zNd)) := hd5; clear hd5 hb5 B5; unfold ndV)
        | (refine ⟨trivial, ?_⟩; gi_at_call 15; refine (callsIn_wide.2 N1).mono ?_; clear N1; rintro e w4 ⟨d5, b5, rfl, hd5, hb5⟩; have HB5 : Hid (Below W3.heap.size W3 w4) := hb5; have B5 : Blk w4 b4 (ndL d').toArray 49 := Blk.below B3 hb5 (Blk.lt B3); have HBL5 : Hid (Blk w4 b4 (ndL d').toArray 49) := B5; obtain ⟨q0, q1, q2, q3, q4, q5, q6, qf⟩ := node_cells B5; have HD5 : Hid ((∃ k, ∃ h : k < X.length, X[k].nd.id = p ∧ X[k].nd = d5) ∨ ((∀ j (h : j < X.length), X[j].nd.id ≠ p) ∧ d5 = zNd)) := hd5; clear hd5 hb5 B5; unfold ndV))
      go_roundw
      case rel =>
        have w5b := put7 (e := d5) HBL5.out
        have w5u := put7_upd w4 b4 d5
        obtain ⟨r1, r2, r3⟩ := STEP.out k b4 d' d5 wr W3 w4 hlt S5.out (Blk.lt HBk.out) HK.out HK3.out HJ3.out HBL5.out HB5.out (by rw [HPK.out]; exact HD5.out) _ w5b w5u
        exact ⟨k + 1, d5, by omega, r1, w5b, r2, r3⟩
      case measure =>
        have w5b := put7 (e := d5) HBL5.out
        have w5u := put7_upd w4 b4 d5
        obtain ⟨r1, r2, r3⟩ := STEP.out k b4 d' d5 wr W3 w4 hlt S5.out (Blk.lt HBk.out) HK.out HK3.out HJ3.out HBL5.out HB5.out (by rw [HPK.out]; exact HD5.out) _ w5b w5u
        have m1 := HCNT.out b4 wr k d' HBk.out HP.out hkA
        have m2 := HCNT.out b4 _ (k + 1) d5 w5b r2 (by omega)
        omega
    · obtain rfl : k = A.length := by omega
      have hp0 : d'.par = 0 := by rw [hpar]; simp
      rw [hp0] at e1
      have HJk : Hid (J A.length wr) := hJk
      clear hJk hBk hKk hpar
      gi_wp2
      refine ⟨fun _ _ => trivial, ?_⟩
      gi_wp2
      go_end0
      exact ⟨⟨_, rfl⟩, HJk.out⟩
end Go.Proofs.YtipkolmkpfpjjaaGreatDoor

namespace Go.Proofs.YtipkolmkpfpjjaaGreatDoor
open Go Go.RowKit Go.Shelf
set_option maxRecDepth 100000

attribute [local go_sem] Oper.semAt_some

theorem BoxD.keepG {B : Nat} {U : Nat → TypeId → Prop} {W W' : World} {f bf bv bd bY l : Nat} (h : BoxD W f bf bv bd bY l) (hk : KpG B U W W') (h1 : ¬ U bf 25) (h2 : ¬ U bv 90) (h3 : ¬ U bd 106) (h4 : ¬ U bY 87) : BoxD W' f bf bv bd bY l :=
  ⟨hk.blk h.cf h1, hk.blk h.cv h2, hk.blk h.cd h3, hk.blk h.cy h4⟩
set_option maxHeartbeats 4000000 in
theorem down_inB (f sb bf bv bd bY l B : Nat) (U : Nat → TypeId → Prop) (X : List Spot) (K : Nat → List Int) (rv : Value) (R : List Int) (A : List Int) (J : Nat → World → Prop) (W0 : World)
    (hF : ∀ V, KpG B U W0 V → ForestAt V f sb X K rv R) (hn1 : ¬ U bf 25) (hn2 : ¬ U bv 90) (hn3 : ¬ U bd 106) (hn4 : ¬ U bY 87) (hbx : BoxD W0 f bf bv bd bY l) (hBW : B ≤ W0.heap.size)
    (hJ : ∀ k V V', J k V → Below V.heap.size V V' → J k V')
    (hY : ∀ k V, k < A.length → J k V → YieldAt Fence.wide 2 Tryz.prog l #[ndV (nthN X (A[k]?.getD 0))] V fun e V' => e = .returned (.bool true) ∧ J (k + 1) V' ∧ KpG B U V V') :
    ∀ (fuel : Nat) (W : World) (k : Nat) (L : List Int) (ad : Option Addr) (cap : Nat), Deep K fuel L → KpG B U W0 W → (∀ V, KpG B U W0 V → HoldsV V ad L.length (intsV .i64 L)) → (∀ x ∈ L, 0 ≤ x ∧ x < X.length) → L.length ≤ 1000 → (∀ j, j < (preF K fuel L).length → A[k + j]? = (preF K fuel L)[j]?) → J k W →
    CallsIn Fence.wide 3 Tryz.prog 48 #[.slice ad L.length cap, .pointer (some ⟨bf, 0, none⟩), .pointer (some ⟨bv, 0, none⟩), .pointer (some ⟨bd, 0, none⟩)] W fun e V => e = .returned (.bool true) ∧ J (k + (preF K fuel L).length) V ∧ KpG B U W V := by
  intro fuel
  induction fuel with
  | zero =>
    intro W k L ad cap hD _ _ _ _ _ hJk
    have hL : L = [] := hD
    subst hL
    refine callsIn_of_wp Tryz.func48 rfl trivial ?_ rfl
    simp only [Tryz.ntmps48, List.size_toArray, List.length_cons, List.length_nil, Nat.reduceAdd, Nat.reduceSub, Array.replicate_succ, Array.replicate_zero, List.push_toArray, List.append_toArray, List.nil_append, List.cons_append]
    gi_wp2
    gi_loopw [11] (fun x wr => x = .int .i64 0 ∧ wr = W) (fun _ _ => 0)
    case atStart => exact ⟨rfl, rfl⟩
    case round =>
      obtain ⟨rfl, rfl⟩ := hrel
      gi_wp2
      go_ret
      exact ⟨rfl, by simpa [preF] using hJk, KpG.refl _ _ _⟩
  | succ fuel ih =>
    intro W k L ad cap hD hKW hH hr hl hA hJk
    have hDx : ∀ x ∈ L, Deep K fuel (K x.toNat) := hD
    obtain ⟨m, hm⟩ : ∃ m, L.length = m := ⟨_, rfl⟩
    have HM : Hid (L.length = m) := hm
    have NEXT : Hid (∀ (q : Nat) (hq : q < L.length) (wr : World), J (k + (preF K (fuel + 1) (L.take q)).length) wr → KpG B U W wr → ∃ x : Nat, L[q] = (x : Int) ∧ x < X.length ∧ HoldsV wr ad L.length (intsV .i64 L) ∧ BoxD wr f bf bv bd bY l ∧ wr.cell? ⟨f, 0, none⟩ = some (.slice (some ⟨sb, 0, none⟩) X.length X.length) ∧ CallsIn Fence.wide 3 Tryz.prog 32 #[.pointer (some ⟨sb, x * 21, none⟩), .pointer (some ⟨bY, 0, none⟩)] wr.drew fun e w5 => e = .returned (.bool true) ∧ ∃ ad5 m5 cap5, w5.cell? ⟨sb, x * 21 + 20, none⟩ = some (.slice ad5 m5 cap5) ∧ w5.cell? ⟨bd, 0, none⟩ = some (.func (.func 48) #[] #[.pointer (some ⟨bf, 0, none⟩), .pointer (some ⟨bv, 0, none⟩), .pointer (some ⟨bd, 0, none⟩)]) ∧ CallsIn Fence.wide 3 Tryz.prog 48 #[.slice ad5 m5 cap5, .pointer (some ⟨bf, 0, none⟩), .pointer (some ⟨bv, 0, none⟩), .pointer (some ⟨bd, 0, none⟩)] w5 fun e V => e = .returned (.bool true) ∧ J (k + (preF K (fuel + 1) (L.take (q + 1))).length) V ∧ KpG B U W V) := fun q hq wr hJr hKr => by
      have hmem := List.getElem_mem hq
      obtain ⟨x, hx⟩ : ∃ x : Nat, L[q] = (x : Int) := ⟨L[q].toNat, by have := hr _ hmem; omega⟩
      have hxX : x < X.length := by have := hr _ hmem; omega
      have hK0 : KpG B U W0 wr := hKW.trans hKr
      have hKd : KpG B U W0 wr.drew := hK0.trans (KpG.ofBelow ((Below.refl _ _).drew) (by have := hK0.below.size; omega))
      have FR := hF wr hK0
      have FD := hF wr.drew hKd
      have BX := hbx.keepG hK0 hn1 hn2 hn3 hn4
      have BD := hbx.keepG hKd hn1 hn2 hn3 hn4
      -- the place of this one in the whole list
      have hpl : A[k + (preF K (fuel + 1) (L.take q)).length]? = some (L[q]) := by
        have hsp := preF_split K fuel L (q + 1)
        have htk := preF_take K fuel L q hq
        rw [hA _ (by rw [hsp, htk]; simp), hsp, htk]
        simp
      have hcont : ∀ j, j < (preF K fuel (K x)).length → A[k + (preF K (fuel + 1) (L.take q)).length + 1 + j]? = (preF K fuel (K x))[j]? := fun j hj => by
        have hsp := preF_split K fuel L (q + 1)
        have htk := preF_take K fuel L q hq
        rw [hx] at htk
        simp only [Int.toNat_natCast] at htk
        have := hA ((preF K (fuel + 1) (L.take q)).length + 1 + j) (by rw [hsp, htk]; simp; omega)
        rw [show k + (preF K (fuel + 1) (L.take q)).length + 1 + j = k + ((preF K (fuel + 1) (L.take q)).length + 1 + j) by omega, this, hsp, htk, List.append_assoc, List.getElem?_append_right (by omega)]
        rw [show (preF K (fuel + 1) (L.take q)).length + 1 + j - (preF K (fuel + 1) (L.take q)).length = j + 1 by omega, List.cons_append, List.getElem?_cons_succ, List.getElem?_append_left hj]
      have hlen : k + (preF K (fuel + 1) (L.take (q + 1))).length = k + (preF K (fuel + 1) (L.take q)).length + 1 + (preF K fuel (K x)).length := by
        have htk := preF_take K fuel L q hq
        rw [hx] at htk
        simp only [Int.toNat_natCast] at htk
        rw [htk]; simp; omega
      have hkA : k + (preF K (fuel + 1) (L.take q)).length < A.length := (List.getElem?_eq_some_iff.1 hpl).1
      have YY := hY _ wr.drew.drew hkA (hJ _ wr _ hJr (((Below.refl _ _).drew).drew))
      rw [hpl, Option.getD_some, hx, nthN_get hxX] at YY
      refine ⟨x, hx, hxX, hH wr hK0, BX, FR.head.cell 0 rfl, ?_⟩
      refine (visitD 2 sb bY l x X wr.drew (fun e V' => e = .returned (.bool true) ∧ J (k + (preF K (fuel + 1) (L.take q)).length + 1) V' ∧ KpG B U wr.drew.drew V') FD.row hxX BD.cy (YY.mono (fun e V' h => ⟨h.1, h⟩))).mono ?_
      rintro e w5 ⟨rfl, _, hJ5, hK5⟩
      have hK5' : KpG B U wr w5 := (KpG.ofBelow (((Below.refl _ _).drew).drew) (by have := hK0.below.size; omega)).trans hK5
      have hK50 : KpG B U W0 w5 := hK0.trans hK5'
      have F5 := hF w5 hK50
      obtain ⟨ad5, cap5, hkv, _, hl5, hr5⟩ := F5.kids x hxX
      refine ⟨rfl, ad5, (K x).length, cap5, by rw [← hkv]; exact (F5.row.spots x hxX).c20, (hbx.keepG hK50 hn1 hn2 hn3 hn4).cd.cell 0 rfl, ?_⟩
      have hDK : Deep K fuel (K x) := by have := hDx _ hmem; rwa [hx, Int.toNat_natCast] at this
      refine (ih w5 _ (K x) ad5 cap5 hDK hK50 (fun V hV => ?_) hr5 hl5 hcont hJ5).mono ?_
      · obtain ⟨ad6, cap6, hkv6, hH6, _⟩ := (hF V hV).kids x hxX
        rw [hkv] at hkv6
        cases hkv6
        exact hH6
      · rintro e V ⟨rfl, hJV, hKV⟩
        refine ⟨rfl, ?_, hKr.trans (hK5'.trans hKV)⟩
        rw [hlen]; exact hJV
    have START : Hid (J (k + (preF K (fuel + 1) (L.take 0)).length) W ∧ KpG B U W W) := ⟨by simpa [preF] using hJk, KpG.refl _ _ _⟩
    obtain ⟨N, hN⟩ : ∃ N, X.length = N := ⟨_, rfl⟩
    have HN : Hid (X.length = N) := hN
    rw [hN] at NEXT
    rw [hm] at hl ⊢
    clear hF hJ hY ih hD hH hr hA hJk hDx hm hbx hKW hBW
    refine callsIn_of_wp Tryz.func48 rfl trivial ?_ rfl
    simp only [Tryz.ntmps48, List.size_toArray, List.length_cons, List.length_nil, Nat.reduceAdd, Nat.reduceSub, Array.replicate_succ, Array.replicate_zero, List.push_toArray, List.append_toArray, List.nil_append, List.cons_append]
    gi_wp2
    gi_loopw [11] (fun y wr => ∃ q : Nat, y = .int .i64 q ∧ q ≤ m ∧ J (k + (preF K (fuel + 1) (L.take q)).length) wr ∧ KpG B U W wr) (fun y _ => m - (intOf y).toNat)
    case atStart => exact ⟨0, rfl, by omega, START.out.1, START.out.2⟩
    case round =>
      obtain ⟨q, rfl, hqm, hJq, hKq⟩ := hrel
      by_cases hlt : q < m
      · obtain ⟨x, hx, hxX, hHq, hBx, hf, VI⟩ := NEXT.out q (by rw [HM.out]; exact hlt) wr hJq hKq
        obtain ⟨b, o, rfl, hcs⟩ := hHq.plain (intsV_get (show q < L.length by rw [HM.out]; exact hlt))
        have hc := hcs q _ (intsV_get (show q < L.length by rw [HM.out]; exact hlt))
        rw [hx] at hc
        have c1 := hBx.cf.cell 0 rfl
        have c2 := hBx.cv.cell 0 rfl
        have hxi : (x : Int) < (N : Int) := by omega
        have hx0 : (0 : Int) ≤ (x : Int) := by omega
        clear hcs hx hHq hBx hJq hKq NEXT
        gi_wp2
        gi_region_with (first
          | (gi_at_call 32; (with_reducible refine (callsIn_wide.2 (callsIn_wide.1 VI)).mono ?_); clear VI; rintro e w5 ⟨rfl, ad5, m5, cap5, h20, hcd5, NX⟩)
          | (refine ⟨trivial, ?_⟩; gi_at_call 32; (with_reducible refine (callsIn_wide.2 (callsIn_wide.1 VI)).mono ?_); clear VI; rintro e w5 ⟨rfl, ad5, m5, cap5, h20, hcd5, NX⟩)
          | (gi_at_call 48; (with_reducible refine (callsIn_wide.2 (callsIn_wide.1 NX)).mono ?_); clear NX; rintro e w6 ⟨rfl, h6⟩; have H6 : Hid (J (k + (preF K (fuel + 1) (L.take (q + 1))).length) w6 ∧ KpG B U W w6) := h6; clear h6)
          | (refine ⟨trivial, ?_⟩; gi_at_call 48; (with_reducible refine (callsIn_wide.2 (callsIn_wide.1 NX)).mono ?_); clear NX; rintro e w6 ⟨rfl, h6⟩; have H6 : Hid (J (k + (preF K (fuel + 1) (L.take (q + 1))).length) w6 ∧ KpG B U W w6) := h6; clear h6))
        all_goals
          gi_wp2
          go_roundw
          case rel => exact ⟨q + 1, by simp, by omega, H6.out.1, H6.out.2⟩
          case measure => simp [intOf]; omega
      · obtain rfl : q = m := by omega
        gi_wp2
        go_ret
        refine ⟨rfl, ?_, hKq⟩
        rwa [List.take_of_length_le (by rw [HM.out]; exact Nat.le_refl _)] at hJq
set_option maxHeartbeats 4000000 in
theorem walkD_inB (f sb bY l B fuel : Nat) (U : Nat → TypeId → Prop) (X : List Spot) (K : Nat → List Int) (rv : Value) (R : List Int) (J : Nat → World → Prop) (W : World)
    (hF : ∀ V, KpG B U W V → ForestAt V f sb X K rv R) (hB : B ≤ W.heap.size) (hU : ∀ j, W.heap.size ≤ j → ¬ U j 25 ∧ ¬ U j 90 ∧ ¬ U j 106) (hyU : ¬ U bY 87) (cy : Blk W bY #[.func (.yield l) #[] #[]] 87)
    (hJ : ∀ k V V', J k V → Below V.heap.size V V' → J k V') (hJW : ∀ k V, J k W → Below W.heap.size W V → J k V)
    (hY : ∀ k V, k < (preF K fuel R).length → J k V → YieldAt Fence.wide 2 Tryz.prog l #[ndV (nthN X ((preF K fuel R)[k]?.getD 0))] V fun e V' => e = .returned (.bool true) ∧ J (k + 1) V' ∧ KpG B U V V')
    (hD : Deep K fuel R) (h0 : J 0 W) :
    CallsIn Fence.wide 3 Tryz.prog 31 #[.pointer (some ⟨f, 0, none⟩), .func (.func 32) #[] #[.pointer (some ⟨bY, 0, none⟩)]] W fun e V => (∃ v, e = .returned v) ∧ J (preF K fuel R).length V := by
  have F0 := hF W (KpG.refl _ _ _)
  obtain ⟨ad, cap, rfl, _, hRl, hRr⟩ := F0.roots
  have DOWN : Hid (∀ V, Below W.heap.size W V → BoxD V f W.heap.size (W.heap.size + 1) (W.heap.size + 1 + 1) bY l → V.cell? ⟨f, 1, none⟩ = some (.slice ad R.length cap) ∧ CallsIn Fence.wide 3 Tryz.prog 48 #[.slice ad R.length cap, .pointer (some ⟨W.heap.size, 0, none⟩), .pointer (some ⟨W.heap.size + 1, 0, none⟩), .pointer (some ⟨W.heap.size + 1 + 1, 0, none⟩)] V fun e V' => e = .returned (.bool true) ∧ J (preF K fuel R).length V') := fun V hb hbx => by
    have hk : KpG B U W V := KpG.ofBelow hb hB
    have FV := hF V hk
    refine ⟨FV.head.cell 1 rfl, ?_⟩
    refine (down_inB f sb W.heap.size (W.heap.size + 1) (W.heap.size + 1 + 1) bY l B U X K (.slice ad R.length cap) R (preF K fuel R) J V (fun V' hV' => hF V' (hk.trans hV')) (hU _ (by omega)).1 (hU _ (by omega)).2.1 (hU _ (by omega)).2.2 hyU hbx (by have := hb.size; omega) hJ hY fuel V 0 R ad cap hD (KpG.refl _ _ _) (fun V' hV' => ?_) hRr hRl (fun j hj => by rw [Nat.zero_add]) (hJW 0 V h0 hb)).mono ?_
    · obtain ⟨ad6, cap6, hkv6, hH6, _⟩ := (hF V' (hk.trans hV')).roots
      cases hkv6
      exact hH6
    · rintro e V' ⟨rfl, h1, _⟩
      exact ⟨rfl, by simpa using h1⟩
  have hfl : Hid (f < W.heap.size) := F0.head.lt
  obtain ⟨m, hm⟩ : ∃ m, R.length = m := ⟨_, rfl⟩
  obtain ⟨W3, hW3⟩ : ∃ W3, ((W.alloc (.cells #[.pointer (some ⟨f, 0, none⟩)] 25)).alloc (.cells #[(.func (.func 32) #[] #[.pointer (some ⟨bY, 0, none⟩)])] 90)).alloc (.cells #[.nilFunc] 106) = W3 := ⟨_, rfl⟩
  have b0 : Blk W3 W.heap.size #[.pointer (some ⟨f, 0, none⟩)] 25 := by rw [← hW3]; exact ((Blk.new W _ _).alloc _).alloc _
  have b1 : Blk W3 (W.heap.size + 1) #[(.func (.func 32) #[] #[.pointer (some ⟨bY, 0, none⟩)])] 90 := by
    rw [← hW3]
    have := Blk.new (W.alloc (.cells #[.pointer (some ⟨f, 0, none⟩)] 25)) #[(.func (.func 32) #[] #[.pointer (some ⟨bY, 0, none⟩)])] 90
    rw [World.size_alloc] at this
    exact this.alloc _
  have b2 : Blk W3 (W.heap.size + 1 + 1) #[.nilFunc] 106 := by
    rw [← hW3]
    have := Blk.new ((W.alloc (.cells #[.pointer (some ⟨f, 0, none⟩)] 25)).alloc (.cells #[(.func (.func 32) #[] #[.pointer (some ⟨bY, 0, none⟩)])] 90)) #[.nilFunc] 106
    rw [World.size_alloc, World.size_alloc] at this
    exact this
  have hb3 : Below W.heap.size W W3 := by rw [← hW3]; exact (((Below.refl _ _).alloc (Nat.le_refl _) _).alloc (by simp) _).alloc (by simp; omega) _
  have k2 : W3.cell? ⟨W.heap.size + 1 + 1, 0, none⟩ = some .nilFunc := b2.cell 0 rfl
  have kz : W3.frozen? ⟨W.heap.size + 1 + 1, 0, none⟩ = false := b2.frozen 0
  obtain ⟨W4, hW4⟩ : ∃ W4, W3.setCell ⟨W.heap.size + 1 + 1, 0, none⟩ (.func (.func 48) #[] #[.pointer (some ⟨W.heap.size, 0, none⟩), .pointer (some ⟨W.heap.size + 1, 0, none⟩), .pointer (some ⟨W.heap.size + 1 + 1, 0, none⟩)]) = W4 := ⟨_, rfl⟩
  have hb4 : Below W.heap.size W W4 := by rw [← hW4]; exact Below.setCell hb3 (by simp; omega) _
  have q0 : Blk W4 W.heap.size #[.pointer (some ⟨f, 0, none⟩)] 25 := by rw [← hW4]; exact b0.other _ _ (by simp; omega)
  have q1 : Blk W4 (W.heap.size + 1) #[(.func (.func 32) #[] #[.pointer (some ⟨bY, 0, none⟩)])] 90 := by rw [← hW4]; exact b1.other _ _ (by simp)
  have q2 : Blk W4 (W.heap.size + 1 + 1) #[.func (.func 48) #[] #[.pointer (some ⟨W.heap.size, 0, none⟩), .pointer (some ⟨W.heap.size + 1, 0, none⟩), .pointer (some ⟨W.heap.size + 1 + 1, 0, none⟩)]] 106 := by rw [← hW4]; exact b2.set 0 _
  have q3 : Blk W4 bY #[.func (.yield l) #[] #[]] 87 := cy.below hb4 cy.lt
  obtain ⟨q4, DN⟩ := DOWN.out W4.drew hb4.drew ⟨q0, q1, q2, q3⟩
  have e0 := q0.cell 0 rfl
  have e2 := q2.cell 0 rfl
  have q4' : W4.cell? ⟨f, 1, none⟩ = some (.slice ad R.length cap) := q4
  rw [hm] at q4' DN
  have hst : (store ⟨W.heap.size + 1 + 1, 0, none⟩ (.func (.func 48) #[] #[.pointer (some ⟨W.heap.size, 0, none⟩), .pointer (some ⟨W.heap.size + 1, 0, none⟩), .pointer (some ⟨W.heap.size + 1 + 1, 0, none⟩)])).run Tryz.prog W3 = .ok () W4 := by
    rw [run_store _ _ _ _ _ rfl, k2, ← hW4]
    simp [kz]
  rw [← hW3] at k2 kz hW4 hst
  clear hW3 q0 q1 q2 q3 q4
  clear hF hY hD hJ hJW h0 F0 cy b0 b1 b2 hb3 hb4 DOWN hRr hRl hyU hB hU hm
  refine callsIn_of_wp Tryz.func31 rfl trivial ?_ rfl
  simp only [Tryz.ntmps31, List.size_toArray, List.length_cons, List.length_nil, Nat.reduceAdd, Nat.reduceSub, Array.replicate_succ, Array.replicate_zero, List.push_toArray, List.append_toArray, List.nil_append, List.cons_append]
  gi_wp2
  gi_region_with (first
    | (gi_at_call 48; (with_reducible refine (callsIn_wide.2 (callsIn_wide.1 DN)).mono ?_); clear DN; rintro e w6 ⟨rfl, h6⟩; have H6 : Hid (J (preF K fuel R).length w6) := h6; clear h6)
    | (refine ⟨trivial, ?_⟩; gi_at_call 48; (with_reducible refine (callsIn_wide.2 (callsIn_wide.1 DN)).mono ?_); clear DN; rintro e w6 ⟨rfl, h6⟩; have H6 : Hid (J (preF K fuel R).length w6) := h6; clear h6))
  all_goals
    gi_wp2
    go_end0
    exact ⟨⟨_, rfl⟩, H6.out⟩
set_option maxHeartbeats 4000000 in
theorem down_stepsB (n f sb bx B fuel : Nat) (U : Nat → TypeId → Prop) (X : List Spot) (K : Nat → List Int) (rv : Value) (R : List Int) (w0 w : World) (h : ForestAt w0 f sb X K rv R) (hB : w0.heap.size ≤ B) (hw : Below B w0 w) (hUw : ∀ j, w.heap.size ≤ j → ¬ U j 25 ∧ ¬ U j 90 ∧ ¬ U j 106 ∧ ¬ U j 87) (hBw : B ≤ w.heap.size)
    (cx : Blk w bx #[.pointer (some ⟨f, 0, none⟩)] 25) (hD : Deep K fuel R) :
    StepsB (fun _ => False) Fence.wide n Tryz.prog 30 #[.pointer (some ⟨bx, 0, none⟩)] (preF K fuel R).length (fun k => #[ndV (nthN X ((preF K fuel R)[k]?.getD 0))]) (KpG B U) w := fun l J W hW hJ hY h0 => by
  have hsW := hW.size
  have cxW := cx.below hW cx.lt
  have k1 : W.cell? ⟨bx, 0, none⟩ = some (.pointer (some ⟨f, 0, none⟩)) := cxW.cell 0 rfl
  obtain ⟨W1, hW1⟩ : ∃ W1, W.alloc (.cells #[.func (.yield l) #[] #[]] 87) = W1 := ⟨_, rfl⟩
  have hb1 : Below W.heap.size W W1 := by rw [← hW1]; exact (Below.refl _ _).alloc (Nat.le_refl _) _
  have s1 : W1.heap.size = W.heap.size + 1 := by rw [← hW1]; simp
  have cy : Blk W1 W.heap.size #[.func (.yield l) #[] #[]] 87 := by rw [← hW1]; exact Blk.new _ _ _
  have k2 : W1.cell? ⟨bx, 0, none⟩ = some (.pointer (some ⟨f, 0, none⟩)) := (hb1.cell (p := ⟨bx, 0, none⟩) cxW.lt).trans k1
  have WK := walkD_inB f sb W.heap.size l B fuel U X K rv R (fun k V => J k V ∧ W.heap.size ≤ V.heap.size) W1
    (fun V hV => h.below ((hw.mono hB).trans ((hW.mono (by omega)).trans ((hb1.mono (by omega)).trans (hV.below.mono hB))))) (by omega) (fun j hj => ⟨(hUw j (by omega)).1, (hUw j (by omega)).2.1, (hUw j (by omega)).2.2.1⟩) (hUw _ (by omega)).2.2.2 cy
    (fun k V V' hj hb => ⟨hJ k V V' hj.2 hj.1 (UpdT.ofBelow hb), by have := hb.size; omega⟩)
    (fun k V hj hb => ⟨hJ k W1 V hj.2 hj.1 (UpdT.ofBelow hb), by have := hb.size; omega⟩)
    (fun k V hk hj => (yieldAnyDepth rfl 2 (hY k V hk hj.1)).mono (fun e V' hh => ⟨hh.1, ⟨hh.2.1, by have := hh.2.2.below.size; omega⟩, hh.2.2⟩)) hD
    ⟨hJ 0 W W1 (Nat.le_refl _) h0 (UpdT.ofBelow hb1), by omega⟩
  refine callsIn_wide.2 (callsIn_wide (n := 3).1 ?_)
  clear hJ hY h0 hW hw h hD cx cxW cy hb1 s1
  rw [← hW1] at WK k2
  clear hW1
  refine callsIn_of_wp Tryz.func30 rfl trivial ?_ rfl
  simp only [Tryz.ntmps30, List.size_toArray, List.length_cons, List.length_nil, Nat.reduceAdd, Nat.reduceSub, Array.replicate_succ, Array.replicate_zero, List.push_toArray, List.append_toArray, List.nil_append, List.cons_append]
  gi_wp2_with (first
    | (gi_at_call 31; (with_reducible refine (callsIn_wide.2 (callsIn_wide.1 WK)).mono ?_); clear WK; rintro e w6 ⟨⟨v, rfl⟩, h6⟩)
    | (refine ⟨trivial, ?_⟩; gi_at_call 31; (with_reducible refine (callsIn_wide.2 (callsIn_wide.1 WK)).mono ?_); clear WK; rintro e w6 ⟨⟨v, rfl⟩, h6⟩))
  go_end0
  exact ⟨⟨_, rfl⟩, h6.1⟩
end Go.Proofs.YtipkolmkpfpjjaaGreatDoor

namespace Go.Proofs.YtipkolmkpfpjjaaGreatDoor
open Go Go.RowKit Go.Shelf
set_option maxRecDepth 100000

attribute [local go_sem] Oper.semAt_some

theorem wpListIn_app {F : Fence} {nf : Nat} {P : Program} (w : World) {ops : Array Oper} {rest : List Oper} {o : Oper} {a : Act} {Q : Exit → Act → World → Prop} (hgd : o.guard = none) (s x : Operand) (t tx : TypeId)
    (ho : o.op = .call { callee := .builtin .append, args := #[s, x], argTypes := #[t, tx] })
    (base : Nat) (e : TypeId) (i : TypeInfo) (z : Value) (bytes : Nat) (ht : P.underlying t = some (.slice e)) (hi : P.info? e = some i) (hz : i.zero = some z) (hsize : i.size = 1) (hby : i.bytes = bytes) (hzs : z.cells.size = 1)
    (v : Value) (n : Nat) (xs : List Value) (hv : a.eval s = v) (hown : w.ownsRow base e 1 v n xs) (y : Value) (m : Nat) (news : List Value) (hx : a.eval x = y) (hs : Src P 1 tx y m news w)
    (h63 : n + m ≤ maxLen) (hbytes : (n + m) * bytes ≤ 140737488355328) (hbase : base ≤ w.heap.size)
    (h : ∀ v' w', w'.ownsRow base e 1 v' (n + m) (xs ++ news) → w.grownBy w' v.ownBlock → Moved w v v' → wpListIn F nf P ops Q rest (a.put o.dst v') w') : wpListIn F nf P ops Q (o :: rest) a w := by
  subst hby
  refine wpListIn_plain hgd fun K hK => ?_
  obtain ⟨v', w', hr, h2, h3, h4⟩ := run_app (P := P) w base t tx o.type e i z ht hi hz hsize hzs v n xs hown y m news hs h63 hbytes hbase
  unfold Oper.wpIn
  refine ⟨?_, ?_⟩
  · simp [Oper.about, ho, resolve, Target.leads, Sem.run_pure]
  · rw [Oper.semAt_plain F _ _ (by rw [ho]; intro c hc'; cases hc')]
    simp [execOp, ho, resolve, invoke, builtin, hv, hx, hr, Result.andThen]
    exact hK _ _ (h v' w' h2 h3 h4)
theorem owns_grown {n base s k : Nat} {A C : World} {row : Option Nat} {e : TypeId} {v : Value} {xs : List Value} (h : A.ownsRow base e s v k xs) (hg : A.grownBy C row) (hr : ∀ r, row = some r → n ≤ r ∧ ∃ o : Obj, A.heap[r]? = some o ∧ o.isCells = false) : C.ownsRow base e s v k xs := by
  refine ⟨h.1, ?_⟩
  rcases h.2 with h' | ⟨g, cap, cur, e1, hb, hgc, r⟩
  · exact Or.inl h'
  · refine Or.inr ⟨g, cap, cur, e1, hb, (hg.block g (Array.getElem?_eq_some_iff.1 hgc).1 (fun e => ?_)).trans hgc, r⟩
    obtain ⟨_, o, ho, hoc⟩ := hr g e.symm
    rw [hgc] at ho
    cases ho
    simp [Obj.isCells] at hoc
/-- What a round that appends to a row may write. -/
def RowU (bo n0 : Nat) (te : TypeId) (j : Nat) (t : TypeId) : Prop := j = bo ∨ (t = te ∧ n0 ≤ j)
theorem row_block {w : World} {base s n g : Nat} {e : TypeId} {v : Value} {xs : List Value} (h : w.ownsRow base e s v n xs) (hg : v.ownBlock = some g) : base ≤ g ∧ ∃ cur, w.heap[g]? = some (.cells cur e (0, 0)) := by
  rcases h.2 with ⟨h', _⟩ | ⟨g', cap, cur, e1, hb, hgc, _⟩
  · rw [h'] at hg
    simp [Value.ownBlock] at hg
  · rw [e1] at hg
    simp [Value.ownBlock] at hg
    subst hg
    exact ⟨hb, cur, hgc⟩
/-- A row grows, its box is written: what is kept. -/
theorem kp_append {bo n0 B s k : Nat} {te : TypeId} {V w8 : World} {v : Value} {xs : List Value} {o : Obj} (hB : B ≤ bo) (hbo : bo < n0) (hn : n0 ≤ V.heap.size) (hr : V.ownsRow n0 te s v k xs) (g8 : (V.alloc o).grownBy w8 v.ownBlock) (x : Value) : KpG B (RowU bo n0 te) V (w8.setCell ⟨bo, 0, none⟩ x) ∧ KeepsFrom n0 V (w8.setCell ⟨bo, 0, none⟩ x) := by
  have hs := g8.size
  rw [World.size_alloc] at hs
  have hz : (w8.setCell ⟨bo, 0, none⟩ x).heap.size = w8.heap.size := by simp
  have keep : ∀ j, j < V.heap.size → some j ≠ v.ownBlock → w8.heap[j]? = V.heap[j]? := fun j hj hne => (g8.block j (by rw [World.size_alloc]; omega) hne).trans (Below.heap_alloc V _ j hj)
  refine ⟨⟨⟨g8.os, g8.tape, g8.output, by omega, fun j hj => ?_⟩, fun j c t fr hU hc => ?_⟩, by omega, fun j ob hj hob hc => ?_⟩
  · refine (Below.heap_setCell w8 ⟨bo, 0, none⟩ x j (by show j ≠ bo; omega)).trans (keep j (by omega) fun e => ?_)
    have := (row_block hr e.symm).1
    omega
  · have hjl := (Array.getElem?_eq_some_iff.1 hc).1
    refine (Below.heap_setCell w8 ⟨bo, 0, none⟩ x j (fun e => hU (Or.inl e))).trans ((keep j hjl fun e => ?_).trans hc)
    obtain ⟨h1, cur, h2⟩ := row_block hr e.symm
    rw [hc] at h2
    cases h2
    exact hU (Or.inr ⟨rfl, h1⟩)
  · have hjl := (Array.getElem?_eq_some_iff.1 hob).1
    refine (Below.heap_setCell w8 ⟨bo, 0, none⟩ x j (by show j ≠ bo; omega)).trans ((keep j hjl fun e => ?_).trans hob)
    obtain ⟨_, cur, h2⟩ := row_block hr e.symm
    rw [hob] at h2
    cases h2
    simp [Obj.isCells] at hc
theorem owns_setBox {bo n0 s k : Nat} {te : TypeId} {w8 : World} {v : Value} {xs : List Value} (hbo : bo < n0) (hr : w8.ownsRow n0 te s v k xs) (x : Value) : (w8.setCell ⟨bo, 0, none⟩ x).ownsRow n0 te s v k xs :=
  ownsRow_upd hr ((Upd.refl (fun k => k = bo) w8).setCell (p := ⟨bo, 0, none⟩) (fun _ => rfl) x) (fun g e e' => by have := (row_block hr e).1; omega)
end Go.Proofs.YtipkolmkpfpjjaaGreatDoor

namespace Go.Proofs.YtipkolmkpfpjjaaGreatDoor
open Go Go.RowKit Go.Shelf
set_option maxRecDepth 100000

attribute [local go_sem] Oper.semAt_some

theorem wpListIn_appW {F : Fence} {nf : Nat} {P : Program} (w : World) {ops : Array Oper} {rest : List Oper} {o : Oper} {a : Act} {Q : Exit → Act → World → Prop} (hgd : o.guard = none) (s x : Operand) (t tx : TypeId)
    (ho : o.op = .call { callee := .builtin .append, args := #[s, x], argTypes := #[t, tx] })
    (base : Nat) (e : TypeId) (i : TypeInfo) (z : Value) (size bytes : Nat) (ht : P.underlying t = some (.slice e)) (hi : P.info? e = some i) (hz : i.zero = some z) (hsize : i.size = size) (hby : i.bytes = bytes) (hzs : z.cells.size = size)
    (v : Value) (n : Nat) (xs : List Value) (hv : a.eval s = v) (hown : w.ownsRow base e size v n xs) (y : Value) (m : Nat) (news : List Value) (hx : a.eval x = y) (hs : Src P size tx y m news w)
    (h63 : n + m ≤ maxLen) (hbytes : (n + m + (n + m) / 4 + 192) * bytes ≤ 281474976710656) (hbase : base ≤ w.heap.size)
    (h : ∀ v' w', w'.ownsRow base e size v' (n + m) (xs ++ news) → w.grownBy w' v.ownBlock → Moved w v v' → wpListIn F nf P ops Q rest (a.put o.dst v') w') : wpListIn F nf P ops Q (o :: rest) a w := by
  subst hby
  refine wpListIn_plain hgd fun K hK => ?_
  obtain ⟨v', w', hr, h2, h3, h4⟩ := run_appW (P := P) w base t tx o.type e i z size ht hi hz hsize hzs v n xs hown y m news hs h63 hbytes hbase
  unfold Oper.wpIn
  refine ⟨?_, ?_⟩
  · simp [Oper.about, ho, resolve, Target.leads, Sem.run_pure]
  · rw [Oper.semAt_plain F _ _ (by rw [ho]; intro c hc'; cases hc')]
    simp [execOp, ho, resolve, invoke, builtin, hv, hx, hr, Result.andThen]
    exact hK _ _ (h v' w' h2 h3 h4)
theorem infoNd : (Tryz.prog.info? 49).map (fun i => (i.zero, i.size, i.bytes)) = some (some (.agg #[.int .u64 0, .int .u64 0, .int .i64 0, .int .u64 0, .int .i64 0, .int .i64 0, .int .i64 0]), 7, 56) := by kernel_rfl
theorem infoNd_parts : ∃ i, Tryz.prog.info? 49 = some i ∧ i.zero = some (.agg #[.int .u64 0, .int .u64 0, .int .i64 0, .int .u64 0, .int .i64 0, .int .i64 0, .int .i64 0]) ∧ i.size = 7 ∧ i.bytes = 56 := by
  have h := infoNd
  cases hi : Tryz.prog.info? 49 with
  | none => rw [hi] at h; simp at h
  | some i => rw [hi] at h; simp at h; exact ⟨i, rfl, h.1, h.2.1, h.2.2⟩
theorem src_nd {P : Program} {tx e : TypeId} (hu : P.underlying tx = some (.slice e)) (w : World) (d : Nod) (t : TypeId) : Src P 7 tx (.slice (some ⟨w.heap.size, 0, none⟩) 1 1) 1 [.int .u64 d.id, .int .u64 d.par, .int .i64 d.org, .int .u64 d.tree, .int .i64 d.dep, .int .i64 d.fr, .int .i64 d.til] (w.alloc (.cells #[.int .u64 d.id, .int .u64 d.par, .int .i64 d.org, .int .u64 d.tree, .int .i64 d.dep, .int .i64 d.fr, .int .i64 d.til] t)) := by
  refine Src.ofSlice _ hu ⟨w.heap.size, 0, none⟩ 1 1 _ rfl ?_ ?_
  · intro j u hj
    match j, hj with
    | 0, hj => simp at hj; subst hj; simp [Addr.add]
    | 1, hj => simp at hj; subst hj; simp [Addr.add]
    | 2, hj => simp at hj; subst hj; simp [Addr.add]
    | 3, hj => simp at hj; subst hj; simp [Addr.add]
    | 4, hj => simp at hj; subst hj; simp [Addr.add]
    | 5, hj => simp at hj; subst hj; simp [Addr.add]
    | 6, hj => simp at hj; subst hj; simp [Addr.add]
    | j + 7, hj => simp at hj
  · intro u hu
    simp only [List.mem_cons, List.not_mem_nil, or_false] at hu
    rcases hu with rfl | rfl | rfl | rfl | rfl | rfl | rfl <;> rfl
/-- The nodes in the order of the way down, cell by cell. -/
def ndsL (X : List Spot) (L : List Int) : List Value := L.flatMap (fun x => ndL (nthN X x))
theorem ndsL_take (X : List Spot) (L : List Int) (k : Nat) (hk : k < L.length) : ndsL X (L.take (k + 1)) = ndsL X (L.take k) ++ ndL (nthN X (L[k]?.getD 0)) := by
  unfold ndsL
  rw [List.take_succ_eq_append_getElem hk, List.flatMap_append, List.getElem?_eq_getElem hk]
  simp
set_option maxHeartbeats 4000000 in
theorem nodesL_any (f sb fuel : Nat) (X : List Spot) (K : Nat → List Int) (rv : Value) (R : List Int) (w : World) (h : ForestAt w f sb X K rv R) (hD : Deep K fuel R) (L : List Int) (hL : preF K fuel R = L) (hl : L.length ≤ 1000) :
    Calls Tryz.prog 7 #[.pointer (some ⟨f, 0, none⟩)] w fun e w' => ∃ ad cap, e = .returned (.slice ad L.length cap) ∧ w'.ownsRow w.heap.size 49 7 (.slice ad L.length cap) L.length (ndsL X L) ∧ Below w.heap.size w w' := by
  obtain ⟨i0, hi0, hz0, hz1, hz2⟩ := infoNd_parts
  refine (callsIn_wide (n := 9)).1 ?_
  refine callsIn_of_wp_marks Tryz.func7 rfl trivial ?_
  simp only [Tryz.ntmps7, List.size_toArray, List.length_cons, List.length_nil, Nat.reduceAdd, Nat.reduceSub, Array.replicate_succ, Array.replicate_zero, List.push_toArray, List.append_toArray, List.nil_append, List.cons_append]
  gi_wp2_with (first
    | (gi_at_call 17; (with_reducible refine (callsIn_wide.2 (downF_any _ _)).mono ?_); rintro e w' ⟨rfl, rfl⟩)
    | (refine ⟨trivial, ?_⟩; gi_at_call 17; (with_reducible refine (callsIn_wide.2 (downF_any _ _)).mono ?_); rintro e w' ⟨rfl, rfl⟩))
  obtain ⟨X3, hX3⟩ : ∃ X3, (w.alloc (.cells #[.slice none 0 0] 30)).alloc (.cells #[.pointer (some ⟨f, 0, none⟩)] 25) = X3 := ⟨_, rfl⟩
  have b3 : Below w.heap.size w X3 := by rw [← hX3]; exact ((Below.refl _ _).alloc (Nat.le_refl _) _).alloc (by simp) _
  have s3 : X3.heap.size = w.heap.size + 2 := by rw [← hX3]; simp
  have kU : Blk X3 w.heap.size #[.slice none 0 0] 30 := by rw [← hX3]; exact (alloc_atS rfl).alloc _
  have kf : Blk X3 (w.heap.size + 1) #[.pointer (some ⟨f, 0, none⟩)] 25 := by rw [← hX3]; exact alloc_atS (by simp)
  have hbo : Hid (w.heap.size < X3.heap.size) := by show w.heap.size < X3.heap.size; omega
  rw [hX3]
  clear hX3
  have DS := down_stepsB 8 f sb (w.heap.size + 1) w.heap.size fuel (RowU w.heap.size X3.heap.size 49) X K rv R w X3 h (Nat.le_refl _) b3 (fun j hj => ⟨fun hh => by rcases hh with hh | hh; omega; exact absurd hh.1 (by decide), fun hh => by rcases hh with hh | hh; omega; exact absurd hh.1 (by decide), fun hh => by rcases hh with hh | hh; omega; exact absurd hh.1 (by decide), fun hh => by rcases hh with hh | hh; omega; exact absurd hh.1 (by decide)⟩) (by omega) kf hD
  rw [hL] at DS
  refine wpIn_stepsB (F := Fence.wide) rfl (by omega) (gf := 30) (lb := #[.pointer (some ⟨w.heap.size + 1, 0, none⟩)]) rfl trivial (enters_of Tryz.func30 (by kernel_rfl) rfl)
    DS KpG.trans (KpG.put (by omega)) (fun _ => rfl)
    (fun k W => KpG w.heap.size (RowU w.heap.size X3.heap.size 49) X3 W ∧ ∃ ad cap, Blk W w.heap.size #[.slice ad k cap] 30 ∧ W.ownsRow X3.heap.size 49 7 (.slice ad k cap) k (ndsL X (L.take k))) ?_ ?_ ?_ ?_ ?_
  · rintro k A' C row ⟨a1, ad, cap, a2, a3⟩ hg hr
    exact ⟨a1.own hg hr (by omega) (by omega), ad, cap, a2.own hg hr, owns_grown a3 hg hr⟩
  · rintro k A' C m hm hA' ⟨a1, ad, cap, a2, a3⟩ hu
    exact ⟨a1.mine hm (by omega) hu, ad, cap, hu.blk a2 (fun h => h), hu.row a3 (fun h => h)⟩
  · exact ⟨KpG.refl _ _ _, none, 0, kU, World.ownsRow_nil _ _ _ _⟩
  · rintro l k W hk ⟨a1, ad, cap, a2, a3⟩
    obtain ⟨d, hd⟩ : ∃ d, nthN X (L[k]?.getD 0) = d := ⟨_, rfl⟩
    have HX : Hid (ndsL X (L.take (k + 1)) = ndsL X (L.take k) ++ ndL d) := by
      show ndsL X (L.take (k + 1)) = _
      rw [ndsL_take X L k hk, hd]
    rw [hd]
    unfold ndV
    clear hd DS
    gi_wp2
    have sW := a1.below.size
    have bV : ∀ o, Below W.heap.size W (W.alloc o) := fun o => (Below.refl _ _).alloc (Nat.le_refl _) _
    refine ⟨(KeepsOthers.alloc _ _).from _, KpG.ofBelow (bV _) (by omega), ⟨a1.trans (KpG.ofBelow (bV _) (by omega)), ad, cap, a2.alloc _, a3.alloc _⟩, ?_⟩
    clear a1 a2 a3 ad cap
    rintro V ⟨v1, ad, cap, v2, v3⟩ hc hsz
    have cn := hc W.heap.size _ _ _ (Blk.new W _ _)
    have HND : Hid (Blk V W.heap.size (ndL d).toArray 49) := cn
    have c0 : V.cell? ⟨w.heap.size, 0, none⟩ = some (.slice ad k cap) := v2.cell 0 rfl
    have n0 : V.cell? ⟨W.heap.size, 0, none⟩ = some (.int .u64 d.id) := HND.out.cell 0 rfl
    have n1 : V.cell? ⟨W.heap.size, 1, none⟩ = some (.int .u64 d.par) := HND.out.cell 1 rfl
    have n2 : V.cell? ⟨W.heap.size, 2, none⟩ = some (.int .i64 d.org) := HND.out.cell 2 rfl
    have n3 : V.cell? ⟨W.heap.size, 3, none⟩ = some (.int .u64 d.tree) := HND.out.cell 3 rfl
    have n4 : V.cell? ⟨W.heap.size, 4, none⟩ = some (.int .i64 d.dep) := HND.out.cell 4 rfl
    have n5 : V.cell? ⟨W.heap.size, 5, none⟩ = some (.int .i64 d.fr) := HND.out.cell 5 rfl
    have n6 : V.cell? ⟨W.heap.size, 6, none⟩ = some (.int .i64 d.til) := HND.out.cell 6 rfl
    have cz := v2.frozen 0
    have sV := v1.below.size
    have HV : Hid (KpG w.heap.size (RowU w.heap.size X3.heap.size 49) X3 V) := v1
    have HU : Hid (Blk V w.heap.size #[.slice ad k cap] 30) := v2
    have HR : Hid (V.ownsRow X3.heap.size 49 7 (.slice ad k cap) k (ndsL X (L.take k))) := v3
    have hkl : Hid (k ≤ 1000) := by show k ≤ 1000; omega
    clear v1 v2 v3 cn hc hsz sW bV
    gi_wp2_with (gi_at_builtin; have q1 := HR.out.alloc (.cells #[.int .u64 d.id, .int .u64 d.par, .int .i64 d.org, .int .u64 d.tree, .int .i64 d.dep, .int .i64 d.fr, .int .i64 d.til] 49); have q2 := src_nd Tryz.underlying30 V d 49; have q3 : (k + 1 + (k + 1) / 4 + 192) * 56 ≤ 281474976710656 := (by have := hkl.out; omega); have q4 : k + 1 ≤ maxLen := (by have := hkl.out; unfold maxLen; omega); have q5 : X3.heap.size ≤ (V.alloc (.cells #[.int .u64 d.id, .int .u64 d.par, .int .i64 d.org, .int .u64 d.tree, .int .i64 d.dep, .int .i64 d.fr, .int .i64 d.til] 49)).heap.size := (by rw [World.size_alloc]; omega); refine wpListIn_appW _ rfl _ _ 30 30 rfl X3.heap.size 49 i0 _ 7 56 Tryz.underlying30 hi0 hz0 hz1 hz2 rfl (.slice ad k cap) k (ndsL X (L.take k)) rfl q1 _ 1 _ rfl q2 q4 q3 q5 ?_; clear q1 q2 q3 q4 q5; intro v8 w8 o8 g8 m8; obtain ⟨ad8, cap8, rfl⟩ := owns_sliceS o8; have B8 : Blk w8 w.heap.size #[.slice ad k cap] 30 := (g8.block _ (by rw [World.size_alloc]; omega) (fun e => by have := (row_block HR.out e.symm).1; omega)).trans (HU.out.alloc _); have d0 : w8.cell? ⟨w.heap.size, 0, none⟩ = some (.slice ad k cap) := B8.cell 0 rfl; have dz := B8.frozen 0; have H8 : Hid (w8.ownsRow X3.heap.size 49 7 (.slice ad8 (k + 1) cap8) (k + 1) (ndsL X (L.take k) ++ ndL d)) := o8; have HB8 : Hid (Blk w8 w.heap.size #[.slice ad k cap] 30) := B8; have HKP : Hid (∀ y : Value, KpG w.heap.size (RowU w.heap.size X3.heap.size 49) V (w8.setCell ⟨w.heap.size, 0, none⟩ y) ∧ KeepsFrom X3.heap.size V (w8.setCell ⟨w.heap.size, 0, none⟩ y)) := (fun y => kp_append (Nat.le_refl _) hbo.out sV HR.out g8 y); clear o8 g8 m8 B8)
    refine ⟨(HKP.out _).2, (HKP.out _).1, HV.out.trans (HKP.out _).1, ad8, cap8, HB8.out.set 0 _, ?_⟩
    rw [HX.out]
    exact owns_setBox hbo.out H8.out _
  · rintro D W hD ⟨a1, ad, cap, a2, a3⟩ hDf
    have c0 : W.cell? ⟨w.heap.size, 0, none⟩ = some (.slice ad L.length cap) := a2.cell 0 rfl
    have HA1 : Hid (KpG w.heap.size (RowU w.heap.size X3.heap.size 49) X3 W) := a1
    have HA3 : Hid (W.ownsRow X3.heap.size 49 7 (.slice ad L.length cap) L.length (ndsL X (L.take L.length))) := a3
    have HDf : Hid (W.heap[D]? = some (.deferred (some []))) := hDf
    clear a1 a2 a3 hDf DS
    gi_wp2
    refine ⟨by simp, .inl ⟨_, _, rfl, run_takeDeferred HDf.out, ?_⟩⟩
    refine ⟨_, results_tmp rfl _ _ _, ad, cap, rfl, ?_, ?_⟩
    · have h3 := HA3.out
      rw [List.take_length] at h3
      have h4 := owns_low h3 (base' := w.heap.size) (by omega)
      refine owns_grown (n := 0) h4 (grownBy_putObj' W D _) (fun r e => ⟨Nat.zero_le _, ?_⟩)
      cases e
      exact ⟨_, HDf.out, rfl⟩
    · refine b3.trans (HA1.out.below.trans ⟨rfl, rfl, rfl, by simp [World.putObj], fun k hk => World.putObj_heap_other (by omega)⟩)
end Go.Proofs.YtipkolmkpfpjjaaGreatDoor
