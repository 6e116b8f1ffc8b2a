/-
  Merged: GB, GC.
-/
import Derived.RangeFuncNested
import Derived.RangeFuncBound
import Derived.RangeFuncCalls
import Derived.RangeFuncLeaves
import Derived.RangeFuncBox
import Derived.Shelf.Abstract
import Derived.Shelf.RegionOpen
import Derived.WalkKit
import Derived.OwnWalkIn
import Derived.TacticsInMore
import Derived.LoopNIn
import Derived.LoopIn
import Derived.Test.YtbefeobikjnlpaaGreatDoorZmq
import Derived.Test.YtbefeobikjnlpaaGreatDoorGAq
namespace Go.Proofs.YtbefeobikjnlpaaGreatDoor
open Go Go.RowKit Go.Shelf

attribute [local go_sem] Oper.semAt_some

abbrev markA (D : Nat) : Deferred := { target := .collected D, args := #[] }
theorem roundAnyDepth {F : Fence} (hd : F.depth = none) {m m' : Nat} {P : Program} {l : Nat} {f : FuncId} {tmps : Array Value} {assign body : Code} {w : World} {R : Ending → World → Prop}
    (h : RoundIn F m P l f tmps assign body w R) : RoundIn F m' P l f tmps assign body w R := ⟨h.1, fun c cs _ => h.2 c cs (fun d e => by rw [hd] at e; cases e)⟩
theorem yieldAnyDepth {F : Fence} (hd : F.depth = none) {m : Nat} (m' : Nat) {P : Program} {l : Nat} {args : Array Value} {W : World} {R : Ending → World → Prop} (h : YieldAt F m P l args W R) : YieldAt F m' P l args W R := by
  obtain ⟨fn, tmps, assign, body, hy, hR⟩ := h
  exact ⟨fn, tmps, assign, body, hy, roundAnyDepth hd hR⟩
/-- An iterator of N rounds: in the k-th one it hands over args k; what it lays and writes lies in blocks of its own. -/
def StepsA (F : Fence) (n : Nat) (P : Program) (g : Nat) (lb : Array Value) (N : Nat) (args : Nat → Array Value) (Kp : World → World → Prop) (w : World) : Prop :=
  ∀ (l : Nat) (J : Nat → World → Prop) (W : World), Below w.heap.size w W →
    (∀ k A B, W.heap.size ≤ A.heap.size → J k A → Upd (fun j => W.heap.size ≤ j) A B → J k B) →
    (∀ k W1, k < N → J k W1 → YieldAt F (n - 1) P l (args k) W1 fun e W' => e = .returned (.bool true) ∧ J (k + 1) W' ∧ Kp W1 W') →
    J 0 W → CallsIn F n P g (#[.func (.yield l) #[] #[]] ++ lb) W fun e W' => (∃ v, e = .returned v) ∧ J N W'

theorem wpIn_stepsA {F : Fence} {n : Nat} {P : Program} {g : Operand} {ps : Array Tmp} {assign body : Code} {Q : Exit → Act → World → Prop} {a : Act} {w : World}
    (hro : F.round = none) (h1 : 1 ≤ n) {gf : Nat} {lb : Array Value} (hg : a.eval g = .func (.func gf) #[] lb) (hFg : F.fn gf) (eg : ∀ args w, (callFunc gf args).run P w = .ok (.enter gf args) w)
    {N : Nat} {args : Nat → Array Value} {Kp : World → World → Prop} (hseq : StepsA F (n - 1) P gf lb N args Kp w)
    (hKt : ∀ {A B C : World}, Kp A B → Kp B C → Kp A C) (hKb : ∀ (W : World) (l : Nat) (o o' : Obj), w.heap.size ≤ l → W.heap[l]? = some o → o.isCells = false → o.isWalk = false → Kp W (W.putObj l o')) (hps : ∀ k, (args k).size = ps.size)
    (I : Nat → World → Prop) (hI : OwnFrom w.heap.size I) (hIu : ∀ k A B m, w.heap.size ≤ m → m ≤ A.heap.size → I k A → Upd (fun j => m ≤ j) A B → I k B) (h0 : I 0 w)
    (hround : ∀ (l k : Nat) (W : World), k < N → I k W → assign.wpIn (F.inRound l) (n - 1 - 1) P (Exit.then (fun a' W' => KeepsFrom w.heap.size W W' ∧ Kp W W' ∧ I k W' ∧ ∀ V, I k V → (∀ (j : Nat) (c : Array Value) (t : TypeId) (fr : Nat × Nat), W'.heap[j]? = some (Obj.cells c t fr) → V.heap[j]? = some (Obj.cells c t fr)) → V.heap.size = W'.heap.size → body.wpIn (F.inRound l) (n - 1 - 1) P (ownPostG (α := Unit) w.heap.size Kp (fun _ => I (k + 1)) (fun _ _ _ => False) [] V) a' V) (fun _ _ _ => False)) { tmps := (ps.zip (args k)).foldl (fun t (p, v) => t.setIfInBounds p v) a.tmps, defers := [] } W)
    (hdone : ∀ (D : Nat) (W : World), w.heap.size ≤ D → I N W → W.heap[D]? = some (.deferred (some [])) → Q .normal { a with defers := markA D :: a.defers } W) :
    (Code.rangeFunc g ps assign body).wpIn F n P Q a w := by
  refine wpIn_rangeFunc fun fn hfn => ?_
  rw [hro]
  -- the loop's record, in its four states
  obtain ⟨R, hR⟩ : ∃ R : LoopState → Loop, R = fun st => { state := st, pending := none, fn, tmps := a.tmps, params := ps, assign, body, defers := w.heap.size } := ⟨_, rfl⟩
  obtain ⟨W1, hW1⟩ : ∃ W1, (w.alloc (.deferred (some []))).alloc (.loop (R .ready)) = W1 := ⟨_, rfl⟩
  have s1 : W1.heap.size = w.heap.size + 2 := by rw [← hW1]; simp
  have r1 : W1.heap[w.heap.size + 1]? = some (.loop (R .ready)) := by
    rw [← hW1]
    have := World.alloc_heap_new (w.alloc (.deferred (some []))) (.loop (R .ready))
    rwa [World.size_alloc] at this
  have m1 : W1.heap[w.heap.size]? = some (.deferred (some [])) := by
    rw [← hW1]
    exact (Below.heap_alloc _ _ _ (by simp)).trans (World.alloc_heap_new w _)
  have i1 : I 0 W1 := by rw [← hW1]; exact hI.alloc _ (hI.alloc _ h0)
  have b1 : Below w.heap.size w W1 := by rw [← hW1]; exact ((Below.refl _ w).alloc (Nat.le_refl _) _).alloc (by simp) _
  refine ⟨w.heap.size + 1, [markA w.heap.size], W1, { target := .fn (.func gf) lb, args := #[.func (.yield (w.heap.size + 1)) #[] #[]] }, W1, gf, #[.func (.yield (w.heap.size + 1)) #[] #[]] ++ lb, W1, ?_, ?_, ?_, ?_, fun _ => h1, ?_⟩
  · rw [← hW1, hR]; exact run_enterLoop_outer _ _ _ _ _
  · simp only [resolve, hg]; simp [go_sem]
  · intro f' hf'
    simp [Target.leads] at hf'
    subst hf'; exact hFg
  · simp [invoke, go_sem, eg]
  refine (hseq (w.heap.size + 1) (fun k W => I k W ∧ W.heap[w.heap.size + 1]? = some (.loop (R .ready)) ∧ W.heap[w.heap.size]? = some (.deferred (some []))) W1 b1 ?abide ?round ⟨i1, r1, m1⟩).mono ?behind
  case abide =>
    rintro k A B hA ⟨hi, hl, hm⟩ hu
    exact ⟨hIu k A B W1.heap.size (by omega) hA hi hu, (hu.block _ (by omega) (by omega)).trans hl, (hu.block _ (by omega) (by omega)).trans hm⟩
  case round =>
    rintro k W hk ⟨hi, hl, hm⟩
    have hy := run_yield (P := P) (args := args k) hl (by rw [hR]; exact hps k)
    rw [hR] at hy
    refine ⟨fn, _, assign, body, hy, roundIn_of_wpIn hfn (wpIn_mono (hround _ k W hk hi) ?_)⟩
    intro e0 a' W' hq
    cases e0 with
    | normal => ?_
    | ret => exact hq
    | exit id => exact hq
    | goto t => exact hq
    | panic ch => exact hq
    | outgrown => exact hq
    obtain ⟨hkf, hkp, hi', hbody⟩ := hq
    have hl' := hkf.same _ _ (by omega) hl rfl
    have hm' := hkf.same _ _ (Nat.le_refl _) hm rfl
    refine ⟨_, run_beginRound hl' (by rw [hR]), ?_⟩
    have hlt := (Array.getElem?_eq_some_iff.1 hl').1
    have eb : ({ R .ready with state := .busy } : Loop) = R .busy := by rw [hR]
    rw [eb]
    obtain ⟨X, hX⟩ : ∃ X, W'.putObj (w.heap.size + 1) (.loop (R .busy)) = X := ⟨_, rfl⟩
    rw [hX]
    have lX : X.heap[w.heap.size + 1]? = some (.loop (R .busy)) := by rw [← hX]; exact World.putObj_heap_same hlt
    have mX : X.heap[w.heap.size]? = some (.deferred (some [])) := by rw [← hX]; exact (World.putObj_heap_other (by omega)).trans hm'
    have kX : Kp W X := hKt hkp (by rw [← hX]; exact hKb _ _ _ _ (by omega) hl' rfl rfl)
    have iX : I k X := by rw [← hX]; exact hI.putObj _ hi' (by omega) hl' rfl
    refine wpIn_mono (hbody X iX (fun j c t fr hc => ?_) (by rw [← hX, World.putObj_size])) ?_
    · rw [← hX]
      refine (World.putObj_heap_other (fun e => ?_)).trans hc
      subst e
      rw [hl'] at hc
      cases hc
    intro e a3 W3 hp
    cases e with
    | normal =>
      obtain ⟨hk3, hkp3, hi3⟩ := hp
      have l3 := hk3.same _ _ (by omega) lX rfl
      have m3 := hk3.same _ _ (Nat.le_refl _) mX rfl
      have hr := run_endRound (P := P) none l3
      have er : ({ R .busy with state := if (none : Option Code).isNone then .ready else .done, pending := none } : Loop) = R .ready := by rw [hR]; rfl
      rw [er] at hr
      refine ⟨_, _, hr, rfl, ⟨hI.putObj _ hi3 (by omega) l3 rfl, World.putObj_heap_same (Array.getElem?_eq_some_iff.1 l3).1, (World.putObj_heap_other (by omega)).trans m3⟩, hKt (hKt kX hkp3) (hKb _ _ _ _ (by omega) l3 rfl rfl)⟩
    | ret => exact hp.2.elim
    | exit id => exact hp.2.elim
    | goto t => exact hp.2.elim
    | panic ch => exact hp.elim
    | outgrown => exact hp.elim
  case behind =>
    rintro e W2 ⟨⟨v, rfl⟩, hi, hl, hm⟩
    refine ⟨none, _, by have := run_endLoop (P := P) hl (by rw [hR]; simp); rw [hR] at this; exact this, hdone _ _ (Nat.le_refl _) (hI.putObj _ hi (by omega) hl rfl) ((World.putObj_heap_other (by omega)).trans hm)⟩
end Go.Proofs.YtbefeobikjnlpaaGreatDoor

namespace Go.Proofs.YtbefeobikjnlpaaGreatDoor
open Go Go.RowKit
set_option maxRecDepth 100000

set_option maxHeartbeats 4000000 in
theorem ids_any (f sb : Nat) (X : List Spot) (K : Nat → List Int) (rv : Value) (R : List Int) (w : World) (h : ForestAt w f sb X K rv R) :
    Calls Tryz.prog 13 #[.pointer (some ⟨f, 0, none⟩)] w fun e w' => ∃ r, e = .returned (.slice (some ⟨r, 0, none⟩) X.length X.length) ∧ Blk w' r (fillC .u64 (X.map (fun x => x.nd.id)) 0) 48 ∧ w.heap.size ≤ r ∧ Below w.heap.size w w' := by
  have hl := h.small
  have hf : w.cell? ⟨f, 0, none⟩ = some (.slice (some ⟨sb, 0, none⟩) X.length X.length) := h.head.cell 0 rfl
  have HF : Hid (w.cell? ⟨f, 0, none⟩ = some (.slice (some ⟨sb, 0, none⟩) X.length X.length)) := hf
  have HB : Hid (Blk w sb (rowS X) 83) := h.row
  have hflt : Hid (f < w.heap.size) := World.block_lt_of_cell? w _ hf
  obtain ⟨n, hn⟩ : ∃ n, X.length = n := ⟨_, rfl⟩
  have HN : Hid (X.length = n) := hn
  rw [hn] at hl hf ⊢
  clear h hn
  go_enter Tryz.func13, Tryz.ntmps13
  go_wp2_with (at_make; refine wpList_mk rfl _ _ 46 rfl 48 (.int .u64 0) 1 8 Tryz.underlying46 infoID n rfl rfl (by omega) (by unfold maxLen; omega) ?_; intro w1 b1 hb1; have f1 : w1.cell? ⟨f, 0, none⟩ = some (.slice (some ⟨sb, 0, none⟩) n n) := (hb1.cell (p := ⟨f, 0, none⟩) hflt.out).trans hf)
  have B0 : Hid (Blk w1 w.heap.size (fillC .u64 [] n) 48) := by
    rw [fill_start, ← made_one]; exact b1
  have HB1 : Hid (Below w.heap.size w w1) := hb1
  obtain ⟨r, hrr⟩ : ∃ r, w.heap.size = r := ⟨_, rfl⟩
  have HRR : Hid (w.heap.size = r) := hrr
  rw [hrr] at B0 ⊢
  clear b1 hb1 hrr f1 hf
  go_loopw [17] (fun x wr => ∃ k : Nat, x = .int .i64 k ∧ k ≤ n ∧ Blk wr r (fillC .u64 ((X.take k).map (fun x => x.nd.id)) (n - k)) 48 ∧ Below w.heap.size w wr) (fun x _ => n - (intOf x).toNat)
  case atStart => exact ⟨0, rfl, by omega, by simpa using B0.out, HB1.out⟩
  case round =>
    obtain ⟨k, rfl, hkn, hblk, hb⟩ := hrel
    have HBB : Hid (Below w.heap.size w wr) := hb
    have HBK : Hid (Blk wr r (fillC .u64 ((X.take k).map (fun x => x.nd.id)) (n - k)) 48) := hblk
    clear hb hblk
    by_cases hlt : k < n
    · have hkX : k < X.length := by rw [HN.out]; exact hlt
      have f1 : wr.cell? ⟨f, 0, none⟩ = some (.slice (some ⟨sb, 0, none⟩) n n) := (HBB.out.cell (p := ⟨f, 0, none⟩) hflt.out).trans (by rw [← HN.out]; exact HF.out)
      have LD : Hid (wr.rangeAt sb (k * 21) (enS X[k])) := Blk.range (Blk.below HB.out HBB.out (Blk.lt HB.out)) k hkX
      have hT : Hid ((X.take (k + 1)).map (fun x => x.nd.id) = (X.take k).map (fun x => x.nd.id) ++ [X[k].nd.id]) := by rw [List.take_succ_eq_append_getElem hkX, List.map_append]; rfl
      obtain ⟨x, hx⟩ : ∃ x, X[k]'hkX = x := ⟨_, rfl⟩
      rw [hx] at LD hT
      have hkr : Hid (∀ W, Upd (fun j => j = wr.heap.size) (wr.alloc (.cells zSpotL.toArray 83)) W → Below w.heap.size w W ∧ Blk W r (fillC .u64 ((X.take k).map (fun x => x.nd.id)) (n - k)) 48) := fun W hu => by
        have hs := HBB.out.size
        have hb : Below w.heap.size w W := (HBB.out.alloc hs _).trans (hu.below (by simp; omega) (fun j hj e => by omega))
        refine ⟨hb, ?_⟩
        have h0 : Blk (wr.alloc (.cells zSpotL.toArray 83)) r (fillC .u64 ((X.take k).map (fun x => x.nd.id)) (n - k)) 48 := Blk.alloc HBK.out _
        exact Blk.upd h0 hu (fun e => by have := Blk.lt HBK.out; omega)
      have hlen : ((X.take k).map (fun x => x.nd.id)).length = k := by simp; omega
      have hnk : n - k = (n - (k + 1)) + 1 := by omega
      have GET0 : Hid (∀ W, Blk W r (fillC .u64 ((X.take k).map (fun x => x.nd.id)) (n - k)) 48 → W.cell? ⟨r, k, none⟩ = some (.int .u64 0) ∧ Blk (W.setCell ⟨r, k, none⟩ (.int .u64 x.nd.id)) r (fillC .u64 ((X.take (k + 1)).map (fun x => x.nd.id)) (n - (k + 1))) 48) := fun W hW => by
        refine ⟨Blk.cell hW k (by rw [hnk]; have := fill_get .u64 ((X.take k).map (fun x => x.nd.id)) (n - (k + 1)); rwa [hlen] at this), ?_⟩
        have := Blk.set hW k (.int .u64 x.nd.id)
        rw [hnk] at this
        have e := fill_set .u64 ((X.take k).map (fun x => x.nd.id)) (n - (k + 1)) x.nd.id
        rw [hlen] at e
        rw [e, ← hT.out] at this
        exact this
      clear hx hlen hnk
      go_wp2_with (first
        | (refine wpList_spot rfl _ rfl sb _ x LD.out rfl ?_)
        | (refine wpList_stW rfl 83 _ _ rfl wr.heap.size zSpotL (enS x) 83 (Blk.new _ _ _) rfl rfl rfl (by kernel_rfl) (enS_one _) ?_; intro w2 n2 u2; obtain ⟨hb2, hr2⟩ := hkr.out w2 u2; have e3 : w2.cell? ⟨wr.heap.size, 13, none⟩ = some (.int .u64 x.nd.id) := Blk.cell n2 13 rfl; obtain ⟨d1, hr3⟩ := GET0.out w2 hr2; have d2 := Blk.frozen hr2 k; have HR3 : Hid (Blk (w2.setCell ⟨r, k, none⟩ (.int .u64 x.nd.id)) r (fillC .u64 ((X.take (k + 1)).map (fun x => x.nd.id)) (n - (k + 1))) 48) := hr3; have HB3 : Hid (Below w.heap.size w (w2.setCell ⟨r, k, none⟩ (.int .u64 x.nd.id))) := Below.setCell hb2 (by have := HRR.out; simp; omega) _; clear n2 u2 hb2 hr2 hr3))
      go_roundw
      case rel => exact ⟨k + 1, by simp, by omega, HR3.out, HB3.out⟩
      case measure => simp [intOf]; omega
    · obtain rfl : k = n := by omega
      go_wp2
      go_ret
      refine ⟨r, rfl, ?_, by have := HRR.out; omega, HBB.out⟩
      have := HBK.out
      rw [List.take_of_length_le (by rw [HN.out]; exact Nat.le_refl _), Nat.sub_self] at this
      exact this
end Go.Proofs.YtbefeobikjnlpaaGreatDoor
