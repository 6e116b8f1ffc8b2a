/-
  halt: callAll of nothing, cancel, Cancel.
-/
import Derived.Test.YtmepapbbebddiaaFl
namespace Go.Proofs.Ytmepapbbebddiaa
open Go Go.Conc Go.RowKit Go.MuLone

theorem Fam.setLock {w : World} {n₀ lk : Nat} {S : List Nat} {N : Nat → Nd} {pg : Nat → Option Nat} {q : Int} (h : Fam w n₀ lk S N pg q) (q' : Int) : Fam (w.setCell ⟨lk, 0, none⟩ (.int .i32 q')) n₀ lk S N pg q' := by
  have hne : ∀ b ∈ S, b ≠ lk := fun b hb e => (Blk.ne (h.stop b hb) (e ▸ h.lock) (by decide)) rfl
  have hnc : ∀ b ∈ S, b - 1 ≠ lk := fun b hb e => by
    have h1 := h.chan b hb
    have h2 := h.lock
    unfold ChanAt at h1; unfold Blk at h2
    rw [e, h2] at h1
    cases h1
  exact {
    kin := h.kin
    lock := by
      have := h.lock.set 0 (.int .i32 q')
      simpa using this
    lkb := h.lkb
    base := by simpa using h.base
    stop := fun b hb => (h.stop b hb).other _ _ (hne b hb)
    chan := fun b hb => by
      have h1 := h.chan b hb
      unfold ChanAt at h1 ⊢
      rw [Below.heap_setCell w ⟨lk, 0, none⟩ _ (b - 1) (hnc b hb)]
      exact h1
    row := fun b hb => ownsRow_heap (h.row b hb) (fun g hg => Below.heap_setCell w ⟨lk, 0, none⟩ _ g (ownsRow_ne (h.row b hb) h.lock (by decide) hg))
    apart := h.apart }
theorem Fam.free {w : World} {n₀ lk : Nat} {S : List Nat} {N : Nat → Nd} {pg : Nat → Option Nat} (h : Fam w n₀ lk S N pg 0) : Free w lk := h.lock.free
theorem Fam.ne_lk {w : World} {n₀ lk : Nat} {S : List Nat} {N : Nat → Nd} {pg : Nat → Option Nat} {q : Int} (h : Fam w n₀ lk S N pg q) {b : Nat} (hb : b ∈ S) : b ≠ lk := fun e => (Blk.ne (h.stop b hb) (e ▸ h.lock) (by decide)) rfl

set_option maxRecDepth 100000 in
theorem callAll_nil (s : Nat) (why : Int) (w : World) :
    Calls Try.prog 34 #[ptrV s, .slice none 0 0, .int .i64 why] w fun e w' => e = .returned (.tuple #[]) ∧ w' = w := by
  go_enter Try.func34, Try.ntmps34
  go_wp2
  go_loopw [11] (fun i wr => i = .int .i64 0 ∧ wr = w) (fun _ _ => 0)
  case atStart => exact ⟨rfl, rfl⟩
  case round =>
    obtain ⟨rfl, rfl⟩ := hrel
    go_wp2
    go_end0
    exact ⟨rfl, rfl⟩

/-- What a call leaves of a family: its blocks at most are written, and new ones. -/
structure Turned (w w' : World) (lk : Nat) (S : List Nat) (N N' : Nat → Nd) : Prop where
  upd : Upd (Foot lk S N) w w'
  foot : ∀ k, Foot lk S N' k → Foot lk S N k ∨ w.heap.size ≤ k

set_option maxRecDepth 100000 in
set_option maxHeartbeats 400000 in
theorem cancel_over {w : World} {n₀ lk : Nat} {S : List Nat} {N : Nat → Nd} {pg : Nat → Option Nat} (h : Fam w n₀ lk S N pg 0) {s : Nat} (hs : s ∈ S) (hl : (N s).why ≠ 0) (why : Int) :
    Calls Try.prog 33 #[ptrV s, .int .i64 why] w fun e w' => e = .returned (.tuple #[.int .i64 (N s).why, .slice none 0 0]) ∧ w' = w := by
  have hf := h.free
  have c0 := (h.stop s hs).cell 0 rfl
  have h1 := h.setLock 1
  have d0 := (h1.stop s hs).cell 0 rfl
  have d6 := (h1.stop s hs).cell 6 rfl
  have hdc : decide ((N s).why ≠ 0) = true := by simp [hl]
  have hbk : (w.setCell ⟨lk, 0, none⟩ (.int .i32 1)).setCell ⟨lk, 0, none⟩ (.int .i32 0) = w := back_cell hf.1
  have hlk1 : (w.setCell ⟨lk, 0, none⟩ (.int .i32 1)).cell? ⟨lk, 0, none⟩ = some (.int .i32 1) := h1.lock.cell 0 rfl
  have hlf1 := h1.lock.frozen 0
  clear h h1
  go_enter_defers Try.func33, Try.ntmps33
  go_wp2_with (first | (go_at_call 36; refine (lock_free Try.muLib ⟨lk, 0, none⟩ _ hf.1 hf.2).mono ?_; rintro e w' ⟨rfl, rfl⟩) | (go_at_call 38; refine (over_any s (N s).why _ d6).mono ?_; rintro e w' ⟨rfl, hw⟩; obtain rfl := hw.symm; rw [hdc]))
  refine leaves_cons (f := 37) (args := #[.pointer (some ⟨lk, 0, none⟩)]) (by simp) (by simp [go_sem]) ?_
  refine (unlock_deferred Try.muLib ⟨lk, 0, none⟩ .returning _ hlk1 hlf1).mono ?_
  rintro e u' w'' ⟨rfl, rfl, rfl⟩
  exact ⟨_, results_tmp2 rfl _ _ _, rfl, hbk⟩

set_option maxRecDepth 100000 in
set_option maxHeartbeats 400000 in
theorem cancel_live {w : World} {n₀ lk : Nat} {S : List Nat} {N : Nat → Nd} {pg : Nat → Option Nat} (h : Fam w n₀ lk S N pg 0) {s : Nat} (hs : s ∈ S) (hl : (N s).why = 0) (why : Int) (hwhy : why ≠ 0) (hn : S.length * 8 ≤ 140737488355328) :
    Calls Try.prog 33 #[ptrV s, .int .i64 why] w fun e w' => e = .returned (.tuple #[.int .i64 why, .slice none 0 0]) ∧ ∃ N', Fam w' n₀ lk S N' pg 0 ∧ Fell S N N' pg s why ∧ Turned w w' lk S N N' := by
  have hf := h.free
  have c0 := (h.stop s hs).cell 0 rfl
  have h1 := h.setLock 1
  have d0 := (h1.stop s hs).cell 0 rfl
  have d6 := (h1.stop s hs).cell 6 rfl
  have hdc : decide ((N s).why ≠ 0) = false := by simp [hl]
  have HF := fall_any h1 hs hl why hwhy hn
  have HU1 : Upd (Foot lk S N) w (w.setCell ⟨lk, 0, none⟩ (.int .i32 1)) := (Upd.refl _ w).setCell (p := ⟨lk, 0, none⟩) (fun _ => Or.inl rfl) _
  have hs1 : (w.setCell ⟨lk, 0, none⟩ (.int .i32 1)).heap.size = w.heap.size := by simp
  clear h1
  go_enter_defers Try.func33, Try.ntmps33
  go_wp2_with (first | (go_at_call 36; refine (lock_free Try.muLib ⟨lk, 0, none⟩ _ hf.1 hf.2).mono ?_; rintro e w' ⟨rfl, rfl⟩) | (go_at_call 38; refine (over_any s (N s).why _ d6).mono ?_; rintro e w' ⟨rfl, hw⟩; obtain rfl := hw.symm; rw [hdc]) | (go_at_call 51; refine HF.mono ?_; rintro e w2 ⟨rfl, N', f1, f2, f3, f4⟩))
  refine leaves_cons (f := 37) (args := #[.pointer (some ⟨lk, 0, none⟩)]) (by simp) (by simp [go_sem]) ?_
  refine (unlock_deferred Try.muLib ⟨lk, 0, none⟩ .returning _ (f1.lock.cell 0 rfl) (f1.lock.frozen 0)).mono ?_
  rintro e u' w'' ⟨rfl, rfl, rfl⟩
  refine ⟨_, results_tmp2 rfl _ _ _, rfl, N', f1.setLock 0, f2, ⟨?_, fun k hk => ?_⟩⟩
  · exact (HU1.trans f3 (fun _ _ h => h)).setCell (p := ⟨lk, 0, none⟩) (fun _ => Or.inl rfl) _
  · rcases f4 k hk with h' | h'
    · exact Or.inl h'
    · exact Or.inr (by rw [hs1] at h'; exact h')

set_option maxRecDepth 100000 in
theorem Cancel_zero (s : Nat) (w : World) : Calls Try.prog 14 #[ptrV s, .int .i64 0] w fun e w' => e = .returned (.int .i64 1) ∧ w' = w := by
  go_enter Try.func14, Try.ntmps14
  go_wp2
  go_ret
  exact ⟨rfl, rfl⟩
set_option maxRecDepth 100000 in
theorem Cancel_over {w : World} {n₀ lk : Nat} {S : List Nat} {N : Nat → Nd} {pg : Nat → Option Nat} (h : Fam w n₀ lk S N pg 0) {s : Nat} (hs : s ∈ S) (hl : (N s).why ≠ 0) (why : Int) (hwhy : ¬ why = 0) :
    Calls Try.prog 14 #[ptrV s, .int .i64 why] w fun e w' => e = .returned (.int .i64 (N s).why) ∧ w' = w := by
  have HC := cancel_over h hs hl why
  clear h
  go_enter Try.func14, Try.ntmps14
  go_wp2_with (first | (go_at_call 33; refine HC.mono ?_; rintro e w' ⟨rfl, hw⟩; obtain rfl := hw.symm) | (go_at_call 34; refine (callAll_nil _ _ _).mono ?_; rintro e w' ⟨rfl, hw⟩; obtain rfl := hw.symm))
  go_ret
  exact ⟨rfl, rfl⟩
set_option maxRecDepth 100000 in
theorem Cancel_live {w : World} {n₀ lk : Nat} {S : List Nat} {N : Nat → Nd} {pg : Nat → Option Nat} (h : Fam w n₀ lk S N pg 0) {s : Nat} (hs : s ∈ S) (hl : (N s).why = 0) (why : Int) (hwhy : ¬ why = 0) (hn : S.length * 8 ≤ 140737488355328) :
    Calls Try.prog 14 #[ptrV s, .int .i64 why] w fun e w' => e = .returned (.int .i64 why) ∧ ∃ N', Fam w' n₀ lk S N' pg 0 ∧ Fell S N N' pg s why ∧ Turned w w' lk S N N' := by
  have HC := cancel_live h hs hl why hwhy hn
  clear h
  go_enter Try.func14, Try.ntmps14
  go_wp2_with (first | (go_at_call 33; refine HC.mono ?_; rintro e w2 ⟨rfl, hw2⟩) | (go_at_call 34; refine (callAll_nil _ _ _).mono ?_; rintro e w' ⟨rfl, hw⟩; obtain rfl := hw.symm))
  go_ret
  exact ⟨rfl, hw2⟩
end Go.Proofs.Ytmepapbbebddiaa
