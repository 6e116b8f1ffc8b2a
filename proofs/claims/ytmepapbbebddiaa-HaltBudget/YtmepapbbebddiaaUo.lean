/-
  halt: Under of one that is over; Under, Why, Left of a family.
-/
import Derived.Test.YtmepapbbebddiaaUn
namespace Go.Proofs.Ytmepapbbebddiaa
open Go Go.Conc Go.RowKit Go.MuLone

set_option maxRecDepth 100000 in
set_option maxHeartbeats 1000000 in
theorem Under_over {w : World} {n₀ lk : Nat} {S : List Nat} {N : Nat → Nd} {pg : Nat → Option Nat} (h : Fam w n₀ lk S N pg 0) {s : Nat} (hs : s ∈ S) (hl : (N s).why ≠ 0) (n : Int) (hn0 : ¬ n < 0) :
    Calls Try.prog 15 #[ptrV s, .int .i64 n] w fun e w' => e = .returned (.tuple #[ptrV (w.heap.size + 1), .int .i64 0]) ∧ ∃ N', Grown1 w w' n₀ lk S N N' pg s (budg n) := by
  have c0 := (h.stop s hs).cell 0 rfl
  have hsl := h.lt hs
  have hnew : newW w lk (budg n) = (w.alloc (.chan 0 #[] false 0 0 false)).alloc (.cells (cells9 lk (.pointer none) (.slice none 0 0) 0 (.slice none 0 0) 0 0 (budg n) w.heap.size) 85) := rfl
  have h1 : Fam (newW w lk (budg n)) n₀ lk S N pg 0 := by rw [hnew]; exact (h.alloc _).alloc _
  have bx : Blk (newW w lk (budg n)) (w.heap.size + 1) (cells9 lk (.pointer none) (.slice none 0 0) 0 (.slice none 0 0) 0 0 (budg n) w.heap.size) 85 := by
    rw [hnew]
    have := Blk.new (w.alloc (.chan 0 #[] false 0 0 false)) (cells9 lk (.pointer none) (.slice none 0 0) 0 (.slice none 0 0) 0 0 (budg n) w.heap.size) 85
    rwa [World.size_alloc] at this
  have cx : ChanAt (newW w lk (budg n)) w.heap.size false := by
    rw [hnew]
    unfold ChanAt
    rw [Below.heap_alloc _ _ _ (by simp)]
    exact heap_alloc_new w _
  have U1 : Upd (Foot lk S N) w (newW w lk (budg n)) := by rw [hnew]; exact ((Upd.refl _ w).alloc _).alloc _
  have z1 : (newW w lk (budg n)).heap.size = w.heap.size + 2 := by rw [hnew]; simp
  obtain ⟨W1, hW1⟩ : ∃ W1, newW w lk (budg n) = W1 := ⟨_, rfl⟩
  rw [hW1] at h1 bx cx U1 z1
  clear hnew
  have hf := h1.free
  have d0 : W1.cell? ⟨s, 0, none⟩ = some (.pointer (some ⟨lk, 0, none⟩)) := (h1.stop s hs).cell 0 rfl
  obtain ⟨W2, hW2⟩ : ∃ W2, W1.setCell ⟨lk, 0, none⟩ (.int .i32 1) = W2 := ⟨_, rfl⟩
  have h2 : Fam W2 n₀ lk S N pg 1 := by rw [← hW2]; exact h1.setLock 1
  have hxlk : w.heap.size + 1 ≠ lk := fun e => by have := h.lock.lt; omega
  have bx2 : Blk W2 (w.heap.size + 1) (cells9 lk (.pointer none) (.slice none 0 0) 0 (.slice none 0 0) 0 0 (budg n) w.heap.size) 85 := by rw [← hW2]; exact bx.other _ _ hxlk
  have cx2 : ChanAt W2 w.heap.size false := by rw [← hW2]; exact cx.set h1.lock _
  have U2 : Upd (Foot lk S N) w W2 := by rw [← hW2]; exact U1.setCell (p := ⟨lk, 0, none⟩) (fun _ => Or.inl rfl) _
  have z2 : W2.heap.size = w.heap.size + 2 := by rw [← hW2]; simpa using z1
  have e0 : W2.cell? ⟨s, 0, none⟩ = some (.pointer (some ⟨lk, 0, none⟩)) := (h2.stop s hs).cell 0 rfl
  have e6 := (h2.stop s hs).cell 6 rfl
  have hdc : decide ((N s).why ≠ 0) = true := by simp [hl]
  have g6 : W2.cell? ⟨s, 6, none⟩ = some (.int .i64 (N s).why) := e6
  have HE := end_any (w.heap.size + 1) lk (.pointer none) (.slice none 0 0) (.slice none 0 0) 0 0 0 (budg n) (N s).why w.heap.size W2 bx2 cx2
  go_enter_defers Try.func15, Try.ntmps15
  go_wp2_with (first
    | (go_at_call 35; refine (newStop_any lk n w).mono ?_; rintro e w' ⟨rfl, hw⟩; obtain rfl := hw.symm)
    | (go_at_call 36; refine (lock_free Try.muLib ⟨lk, 0, none⟩ _ hf.1 hf.2).mono ?_; rintro e w' ⟨rfl, hw⟩; obtain rfl := hw.symm)
    | (go_at_call 38; refine (over_any s (N s).why _ e6).mono ?_; rintro e w' ⟨rfl, hw⟩; obtain rfl := hw.symm; rw [hdc])
    | (go_at_call 39; refine HE.mono ?_; rintro e W4 ⟨rfl, a1, a2, a3, a4, a5, a6, a7⟩))
  have hxS : w.heap.size + 1 ∉ S := fun hc => by have := h.lt hc; omega
  have hneS : ∀ b ∈ S, b ≠ w.heap.size + 1 := fun b hb e => hxS (e ▸ hb)
  obtain ⟨N', hN'⟩ : ∃ N' : Nat → Nd, N' = fun y => if y = w.heap.size + 1 then ndNew none (N s).why (budg n) else N y := ⟨_, rfl⟩
  have nX : N' (w.heap.size + 1) = ndNew none (N s).why (budg n) := by rw [hN']; simp
  have nO : ∀ b, b ≠ w.heap.size + 1 → N' b = N b := fun b h1 => by rw [hN']; simp [h1]
  have U4 : Upd (fun k => k = w.heap.size + 1 ∨ k = w.heap.size) W2 W4 := ⟨a5, a6, a7, by omega, fun k _ hk => a4 k (fun e => hk (Or.inl e)) (fun e => hk (Or.inr e))⟩
  have h4 : Fam W4 n₀ lk S N pg 1 := h2.upd U4 (fun k hk e => by have := (Foot.range h hk).2; omega)
  have f4 : Fam W4 n₀ lk (S ++ [w.heap.size + 1]) N' (pgX pg (w.heap.size + 1) s) 1 := by
    refine ⟨h.kin.growOver hxS (by omega) (by have := h.base; omega) (N s).why (budg n) hl nX nO, h4.lock, h.lkb, h4.base, ?_, ?_, ?_, ?_⟩
    · intro b hb
      rcases List.mem_append.1 hb with hb | hb
      · rw [nO b (hneS b hb)]; exact h4.stop b hb
      · simp at hb; subst hb
        rw [nX]
        have e : Nd.cells (ndNew none (N s).why (budg n)) lk (w.heap.size + 1) = cells9 lk (.pointer none) (.slice none 0 0) 0 (.slice none 0 0) 0 (N s).why (budg n) w.heap.size := by
          simp [ndNew, Nd.cells, ptrO]
        rw [e]
        exact a1
    · intro b hb
      rcases List.mem_append.1 hb with hb | hb
      · rw [nO b (hneS b hb)]; exact h4.chan b hb
      · simp at hb; subst hb
        rw [nX]
        simpa [ndNew, hl] using a2
    · intro b hb
      rcases List.mem_append.1 hb with hb | hb
      · rw [nO b (hneS b hb)]; exact h4.row b hb
      · simp at hb; subst hb
        rw [nX]; exact World.ownsRow_nil _ _ _ _
    · have old : ∀ b ∈ S ++ [w.heap.size + 1], ∀ g, (N' b).us.ownBlock = some g → b ∈ S ∧ (N b).us.ownBlock = some g := fun b hb g hg => by
        rcases List.mem_append.1 hb with hb | hb
        · rw [nO b (hneS b hb)] at hg; exact ⟨hb, hg⟩
        · simp at hb; subst hb
          rw [nX] at hg; simp [ndNew, Value.ownBlock] at hg
      intro b hb b' hb' hne g hg hg'
      obtain ⟨o1, o2⟩ := old b hb g hg
      obtain ⟨o3, o4⟩ := old b' hb' g hg'
      exact h.apart b o1 b' o3 hne g o2 o4
  have q0 := f4.lock.cell 0 (v := .int .i32 1) rfl
  have q1 := f4.lock.frozen 0
  refine leaves_cons (f := 37) (args := #[.pointer (some ⟨lk, 0, none⟩)]) (by simp) (by simp [go_sem]) ?_
  refine (unlock_deferred Try.muLib ⟨lk, 0, none⟩ .returning _ q0 q1).mono ?_
  rintro e u' w'' ⟨rfl, rfl, rfl⟩
  refine ⟨_, results_tmp2 rfl _ _ _, rfl, N', ⟨f4.setLock 0, ?_, ?_, ?_, ?_, ?_, ?_⟩⟩
  · rw [nX]; rfl
  · rw [nX]; rfl
  · intro b hb
    rw [nO b (hneS b hb)]; exact ⟨rfl, rfl⟩
  · intro b hb _
    rw [nO b (hneS b hb)]
  · have t4 : Upd (Foot lk S N) w W4 := U2.trans U4 (fun i hi e => by omega)
    exact t4.setCell (p := ⟨lk, 0, none⟩) (fun _ => Or.inl rfl) _
  · intro k hk
    rcases hk with hk | hk | hk | ⟨b, hb, hg⟩
    · exact Or.inl (Or.inl hk)
    · rcases List.mem_append.1 hk with hk | hk
      · exact Or.inl (Or.inr (Or.inl hk))
      · simp at hk; exact Or.inr (by omega)
    · rcases List.mem_append.1 hk with hk | hk
      · exact Or.inl (Or.inr (Or.inr (Or.inl hk)))
      · simp at hk; exact Or.inr (by omega)
    · rcases List.mem_append.1 hb with hb | hb
      · rw [nO b (hneS b hb)] at hg
        exact Or.inl (Or.inr (Or.inr (Or.inr ⟨b, hb, hg⟩)))
      · simp at hb; subst hb
        rw [nX] at hg; simp [ndNew, Value.ownBlock] at hg

/-- Under, either way. -/
theorem Under_kids {w : World} {n₀ lk : Nat} {S : List Nat} {N : Nat → Nd} {pg : Nat → Option Nat} (h : Fam w n₀ lk S N pg 0) {s : Nat} (hs : s ∈ S) (n : Int) (hn0 : ¬ n < 0) (hkl : ((N s).kids.length + 1) * 8 ≤ 140737488355328) :
    Calls Try.prog 15 #[ptrV s, .int .i64 n] w fun e w' => e = .returned (.tuple #[ptrV (w.heap.size + 1), .int .i64 0]) ∧ ∃ N', Grown1 w w' n₀ lk S N N' pg s (budg n) := by
  by_cases hl : (N s).why = 0
  · exact Under_live h hs hl n hn0 hkl
  · exact Under_over h hs hl n hn0
theorem Under_any {w : World} {n₀ lk : Nat} {S : List Nat} {N : Nat → Nd} {pg : Nat → Option Nat} (h : Fam w n₀ lk S N pg 0) {s : Nat} (hs : s ∈ S) (n : Int) (hn0 : ¬ n < 0) (hn : S.length * 8 ≤ 140737488355328) :
    Calls Try.prog 15 #[ptrV s, .int .i64 n] w fun e w' => e = .returned (.tuple #[ptrV (w.heap.size + 1), .int .i64 0]) ∧ ∃ N', Grown1 w w' n₀ lk S N N' pg s (budg n) :=
  Under_kids h hs n hn0 (by have := h.kin.kidsLen hs; omega)
/-- Why, Left, of a family. -/
theorem Fam.Why {w : World} {n₀ lk : Nat} {S : List Nat} {N : Nat → Nd} {pg : Nat → Option Nat} (h : Fam w n₀ lk S N pg 0) {s : Nat} (hs : s ∈ S) :
    Calls Try.prog 16 #[ptrV s] w fun e w' => e = .returned (.int .i64 (N s).why) ∧ w' = w :=
  why_any s lk (N s).why w ((h.stop s hs).cell 0 rfl) ((h.stop s hs).cell 6 rfl) (h.ne_lk hs) h.free
theorem Fam.Left {w : World} {n₀ lk : Nat} {S : List Nat} {N : Nat → Nd} {pg : Nat → Option Nat} (h : Fam w n₀ lk S N pg 0) {s : Nat} (hs : s ∈ S) :
    Calls Try.prog 17 #[ptrV s] w fun e w' => e = .returned (.int .i64 (N s).left) ∧ w' = w :=
  left_any s lk (N s).left w ((h.stop s hs).cell 0 rfl) ((h.stop s hs).cell 7 rfl) (h.ne_lk hs) h.free
end Go.Proofs.Ytmepapbbebddiaa
