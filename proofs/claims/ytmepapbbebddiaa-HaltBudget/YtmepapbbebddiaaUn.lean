/-
  halt: New and Under, of a family.
-/
import Derived.Test.YtmepapbbebddiaaSd
namespace Go.Proofs.Ytmepapbbebddiaa
open Go Go.Conc Go.RowKit Go.MuLone

/-- One more, under s. -/
def pgX (pg : Nat → Option Nat) (x s : Nat) (y : Nat) : Option Nat := if y = x then some s else pg y
/-- A new stop. -/
def ndNew (up : Option Nat) (why left : Int) : Nd := { up := up, us := .slice none 0 0, kids := [], ug := 0, why := why, left := left }

theorem Kin.grow {n₀ : Nat} {S : List Nat} {N : Nat → Nd} {pg : Nat → Option Nat} (h : Kin n₀ S N pg) {s x : Nat} (hs : s ∈ S) (hx : x ∉ S) (hsx : s < x) (hx0 : n₀ + 1 ≤ x) (left : Int) {us : Value} {N' : Nat → Nd} (hlive : (N s).why = 0)
    (nX : N' x = ndNew (some s) 0 left) (nS : N' s = { N s with us := us, kids := (N s).kids ++ [x] }) (nO : ∀ b, b ≠ x → b ≠ s → N' b = N b) : Kin n₀ (S ++ [x]) N' (pgX pg x s) := by
  have hne : ∀ b ∈ S, b ≠ x := fun b hb e => hx (e ▸ hb)
  have hw : ∀ b ∈ S, (N' b).why = (N b).why := fun b hb => by
    by_cases hbs : b = s
    · subst hbs; rw [nS]
    · rw [nO b (hne b hb) hbs]
  have hw' : ∀ b ∈ S, (N' b).up = (N b).up ∧ (N' b).ug = (N b).ug ∧ ∀ k ∈ (N b).kids, k ∈ (N' b).kids := fun b hb => by
    by_cases hbs : b = s
    · subst hbs; rw [nS]; exact ⟨rfl, rfl, fun k hk => List.mem_append_left _ hk⟩
    · rw [nO b (hne b hb) hbs]; exact ⟨rfl, rfl, fun k hk => hk⟩
  constructor
  · rw [List.nodup_append]
    exact ⟨h.nodup, by simp, fun a ha b hb e => by simp at hb; subst hb; subst e; exact hx ha⟩
  · intro b hb
    rcases List.mem_append.1 hb with hb | hb
    · exact h.low b hb
    · simp at hb; subst hb; exact hx0
  · intro b hb hbw
    rcases List.mem_append.1 hb with hb | hb
    · by_cases hbs : b = s
      · subst hbs; rw [hw b hb] at hbw; exact absurd hlive hbw
      · rw [nO b (hne b hb) hbs] at hbw ⊢
        exact h.over b hb hbw
    · simp at hb; subst hb; rw [nX] at hbw; exact absurd rfl hbw
  · intro b hb
    rcases List.mem_append.1 hb with hb | hb
    · have hcnt : ((N b).kids.filter (fun k => decide ((N' k).why ≠ 0))) = ((N b).kids.filter (fun k => decide ((N k).why ≠ 0))) := List.filter_congr fun k hk => by rw [hw k (h.kid b hb k hk).1]
      by_cases hbs : b = s
      · subst hbs
        rw [nS]
        simp only [List.filter_append, List.length_append]
        rw [hcnt, ← h.gone b hb]
        simp [nX, ndNew]
      · rw [nO b (hne b hb) hbs, hcnt]
        exact h.gone b hb
    · simp at hb; subst hb; rw [nX]; rfl
  · intro b hb k hk
    rcases List.mem_append.1 hb with hb | hb
    · have old : ∀ k ∈ (N b).kids, k ∈ S ++ [x] ∧ b < k ∧ pgX pg x s k = some b := fun k hk => by
        obtain ⟨h1, h2, h3⟩ := h.kid b hb k hk
        exact ⟨List.mem_append_left _ h1, h2, by unfold pgX; rw [if_neg (hne k h1)]; exact h3⟩
      by_cases hbs : b = s
      · subst hbs
        rw [nS] at hk
        rcases List.mem_append.1 hk with hk | hk
        · exact old k hk
        · simp at hk; subst hk
          exact ⟨by simp, hsx, by simp [pgX]⟩
      · rw [nO b (hne b hb) hbs] at hk
        exact old k hk
    · simp at hb; subst hb; rw [nX] at hk; cases hk
  · intro b hb
    rcases List.mem_append.1 hb with hb | hb
    · by_cases hbs : b = s
      · subst hbs
        have hk1 : ∀ a ∈ (N b).kids, a ≠ x := fun a ha => hne a (h.kid b hb a ha).1
        rw [nS, List.nodup_append]
        exact ⟨h.kidn b hb, by simp, fun a ha c hc e => by simp at hc; exact hk1 a ha (e.trans hc)⟩
      · rw [nO b (hne b hb) hbs]; exact h.kidn b hb
    · simp at hb; subst hb; rw [nX]; exact List.nodup_nil
  · intro y hy hy0
    rcases List.mem_append.1 hy with hy | hy
    · rw [hw y hy] at hy0
      obtain ⟨u1, u2⟩ := h.up y hy hy0
      refine ⟨?_, fun p hp => ?_⟩
      · rw [(hw' y hy).1, u1]; unfold pgX; rw [if_neg (hne y hy)]
      · unfold pgX at hp; rw [if_neg (hne y hy)] at hp
        obtain ⟨p1, p2, p3⟩ := u2 p hp
        exact ⟨List.mem_append_left _ p1, by rw [hw p p1]; exact p2, (hw' p p1).2.2 y p3⟩
    · simp at hy; subst hy
      refine ⟨by rw [nX]; simp [pgX, ndNew], fun p hp => ?_⟩
      simp [pgX] at hp; subst hp
      exact ⟨List.mem_append_left _ hs, by rw [hw s hs]; exact hlive, by rw [nS]; simp⟩
  · intro y p hp
    unfold pgX at hp
    split at hp
    · injection hp with e; omega
    · exact h.pgl y p hp
  · intro y p hp
    unfold pgX at hp
    split at hp
    · rename_i e; subst e; simp
    · exact List.mem_append_left _ (h.pgS y p hp)

theorem Kin.growOver {n₀ : Nat} {S : List Nat} {N : Nat → Nd} {pg : Nat → Option Nat} (h : Kin n₀ S N pg) {s x : Nat} (hx : x ∉ S) (hsx : s < x) (hx0 : n₀ + 1 ≤ x) (why left : Int) {N' : Nat → Nd} (hwhy : why ≠ 0)
    (nX : N' x = ndNew none why left) (nO : ∀ b, b ≠ x → N' b = N b) : Kin n₀ (S ++ [x]) N' (pgX pg x s) := by
  have hne : ∀ b ∈ S, b ≠ x := fun b hb e => hx (e ▸ hb)
  have nS : ∀ b ∈ S, N' b = N b := fun b hb => nO b (hne b hb)
  constructor
  · rw [List.nodup_append]
    exact ⟨h.nodup, by simp, fun a ha b hb e => by simp at hb; subst hb; subst e; exact hx ha⟩
  · intro b hb
    rcases List.mem_append.1 hb with hb | hb
    · exact h.low b hb
    · simp at hb; subst hb; exact hx0
  · intro b hb hbw
    rcases List.mem_append.1 hb with hb | hb
    · rw [nS b hb] at hbw ⊢; exact h.over b hb hbw
    · simp at hb; subst hb; rw [nX]; exact ⟨rfl, rfl, rfl, rfl⟩
  · intro b hb
    rcases List.mem_append.1 hb with hb | hb
    · rw [nS b hb, h.gone b hb]
      congr 1
      exact List.filter_congr fun k hk => by rw [nS k (h.kid b hb k hk).1]
    · simp at hb; subst hb; rw [nX]; rfl
  · intro b hb k hk
    rcases List.mem_append.1 hb with hb | hb
    · rw [nS b hb] at hk
      obtain ⟨h1, h2, h3⟩ := h.kid b hb k hk
      exact ⟨List.mem_append_left _ h1, h2, by unfold pgX; rw [if_neg (hne k h1)]; exact h3⟩
    · simp at hb; subst hb; rw [nX] at hk; cases hk
  · intro b hb
    rcases List.mem_append.1 hb with hb | hb
    · rw [nS b hb]; exact h.kidn b hb
    · simp at hb; subst hb; rw [nX]; exact List.nodup_nil
  · intro y hy hy0
    rcases List.mem_append.1 hy with hy | hy
    · rw [nS y hy] at hy0 ⊢
      obtain ⟨u1, u2⟩ := h.up y hy hy0
      refine ⟨?_, fun p hp => ?_⟩
      · rw [u1]; unfold pgX; rw [if_neg (hne y hy)]
      · unfold pgX at hp; rw [if_neg (hne y hy)] at hp
        obtain ⟨p1, p2, p3⟩ := u2 p hp
        exact ⟨List.mem_append_left _ p1, by rw [nS p p1]; exact p2, by rw [nS p p1]; exact p3⟩
    · simp at hy; subst hy; rw [nX] at hy0; exact absurd hy0 hwhy
  · intro y p hp
    unfold pgX at hp
    split at hp
    · injection hp with e; omega
    · exact h.pgl y p hp
  · intro y p hp
    unfold pgX at hp
    split at hp
    · rename_i e; subst e; simp
    · exact List.mem_append_left _ (h.pgS y p hp)

/-- A family of one. -/
theorem Fam.one (w : World) (n : Int) : Fam (newL w n) w.heap.size w.heap.size [w.heap.size + 2] (fun _ => ndNew none 0 n) (fun _ => none) 0 := by
  have hb : newL w n = ((w.alloc (.cells #[.int .i32 0, .int .u32 0] 94)).alloc (.chan 0 #[] false 0 0 false)).alloc (.cells (cells9 w.heap.size (.pointer none) (.slice none 0 0) 0 (.slice none 0 0) 0 0 n (w.heap.size + 1)) 85) := by
    simp [newL, newW]
  rw [hb]
  have b1 := Blk.new w #[.int .i32 0, .int .u32 0] 94
  have c1 := heap_alloc_new (w.alloc (.cells #[.int .i32 0, .int .u32 0] 94)) (.chan 0 #[] false 0 0 false)
  have b2 := Blk.new ((w.alloc (.cells #[.int .i32 0, .int .u32 0] 94)).alloc (.chan 0 #[] false 0 0 false)) (cells9 w.heap.size (.pointer none) (.slice none 0 0) 0 (.slice none 0 0) 0 0 n (w.heap.size + 1)) 85
  rw [World.size_alloc] at c1
  rw [World.size_alloc, World.size_alloc] at b2
  refine ⟨⟨by simp, ?_, ?_, ?_, ?_, ?_, ?_, ?_, ?_⟩, (b1.alloc _).alloc _, Nat.le_refl _, by simp; omega, ?_, ?_, ?_, ?_⟩
  · intro b hb; simp at hb; subst hb; omega
  · intro b _ h; exact absurd rfl h
  · intro b _; rfl
  · intro b _ k hk; cases hk
  · intro b _; exact List.nodup_nil
  · intro x _ _; exact ⟨rfl, fun p hp => by cases hp⟩
  · intro x p hp; cases hp
  · intro x p hp; cases hp
  · intro b hb; simp at hb; subst hb; exact b2
  · intro b hb; simp at hb; subst hb
    unfold ChanAt
    rw [show w.heap.size + 2 - 1 = w.heap.size + 1 by omega, Below.heap_alloc _ _ _ (by simp)]
    exact c1
  · intro b _; exact World.ownsRow_nil _ _ _ _
  · intro b hb b' hb' hne
    simp at hb hb'
    omega

theorem Kin.kidsLen {n₀ : Nat} {S : List Nat} {N : Nat → Nd} {pg : Nat → Option Nat} (h : Kin n₀ S N pg) {s : Nat} (hs : s ∈ S) : (N s).kids.length + 1 ≤ S.length := by
  have hsk : s ∉ (N s).kids := fun hc => by have := (h.kid s hs s hc).2.1; omega
  have := nodup_le (l := s :: (N s).kids) (List.nodup_cons.2 ⟨hsk, h.kidn s hs⟩) (S := S) (fun x hx => by
    rcases List.mem_cons.1 hx with rfl | hx
    · exact hs
    · exact (h.kid s hs x hx).1)
  simpa using this
/-- What one more leaves. -/
structure Grown1 (w w' : World) (n₀ lk : Nat) (S : List Nat) (N N' : Nat → Nd) (pg : Nat → Option Nat) (s : Nat) (left : Int) : Prop where
  fam : Fam w' n₀ lk (S ++ [w.heap.size + 1]) N' (pgX pg (w.heap.size + 1) s) 0
  why : (N' (w.heap.size + 1)).why = (N s).why
  left : (N' (w.heap.size + 1)).left = left
  old : ∀ b ∈ S, (N' b).why = (N b).why ∧ (N' b).left = (N b).left
  kids : ∀ b ∈ S, b ≠ s → (N' b).kids = (N b).kids
  upd : Upd (Foot lk S N) w w'
  foot : ∀ k, Foot lk (S ++ [w.heap.size + 1]) N' k → Foot lk S N k ∨ w.heap.size ≤ k

set_option maxRecDepth 100000 in
theorem Under_neg (s : Nat) (n : Int) (hn : n < 0) (w : World) : Calls Try.prog 15 #[ptrV s, .int .i64 n] w fun e w' => e = .returned (.tuple #[.pointer none, .int .i64 1]) ∧ w' = w := by
  go_enter_defers Try.func15, Try.ntmps15
  go_wp2
  exact ⟨_, results_tmp2 rfl _ _ _, rfl, rfl⟩
set_option maxRecDepth 100000 in
set_option maxHeartbeats 1000000 in
theorem Under_live {w : World} {n₀ lk : Nat} {S : List Nat} {N : Nat → Nd} {pg : Nat → Option Nat} (h : Fam w n₀ lk S N pg 0) {s : Nat} (hs : s ∈ S) (hl : (N s).why = 0) (n : Int) (hn0 : ¬ n < 0) (hkl : ((N s).kids.length + 1) * 8 ≤ 140737488355328) :
    Calls Try.prog 15 #[ptrV s, .int .i64 n] w fun e w' => e = .returned (.tuple #[ptrV (w.heap.size + 1), .int .i64 0]) ∧ ∃ N', Grown1 w w' n₀ lk S N N' pg s (budg n) := by
  have c0 := (h.stop s hs).cell 0 rfl
  have hsl := h.lt hs
  have hnew : newW w lk (budg n) = (w.alloc (.chan 0 #[] false 0 0 false)).alloc (.cells (cells9 lk (.pointer none) (.slice none 0 0) 0 (.slice none 0 0) 0 0 (budg n) w.heap.size) 85) := rfl
  have h1 : Fam (newW w lk (budg n)) n₀ lk S N pg 0 := by rw [hnew]; exact (h.alloc _).alloc _
  have bx : Blk (newW w lk (budg n)) (w.heap.size + 1) (cells9 lk (.pointer none) (.slice none 0 0) 0 (.slice none 0 0) 0 0 (budg n) w.heap.size) 85 := by
    rw [hnew]
    have := Blk.new (w.alloc (.chan 0 #[] false 0 0 false)) (cells9 lk (.pointer none) (.slice none 0 0) 0 (.slice none 0 0) 0 0 (budg n) w.heap.size) 85
    rwa [World.size_alloc] at this
  have cx : ChanAt (newW w lk (budg n)) w.heap.size false := by
    rw [hnew]
    unfold ChanAt
    rw [Below.heap_alloc _ _ _ (by simp)]
    exact heap_alloc_new w _
  have U1 : Upd (Foot lk S N) w (newW w lk (budg n)) := by rw [hnew]; exact ((Upd.refl _ w).alloc _).alloc _
  have z1 : (newW w lk (budg n)).heap.size = w.heap.size + 2 := by rw [hnew]; simp
  obtain ⟨W1, hW1⟩ : ∃ W1, newW w lk (budg n) = W1 := ⟨_, rfl⟩
  rw [hW1] at h1 bx cx U1 z1
  clear hnew
  have hf := h1.free
  have d0 : W1.cell? ⟨s, 0, none⟩ = some (.pointer (some ⟨lk, 0, none⟩)) := (h1.stop s hs).cell 0 rfl
  obtain ⟨W2, hW2⟩ : ∃ W2, W1.setCell ⟨lk, 0, none⟩ (.int .i32 1) = W2 := ⟨_, rfl⟩
  have h2 : Fam W2 n₀ lk S N pg 1 := by rw [← hW2]; exact h1.setLock 1
  have hxlk : w.heap.size + 1 ≠ lk := fun e => by have := h.lock.lt; omega
  have bx2 : Blk W2 (w.heap.size + 1) (cells9 lk (.pointer none) (.slice none 0 0) 0 (.slice none 0 0) 0 0 (budg n) w.heap.size) 85 := by rw [← hW2]; exact bx.other _ _ hxlk
  have cx2 : ChanAt W2 w.heap.size false := by rw [← hW2]; exact cx.set h1.lock _
  have U2 : Upd (Foot lk S N) w W2 := by rw [← hW2]; exact U1.setCell (p := ⟨lk, 0, none⟩) (fun _ => Or.inl rfl) _
  have z2 : W2.heap.size = w.heap.size + 2 := by rw [← hW2]; simpa using z1
  have e0 : W2.cell? ⟨s, 0, none⟩ = some (.pointer (some ⟨lk, 0, none⟩)) := (h2.stop s hs).cell 0 rfl
  have e6 := (h2.stop s hs).cell 6 rfl
  have hdc : decide ((N s).why ≠ 0) = false := by simp [hl]
  have x1 := bx2.cell 1 rfl
  have xf := bx2.frozen 1
  obtain ⟨W3, hW3⟩ : ∃ W3, W2.setCell ⟨w.heap.size + 1, 1, none⟩ (ptrV s) = W3 := ⟨_, rfl⟩
  have hsx : s ≠ w.heap.size + 1 := by omega
  have U3 : Upd (fun k => k = w.heap.size + 1) W2 W3 := by rw [← hW3]; exact (Upd.refl (fun k => k = w.heap.size + 1) W2).setCell (p := ⟨w.heap.size + 1, 1, none⟩) (fun _ => rfl) _
  have h3 : Fam W3 n₀ lk S N pg 1 := h2.upd U3 (fun k hk e => by have := (Foot.range h hk).2; omega)
  have bx3 : Blk W3 (w.heap.size + 1) (cells9 lk (ptrV s) (.slice none 0 0) 0 (.slice none 0 0) 0 0 (budg n) w.heap.size) 85 := by
    rw [← hW3]
    have := bx2.set 1 (ptrV s)
    rw [c9_1] at this
    exact this
  have z3 := U3.size
  have HA := add_any n₀ s 2 ((N s).cells lk s) 85 (N s).us (N s).kids.length (w.heap.size + 1) ((N s).kids.map ptrV) W3 (h3.stop s hs) (by decide) rfl (h3.row s hs) hkl (by have := h.base; omega)
  go_enter_defers Try.func15, Try.ntmps15
  go_wp2_with (first
    | (go_at_call 35; refine (newStop_any lk n w).mono ?_; rintro e w' ⟨rfl, hw⟩; obtain rfl := hw.symm)
    | (go_at_call 36; refine (lock_free Try.muLib ⟨lk, 0, none⟩ _ hf.1 hf.2).mono ?_; rintro e w' ⟨rfl, hw⟩; obtain rfl := hw.symm)
    | (go_at_call 38; refine (over_any s (N s).why _ e6).mono ?_; rintro e w' ⟨rfl, hw⟩; obtain rfl := hw.symm; rw [hdc])
    | (go_at_call 40; refine HA.mono ?_; rintro e W4 ⟨rfl, v4, a1, a2, a3, a4⟩))
  have z4 := a3.size
  -- the row's new place
  have hus : ∀ g, v4.ownBlock = some g → (N s).us.ownBlock = some g ∨ w.heap.size + 2 ≤ g := fun g hg => by
    rcases a4 with m | ⟨q, m, hq⟩
    · exact Or.inl (m.symm.trans hg)
    · rw [m] at hg
      injection hg with e
      exact Or.inr (by omega)
  have hrowlt : ∀ b ∈ S, ∀ g, (N b).us.ownBlock = some g → g < w.heap.size := fun b hb g hg => (ownsRow_base (h.row b hb) hg).2.1
  obtain ⟨N', hN'⟩ : ∃ N' : Nat → Nd, N' = fun y => if y = w.heap.size + 1 then ndNew (some s) 0 (budg n) else if y = s then { N s with us := v4, kids := (N s).kids ++ [w.heap.size + 1] } else N y := ⟨_, rfl⟩
  have nX : N' (w.heap.size + 1) = ndNew (some s) 0 (budg n) := by rw [hN']; simp
  have nS : N' s = { N s with us := v4, kids := (N s).kids ++ [w.heap.size + 1] } := by rw [hN']; simp [hsx]
  have nO : ∀ b, b ≠ w.heap.size + 1 → b ≠ s → N' b = N b := fun b h1 h2 => by rw [hN']; simp [h1, h2]
  have hxS : w.heap.size + 1 ∉ S := fun hc => by have := h.lt hc; omega
  have hneS : ∀ b ∈ S, b ≠ w.heap.size + 1 := fun b hb e => hxS (e ▸ hb)
  -- blocks that the append did not touch
  have keep : ∀ j, j < W3.heap.size → j ≠ s → (N s).us.ownBlock ≠ some j → W4.heap[j]? = W3.heap[j]? := fun j hj h1 h2 => a3.block j hj (fun hc => by
    rcases hc with hc | hc
    · exact h1 hc
    · exact h2 hc)
  have hz3 : W3.heap.size = w.heap.size + 2 := by rw [← hW3]; simpa using z2
  have rowNot : ∀ b ∈ S, ∀ {k : Nat} {c : Array Value} {T : TypeId}, Blk W3 k c T → T ≠ 46 → (N b).us.ownBlock ≠ some k := fun b hb k c T hk hT e => ownsRow_ne (h3.row b hb) hk hT e rfl
  have rowNotC : ∀ b ∈ S, ∀ {k : Nat} {t : Bool}, ChanAt W3 k t → (N b).us.ownBlock ≠ some k := fun b hb k t hk e => by
    obtain ⟨_, _, c, r3⟩ := ownsRow_base (h3.row b hb) e
    unfold Blk at r3; unfold ChanAt at hk
    rw [hk] at r3
    cases r3
  have cx3 : ChanAt W3 w.heap.size false := by rw [← hW3]; exact cx2.set bx2 _
  have f4 : Fam W4 n₀ lk (S ++ [w.heap.size + 1]) N' (pgX pg (w.heap.size + 1) s) 1 := by
    refine ⟨h.kin.grow hs hxS (by omega) (by have := h.base; omega) (budg n) hl nX nS nO, ?_, h.lkb, by have := h.base; omega, ?_, ?_, ?_, ?_⟩
    · exact h3.lock.upd (keep lk h3.lock.lt (fun e => h3.ne_lk hs e.symm) (rowNot s hs h3.lock (by decide)))
    · intro b hb
      rcases List.mem_append.1 hb with hb | hb
      · by_cases hbs : b = s
        · subst hbs
          rw [nS]
          have e : ((N b).cells lk b).setIfInBounds 2 v4 = Nd.cells { N b with us := v4, kids := (N b).kids ++ [w.heap.size + 1] } lk b := c9_2 _ _ _ _ _ _ _ _ _ _
          rw [← e]; exact a1
        · rw [nO b (hneS b hb) hbs]
          exact (h3.stop b hb).upd (keep b (h3.lt hb) hbs (rowNot s hs (h3.stop b hb) (by decide)))
      · simp at hb; subst hb
        rw [nX]
        have e : Nd.cells (ndNew (some s) 0 (budg n)) lk (w.heap.size + 1) = cells9 lk (ptrV s) (.slice none 0 0) 0 (.slice none 0 0) 0 0 (budg n) w.heap.size := by
          simp [ndNew, Nd.cells, ptrO]
        rw [e]
        exact bx3.upd (keep _ bx3.lt (fun e => hsx e.symm) (rowNot s hs bx3 (by decide)))
    · intro b hb
      have hch : ∀ {k : Nat} {t : Bool}, ChanAt W3 k t → ChanAt W4 k t := fun {k t} hk => by
        have hk' := hk
        unfold ChanAt at hk' ⊢
        rw [keep k (Array.getElem?_eq_some_iff.1 hk').1 (fun e => by
          have := h3.stop s hs
          unfold Blk at this
          rw [e, this] at hk'
          cases hk') (rowNotC s hs hk)]
        exact hk'
      rcases List.mem_append.1 hb with hb | hb
      · have : (N' b).why = (N b).why := by
          by_cases hbs : b = s
          · subst hbs; rw [nS]
          · rw [nO b (hneS b hb) hbs]
        rw [this]
        exact hch (h3.chan b hb)
      · simp at hb; subst hb
        rw [nX]
        simpa [ndNew] using hch cx3
    · intro b hb
      rcases List.mem_append.1 hb with hb | hb
      · by_cases hbs : b = s
        · subst hbs
          rw [nS]
          simpa using a2
        · rw [nO b (hneS b hb) hbs]
          refine ownsRow_heap (h3.row b hb) (fun g hg => keep g (ownsRow_base (h3.row b hb) hg).2.1 (ownsRow_ne (h3.row b hb) (h3.stop s hs) (by decide) hg) (fun e => h.apart b hb s hs hbs g hg e))
      · simp at hb; subst hb
        rw [nX]; exact World.ownsRow_nil _ _ _ _
    · have old : ∀ b ∈ S ++ [w.heap.size + 1], ∀ g, (N' b).us.ownBlock = some g → (b ∈ S ∧ (N b).us.ownBlock = some g) ∨ (b = s ∧ w.heap.size + 2 ≤ g) := fun b hb g hg => by
        rcases List.mem_append.1 hb with hb | hb
        · by_cases hbs : b = s
          · subst hbs
            rw [nS] at hg
            rcases hus g hg with h' | h'
            · exact Or.inl ⟨hb, h'⟩
            · exact Or.inr ⟨rfl, h'⟩
          · rw [nO b (hneS b hb) hbs] at hg
            exact Or.inl ⟨hb, hg⟩
        · simp at hb; subst hb
          rw [nX] at hg; simp [ndNew, Value.ownBlock] at hg
      intro b hb b' hb' hne g hg hg'
      rcases old b hb g hg with ⟨o1, o2⟩ | ⟨o1, o2⟩ <;> rcases old b' hb' g hg' with ⟨o3, o4⟩ | ⟨o3, o4⟩
      · exact h.apart b o1 b' o3 hne g o2 o4
      · have := hrowlt b o1 g o2; omega
      · have := hrowlt b' o3 g o4; omega
      · exact hne (o1.trans o3.symm)
  have q0 := f4.lock.cell 0 (v := .int .i32 1) rfl
  have q1 := f4.lock.frozen 0
  refine leaves_cons (f := 37) (args := #[.pointer (some ⟨lk, 0, none⟩)]) (by simp) (by simp [go_sem]) ?_
  refine (unlock_deferred Try.muLib ⟨lk, 0, none⟩ .returning _ q0 q1).mono ?_
  rintro e u' w'' ⟨rfl, rfl, rfl⟩
  refine ⟨_, results_tmp2 rfl _ _ _, rfl, N', ⟨f4.setLock 0, ?_, ?_, ?_, ?_, ?_, ?_⟩⟩
  · rw [nX, hl]; rfl
  · rw [nX]; rfl
  · intro b hb
    by_cases hbs : b = s
    · subst hbs; rw [nS]; exact ⟨rfl, rfl⟩
    · rw [nO b (hneS b hb) hbs]; exact ⟨rfl, rfl⟩
  · intro b hb hbs
    rw [nO b (hneS b hb) hbs]
  · have t3 : Upd (Foot lk S N) w W3 := U2.trans U3 (fun i hi e => by omega)
    have t4 : Upd (Foot lk S N) w W4 := t3.trans a3 (fun i hi e => by
      rcases e with e | e
      · exact Or.inr (Or.inl (e ▸ hs))
      · exact Or.inr (Or.inr (Or.inr ⟨s, hs, e⟩)))
    exact t4.setCell (p := ⟨lk, 0, none⟩) (fun _ => Or.inl rfl) _
  · intro k hk
    rcases hk with hk | hk | hk | ⟨b, hb, hg⟩
    · exact Or.inl (Or.inl hk)
    · rcases List.mem_append.1 hk with hk | hk
      · exact Or.inl (Or.inr (Or.inl hk))
      · simp at hk; exact Or.inr (by omega)
    · rcases List.mem_append.1 hk with hk | hk
      · exact Or.inl (Or.inr (Or.inr (Or.inl hk)))
      · simp at hk; exact Or.inr (by omega)
    · rcases List.mem_append.1 hb with hb | hb
      · by_cases hbs : b = s
        · subst hbs
          rw [nS] at hg
          rcases hus k hg with h' | h'
          · exact Or.inl (Or.inr (Or.inr (Or.inr ⟨b, hb, h'⟩)))
          · exact Or.inr (by omega)
        · rw [nO b (hneS b hb) hbs] at hg
          exact Or.inl (Or.inr (Or.inr (Or.inr ⟨b, hb, hg⟩)))
      · simp at hb; subst hb
        rw [nX] at hg; simp [ndNew, Value.ownBlock] at hg
end Go.Proofs.Ytmepapbbebddiaa
