/-
  Trees of stops, by numbers: what stands beneath a stop and is not cancelled, in its order.
-/
namespace Go.Proofs.Ytmepapbbebddiaa

section
variable (kids : Nat → List Nat) (live : Nat → Bool) (pg : Nat → Option Nat) (D : Nat)

/-- A stop, and what lives beneath it. -/
def brF : Nat → Nat → List Nat
  | 0, _ => []
  | f + 1, b => b :: ((kids b).filter live).flatMap (brF f)
def br (b : Nat) : List Nat := brF kids live (D - b) b
/-- The n-th above. -/
def anc : Nat → Nat → Option Nat
  | 0, x => some x
  | n + 1, x => (pg x).bind (anc n)
/-- The numbers rise downwards, and every one has one above. -/
structure Tree : Prop where
  up : ∀ b k, k ∈ kids b → b < k ∧ k < D ∧ pg k = some b
  nodup : ∀ b, (kids b).Nodup
end

variable {kids : Nat → List Nat} {live : Nat → Bool} {pg : Nat → Option Nat} {D : Nat}

theorem flatMap_congr' {l : List Nat} {f g : Nat → List Nat} (h : ∀ x ∈ l, f x = g x) : l.flatMap f = l.flatMap g := by
  induction l with
  | nil => rfl
  | cons x l ih =>
    rw [List.flatMap_cons, List.flatMap_cons, h x (by simp), ih (fun y hy => h y (by simp [hy]))]

theorem brF_stable (T : Tree kids pg D) : ∀ f f' b, b < D → D - b ≤ f → D - b ≤ f' → brF kids live f b = brF kids live f' b := by
  intro f
  induction f with
  | zero => intro f' b hb h1; omega
  | succ f ih =>
    intro f' b hb h1 h2
    cases f' with
    | zero => omega
    | succ f' =>
      rw [brF, brF]
      congr 1
      refine flatMap_congr' fun x hx => ?_
      obtain ⟨h3, h4, _⟩ := T.up b x (List.mem_filter.1 hx).1
      exact ih f' x h4 (by omega) (by omega)

theorem br_eq (T : Tree kids pg D) {b : Nat} (hb : b < D) : br kids live D b = b :: ((kids b).filter live).flatMap (br kids live D) := by
  unfold br
  obtain ⟨f, hf⟩ : ∃ f, D - b = f + 1 := ⟨D - b - 1, by omega⟩
  rw [hf, brF]
  congr 1
  refine flatMap_congr' fun x hx => ?_
  obtain ⟨h3, h4, _⟩ := T.up b x (List.mem_filter.1 hx).1
  exact brF_stable T _ _ x h4 (by omega) (Nat.le_refl _)

/-- By going down. -/
theorem Tree.induct {p : Nat → Prop} (D : Nat) (h : ∀ b, b < D → (∀ k, b < k → k < D → p k) → p b) : ∀ b, b < D → p b := by
  have : ∀ f b, b < D → D - b ≤ f → p b := by
    intro f
    induction f with
    | zero => intro b hb h1; omega
    | succ f ih => intro b hb h1; exact h b hb fun k hk hkD => ih k hkD (by omega)
  exact fun b hb => this (D - b) b hb (Nat.le_refl _)

theorem anc_succ (b p : Nat) (hp : pg b = some p) : ∀ n x, anc pg n x = some b → anc pg (n + 1) x = some p := by
  intro n
  induction n with
  | zero => intro x h; simp only [anc, Option.some.injEq] at h; subst h; simp [anc, hp]
  | succ n ih =>
    intro x h
    rw [anc] at h ⊢
    cases hx : pg x with
    | none => rw [hx] at h; cases h
    | some y => rw [hx] at h; simp only [Option.bind_some] at h ⊢; exact ih y h

theorem br_anc (T : Tree kids pg D) : ∀ b, b < D → ∀ x ∈ br kids live D b, b ≤ x ∧ x < D ∧ (x = b ∨ live x = true) ∧ ∃ n, anc pg n x = some b := by
  refine Tree.induct D fun b hb ih x hx => ?_
  rw [br_eq T hb] at hx
  rcases List.mem_cons.1 hx with rfl | hx
  · exact ⟨Nat.le_refl _, hb, Or.inl rfl, 0, rfl⟩
  · obtain ⟨k, hk, hxk⟩ := List.mem_flatMap.1 hx
    obtain ⟨hk1, hk2⟩ := List.mem_filter.1 hk
    obtain ⟨h1, h2, h3⟩ := T.up b k hk1
    obtain ⟨g1, g2, g3, n, g4⟩ := ih k h1 h2 x hxk
    refine ⟨by omega, g2, Or.inr ?_, n + 1, anc_succ k b h3 n x g4⟩
    rcases g3 with rfl | g3
    · exact hk2
    · exact g3

/-- Above is less. -/
theorem anc_le (hpg : ∀ x p, pg x = some p → p < x) : ∀ n x y, anc pg n x = some y → y ≤ x := by
  intro n
  induction n with
  | zero => intro x y h; simp only [anc, Option.some.injEq] at h; omega
  | succ n ih =>
    intro x y h
    rw [anc] at h
    cases hx : pg x with
    | none => rw [hx] at h; cases h
    | some z =>
      rw [hx] at h
      have := ih z y h
      have := hpg x z hx
      omega

theorem anc_add : ∀ n m x y, anc pg n x = some y → anc pg (n + m) x = anc pg m y := by
  intro n
  induction n with
  | zero => intro m x y h; simp only [anc, Option.some.injEq] at h; subst h; rw [Nat.zero_add]
  | succ n ih =>
    intro m x y h
    rw [anc] at h
    rw [show n + 1 + m = (n + m) + 1 by omega, anc]
    cases hx : pg x with
    | none => rw [hx] at h; cases h
    | some z => rw [hx] at h; exact ih m z y h

/-- Two under one and the same have nothing in common beneath. -/
theorem anc_apart (hpg : ∀ x p, pg x = some p → p < x) {b k k' x n m : Nat} (h1 : pg k = some b) (h2 : pg k' = some b) (hn : anc pg n x = some k) (hm : anc pg m x = some k') : k = k' := by
  have key : ∀ {k k' : Nat} {n m : Nat}, pg k = some b → pg k' = some b → anc pg n x = some k → anc pg m x = some k' → n ≤ m → k = k' := by
    intro k k' n m h1 h2 hn hm hle
    obtain ⟨d, rfl⟩ : ∃ d, m = n + d := ⟨m - n, by omega⟩
    rw [anc_add n d x k hn] at hm
    cases d with
    | zero => simp only [anc, Option.some.injEq] at hm; exact hm
    | succ d =>
      rw [anc, h1] at hm
      have := anc_le hpg d b k' hm
      have := hpg k' b h2
      omega
  rcases Nat.le_total n m with h | h
  · exact key h1 h2 hn hm h
  · exact (key h2 h1 hm hn h).symm

theorem flatMap_nodup {l : List Nat} {f : Nat → List Nat} (hl : l.Nodup) (hf : ∀ x ∈ l, (f x).Nodup) (hd : ∀ x ∈ l, ∀ y ∈ l, ∀ z, z ∈ f x → z ∈ f y → x = y) : (l.flatMap f).Nodup := by
  induction l with
  | nil => exact List.nodup_nil
  | cons x l ih =>
    rw [List.flatMap_cons, List.nodup_append]
    rw [List.nodup_cons] at hl
    refine ⟨hf x (by simp), ih hl.2 (fun y hy => hf y (by simp [hy])) (fun y hy z hz => hd y (by simp [hy]) z (by simp [hz])), ?_⟩
    intro a ha b hb e
    subst e
    obtain ⟨y, hy, hay⟩ := List.mem_flatMap.1 hb
    have := hd x (by simp) y (by simp [hy]) a ha hay
    subst this
    exact hl.1 hy

theorem br_nodup (T : Tree kids pg D) (hpg : ∀ x p, pg x = some p → p < x) : ∀ b, b < D → (br kids live D b).Nodup := by
  refine Tree.induct D fun b hb ih => ?_
  rw [br_eq T hb, List.nodup_cons]
  constructor
  · intro h
    obtain ⟨k, hk, hbk⟩ := List.mem_flatMap.1 h
    obtain ⟨h1, h2, h3⟩ := T.up b k (List.mem_filter.1 hk).1
    have := (br_anc T k h2 b hbk).1
    omega
  · refine flatMap_nodup ((T.nodup b).filter _) ?_ ?_
    · intro k hk
      obtain ⟨h1, h2, h3⟩ := T.up b k (List.mem_filter.1 hk).1
      exact ih k h1 h2
    · intro k hk k' hk' z hz hz'
      obtain ⟨h1, h2, h3⟩ := T.up b k (List.mem_filter.1 hk).1
      obtain ⟨h1', h2', h3'⟩ := T.up b k' (List.mem_filter.1 hk').1
      obtain ⟨_, _, _, n, hn⟩ := br_anc T k h2 z hz
      obtain ⟨_, _, _, m, hm⟩ := br_anc T k' h2' z hz'
      exact anc_apart hpg h3 h3' hn hm

theorem br_down (T : Tree kids pg D) : ∀ b, b < D → ∀ p ∈ br kids live D b, ∀ x ∈ kids p, live x = true → x ∈ br kids live D b := by
  refine Tree.induct D fun b hb ih p hp x hx hl => ?_
  rw [br_eq T hb] at hp ⊢
  rcases List.mem_cons.1 hp with rfl | hp
  · refine List.mem_cons_of_mem _ (List.mem_flatMap.2 ⟨x, List.mem_filter.2 ⟨hx, hl⟩, ?_⟩)
    rw [br_eq T (T.up p x hx).2.1]
    simp
  · obtain ⟨k, hk, hpk⟩ := List.mem_flatMap.1 hp
    obtain ⟨h1, h2, h3⟩ := T.up b k (List.mem_filter.1 hk).1
    exact List.mem_cons_of_mem _ (List.mem_flatMap.2 ⟨k, hk, ih k h1 h2 p hpk x hx hl⟩)

/-- What lives beneath is found. -/
theorem br_all (T : Tree kids pg D) (hall : ∀ x p, live x = true → pg x = some p → live p = true ∧ x ∈ kids p) {s : Nat} (hs : s < D) : ∀ n x, live x = true → anc pg n x = some s → x ∈ br kids live D s := by
  intro n
  induction n with
  | zero =>
    intro x _ h
    simp only [anc, Option.some.injEq] at h
    subst h
    rw [br_eq T hs]; simp
  | succ n ih =>
    intro x hx h
    rw [anc] at h
    cases hp : pg x with
    | none => rw [hp] at h; cases h
    | some p =>
      rw [hp] at h
      obtain ⟨h1, h2⟩ := hall x p hx hp
      exact br_down T s hs p (ih p h1 h) x h2 hx

theorem nodup_le {l S : List Nat} (hl : l.Nodup) (h : ∀ x ∈ l, x ∈ S) : l.length ≤ S.length := by
  induction l generalizing S with
  | nil => simp
  | cons x l ih =>
    rw [List.nodup_cons] at hl
    have hx : x ∈ S := h x (by simp)
    have := ih hl.2 (S := S.erase x) (fun y hy => by
      have hne : y ≠ x := fun e => hl.1 (e ▸ hy)
      exact (List.mem_erase_of_ne hne).2 (h y (by simp [hy])))
    rw [List.length_erase_of_mem hx] at this
    have : 0 < S.length := List.length_pos_of_mem hx
    simp only [List.length_cons]
    omega
end Go.Proofs.Ytmepapbbebddiaa
