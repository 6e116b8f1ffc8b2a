/-
  RzQ.
-/
import Derived.Test.YtiflfapdffkcbaaDoorRzO
namespace Go.Proofs.YtiflfapdffkcbaaDoor
open Go Go.RowKit Go.Maps Go.WideMaps
set_option maxRecDepth 100000

/-- Spans of a trace. -/
def rowF (t n : Nat) : List Sp := (List.range n).map (fun i => spO (t : Int) ((i + 1 : Nat) : Int) 5)
theorem rowF_next (t n : Nat) : rowF t (n + 1) = rowF t n ++ [spO (t : Int) ((n + 1 : Nat) : Int) 5] := by
  unfold rowF
  rw [List.range_succ, List.map_append]
  rfl
theorem rowF_len (t n : Nat) : (rowF t n).length = n := by unfold rowF; simp
def fulL : Nat → List Sp
  | 0 => []
  | t + 1 => fulL t ++ rowF (t + 1) 1000
theorem chk_spO (t i e : Int) (ht : 0 < t) (hi : 0 < i) (he : e = 5 ∨ e = 6 ∨ e = 9) : chkS (spO t i e) = 0 := by
  have h1 : (decide ((spO t i e).hi = 0 ∧ (spO t i e).lo = 0) || decide ((spO t i e).id = 0)) = false := by
    have h3 : decide (i = 0) = false := decide_eq_false (by omega)
    show (decide ((0 : Int) = 0 ∧ t = 0) || decide (i = 0)) = false
    rw [h3, Bool.or_false]
    exact decide_eq_false (by omega)
  unfold chkS
  rw [h1, if_neg Bool.false_ne_true]
  rcases he with rfl | rfl | rfl <;> rfl
theorem mem_rowF {t n : Nat} {x : Sp} : x ∈ rowF t n ↔ ∃ i : Nat, 1 ≤ i ∧ i ≤ n ∧ x = spO (t : Int) (i : Int) 5 := by
  unfold rowF
  simp only [List.mem_map, List.mem_range]
  constructor
  · rintro ⟨i, hi, rfl⟩
    exact ⟨i + 1, by omega, by omega, rfl⟩
  · rintro ⟨i, h1, h2, rfl⟩
    exact ⟨i - 1, by omega, by rw [show i - 1 + 1 = i by omega]⟩
theorem mem_fulL : ∀ {t : Nat} {x : Sp}, x ∈ fulL t ↔ ∃ u i : Nat, 1 ≤ u ∧ u ≤ t ∧ 1 ≤ i ∧ i ≤ 1000 ∧ x = spO (u : Int) (i : Int) 5
  | 0, x => by
    constructor
    · intro h; cases h
    · rintro ⟨u, i, h1, h2, _⟩; omega
  | t + 1, x => by
    rw [fulL, List.mem_append, mem_fulL, mem_rowF]
    constructor
    · rintro (⟨u, i, h1, h2, h3, h4, rfl⟩ | ⟨i, h1, h2, rfl⟩)
      · exact ⟨u, i, h1, by omega, h3, h4, rfl⟩
      · exact ⟨t + 1, i, by omega, by omega, h1, h2, rfl⟩
    · rintro ⟨u, i, h1, h2, h3, h4, rfl⟩
      by_cases e : u = t + 1
      · subst e; exact Or.inr ⟨i, h3, h4, rfl⟩
      · exact Or.inl ⟨u, i, h1, by omega, h3, h4, rfl⟩
theorem nm_spO (a b e : Int) : nmS (spO a b e) = ((0, a), b) := rfl
theorem nm_spO_eq {a b e a' b' e' : Int} : nmS (spO a b e) = nmS (spO a' b' e') ↔ a = a' ∧ b = b' := by
  rw [nm_spO, nm_spO]
  simp only [Prod.mk.injEq, true_and]
theorem names_rowF (t n : Nat) : Names (rowF t n) := by
  unfold Names rowF
  rw [List.map_map]
  refine List.pairwise_map.2 (List.Pairwise.imp (fun {a b} h e => h ?_) List.nodup_range)
  have := (nm_spO_eq.1 e).2
  omega
theorem names_app {A B : List Sp} (hA : Names A) (hB : Names B) (h : ∀ x ∈ A, ∀ y ∈ B, nmS x ≠ nmS y) : Names (A ++ B) := by
  unfold Names at *
  rw [List.map_append, List.nodup_append]
  refine ⟨hA, hB, fun a ha b hb => ?_⟩
  obtain ⟨x, hx, rfl⟩ := List.mem_map.1 ha
  obtain ⟨y, hy, rfl⟩ := List.mem_map.1 hb
  exact h x hx y hy
theorem names_fulL : ∀ t, Names (fulL t)
  | 0 => List.nodup_nil
  | t + 1 => by
    refine names_app (names_fulL t) (names_rowF _ _) (fun x hx y hy e => ?_)
    obtain ⟨u, i, h1, h2, h3, h4, rfl⟩ := mem_fulL.1 hx
    obtain ⟨j, h5, h6, rfl⟩ := mem_rowF.1 hy
    have := (nm_spO_eq.1 e).1
    omega
theorem names_snoc {A : List Sp} {a : Sp} (hA : Names A) (h : ∀ x ∈ A, nmS x ≠ nmS a) : Names (A ++ [a]) :=
  names_app hA (by unfold Names; simp) (fun x hx y hy => by rw [List.mem_singleton.1 hy]; exact h x hx)
theorem fold_fresh : ∀ (Y : List Sp) (L : List Sp), (∀ y ∈ Y, ∀ x ∈ L, nmS x ≠ nmS y) → Names Y → Y.foldl putLs L = L ++ Y
  | [], L, _, _ => by simp
  | a :: r, L, h, hn => by
    have hf : findL L (nmS a) = none := by
      unfold findL
      rw [List.find?_eq_none]
      intro x hx
      simp [h a (by simp) x hx]
    have hp : putLs L a = L ++ [a] := by unfold putLs; rw [hf]
    unfold Names at hn
    rw [List.map_cons, List.nodup_cons] at hn
    rw [List.foldl_cons, hp, fold_fresh r (L ++ [a]) (fun y hy x hx e => ?_) hn.2]
    · simp
    · rcases List.mem_append.1 hx with q | q
      · exact h y (by simp [hy]) x q e
      · rw [List.mem_singleton.1 q] at e
        exact hn.1 (List.mem_map.2 ⟨y, hy, e.symm⟩)
theorem cnt_rowF (t n : Nat) (s : Tc) : cntL (rowF t n) s = if ((0, (t : Int)) : Tc) = s then n else 0 := by
  induction n with
  | zero => simp [rowF, cntL]
  | succ n ih =>
    rw [rowF_next, cnt_app9, ih, nm_spO]
    split <;> rfl
theorem cnt_app {A B : List Sp} (s : Tc) : cntL (A ++ B) s = cntL A s + cntL B s := by
  unfold cntL
  rw [List.filter_append, List.length_append]
theorem cnt_fulL (t : Nat) (s : Tc) : cntL (fulL t) s = if s.1 = 0 ∧ 1 ≤ s.2 ∧ s.2 ≤ (t : Int) then 1000 else 0 := by
  obtain ⟨a, b⟩ := s
  induction t with
  | zero =>
    rw [if_neg (fun h => by have h1 := h.2.1; have h2 := h.2.2; simp only at h1 h2; omega)]
    rfl
  | succ t ih =>
    rw [fulL, cnt_app, ih, cnt_rowF]
    simp only [Prod.mk.injEq]
    by_cases h : (0 : Int) = a ∧ ((t + 1 : Nat) : Int) = b
    · rw [if_pos h, if_neg (by omega), if_pos (by omega)]
    · rw [if_neg h]
      by_cases h2 : a = 0 ∧ 1 ≤ b ∧ b ≤ (t : Int)
      · rw [if_pos h2, if_pos (by omega)]
      · rw [if_neg h2, if_neg (by omega)]
theorem cnt_full_in {t u : Nat} (h1 : 1 ≤ u) (h2 : u ≤ t) : cntL (fulL t) (0, (u : Int)) = 1000 := by
  rw [cnt_fulL]
  exact if_pos ⟨rfl, by simp only; omega, by simp only; omega⟩
theorem cnt_full_le (t : Nat) (s : Tc) : cntL (fulL t) s ≤ 1000 := by
  rw [cnt_fulL]
  split <;> omega
theorem len_fulL : ∀ t, (fulL t).length = 1000 * t
  | 0 => rfl
  | t + 1 => by rw [fulL, List.length_append, len_fulL t, rowF_len]; omega
theorem roomR_91 {R : List Sp} {a : Sp} (ha : a ∈ R) (h : 1000 < cntL R (nmS a).1) : roomR R = 91 := by
  unfold roomR
  rw [if_pos (List.any_eq_true.2 ⟨a, ha, decide_eq_true h⟩)]
theorem roomR_92 {R : List Sp} (h : ∀ t, cntL R t ≤ 1000) (hl : 100000 < R.length) : roomR R = 92 := by
  unfold roomR
  rw [if_neg, if_pos hl]
  intro h2
  obtain ⟨a, _, h3⟩ := List.any_eq_true.1 h2
  have := of_decide_eq_true h3
  have := h (nmS a).1
  omega
/-- Whether a list fits, by the names alone. -/
theorem fits_by {L Y C : List Sp} (hL : ∀ t, cntL L t ≤ 1000) (hN : Names L) (hY : ∀ a ∈ Y, chkS a = 0) (hC : Names C) (h : ∀ n, (∃ x, (x ∈ L ∨ x ∈ Y) ∧ nmS x = n) ↔ ∃ y ∈ C, nmS y = n) : fitsL L Y = roomR C := by
  rw [fits_put hL hY, run_eq]
  exact roomR_names (fold_top Y hN).1 hC (fun n => (fold_names hN Y n).trans (h n))
theorem run_round {t : Nat} : (runP (fulL t) (rowF (t + 1) 1000)).1 = fulL (t + 1) := by
  rw [run_eq, fold_fresh _ _ (fun y hy x hx e => ?_) (names_rowF _ _), fulL]
  obtain ⟨u, i, h1, h2, h3, h4, rfl⟩ := mem_fulL.1 hx
  obtain ⟨j, h5, h6, rfl⟩ := mem_rowF.1 hy
  have := (nm_spO_eq.1 e).1
  omega
theorem fits_round {t : Nat} (ht : t < 100) : fitsL (fulL t) (rowF (t + 1) 1000) = 0 := by
  rw [fits_put (cnt_full_le t) (fun a ha => ?_), run_round]
  · refine roomR_zero.2 ⟨cnt_full_le _, ?_⟩
    rw [len_fulL]
    omega
  · obtain ⟨j, h5, h6, rfl⟩ := mem_rowF.1 ha
    exact chk_spO _ _ _ (by omega) (by omega) (Or.inl rfl)
theorem fits_more {t : Nat} : fitsL (fulL (t + 1)) [spO ((t + 1 : Nat) : Int) 1001 5] = 91 := by
  have hc : ∀ a ∈ [spO ((t + 1 : Nat) : Int) 1001 5], chkS a = 0 := fun a ha => by
    rw [List.mem_singleton.1 ha]
    exact chk_spO _ _ _ (by omega) (by omega) (Or.inl rfl)
  have hd : ∀ y ∈ [spO ((t + 1 : Nat) : Int) 1001 5], ∀ x ∈ fulL (t + 1), nmS x ≠ nmS y := fun y hy x hx e => by
    rw [List.mem_singleton.1 hy] at e
    obtain ⟨u, i, h1, h2, h3, h4, rfl⟩ := mem_fulL.1 hx
    have := (nm_spO_eq.1 e).2
    omega
  rw [fits_put (cnt_full_le _) hc, run_eq, fold_fresh _ _ hd (by unfold Names; simp)]
  refine roomR_91 (a := spO ((t + 1 : Nat) : Int) 1001 5) (by simp) ?_
  rw [nm_spO, cnt_app9, cnt_full_in (u := t + 1) (by omega) (by omega), nm_spO, if_pos rfl]
  omega
/-- A list with the names of the full store. -/
structure LFul (L : List Sp) : Prop where
  names : Names L
  same : ∀ n, (∃ x ∈ L, nmS x = n) ↔ ∃ y ∈ fulL 100, nmS y = n
theorem LFul.full : LFul (fulL 100) := ⟨names_fulL 100, fun _ => Iff.rfl⟩
theorem LFul.len {L : List Sp} (h : LFul L) : L.length = 100000 := by
  have h1 := (names_le h.names (B := fulL 100) (fun x hx => (h.same _).1 ⟨x, hx, rfl⟩)).1
  have h2 := (names_le (names_fulL 100) (B := L) (fun x hx => (h.same _).2 ⟨x, hx, rfl⟩)).1
  rw [len_fulL] at h1 h2
  omega
theorem LFul.each {L : List Sp} (h : LFul L) (t : Tc) : cntL L t ≤ 1000 :=
  Nat.le_trans ((names_le h.names (B := fulL 100) (fun x hx => (h.same _).1 ⟨x, hx, rfl⟩)).2 t) (cnt_full_le 100 t)
theorem names101 : Names (fulL 100 ++ [spO 101 1 5]) := by
  refine names_snoc (names_fulL 100) (fun x hx e => ?_)
  obtain ⟨u, i, h1, h2, h3, h4, rfl⟩ := mem_fulL.1 hx
  have := (nm_spO_eq.1 e).1
  omega
theorem room101 : roomR (fulL 100 ++ [spO 101 1 5]) = 92 := by
  refine roomR_92 (fun s => ?_) (by rw [List.length_append, len_fulL]; simp)
  rw [cnt_app9, nm_spO, cnt_fulL]
  by_cases h : ((0 : Int), (101 : Int)) = s
  · subst h
    rw [if_neg (by simp only; omega), if_pos rfl]
    omega
  · rw [if_neg h]
    split <;> omega
/-- Whatever has just these names. -/
theorem LFul.fits101 {L Y : List Sp} (h : LFul L) (hY : ∀ a ∈ Y, chkS a = 0) (hn : ∀ n, (∃ x, (x ∈ L ∨ x ∈ Y) ∧ nmS x = n) ↔ ∃ x, (x ∈ L ∨ x = spO 101 1 5) ∧ nmS x = n) : fitsL L Y = 92 := by
  rw [fits_by h.each h.names hY names101 (fun n => ?_), room101]
  rw [hn n]
  constructor
  · rintro ⟨x, hx | rfl, e⟩
    · obtain ⟨y, hy, e2⟩ := (h.same n).1 ⟨x, hx, e⟩
      exact ⟨y, List.mem_append.2 (Or.inl hy), e2⟩
    · exact ⟨_, List.mem_append.2 (Or.inr (by simp)), e⟩
  · rintro ⟨y, hy, e⟩
    rcases List.mem_append.1 hy with q | q
    · obtain ⟨x, hx, e2⟩ := (h.same n).2 ⟨y, q, e⟩
      exact ⟨x, Or.inl hx, e2⟩
    · rw [List.mem_singleton.1 q] at e
      exact ⟨_, Or.inr rfl, e⟩
theorem LFul.has {L : List Sp} (h : LFul L) {u i : Nat} (h1 : 1 ≤ u) (h2 : u ≤ 100) (h3 : 1 ≤ i) (h4 : i ≤ 1000) (e : Int) : ∃ x ∈ L, nmS x = nmS (spO (u : Int) (i : Int) e) :=
  (h.same _).2 ⟨spO (u : Int) (i : Int) 5, mem_fulL.2 ⟨u, i, h1, h2, h3, h4, rfl⟩, rfl⟩
theorem LFul.fits2 {L : List Sp} (h : LFul L) : fitsL L [spO 101 1 5] = 92 :=
  h.fits101 (fun a ha => by rw [List.mem_singleton.1 ha]; exact chk_spO _ _ _ (by omega) (by omega) (Or.inl rfl)) (fun n => by simp only [List.mem_singleton])
theorem LFul.fits3 {L : List Sp} (h : LFul L) : fitsL L [spO 7 8 9, spO 101 1 5] = 92 := by
  refine h.fits101 (fun a ha => ?_) (fun n => ?_)
  · simp only [List.mem_cons, List.not_mem_nil, or_false] at ha
    rcases ha with rfl | rfl <;> exact chk_spO _ _ _ (by omega) (by omega) (by omega)
  · simp only [List.mem_cons, List.not_mem_nil, or_false]
    constructor
    · rintro ⟨x, hx | rfl | rfl, e⟩
      · exact ⟨x, Or.inl hx, e⟩
      · obtain ⟨y, hy, e2⟩ := h.has (u := 7) (i := 8) (by omega) (by omega) (by omega) (by omega) 9
        exact ⟨y, Or.inl hy, e2.trans e⟩
      · exact ⟨_, Or.inr rfl, e⟩
    · rintro ⟨x, hx | rfl, e⟩
      · exact ⟨x, Or.inl hx, e⟩
      · exact ⟨_, Or.inr (Or.inr rfl), e⟩
theorem cnt_two {F : List Sp} (h : cntL F (0, ((3 : Nat) : Int)) = 1000) : 1000 < cntL ((F ++ [spO 101 1 5]) ++ [spO 3 1001 5]) (nmS (spO 3 1001 5)).1 := by
  have h2 : cntL F (nmS (spO 3 1001 5)).1 = 1000 := h
  rw [cnt_app9, cnt_app9, h2, if_pos rfl]
  omega
theorem LFul.fits4 {L : List Sp} (h : LFul L) : fitsL L [spO 101 1 5, spO 3 1001 5] = 91 := by
  have hN : Names ((fulL 100 ++ [spO 101 1 5]) ++ [spO 3 1001 5]) := by
    refine names_snoc names101 (fun x hx e => ?_)
    rcases List.mem_append.1 hx with q | q
    · obtain ⟨u, i, h1, h2, h3, h4, rfl⟩ := mem_fulL.1 q
      have := (nm_spO_eq.1 e).2
      omega
    · rw [List.mem_singleton.1 q] at e
      have := (nm_spO_eq.1 e).1
      omega
  rw [fits_by h.each h.names (fun a ha => ?_) hN (fun n => ?_)]
  · refine roomR_91 (a := spO 3 1001 5) (by simp) ?_
    exact cnt_two (cnt_full_in (t := 100) (u := 3) (by omega) (by omega))
  · simp only [List.mem_cons, List.not_mem_nil, or_false] at ha
    rcases ha with rfl | rfl <;> exact chk_spO _ _ _ (by omega) (by omega) (by omega)
  · constructor
    · rintro ⟨x, hx | hx, e⟩
      · obtain ⟨y, hy, e2⟩ := (h.same n).1 ⟨x, hx, e⟩
        exact ⟨y, by simp [hy], e2⟩
      · refine ⟨x, ?_, e⟩
        simp only [List.mem_cons, List.not_mem_nil, or_false] at hx
        rcases hx with rfl | rfl <;> simp
    · rintro ⟨y, hy, e⟩
      rcases List.mem_append.1 hy with q | q
      · rcases List.mem_append.1 q with q | q
        · obtain ⟨x, hx, e2⟩ := (h.same n).2 ⟨y, q, e⟩
          exact ⟨x, Or.inl hx, e2⟩
        · exact ⟨y, Or.inr (by simp [List.mem_singleton.1 q]), e⟩
      · exact ⟨y, Or.inr (by simp [List.mem_singleton.1 q]), e⟩
/-- All of the full store, put into one that has another name. -/
theorem LFul.fits5 {L Y : List Sp} (h : LFul L) (hc : ∀ a ∈ L, chkS a = 0) (hY : ∀ y, y ∈ Y ↔ y ∈ L) : fitsL [spO 101 1 5] Y = 92 := by
  rw [fits_by (C := fulL 100 ++ [spO 101 1 5]) (fun t => ?_) (by unfold Names; simp) (fun a ha => hc a ((hY a).1 ha)) names101 (fun n => ?_), room101]
  · unfold cntL
    have := List.length_filter_le (fun a => decide ((nmS a).1 = t)) [spO 101 1 5]
    simp only [List.length_singleton] at this
    omega
  · constructor
    · rintro ⟨x, hx | hx, e⟩
      · exact ⟨x, by simp [List.mem_singleton.1 hx], e⟩
      · obtain ⟨y, hy, e2⟩ := (h.same n).1 ⟨x, (hY x).1 hx, e⟩
        exact ⟨y, by simp [hy], e2⟩
    · rintro ⟨y, hy, e⟩
      rcases List.mem_append.1 hy with q | q
      · obtain ⟨x, hx, e2⟩ := (h.same n).2 ⟨y, q, e⟩
        exact ⟨x, Or.inr ((hY x).2 hx), e2⟩
      · exact ⟨y, Or.inl q, e⟩
theorem find_mem9 {L : List Sp} (hN : Names L) {x : Sp} (hx : x ∈ L) : findL L (nmS x) = some x := by
  cases hf : findL L (nmS x) with
  | none => exact absurd rfl (findL_none hf x hx)
  | some y =>
    have := findL_some hf
    rw [names_one hN this.1 hx this.2]
theorem cmp_self9 (a : Sp) : cmpP a a = 0 := (good_cmpP.eq a a).2 rfl
theorem cmp76 : cmpP (spO 7 7 6) (spO 7 7 5) = 1 := by decide +kernel
set_option maxHeartbeats 2000000 in
/-- The greater one, twice. -/
theorem full_twice : fitsL (fulL 100) [spO 7 7 6, spO 7 7 6] = 0 ∧ (runP (fulL 100) [spO 7 7 6, spO 7 7 6]).2 = [1, 2] ∧ LFul (runP (fulL 100) [spO 7 7 6, spO 7 7 6]).1 ∧ findL (runP (fulL 100) [spO 7 7 6, spO 7 7 6]).1 ((0, 7), 8) = some (spO 7 8 5) := by
  obtain ⟨Y, hYe⟩ : ∃ Y, [spO 7 7 6, spO 7 7 6] = Y := ⟨_, rfl⟩
  have hYm : ∀ y, y ∈ Y ↔ y = spO 7 7 6 := fun y => by rw [← hYe]; simp
  have hYc : ∀ a ∈ Y, chkS a = 0 := fun a ha => by rw [(hYm a).1 ha]; exact chk_spO _ _ _ (by omega) (by omega) (by omega)
  have hin7 : spO 7 7 5 ∈ fulL 100 := mem_fulL.2 ⟨7, 7, by omega, by omega, by omega, by omega, rfl⟩
  have hin8 : spO 7 8 5 ∈ fulL 100 := mem_fulL.2 ⟨7, 8, by omega, by omega, by omega, by omega, rfl⟩
  have hsame : ∀ n, (∃ x, (x ∈ fulL 100 ∨ x ∈ Y) ∧ nmS x = n) ↔ ∃ y ∈ fulL 100, nmS y = n := fun n => by
    constructor
    · rintro ⟨x, hx | hx, e⟩
      · exact ⟨x, hx, e⟩
      · rw [(hYm x).1 hx] at e
        exact ⟨_, hin7, e⟩
    · rintro ⟨y, hy, e⟩
      exact ⟨y, Or.inl hy, e⟩
  have hL : LFul (runP (fulL 100) Y).1 := by
    rw [run_eq]
    exact ⟨(fold_top Y (names_fulL 100)).1, fun n => (fold_names (names_fulL 100) Y n).trans (hsame n)⟩
  have hone : ∀ n : Nm, n ≠ nmS (spO 7 7 6) → ∀ x ∈ fulL 100, nmS x = n → x ∈ (runP (fulL 100) Y).1 := fun n hn x hx e => by
    rw [run_eq, (fold_top Y (names_fulL 100)).2]
    refine ⟨Or.inl hx, fun y hy e2 => ?_⟩
    rcases hy with q | q
    · rw [names_one (names_fulL 100) q hx e2, cmp_self9]
      exact Int.le_refl _
    · rw [(hYm y).1 q] at e2
      exact absurd (e2.trans e).symm hn
  have h8 := hone ((0, 7), 8) (by rw [nm_spO]; simp) _ hin8 rfl
  refine ⟨?_, ?_, hYe ▸ hL, ?_⟩
  · rw [hYe, fits_by (cnt_full_le 100) (names_fulL 100) hYc (names_fulL 100) hsame]
    exact roomR_zero.2 ⟨cnt_full_le 100, by rw [len_fulL]; omega⟩
  · have f1 : findL (fulL 100) (nmS (spO 7 7 6)) = some (spO 7 7 5) := find_mem9 (names_fulL 100) hin7
    have hp : putLs (fulL 100) (spO 7 7 6) = (fulL 100).map (fun z => if nmS z = nmS (spO 7 7 6) then spO 7 7 6 else z) := by
      unfold putLs
      rw [f1]
      simp only [cmp76]
      rfl
    have hn1 : Names (putLs (fulL 100) (spO 7 7 6)) := (fold_top [spO 7 7 6] (names_fulL 100)).1
    have hm1 : spO 7 7 6 ∈ putLs (fulL 100) (spO 7 7 6) := by
      rw [hp]
      exact List.mem_map.2 ⟨_, hin7, if_pos rfl⟩
    have f2 : findL (putLs (fulL 100) (spO 7 7 6)) (nmS (spO 7 7 6)) = some (spO 7 7 6) := find_mem9 hn1 hm1
    have b1 : becI (fulL 100) (spO 7 7 6) = 1 := by
      unfold becI
      rw [f1]
      simp only [cmp76]
      rfl
    have b2 : becI (putLs (fulL 100) (spO 7 7 6)) (spO 7 7 6) = 2 := by
      unfold becI
      rw [f2]
      simp only [cmp_self9]
      rfl
    show (stP (stP (fulL 100, []) (spO 7 7 6)) (spO 7 7 6)).2 = _
    unfold stP
    simp only [b1, b2]
    rfl
  · rw [hYe]
    exact find_mem9 hL.names h8
end Go.Proofs.YtiflfapdffkcbaaDoor
