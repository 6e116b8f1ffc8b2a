/-
  Mathematics of the reference of layer 13: Less, bar by bar.
-/
import Derived.Test.YtmegmjhkjaejgaaSlE
namespace Go.Proofs.Ytmegmjhkjaejgaa.sk
open Go.RowKit
set_option maxRecDepth 100000

theorem lL_nil : lL [] [] = some [] := by unfold lL; rfl
theorem lL_none (y : Int × Int) (b : List (Int × Int)) : lL [] (y :: b) = none := by unfold lL; rfl
theorem lL_right (x : Int × Int) (a : List (Int × Int)) : lL (x :: a) [] = (lL a []).map (x :: ·) := by rw [lL]
theorem lL_cons (x y : Int × Int) (a b : List (Int × Int)) : lL (x :: a) (y :: b) = if y.1 = x.1 then (if x.2 < y.2 then none else if x.2 - y.2 = 0 then lL a b else (lL a b).map ((x.1, x.2 - y.2) :: ·)) else (lL a (y :: b)).map (x :: ·) := by rw [lL]
/-- What Less tells, by functions: nothing where b has more. -/
def LsOk (c : Int) (a b : List (Int × Int)) : Option (List (Int × Int)) → Prop
  | some l => chkF c l = true ∧ (∀ x ∈ l, 0 ≤ x.2) ∧ ∀ i : Nat, c < (i : Int) → cntF b i ≤ cntF a i ∧ cntF l i = cntF a i - cntF b i
  | none => ∃ i : Nat, c < (i : Int) ∧ i < 1920 ∧ cntF a i < cntF b i
theorem LsOk.keep {c : Int} {x : Int × Int} {a b : List (Int × Int)} {r : Option (List (Int × Int))} (hx : c < x.1 ∧ x.1 < 1920 ∧ x.2 ≠ 0) (px : 0 ≤ x.2) (ta : chkF x.1 a = true) (hb : chkF x.1 b = true) (h : LsOk x.1 a b r) : LsOk c (x :: a) b (r.map (x :: ·)) := by
  cases r with
  | none =>
    obtain ⟨i, h1, h2, h3⟩ := h
    refine ⟨i, by omega, h2, ?_⟩
    rw [cntF_cons, if_neg (by omega)]
    exact h3
  | some l =>
    obtain ⟨k1, k2, k3⟩ := h
    refine ⟨chk_cons hx.1 hx.2.1 hx.2.2 k1, ?_, fun i hi => ?_⟩
    · intro z hz
      rcases List.mem_cons.mp hz with rfl | hz
      · exact px
      · exact k2 z hz
    · simp only [cntF_cons]
      by_cases e : x.1 = (i : Int)
      · simp only [if_pos e]
        rw [cnt_low hb (by omega)]
        omega
      · simp only [if_neg e]
        rcases Int.lt_trichotomy x.1 i with h | h | h
        · exact k3 i h
        · exact absurd h e
        · rw [cnt_low k1 (by omega), cnt_low ta (by omega), cnt_low hb (by omega)]
          omega
theorem LsOk.both {c : Int} {x y : Int × Int} {a b : List (Int × Int)} {r : Option (List (Int × Int))} (hx : c < x.1 ∧ x.1 < 1920 ∧ x.2 ≠ 0) (e : y.1 = x.1) (py : 0 ≤ y.2) (hle : y.2 ≤ x.2) (ta : chkF x.1 a = true) (tb : chkF x.1 b = true) (h : LsOk x.1 a b r) : LsOk c (x :: a) (y :: b) (if x.2 - y.2 = 0 then r else r.map ((x.1, x.2 - y.2) :: ·)) := by
  cases r with
  | none =>
    obtain ⟨i, h1, h2, h3⟩ := h
    have : LsOk c (x :: a) (y :: b) none := by
      refine ⟨i, by omega, h2, ?_⟩
      rw [cntF_cons, if_neg (by omega), cntF_cons, if_neg (by omega)]
      exact h3
    split
    · exact this
    · exact this
  | some l =>
    obtain ⟨k1, k2, k3⟩ := h
    have hcnt : ∀ i : Nat, x.1 ≠ (i : Int) → cntF b i ≤ cntF a i ∧ cntF l i = cntF a i - cntF b i := fun i hi => by
      rcases Int.lt_trichotomy x.1 i with h | h | h
      · exact k3 i h
      · exact absurd h hi
      · rw [cnt_low k1 (by omega), cnt_low ta (by omega), cnt_low tb (by omega)]
        omega
    split
    · rename_i h0
      refine ⟨?_, k2, fun i hi => ?_⟩
      · cases l with
        | nil => rfl
        | cons z l => exact chk_from k1 (by have := (chk_head k1).1; omega)
      · simp only [cntF_cons, e]
        by_cases e' : x.1 = (i : Int)
        · simp only [if_pos e']
          rw [cnt_low k1 (by omega)]
          omega
        · simp only [if_neg e']
          exact hcnt i e'
    · rename_i h0
      refine ⟨chk_cons hx.1 hx.2.1 h0 k1, ?_, fun i hi => ?_⟩
      · intro z hz
        rcases List.mem_cons.mp hz with rfl | hz
        · simp only; omega
        · exact k2 z hz
      · simp only [cntF_cons, e]
        by_cases e' : x.1 = (i : Int)
        · simp only [if_pos e']
          omega
        · simp only [if_neg e']
          exact hcnt i e'
theorem cnt_head {c : Int} {y : Int × Int} {b : List (Int × Int)} (hb : chkF c (y :: b) = true) (hc : -1 ≤ c) : cntF (y :: b) y.1.toNat = y.2.toNat := by
  have := (chk_head hb).1
  rw [cntF_cons, if_pos (by omega)]
theorem lL_stuck : ∀ (a b : List (Int × Int)) (y : Int × Int), chkF y.1 a = true → lL a (y :: b) = none
  | [], b, y, _ => lL_none y b
  | x :: a, b, y, h => by
    have hx := chk_head h
    rw [lL_cons, if_neg (by omega), lL_stuck a b y ?_]
    · rfl
    · cases a with
      | nil => rfl
      | cons z a => exact chk_from (chk_tail h) (by have := (chk_head (chk_tail h)).1; omega)
theorem lL_all : ∀ (a b : List (Int × Int)) (c : Int), -1 ≤ c → chkF c a = true → chkF c b = true → (∀ x ∈ a, 0 ≤ x.2) → (∀ x ∈ b, 0 ≤ x.2) → LsOk c a b (lL a b)
  | [], [], c, _, _, _, _, _ => by
    rw [lL_nil]
    exact ⟨rfl, (fun x hx => by cases hx), fun i _ => ⟨Nat.le_refl _, rfl⟩⟩
  | [], y :: b, c, hc, _, hb, _, pb => by
    rw [lL_none]
    have hy := chk_head hb
    have := pb y (List.mem_cons_self ..)
    refine ⟨y.1.toNat, by omega, by omega, ?_⟩
    rw [cnt_head hb hc]
    show 0 < _
    omega
  | x :: a, [], c, hc, ha, _, pa, _ => by
    rw [lL_right]
    exact LsOk.keep (chk_head ha) (pa x (List.mem_cons_self ..)) (chk_tail ha) rfl (lL_all a [] x.1 (by have := (chk_head ha).1; omega) (chk_tail ha) rfl (fun z hz => pa z (List.mem_cons_of_mem _ hz)) (fun z hz => by cases hz))
  | x :: a, y :: b, c, hc, ha, hb, pa, pb => by
    have hx := chk_head ha
    have hy := chk_head hb
    have py := pb y (List.mem_cons_self ..)
    rw [lL_cons]
    by_cases e : y.1 = x.1
    · rw [if_pos e]
      have tb := chk_tail hb
      rw [e] at tb
      by_cases h1 : x.2 < y.2
      · rw [if_pos h1]
        have px := pa x (List.mem_cons_self ..)
        refine ⟨y.1.toNat, by omega, by omega, ?_⟩
        rw [cnt_head hb hc, e, cnt_head ha hc]
        omega
      · rw [if_neg h1]
        exact LsOk.both hx e py (by omega) (chk_tail ha) tb (lL_all a b x.1 (by omega) (chk_tail ha) tb (fun z hz => pa z (List.mem_cons_of_mem _ hz)) (fun z hz => pb z (List.mem_cons_of_mem _ hz)))
    · rw [if_neg e]
      rcases Int.lt_trichotomy x.1 y.1 with h | h | h
      · exact LsOk.keep hx (pa x (List.mem_cons_self ..)) (chk_tail ha) (chk_from hb h) (lL_all a (y :: b) x.1 (by omega) (chk_tail ha) (chk_from hb h) (fun z hz => pa z (List.mem_cons_of_mem _ hz)) pb)
      · exact absurd h.symm e
      · have ha' : chkF y.1 (x :: a) = true := chk_from ha h
        have hs := lL_stuck (x :: a) b y ha'
        rw [lL_cons, if_neg e] at hs
        rw [hs]
        refine ⟨y.1.toNat, by omega, by omega, ?_⟩
        rw [cnt_head hb hc, cnt_low ha' (by omega)]
        omega
/-- What Less tells. -/
theorem lL_eq {a b : List (Int × Int)} (ha : chkF (-1) a = true) (hb : chkF (-1) b = true) (ia : Bin a) (ib : Bin b) : (∃ l, lL a b = some l ∧ l = barsF (lessF a b) ∧ ∃ g, lessR a b = some g ∧ barsF g = barsF (lessF a b)) ∨ (lL a b = none ∧ lessR a b = none) := by
  have h := lL_all a b (-1) (by omega) ha hb (fun x hx => (ia.pos x hx).1) (fun x hx => (ib.pos x hx).1)
  cases hl : lL a b with
  | none =>
    rw [hl] at h
    obtain ⟨i, h1, h2, h3⟩ := h
    exact Or.inr ⟨rfl, takeL_none (by omega) hb ⟨i, h3⟩⟩
  | some l =>
    rw [hl] at h
    obtain ⟨k1, k2, k3⟩ := h
    refine Or.inl ⟨l, rfl, ?_, ?_⟩
    · refine bars_ext (by omega) k1 (barsF_chk _) k2 (barsF_pos _) fun i h1 h2 => ?_
      rw [(k3 i h2).2, barsF_cnt _ h1]
      rfl
    · obtain ⟨g, hg, he⟩ := takeL_some (f := cntF a) (by omega) hb (fun j => (k3 j (by omega)).1)
      exact ⟨g, hg, barsF_congr fun i _ => by rw [he i]; rfl⟩
end Go.Proofs.Ytmegmjhkjaejgaa.sk
