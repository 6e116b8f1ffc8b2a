/-
  Mathematics of the reference of layer 13: Merge and Less, bar by bar.
-/
import Derived.Test.YtmegmjhkjaejgaaSlD
namespace Go.Proofs.Ytmegmjhkjaejgaa.sk
open Go.RowKit
set_option maxRecDepth 100000

/-- Both together, bar by bar. -/
def mLf : Nat → List (Int × Int) → List (Int × Int) → List (Int × Int)
  | 0, _, _ => []
  | _ + 1, [], b => b
  | _ + 1, x :: a, [] => x :: a
  | n + 1, x :: a, y :: b => if x.1 < y.1 then x :: mLf n a (y :: b) else if y.1 < x.1 then y :: mLf n (x :: a) b else (x.1, ((min (x.2.toNat + y.2.toNat) topC : Nat) : Int)) :: mLf n a b
theorem mLf_more : ∀ (n m : Nat) (a b : List (Int × Int)), a.length + b.length < n → a.length + b.length < m → mLf n a b = mLf m a b
  | 0, _, _, _, h, _ => by omega
  | _, 0, _, _, _, h => by omega
  | _ + 1, _ + 1, [], b, _, _ => by simp only [mLf]
  | _ + 1, _ + 1, x :: a, [], _, _ => by simp only [mLf]
  | n + 1, m + 1, x :: a, y :: b, h1, h2 => by
    simp only [List.length_cons] at h1 h2
    simp only [mLf]
    rw [mLf_more n m a (y :: b) (by simp only [List.length_cons]; omega) (by simp only [List.length_cons]; omega), mLf_more n m (x :: a) b (by simp only [List.length_cons]; omega) (by simp only [List.length_cons]; omega), mLf_more n m a b (by omega) (by omega)]
def mL (a b : List (Int × Int)) : List (Int × Int) := mLf (a.length + b.length + 1) a b
theorem mL_nil (b : List (Int × Int)) : mL [] b = b := by simp only [mL, mLf]
theorem mL_right (a : List (Int × Int)) : mL a [] = a := by cases a <;> simp only [mL, mLf]
theorem mL_cons (x y : Int × Int) (a b : List (Int × Int)) : mL (x :: a) (y :: b) = if x.1 < y.1 then x :: mL a (y :: b) else if y.1 < x.1 then y :: mL (x :: a) b else (x.1, ((min (x.2.toNat + y.2.toNat) topC : Nat) : Int)) :: mL a b := by
  have e : mL (x :: a) (y :: b) = mLf ((x :: a).length + (y :: b).length + 1) (x :: a) (y :: b) := rfl
  rw [e]
  simp only [mLf]
  unfold mL
  rw [mLf_more ((x :: a).length + (y :: b).length) (a.length + (y :: b).length + 1) a (y :: b) (by simp only [List.length_cons]; omega) (by omega), mLf_more ((x :: a).length + (y :: b).length) ((x :: a).length + b.length + 1) (x :: a) b (by simp only [List.length_cons]; omega) (by omega), mLf_more ((x :: a).length + (y :: b).length) (a.length + b.length + 1) a b (by simp only [List.length_cons]; omega) (by omega)]
theorem chk_tail {a : Int} {b : Int × Int} {l : List (Int × Int)} (h : chkF a (b :: l) = true) : chkF b.1 l = true := by
  rw [chkF_cons, Bool.and_eq_true] at h
  exact h.2
theorem chk_head {a : Int} {b : Int × Int} {l : List (Int × Int)} (h : chkF a (b :: l) = true) : a < b.1 ∧ b.1 < 1920 ∧ b.2 ≠ 0 := (chkF_iff.mp h).1 b (List.mem_cons_self ..)
theorem chk_cons {a : Int} {b : Int × Int} {l : List (Int × Int)} (h1 : a < b.1) (h2 : b.1 < 1920) (h3 : b.2 ≠ 0) (h : chkF b.1 l = true) : chkF a (b :: l) = true := by
  rw [chkF_cons, h]
  have e1 : decide (b.1 ≤ a) = false := by simp; omega
  have e2 : decide (1920 ≤ b.1) = false := by simp; omega
  have e3 : (b.2 == 0) = false := by simpa using h3
  rw [e1, e2, e3]
  rfl
theorem chk_from {a a' : Int} {b : Int × Int} {l : List (Int × Int)} (h : chkF a (b :: l) = true) (h1 : a' < b.1) : chkF a' (b :: l) = true := chk_cons h1 (chk_head h).2.1 (chk_head h).2.2 (chk_tail h)
theorem cnt_low : ∀ {l : List (Int × Int)} {a : Int} {i : Nat}, chkF a l = true → (i : Int) ≤ a → cntF l i = 0 := fun {l a i} h hi => cntF_none fun b hb => by
  have := ((chkF_iff.mp h).1 b hb).1
  omega
theorem cnt_top {l : List (Int × Int)} (h : ∀ x ∈ l, 0 ≤ x.2 ∧ x.2 ≤ 18446744073709551615) (i : Nat) : cntF l i ≤ topC := by
  induction l with
  | nil => exact Nat.zero_le _
  | cons b l ih =>
    rw [cntF_cons]
    split
    · have := h b (List.mem_cons_self ..)
      rw [topC_eq]
      omega
    · exact ih fun y hy => h y (List.mem_cons_of_mem _ hy)
theorem mL_all : ∀ (N : Nat) (a b : List (Int × Int)) (c : Int), a.length + b.length ≤ N → -1 ≤ c → chkF c a = true → chkF c b = true → (∀ x ∈ a, 0 ≤ x.2 ∧ x.2 ≤ 18446744073709551615) → (∀ x ∈ b, 0 ≤ x.2 ∧ x.2 ≤ 18446744073709551615) →
    chkF c (mL a b) = true ∧ (∀ x ∈ mL a b, 0 ≤ x.2) ∧ ∀ i : Nat, c < (i : Int) → cntF (mL a b) i = min (cntF a i + cntF b i) topC
  | N, [], b, c, _, _, _, hb, _, pb => by
    rw [mL_nil]
    refine ⟨hb, fun x hx => (pb x hx).1, fun i _ => ?_⟩
    have h0 : cntF [] i = 0 := rfl
    have := cnt_top pb i
    rw [h0]
    omega
  | N, x :: a, [], c, _, _, ha, _, pa, _ => by
    rw [mL_right]
    refine ⟨ha, fun x hx => (pa x hx).1, fun i _ => ?_⟩
    have h0 : cntF [] i = 0 := rfl
    have := cnt_top pa i
    rw [h0]
    omega
  | 0, x :: a, y :: b, c, hN, _, _, _, _, _ => by simp at hN
  | N + 1, x :: a, y :: b, c, hN, hc, ha, hb, pa, pb => by
    rw [mL_cons]
    have hx := chk_head ha
    have hy := chk_head hb
    have ta := chk_tail ha
    have tb := chk_tail hb
    have px := pa x (List.mem_cons_self ..)
    have py := pb y (List.mem_cons_self ..)
    have pa' : ∀ z ∈ a, 0 ≤ z.2 ∧ z.2 ≤ 18446744073709551615 := fun z hz => pa z (List.mem_cons_of_mem _ hz)
    have pb' : ∀ z ∈ b, 0 ≤ z.2 ∧ z.2 ≤ 18446744073709551615 := fun z hz => pb z (List.mem_cons_of_mem _ hz)
    have tc := topC_eq
    simp only [List.length_cons] at hN
    by_cases h1 : x.1 < y.1
    · rw [if_pos h1]
      have hb' := chk_from hb h1
      obtain ⟨k1, k2, k3⟩ := mL_all N a (y :: b) x.1 (by simp only [List.length_cons]; omega) (by omega) ta hb' pa' pb
      refine ⟨chk_cons hx.1 hx.2.1 hx.2.2 k1, ?_, fun i hi => ?_⟩
      · intro z hz
        rcases List.mem_cons.mp hz with rfl | hz
        · exact px.1
        · exact k2 z hz
      · rw [cntF_cons, cntF_cons x a]
        split
        · rename_i e
          rw [cnt_low hb' (by omega)]
          omega
        · rename_i e
          rcases Int.lt_trichotomy x.1 i with h | h | h
          · exact k3 i h
          · exact absurd h e
          · rw [cnt_low k1 (by omega), cnt_low ta (by omega), cnt_low hb' (by omega)]
            rfl
    · rw [if_neg h1]
      by_cases h2 : y.1 < x.1
      · rw [if_pos h2]
        have ha' := chk_from ha h2
        obtain ⟨k1, k2, k3⟩ := mL_all N (x :: a) b y.1 (by simp only [List.length_cons]; omega) (by omega) ha' tb pa pb'
        refine ⟨chk_cons hy.1 hy.2.1 hy.2.2 k1, ?_, fun i hi => ?_⟩
        · intro z hz
          rcases List.mem_cons.mp hz with rfl | hz
          · exact py.1
          · exact k2 z hz
        · rw [cntF_cons, cntF_cons y b]
          split
          · rename_i e
            rw [cnt_low ha' (by omega)]
            omega
          · rename_i e
            rcases Int.lt_trichotomy y.1 i with h | h | h
            · exact k3 i h
            · exact absurd h e
            · rw [cnt_low k1 (by omega), cnt_low tb (by omega), cnt_low ha' (by omega)]
              rfl
      · rw [if_neg h2]
        have e : y.1 = x.1 := by omega
        rw [e] at tb
        obtain ⟨k1, k2, k3⟩ := mL_all N a b x.1 (by omega) (by omega) ta tb pa' pb'
        refine ⟨chk_cons hx.1 hx.2.1 (by simp only; omega) k1, ?_, fun i hi => ?_⟩
        · intro z hz
          rcases List.mem_cons.mp hz with rfl | hz
          · simp only; omega
          · exact k2 z hz
        · rw [cntF_cons, cntF_cons x a, cntF_cons y b, e]
          simp only
          split
          · omega
          · rename_i e'
            rcases Int.lt_trichotomy x.1 i with h | h | h
            · exact k3 i h
            · exact absurd h e'
            · rw [cnt_low k1 (by omega), cnt_low ta (by omega), cnt_low tb (by omega)]
              rfl
theorem Bin.pos {l : List (Int × Int)} (h : Bin l) : ∀ x ∈ l, 0 ≤ x.2 ∧ x.2 ≤ 18446744073709551615 := fun x hx => ⟨(h x hx).2.2.1, (h x hx).2.2.2⟩
theorem mL_eq {a b : List (Int × Int)} (ha : chkF (-1) a = true) (hb : chkF (-1) b = true) (ia : Bin a) (ib : Bin b) : mL a b = barsF (mergeF a b) := by
  obtain ⟨k1, k2, k3⟩ := mL_all _ a b (-1) (Nat.le_refl _) (by omega) ha hb ia.pos ib.pos
  refine bars_ext (by omega) k1 (barsF_chk _) k2 (barsF_pos _) fun i h1 h2 => ?_
  rw [k3 i h2, barsF_cnt _ h1]
  rfl
/-- What is left, bar by bar. -/
def lL : List (Int × Int) → List (Int × Int) → Option (List (Int × Int))
  | [], [] => some []
  | [], _ :: _ => none
  | x :: a, [] => (lL a []).map (x :: ·)
  | x :: a, y :: b => if y.1 = x.1 then (if x.2 < y.2 then none else if x.2 - y.2 = 0 then lL a b else (lL a b).map ((x.1, x.2 - y.2) :: ·)) else (lL a (y :: b)).map (x :: ·)
end Go.Proofs.Ytmegmjhkjaejgaa.sk
