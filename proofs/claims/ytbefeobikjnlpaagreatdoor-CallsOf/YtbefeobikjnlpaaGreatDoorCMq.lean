/-
  Merged: CM, CA, CO, CS.
-/
import Derived.Test.YtbefeobikjnlpaaGreatDoorZmq
import Derived.Test.YtbefeobikjnlpaaGreatDoorSkAq
import Derived.Test.YtbefeobikjnlpaaGreatDoorSkHq
import Derived.Shelf.Spec.BitsCarry
import Derived.Test.YtbefeobikjnlpaaGreatDoorWaq
import Derived.Deep.RegionHeld3
import Derived.Sort.Grow
import Derived.Laws.StructEq
namespace Go.Proofs.YtbefeobikjnlpaaGreatDoor.sk
open Go
set_option maxRecDepth 100000

/-- A call: hour, from, to, failed, took. -/
abbrev Cal := Int × ByteArray × ByteArray × Bool × Int
def failN (c : Cal) : Nat := if c.2.2.2.1 then 1 else 0
def tookN (c : Cal) : Nat := c.2.2.2.2.toNat
def failI (b : Bool) : Int := if b then 1 else 0
def cmpC (a b : Cal) : Int := orL [cmpI a.1 b.1, cmpS a.2.1 b.2.1, cmpS a.2.2.1 b.2.2.1, cmpI (failI a.2.2.2.1) (failI b.2.2.2.1), cmpI a.2.2.2.2 b.2.2.2.2]
theorem good_cmpB : Good (fun a b : Bool => cmpI (failI a) (failI b)) := good_cmpI.comap failI (fun a b h => by cases a <;> cases b <;> simp_all [failI])
theorem good_cmpC : Good cmpC := by
  have := good_cmpI.lex (good_cmpS.lex (good_cmpS.lex (good_cmpB.lex good_cmpI)))
  have e : cmpC = fun a b : Cal => orI (cmpI a.1 b.1) (orI (cmpS a.2.1 b.2.1) (orI (cmpS a.2.2.1 b.2.2.1) (orI (cmpI (failI a.2.2.2.1) (failI b.2.2.2.1)) (cmpI a.2.2.2.2 b.2.2.2.2)))) := by
    funext a b
    simp [cmpC, orL, orI_zero]
  rw [e]
  exact this
/-- How often a call is in a list. -/
def cntC (x : Cal) : List Cal → Nat
  | [] => 0
  | c :: l => cntC x l + if c = x then 1 else 0
theorem cntC_nil (x : Cal) : cntC x [] = 0 := rfl
theorem cntC_cons (x c : Cal) (l : List Cal) : cntC x (c :: l) = cntC x l + if c = x then 1 else 0 := rfl
theorem cntC_append (x : Cal) : ∀ l m : List Cal, cntC x (l ++ m) = cntC x l + cntC x m
  | [], m => by rw [List.nil_append, cntC_nil, Nat.zero_add]
  | c :: l, m => by rw [List.cons_append, cntC_cons, cntC_cons, cntC_append x l m]; omega
theorem cntC_eq (x : Cal) (l : List Cal) : cntC x l = @List.count Cal instBEqOfDecidableEq x l := by
  induction l with
  | nil => rfl
  | cons c l ih =>
    rw [cntC_cons, ih, @List.count_cons Cal instBEqOfDecidableEq]
    congr 1
    by_cases h : c = x
    · rw [if_pos h, if_pos (@beq_iff_eq Cal instBEqOfDecidableEq _ c x |>.2 h)]
    · rw [if_neg h, if_neg (fun e => h (@beq_iff_eq Cal instBEqOfDecidableEq _ c x |>.1 e))]
theorem cntC_perm {l m : List Cal} : l.Perm m ↔ ∀ x, cntC x l = cntC x m := by
  rw [@List.perm_iff_count Cal instBEqOfDecidableEq _ l m]
  simp only [cntC_eq]
theorem cntC_mem {x : Cal} : ∀ {l : List Cal}, 0 < cntC x l ↔ x ∈ l
  | [] => by simp [cntC]
  | c :: l => by
    rw [cntC_cons, List.mem_cons, ← cntC_mem (l := l)]
    by_cases h : c = x
    · subst h; simp
    · rw [if_neg h]
      constructor
      · intro h1; exact Or.inr (by omega)
      · rintro (h1 | h1)
        · exact absurd h1.symm h
        · omega
theorem cntC_zero {x : Cal} {l : List Cal} : cntC x l = 0 ↔ x ∉ l := by
  rw [← cntC_mem]
  omega
def SortedC (l : List Cal) : Prop := l.Pairwise fun x y => cmpC x y ≤ 0
theorem SortedC.tail {c : Cal} {l : List Cal} (h : SortedC (c :: l)) : SortedC l := (List.pairwise_cons.1 h).2
/-- Without those at the head that stand ahead of c. -/
def dropL (c : Cal) : List Cal → List Cal
  | [] => []
  | b :: l => if cmpC b c < 0 then dropL c l else b :: l
theorem dropL_cons (c b : Cal) (l : List Cal) : dropL c (b :: l) = if cmpC b c < 0 then dropL c l else b :: l := rfl
theorem dropL_split (c : Cal) : ∀ l : List Cal, ∃ P, l = P ++ dropL c l ∧ ∀ x ∈ P, cmpC x c < 0
  | [] => ⟨[], rfl, fun _ h => by cases h⟩
  | b :: l => by
    rw [dropL_cons]
    split
    · rename_i h
      obtain ⟨P, e, hp⟩ := dropL_split c l
      refine ⟨b :: P, by rw [List.cons_append, ← e], fun x hx => ?_⟩
      rcases List.mem_cons.1 hx with rfl | hx
      · exact h
      · exact hp x hx
    · exact ⟨[], rfl, fun _ h => by cases h⟩
theorem dropL_sorted {c : Cal} {l : List Cal} (h : SortedC l) : SortedC (dropL c l) := by
  obtain ⟨P, e, _⟩ := dropL_split c l
  unfold SortedC at *
  rw [e] at h
  exact (List.pairwise_append.1 h).2.1
theorem dropL_ge {c : Cal} : ∀ {l : List Cal}, SortedC l → ∀ x ∈ dropL c l, 0 ≤ cmpC x c
  | [], _, x, hx => by cases hx
  | b :: l, h, x, hx => by
    rw [dropL_cons] at hx
    split at hx
    · exact dropL_ge h.tail x hx
    · rename_i h0
      rcases List.mem_cons.1 hx with rfl | hx
      · omega
      · have h1 := (List.pairwise_cons.1 h).1 x hx
        have h2 := good_cmpC.anti x b
        rcases Int.lt_or_le (cmpC x c) 0 with h3 | h3
        · exfalso
          have := good_cmpC.trans b x c h1 (by omega)
          have hbc : cmpC b c = 0 := by omega
          have := (good_cmpC.eq b c).1 hbc
          subst this
          have := good_cmpC.anti x b
          omega
        · exact h3
/-- What the first list has more often (both in their order). -/
def woL : List Cal → List Cal → List Cal
  | [], _ => []
  | c :: A, B => if (dropL c B).head? = some c then woL A (dropL c B).tail else c :: woL A (dropL c B)
theorem woL_cons (c : Cal) (A B : List Cal) : woL (c :: A) B = if (dropL c B).head? = some c then woL A (dropL c B).tail else c :: woL A (dropL c B) := rfl
theorem woL_sub : ∀ A B : List Cal, (woL A B).Sublist A
  | [], _ => List.Sublist.refl _
  | c :: A, B => by
    rw [woL_cons]
    split
    · exact (woL_sub A _).cons _
    · exact (woL_sub A _).cons_cons _
theorem woL_count : ∀ {A B : List Cal}, SortedC A → SortedC B → ∀ x, cntC x (woL A B) = cntC x A - cntC x B
  | [], B, _, _, x => by simp [woL, cntC]
  | c :: A, B, hA, hB, x => by
    obtain ⟨P, e, hp⟩ := dropL_split c B
    have hD := dropL_sorted (c := c) hB
    have hge := dropL_ge (c := c) hB
    have hAc := (List.pairwise_cons.1 hA).1
    have hcB : cntC x B = cntC x P + cntC x (dropL c B) := by rw [← cntC_append, ← e]
    have hPx : cntC x P ≠ 0 → cntC x (c :: A) = 0 := fun h0 => by
      have hx : x ∈ P := cntC_mem.1 (by omega)
      have h1 := hp x hx
      refine cntC_zero.2 fun hm => ?_
      rcases List.mem_cons.1 hm with rfl | hm
      · have := (good_cmpC.eq x x).2 rfl; omega
      · have h2 := hAc x hm
        have h3 := good_cmpC.anti c x
        omega
    rw [woL_cons]
    split
    · rename_i hh
      obtain ⟨T, hT⟩ : ∃ T, dropL c B = c :: T := by
        cases hd : dropL c B with
        | nil => rw [hd] at hh; simp at hh
        | cons d T => rw [hd] at hh; simp at hh; subst hh; exact ⟨T, rfl⟩
      rw [hT] at hD hcB ⊢
      have ih := woL_count hA.tail hD.tail x
      rw [List.tail_cons, ih, hcB]
      by_cases h0 : cntC x P = 0
      · rw [h0, Nat.zero_add, cntC_cons, cntC_cons]
        omega
      · have := hPx h0
        rw [cntC_cons] at this
        omega
    · rename_i hh
      have ih := woL_count hA.tail hD x
      have hc0 : cntC c (dropL c B) = 0 := by
        refine cntC_zero.2 fun hm => ?_
        cases hd : dropL c B with
        | nil => rw [hd] at hm; cases hm
        | cons d T =>
          rw [hd] at hm hh hD hge
          have h1 := hge d (List.mem_cons_self ..)
          rcases List.mem_cons.1 hm with rfl | hm
          · simp at hh
          · have h2 := (List.pairwise_cons.1 hD).1 c hm
            have h3 : cmpC d c = 0 := by omega
            have := (good_cmpC.eq d c).1 h3
            subst this
            simp at hh
      rw [cntC_cons, ih, hcB, cntC_cons]
      by_cases hx : c = x
      · subst hx
        have hP0 : cntC c P = 0 := by
          by_cases h0 : cntC c P = 0
          · exact h0
          · have := hPx h0
            rw [cntC_cons, if_pos rfl] at this
            omega
        rw [hc0, hP0]
        omega
      · rw [if_neg hx]
        by_cases h0 : cntC x P = 0
        · omega
        · have := hPx h0
          rw [cntC_cons, if_neg hx] at this
          omega
theorem woL_sorted {A B : List Cal} (h : SortedC A) : SortedC (woL A B) := List.Pairwise.sublist (woL_sub A B) h
/-- What both have. -/
theorem woL_common {A B : List Cal} (hA : SortedC A) (hB : SortedC B) : ∃ m, (woL A B ++ m).Perm A ∧ (woL B A ++ m).Perm B := by
  refine ⟨woL A (woL A B), cntC_perm.2 fun x => ?_, cntC_perm.2 fun x => ?_⟩
  · rw [cntC_append, woL_count hA (woL_sorted hA), woL_count hA hB]
    omega
  · rw [cntC_append, woL_count hA (woL_sorted hA), woL_count hA hB, woL_count hB hA]
    omega
theorem woL_same {A B : List Cal} (hA : SortedC A) (hB : SortedC B) (h : A.Perm B) : woL A B = [] := by
  refine List.eq_nil_iff_forall_not_mem.2 fun x hx => ?_
  have h1 := cntC_mem.2 hx
  rw [woL_count hA hB, cntC_perm.1 h x] at h1
  omega
/-- Sums over lists. -/
def sumC (g : Cal → Nat) (l : List Cal) : Nat := (l.map g).sum
theorem sumC_nil (g : Cal → Nat) : sumC g [] = 0 := rfl
theorem sumC_cons (g : Cal → Nat) (c : Cal) (l : List Cal) : sumC g (c :: l) = g c + sumC g l := by simp [sumC]
theorem sumC_append (g : Cal → Nat) (l m : List Cal) : sumC g (l ++ m) = sumC g l + sumC g m := by simp [sumC]
theorem sumC_perm (g : Cal → Nat) {l m : List Cal} (h : l.Perm m) : sumC g l = sumC g m := (h.map g).sum_nat
theorem sumC_le {g : Cal → Nat} {b : Nat} : ∀ {l : List Cal}, (∀ c ∈ l, g c ≤ b) → sumC g l ≤ l.length * b
  | [], _ => by simp [sumC]
  | c :: l, h => by
    have h1 := h c (List.mem_cons_self ..)
    have h2 := sumC_le (l := l) fun x hx => h x (List.mem_cons_of_mem _ hx)
    rw [sumC_cons, List.length_cons, Nat.add_mul]
    omega
def oneC (c : Cal) (i : Nat) : Nat := if i = idxN (tookN c) then 1 else 0
theorem oneC_le (c : Cal) (i : Nat) : oneC c i ≤ 1 := by unfold oneC; split <;> omega
/-- How many calls have each bar. -/
def histF (l : List Cal) : Nat → Nat := fun i => sumC (fun c => oneC c i) l
theorem histF_cons (c : Cal) (l : List Cal) (i : Nat) : histF (c :: l) i = oneC c i + histF l i := sumC_cons _ _ _
theorem histF_le (l : List Cal) (i : Nat) : histF l i ≤ l.length := by
  have := sumC_le (g := fun c => oneC c i) (b := 1) (l := l) fun c _ => oneC_le c i
  unfold histF
  omega
theorem failN_le (c : Cal) : failN c ≤ 1 := by unfold failN; split <;> omega
theorem sumF_le (l : List Cal) : sumC failN l ≤ l.length := by
  have := sumC_le (b := 1) (l := l) fun c _ => failN_le c
  omega
end Go.Proofs.YtbefeobikjnlpaaGreatDoor.sk

namespace Go.Proofs.YtbefeobikjnlpaaGreatDoor.sk
open Go.RowKit
set_option maxRecDepth 100000

theorem addc_run (x y c : Nat) (hc : c ≤ 1) (w : World) :
    (callFunc 64 #[.int .u64 (x : Int), .int .u64 (y : Int), .int .u64 (c : Int)]).run Tryz.prog w =
      .ok (.value (.tuple #[.int .u64 (((x + y + c) % 18446744073709551616 : Nat) : Int), .int .u64 (((x + y + c) / 18446744073709551616 : Nat) : Int)])) w := by
  rw [run_callFunc_extern Tryz.func64 (by kernel_rfl) (by kernel_rfl) (by kernel_rfl) (e := add64Entry) (by kernel_rfl), run_add64 x y c (by omega) (by omega) (by omega) (by omega)]
  simp only [Result.andThen]
  congr 5 <;> omega
def top128 : Nat := 340282366920938463463374607431768211455
theorem top128_eq : top128 = 340282366920938463463374607431768211455 := rfl
theorem natV_top : natV top128 = .agg #[.int .u64 18446744073709551615, .int .u64 18446744073709551615] := rfl
/-- The sum, or the greatest number there is. -/
def addT (n m : Nat) : Nat := min (n + m) top128
theorem addT_le (n m : Nat) : addT n m ≤ top128 := Nat.min_le_right _ _
theorem addT_hi (n m : Nat) (h : n + m ≤ top128) : hi64 (addT n m) = hi64 n + hi64 m + (lo64 n + lo64 m) / 18446744073709551616 ∧ lo64 (addT n m) = (lo64 n + lo64 m) % 18446744073709551616 := by
  rw [top128_eq] at h
  have e : addT n m = n + m := by unfold addT; rw [top128_eq]; omega
  rw [e]
  unfold hi64 lo64
  omega
theorem addT_over (n m : Nat) (hn : n ≤ top128) (hm : m ≤ top128) : (hi64 n + hi64 m + (lo64 n + lo64 m) / 18446744073709551616) / 18446744073709551616 = if n + m ≤ top128 then 0 else 1 := by
  rw [top128_eq] at *
  unfold hi64 lo64
  split <;> omega
theorem carry_le (n m : Nat) : (lo64 n + lo64 m) / 18446744073709551616 ≤ 1 := by unfold lo64; omega
set_option maxHeartbeats 1000000 in
theorem cplus_any (n m : Nat) (hn : n ≤ top128) (hm : m ≤ top128) (w : World) :
    Calls Tryz.prog 38 #[natV n, natV m] w fun e w' => e = .returned (natV (addT n m)) ∧ Below w.heap.size w w' := by
  have A := addc_run (lo64 n) (lo64 m) 0 (by omega)
  have B := addc_run (hi64 n) (hi64 m) ((lo64 n + lo64 m) / 18446744073709551616) (carry_le n m)
  have ov := addT_over n m hn hm
  rw [ov] at B
  simp only [Nat.add_zero] at A
  by_cases h : n + m ≤ top128
  · obtain ⟨e1, e2⟩ := addT_hi n m h
    rw [if_pos h] at ov B
    have e3 : (hi64 n + hi64 m + (lo64 n + lo64 m) / 18446744073709551616) % 18446744073709551616 = hi64 (addT n m) := by omega
    rw [e3] at B
    rw [← e2] at A
    unfold natV
    obtain ⟨c, hc⟩ : ∃ c : Int, (((lo64 n + lo64 m) / 18446744073709551616 : Nat) : Int) = c := ⟨_, rfl⟩
    rw [hc] at A B
    obtain ⟨x0, hx0⟩ : ∃ x : Int, (lo64 n : Int) = x := ⟨_, rfl⟩
    obtain ⟨x1, hx1⟩ : ∃ x : Int, (hi64 n : Int) = x := ⟨_, rfl⟩
    obtain ⟨y0, hy0⟩ : ∃ x : Int, (lo64 m : Int) = x := ⟨_, rfl⟩
    obtain ⟨y1, hy1⟩ : ∃ x : Int, (hi64 m : Int) = x := ⟨_, rfl⟩
    obtain ⟨z0, hz0⟩ : ∃ x : Int, (lo64 (addT n m) : Int) = x := ⟨_, rfl⟩
    obtain ⟨z1, hz1⟩ : ∃ x : Int, (hi64 (addT n m) : Int) = x := ⟨_, rfl⟩
    rw [hx0, hy0, hz0] at A
    rw [hx1, hy1, hz1] at B
    rw [hx0, hx1, hy0, hy1, hz0, hz1]
    clear hx0 hx1 hy0 hy1 hz0 hz1 hc e1 e2 e3 ov h hn hm
    simp only [Int.natCast_zero] at A B
    go_enter Tryz.func38, Tryz.ntmps38
    go_wp2_with (first | (simp only [A]) | (simp only [B]))
    go_returns
    exact ⟨rfl, by repeat' first | exact Below.refl _ _ | refine Below.alloc ?_ (by first | exact Nat.le_refl _ | (simp; done) | (simp; omega)) _⟩
  · have e : addT n m = top128 := by unfold addT; omega
    rw [if_neg h] at ov B
    rw [e, natV_top]
    unfold natV
    obtain ⟨c, hc⟩ : ∃ c : Int, (((lo64 n + lo64 m) / 18446744073709551616 : Nat) : Int) = c := ⟨_, rfl⟩
    rw [hc] at A B
    obtain ⟨x0, hx0⟩ : ∃ x : Int, (lo64 n : Int) = x := ⟨_, rfl⟩
    obtain ⟨x1, hx1⟩ : ∃ x : Int, (hi64 n : Int) = x := ⟨_, rfl⟩
    obtain ⟨y0, hy0⟩ : ∃ x : Int, (lo64 m : Int) = x := ⟨_, rfl⟩
    obtain ⟨y1, hy1⟩ : ∃ x : Int, (hi64 m : Int) = x := ⟨_, rfl⟩
    obtain ⟨z0, hz0⟩ : ∃ x : Int, (((lo64 n + lo64 m) % 18446744073709551616 : Nat) : Int) = x := ⟨_, rfl⟩
    obtain ⟨z1, hz1⟩ : ∃ x : Int, (((hi64 n + hi64 m + (lo64 n + lo64 m) / 18446744073709551616) % 18446744073709551616 : Nat) : Int) = x := ⟨_, rfl⟩
    rw [hx0, hy0, hz0] at A
    rw [hx1, hy1, hz1] at B
    rw [hx0, hx1, hy0, hy1]
    clear hx0 hx1 hy0 hy1 hz0 hz1 hc e ov h hn hm
    simp only [Int.natCast_zero, Int.natCast_one] at A B
    go_enter Tryz.func38, Tryz.ntmps38
    go_wp2_with (first | (simp only [A]) | (simp only [B]))
    go_returns
    exact ⟨rfl, by repeat' first | exact Below.refl _ _ | refine Below.alloc ?_ (by first | exact Nat.le_refl _ | (simp; done) | (simp; omega)) _⟩
theorem subT_eq (n m : Nat) (h : m ≤ n) (hn : n ≤ top128) : lo64 (n - m) = (lo64 n + 18446744073709551616 - lo64 m - 0) % 18446744073709551616 ∧ hi64 (n - m) = (hi64 n + 18446744073709551616 - hi64 m - (if lo64 n < lo64 m + 0 then 1 else 0)) % 18446744073709551616 := by
  rw [top128_eq] at hn
  unfold hi64 lo64
  constructor
  · omega
  · split <;> omega
/-- Is there as much? -/
def holB (n m : Nat) : Bool := decide (m ≤ n)
theorem holds_iff (n m : Nat) : holB n m = (decide ((hi64 n : Int) = (hi64 m : Int) ∧ (lo64 n : Int) = (lo64 m : Int)) || decide ((hi64 m : Int) < (hi64 n : Int)) || (decide ((hi64 n : Int) = (hi64 m : Int)) && decide ((lo64 m : Int) < (lo64 n : Int)))) := by
  have a := hilo n
  have b := hilo m
  have c := lo64_lt n
  have d := lo64_lt m
  unfold holB
  rw [Bool.eq_iff_iff]
  simp only [decide_eq_true_eq, Bool.or_eq_true, Bool.and_eq_true]
  omega
end Go.Proofs.YtbefeobikjnlpaaGreatDoor.sk

namespace Go.Proofs.YtbefeobikjnlpaaGreatDoor.sk
open Go.RowKit
set_option maxRecDepth 100000

/-- A call's cells, and its value. -/
def calL (x : Cal) : List Value := [.int .i64 x.1, .string x.2.1, .string x.2.2.1, .bool x.2.2.2.1, .int .u64 x.2.2.2.2]
theorem calL_len (x : Cal) : (calL x).length = 5 := rfl
theorem calL_one (x : Cal) : ∀ v ∈ calL x, v.oneCell' = true := by
  intro v hv
  simp [calL] at hv
  rcases hv with rfl | rfl | rfl | rfl | rfl <;> rfl
def calV (x : Cal) : Value := .agg (calL x).toArray
theorem fails_any (h : Int) (s t : ByteArray) (f : Bool) (k : Int) (w : World) :
    Calls Tryz.prog 39 #[.agg #[.int .i64 h, .string s, .string t, .bool f, .int .u64 k]] w fun e w' => e = .returned (.int .u64 (failI f)) ∧ w' = w.alloc (.cells #[.int .i64 h, .string s, .string t, .bool f, .int .u64 k] 68) := by
  cases f
  · go_enter Tryz.func39, Tryz.ntmps39
    go_wp2
    go_ret
    exact ⟨rfl, rfl⟩
  · go_enter Tryz.func39, Tryz.ntmps39
    go_wp2
    go_ret
    exact ⟨rfl, rfl⟩
theorem grown5 (W : World) (o1 o2 o3 o4 o5 : Obj) (m : Nat) : ∃ q os', (((((W.alloc o1).alloc o2).alloc o3).alloc o4).alloc o5).drewN m = Go.Sort.grow (W.drewN q) os' := by
  refine ⟨m, #[o1] ++ #[o2] ++ #[o3] ++ #[o4] ++ #[o5], ?_⟩
  have e : ((((W.heap.push o1).push o2).push o3).push o4).push o5 = W.heap ++ (#[o1] ++ #[o2] ++ #[o3] ++ #[o4] ++ #[o5]) := by
    apply Array.toList_inj.1
    simp
  simp only [World.alloc, World.drewN, Go.Sort.grow]
  simp only [e]
end Go.Proofs.YtbefeobikjnlpaaGreatDoor.sk

namespace Go.Proofs.YtbefeobikjnlpaaGreatDoor.sk
open Go.RowKit
set_option maxRecDepth 100000

theorem run_neqS {T : TypeId} {xs ys : Array Value} {b : Bool} {W : World} (h : (Op.equalIn 10000 T (.agg xs) (.agg ys)).run Tryz.prog W = .ok b W) : (binOp .neq T (.agg xs) (.agg ys)).run Tryz.prog W = .ok (.bool (!b)) W := by
  rw [run_neq_struct, h]; rfl
theorem run_eqlS {T : TypeId} {xs ys : Array Value} {b : Bool} {W : World} (h : (Op.equalIn 10000 T (.agg xs) (.agg ys)).run Tryz.prog W = .ok b W) : (binOp .eql T (.agg xs) (.agg ys)).run Tryz.prog W = .ok (.bool b) W := by
  rw [run_eql_struct, h]; rfl
theorem eqI_nat (d : Nat) (a b a' b' : Int) (W : World) : (Op.equalIn (d + 2) 40 (.agg #[.int .u64 a, .int .u64 b]) (.agg #[.int .u64 a', .int .u64 b'])).run Tryz.prog W = .ok (decide (a = a' ∧ b = b')) W := by
  have u3 := Tryz.underlying38
  have a3 := Tryz.isAgg38
  have z3 := Tryz.sizeOf38
  have hS : Tryz.prog.underlying 40 = some (.struct (Tryz.prog.fieldsOf 40)) := by kernel_rfl
  have hp : Tryz.prog.stoodInHeld 40 = false := by kernel_rfl
  rw [run_equalIn_agg W (d + 1) 40 _ _ hS hp]
  simp only [Program.fieldsOf, Tryz.underlying40]
  go_simp
  by_cases h1 : a = a' <;> by_cases h2 : b = b' <;> simp [h1, h2]
theorem eqI_bar (d : Nat) (a b a' b' : Int) (W : World) : (Op.equalIn (d + 2) 75 (.agg #[.int .i64 a, .int .u64 b]) (.agg #[.int .i64 a', .int .u64 b'])).run Tryz.prog W = .ok (decide (a = a' ∧ b = b')) W := by
  have u3 := Tryz.underlying38
  have a3 := Tryz.isAgg38
  have z3 := Tryz.sizeOf38
  have u1 := Tryz.underlying3
  have a1 := Tryz.isAgg3
  have z1 := Tryz.sizeOf3
  have hS : Tryz.prog.underlying 75 = some (.struct (Tryz.prog.fieldsOf 75)) := by kernel_rfl
  have hp : Tryz.prog.stoodInHeld 75 = false := by kernel_rfl
  rw [run_equalIn_agg W (d + 1) 75 _ _ hS hp]
  simp only [Program.fieldsOf, Tryz.underlying75]
  go_simp
  by_cases h1 : a = a' <;> by_cases h2 : b = b' <;> simp [h1, h2]
theorem str_eq (s s' : ByteArray) : (s.toList == s'.toList) = decide (s = s') := by
  by_cases h : s = s'
  · simp [h]
  · have : ¬ s.toList = s'.toList := fun e => h (bytes_ext _ _ e)
    simp [h, this]
theorem eqI_edge (d : Nat) (s t s' t' : ByteArray) (W : World) : (Op.equalIn (d + 2) 66 (.agg #[.string s, .string t]) (.agg #[.string s', .string t'])).run Tryz.prog W = .ok (decide (s = s' ∧ t = t')) W := by
  have u2 := Tryz.underlying9
  have a2 := Tryz.isAgg9
  have z2 := Tryz.sizeOf9
  have hS : Tryz.prog.underlying 66 = some (.struct (Tryz.prog.fieldsOf 66)) := by kernel_rfl
  have hp : Tryz.prog.stoodInHeld 66 = false := by kernel_rfl
  have hs := str_eq s s'
  have ht := str_eq t t'
  rw [run_equalIn_agg W (d + 1) 66 _ _ hS hp]
  simp only [Program.fieldsOf, Tryz.underlying66]
  go_simp
  by_cases h1 : s = s' <;> by_cases h2 : t = t' <;> simp [h1, h2]
theorem eqI_call (d : Nat) (h h' : Int) (s t s' t' : ByteArray) (f f' : Bool) (k k' : Int) (W : World) : (Op.equalIn (d + 4) 68 (.agg #[.int .i64 h, .string s, .string t, .bool f, .int .u64 k]) (.agg #[.int .i64 h', .string s', .string t', .bool f', .int .u64 k'])).run Tryz.prog W = .ok (decide (h = h' ∧ s = s' ∧ t = t' ∧ f = f' ∧ k = k')) W := by
  have u1 := Tryz.underlying2
  have a1 := Tryz.isAgg2
  have z1 := Tryz.sizeOf2
  have u2 := Tryz.underlying4
  have a2 := Tryz.isAgg4
  have z2 := Tryz.sizeOf4
  have u3 := Tryz.underlying38
  have a3 := Tryz.isAgg38
  have z3 := Tryz.sizeOf38
  have u4 := Tryz.underlying66
  have u5 := Tryz.underlying9
  have a5 := Tryz.isAgg9
  have z5 := Tryz.sizeOf9
  have a4 := Tryz.isAgg66
  have z4 := Tryz.sizeOf66
  have hS : Tryz.prog.underlying 68 = some (.struct (Tryz.prog.fieldsOf 68)) := by kernel_rfl
  have hp : Tryz.prog.stoodInHeld 68 = false := by kernel_rfl
  have hs : s.toList = s'.toList ↔ s = s' := ⟨bytes_ext _ _, fun e => by rw [e]⟩
  have ht : t.toList = t'.toList ↔ t = t' := ⟨bytes_ext _ _, fun e => by rw [e]⟩
  rw [run_equalIn_agg W (d + 3) 68 _ _ hS hp]
  simp only [Program.fieldsOf, Tryz.underlying68]
  go_simp
  by_cases h1 : h = h' <;> by_cases h2 : s = s' <;> by_cases h3 : t = t' <;> by_cases h4 : f = f' <;> by_cases h5 : k = k' <;> first | (simp [h1, h2, h3, h4, h5]; done) | (simp [h1, h2, h3, h4, h5, hs]; done) | (simp [h1, h2, h3, h4, h5, ht]; done) | (simp [h1, h2, h3, h4, h5, hs, ht]; done)
end Go.Proofs.YtbefeobikjnlpaaGreatDoor.sk
