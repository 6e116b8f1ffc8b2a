/-
  Merged: CM, CA, CO, CS.
-/
import Derived.Test.YtbefeobikjnlpaaGreatDoorZmq
import Derived.Test.YtbefeobikjnlpaaGreatDoorSkAq
import Derived.Test.YtbefeobikjnlpaaGreatDoorSkHq
import Derived.Shelf.Spec.BitsCarry
import Derived.Test.YtbefeobikjnlpaaGreatDoorWaq
import Derived.Deep.RegionHeld3
import Derived.Sort.Grow
import Derived.Laws.StructEq
namespace Go.Proofs.YtbefeobikjnlpaaGreatDoor.sk
open Go
set_option maxRecDepth 100000

/-- A call: hour, from, to, failed, took. -/
abbrev Cal := Int × ByteArray × ByteArray × Bool × Int
def failN (c : Cal) : Nat := if c.2.2.2.1 then 1 else 0
def tookN (c : Cal) : Nat := c.2.2.2.2.toNat
def failI (b : Bool) : Int := if b then 1 else 0
def cmpC (a b : Cal) : Int := orL [cmpI a.1 b.1, cmpS a.2.1 b.2.1, cmpS a.2.2.1 b.2.2.1, cmpI (failI a.2.2.2.1) (failI b.2.2.2.1), cmpI a.2.2.2.2 b.2.2.2.2]
def SortedC (l : List Cal) : Prop := l.Pairwise fun x y => cmpC x y ≤ 0
theorem SortedC.tail {c : Cal} {l : List Cal} (h : SortedC (c :: l)) : SortedC l := (List.pairwise_cons.1 h).2
/-- Sums over lists. -/
def sumC (g : Cal → Nat) (l : List Cal) : Nat := (l.map g).sum
theorem sumC_nil (g : Cal → Nat) : sumC g [] = 0 := rfl
theorem sumC_cons (g : Cal → Nat) (c : Cal) (l : List Cal) : sumC g (c :: l) = g c + sumC g l := by simp [sumC]
theorem sumC_append (g : Cal → Nat) (l m : List Cal) : sumC g (l ++ m) = sumC g l + sumC g m := by simp [sumC]
theorem sumC_perm (g : Cal → Nat) {l m : List Cal} (h : l.Perm m) : sumC g l = sumC g m := (h.map g).sum_nat
theorem sumC_le {g : Cal → Nat} {b : Nat} : ∀ {l : List Cal}, (∀ c ∈ l, g c ≤ b) → sumC g l ≤ l.length * b
  | [], _ => by simp [sumC]
  | c :: l, h => by
    have h1 := h c (List.mem_cons_self ..)
    have h2 := sumC_le (l := l) fun x hx => h x (List.mem_cons_of_mem _ hx)
    rw [sumC_cons, List.length_cons, Nat.add_mul]
    omega
def oneC (c : Cal) (i : Nat) : Nat := if i = idxN (tookN c) then 1 else 0
theorem oneC_le (c : Cal) (i : Nat) : oneC c i ≤ 1 := by unfold oneC; split <;> omega
/-- How many calls have each bar. -/
def histF (l : List Cal) : Nat → Nat := fun i => sumC (fun c => oneC c i) l
theorem histF_cons (c : Cal) (l : List Cal) (i : Nat) : histF (c :: l) i = oneC c i + histF l i := sumC_cons _ _ _
theorem histF_le (l : List Cal) (i : Nat) : histF l i ≤ l.length := by
  have := sumC_le (g := fun c => oneC c i) (b := 1) (l := l) fun c _ => oneC_le c i
  unfold histF
  omega
theorem failN_le (c : Cal) : failN c ≤ 1 := by unfold failN; split <;> omega
theorem sumF_le (l : List Cal) : sumC failN l ≤ l.length := by
  have := sumC_le (b := 1) (l := l) fun c _ => failN_le c
  omega
end Go.Proofs.YtbefeobikjnlpaaGreatDoor.sk

namespace Go.Proofs.YtbefeobikjnlpaaGreatDoor.sk
open Go.RowKit
set_option maxRecDepth 100000

theorem addc_run (x y c : Nat) (hc : c ≤ 1) (w : World) :
    (callFunc 64 #[.int .u64 (x : Int), .int .u64 (y : Int), .int .u64 (c : Int)]).run Tryz.prog w =
      .ok (.value (.tuple #[.int .u64 (((x + y + c) % 18446744073709551616 : Nat) : Int), .int .u64 (((x + y + c) / 18446744073709551616 : Nat) : Int)])) w := by
  rw [run_callFunc_extern Tryz.func64 (by kernel_rfl) (by kernel_rfl) (by kernel_rfl) (e := add64Entry) (by kernel_rfl), run_add64 x y c (by omega) (by omega) (by omega) (by omega)]
  simp only [Result.andThen]
  congr 5 <;> omega
def top128 : Nat := 340282366920938463463374607431768211455
theorem top128_eq : top128 = 340282366920938463463374607431768211455 := rfl
theorem natV_top : natV top128 = .agg #[.int .u64 18446744073709551615, .int .u64 18446744073709551615] := rfl
/-- The sum, or the greatest number there is. -/
def addT (n m : Nat) : Nat := min (n + m) top128
theorem addT_hi (n m : Nat) (h : n + m ≤ top128) : hi64 (addT n m) = hi64 n + hi64 m + (lo64 n + lo64 m) / 18446744073709551616 ∧ lo64 (addT n m) = (lo64 n + lo64 m) % 18446744073709551616 := by
  rw [top128_eq] at h
  have e : addT n m = n + m := by unfold addT; rw [top128_eq]; omega
  rw [e]
  unfold hi64 lo64
  omega
theorem addT_over (n m : Nat) (hn : n ≤ top128) (hm : m ≤ top128) : (hi64 n + hi64 m + (lo64 n + lo64 m) / 18446744073709551616) / 18446744073709551616 = if n + m ≤ top128 then 0 else 1 := by
  rw [top128_eq] at *
  unfold hi64 lo64
  split <;> omega
theorem carry_le (n m : Nat) : (lo64 n + lo64 m) / 18446744073709551616 ≤ 1 := by unfold lo64; omega
set_option maxHeartbeats 1000000 in
theorem cplus_any (n m : Nat) (hn : n ≤ top128) (hm : m ≤ top128) (w : World) :
    Calls Tryz.prog 38 #[natV n, natV m] w fun e w' => e = .returned (natV (addT n m)) ∧ Below w.heap.size w w' := by
  have A := addc_run (lo64 n) (lo64 m) 0 (by omega)
  have B := addc_run (hi64 n) (hi64 m) ((lo64 n + lo64 m) / 18446744073709551616) (carry_le n m)
  have ov := addT_over n m hn hm
  rw [ov] at B
  simp only [Nat.add_zero] at A
  by_cases h : n + m ≤ top128
  · obtain ⟨e1, e2⟩ := addT_hi n m h
    rw [if_pos h] at ov B
    have e3 : (hi64 n + hi64 m + (lo64 n + lo64 m) / 18446744073709551616) % 18446744073709551616 = hi64 (addT n m) := by omega
    rw [e3] at B
    rw [← e2] at A
    unfold natV
    obtain ⟨c, hc⟩ : ∃ c : Int, (((lo64 n + lo64 m) / 18446744073709551616 : Nat) : Int) = c := ⟨_, rfl⟩
    rw [hc] at A B
    obtain ⟨x0, hx0⟩ : ∃ x : Int, (lo64 n : Int) = x := ⟨_, rfl⟩
    obtain ⟨x1, hx1⟩ : ∃ x : Int, (hi64 n : Int) = x := ⟨_, rfl⟩
    obtain ⟨y0, hy0⟩ : ∃ x : Int, (lo64 m : Int) = x := ⟨_, rfl⟩
    obtain ⟨y1, hy1⟩ : ∃ x : Int, (hi64 m : Int) = x := ⟨_, rfl⟩
    obtain ⟨z0, hz0⟩ : ∃ x : Int, (lo64 (addT n m) : Int) = x := ⟨_, rfl⟩
    obtain ⟨z1, hz1⟩ : ∃ x : Int, (hi64 (addT n m) : Int) = x := ⟨_, rfl⟩
    rw [hx0, hy0, hz0] at A
    rw [hx1, hy1, hz1] at B
    rw [hx0, hx1, hy0, hy1, hz0, hz1]
    clear hx0 hx1 hy0 hy1 hz0 hz1 hc e1 e2 e3 ov h hn hm
    simp only [Int.natCast_zero] at A B
    go_enter Tryz.func38, Tryz.ntmps38
    go_wp2_with (first | (simp only [A]) | (simp only [B]))
    go_returns
    exact ⟨rfl, by repeat' first | exact Below.refl _ _ | refine Below.alloc ?_ (by first | exact Nat.le_refl _ | (simp; done) | (simp; omega)) _⟩
  · have e : addT n m = top128 := by unfold addT; omega
    rw [if_neg h] at ov B
    rw [e, natV_top]
    unfold natV
    obtain ⟨c, hc⟩ : ∃ c : Int, (((lo64 n + lo64 m) / 18446744073709551616 : Nat) : Int) = c := ⟨_, rfl⟩
    rw [hc] at A B
    obtain ⟨x0, hx0⟩ : ∃ x : Int, (lo64 n : Int) = x := ⟨_, rfl⟩
    obtain ⟨x1, hx1⟩ : ∃ x : Int, (hi64 n : Int) = x := ⟨_, rfl⟩
    obtain ⟨y0, hy0⟩ : ∃ x : Int, (lo64 m : Int) = x := ⟨_, rfl⟩
    obtain ⟨y1, hy1⟩ : ∃ x : Int, (hi64 m : Int) = x := ⟨_, rfl⟩
    obtain ⟨z0, hz0⟩ : ∃ x : Int, (((lo64 n + lo64 m) % 18446744073709551616 : Nat) : Int) = x := ⟨_, rfl⟩
    obtain ⟨z1, hz1⟩ : ∃ x : Int, (((hi64 n + hi64 m + (lo64 n + lo64 m) / 18446744073709551616) % 18446744073709551616 : Nat) : Int) = x := ⟨_, rfl⟩
    rw [hx0, hy0, hz0] at A
    rw [hx1, hy1, hz1] at B
    rw [hx0, hx1, hy0, hy1]
    clear hx0 hx1 hy0 hy1 hz0 hz1 hc e ov h hn hm
    simp only [Int.natCast_zero, Int.natCast_one] at A B
    go_enter Tryz.func38, Tryz.ntmps38
    go_wp2_with (first | (simp only [A]) | (simp only [B]))
    go_returns
    exact ⟨rfl, by repeat' first | exact Below.refl _ _ | refine Below.alloc ?_ (by first | exact Nat.le_refl _ | (simp; done) | (simp; omega)) _⟩
end Go.Proofs.YtbefeobikjnlpaaGreatDoor.sk

namespace Go.Proofs.YtbefeobikjnlpaaGreatDoor.sk
open Go.RowKit
set_option maxRecDepth 100000

/-- A call's cells, and its value. -/
def calL (x : Cal) : List Value := [.int .i64 x.1, .string x.2.1, .string x.2.2.1, .bool x.2.2.2.1, .int .u64 x.2.2.2.2]
theorem calL_len (x : Cal) : (calL x).length = 5 := rfl
theorem calL_one (x : Cal) : ∀ v ∈ calL x, v.oneCell' = true := by
  intro v hv
  simp [calL] at hv
  rcases hv with rfl | rfl | rfl | rfl | rfl <;> rfl
def calV (x : Cal) : Value := .agg (calL x).toArray
theorem fails_any (h : Int) (s t : ByteArray) (f : Bool) (k : Int) (w : World) :
    Calls Tryz.prog 39 #[.agg #[.int .i64 h, .string s, .string t, .bool f, .int .u64 k]] w fun e w' => e = .returned (.int .u64 (failI f)) ∧ w' = w.alloc (.cells #[.int .i64 h, .string s, .string t, .bool f, .int .u64 k] 68) := by
  cases f
  · go_enter Tryz.func39, Tryz.ntmps39
    go_wp2
    go_ret
    exact ⟨rfl, rfl⟩
  · go_enter Tryz.func39, Tryz.ntmps39
    go_wp2
    go_ret
    exact ⟨rfl, rfl⟩
end Go.Proofs.YtbefeobikjnlpaaGreatDoor.sk

namespace Go.Proofs.YtbefeobikjnlpaaGreatDoor.sk
open Go.RowKit
set_option maxRecDepth 100000

theorem run_neqS {T : TypeId} {xs ys : Array Value} {b : Bool} {W : World} (h : (Op.equalIn 10000 T (.agg xs) (.agg ys)).run Tryz.prog W = .ok b W) : (binOp .neq T (.agg xs) (.agg ys)).run Tryz.prog W = .ok (.bool (!b)) W := by
  rw [run_neq_struct, h]; rfl
theorem run_eqlS {T : TypeId} {xs ys : Array Value} {b : Bool} {W : World} (h : (Op.equalIn 10000 T (.agg xs) (.agg ys)).run Tryz.prog W = .ok b W) : (binOp .eql T (.agg xs) (.agg ys)).run Tryz.prog W = .ok (.bool b) W := by
  rw [run_eql_struct, h]; rfl
theorem eqI_nat (d : Nat) (a b a' b' : Int) (W : World) : (Op.equalIn (d + 2) 40 (.agg #[.int .u64 a, .int .u64 b]) (.agg #[.int .u64 a', .int .u64 b'])).run Tryz.prog W = .ok (decide (a = a' ∧ b = b')) W := by
  have u3 := Tryz.underlying38
  have a3 := Tryz.isAgg38
  have z3 := Tryz.sizeOf38
  have hS : Tryz.prog.underlying 40 = some (.struct (Tryz.prog.fieldsOf 40)) := by kernel_rfl
  have hp : Tryz.prog.stoodInHeld 40 = false := by kernel_rfl
  rw [run_equalIn_agg W (d + 1) 40 _ _ hS hp]
  simp only [Program.fieldsOf, Tryz.underlying40]
  go_simp
  by_cases h1 : a = a' <;> by_cases h2 : b = b' <;> simp [h1, h2]
theorem str_eq (s s' : ByteArray) : (s.toList == s'.toList) = decide (s = s') := by
  by_cases h : s = s'
  · simp [h]
  · have : ¬ s.toList = s'.toList := fun e => h (bytes_ext _ _ e)
    simp [h, this]
theorem eqI_call (d : Nat) (h h' : Int) (s t s' t' : ByteArray) (f f' : Bool) (k k' : Int) (W : World) : (Op.equalIn (d + 4) 68 (.agg #[.int .i64 h, .string s, .string t, .bool f, .int .u64 k]) (.agg #[.int .i64 h', .string s', .string t', .bool f', .int .u64 k'])).run Tryz.prog W = .ok (decide (h = h' ∧ s = s' ∧ t = t' ∧ f = f' ∧ k = k')) W := by
  have u1 := Tryz.underlying2
  have a1 := Tryz.isAgg2
  have z1 := Tryz.sizeOf2
  have u2 := Tryz.underlying4
  have a2 := Tryz.isAgg4
  have z2 := Tryz.sizeOf4
  have u3 := Tryz.underlying38
  have a3 := Tryz.isAgg38
  have z3 := Tryz.sizeOf38
  have u4 := Tryz.underlying66
  have u5 := Tryz.underlying9
  have a5 := Tryz.isAgg9
  have z5 := Tryz.sizeOf9
  have a4 := Tryz.isAgg66
  have z4 := Tryz.sizeOf66
  have hS : Tryz.prog.underlying 68 = some (.struct (Tryz.prog.fieldsOf 68)) := by kernel_rfl
  have hp : Tryz.prog.stoodInHeld 68 = false := by kernel_rfl
  have hs : s.toList = s'.toList ↔ s = s' := ⟨bytes_ext _ _, fun e => by rw [e]⟩
  have ht : t.toList = t'.toList ↔ t = t' := ⟨bytes_ext _ _, fun e => by rw [e]⟩
  rw [run_equalIn_agg W (d + 3) 68 _ _ hS hp]
  simp only [Program.fieldsOf, Tryz.underlying68]
  go_simp
  by_cases h1 : h = h' <;> by_cases h2 : s = s' <;> by_cases h3 : t = t' <;> by_cases h4 : f = f' <;> by_cases h5 : k = k' <;> first | (simp [h1, h2, h3, h4, h5]; done) | (simp [h1, h2, h3, h4, h5, hs]; done) | (simp [h1, h2, h3, h4, h5, ht]; done) | (simp [h1, h2, h3, h4, h5, hs, ht]; done)
end Go.Proofs.YtbefeobikjnlpaaGreatDoor.sk
