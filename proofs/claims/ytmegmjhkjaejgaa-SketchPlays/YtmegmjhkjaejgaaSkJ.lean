/-
  Contracts of layer 13: Mul64, Div64 (of a number of 64 bits), divide, rank.
-/
import Derived.Test.YtmegmjhkjaejgaaSkI
import Derived.Lib.Mul64
import Derived.Laws.Bits64b
namespace Go.Proofs.Ytmegmjhkjaejgaa.sk
open Go.RowKit
set_option maxRecDepth 100000

theorem mask32 (a : Nat) (ha : a < 18446744073709551616) : bits .and .u64 (a : Int) 4294967295 = ((a % 4294967296 : Nat) : Int) := by
  have h := bits_and_u64_nat a 4294967295 ha (by omega)
  have e : a &&& 4294967295 = a % 4294967296 := Nat.and_two_pow_sub_one_eq_mod a 32
  rw [e] at h
  exact h
theorem div32 (a : Nat) : (a : Int) / 4294967296 = ((a / 4294967296 : Nat) : Int) := by omega
theorem mulw (a b : Nat) (h : a * b < 18446744073709551616) : IntKind.u64.wrap ((a : Int) * (b : Int)) = ((a * b : Nat) : Int) := by
  rw [← Int.natCast_mul, IntKind.wrap_u64]; omega
theorem mulr (a b : Nat) : IntKind.u64.wrap ((a : Int) * (b : Int)) = ((a * b % 18446744073709551616 : Nat) : Int) := by
  rw [← Int.natCast_mul, IntKind.wrap_u64]; omega
theorem addw (a b : Nat) (h : a + b < 18446744073709551616) : IntKind.u64.wrap ((a : Int) + (b : Int)) = ((a + b : Nat) : Int) := by
  rw [← Int.natCast_add, IntKind.wrap_u64]; omega
theorem ret_two {a b c d : Int} (h1 : a = c) (h2 : b = d) : Ending.returned (.tuple #[.int .u64 a, .int .u64 b]) = .returned (.tuple #[.int .u64 c, .int .u64 d]) := by rw [h1, h2]
set_option maxHeartbeats 1000000 in
/-- The walk, over letters. -/
theorem mul64_walk (x y x0 x1 y0 y1 w0 b s t w1 w2 c w3 a h1 s3 H L : Int) (w : World)
    (e1 : bits .and .u64 x 4294967295 = x0) (e2 : x / 4294967296 = x1) (e3 : bits .and .u64 y 4294967295 = y0) (e4 : y / 4294967296 = y1) (e5 : IntKind.u64.wrap (x0 * y0) = w0) (e6 : IntKind.u64.wrap (x1 * y0) = b) (e7 : w0 / 4294967296 = s)
    (e8 : IntKind.u64.wrap (b + s) = t) (e9 : bits .and .u64 t 4294967295 = w1) (e10 : t / 4294967296 = w2) (e11 : IntKind.u64.wrap (x0 * y1) = c) (e12 : IntKind.u64.wrap (w1 + c) = w3) (e13 : IntKind.u64.wrap (x1 * y1) = a) (e14 : IntKind.u64.wrap (a + w2) = h1)
    (e15 : w3 / 4294967296 = s3) (e16 : IntKind.u64.wrap (h1 + s3) = H) (e17 : IntKind.u64.wrap (x * y) = L) :
    Calls Try.prog 43 #[.int .u64 x, .int .u64 y] w fun e w' => e = .returned (.tuple #[.int .u64 H, .int .u64 L]) ∧ w' = w := by
  go_enter Try.func43, Try.ntmps43
  go_wp2
  go_returns
  exact ⟨rfl, rfl⟩
theorem mul64_any (x y : Nat) (hx : x < 18446744073709551616) (hy : y < 18446744073709551616) (w : World) :
    Calls Try.prog 43 #[.int .u64 (x : Int), .int .u64 (y : Int)] w fun e w' => e = .returned (.tuple #[.int .u64 ((x * y / 18446744073709551616 : Nat) : Int), .int .u64 ((x * y % 18446744073709551616 : Nat) : Int)]) ∧ w' = w := by
  obtain ⟨bd, bt, bw, hhi⟩ := Lib.mul64_hi x y hx hy
  have ba := Lib.half_mul_le (a := x / 4294967296) (b := y / 4294967296) (by omega) (by omega)
  have bb := Lib.half_mul_le (a := x / 4294967296) (b := y % 4294967296) (by omega) (by omega)
  have bc := Lib.half_mul_le (a := x % 4294967296) (b := y / 4294967296) (by omega) (by omega)
  refine mul64_walk (x : Int) (y : Int) _ _ _ _ _ _ _ _ _ _ _ _ _ _ _ _ _ w (mask32 x hx) (div32 x) (mask32 y hy) (div32 y) (mulw _ _ bd) (mulw _ _ (by omega)) (div32 _) (addw _ _ bt) (mask32 _ bt) (div32 _) (mulw _ _ (by omega)) (addw _ _ bw) (mulw _ _ (by omega)) (addw _ _ ?_) (div32 _) ?_ (mulr x y)
  · generalize (x / 4294967296) * (y / 4294967296) = a at *
    generalize (x / 4294967296) * (y % 4294967296) = b at *
    generalize (x % 4294967296) * (y / 4294967296) = c at *
    generalize (x % 4294967296) * (y % 4294967296) = d at *
    omega
  · rw [← hhi]
    refine addw _ _ ?_
    generalize (x / 4294967296) * (y / 4294967296) = a at *
    generalize (x / 4294967296) * (y % 4294967296) = b at *
    generalize (x % 4294967296) * (y / 4294967296) = c at *
    generalize (x % 4294967296) * (y % 4294967296) = d at *
    omega
theorem divN (a b : Nat) : (a : Int) / (b : Int) = ((a / b : Nat) : Int) := (Int.natCast_ediv a b).symm
theorem modN (a b : Nat) : (a : Int) % (b : Int) = ((a % b : Nat) : Int) := (Int.natCast_emod a b).symm
/-- What dividing tells. -/
def DivP (q r : Nat) (w : World) (e : Ending) (w' : World) : Prop := e = .returned (.tuple #[.int .u64 (q : Int), .int .u64 (r : Int)]) ∧ ∃ n, w' = w.drewN n
theorem quoN (a b : Nat) (h : a < 18446744073709551616) : IntKind.u64.wrap ((a : Int).tdiv (b : Int)) = ((a / b : Nat) : Int) := by
  have : a / b ≤ a := Nat.div_le_self a b
  rw [Int.tdiv_eq_ediv_of_nonneg (by omega), ← Int.natCast_ediv, IntKind.wrap_u64]
  generalize a / b = q at *
  omega
set_option maxHeartbeats 400000 in
theorem div64_low (lo y : Nat) (hlo : lo < 18446744073709551616) (hy : 0 < y) (w : World) :
    Calls Try.prog 45 #[.int .u64 0, .int .u64 (lo : Int), .int .u64 (y : Int)] w (DivP (lo / y) (lo % y) w) := by
  unfold DivP
  have h1 : (0 : Int) < (y : Int) := by omega
  have h0 : (0 : Int) ≤ (lo : Int) := by omega
  have q1 := quoN lo y hlo
  have q2 := modN lo y
  generalize ((lo / y : Nat) : Int) = Q at *
  generalize ((lo % y : Nat) : Int) = R at *
  generalize (y : Int) = Y at *
  generalize (lo : Int) = X at *
  have h2' : ¬ Y = 0 := by omega
  have h2 : (Y == 0) = false := by simpa using h2'
  clear hy hlo h2'
  go_enter Try.func45, Try.ntmps45
  go_wp2
  go_quiet (fail)
  go_wp2
  go_returns
  exact ⟨ret_two rfl q2, nq, rfl⟩
set_option maxHeartbeats 400000 in
theorem divide_any (n y q r : Nat) (hn : n < 340282366920938463463374607431768211456) (hy : 0 < y) (D : ∀ W, Calls Try.prog 45 #[.int .u64 ((hi64 n % y : Nat) : Int), .int .u64 (lo64 n : Int), .int .u64 (y : Int)] W (DivP q r W)) (w : World) :
    Calls Try.prog 44 #[natV n, .int .u64 (y : Int)] w fun e w' => e = .returned (.tuple #[.agg #[.int .u64 ((hi64 n / y : Nat) : Int), .int .u64 (q : Int)], .int .u64 (r : Int)]) ∧ Below w.heap.size w w' := by
  unfold natV
  have h1 : (0 : Int) < (y : Int) := by omega
  have h0 : (0 : Int) ≤ (hi64 n : Int) := by omega
  have q1 := quoN (hi64 n) y (hi64_lt hn)
  have q2 := modN (hi64 n) y
  generalize ((hi64 n / y : Nat) : Int) = Q at *
  rw [← q2] at D
  clear q2
  generalize (y : Int) = Y at *
  generalize (hi64 n : Int) = X at *
  generalize (lo64 n : Int) = L at *
  have h2' : ¬ Y = 0 := by omega
  have h2 : (Y == 0) = false := by simpa using h2'
  clear hy h2' hn
  have k0 : (w.alloc (.cells #[.int .u64 X, .int .u64 L] 42)).cell? ⟨w.heap.size, 0, none⟩ = some (.int .u64 X) := by simp
  go_enter Try.func44, Try.ntmps44
  go_wp2
  go_quiet (fail)
  obtain ⟨w5, hw5⟩ : ∃ W, ((w.alloc (.cells #[.int .u64 X, .int .u64 L] 42)).alloc (.cells #[.int .u64 0, .int .u64 0] 42)).drewN nq = W := ⟨_, rfl⟩
  rw [hw5]
  have b5 : Below w.heap.size w w5 := by rw [← hw5]; exact (((Upd.refl (fun _ => False) w).alloc _).alloc _).drewN nq |>.below (Nat.le_refl _) (fun _ _ h => h)
  have c1 : w5.cell? ⟨w.heap.size, 1, none⟩ = some (.int .u64 L) := by rw [← hw5]; simp
  have n5 : NatAt w5 (w.heap.size + 1) 0 0 := by
    rw [← hw5]
    have := NatAt.new (w.alloc (.cells #[.int .u64 X, .int .u64 L] 42)) 0 0
    rw [show (w.alloc (.cells #[.int .u64 X, .int .u64 L] 42)).heap.size = w.heap.size + 1 by simp] at this
    exact ⟨this.blk⟩
  have HN5 : Hid _ := n5
  have D5 := D w5
  clear hw5 n5 D k0 q1
  go_wp2_with (go_at_call 45; (with_reducible refine D5.mono ?_); clear D5; rintro e w6 ⟨rfl, m6, hw6⟩
               have n6 : NatAt w6 (w.heap.size + 1) 0 0 := by rw [hw6]; exact ⟨HN5.out.blk⟩
               have b6 : Below w.heap.size w w6 := by rw [hw6]; exact b5.trans (((Upd.refl (fun _ => False) w5).drewN m6).below (B := w.heap.size) b5.size (fun _ _ h => h))
               clear hw6
               have d0 := n6.c0
               have d1 := n6.c1
               have g0 := n6.free 0
               have g1 := n6.free 1
               have HN6 : Hid _ := n6
               clear n6)
  have N7 := HN6.out.set Q (q : Int)
  have e0 := N7.c0
  have e1 := N7.c1
  have u7 := ((Upd.ofBelow (S := fun k => w.heap.size ≤ k) b6 (fun _ _ h => h)).setCell (p := ⟨w.heap.size + 1, 0, none⟩) (fun _ => Nat.le_succ _) (.int .u64 Q)).setCell (p := ⟨w.heap.size + 1, 1, none⟩) (fun _ => Nat.le_succ _) (.int .u64 (q : Int))
  refine bodyPost_ret (v := .tuple #[.agg #[.int .u64 Q, .int .u64 (q : Int)], .int .u64 (r : Int)]) (by simp [results, Try.results44, go_sem, e0, e1]; try rfl) rfl ⟨rfl, u7.below (Nat.le_refl _) (fun k hk h => by omega)⟩
end Go.Proofs.Ytmegmjhkjaejgaa.sk
