/-
  Contracts of layer 6: of, Same, in, Has, form; the document's Clip and Length.
-/
import Derived.Test.YtceecmmcjmnaeaaVj
import Derived.Laws.StructEq
namespace Go.Proofs.Ytceecmmcjmnaeaa
open Go.Shelf Go.RowKit Go.Lib
set_option maxRecDepth 100000

theorem of_any (f t : Int) (w : World) :
    Calls Try.prog 6 #[.int .i64 f, .int .i64 t] w fun e w' => e = .returned (.agg #[.int .i64 f, .int .i64 t]) ∧ w' = w.alloc (.cells #[.int .i64 f, .int .i64 t] 23) := by
  go_enter Try.func6, Try.ntmps6
  go_wp2
  go_returns
  exact ⟨rfl, rfl⟩

theorem eqI_iv (d : Nat) (a b a' b' : Int) (W : World) : (Op.equalIn (d + 2) 23 (.agg #[.int .i64 a, .int .i64 b]) (.agg #[.int .i64 a', .int .i64 b'])).run Try.prog W = .ok (decide (a = a' ∧ b = b')) W := by
  have u3 := Try.underlying2
  have a3 := Try.isAgg2
  have z3 := Try.sizeOf2
  have hS : Try.prog.underlying 23 = some (.struct (Try.prog.fieldsOf 23)) := by kernel_rfl
  have hp : Try.prog.stoodInHeld 23 = false := by kernel_rfl
  rw [run_equalIn_agg W (d + 1) 23 _ _ hS hp]
  simp only [Program.fieldsOf, Try.underlying23]
  go_simp
  by_cases h1 : a = a' <;> by_cases h2 : b = b' <;> simp [h1, h2]
theorem run_neq_of {T : TypeId} {xs ys : Array Value} {b : Bool} {W : World} (h : (Op.equalIn 10000 T (.agg xs) (.agg ys)).run Try.prog W = .ok b W) : (binOp .neq T (.agg xs) (.agg ys)).run Try.prog W = .ok (.bool (!b)) W := by
  rw [run_neq_struct, h]; rfl
theorem run_eql_of {T : TypeId} {xs ys : Array Value} {b : Bool} {W : World} (h : (Op.equalIn 10000 T (.agg xs) (.agg ys)).run Try.prog W = .ok b W) : (binOp .eql T (.agg xs) (.agg ys)).run Try.prog W = .ok (.bool b) W := by
  rw [run_eql_struct, h]; rfl
theorem guard_iv : Try.prog.eqGuardType Try.prog.depth 23 = false := by kernel_rfl

theorem take_ne {X Y : List (Int × Int)} {k : Nat} (hx : k < X.length) (hy : k < Y.length) (h : X[k] ≠ Y[k]) : X ≠ Y := fun e => by subst e; exact h rfl
theorem take_step {X Y : List (Int × Int)} {k : Nat} (h : X.take k = Y.take k) (hx : k < X.length) (hy : k < Y.length) (e : X[k] = Y[k]) : X.take (k + 1) = Y.take (k + 1) := by
  rw [List.take_succ_eq_append_getElem hx, List.take_succ_eq_append_getElem hy, h, e]
set_option maxHeartbeats 1000000 in
theorem same_any (ad bd : Option Addr) (n m ca cb : Nat) (X Y : List (Int × Int)) (w : World) (hX : IvAt w ad n X) (hY : IvAt w bd m Y) (hn : n ≤ 1099511627776) :
    Calls Try.prog 8 #[.slice ad n ca, .slice bd m cb] w fun e w' => e = .returned (.bool (decide (X = Y))) ∧ Below w.heap.size w w' := by
  have hl := hX.len
  have hk := hY.len
  have gd := guard_iv
  by_cases hnm : n = m
  · subst hnm
    go_enter Try.func8, Try.ntmps8
    go_wp2
    go_loopw [5] (fun a wr => ∃ (k q : Nat), a = .int .i64 k ∧ k ≤ n ∧ X.take k = Y.take k ∧ wr = w.drewN q) (fun a _ => n - (intOf a).toNat)
    case atStart => exact ⟨0, 0, rfl, by omega, rfl, rfl⟩
    case round =>
      obtain ⟨k, q, rfl, hkn, ht, rfl⟩ := hrel
      have HT : Hid (X.take k = Y.take k) := ht
      clear ht
      by_cases hlt : k < n
      · have hz : (k : Int) < (n : Int) := by omega
        obtain ⟨b1, o1, rfl, hc1⟩ := hX.lies (by omega)
        obtain ⟨b2, o2, rfl, hc2⟩ := hY.lies (by omega)
        obtain ⟨c0, c1⟩ := hc1 k (by omega)
        obtain ⟨d0, d1⟩ := hc2 k (by omega)
        have HS : Hid (X[k]'(by omega) = Y[k]'(by omega) → X.take (k + 1) = Y.take (k + 1)) := take_step HT.out (by omega) (by omega)
        have HN : Hid (X[k]'(by omega) ≠ Y[k]'(by omega) → X ≠ Y) := take_ne (by omega) (by omega)
        generalize X[k]'(by omega) = x at c0 c1 HS HN
        generalize Y[k]'(by omega) = y at d0 d1 HS HN
        obtain ⟨x1, x2⟩ := x
        obtain ⟨y1, y2⟩ := y
        simp only at c0 c1 d0 d1
        have EQ := fun W => run_neq_of (eqI_iv 9998 x1 x2 y1 y2 W)
        clear hc1 hc2
        by_cases he : x1 = y1 ∧ x2 = y2
        · rw [decide_eq_true he] at EQ
          simp only [Bool.not_true] at EQ
          go_wp2
          go_quiet (fail)
          go_wp2
          go_roundw
          case rel => exact ⟨k + 1, q + nq, by go_num, by omega, HS.out (by rw [he.1, he.2]), by simp [World.drewN]⟩
          case measure => simp [intOf]; omega
        · have hne : X ≠ Y := HN.out (fun e => he (by simpa using e))
          rw [decide_eq_false he] at EQ
          simp only [Bool.not_false] at EQ
          have HD : Hid (decide (X = Y) = false) := decide_eq_false hne
          clear hne he
          go_wp2
          go_quiet (fail)
          go_wp2
          go_ret
          refine ⟨by rw [HD.out]; rfl, ?_⟩
          exact ⟨rfl, rfl, rfl, Nat.le_refl _, fun _ _ => rfl⟩
      · obtain rfl : k = n := by omega
        have HD : Hid (decide (X = Y) = true) := decide_eq_true (by have := HT.out; rw [List.take_of_length_le (by omega), List.take_of_length_le (by omega)] at this; exact this)
        go_wp2
        go_ret
        refine ⟨by rw [HD.out]; rfl, ?_⟩
        exact ⟨rfl, rfl, rfl, Nat.le_refl _, fun _ _ => rfl⟩
  · have hd : decide (X = Y) = false := decide_eq_false (fun e => hnm (by rw [← hl, ← hk, e]))
    rw [hd]
    have q1 : ((n : Int) == (m : Int)) = false := beq_eq_false_iff_ne.mpr (by omega)
    have q2 : ¬ (n : Int) = (m : Int) := by omega
    clear hX hY hl hk hnm hd
    go_enter Try.func8, Try.ntmps8
    go_wp2
    go_ret
    exact ⟨rfl, Below.refl _ _⟩

theorem mem_step {X : List (Int × Int)} {k : Nat} (x : Int) (hk : k < X.length) : memI (X.take (k + 1)) x = (memI (X.take k) x || (decide (X[k].1 ≤ x) && decide (x < X[k].2))) := by
  rw [List.take_succ_eq_append_getElem hk, memI_append]; simp [memI]
theorem mem_take {X : List (Int × Int)} {k : Nat} {x : Int} (hk : k < X.length) (h1 : X[k].1 ≤ x) (h2 : x < X[k].2) : memI X x = true := memI_iff.mpr ⟨X[k], List.getElem_mem hk, h1, h2⟩
theorem into_br {v x y : Int} (h : x < y) : (if v < x then x else if y < v then y else v) = brI v x y := by
  unfold brI
  repeat' split
  all_goals omega
end Go.Proofs.Ytceecmmcjmnaeaa
