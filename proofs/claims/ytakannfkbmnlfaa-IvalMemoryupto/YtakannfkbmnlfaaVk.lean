/-
  Contracts of layer 6: of, Same, in, Has, form; the document's Clip and Length.
-/
import Derived.Test.YtakannfkbmnlfaaVj
import Derived.Laws.StructEq
namespace Go.Proofs.Ytakannfkbmnlfaa
open Go.Shelf Go.RowKit Go.Lib
set_option maxRecDepth 100000

theorem of_any (f t : Int) (w : World) :
    Calls Try.prog 22 #[.int .i64 f, .int .i64 t] w fun e w' => e = .returned (.agg #[.int .i64 f, .int .i64 t]) ∧ w' = w.alloc (.cells #[.int .i64 f, .int .i64 t] 35) := by
  go_enter Try.func22, Try.ntmps22
  go_wp2
  go_returns
  exact ⟨rfl, rfl⟩

theorem eqI_iv (d : Nat) (a b a' b' : Int) (W : World) : (Op.equalIn (d + 2) 35 (.agg #[.int .i64 a, .int .i64 b]) (.agg #[.int .i64 a', .int .i64 b'])).run Try.prog W = .ok (decide (a = a' ∧ b = b')) W := by
  have u3 := Try.underlying2
  have a3 := Try.isAgg2
  have z3 := Try.sizeOf2
  have hS : Try.prog.underlying 35 = some (.struct (Try.prog.fieldsOf 35)) := by kernel_rfl
  have hp : Try.prog.stoodInHeld 35 = false := by kernel_rfl
  rw [run_equalIn_agg W (d + 1) 35 _ _ hS hp]
  simp only [Program.fieldsOf, Try.underlying35]
  go_simp
  by_cases h1 : a = a' <;> by_cases h2 : b = b' <;> simp [h1, h2]
theorem run_neq_of {T : TypeId} {xs ys : Array Value} {b : Bool} {W : World} (h : (Op.equalIn 10000 T (.agg xs) (.agg ys)).run Try.prog W = .ok b W) : (binOp .neq T (.agg xs) (.agg ys)).run Try.prog W = .ok (.bool (!b)) W := by
  rw [run_neq_struct, h]; rfl
theorem run_eql_of {T : TypeId} {xs ys : Array Value} {b : Bool} {W : World} (h : (Op.equalIn 10000 T (.agg xs) (.agg ys)).run Try.prog W = .ok b W) : (binOp .eql T (.agg xs) (.agg ys)).run Try.prog W = .ok (.bool b) W := by
  rw [run_eql_struct, h]; rfl
theorem guard_iv : Try.prog.eqGuardType Try.prog.depth 35 = false := by kernel_rfl

theorem take_ne {X Y : List (Int × Int)} {k : Nat} (hx : k < X.length) (hy : k < Y.length) (h : X[k] ≠ Y[k]) : X ≠ Y := fun e => by subst e; exact h rfl
theorem take_step {X Y : List (Int × Int)} {k : Nat} (h : X.take k = Y.take k) (hx : k < X.length) (hy : k < Y.length) (e : X[k] = Y[k]) : X.take (k + 1) = Y.take (k + 1) := by
  rw [List.take_succ_eq_append_getElem hx, List.take_succ_eq_append_getElem hy, h, e]
set_option maxHeartbeats 1000000 in
theorem same_any (ad bd : Option Addr) (n m ca cb : Nat) (X Y : List (Int × Int)) (w : World) (hX : IvAt w ad n X) (hY : IvAt w bd m Y) (hn : n ≤ 1099511627776) :
    Calls Try.prog 7 #[.slice ad n ca, .slice bd m cb] w fun e w' => e = .returned (.bool (decide (X = Y))) ∧ Below w.heap.size w w' := by
  have hl := hX.len
  have hk := hY.len
  have gd := guard_iv
  by_cases hnm : n = m
  · subst hnm
    go_enter Try.func7, Try.ntmps7
    go_wp2
    go_loopw [5] (fun a wr => ∃ (k q : Nat), a = .int .i64 k ∧ k ≤ n ∧ X.take k = Y.take k ∧ wr = w.drewN q) (fun a _ => n - (intOf a).toNat)
    case atStart => exact ⟨0, 0, rfl, by omega, rfl, rfl⟩
    case round =>
      obtain ⟨k, q, rfl, hkn, ht, rfl⟩ := hrel
      have HT : Hid (X.take k = Y.take k) := ht
      clear ht
      by_cases hlt : k < n
      · have hz : (k : Int) < (n : Int) := by omega
        obtain ⟨b1, o1, rfl, hc1⟩ := hX.lies (by omega)
        obtain ⟨b2, o2, rfl, hc2⟩ := hY.lies (by omega)
        obtain ⟨c0, c1⟩ := hc1 k (by omega)
        obtain ⟨d0, d1⟩ := hc2 k (by omega)
        have HS : Hid (X[k]'(by omega) = Y[k]'(by omega) → X.take (k + 1) = Y.take (k + 1)) := take_step HT.out (by omega) (by omega)
        have HN : Hid (X[k]'(by omega) ≠ Y[k]'(by omega) → X ≠ Y) := take_ne (by omega) (by omega)
        generalize X[k]'(by omega) = x at c0 c1 HS HN
        generalize Y[k]'(by omega) = y at d0 d1 HS HN
        obtain ⟨x1, x2⟩ := x
        obtain ⟨y1, y2⟩ := y
        simp only at c0 c1 d0 d1
        have EQ := fun W => run_neq_of (eqI_iv 9998 x1 x2 y1 y2 W)
        clear hc1 hc2
        by_cases he : x1 = y1 ∧ x2 = y2
        · rw [decide_eq_true he] at EQ
          simp only [Bool.not_true] at EQ
          go_wp2
          go_quiet (fail)
          go_wp2
          go_roundw
          case rel => exact ⟨k + 1, q + nq, by go_num, by omega, HS.out (by rw [he.1, he.2]), by simp [World.drewN]⟩
          case measure => simp [intOf]; omega
        · have hne : X ≠ Y := HN.out (fun e => he (by simpa using e))
          rw [decide_eq_false he] at EQ
          simp only [Bool.not_false] at EQ
          have HD : Hid (decide (X = Y) = false) := decide_eq_false hne
          clear hne he
          go_wp2
          go_quiet (fail)
          go_wp2
          go_ret
          refine ⟨by rw [HD.out]; rfl, ?_⟩
          exact ⟨rfl, rfl, rfl, Nat.le_refl _, fun _ _ => rfl⟩
      · obtain rfl : k = n := by omega
        have HD : Hid (decide (X = Y) = true) := decide_eq_true (by have := HT.out; rw [List.take_of_length_le (by omega), List.take_of_length_le (by omega)] at this; exact this)
        go_wp2
        go_ret
        refine ⟨by rw [HD.out]; rfl, ?_⟩
        exact ⟨rfl, rfl, rfl, Nat.le_refl _, fun _ _ => rfl⟩
  · have hd : decide (X = Y) = false := decide_eq_false (fun e => hnm (by rw [← hl, ← hk, e]))
    rw [hd]
    have q1 : ((n : Int) == (m : Int)) = false := beq_eq_false_iff_ne.mpr (by omega)
    have q2 : ¬ (n : Int) = (m : Int) := by omega
    clear hX hY hl hk hnm hd
    go_enter Try.func7, Try.ntmps7
    go_wp2
    go_ret
    exact ⟨rfl, Below.refl _ _⟩

theorem mem_step {X : List (Int × Int)} {k : Nat} (x : Int) (hk : k < X.length) : memI (X.take (k + 1)) x = (memI (X.take k) x || (decide (X[k].1 ≤ x) && decide (x < X[k].2))) := by
  rw [List.take_succ_eq_append_getElem hk, memI_append]; simp [memI]
theorem mem_take {X : List (Int × Int)} {k : Nat} {x : Int} (hk : k < X.length) (h1 : X[k].1 ≤ x) (h2 : x < X[k].2) : memI X x = true := memI_iff.mpr ⟨X[k], List.getElem_mem hk, h1, h2⟩
set_option maxHeartbeats 1000000 in
theorem has_any (ad : Option Addr) (n ca : Nat) (X : List (Int × Int)) (x : Int) (w : World) (hX : IvAt w ad n X) (hn : n ≤ 1099511627776) :
    Calls Try.prog 16 #[.slice ad n ca, .int .i64 x] w fun e w' => e = .returned (.bool (memI X x)) ∧ Below w.heap.size w w' := by
  have hl := hX.len
  go_enter Try.func16, Try.ntmps16
  go_wp2
  go_loopw [9] (fun a wr => ∃ (k : Nat), a = .int .i64 k ∧ k ≤ n ∧ memI (X.take k) x = false ∧ Below w.heap.size w wr) (fun a _ => n - (intOf a).toNat)
  case atStart => exact ⟨0, rfl, by omega, rfl, Below.refl _ _⟩
  case round =>
    obtain ⟨k, rfl, hkn, ht, hb⟩ := hrel
    have hsz := hb.size
    by_cases hlt : k < n
    · have hz : (k : Int) < (n : Int) := by omega
      obtain ⟨b1, o1, had, hc1⟩ := (hX.below hb).lies (by omega)
      subst had
      obtain ⟨c0, c1⟩ := hc1 k (by omega)
      have HS : Hid (memI (X.take (k + 1)) x = _) := mem_step x (by omega)
      have HN : Hid ((X[k]'(by omega)).1 ≤ x → x < (X[k]'(by omega)).2 → memI X x = true) := mem_take (by omega)
      rw [ht] at HS
      generalize X[k]'(by omega) = y at c0 c1 HS HN
      obtain ⟨x1, x2⟩ := y
      simp only at c0 c1 HS HN
      clear hc1 ht
      by_cases h1 : x1 ≤ x
      · have d1 : decide (x1 ≤ x) = true := decide_eq_true h1
        by_cases h2 : x < x2
        · have d2 : decide (x < x2) = true := decide_eq_true h2
          have HM : Hid (memI X x = true) := HN.out h1 h2
          go_wp2
          go_ret
          exact ⟨by rw [HM.out]; rfl, hb.alloc hsz _⟩
        · have d2 : decide (x < x2) = false := decide_eq_false h2
          have HM : Hid (memI (X.take (k + 1)) x = false) := by show _ = _; rw [HS.out, d1, d2]; rfl
          go_wp2
          go_roundw
          case rel => exact ⟨k + 1, by go_num, by omega, HM.out, hb.alloc hsz _⟩
          case measure => simp [intOf]; omega
      · have d1 : decide (x1 ≤ x) = false := decide_eq_false h1
        have HM : Hid (memI (X.take (k + 1)) x = false) := by show _ = _; rw [HS.out, d1]; rfl
        go_wp2
        go_roundw
        case rel => exact ⟨k + 1, by go_num, by omega, HM.out, hb.alloc hsz _⟩
        case measure => simp [intOf]; omega
    · have hz : ¬ (k : Int) < (n : Int) := by omega
      have HM : Hid (memI X x = false) := by show _ = _; rw [← ht, List.take_of_length_le (by omega)]
      clear ht
      go_wp2
      go_ret
      exact ⟨by rw [HM.out]; rfl, hb⟩
set_option maxHeartbeats 1000000 in
theorem refHas_any (ad : Option Addr) (n ca : Nat) (X : List (Int × Int)) (x : Int) (w : World) (hX : IvAt w ad n X) (hn : n ≤ 1099511627776) :
    Calls Try.prog 17 #[.slice ad n ca, .int .i64 x] w fun e w' => e = .returned (.bool (memI X x)) ∧ Below w.heap.size w w' := by
  have hl := hX.len
  go_enter Try.func17, Try.ntmps17
  go_wp2
  go_loopw [5] (fun a wr => ∃ (k : Nat), a = .int .i64 k ∧ k ≤ n ∧ memI (X.take k) x = false ∧ Below w.heap.size w wr) (fun a _ => n - (intOf a).toNat)
  case atStart => exact ⟨0, rfl, by omega, rfl, Below.refl _ _⟩
  case round =>
    obtain ⟨k, rfl, hkn, ht, hb⟩ := hrel
    have hsz := hb.size
    by_cases hlt : k < n
    · have hz : (k : Int) < (n : Int) := by omega
      obtain ⟨b1, o1, had, hc1⟩ := (hX.below hb).lies (by omega)
      subst had
      obtain ⟨c0, c1⟩ := hc1 k (by omega)
      have HS : Hid (memI (X.take (k + 1)) x = _) := mem_step x (by omega)
      have HN : Hid ((X[k]'(by omega)).1 ≤ x → x < (X[k]'(by omega)).2 → memI X x = true) := mem_take (by omega)
      rw [ht] at HS
      generalize X[k]'(by omega) = y at c0 c1 HS HN
      obtain ⟨x1, x2⟩ := y
      simp only at c0 c1 HS HN
      clear hc1 ht
      by_cases h1 : x1 ≤ x
      · have d1 : decide (x1 ≤ x) = true := decide_eq_true h1
        by_cases h2 : x < x2
        · have d2 : decide (x < x2) = true := decide_eq_true h2
          have HM : Hid (memI X x = true) := HN.out h1 h2
          go_wp2
          go_ret
          exact ⟨by rw [HM.out]; rfl, hb⟩
        · have d2 : decide (x < x2) = false := decide_eq_false h2
          have HM : Hid (memI (X.take (k + 1)) x = false) := by show _ = _; rw [HS.out, d1, d2]; rfl
          go_wp2
          go_roundw
          case rel => exact ⟨k + 1, by go_num, by omega, HM.out, hb⟩
          case measure => simp [intOf]; omega
      · have d1 : decide (x1 ≤ x) = false := decide_eq_false h1
        have HM : Hid (memI (X.take (k + 1)) x = false) := by show _ = _; rw [HS.out, d1]; rfl
        go_wp2
        go_roundw
        case rel => exact ⟨k + 1, by go_num, by omega, HM.out, hb⟩
        case measure => simp [intOf]; omega
    · have hz : ¬ (k : Int) < (n : Int) := by omega
      have HM : Hid (memI X x = false) := by show _ = _; rw [← ht, List.take_of_length_le (by omega)]
      clear ht
      go_wp2
      go_ret
      exact ⟨by rw [HM.out]; rfl, hb⟩

/-! ## The document's Clip and Length -/
theorem refEmpty_any (f t : Int) (w : World) :
    Calls Try.prog 37 #[.agg #[.int .i64 f, .int .i64 t]] w fun e w' => e = .returned (.bool (decide (t ≤ f))) ∧ w' = w.alloc (.cells #[.int .i64 f, .int .i64 t] 35) := by
  go_enter Try.func37, Try.ntmps37
  go_wp2
  go_ret
  exact ⟨rfl, rfl⟩
theorem into_br {v x y : Int} (h : x < y) : (if v < x then x else if y < v then y else v) = brI v x y := by
  unfold brI
  repeat' split
  all_goals omega
theorem refLength_any (a : Int × Int) (w : World) (ha : In64 a) :
    Calls Try.prog 28 #[.agg #[.int .i64 a.1, .int .i64 a.2]] w fun e w' => e = .returned (.int .u64 (lenI a)) ∧ Below w.heap.size w w' := by
  obtain ⟨a1, a2⟩ := a
  obtain ⟨ha1, ha2⟩ := ha
  have E := refEmpty_any
  unfold lenI
  by_cases k : a2 ≤ a1
  · rw [if_pos k]
    have k' : decide (a2 ≤ a1) = true := decide_eq_true k
    clear ha1 ha2
    go_enter Try.func28, Try.ntmps28
    go_wp2_with (go_at_call 37; refine (E _ _ _).mono ?_; rintro e w1 ⟨rfl, rfl⟩)
    go_ret
    refine ⟨rfl, ?_⟩
    repeat' first | exact Below.refl _ _ | refine Below.alloc ?_ (by simp <;> omega) _
  · rw [if_neg k]
    have k' : decide (a2 ≤ a1) = false := decide_eq_false k
    have W := wrap_diff ha1 ha2 k
    clear ha1 ha2
    go_enter Try.func28, Try.ntmps28
    go_wp2_with (go_at_call 37; refine (E _ _ _).mono ?_; rintro e w1 ⟨rfl, rfl⟩)
    go_ret
    refine ⟨rfl, ?_⟩
    repeat' first | exact Below.refl _ _ | refine Below.alloc ?_ (by simp <;> omega) _
end Go.Proofs.Ytakannfkbmnlfaa
