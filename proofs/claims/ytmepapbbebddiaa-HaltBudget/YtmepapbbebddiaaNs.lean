/-
  halt: newStop, New, over, Why, Left: a stop as a block of nine cells.
-/
import Derived.Test.YtmepapbbebddiaaLk
import Derived.Conc.LoneCalls
import Derived.Laws.EntriesVeiled
import Derived.Defers
namespace Go.Proofs.Ytmepapbbebddiaa
open Go Go.Conc Go.RowKit Go.MuLone

theorem bytesEmpty : ∃ i, Try.prog.info? 88 = some i ∧ i.bytes = 0 := by
  have h : (Try.prog.info? 88).map (·.bytes) = some 0 := by kernel_rfl
  obtain ⟨i, hi, hb⟩ := Option.map_eq_some_iff.1 h
  exact ⟨i, hi, hb⟩
theorem mkChan (w : World) : (Instr.makeChan 83 (.int .i64 0)).run Try.prog w = .ok (.chan (some w.heap.size)) (w.alloc (.chan 0 #[] false 0 0 false)) := by
  obtain ⟨i, hi, hb⟩ := bytesEmpty
  simpa using run_makeChan (P := Try.prog) (w := w) Try.underlying83 hi .i64 0 (by omega) (by rw [hb]; omega)

/-- A stop's cells. -/
abbrev cells9 (lk : Nat) (ab us : Value) (ug : Int) (ts : Value) (tg why left : Int) (ch : Nat) : Array Value :=
  #[.pointer (some ⟨lk, 0, none⟩), ab, us, .int .i64 ug, ts, .int .i64 tg, .int .i64 why, .int .i64 left, .chan (some ch)]

/-- A budget as it is kept. -/
def budg (n : Int) : Int := if n = 0 then -1 else n
/-- What newStop leaves. -/
def newW (w : World) (lk : Nat) (n : Int) : World :=
  (w.alloc (.chan 0 #[] false 0 0 false)).alloc (.cells (cells9 lk (.pointer none) (.slice none 0 0) 0 (.slice none 0 0) 0 0 n w.heap.size) 85)

set_option maxRecDepth 100000 in
theorem newStop_any (lk : Nat) (n : Int) (w : World) :
    Calls Try.prog 35 #[.pointer (some ⟨lk, 0, none⟩), .int .i64 n] w fun e w' =>
      e = .returned (.pointer (some ⟨w.heap.size + 1, 0, none⟩)) ∧ w' = newW w lk (budg n) := by
  have hmc := mkChan
  by_cases hn : n = 0
  · subst hn
    go_enter Try.func35, Try.ntmps35
    go_wp2
    go_ret
    exact ⟨rfl, rfl⟩
  · go_enter Try.func35, Try.ntmps35
    go_wp2
    go_ret
    exact ⟨rfl, by simp [newW, budg, hn]⟩

/-- What New leaves. -/
def newL (w : World) (n : Int) : World := newW (w.alloc (.cells #[.int .i32 0, .int .u32 0] 94)) w.heap.size n

set_option maxRecDepth 100000 in
theorem new_neg (n : Int) (hn : n < 0) (w : World) :
    Calls Try.prog 19 #[.int .i64 n] w fun e w' => e = .returned (.tuple #[.pointer none, .int .i64 1]) ∧ w' = w := by
  go_enter Try.func19, Try.ntmps19
  go_wp2
  refine bodyPost_ret (results_tmp2 rfl _ _ _) rfl ?_
  exact ⟨rfl, rfl⟩
set_option maxRecDepth 100000 in
theorem new_any (n : Int) (hn : ¬ n < 0) (w : World) :
    Calls Try.prog 19 #[.int .i64 n] w fun e w' =>
      e = .returned (.tuple #[.pointer (some ⟨w.heap.size + 2, 0, none⟩), .int .i64 0]) ∧ w' = newL w (budg n) := by
  go_enter Try.func19, Try.ntmps19
  go_wp2_with (go_at_call 35; refine (newStop_any _ _ _).mono ?_; rintro e w' ⟨rfl, hw⟩; obtain rfl := hw.symm)
  refine bodyPost_ret (results_tmp2 rfl _ _ _) rfl ?_
  exact ⟨by simp, by simp [newL]⟩
set_option maxRecDepth 100000 in
theorem over_any (b : Nat) (why : Int) (w : World) (hc : w.cell? ⟨b, 6, none⟩ = some (.int .i64 why)) :
    Calls Try.prog 38 #[.pointer (some ⟨b, 0, none⟩)] w fun e w' => e = .returned (.bool (decide (why ≠ 0))) ∧ w' = w := by
  go_enter Try.func38, Try.ntmps38
  go_wp2
  go_ret
  exact ⟨by by_cases h : why = 0 <;> simp [h], rfl⟩

/-- Written over, and back. -/
theorem back_cell {w : World} {a : Addr} {u v : Value} (h : w.cell? a = some v) : (w.setCell a u).setCell a v = w := by
  unfold World.setCell
  congr 1
  apply Array.ext
  · simp
  · intro i h1 h2
    simp only [Array.getElem_modify]
    by_cases hi : a.block = i
    · subst hi
      have h2' : w.heap[a.block]? = some w.heap[a.block] := Array.getElem?_eq_getElem h2
      unfold World.cell? at h
      rw [h2'] at h
      cases ho : w.heap[a.block] with
      | cells c T fz =>
        rw [ho] at h
        simp only at h
        cases hs : a.spot with
        | some x => simp [hs] at h
        | none =>
          simp only [hs, Option.isSome_none, Bool.false_eq_true, if_false] at h
          simp only [if_true, Option.isSome_none, Bool.false_eq_true, if_false]
          congr 1
          apply Array.ext
          · simp
          · intro j j1 j2
            by_cases hj : a.off = j
            · subst hj
              simp
              exact ((Array.getElem?_eq_some_iff.1 h).2).symm
            · rw [Array.getElem_setIfInBounds_ne (by simpa using j2) hj, Array.getElem_setIfInBounds_ne j2 hj]
      | _ => rw [ho] at h; simp at h
    · simp [hi]

/-- A lock that is free. -/
abbrev Free (w : World) (lk : Nat) : Prop := w.cell? ⟨lk, 0, none⟩ = some (.int .i32 0) ∧ w.frozen? ⟨lk, 0, none⟩ = false
theorem Blk.free {w : World} {lk : Nat} {q : Value} {T : TypeId} (h : Blk w lk #[.int .i32 0, q] T) : Free w lk := ⟨h.cell 0 rfl, h.frozen 0⟩
set_option maxRecDepth 100000 in
theorem why_any (b lk : Nat) (why : Int) (w : World) (h0 : w.cell? ⟨b, 0, none⟩ = some (.pointer (some ⟨lk, 0, none⟩))) (hc : w.cell? ⟨b, 6, none⟩ = some (.int .i64 why)) (hne : b ≠ lk) (hl : Free w lk) :
    Calls Try.prog 16 #[.pointer (some ⟨b, 0, none⟩)] w fun e w' => e = .returned (.int .i64 why) ∧ w' = w := by
  have g0 : (w.setCell ⟨lk, 0, none⟩ (.int .i32 1)).cell? ⟨b, 0, none⟩ = some (.pointer (some ⟨lk, 0, none⟩)) := (World.cell?_setCell_other w ⟨lk, 0, none⟩ ⟨b, 0, none⟩ _ (by intro e; injection e with e1; exact hne e1.symm)).trans h0
  have g6 : (w.setCell ⟨lk, 0, none⟩ (.int .i32 1)).cell? ⟨b, 6, none⟩ = some (.int .i64 why) := (World.cell?_setCell_other w ⟨lk, 0, none⟩ ⟨b, 6, none⟩ _ (by simp)).trans hc
  go_enter_defers Try.func16, Try.ntmps16
  go_wp2_with (go_at_call 36; refine (lock_free Try.muLib ⟨lk, 0, none⟩ _ hl.1 hl.2).mono ?_; rintro e w' ⟨rfl, rfl⟩)
  refine leaves_cons (f := 37) (args := #[.pointer (some ⟨lk, 0, none⟩)]) (by simp) (by simp [go_sem]) ?_
  refine (unlock_deferred Try.muLib ⟨lk, 0, none⟩ .returning _ ?_ ?_).mono ?_
  · exact World.cell?_setCell_same w ⟨lk, 0, none⟩ (.int .i32 1) hl.1
  · simp [hl.2]
  rintro e u' w'' ⟨rfl, rfl, rfl⟩
  exact ⟨_, results_tmp rfl _ _ _, rfl, back_cell hl.1⟩
set_option maxRecDepth 100000 in
theorem left_any (b lk : Nat) (left : Int) (w : World) (h0 : w.cell? ⟨b, 0, none⟩ = some (.pointer (some ⟨lk, 0, none⟩))) (hc : w.cell? ⟨b, 7, none⟩ = some (.int .i64 left)) (hne : b ≠ lk) (hl : Free w lk) :
    Calls Try.prog 17 #[.pointer (some ⟨b, 0, none⟩)] w fun e w' => e = .returned (.int .i64 left) ∧ w' = w := by
  have g0 : (w.setCell ⟨lk, 0, none⟩ (.int .i32 1)).cell? ⟨b, 0, none⟩ = some (.pointer (some ⟨lk, 0, none⟩)) := (World.cell?_setCell_other w ⟨lk, 0, none⟩ ⟨b, 0, none⟩ _ (by intro e; injection e with e1; exact hne e1.symm)).trans h0
  have g6 : (w.setCell ⟨lk, 0, none⟩ (.int .i32 1)).cell? ⟨b, 7, none⟩ = some (.int .i64 left) := (World.cell?_setCell_other w ⟨lk, 0, none⟩ ⟨b, 7, none⟩ _ (by simp)).trans hc
  go_enter_defers Try.func17, Try.ntmps17
  go_wp2_with (go_at_call 36; refine (lock_free Try.muLib ⟨lk, 0, none⟩ _ hl.1 hl.2).mono ?_; rintro e w' ⟨rfl, rfl⟩)
  refine leaves_cons (f := 37) (args := #[.pointer (some ⟨lk, 0, none⟩)]) (by simp) (by simp [go_sem]) ?_
  refine (unlock_deferred Try.muLib ⟨lk, 0, none⟩ .returning _ ?_ ?_).mono ?_
  · exact World.cell?_setCell_same w ⟨lk, 0, none⟩ (.int .i32 1) hl.1
  · simp [hl.2]
  rintro e u' w'' ⟨rfl, rfl, rfl⟩
  exact ⟨_, results_tmp rfl _ _ _, rfl, back_cell hl.1⟩
end Go.Proofs.Ytmepapbbebddiaa
