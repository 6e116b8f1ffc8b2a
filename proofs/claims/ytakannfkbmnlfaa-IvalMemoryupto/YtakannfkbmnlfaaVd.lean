/-
  Contracts of layer 6: the walk's closeAt, pass.
-/
import Derived.Test.YtakannfkbmnlfaaVc
import Derived.Deep.QuietTactic
import Derived.Shelf.Abstract
namespace Go.Proofs.Ytakannfkbmnlfaa
open Go.Shelf Go.RowKit
set_option maxRecDepth 100000

/-- What a walk asks: whether a moment is wanted. -/
structure Wants (g : Nat) (want : Bool → Bool → Bool) : Prop where
  calls : ∀ x y w, Calls Try.prog g #[.bool x, .bool y] w fun e w' => e = .returned (.bool (want x y)) ∧ w' = w
  enters : ∀ args w, (callFunc g args).run Try.prog w = .ok (.enter g args) w

theorem IsWk.setAt {base W g : Nat} {n0 n1 at_ : Int} {v : Value} {out : List (Int × Int)} {w : World} (h : IsWk base w W g n0 n1 at_ v out) (t : Int) : IsWk base (w.setCell ⟨W, 3, none⟩ (.int .i64 t)) W g n0 n1 t v out := by
  refine ⟨?_, ownsRow_upd h.own (upd_one w W 3 (.int .i64 t)) (fun k hk e => h.ne (by rw [hk, e]))⟩
  rw [set_block h.blk 3]; rfl
def CloseP (base W g : Nat) (n0 n1 t : Int) (v : Value) (out : List (Int × Int)) (w : World) (e : Ending) (w' : World) : Prop :=
  e = .returned (.tuple #[]) ∧ ∃ v', IsWk base w' W g n0 n1 t v' out ∧ Upd (fun k => k = W ∨ v.ownBlock = some k) w w' ∧ Moved w v v'
set_option maxHeartbeats 1000000 in
theorem close_same (base W g : Nat) (n0 n1 t : Int) (v : Value) (out : List (Int × Int)) (w : World) (h : IsWk base w W g n0 n1 t v out) :
    Calls Try.prog 41 #[.pointer (some ⟨W, 0, none⟩), .int .i64 t] w (CloseP base W g n0 n1 t v out w) := by
  have c0 := blk_cell h.blk 0 rfl
  have c1 := blk_cell h.blk 1 rfl
  have c2 := blk_cell h.blk 2 rfl
  have c3 : w.cell? ⟨W, 3, none⟩ = some (.int .i64 t) := blk_cell h.blk 3 rfl
  have f3 := blk_free h.blk 3
  have q4 : (t != t) = false := by simp
  unfold CloseP
  go_enter Try.func41, Try.ntmps41
  go_wp2
  go_quiet (fail)
  go_wp2
  go_returns
  exact ⟨rfl, v, (h.drewN nq).setAt t, ((Upd.refl _ w).drewN nq).setCell (p := ⟨W, 3, none⟩) (fun _ => Or.inl rfl) _, Moved.refl _ _⟩
set_option maxHeartbeats 1000000 in
theorem close_no (base W g : Nat) (want : Bool → Bool → Bool) (n0 n1 at_ t : Int) (v : Value) (out : List (Int × Int)) (w : World) (h : IsWk base w W g n0 n1 at_ v out) (hg : Wants g want) (hx : at_ ≠ t) (hy : want (decide (0 < n0)) (decide (0 < n1)) = false) :
    Calls Try.prog 41 #[.pointer (some ⟨W, 0, none⟩), .int .i64 t] w (CloseP base W g n0 n1 t v out w) := by
  have C := fun m => hg.calls (decide (0 < n0)) (decide (0 < n1)) (w.drewN m)
  have eg := hg.enters
  rw [hy] at C
  have c0 := blk_cell h.blk 0 rfl
  have c1 := blk_cell h.blk 1 rfl
  have c2 := blk_cell h.blk 2 rfl
  have c3 : w.cell? ⟨W, 3, none⟩ = some (.int .i64 at_) := blk_cell h.blk 3 rfl
  have f3 := blk_free h.blk 3
  have q1 : (at_ == t) = false := beq_eq_false_iff_ne.mpr hx
  have q4 : (at_ != t) = true := by simp [hx]
  unfold CloseP
  go_enter Try.func41, Try.ntmps41
  go_wp2
  go_quiet (first | (go_at_fn g; refine Calls.quiet_of_same (C _)))
  go_wp2
  go_returns
  exact ⟨rfl, v, (h.drewN nq).setAt t, ((Upd.refl _ w).drewN nq).setCell (p := ⟨W, 3, none⟩) (fun _ => Or.inl rfl) _, Moved.refl _ _⟩
set_option maxHeartbeats 1000000 in
theorem close_yes (base W g : Nat) (want : Bool → Bool → Bool) (n0 n1 at_ t : Int) (v : Value) (out : List (Int × Int)) (w : World) (h : IsWk base w W g n0 n1 at_ v out) (hg : Wants g want) (hb : base ≤ w.heap.size) (hn : out.length ≤ 1099511627776) (hx : at_ ≠ t) (hy : want (decide (0 < n0)) (decide (0 < n1)) = true) :
    Calls Try.prog 41 #[.pointer (some ⟨W, 0, none⟩), .int .i64 t] w (CloseP base W g n0 n1 t v (tellL out (at_, t)) w) := by
  have C := fun m => hg.calls (decide (0 < n0)) (decide (0 < n1)) (w.drewN m)
  have eg := hg.enters
  rw [hy] at C
  have c0 := blk_cell h.blk 0 rfl
  have c1 := blk_cell h.blk 1 rfl
  have c2 := blk_cell h.blk 2 rfl
  have c3 : w.cell? ⟨W, 3, none⟩ = some (.int .i64 at_) := blk_cell h.blk 3 rfl
  have f3 := blk_free h.blk 3
  have q1 : (at_ == t) = false := beq_eq_false_iff_ne.mpr hx
  have q4 : (at_ != t) = true := by simp [hx]
  have T := fun m => tell_any base W g n0 n1 at_ v out (at_, t) (w.drewN m) (h.drewN m) hb hn
  unfold CloseP
  go_enter Try.func41, Try.ntmps41
  go_wp2
  go_quiet (first | (go_at_fn g; refine Calls.quiet_of_same (C _)))
  have T1 := T nq
  clear T C
  go_wp2_with (go_at_call 45; refine T1.mono ?_; clear T1; rintro e w1 ⟨rfl, v1, h1, u1, m1⟩; have d3 : w1.cell? ⟨W, 3, none⟩ = some (.int .i64 at_) := blk_cell h1.blk 3 rfl; have fd3 := blk_free h1.blk 3)
  go_returns
  exact ⟨rfl, v1, h1.setAt t, (((Upd.refl _ w).drewN nq).trans u1 (fun _ _ h => h)).setCell (p := ⟨W, 3, none⟩) (fun _ => Or.inl rfl) _, m1⟩
theorem close_any (base W g : Nat) (want : Bool → Bool → Bool) (n0 n1 at_ t : Int) (v : Value) (out : List (Int × Int)) (w : World) (h : IsWk base w W g n0 n1 at_ v out) (hg : Wants g want) (hb : base ≤ w.heap.size) (hn : out.length ≤ 1099511627776) :
    Calls Try.prog 41 #[.pointer (some ⟨W, 0, none⟩), .int .i64 t] w (CloseP base W g n0 n1 t v (closeL want ⟨n0, n1, at_, out⟩ t) w) := by
  unfold closeL
  by_cases hx : at_ = t
  · subst hx
    rw [if_neg (fun h => h.1 rfl)]
    exact close_same base W g n0 n1 at_ v out w h
  · by_cases hy : want (decide (0 < n0)) (decide (0 < n1)) = true
    · rw [if_pos ⟨hx, hy⟩]
      exact close_yes base W g want n0 n1 at_ t v out w h hg hb hn hx hy
    · rw [if_neg (fun h => hy h.2)]
      exact close_no base W g want n0 n1 at_ t v out w h hg hx (by simpa using hy)
end Go.Proofs.Ytakannfkbmnlfaa
