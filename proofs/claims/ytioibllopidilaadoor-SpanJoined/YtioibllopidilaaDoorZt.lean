/-
  Contracts: the taker: text, raw, small, moment, count, end.
-/
import Derived.Test.YtioibllopidilaaDoorZd
namespace Go.Proofs.YtioibllopidilaaDoor
open Go.Shelf Go.RowKit
set_option maxRecDepth 100000

theorem Upd.drewL {S : Nat → Prop} {a b : World} {m : Nat} (h : Upd S (a.drewN m) b) : Upd S a b := ⟨h.os, h.tape, h.output, h.size, h.block⟩
theorem below_drewL {B : Nat} {a b : World} {m : Nat} (h : Below B (a.drewN m) b) : Below B a b := ⟨h.os, h.tape, h.output, h.size, h.block⟩

theorem takeS_any (T R g P Q : Nat) (K : List Int) (s : Option Nat) (most : Int) (w : World) (h : Tk w T R g K s) (hT : Tabs w) (hmx : most ≤ 9223372036854775807)
    (hP : w.heap[P]? = some (.cells #[.pointer (some ⟨T, 0, none⟩)] 82 (0, 0))) (hQ : w.heap[Q]? = some (.cells #[.int .i64 most] 3 (0, 0))) :
    Calls Tryd.prog 81 #[.pointer (some ⟨T, 0, none⟩), .func (.func 82) #[] #[.pointer (some ⟨P, 0, none⟩), .pointer (some ⟨Q, 0, none⟩)]] w fun e w' => e = .returned (.string (textP K most s).1) ∧ Tk w' T R g K (textP K most s).2 ∧ Upd (TR T R) w w' := by
  cases s with
  | none =>
    have h' := h
    obtain ⟨t, q, h1, h2⟩ := h
    have d1 := blk_cell h1 1 rfl
    go_enter Tryd.func81, Tryd.ntmps81
    go_wp2
    go_ret
    exact ⟨rfl, h', Upd.refl _ _⟩
  | some t =>
    have N := text1_any T R g P Q K t most w h hT hmx hP hQ
    obtain ⟨h1, h2⟩ := h
    have d1 := blk_cell h1 1 rfl
    have hne : T ≠ R := ne_of_types h1 h2.block (by decide)
    have hlt := lt_of_block h1
    unfold textP
    simp only
    generalize textR K t most = r at N ⊢
    cases r using TxtRes.each with
    | ok f v =>
      go_enter Tryd.func81, Tryd.ntmps81
      go_wp2_with (go_at_call 82; refine N.mono ?_; rintro e w5 ⟨m, rfl, h5, u5⟩; have h15 := (u5.drewL.block T hlt (fun e => hne e)).trans h1; have d5 := blk_cell h15 1 rfl; have f5 := blk_free h15 1)
      go_ret
      exact ⟨rfl, tk_ok h15 h5, upd_ok u5.drewL⟩
    | bad a n =>
      go_enter Tryd.func81, Tryd.ntmps81
      go_wp2_with (go_at_call 82; refine N.mono ?_; rintro e w5 ⟨m, p5, rfl, F5, q5, b5⟩; have h15 := ((below_drewL b5).block T hlt).trans h1; have d5 := blk_cell h15 1 rfl; have f5 := blk_free h15 1)
      go_ret
      exact ⟨rfl, tk_bad h15 (h2.below (below_drewL b5)), upd_bad (below_drewL b5)⟩

theorem tkText_any (T R g : Nat) (K : List Int) (s : Option Nat) (most : Int) (w : World) (h : Tk w T R g K s) (hT : Tabs w) (hmx : most ≤ 9223372036854775807) :
    Calls Tryd.prog 58 #[.pointer (some ⟨T, 0, none⟩), .int .i64 most] w fun e w' => e = .returned (.string (textP K most s).1) ∧ Tk w' T R g K (textP K most s).2 ∧ Upd (TR T R) w w' := by
  have B2 : Below w.heap.size w ((w.alloc (.cells #[.pointer (some ⟨T, 0, none⟩)] 82)).alloc (.cells #[.int .i64 most] 3)) := (((Below.refl _ _).alloc (Nat.le_refl _) _).alloc (by simp) _)
  have N := takeS_any T R g w.heap.size (w.heap.size + 1) K s most ((w.alloc (.cells #[.pointer (some ⟨T, 0, none⟩)] 82)).alloc (.cells #[.int .i64 most] 3)) (h.below B2) (hT.below B2) hmx
    ((Below.heap_alloc _ _ _ (by simp)).trans (heap_alloc_new _ _)) (by have := heap_alloc_new (w.alloc (.cells #[.pointer (some ⟨T, 0, none⟩)] 82)) (.cells #[.int .i64 most] 3); simpa using this)
  have U2 : ∀ w5, Upd (TR T R) ((w.alloc (.cells #[.pointer (some ⟨T, 0, none⟩)] 82)).alloc (.cells #[.int .i64 most] 3)) w5 → Upd (TR T R) w w5 := fun w5 u => (Upd.ofBelow (S := TR T R) B2 (fun k hk hk' => by omega)).trans u (fun _ _ h => h)
  generalize (textP K most s).1 = v at N ⊢
  generalize (textP K most s).2 = s' at N ⊢
  go_enter Tryd.func58, Tryd.ntmps58
  go_wp2_with (go_at_call 81; refine N.mono ?_; rintro e w5 ⟨rfl, h5, u5⟩)
  go_ret
  exact ⟨rfl, h5, U2 _ u5⟩

def smallP (K : List Int) (s : Option Nat) : Int × Option Nat := (min (uintP K s).1 2147483647, (uintP K s).2)
def momP (K : List Int) (s : Option Nat) : Int × Option Nat := (min (uintP K s).1 4611686018427387905, (uintP K s).2)
theorem uintP_rng (K : List Int) (s : Option Nat) (hK : ∀ x ∈ K, 0 ≤ x ∧ x < 256) : 0 ≤ (uintP K s).1 ∧ (uintP K s).1 < 18446744073709551616 := by
  cases s with
  | none => simp [uintP]
  | some t =>
    unfold uintP
    simp only
    have hv := scan_val (K.drop t) 0 0
    generalize scanN (K.drop t) 0 0 = r at hv ⊢
    cases r using NumRes.each with
    | ok v n =>
      have := hv v n (fun x hx => hK x (List.mem_of_mem_drop hx)) (by omega) (by simp) rfl
      simp; omega
    | form => simp
    | ended => simp
theorem Tk.byts {w : World} {T R g : Nat} {K : List Int} {s : Option Nat} (h : Tk w T R g K s) : ∀ x ∈ K, 0 ≤ x ∧ x < 256 := by
  obtain ⟨v, t, _, h2⟩ := h.shape; exact h2.byts

theorem small_any (T R g : Nat) (K : List Int) (s : Option Nat) (w : World) (h : Tk w T R g K s) :
    Calls Tryd.prog 59 #[.pointer (some ⟨T, 0, none⟩)] w fun e w' => e = .returned (.int .i64 (smallP K s).1) ∧ Tk w' T R g K (smallP K s).2 ∧ Upd (TR T R) w w' := by
  have N := takeU_any T R g K s w h
  obtain ⟨b0, b1⟩ := uintP_rng K s h.byts
  obtain ⟨v, t, h1, h2⟩ := h.shape
  have d0 := blk_cell h1 0 rfl
  unfold smallP
  generalize (uintP K s).1 = x at N b0 b1 ⊢
  generalize (uintP K s).2 = s' at N ⊢
  clear h h1 h2
  by_cases hx : x ≤ 2147483647
  · have e : min x 2147483647 = x := by omega
    simp only [e]
    go_enter Tryd.func59, Tryd.ntmps59
    go_wp2_with (go_at_call 84; refine N.mono ?_; rintro e w5 ⟨rfl, h5, u5⟩)
    go_ret
    exact ⟨ret_int (by first | rfl | omega), h5, u5⟩
  · have e : min x 2147483647 = 2147483647 := by omega
    simp only [e]
    go_enter Tryd.func59, Tryd.ntmps59
    go_wp2_with (go_at_call 84; refine N.mono ?_; rintro e w5 ⟨rfl, h5, u5⟩)
    go_ret
    exact ⟨ret_int (by first | rfl | omega), h5, u5⟩
theorem mom_any (T R g : Nat) (K : List Int) (s : Option Nat) (w : World) (h : Tk w T R g K s) :
    Calls Tryd.prog 60 #[.pointer (some ⟨T, 0, none⟩)] w fun e w' => e = .returned (.int .i64 (momP K s).1) ∧ Tk w' T R g K (momP K s).2 ∧ Upd (TR T R) w w' := by
  have N := takeU_any T R g K s w h
  obtain ⟨b0, b1⟩ := uintP_rng K s h.byts
  obtain ⟨v, t, h1, h2⟩ := h.shape
  have d0 := blk_cell h1 0 rfl
  unfold momP
  generalize (uintP K s).1 = x at N b0 b1 ⊢
  generalize (uintP K s).2 = s' at N ⊢
  clear h h1 h2
  by_cases hx : x ≤ 4611686018427387905
  · have e : min x 4611686018427387905 = x := by omega
    simp only [e]
    go_enter Tryd.func60, Tryd.ntmps60
    go_wp2_with (go_at_call 84; refine N.mono ?_; rintro e w5 ⟨rfl, h5, u5⟩)
    go_ret
    exact ⟨ret_int (by first | rfl | omega), h5, u5⟩
  · have e : min x 4611686018427387905 = 4611686018427387905 := by omega
    simp only [e]
    go_enter Tryd.func60, Tryd.ntmps60
    go_wp2_with (go_at_call 84; refine N.mono ?_; rintro e w5 ⟨rfl, h5, u5⟩)
    go_ret
    exact ⟨ret_int (by first | rfl | omega), h5, u5⟩

/-- How many there are of a list that has at most so many. -/
def countP (K : List Int) (most : Nat) (s : Option Nat) : Nat × Option Nat := if (most : Int) < (uintP K s).1 then (0, none) else ((uintP K s).1.toNat, (uintP K s).2)
theorem count_any (T R g : Nat) (K : List Int) (s : Option Nat) (most : Nat) (no : Int) (w : World) (h : Tk w T R g K s) :
    Calls Tryd.prog 80 #[.pointer (some ⟨T, 0, none⟩), .int .u64 most, .int .i64 no] w fun e w' => e = .returned (.int .u64 (countP K most s).1) ∧ Tk w' T R g K (countP K most s).2 ∧ Upd (TR T R) w w' := by
  have N := takeU_any T R g K s w h
  obtain ⟨b0, b1⟩ := uintP_rng K s h.byts
  obtain ⟨v, t, h1, h2⟩ := h.shape
  have d0 := blk_cell h1 0 rfl
  have AA := at_any R g K t w h2
  have BT := fun w' (h' : Tk w' T R g K (uintP K s).2) => h'.shape
  unfold countP
  generalize (uintP K s).1 = x at N b0 b1 ⊢
  generalize (uintP K s).2 = s' at N BT ⊢
  clear h h1 h2
  by_cases hx : (most : Int) < x
  · simp only [hx, if_true]
    go_enter Tryd.func80, Tryd.ntmps80
    go_wp2_with (first | (go_at_call 96; refine AA.mono ?_; rintro e w' ⟨rfl, rfl⟩) | (go_at_call 84; refine N.mono ?_; rintro e w5 ⟨rfl, h5, u5⟩; obtain ⟨v5, t5, h15, h25⟩ := BT w5 h5; have l5 : T < w5.heap.size := lt_of_block h15; have d5 := blk_cell h15 1 rfl; have f5 := blk_free h15 1))
    go_ret
    exact ⟨rfl, (tk_bad h15 h25).below ((Below.refl _ _).alloc (Nat.le_refl _) _), (Upd.setCell (S := TR T R) (p := ⟨T, 1, none⟩) u5 (fun _ => Or.inl rfl) _).alloc _⟩
  · simp only [hx, if_false]
    have e : ((x.toNat : Nat) : Int) = x := by omega
    rw [e]
    go_enter Tryd.func80, Tryd.ntmps80
    go_wp2_with (first | (go_at_call 96; refine AA.mono ?_; rintro e w' ⟨rfl, rfl⟩) | (go_at_call 84; refine N.mono ?_; rintro e w5 ⟨rfl, h5, u5⟩))
    go_ret
    exact ⟨rfl, h5, u5⟩

/-- All must be taken. -/
def endP (K : List Int) : Option Nat → Option Nat
  | none => none
  | some t => if t = K.length then some t else none
theorem tkEnd_any (T R g : Nat) (K : List Int) (s : Option Nat) (w : World) (h : Tk w T R g K s) :
    Calls Tryd.prog 38 #[.pointer (some ⟨T, 0, none⟩)] w fun e w' => e = .returned (.tuple #[]) ∧ Tk w' T R g K (endP K s) ∧ Upd (TR T R) w w' := by
  cases s with
  | none =>
    have h' := h
    obtain ⟨t, q, h1, h2⟩ := h
    have d1 := blk_cell h1 1 rfl
    go_enter Tryd.func38, Tryd.ntmps38
    go_wp2
    go_end0
    exact ⟨rfl, h', Upd.refl _ _⟩
  | some t =>
    obtain ⟨h1, h2⟩ := h
    have d0 := blk_cell h1 0 rfl
    have d1 := blk_cell h1 1 rfl
    have hlt := lt_of_block h1
    have hle := h2.le
    unfold endP
    by_cases ht : t = K.length
    · subst ht
      simp only [if_true]
      have N := end_any R g K w h2
      go_enter Tryd.func38, Tryd.ntmps38
      go_wp2_with (go_at_call 63; refine N.mono ?_; rintro e w5 ⟨rfl, b5⟩; have h15 := (b5.block T hlt).trans h1; have d5 := blk_cell h15 1 rfl; have f5 := blk_free h15 1)
      go_end0
      exact ⟨rfl, tk_ok h15 (h2.below b5), upd_bad b5⟩
    · simp only [ht, if_false]
      have N := end_left R g K t w h2 (by omega)
      clear ht
      go_enter Tryd.func38, Tryd.ntmps38
      go_wp2_with (go_at_call 63; refine N.mono ?_; rintro e w5 ⟨p5, rfl, F5, q5, b5⟩; have h15 := (b5.block T hlt).trans h1; have d5 := blk_cell h15 1 rfl; have f5 := blk_free h15 1)
      go_end0
      exact ⟨rfl, tk_bad h15 (h2.below b5), upd_bad b5⟩
end Go.Proofs.YtioibllopidilaaDoor
