/-
  Contracts: the taker: take, raw, text, small, moment, count, end.
-/
import Derived.Test.YtioibllopidilaaDoorTx
import Derived.Test.YtioibllopidilaaDoorRw
import Derived.Test.YtioibllopidilaaDoorZe
import Derived.Deep.RegionHeld3
namespace Go.Proofs.YtioibllopidilaaDoor
open Go.Shelf Go.RowKit
set_option maxRecDepth 100000

theorem blk_cell {w : World} {g : Nat} {cs : Array Value} {t : TypeId} {fz : Nat × Nat} (h : w.heap[g]? = some (.cells cs t fz)) (j : Nat) {u : Value} (hu : cs[j]? = some u) : w.cell? ⟨g, j, none⟩ = some u := by
  simp [World.cell?, h, hu]
theorem blk_free {w : World} {g : Nat} {cs : Array Value} {t : TypeId} (h : w.heap[g]? = some (.cells cs t (0, 0))) (j : Nat) : w.frozen? ⟨g, j, none⟩ = false := by
  simp [World.frozen?, h]
/-- A taker: at a place; or something was wrong. -/
def Tk (w : World) (T R g : Nat) (K : List Int) : Option Nat → Prop
  | some t => w.heap[T]? = some (.cells #[.pointer (some ⟨R, 0, none⟩), .nilIface] 86 (0, 0)) ∧ IsR w R g K t
  | none => ∃ t q, w.heap[T]? = some (.cells #[.pointer (some ⟨R, 0, none⟩), .iface 87 (.pointer (some ⟨q, 0, none⟩))] 86 (0, 0)) ∧ IsR w R g K t
abbrev TR (T R : Nat) : Nat → Prop := fun k => k = T ∨ k = R
theorem ne_of_types {w : World} {a b : Nat} {c d : Array Value} {s t : TypeId} {f h : Nat × Nat} (h1 : w.heap[a]? = some (.cells c s f)) (h2 : w.heap[b]? = some (.cells d t h)) (hne : s ≠ t) : a ≠ b := by
  rintro rfl
  rw [h1] at h2
  simp at h2
  exact hne h2.2.1
theorem isR_set {w : World} {R g T : Nat} {K : List Int} {t : Nat} {c : Array Value} {i : Nat} {v : Value} (h : IsR w R g K t) (hT : w.heap[T]? = some (.cells c 86 (0, 0))) : IsR (w.setCell ⟨T, i, none⟩ v) R g K t := by
  have h1 : T ≠ R := ne_of_types hT h.block (by decide)
  have h2 : T ≠ g := ne_of_types hT h.row (by decide)
  exact h.upd (S := fun k => k = T) (Upd.setCell (S := fun k => k = T) (p := ⟨T, i, none⟩) (Upd.refl _ _) (fun _ => rfl) v) (fun e => h1 e.symm) (fun e => h2 e.symm)
theorem tk_ok {w : World} {T R g : Nat} {K : List Int} {t : Nat} {v : Value} (hT : w.heap[T]? = some (.cells #[.pointer (some ⟨R, 0, none⟩), v] 86 (0, 0))) (h : IsR w R g K t) : Tk (w.setCell ⟨T, 1, none⟩ .nilIface) T R g K (some t) :=
  ⟨by rw [set_block hT 1]; rfl, isR_set h hT⟩
theorem tk_bad {w : World} {T R g : Nat} {K : List Int} {t q : Nat} {v : Value} (hT : w.heap[T]? = some (.cells #[.pointer (some ⟨R, 0, none⟩), v] 86 (0, 0))) (h : IsR w R g K t) : Tk (w.setCell ⟨T, 1, none⟩ (.iface 87 (.pointer (some ⟨q, 0, none⟩)))) T R g K none :=
  ⟨t, q, by rw [set_block hT 1]; rfl, isR_set h hT⟩
theorem Tk.below {w w' : World} {T R g : Nat} {K : List Int} {s : Option Nat} (h : Tk w T R g K s) (hb : Below w.heap.size w w') : Tk w' T R g K s := by
  cases s with
  | some t => exact ⟨(hb.block T (lt_of_block h.1)).trans h.1, h.2.below hb⟩
  | none => obtain ⟨t, q, h1, h2⟩ := h; exact ⟨t, q, (hb.block T (lt_of_block h1)).trans h1, h2.below hb⟩
/-- In any state: where the taker and its Reader lie. -/
theorem Tk.shape {w : World} {T R g : Nat} {K : List Int} {s : Option Nat} (h : Tk w T R g K s) : ∃ v t, w.heap[T]? = some (.cells #[.pointer (some ⟨R, 0, none⟩), v] 86 (0, 0)) ∧ IsR w R g K t := by
  cases s with
  | some t => exact ⟨_, t, h.1, h.2⟩
  | none => obtain ⟨t, q, h1, h2⟩ := h; exact ⟨_, t, h1, h2⟩

theorem upd_ok {T R : Nat} {w w' : World} {v : Value} (h : Upd (fun k => k = R) w w') : Upd (TR T R) w (w'.setCell ⟨T, 1, none⟩ v) :=
  Upd.setCell (S := TR T R) (p := ⟨T, 1, none⟩) (h.mono (fun _ _ e => Or.inr e)) (fun _ => Or.inl rfl) _
theorem upd_bad {T R : Nat} {w w' : World} {v : Value} (h : Below w.heap.size w w') : Upd (TR T R) w (w'.setCell ⟨T, 1, none⟩ v) :=
  Upd.setCell (S := TR T R) (p := ⟨T, 1, none⟩) (Upd.ofBelow h (fun k hk hk' => by omega)) (fun _ => Or.inl rfl) _

/-- A number is taken. -/
def uintP (K : List Int) : Option Nat → Int × Option Nat
  | none => (0, none)
  | some t => match scanN (K.drop t) 0 0 with
    | some (some (v, n)) => ((v : Int), some (t + n))
    | _ => (0, none)
def intP (K : List Int) (s : Option Nat) : Int × Option Nat :=
  match s with
  | none => (0, none)
  | some t => match scanN (K.drop t) 0 0 with
    | some (some (v, n)) => (zagI v, some (t + n))
    | _ => (0, none)
def textP (K : List Int) (most : Int) : Option Nat → ByteArray × Option Nat
  | none => (ByteArray.empty, none)
  | some t => match textR K t most with
    | Except.ok (f, v) => (strI ((K.drop f).take v), some (f + v))
    | Except.error _ => (ByteArray.empty, none)

theorem takeU_any (T R g : Nat) (K : List Int) (s : Option Nat) (w : World) (h : Tk w T R g K s) :
    Calls Tryd.prog 84 #[.pointer (some ⟨T, 0, none⟩), .func (.func 85) #[.pointer (some ⟨R, 0, none⟩)] #[]] w fun e w' => e = .returned (.int .u64 (uintP K s).1) ∧ Tk w' T R g K (uintP K s).2 ∧ Upd (TR T R) w w' := by
  cases s with
  | none =>
    have h' := h
    obtain ⟨t, q, h1, h2⟩ := h
    have d1 := blk_cell h1 1 rfl
    go_enter Tryd.func84, Tryd.ntmps84
    go_wp2
    go_ret
    exact ⟨rfl, h', Upd.refl _ _⟩
  | some t =>
    obtain ⟨h1, h2⟩ := h
    have d1 := blk_cell h1 1 rfl
    have N := getUint_any R g K t w h2
    have hne : T ≠ R := ne_of_types h1 h2.block (by decide)
    have hlt := lt_of_block h1
    unfold uintP
    simp only
    generalize scanN (K.drop t) 0 0 = r at N ⊢
    cases r using NumRes.each with
    | ok v n =>
      go_enter Tryd.func84, Tryd.ntmps84
      go_wp2_with (go_at_call 85; refine N.mono ?_; rintro e w5 ⟨rfl, h5, u5⟩; have h15 := (u5.block T hlt (fun e => hne e)).trans h1; have d5 := blk_cell h15 1 rfl; have f5 := blk_free h15 1)
      go_ret
      exact ⟨rfl, tk_ok h15 h5, upd_ok u5⟩
    | form =>
      go_enter Tryd.func84, Tryd.ntmps84
      go_wp2_with (go_at_call 85; refine N.mono ?_; rintro e w5 ⟨p5, rfl, F5, q5, b5⟩; have h15 := (b5.block T hlt).trans h1; have d5 := blk_cell h15 1 rfl; have f5 := blk_free h15 1)
      go_ret
      exact ⟨rfl, tk_bad h15 (h2.below b5), upd_bad b5⟩
    | ended =>
      go_enter Tryd.func84, Tryd.ntmps84
      go_wp2_with (go_at_call 85; refine N.mono ?_; rintro e w5 ⟨p5, rfl, F5, q5, b5⟩; have h15 := (b5.block T hlt).trans h1; have d5 := blk_cell h15 1 rfl; have f5 := blk_free h15 1)
      go_ret
      exact ⟨rfl, tk_bad h15 (h2.below b5), upd_bad b5⟩
theorem takeI_any (T R g : Nat) (K : List Int) (s : Option Nat) (w : World) (h : Tk w T R g K s) :
    Calls Tryd.prog 86 #[.pointer (some ⟨T, 0, none⟩), .func (.func 87) #[.pointer (some ⟨R, 0, none⟩)] #[]] w fun e w' => e = .returned (.int .i64 (intP K s).1) ∧ Tk w' T R g K (intP K s).2 ∧ Upd (TR T R) w w' := by
  cases s with
  | none =>
    have h' := h
    obtain ⟨t, q, h1, h2⟩ := h
    have d1 := blk_cell h1 1 rfl
    go_enter Tryd.func86, Tryd.ntmps86
    go_wp2
    go_ret
    exact ⟨rfl, h', Upd.refl _ _⟩
  | some t =>
    obtain ⟨h1, h2⟩ := h
    have d1 := blk_cell h1 1 rfl
    have N := getInt_any R g K t w h2
    have hne : T ≠ R := ne_of_types h1 h2.block (by decide)
    have hlt := lt_of_block h1
    unfold intP
    simp only
    generalize scanN (K.drop t) 0 0 = r at N ⊢
    cases r using NumRes.each with
    | ok v n =>
      go_enter Tryd.func86, Tryd.ntmps86
      go_wp2_with (go_at_call 87; refine N.mono ?_; rintro e w5 ⟨rfl, h5, u5⟩; have h15 := (u5.block T hlt (fun e => hne e)).trans h1; have d5 := blk_cell h15 1 rfl; have f5 := blk_free h15 1)
      go_ret
      exact ⟨rfl, tk_ok h15 h5, upd_ok u5⟩
    | form =>
      go_enter Tryd.func86, Tryd.ntmps86
      go_wp2_with (go_at_call 87; refine N.mono ?_; rintro e w5 ⟨p5, rfl, F5, q5, b5⟩; have h15 := (b5.block T hlt).trans h1; have d5 := blk_cell h15 1 rfl; have f5 := blk_free h15 1)
      go_ret
      exact ⟨rfl, tk_bad h15 (h2.below b5), upd_bad b5⟩
    | ended =>
      go_enter Tryd.func86, Tryd.ntmps86
      go_wp2_with (go_at_call 87; refine N.mono ?_; rintro e w5 ⟨p5, rfl, F5, q5, b5⟩; have h15 := (b5.block T hlt).trans h1; have d5 := blk_cell h15 1 rfl; have f5 := blk_free h15 1)
      go_ret
      exact ⟨rfl, tk_bad h15 (h2.below b5), upd_bad b5⟩

theorem text1_any (T R g P Q : Nat) (K : List Int) (t : Nat) (most : Int) (w : World) (h : Tk w T R g K (some t)) (hT : Tabs w) (hmx : most ≤ 9223372036854775807)
    (hP : w.heap[P]? = some (.cells #[.pointer (some ⟨T, 0, none⟩)] 82 (0, 0))) (hQ : w.heap[Q]? = some (.cells #[.int .i64 most] 3 (0, 0))) :
    Calls Tryd.prog 82 #[.pointer (some ⟨P, 0, none⟩), .pointer (some ⟨Q, 0, none⟩)] w fun e w' => ∃ m, TextPost (w.drewN m) R g K (textR K t most) e w' := by
  obtain ⟨h1, h2⟩ := h
  have d0 := blk_cell h1 0 rfl
  have p0 := blk_cell hP 0 rfl
  have q0 := blk_cell hQ 0 rfl
  have N := fun m => getText_any R g K t most (w.drewN m) (h2.below (below_drewN (Below.refl _ _) m)) (hT.below (below_drewN (Below.refl _ _) m)) hmx
  generalize textR K t most = r at N ⊢
  have K5 : ∀ m w5, (Upd (fun k => k = R) (w.drewN m) w5) → w5.cell? ⟨P, 0, none⟩ = some (.pointer (some ⟨T, 0, none⟩)) ∧ w5.cell? ⟨T, 0, none⟩ = some (.pointer (some ⟨R, 0, none⟩)) ∧ w5.cell? ⟨Q, 0, none⟩ = some (.int .i64 most) := by
    intro m w5 u
    have n1 : P ≠ R := ne_of_types hP h2.block (by decide)
    have n2 : T ≠ R := ne_of_types h1 h2.block (by decide)
    have n3 : Q ≠ R := ne_of_types hQ h2.block (by decide)
    exact ⟨blk_cell ((u.block P (lt_of_block hP) n1).trans hP) 0 rfl, blk_cell ((u.block T (lt_of_block h1) n2).trans h1) 0 rfl, blk_cell ((u.block Q (lt_of_block hQ) n3).trans hQ) 0 rfl⟩
  cases r using TxtRes.each with
  | ok f v =>
    go_enter Tryd.func82, Tryd.ntmps82
    go_wp2
    go_region_held3 (fun w' => w'.cell? ⟨P, 0, none⟩ = some (.pointer (some ⟨T, 0, none⟩)) ∧ w'.cell? ⟨T, 0, none⟩ = some (.pointer (some ⟨R, 0, none⟩)) ∧ w'.cell? ⟨Q, 0, none⟩ = some (.int .i64 most)) (first | (simp [go_sem, *]; done) | exact S5) (first | (go_at_call 83; refine (N 1).mono ?_; rintro e w5 ⟨rfl, h5, u5⟩; have S5 := K5 1 w5 u5; clear N))
    go_wp2
    go_ret2
    exact ⟨1, rfl, h5, u5⟩
  | bad a n =>
    go_enter Tryd.func82, Tryd.ntmps82
    go_wp2
    go_region_held3 (fun w' => w'.cell? ⟨P, 0, none⟩ = some (.pointer (some ⟨T, 0, none⟩)) ∧ w'.cell? ⟨T, 0, none⟩ = some (.pointer (some ⟨R, 0, none⟩)) ∧ w'.cell? ⟨Q, 0, none⟩ = some (.int .i64 most)) (first | (simp [go_sem, *]; done) | exact S5) (first | (go_at_call 83; refine (N 1).mono ?_; rintro e w5 ⟨p5, rfl, F5, q5, b5⟩; have S5 := K5 1 w5 (Upd.ofBelow b5 (fun k hk hk' => (by omega))); clear N))
    go_wp2
    go_ret2
    exact ⟨1, p5, rfl, F5, q5, b5⟩
end Go.Proofs.YtioibllopidilaaDoor
