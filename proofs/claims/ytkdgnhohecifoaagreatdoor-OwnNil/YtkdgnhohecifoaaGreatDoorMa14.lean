/-
  Merged by merge.py: Zd, Zt, Zu.
-/
import Derived.Test.YtkdgnhohecifoaaGreatDoorMa12
import Derived.Test.YtkdgnhohecifoaaGreatDoorRw
import Derived.Test.YtkdgnhohecifoaaGreatDoorMa06
import Derived.Deep.RegionHeld3
namespace Go.Proofs.YtkdgnhohecifoaaGreatDoor
open Go.Shelf Go.RowKit
set_option maxRecDepth 100000

theorem blk_cell {w : World} {g : Nat} {cs : Array Value} {t : TypeId} {fz : Nat × Nat} (h : w.heap[g]? = some (.cells cs t fz)) (j : Nat) {u : Value} (hu : cs[j]? = some u) : w.cell? ⟨g, j, none⟩ = some u := by
  simp [World.cell?, h, hu]
theorem blk_free {w : World} {g : Nat} {cs : Array Value} {t : TypeId} (h : w.heap[g]? = some (.cells cs t (0, 0))) (j : Nat) : w.frozen? ⟨g, j, none⟩ = false := by
  simp [World.frozen?, h]
abbrev TR (T R : Nat) : Nat → Prop := fun k => k = T ∨ k = R
theorem ne_of_types {w : World} {a b : Nat} {c d : Array Value} {s t : TypeId} {f h : Nat × Nat} (h1 : w.heap[a]? = some (.cells c s f)) (h2 : w.heap[b]? = some (.cells d t h)) (hne : s ≠ t) : a ≠ b := by
  rintro rfl
  rw [h1] at h2
  simp at h2
  exact hne h2.2.1
theorem upd_ok {T R : Nat} {w w' : World} {v : Value} (h : Upd (fun k => k = R) w w') : Upd (TR T R) w (w'.setCell ⟨T, 1, none⟩ v) :=
  Upd.setCell (S := TR T R) (p := ⟨T, 1, none⟩) (h.mono (fun _ _ e => Or.inr e)) (fun _ => Or.inl rfl) _
theorem upd_bad {T R : Nat} {w w' : World} {v : Value} (h : Below w.heap.size w w') : Upd (TR T R) w (w'.setCell ⟨T, 1, none⟩ v) :=
  Upd.setCell (S := TR T R) (p := ⟨T, 1, none⟩) (Upd.ofBelow h (fun k hk hk' => by omega)) (fun _ => Or.inl rfl) _

/-- A number is taken. -/
def uintP (K : List Int) : Option Nat → Int × Option Nat
  | none => (0, none)
  | some t => match scanN (K.drop t) 0 0 with
    | some (some (v, n)) => ((v : Int), some (t + n))
    | _ => (0, none)
def intP (K : List Int) (s : Option Nat) : Int × Option Nat :=
  match s with
  | none => (0, none)
  | some t => match scanN (K.drop t) 0 0 with
    | some (some (v, n)) => (zagI v, some (t + n))
    | _ => (0, none)
def textP (K : List Int) (most : Int) : Option Nat → ByteArray × Option Nat
  | none => (ByteArray.empty, none)
  | some t => match textR K t most with
    | Except.ok (f, v) => (strI ((K.drop f).take v), some (f + v))
    | Except.error _ => (ByteArray.empty, none)

end Go.Proofs.YtkdgnhohecifoaaGreatDoor

namespace Go.Proofs.YtkdgnhohecifoaaGreatDoor
open Go.Shelf Go.RowKit
set_option maxRecDepth 100000

theorem Upd.drewL {S : Nat → Prop} {a b : World} {m : Nat} (h : Upd S (a.drewN m) b) : Upd S a b := ⟨h.os, h.tape, h.output, h.size, h.block⟩
theorem below_drewL {B : Nat} {a b : World} {m : Nat} (h : Below B (a.drewN m) b) : Below B a b := ⟨h.os, h.tape, h.output, h.size, h.block⟩

def smallP (K : List Int) (s : Option Nat) : Int × Option Nat := (min (uintP K s).1 2147483647, (uintP K s).2)
def momP (K : List Int) (s : Option Nat) : Int × Option Nat := (min (uintP K s).1 4611686018427387905, (uintP K s).2)
theorem uintP_rng (K : List Int) (s : Option Nat) (hK : ∀ x ∈ K, 0 ≤ x ∧ x < 256) : 0 ≤ (uintP K s).1 ∧ (uintP K s).1 < 18446744073709551616 := by
  cases s with
  | none => simp [uintP]
  | some t =>
    unfold uintP
    simp only
    have hv := scan_val (K.drop t) 0 0
    generalize scanN (K.drop t) 0 0 = r at hv ⊢
    cases r using NumRes.each with
    | ok v n =>
      have := hv v n (fun x hx => hK x (List.mem_of_mem_drop hx)) (by omega) (by simp) rfl
      simp; omega
    | form => simp
    | ended => simp
/-- How many there are of a list that has at most so many. -/
def countP (K : List Int) (most : Nat) (s : Option Nat) : Nat × Option Nat := if (most : Int) < (uintP K s).1 then (0, none) else ((uintP K s).1.toNat, (uintP K s).2)
/-- All must be taken. -/
def endP (K : List Int) : Option Nat → Option Nat
  | none => none
  | some t => if t = K.length then some t else none
end Go.Proofs.YtkdgnhohecifoaaGreatDoor

namespace Go.Proofs.YtkdgnhohecifoaaGreatDoor
open Go.Shelf Go.RowKit
set_option maxRecDepth 100000

/-- Eight bytes as a number. -/
def unrawL (l : List Int) : Int := l.foldl (fun v c => v * 256 + c) 0
def rawP (K : List Int) : Option Nat → Int × Option Nat
  | none => (0, none)
  | some t => if t + 8 ≤ K.length then (unrawL ((K.drop t).take 8), some (t + 8)) else (0, none)
theorem or_low (v c : Int) (h0 : 0 ≤ v) (h1 : v < 72057594037927936) (h2 : 0 ≤ c) (h3 : c < 256) : bits .or .u64 (v * 256) c = v * 256 + c := by
  obtain ⟨a, rfl⟩ := Int.eq_ofNat_of_zero_le h0
  obtain ⟨b, rfl⟩ := Int.eq_ofNat_of_zero_le h2
  have h1' : a < 72057594037927936 := by omega
  have h3' : b < 256 := by omega
  rw [show ((a : Int) * 256) = ((a * 256 : Nat) : Int) by omega, u64_or_nat (a * 256) b (by omega) (by omega)]
  have := Nat.shiftLeft_add_eq_or_of_lt (i := 8) (b := b) (by omega) a
  rw [Nat.shiftLeft_eq] at this
  rw [← this]
  omega
theorem unraw_snoc (l : List Int) (c : Int) : unrawL (l ++ [c]) = unrawL l * 256 + c := by simp [unrawL]
theorem unraw_bound : ∀ (k : Nat) (l : List Int), l.length = k → (∀ x ∈ l, 0 ≤ x ∧ x < 256) → 0 ≤ unrawL l ∧ unrawL l < 256 ^ k := by
  intro k
  induction k with
  | zero => intro l hl _; have : l = [] := List.eq_nil_of_length_eq_zero hl; subst this; simp [unrawL]
  | succ k ih =>
    intro l hl hb
    have hne : l ≠ [] := by intro e; subst e; simp at hl
    obtain ⟨m, c, rfl⟩ : ∃ m c, l = m ++ [c] := ⟨l.dropLast, l.getLast hne, (List.dropLast_concat_getLast hne).symm⟩
    have hm := ih m (by simpa using hl) (fun x hx => hb x (by simp [hx]))
    have hc := hb c (by simp)
    rw [unraw_snoc, Int.pow_succ]
    omega

end Go.Proofs.YtkdgnhohecifoaaGreatDoor
