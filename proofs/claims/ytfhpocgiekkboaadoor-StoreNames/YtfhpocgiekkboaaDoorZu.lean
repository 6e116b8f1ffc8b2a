/-
  Contracts: the taker's raw.
-/
import Derived.Test.YtfhpocgiekkboaaDoorZt
namespace Go.Proofs.YtfhpocgiekkboaaDoor
open Go.Shelf Go.RowKit
set_option maxRecDepth 100000

/-- Eight bytes as a number. -/
def unrawL (l : List Int) : Int := l.foldl (fun v c => v * 256 + c) 0
def rawP (K : List Int) : Option Nat → Int × Option Nat
  | none => (0, none)
  | some t => if t + 8 ≤ K.length then (unrawL ((K.drop t).take 8), some (t + 8)) else (0, none)
theorem or_low (v c : Int) (h0 : 0 ≤ v) (h1 : v < 72057594037927936) (h2 : 0 ≤ c) (h3 : c < 256) : bits .or .u64 (v * 256) c = v * 256 + c := by
  obtain ⟨a, rfl⟩ := Int.eq_ofNat_of_zero_le h0
  obtain ⟨b, rfl⟩ := Int.eq_ofNat_of_zero_le h2
  have h1' : a < 72057594037927936 := by omega
  have h3' : b < 256 := by omega
  rw [show ((a : Int) * 256) = ((a * 256 : Nat) : Int) by omega, u64_or_nat (a * 256) b (by omega) (by omega)]
  have := Nat.shiftLeft_add_eq_or_of_lt (i := 8) (b := b) (by omega) a
  rw [Nat.shiftLeft_eq] at this
  rw [← this]
  omega
theorem unraw_snoc (l : List Int) (c : Int) : unrawL (l ++ [c]) = unrawL l * 256 + c := by simp [unrawL]
theorem unraw_bound : ∀ (k : Nat) (l : List Int), l.length = k → (∀ x ∈ l, 0 ≤ x ∧ x < 256) → 0 ≤ unrawL l ∧ unrawL l < 256 ^ k := by
  intro k
  induction k with
  | zero => intro l hl _; have : l = [] := List.eq_nil_of_length_eq_zero hl; subst this; simp [unrawL]
  | succ k ih =>
    intro l hl hb
    have hne : l ≠ [] := by intro e; subst e; simp at hl
    obtain ⟨m, c, rfl⟩ : ∃ m c, l = m ++ [c] := ⟨l.dropLast, l.getLast hne, (List.dropLast_concat_getLast hne).symm⟩
    have hm := ih m (by simpa using hl) (fun x hx => hb x (by simp [hx]))
    have hc := hb c (by simp)
    rw [unraw_snoc, Int.pow_succ]
    omega

end Go.Proofs.YtfhpocgiekkboaaDoor
