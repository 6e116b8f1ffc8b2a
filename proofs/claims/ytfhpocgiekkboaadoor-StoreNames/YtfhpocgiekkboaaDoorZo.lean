/-
  Contracts: the taker's links, attributes, events (written by gen_zo.py).
-/
import Derived.Test.YtfhpocgiekkboaaDoorZu
import Derived.Test.YtfhpocgiekkboaaDoorZp
import Derived.Test.YtfhpocgiekkboaaDoorMw
namespace Go.Proofs.YtfhpocgiekkboaaDoor
open Go.Shelf Go.RowKit
set_option maxRecDepth 100000

/-- A block of another kind than a taker's. -/
structure Far (w : World) (T R g E : Nat) : Prop where
  t : T ≠ E
  r : R ≠ E
  g : g ≠ E
  f : E ≠ 0
  a : E ≠ 1
theorem own_neW {base : Nat} {w : World} {e : TypeId} {size : Nat} {v : Value} {n : Nat} {xs : List Value} (h : w.ownsRow base e size v n xs) {R : Nat} {cs : Array Value} {t : TypeId} {fz : Nat × Nat} (hR : w.heap[R]? = some (.cells cs t fz)) (hne : e ≠ t) : v.ownBlock ≠ some R := by
  intro hk
  rcases h.2 with ⟨rfl, _⟩ | ⟨g, cap, cur, rfl, _, hg, _⟩
  · simp [Value.ownBlock] at hk
  · simp [Value.ownBlock] at hk
    subst hk
    rw [hR] at hg
    simp at hg
    exact hne hg.2.1.symm
/-- So many takings, one behind the other. -/
def iterS {α : Type} (f : Option Nat → α × Option Nat) : Nat → Option Nat → List α × Option Nat
  | 0, s => ([], s)
  | k + 1, s => ((iterS f k s).1 ++ [(f (iterS f k s).2).1], (f (iterS f k s).2).2)
theorem iterS_len {α : Type} (f : Option Nat → α × Option Nat) (k : Nat) (s : Option Nat) : (iterS f k s).1.length = k := by
  induction k with
  | zero => rfl
  | succ k ih => simp [iterS, ih]
theorem countP_le (K : List Int) (most : Nat) (s : Option Nat) : (countP K most s).1 ≤ most := by
  unfold countP; split <;> simp <;> omega
def linksP (K : List Int) (s : Option Nat) : List Int × Option Nat := iterS (rawP K) (countP K 16 s).1 (countP K 16 s).2
theorem rawP_rng (K : List Int) (s : Option Nat) (hK : ∀ x ∈ K, 0 ≤ x ∧ x < 256) : 0 ≤ (rawP K s).1 ∧ (rawP K s).1 < 18446744073709551616 := by
  cases s with
  | none => simp [rawP]
  | some t =>
    unfold rawP
    simp only
    split
    · have := unraw_bound 8 ((K.drop t).take 8) (by simp; omega) (fun x hx => hK x (List.mem_of_mem_drop (List.mem_of_mem_take hx)))
      simpa using this
    · simp
theorem Tryd.info32 : (Tryd.prog.info? 32).map (fun i => (i.zero, i.size, i.bytes)) = some (some (.int .u64 0), 1, 8) := by kernel_rfl
theorem upd_new {S : Nat → Prop} {a b c : World} {v : Value} {base e size n : Nat} {xs : List Value} (hu : Upd S a b) (ho : b.ownsRow base e size v n xs) (hb : a.heap.size ≤ base) (hg : b.grownBy c v.ownBlock) : Upd S a c :=
  hu.grown hg (fun k hk e => by
    rcases ho.2 with ⟨rfl, _⟩ | ⟨g, cap, cur, rfl, hbg, _⟩
    · simp [Value.ownBlock] at e
    · simp [Value.ownBlock] at e; omega)

end Go.Proofs.YtfhpocgiekkboaaDoor
