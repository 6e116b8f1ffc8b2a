/-
  Rows of one's own, just made.
-/
import Derived.Test.YthnfpapaknejnabCu
namespace Go.Proofs.Ythnfpapaknejnab
open Go.RowKit
set_option maxRecDepth 100000

/-- A list without bytes, just made. -/
theorem own_fresh (w : World) (base : Nat) (hb : base ≤ w.heap.size) : (w.alloc (.cells #[] 5)).ownsRow base 5 1 (.slice (some ⟨w.heap.size, 0, none⟩) 0 0) 0 [] := by
  have h : RowAt (w.alloc (.cells #[] 5)) w.heap.size [] := heap_alloc_new w _
  have := h.own base hb (by simp)
  simpa using this
/-- Midway: a row of one's own above what was there. -/
structure Ow (w : World) (wk : World) (v : Value) (L : List Int) : Prop where
  below : Below w.heap.size w wk
  own : wk.ownsRow w.heap.size 5 1 v L.length (L.map (Value.int .u8))
theorem Ow.fresh {w wk : World} (hb : Below w.heap.size w wk) : Ow w (wk.alloc (.cells #[] 5)) (.slice (some ⟨wk.heap.size, 0, none⟩) 0 0) [] :=
  ⟨hb.alloc hb.size _, own_fresh wk _ hb.size⟩
theorem Ow.grown {w wk w2 : World} {v v' : Value} {L M : List Int} (h : Ow w wk v L) (ho : w2.ownsRow w.heap.size 5 1 v' (L.length + M.length) (L.map (Value.int .u8) ++ M.map (Value.int .u8))) (hg : wk.grownBy w2 v.ownBlock) : Ow w w2 v' (L ++ M) :=
  ⟨h.below.trans ((grown_upd hg).below h.below.size (fun k hk e => by have := (own_lt h.own e).2; omega)), by simpa using ho⟩

/-- A piece farther on. -/
def farP (d : Nat) (p : Pc) : Pc := (p.1, p.2.1, p.2.2.1 + d, p.2.2.2)
theorem scanG_far (f : Nat) : ∀ (R : List Int) (p d : Nat), scanG f R (p + d) = ((scanG f R p).1.map (farP d), (scanG f R p).2.1 + d, (scanG f R p).2.2) := by
  induction f with
  | zero => intro R p d; simp [scanG]
  | succ f ih =>
    intro R p d
    by_cases h0 : R.length = 0
    · obtain rfl : R = [] := List.eq_nil_of_length_eq_zero h0
      rw [scanG_nil, scanG_nil]; simp
    · cases hs : stepS R with
      | error e => rw [scanG_err f _ R e (by omega) hs, scanG_err f _ R e (by omega) hs]; simp
      | ok x =>
        obtain ⟨k, q, n⟩ := x
        rw [scanG_ok f _ R k q n (by omega) hs, scanG_ok f _ R k q n (by omega) hs, show p + d + 24 + n = (p + 24 + n) + d by omega, ih (R.drop (24 + n)) (p + 24 + n) d]
        simp [farP]
        omega
theorem scan_joined (fs : List Fr) (R : List Int) (hok : ∀ f ∈ fs, okF f) :
    scanL (catL fs ++ R) = (pcsL 0 fs ++ (scanL R).1.map (farP (catL fs).length), (scanL R).2.1 + (catL fs).length, (scanL R).2.2) := by
  unfold scanL
  rw [scan_cat fs R 0 _ R.length hok (Nat.le_refl _) (Nat.le_refl _), scanG_far R.length R 0 (catL fs).length]
end Go.Proofs.Ythnfpapaknejnab
