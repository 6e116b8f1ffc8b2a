/-
  The walk of IvalMoments.
-/
import Derived.Test.YtakannfkbmnlfaaVl
namespace Go.Proofs.Ytakannfkbmnlfaa
open Go.Shelf Go.RowKit Go.Lib
set_option maxRecDepth 100000

theorem Below.step {w w1 w2 : World} (h : Below w.heap.size w w1) (k : Below w1.heap.size w1 w2) : Below w.heap.size w w2 := h.trans (k.mono h.size)
/-- A list of intervals that lies here is a source of an append. -/
theorem IvAt.src {w : World} {ad : Option Addr} {n c : Nat} {l : List (Int × Int)} (h : IvAt w ad n l) : Src Try.prog 2 22 (.slice ad n c) n (l.flatMap ivC) w := by
  by_cases hn : 0 < n
  · obtain ⟨b, off, rfl, hc⟩ := h.lies hn
    refine Src.ofSlice w Try.underlying22 ⟨b, off, none⟩ n c _ (by rw [ivC_len, h.len]) ?_ (ivC_one l)
    intro j u hj
    rw [Addr.add_lit]
    have hjl : j < (l.flatMap ivC).length := (List.getElem?_eq_some_iff.1 hj).1
    rw [ivC_len] at hjl
    have hi : j / 2 < l.length := by omega
    obtain ⟨a1, a2⟩ := ivC_at l (j / 2) hi
    obtain ⟨c1, c2⟩ := hc (j / 2) hi
    have h2 : j % 2 = 0 ∨ j % 2 = 1 := by omega
    rcases h2 with h2 | h2
    · have e : j / 2 * 2 = j := by omega
      rw [e] at a1 c1
      rw [hj] at a1
      rw [c1, Option.some.inj a1]
    · have e : j / 2 * 2 + 1 = j := by omega
      rw [e] at a2
      rw [Nat.add_assoc, e] at c2
      rw [hj] at a2
      rw [c2, Option.some.inj a2]
  · have h0 : n = 0 := by omega
    subst h0
    have hl : l = [] := List.eq_nil_of_length_eq_zero h.len
    subst hl
    cases ad with
    | none => exact Src.ofNil w Try.underlying22 c
    | some a => exact Src.ofSlice w Try.underlying22 a 0 c [] rfl (fun j u hj => by simp at hj) (fun _ h => by cases h)
end Go.Proofs.Ytakannfkbmnlfaa
