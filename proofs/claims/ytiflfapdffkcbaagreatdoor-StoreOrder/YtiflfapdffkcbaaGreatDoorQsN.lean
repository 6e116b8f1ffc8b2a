/-
  QsN.
-/
import Derived.Test.YtiflfapdffkcbaaGreatDoorQsM
import Derived.Shelf.SlicesE.Compact
import Derived.Shelf.SlGeneric
import Derived.Ground.SlgnProg
namespace Go.Proofs.YtiflfapdffkcbaaGreatDoor.qs
open Go Go.Shelf Go.RowKit Go.Lib
set_option maxRecDepth 100000

theorem lenU_any (n : Nat) (hz : n ≤ 1099511627776) (W : World) :
    Calls Tryz.prog 63 #[.int .u64 n] W fun e w' => e = .returned (.int .i64 (sk.lenN n : Nat)) ∧ w' = W := by
  have L64 := sk.len64_any n (by omega)
  go_enter Tryz.func63, Tryz.ntmps63
  go_wp2_with (go_at_call 86; (with_reducible refine (L64 _).mono ?_); clear L64; rintro e w' ⟨rfl, hw⟩; obtain rfl := hw.symm)
  go_ret
  exact ⟨rfl, rfl⟩
theorem lenN_le (n : Nat) (hz : n ≤ 1099511627776) : sk.lenN n ≤ 64 := by
  by_cases h : n = 0
  · subst h; decide
  · rw [sk.lenN_log h]
    obtain ⟨p1, p2⟩ := sk.log2_le (v := n) (by omega)
    rcases Nat.lt_or_ge n.log2 63 with h6 | h6
    · omega
    · have := Nat.pow_le_pow_right (n := 2) (by omega) h6
      omega
theorem sortU_any (g n c : Nat) (L : List Int) (R : List Value) (w : World) (h : U64R w g L R) (hn : L.length = n) (hz : n ≤ 1099511627776) :
    Calls Tryz.prog 48 #[.slice (some ⟨g, 0, none⟩) n c] w (PdqP w g 0 n L R) := by
  have LN := lenU_any n hz w
  obtain ⟨m, hm⟩ : ∃ m, sk.lenN n = m := ⟨_, rfl⟩
  have hm64 : m ≤ 1099511627776 := by rw [← hm]; exact Nat.le_trans (lenN_le n hz) (by omega)
  have PD : Calls Tryz.prog 64 #[.slice (some ⟨g, 0, none⟩) n c, .int .i64 0, .int .i64 n, .int .i64 m] w (PdqP w g 0 n L R) :=
    pdq_any g n c R (n + 1) 0 n m L w (by omega) h hn (by omega) (Nat.le_refl _) hz hm64 (fun h => absurd h (by omega))
  rw [hm] at LN
  have wn : IntKind.u64.wrap (n : Int) = (n : Int) := by rw [IntKind.wrap_u64]; omega
  clear hm hm64 hn hz h
  go_enter Tryz.func48, Tryz.ntmps48
  go_wp2_with (first
    | (go_at_call 63; (with_reducible refine LN.mono ?_); clear LN; rintro e w1 ⟨rfl, hw⟩; obtain rfl := hw.symm)
    | (go_at_call 64; (with_reducible refine PD.mono ?_); clear PD; rintro e w2 ⟨rfl, hP0⟩; have hP : Hid (PdqP w g 0 n L R (.returned (.tuple #[])) w2) := ⟨rfl, hP0⟩; clear hP0))
  go_end0
  exact hP.out
theorem bangU (L : List Int) (j : Nat) : L.toArray[j]! = atL L j := by
  unfold atL
  rw [List.getElem!_toArray, List.getElem!_eq_getElem?_getD, List.getD_eq_getElem?_getD]
  rfl
theorem compU_nodup (n : Nat) (L : List Int) (hn : L.length = n) (hs : SortedOn 0 n L) : (compactUpTo L.toArray n).length = n ↔ L.Nodup := by
  have e1 : (compactUpTo L.toArray n).length = n ↔ ∀ j, j < n → keeps L.toArray j = true := by
    unfold compactUpTo
    rw [List.length_map]
    have := @List.length_filter_eq_length_iff _ (keeps L.toArray) (List.range n)
    rw [List.length_range] at this
    rw [this]
    simp
  rw [e1]
  have e2 : ∀ j, keeps L.toArray j = true ↔ (j = 0 ∨ atL L j ≠ atL L (j - 1)) := fun j => by
    unfold keeps
    rw [bangU, bangU]
    simp
  constructor
  · intro h
    have hst : ∀ i j, i < j → j < n → atL L i < atL L j := fun i j h1 h2 => by
      have k := (e2 j).1 (h j h2)
      have k2 := hs (j - 1) j (by omega) (by omega) h2
      by_cases e : i = j - 1
      · rcases k with k | k
        · omega
        · rw [e]; omega
      · have k3 := hs i (j - 1) (by omega) (by omega) (by omega)
        rcases k with k | k
        · omega
        · omega
    unfold List.Nodup
    rw [List.pairwise_iff_getElem]
    intro i j hi hj hij
    rw [atL_get hi, atL_get hj]
    have := hst i j hij (by omega)
    omega
  · intro h j hj
    rw [e2]
    by_cases h0 : j = 0
    · exact Or.inl h0
    · right
      unfold List.Nodup at h
      rw [List.pairwise_iff_getElem] at h
      have := h (j - 1) j (by omega) (by omega) (by omega)
      rw [atL_get, atL_get] at this
      exact fun e => this e.symm
theorem holdsU {W : World} {g : Nat} {L : List Int} {R : List Value} (h : U64R W g L R) : Go.Sort.Holds (Value.int .u64) W g 0 L.toArray := by
  intro j hj
  have hj' : j < L.length := by simpa using hj
  rw [Nat.zero_add, bangU]
  exact ⟨h.cell j hj', h.frozen j⟩
theorem upd_putU (w : World) (g q : Nat) (d : Array Int) : Upd (fun k => k = g) w (Go.Sort.putRow (Value.int .u64) (Sort.ahead w q) g 0 d) := by
  refine ⟨rfl, rfl, rfl, ?_, fun k hk hn => ?_⟩
  · rw [Go.Sort.size_putRow]; exact Nat.le_refl _
  · show (w.heap.modify g _)[k]? = _
    rw [Array.getElem?_modify, if_neg (fun e => hn e.symm)]
end Go.Proofs.YtiflfapdffkcbaaGreatDoor.qs
