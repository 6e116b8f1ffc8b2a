/-
  Contracts: lent, back.
-/
import Derived.Test.YtkfefebjciolcaaPv
namespace Go.Proofs.Ytkfefebjciolcaa
open Go.RowKit
set_option maxRecDepth 100000

/-- Bytes that are handed in, with marks behind them: what the block holds. -/
def lentL (K : List Int) : List Int := K ++ List.replicate 40 167
theorem lentL_len (K : List Int) : (lentL K).length = K.length + 40 := by simp [lentL]
/-- Midway: the first j of all. -/
def midL (K : List Int) (j : Nat) : List Int := (List.range (K.length + 40)).map fun i => if i < j then (lentL K).getD i 0 else 0
theorem midL_len (K : List Int) (j : Nat) : (midL K j).length = K.length + 40 := by simp [midL]
theorem midL_start (K : List Int) : midL K K.length = K ++ List.replicate 40 0 := by
  apply List.ext_getElem
  · simp [midL]
  · intro i hi hi'
    simp only [midL, List.getElem_map, List.getElem_range]
    by_cases h : i < K.length
    · rw [if_pos h, List.getElem_append_left h]
      simp [lentL, List.getD, List.getElem?_append_left h, h]
    · rw [if_neg h, List.getElem_append_right (by omega), List.getElem_replicate]
theorem midL_end (K : List Int) : midL K (K.length + 40) = lentL K := by
  apply List.ext_getElem
  · simp [midL, lentL]
  · intro i hi hi'
    have h : i < K.length + 40 := by simpa [midL] using hi
    simp only [midL, List.getElem_map, List.getElem_range]
    rw [if_pos h, List.getD, List.getElem?_eq_getElem hi']
    rfl
theorem row_set {w : World} {g : Nat} {L : List Int} (h : RowAt w g L) (i : Nat) (x : Int) : RowAt (w.setCell ⟨g, i, none⟩ (.int .u8 x)) g (L.set i x) := by
  unfold RowAt at *
  rw [set_block h i]
  congr 2
  apply Array.ext'
  simp [List.map_set]
theorem lentL_mark (K : List Int) (j : Nat) (h1 : K.length ≤ j) (h2 : j < K.length + 40) : (lentL K).getD j 0 = 167 := by
  unfold lentL
  rw [List.getD, List.getElem?_append_right h1, List.getElem?_eq_getElem (by rw [List.length_replicate]; omega), List.getElem_replicate]
  rfl
theorem midL_set (K : List Int) (j : Nat) (h1 : K.length ≤ j) (h2 : j < K.length + 40) : (midL K j).set j 167 = midL K (j + 1) := by
  apply List.ext_getElem
  · simp [midL]
  · intro i hi hi'
    rw [List.getElem_set]
    simp only [midL, List.getElem_map, List.getElem_range]
    by_cases e : j = i
    · subst e
      rw [if_pos rfl, if_pos (by omega), lentL_mark K j h1 h2]
    · rw [if_neg e]
      by_cases h3 : i < j
      · rw [if_pos h3, if_pos (by omega)]
      · rw [if_neg h3, if_neg (by omega)]
theorem made_zero (n : Nat) : (madeCells #[Value.int IntKind.u8 0] n).toList = (List.replicate n (0 : Int)).map (Value.int .u8) := by
  apply List.ext_getElem
  · simp [madeCells]
  · intro i hi hi'
    simp [madeCells, Nat.mod_one]

theorem lent_any (ad : Option Addr) (n cap : Nat) (K : List Int) (w : World) (h : Holds w ad n K) (hn : n ≤ 140737488351232) :
    Calls Try.prog 5 #[.slice ad n cap] w fun e w' => e = .returned (.slice (some ⟨w.heap.size, 0, none⟩) n (n + 40)) ∧ RowAt w' w.heap.size (lentL K) ∧ Below w.heap.size w w' := by
  obtain ⟨i0, hi, hz0, hz1, hz2⟩ := info_parts Try.info5
  have hsz : (Try.prog.info? 5).map (·.size) = some 1 := by rw [hi]; simp [hz1]
  have hlen := h.len
  have hsrc := h.cells
  obtain ⟨cs, hcs⟩ : ∃ cs, cs = K.map (Value.int .u8) := ⟨_, rfl⟩
  have hcl : cs.length = n := by rw [hcs]; simpa using hlen
  have hone : ∀ u ∈ cs, u.oneCell' = true := by rw [hcs]; exact u8_one K
  have HCS : Hid (cs = K.map (Value.int .u8)) := hcs
  rw [← hcs] at hsrc
  clear hcs h
  go_enter Try.func5, Try.ntmps5
  go_wp2_with (at_make; refine wpList_make_full _ rfl (.tmp 7) (.tmp 7) 23 rfl w.heap.size 5 i0 (.int .u8 0) 1 Try.underlying23 hi hz0 hz1 .i64 .i64 _ _ (n + 40) rfl rfl ?m1 ?m2 ?m3 ?m4 (Nat.le_refl _) ?_)
  case m1 => omega
  case m2 => omega
  case m3 => rw [hz2]; omega
  case m4 => unfold maxLen; omega
  intro w1 hown hgrow
  obtain ⟨cur, hcur, hcz, hc0⟩ : ∃ cur : List Value, w1.heap[w.heap.size]? = some (.cells cur.toArray 5 (0, 0)) ∧ cur.length = n + 40 ∧ cur = (List.replicate (n + 40) (0 : Int)).map (Value.int .u8) := by
    rcases hown.2 with ⟨e, _⟩ | ⟨g, cap', cur, e, _, hg, _, _, hs, ht⟩
    · simp at e
    · simp at e
      obtain ⟨rfl, rfl⟩ := e
      refine ⟨cur.toList, by simpa using hg, by simpa using hs, ?_⟩
      rw [← made_zero]
      refine Eq.trans ?_ ht
      rw [List.take_of_length_le (by simpa using Nat.le_of_eq hs)]
  have hb1 : Below w.heap.size w w1 := (Below.refl _ _).grown hgrow (Nat.le_refl _) (by intro k hk; cases hk)
  have hsrc1 : ∀ j u, cs[j]? = some u → ∃ a, ad = some a ∧ w1.cell? (a.add j) = some u := by
    intro j u hj
    obtain ⟨a, ha, hc⟩ := hsrc j u hj
    exact ⟨a, ha, hgrow.cell hc (by simp)⟩
  clear hown hgrow hsrc
  go_wp2_with (refine wpList_copy_splice rfl (.tmp 9) (.tmp 10) 23 23 rfl 5 Try.underlying23 hsz (some ⟨w.heap.size, 0, none⟩) ad (n + 40) (n + 40) n cap (by rfl) (by rfl) w.heap.size 0 cur 5 hcur cs (by rw [hcl]; exact (Nat.min_eq_left (by omega)).symm) (fun hp => ⟨rfl, (copy_src hsrc1 hp)⟩) (by omega) hone w.heap.size w hb1 (Nat.le_refl _) ?_)
  intro w2 HG hb2
  have hR2 : RowAt w2 w.heap.size (midL K n) := by
    unfold RowAt
    rw [HG.out, ← hlen, midL_start]
    simp only [splice, List.take_zero, List.nil_append, Nat.zero_add]
    rw [HCS.out, List.length_map, List.drop_replicate, List.map_append, List.map_replicate, show K.length + 40 - K.length = 40 by omega]
  clear HG hcur hc0 hsrc1
  go_wp2
  go_loopw [4] (fun a wr => ∃ j : Nat, a = .int .i64 j ∧ n ≤ j ∧ j ≤ n + 40 ∧ RowAt wr w.heap.size (midL K j) ∧ Below w.heap.size w wr) (fun a _ => n + 40 - (intOf a).toNat)
  case atStart => exact ⟨n, rfl, by omega, by omega, hR2, hb2⟩
  case round =>
    obtain ⟨j, rfl, hj1, hj2, hR, hB⟩ := hrel
    by_cases hlt : j < n + 40
    · have hz : (j : Int) < (n : Int) + 40 := by omega
      have hf : wr.frozen? ⟨w.heap.size, j, none⟩ = false := by unfold RowAt at hR; simp [World.frozen?, hR]
      have hc := hR.cell j (by rw [midL_len]; omega)
      have hs := row_set hR j 167
      rw [midL_set K j (by omega) (by omega)] at hs
      go_wp2
      go_roundw
      case rel => exact ⟨j + 1, by go_num, by omega, by omega, hs, hB.setCell (Nat.le_refl _) _⟩
      case measure => simp [intOf]; omega
    · obtain rfl : j = n + 40 := by omega
      rw [← hlen, midL_end] at hR
      go_wp2
      go_ret
      exact ⟨rfl, hR, hB⟩
end Go.Proofs.Ytkfefebjciolcaa
