/-
  Contracts: back.
-/
import Derived.Test.YtkfefebjciolcaaLe
namespace Go.Proofs.Ytkfefebjciolcaa
open Go.RowKit
set_option maxRecDepth 100000

def x51 (x : Int) : Int := bits .xor .u8 x 51
theorem x51_byte (x : Int) (_h0 : 0 ≤ x) (_h1 : x < 256) : 0 ≤ x51 x ∧ x51 x < 256 := by
  unfold x51
  have a := bits_lo_u8 .xor x 51
  have b := bits_hi_u8 .xor x 51
  omega
/-- The first j bytes written over. -/
def overL (L : List Int) (j : Nat) : List Int := (List.range L.length).map fun i => if i < j then x51 (L.getD i 0) else L.getD i 0
theorem overL_len (L : List Int) (j : Nat) : (overL L j).length = L.length := by simp [overL]
theorem overL_zero (L : List Int) : overL L 0 = L := by
  apply List.ext_getElem
  · simp [overL]
  · intro i hi hi'
    simp only [overL, List.getElem_map, List.getElem_range]
    rw [if_neg (by omega), List.getD, List.getElem?_eq_getElem hi']
    rfl
theorem overL_set (L : List Int) (j : Nat) : (overL L j).set j (x51 (L.getD j 0)) = overL L (j + 1) := by
  apply List.ext_getElem
  · simp [overL]
  · intro i hi hi'
    rw [List.getElem_set]
    simp only [overL, List.getElem_map, List.getElem_range]
    by_cases e : j = i
    · subst e
      rw [if_pos rfl, if_pos (by omega)]
    · rw [if_neg e]
      by_cases h3 : i < j
      · rw [if_pos h3, if_pos (by omega)]
      · rw [if_neg h3, if_neg (by omega)]
theorem overL_at (L : List Int) (j : Nat) (hj : j < L.length) : (overL L j).getD j 0 = L.getD j 0 := by
  unfold overL
  rw [List.getD, List.getElem?_eq_getElem (by simpa using hj)]
  simp
theorem overL_bytes (L : List Int) (h : ByteL L) (j : Nat) : ByteL (overL L j) := by
  intro x hx
  simp [overL] at hx
  obtain ⟨i, hi, rfl⟩ := hx
  have hm := h (L.getD i 0) (by rw [List.getD, List.getElem?_eq_getElem hi]; exact List.getElem_mem hi)
  simp only [List.getD] at hm
  split
  · exact x51_byte _ hm.1 hm.2
  · exact hm
theorem lentL_bytes (K : List Int) (h : ByteL K) : ByteL (lentL K) := by
  intro x hx
  unfold lentL at hx
  rcases List.mem_append.1 hx with e | e
  · exact h x e
  · have := List.eq_of_mem_replicate e; omega
theorem lentL_at (K : List Int) (j : Nat) (h : j < K.length) : (lentL K).getD j 0 = K.getD j 0 := by
  unfold lentL
  rw [List.getD, List.getElem?_append_left h]
  rfl

set_option maxHeartbeats 1000000 in
theorem back_any (g n : Nat) (ad : Option Addr) (cap : Nat) (K : List Int) (w0 w : World) (h : Holds w0 ad n K) (hb : Below w0.heap.size w0 w) (hg : w0.heap.size ≤ g) (hR : RowAt w g (lentL K)) (hn : n ≤ 140737488351232) :
    Calls Try.prog 8 #[.slice (some ⟨g, 0, none⟩) n (n + 40), .slice ad n cap] w fun e w' => e = .returned (.bool true) ∧ RowAt w' g (overL (lentL K) (n + 40)) ∧ Upd (fun k => k = g) w w' := by
  have hl := h.len
  have hLl := lentL_len K
  rw [hl] at hLl
  go_enter Try.func8, Try.ntmps8
  go_wp2
  go_loopw [6, 7] (fun a b wr => ∃ j : Nat, a = .bool true ∧ b = .int .i64 j ∧ j ≤ n + 40 ∧ RowAt wr g (overL (lentL K) j) ∧ Upd (fun k => k = g) w wr) (fun _ b _ => n + 40 - (intOf b).toNat)
  case atStart => exact ⟨0, rfl, rfl, by omega, by rw [overL_zero]; exact hR, Upd.refl _ _⟩
  case round =>
    obtain ⟨j, rfl, rfl, hj, hRr, hU⟩ := hrel
    have hBr : Below w0.heap.size w0 wr := hb.trans (hU.below hb.size (fun k hk e => by omega))
    by_cases hlt : j < n + 40
    · have hz : (j : Int) < (n : Int) + 40 := by omega
      have hc := hRr.cell j (by rw [overL_len]; omega)
      rw [overL_at _ _ (by omega)] at hc
      have hf : wr.frozen? ⟨g, j, none⟩ = false := by unfold RowAt at hRr; simp [World.frozen?, hRr]
      have hst := row_set hRr j (x51 ((lentL K).getD j 0))
      rw [overL_set] at hst
      by_cases hjn : j < n
      · have hz2 : (j : Int) < (n : Int) := by omega
        obtain ⟨b, o, rfl⟩ := h.some_of (by omega)
        have hcb := (h.below hBr).at j (by omega)
        rw [Addr.add_lit] at hcb
        rw [lentL_at K j (by omega)] at hc hst
        generalize K.getD j 0 = x at hc hcb hst
        have ex : bits .xor .u8 x 51 = x51 x := rfl
        generalize x51 x = y at hst ex
        have HST : Hid (RowAt (wr.setCell ⟨g, j, none⟩ (.int .u8 y)) g (overL (lentL K) (j + 1))) := hst
        clear hst hRr hR
        go_wp2
        go_quiet (fail)
        go_wp2
        go_roundw
        case rel => exact ⟨j + 1, rfl, by go_num, by omega, HST.out, (hU.drewN _).setCell (fun _ => rfl) _⟩
        case measure => simp [intOf]; omega
      · have hz2 : ¬ ((j : Int) < (n : Int)) := by omega
        have hz2' : decide ((j : Int) < (n : Int)) = false := by simpa using hz2
        have hz3 : (n : Int) ≤ (j : Int) := by omega
        rw [lentL_mark K j (by omega) (by omega)] at hc hst
        have ex : bits .xor .u8 167 51 = x51 167 := rfl
        generalize x51 167 = y at hst ex
        have HST : Hid (RowAt (wr.setCell ⟨g, j, none⟩ (.int .u8 y)) g (overL (lentL K) (j + 1))) := hst
        clear hst hRr hR
        go_wp2
        go_quiet (fail)
        go_wp2
        go_roundw
        case rel => exact ⟨j + 1, rfl, by go_num, by omega, HST.out, (hU.drewN _).setCell (fun _ => rfl) _⟩
        case measure => simp [intOf]; omega
    · obtain rfl : j = n + 40 := by omega
      go_wp2
      go_ret
      exact ⟨rfl, hRr, hU⟩
end Go.Proofs.Ytkfefebjciolcaa
