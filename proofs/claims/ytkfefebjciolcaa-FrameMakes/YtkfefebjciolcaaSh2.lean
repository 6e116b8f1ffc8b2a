/-
  Contracts: shown, at the head of all statements.
-/
import Derived.Test.YtkfefebjciolcaaSn
import Derived.Lib.SlBytesConst
namespace Go.Proofs.Ytkfefebjciolcaa
open Go.RowKit
set_option maxRecDepth 100000

theorem own_some {base : Nat} {w : World} {e : TypeId} {size : Nat} {v : Value} {n : Nat} {xs : List Value} (h : w.ownsRow base e size v n xs) (hn : 0 < n) : ∃ g cap, v = .slice (some ⟨g, 0, none⟩) n cap ∧ n ≤ cap ∧ cap ≤ maxLen ∧ base ≤ g ∧ ∀ j u, xs[j]? = some u → w.cell? ⟨g, j, none⟩ = some u := by
  have h0 := h
  rcases h.2 with ⟨rfl, h1⟩ | ⟨g, cap, cur, rfl, hb, hg, h1, h2, _⟩
  · omega
  · refine ⟨g, cap, rfl, h1, h2, hb, fun j u hj => ?_⟩
    have := h0.cells (g := g) rfl j u hj
    rw [Addr.add_lit, Nat.zero_add] at this
    exact this
theorem own_cap {base : Nat} {w : World} {e : TypeId} {size : Nat} {ao : Option Addr} {l c : Nat} {n : Nat} {xs : List Value} (h : w.ownsRow base e size (.slice ao l c) n xs) : l = n ∧ n ≤ c ∧ c ≤ maxLen := by
  rcases h.2 with ⟨e, h1⟩ | ⟨g, cap, cur, e, hb, hg, h1, h2, _⟩
  · simp at e; obtain ⟨rfl, rfl, rfl⟩ := e; simp [h1, maxLen]
  · simp at e; obtain ⟨rfl, rfl, rfl⟩ := e; exact ⟨rfl, h1, h2⟩

theorem scan_one : scanL (makeL 2 7 []) = ([(2, 7, 24, 0)], 24, 0) := by
  have hl := makeL_len 2 7 []
  have hs := stepS_make 2 7 [] [] (by decide) (by decide) (by decide)
  rw [List.append_nil] at hs
  unfold scanL
  rw [hl, show 24 + ([] : List Int).length = 23 + 1 by rfl, scanG_ok 23 0 _ 2 7 0 (by rw [hl]; decide) hs, List.drop_of_length_le (by rw [hl]; exact Nat.le_refl _), scanG_nil]
theorem sum_nine : (moreB 0#32 [49, 50, 51, 52, 53, 54, 55, 56, 57]).toNat = 3808858755 := by decide +kernel
theorem byteL_nil : ByteL [] := fun x hx => by cases hx

set_option maxHeartbeats 1000000 in
theorem shown_any (w : World) :
    Calls Try.prog 4 #[] w fun e w' => e = .returned (.bool true) ∧ Below w.heap.size w w' := by
  have hm24 : (makeL 2 7 []).length = 24 := makeL_len 2 7 []
  have hmb : ByteL (makeL 2 7 []) := makeL_bytes 2 7 [] (by omega) byteL_nil
  have hso := scan_one
  have M := make_any 2 7 none 0 0 [] w (by omega) (by omega) (Holds.nil w) byteL_nil
  generalize makeL 2 7 [] = ML at hm24 hmb hso M
  have hb9 : ByteL [49, 50, 51, 52, 53, 54, 55, 56, 57] := by intro x hx; simp at hx; omega
  go_enter Try.func4, Try.ntmps4
  go_wp2_with (first
    | (go_at_call 6; refine M.mono ?_; rintro e w1 ⟨v1, rfl, o1, b1⟩; obtain ⟨g1, c1, rfl, q1, q2, q3, q4⟩ := own_some o1 (by omega); have H1 := Holds.ofRow o1; have z1 := b1.size; rw [hm24] at *; clear M q4)
    | (go_at_call 11; refine (scan_any _ _ _ ML _ H1 hmb (by omega) (by omega)).mono ?_; rintro e w2 ⟨v2, rfl, o2, b2⟩; rw [hso] at *; unfold OwnP at o2; obtain ⟨g2, c2, rfl, r1, r2, r3, r4⟩ := own_some o2 (by simp); have z2 := b2.size; have hold2 : ∀ a v, w2.cell? a = some v → (w2.alloc (.cells #[.int .u8 49, .int .u8 50, .int .u8 51, .int .u8 52, .int .u8 53, .int .u8 54, .int .u8 55, .int .u8 56, .int .u8 57] 5 (9, 10))).cell? a = some v := (fun a v hc => by rw [World.cell?_alloc_lt _ _ _ (World.block_lt_of_cell? w2 _ hc)]; exact hc); have hconv := Lib.run_convert_bytes_const (P := Try.prog) w2 23 5 #[.int .u8 49, .int .u8 50, .int .u8 51, .int .u8 52, .int .u8 53, .int .u8 54, .int .u8 55, .int .u8 56, .int .u8 57] 9 9 Try.underlying23 Try.underlying5))
  have H9 : Holds (w2.alloc (.cells #[.int .u8 49, .int .u8 50, .int .u8 51, .int .u8 52, .int .u8 53, .int .u8 54, .int .u8 55, .int .u8 56, .int .u8 57] 5 (9, 10))) (some ⟨w2.heap.size, 0, none⟩) 9 [49, 50, 51, 52, 53, 54, 55, 56, 57] := by
    refine ⟨rfl, fun j u hj => ⟨_, rfl, ?_⟩⟩
    have hh := heap_alloc_new w2 (.cells #[.int .u8 49, .int .u8 50, .int .u8 51, .int .u8 52, .int .u8 53, .int .u8 54, .int .u8 55, .int .u8 56, .int .u8 57] 5 (9, 10))
    rw [Addr.add_lit, Nat.zero_add, cell_of_row _ _ j _ _ _ hh]
    simpa using hj
  have SU := frameSum_any _ 9 9 _ _ H9 hb9 (by omega)
  rw [sum_nine] at SU
  have hs0 := hold2 _ _ (r4 0 (.int .i64 2) rfl)
  have hs1 := hold2 _ _ (r4 1 (.int .u64 7) rfl)
  have hs2 := hold2 _ _ (r4 2 (.int .i64 24) rfl)
  have hs3 := hold2 _ _ (r4 3 (.int .i64 0) rfl)
  clear hold2 r4 o2 o1 H1 hmb H9
  refine SU.mono ?_
  rintro e w3 ⟨rfl, b3⟩
  have u3 := Upd.ofBelow (S := fun _ => False) b3 (fun k hk hk' => by omega)
  have d0 := cell_upd u3 hs0 (fun h => h)
  have d1 := cell_upd u3 hs1 (fun h => h)
  have d2 := cell_upd u3 hs2 (fun h => h)
  have d3 := cell_upd u3 hs3 (fun h => h)
  have hbw : Below w.heap.size w w3 := by
    refine (b1.trans (b2.mono z1)).trans (Below.trans ((Below.refl _ _).alloc (by omega) _) (b3.mono (by simp; omega)))
  clear hs0 hs1 hs2 hs3 u3 SU b3 b2 b1 hso hconv
  go_wp2
  go_ret
  exact ⟨rfl, hbw⟩
end Go.Proofs.Ytkfefebjciolcaa
