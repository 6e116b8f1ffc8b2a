/-
  Contracts: bytesOf.
-/
import Derived.Test.YtpbpkhbmopjdjaaDoorAw
namespace Go.Proofs.YtpbpkhbmopjdjaaDoor
open Go.RowKit
set_option maxRecDepth 100000

theorem bytesOf_uint (u : Nat) (i : Int) (s : ByteArray) (hu : u < 18446744073709551616) (w : World) :
    Calls Tryd.prog 30 #[.int .i64 0, .int .u64 u, .int .i64 i, .string s] w fun e w' => e = .returned (.tuple #[.string (strI (encN u)), .bool true]) ∧ Below w.heap.size w w' := by
  have hl := encN_len10 u hu
  obtain ⟨L, hL⟩ : ∃ L, encN u = L := ⟨_, rfl⟩
  have U := uint_any w.heap.size w.heap.size (.slice none 0 0) [] u hu
  rw [hL] at U hl ⊢
  rw [List.nil_append] at U
  clear hL
  go_enter Tryd.func30, Tryd.ntmps30
  go_wp2_with (first
    | (go_at_call 14; refine (newWriter_any w.heap.size _).mono ?_; rintro e w1 ⟨rfl, hW1, hw1⟩; have hb1 : Below w.heap.size w w1 := (by rw [hw1]; exact (Below.refl _ _).alloc (Nat.le_refl _) _); have hz1 := lt_of_block hW1.block; clear hw1)
    | (go_at_call 16; refine (U _ hW1 (by omega) (by simp; omega)).mono ?_; rintro e w2 ⟨rfl, v2, hW2, hU2, hM2⟩; have hb2 : Below w.heap.size w w2 := hb1.trans (hU2.below (by omega) (fun k hk hS => by rcases hS with h | h; omega; simp [Value.ownBlock] at h)); have hz2 := lt_of_block hW2.block; clear hW1 hU2 hM2 hb1)
    | (go_at_call 22; refine (bytes_any w.heap.size w.heap.size _ _ _ hW2 (by omega)).mono ?_; rintro e w6 ⟨rfl, hr6, hb⟩; have hb6 := hb2.trans (hb.mono (by omega)); have hconv := conv_row hr6 L.length; clear hb hW2))
  go_ret2
  exact ⟨rfl, hb6⟩
end Go.Proofs.YtpbpkhbmopjdjaaDoor
