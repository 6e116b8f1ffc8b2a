/-
  Contracts: the reference's bit.
-/
import Derived.Test.YtkfefebjciolcaaRf
namespace Go.Proofs.Ytkfefebjciolcaa
open Go.RowKit
set_option maxRecDepth 100000

theorem bit_in (b o n cap k m : Nat) (x : Int) (i : Nat) (C : Nat) (w : World) (e0 : (i : Int).tdiv 8 = (k : Int)) (e1 : (i : Int).tmod 8 = (m : Int)) (hkn : (k : Int) < (n : Int)) (hm : m < 8) (hk : k < 1000000000000000) (hcx : w.cell? ⟨b, o + k, none⟩ = some (.int .u8 x)) (e2 : x / 2 ^ m % 2 = (C : Int)) (e30 : 0 ≤ x / 2 ^ m) (e31 : x / 2 ^ m < 256) :
    Calls Try.prog 30 #[.slice (some ⟨b, o, none⟩) n cap, .int .i64 (i : Int)] w fun e w' => e = .returned (.int .u32 (C : Int)) ∧ w' = w := by
  have ew : wrap64 (k : Int) = k := by unfold wrap64; omega
  have ew2 : wrap64 (m : Int) = m := by unfold wrap64; omega
  have hz : ¬ ((n : Int) ≤ (k : Int)) := by omega
  have E2 : Hid (x / 2 ^ m % 2 = (C : Int)) := e2
  clear e2
  go_enter Try.func30, Try.ntmps30
  go_wp2
  go_ret
  exact ⟨ret_i E2.out, rfl⟩

theorem bit_any (ad : Option Addr) (n cap : Nat) (K : List Int) (i : Nat) (w : World) (h : Holds w ad n K) (hK : ByteL K) (hi : i < 8000000000000000) :
    Calls Try.prog 30 #[.slice ad n cap, .int .i64 (i : Int)] w fun e w' => e = .returned (.int .u32 ((bitI K i).toNat : Int)) ∧ w' = w := by
  have hl := h.len
  have e0 : (i : Int).tdiv 8 = ((i / 8 : Nat) : Int) := by rw [Int.tdiv_eq_ediv_of_nonneg (by omega)]; omega
  have e1 : (i : Int).tmod 8 = ((i % 8 : Nat) : Int) := by rw [Int.tmod_eq_emod_of_nonneg (by omega)]; omega
  by_cases hlt : i / 8 < n
  · have hz : ¬ ((n : Int) ≤ ((i / 8 : Nat) : Int)) := by omega
    obtain ⟨b, o, rfl⟩ := h.some_of (by omega)
    obtain ⟨x, hx⟩ : ∃ x, K.getD (i / 8) 0 = x := ⟨_, rfl⟩
    have hcx := h.at (i / 8) (by omega)
    rw [hx, Addr.add_lit] at hcx
    have hjK : i / 8 < K.length := by omega
    have hxe : K[i / 8] = x := by rw [← hx, List.getD, List.getElem?_eq_getElem hjK]; rfl
    obtain ⟨hx0, hx1⟩ := hK x (by rw [← hxe]; exact List.getElem_mem hjK)
    have eb : (bitI K i).toNat = x.toNat / 2 ^ (i % 8) % 2 := by unfold bitI; rw [hx, test_num]
    obtain ⟨k, hk⟩ : ∃ k, i / 8 = k := ⟨_, rfl⟩
    obtain ⟨m, hm⟩ : ∃ m, i % 8 = m := ⟨_, rfl⟩
    have hm8 : m < 8 := by omega
    rw [hk] at e0 hz hcx
    rw [hm] at e1 eb
    obtain ⟨C, hC⟩ : ∃ C, (bitI K i).toNat = C := ⟨_, rfl⟩
    rw [hC] at eb ⊢
    have hkn : (k : Int) < (n : Int) := by omega
    have e2 : x / 2 ^ m % 2 = (C : Int) := by
      rw [eb, show (2 : Int) ^ m = ((2 ^ m : Nat) : Int) by rw [Int.natCast_pow]; rfl]
      obtain ⟨y, rfl⟩ : ∃ y : Nat, x = y := ⟨x.toNat, by omega⟩
      simp
    have e3 : 0 ≤ x / 2 ^ m ∧ x / 2 ^ m < 256 := by
      obtain ⟨y, rfl⟩ : ∃ y : Nat, x = y := ⟨x.toNat, by omega⟩
      have h1 : y / 2 ^ m ≤ y := Nat.div_le_self _ _
      have h0 : (y : Int) / 2 ^ m = ((y / 2 ^ m : Nat) : Int) := by rw [Int.natCast_ediv, Int.natCast_pow]; rfl
      rw [h0]
      exact ⟨Int.natCast_nonneg _, by omega⟩
    obtain ⟨e30, e31⟩ := e3
    exact bit_in b o n cap k m x i C w e0 e1 hkn hm8 (by omega) hcx e2 e30 e31
  · have hz : (n : Int) ≤ ((i / 8 : Nat) : Int) := by omega
    have eb : bitI K i = false := by
      unfold bitI
      rw [List.getD, List.getElem?_eq_none (by omega)]
      simp
    rw [eb]
    obtain ⟨k, hk⟩ : ∃ k, i / 8 = k := ⟨_, rfl⟩
    have ew : wrap64 (k : Int) = k := by unfold wrap64; omega
    rw [hk] at e0 hz
    clear hk e1
    go_enter Try.func30, Try.ntmps30
    go_wp2
    go_ret
    exact ⟨rfl, rfl⟩
end Go.Proofs.Ytkfefebjciolcaa
