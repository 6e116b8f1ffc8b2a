/-
  Contracts: the reference's Make.
-/
import Derived.Test.YtkfefebjciolcaaRi
import Derived.Test.YtkfefebjciolcaaMk
namespace Go.Proofs.Ytkfefebjciolcaa
open Go.RowKit
set_option maxRecDepth 100000

theorem refMake_kind (k : Int) (q : Int) (ad : Option Addr) (n cap : Nat) (w : World) (hk : ¬ (1 ≤ k ∧ k ≤ 9)) :
    Calls Try.prog 7 #[.int .i64 k, .int .u64 q, .slice ad n cap] w fun e w' => e = .returned (.tuple #[.slice none 0 0, .int .i64 21]) ∧ w' = w := by
  by_cases h1 : k < 1
  · go_enter Try.func7, Try.ntmps7
    go_wp2
    go_ret2
    exact ⟨rfl, rfl⟩
  · have h2 : 9 < k := by omega
    go_enter Try.func7, Try.ntmps7
    go_wp2
    go_ret2
    exact ⟨rfl, rfl⟩
theorem refMake_long (k : Int) (q : Int) (ad : Option Addr) (n cap : Nat) (w : World) (hk : 1 ≤ k ∧ k ≤ 9) (hn : 1048576 < n) :
    Calls Try.prog 7 #[.int .i64 k, .int .u64 q, .slice ad n cap] w fun e w' => e = .returned (.tuple #[.slice none 0 0, .int .i64 22]) ∧ w' = w := by
  have hz : (1048576 : Int) < (n : Int) := by omega
  have h1 : ¬ k < 1 := by omega
  have h2 : ¬ 9 < k := by omega
  go_enter Try.func7, Try.ntmps7
  go_wp2
  go_ret2
  exact ⟨rfl, rfl⟩
theorem makeL_eq (k : Int) (q : Nat) (K : List Int) : makeL k q K = headL k q K.length (moreB 0#32 K).toNat ++ K := by
  unfold makeL
  rfl

set_option maxHeartbeats 1000000 in
theorem refMake_any (k : Int) (q : Nat) (ad : Option Addr) (n cap : Nat) (K : List Int) (w : World) (hk : 1 ≤ k ∧ k ≤ 9) (hn : n ≤ 1048576) (h : Holds w ad n K) (hK : ByteL K) :
    Calls Try.prog 7 #[.int .i64 k, .int .u64 (q : Int), .slice ad n cap] w fun e w' => ∃ v', e = .returned (.tuple #[v', .int .i64 0]) ∧ w'.ownsRow w.heap.size 5 1 v' (makeL k q K).length ((makeL k q K).map (Value.int .u8)) ∧ Below w.heap.size w w' := by
  obtain ⟨i0, hiu, hz0, hz1, hz2⟩ := info_parts Try.info5
  have hz : ¬ ((1048576 : Int) < (n : Int)) := by omega
  have h1 : ¬ k < 1 := by omega
  have h2 : ¬ 9 < k := by omega
  have hl := h.len
  have E := makeL_eq k q K
  rw [hl] at E
  obtain ⟨s1, hs1⟩ : ∃ s, (moreB 0#32 K).toNat = s := ⟨_, rfl⟩
  have hs1l : s1 < 4294967296 := by rw [← hs1]; exact (moreB 0#32 K).isLt
  have SU : ∀ ww : World, Holds ww ad n K → Calls Try.prog 19 #[.slice ad n cap] ww fun e w' => e = .returned (.int .u32 (s1 : Int)) ∧ w' = ww := fun ww hh => by rw [← hs1]; exact refSum_any ad n cap K ww hh hK (by omega)
  rw [hs1] at E
  have HE : Hid (makeL k q K = headL k q n s1 ++ K) := E
  have hH24 : (headL k q n s1).length = 24 := headL_len k q n s1
  clear E hs1
  have HB := fun ww : World => refHeadB_any k q n s1 (by omega) (by omega) (by omega) hs1l ww
  unfold headV at HB
  go_enter Try.func7, Try.ntmps7
  go_wp2_with (first
    | (go_at_call 19; refine (SU _ h).mono ?_; rintro e w' ⟨rfl, hw⟩; obtain rfl := hw.symm)
    | (go_at_call 18; refine (HB _).mono ?_; rintro e w1 ⟨v1, rfl, o1, b1⟩; obtain ⟨ao1, l1, c1, rfl⟩ := row_shape o1)
    | (at_builtin; refine wpList_app _ rfl _ _ 23 23 rfl w.heap.size 5 i0 (.int .u8 0) 1 Try.underlying23 hiu hz0 hz1 hz2 rfl _ _ _ rfl o1 _ n (K.map (Value.int .u8)) rfl ((h.below b1).src cap) ?e3 ?e4 ?e5 ?_))
  case e3 => unfold maxLen; omega
  case e4 => omega
  case e5 => exact b1.size
  intro v9 w9 ho9 hg9 hm9
  have A7 : w9.ownsRow w.heap.size 5 1 v9 (makeL k q K).length ((makeL k q K).map (Value.int .u8)) := by
    rw [HE.out, List.length_append, hH24, hl, List.map_append]
    exact ho9
  have B7 : Below w.heap.size w w9 := b1.trans ((grown_upd hg9).below b1.size (fun j hj e => by have := (own_lt o1 e).2; omega))
  clear ho9 hg9 hm9 o1
  obtain ⟨ao9, l9, c9, rfl⟩ := row_shape A7
  go_wp2
  go_ret2
  exact ⟨_, rfl, A7, B7⟩
end Go.Proofs.Ytkfefebjciolcaa
