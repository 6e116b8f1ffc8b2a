/-
  Layer 13: the chapter's examples.
-/
import Derived.Test.YtmegmjhkjaejgaaSkN
namespace Go.Proofs.Ytmegmjhkjaejgaa.sk
open Go.RowKit
set_option maxRecDepth 100000

/-- What was made, as a list. -/
theorem MadeP.list {f : Nat → Nat} {err : Int} {w w' : World} {e : Ending} (h : MadeP (some f) err w e w') (hf : ∀ j, f j ≤ topC) {L : List (Int × Int)} (hL : barsF f = L) :
    ∃ ao c, e = .returned (.tuple #[.slice ao L.length c, .int .i64 0]) ∧ InAt w' ao L.length L ∧ (∀ a, ao = some a → w.heap.size ≤ a.block) ∧ Below w.heap.size w w' := by
  obtain ⟨hb, v, rfl, ho⟩ := h
  obtain ⟨ao, c, rfl, hI, hba⟩ := InAt.own ho hf
  subst hL
  exact ⟨ao, c, rfl, hI, hba, hb⟩
theorem addF_le {l : List (Int × Int)} (hi : Bin l) (v t : Nat) : ∀ j, addF l v t j ≤ topC := putF_le (cntF_le hi) _ _
theorem barsF_is {f : Nat → Nat} {L : List (Int × Int)} (hc : chkF (-1) L = true) (hp : ∀ b ∈ L, 0 ≤ b.2) (h : ∀ i, i < 1920 → f i = cntF L i) : barsF f = L := by
  rw [bars_of hc hp]
  exact barsF_congr h
theorem idx100 : idxN 100 = 82 := by decide
theorem idx7 : idxN 7 = 7 := by decide
theorem idx66 : idxN 66 = 65 := by decide
theorem bars1 : barsF (addF [] 100 2) = [(82, 2)] := by
  refine barsF_is rfl (by simp) fun i _ => ?_
  unfold addF
  rw [idx100, putF_at, cntF_cons]
  by_cases h : i = 82
  · subst h; rfl
  · rw [if_neg h, if_neg (by simp only; omega)]
theorem bars2 : barsF (addF [(82, 2)] 7 1) = [(7, 1), (82, 2)] := by
  refine barsF_is rfl (by simp) fun i _ => ?_
  unfold addF
  rw [idx7, putF_at]
  by_cases h : i = 7
  · subst h; rfl
  · rw [if_neg h, cntF_cons ((7 : Int), (1 : Int)) [(82, 2)] i, if_neg (by simp only; omega)]
theorem bin1 : Bin [(82, 2)] := by intro b hb; simp at hb; subst hb; simp
theorem bin2 : Bin [(7, 1), (82, 2)] := by intro b hb; simp at hb; rcases hb with rfl | rfl <;> simp
theorem add1 (w : World) : Calls Try.prog 10 #[.slice none 0 0, .int .u64 100, .int .u64 2] w fun e w' => ∃ ao c, e = .returned (.tuple #[.slice ao 1 c, .int .i64 0]) ∧ InAt w' ao 1 [(82, 2)] ∧ Below w.heap.size w w' := by
  refine (add_ok none 0 0 [] 100 2 (by omega) (by omega) w (InAt.nil w) rfl).mono fun e w' h => ?_
  obtain ⟨ao, c, h1, h2, _, h3⟩ := h.list (addF_le (fun b hb => by cases hb) _ _) bars1
  exact ⟨ao, c, h1, h2, h3⟩
theorem add2 (ao : Option Addr) (c : Nat) (w : World) (hI : InAt w ao 1 [(82, 2)]) : Calls Try.prog 10 #[.slice ao 1 c, .int .u64 7, .int .u64 1] w fun e w' => ∃ ao c, e = .returned (.tuple #[.slice ao 2 c, .int .i64 0]) ∧ InAt w' ao 2 [(7, 1), (82, 2)] ∧ Below w.heap.size w w' := by
  refine (add_ok ao 1 c [(82, 2)] 7 1 (by omega) (by omega) w hI rfl).mono fun e w' h => ?_
  obtain ⟨ao, c, h1, h2, _, h3⟩ := h.list (addF_le bin1 _ _) bars2
  exact ⟨ao, c, h1, h2, h3⟩
theorem sum3 : sumB [(7, 1), (82, 2)] = 3 := by decide
theorem rk3 : rkN (3 * 1) 2 = 2 := by decide
theorem quan1 (ao : Option Addr) (c : Nat) (w : World) (hI : InAt w ao 2 [(7, 1), (82, 2)]) : Calls Try.prog 11 #[.slice ao 2 c, .int .u64 1, .int .u64 2] w fun e w' => e = .returned (.tuple #[.int .u64 100, .int .u64 101, .int .i64 0]) ∧ Below w.heap.size w w' := by
  refine (quan_ok ao 2 c [(7, 1), (82, 2)] 1 2 w hI rfl (by omega) (by omega) (by omega) (by omega) (divOk_low (by rw [sum3]; omega) (by omega))).mono fun e w' h => ?_
  obtain ⟨i, k, ha, hk, _, rfl, hb⟩ := h
  rw [sum3, rk3] at ha
  obtain ⟨h1, h2, h3⟩ := ha
  match i, h1, h2, h3, hk with
  | 0, _, _, h3, _ => have : sumB [((7 : Int), (1 : Int))] = 1 := by decide
                      have h3' : 2 ≤ sumB [((7 : Int), (1 : Int))] := h3
                      omega
  | 1, _, _, _, hk =>
    have e : k = 82 := by simp at hk; omega
    subst e
    exact ⟨rfl, hb⟩
theorem count1 (ao : Option Addr) (c : Nat) (w : World) (hI : InAt w ao 2 [(7, 1), (82, 2)]) : Calls Try.prog 12 #[.slice ao 2 c] w fun e w' => e = .returned (.tuple #[.agg #[.int .u64 0, .int .u64 3], .int .i64 0]) ∧ Below w.heap.size w w' := by
  refine (count_ok ao 2 c [(7, 1), (82, 2)] w hI rfl).mono fun e w' h => ?_
  obtain ⟨rfl, hb⟩ := h
  exact ⟨rfl, hb⟩
theorem index1 (w : World) : Calls Try.prog 13 #[.int .u64 66] w fun e w' => e = .returned (.int .i64 65) ∧ w' = w := by
  have := skIndex 66 (by omega) w
  rw [idx66] at this
  exact this
set_option maxHeartbeats 1000000 in
theorem awake_any (w : World) : Calls Try.prog 4 #[] w fun e w' => e = .returned (.bool true) ∧ Below w.heap.size w w' := by
  go_enter Try.func4, Try.ntmps4
  have A1 := add1 w
  go_wp2_with (first
    | (go_at_call 10; (with_reducible refine A1.mono ?_); clear A1; rintro e w1 ⟨ao, c, rfl, hI, b1⟩
       have A2 := add2 ao c w1 hI
       have HB1 : Hid _ := b1
       clear hI b1)
    | (go_at_call 10; (with_reducible refine A2.mono ?_); clear A2; rintro e w2 ⟨am, cm, rfl, hI, b2⟩
       have Q1 := quan1 am cm w2 hI
       have HB2 : Hid _ := HB1.out.trans (b2.mono HB1.out.size)
       have HI : Hid _ := hI
       clear hI b2)
    | (go_at_call 11; (with_reducible refine Q1.mono ?_); clear Q1; rintro e w3 ⟨rfl, b3⟩
       have C1 := count1 am cm w3 (HI.out.below b3)
       have HI3 : Hid _ := HI.out.below b3
       have HB3 : Hid _ := HB2.out.trans (b3.mono HB2.out.size)
       clear b3)
    | (go_at_call 12; (with_reducible refine C1.mono ?_); clear C1; rintro e w4 ⟨rfl, b4⟩
       have I4 := HI3.out.below b4
       obtain ⟨b, off, rfl, hc⟩ := I4.at_.lies (by omega)
       obtain ⟨p0, p1⟩ := hc 0 (by decide)
       obtain ⟨q0, q1⟩ := hc 1 (by decide)
       have hlt := I4.lt _ rfl (by omega)
       simp only [Nat.zero_mul, Nat.add_zero, Nat.one_mul, List.getElem_cons_zero, List.getElem_cons_succ] at p0 p1 q0 q1 hlt
       have IX := index1
       have HB4 : Hid _ := HB3.out.trans (b4.mono HB3.out.size)
       clear I4 hc b4)
    | (go_at_call 13; (with_reducible refine (IX _).mono ?_); clear IX; rintro e w' ⟨rfl, hw⟩; obtain rfl := hw.symm))
  go_ret
  exact ⟨rfl, HB4.out.alloc HB4.out.size _⟩
end Go.Proofs.Ytmegmjhkjaejgaa.sk
