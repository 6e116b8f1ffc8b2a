/-
  SaC.
-/
import Derived.Test.YtdodempnkkkbmaaDoorSaB
namespace Go.Proofs.YtdodempnkkkbmaaDoor
open Go Go.RowKit
set_option maxRecDepth 100000

/-- A list of policies in memory. -/
def PolAt (w : World) (ad : Option Addr) (n : Nat) (L : List Pol) : Prop :=
  L.length = n ∧ (0 < n → ∃ b o, ad = some ⟨b, o, none⟩ ∧ b < w.heap.size ∧ ∀ i (hi : i < L.length), ∀ j v, (polC L[i])[j]? = some v → w.cell? ⟨b, o + i * 4 + j, none⟩ = some v)
theorem PolAt.below {w w' : World} {ad : Option Addr} {n : Nat} {L : List Pol} (h : PolAt w ad n L) (hb : Below w.heap.size w w') : PolAt w' ad n L :=
  ⟨h.1, fun hn => by
    obtain ⟨b, o, e, hl, hc⟩ := h.2 hn
    exact ⟨b, o, e, Nat.lt_of_lt_of_le hl hb.size, fun i hi j v hv => (hb.cell (p := ⟨b, o + i * 4 + j, none⟩) hl).trans (hc i hi j v hv)⟩⟩
/-- What Check tells. -/
def chkP (L : List Pol) : Int := if L.length ≤ 20 ∧ L.all mayP = true then 0 else 211
theorem all_take_next {L : List Pol} {i : Nat} (hi : i < L.length) (h : ∀ j (hj : j < L.length), j < i → mayP L[j] = true) (hm : mayP L[i] = true) : ∀ j (hj : j < L.length), j < i + 1 → mayP L[j] = true := fun j hj hji => by
  rcases Nat.lt_succ_iff_lt_or_eq.1 hji with h1 | rfl
  · exact h j hj h1
  · exact hm
theorem chkP_ok {L : List Pol} (hn : L.length ≤ 20) (h : ∀ j (hj : j < L.length), mayP L[j] = true) : chkP L = 0 := by
  unfold chkP
  rw [if_pos ⟨hn, List.all_eq_true.2 fun x hx => by obtain ⟨j, hj, rfl⟩ := List.getElem_of_mem hx; exact h j hj⟩]
theorem chkP_no {L : List Pol} {j : Nat} (hj : j < L.length) (h : mayP L[j] = false) : chkP L = 211 := by
  unfold chkP
  rw [if_neg fun ⟨_, e⟩ => by have := List.all_eq_true.1 e _ (List.getElem_mem hj); rw [h] at this; cases this]
theorem chkP_many {L : List Pol} (h : ¬ L.length ≤ 20) : chkP L = 211 := by
  unfold chkP
  rw [if_neg fun ⟨e, _⟩ => h e]
set_option maxHeartbeats 4000000 in
theorem checkP_any (ad : Option Addr) (n cap : Nat) (L : List Pol) (w : World) (hL : PolAt w ad n L) (hs : ∀ p ∈ L, p.name.size ≤ 140737488355328) (hn : n ≤ 140737488355328) (hT : Tabs w) :
    Calls Tryd.prog 14 #[.slice ad n cap] w fun e w' => e = .returned (.int .i64 (chkP L)) ∧ Below w.heap.size w w' := by
  have HL : Hid (PolAt w ad n L) := hL
  have MB : Hid (∀ i (hi : i < L.length) W, Below w.heap.size w W → Calls Tryd.prog 26 #[polV L[i]] W fun e w' => e = .returned (.bool (mayP L[i])) ∧ Below W.heap.size W w') := fun i hi W hb => mayBe_any L[i] (hs _ (List.getElem_mem hi)) W (hT.below hb)
  clear hL hT
  go_enter Tryd.func14, Tryd.ntmps14
  by_cases h20 : (20 : Int) < (n : Int)
  · have HE : Hid (chkP L = 211) := chkP_many (by rw [HL.out.1]; omega)
    have B0 : Hid (Below w.heap.size w w) := Below.refl _ _
    go_wp2
    go_ret
    rw [HE.out]
    exact ⟨rfl, B0.out⟩
  · go_wp2
    go_loopw [10] (fun z wr => ∃ i : Nat, z = .int .i64 i ∧ i ≤ n ∧ Hid (Below w.heap.size w wr) ∧ Hid (∀ j (hj : j < L.length), j < i → mayP L[j] = true)) (fun z _ => n - (intOf z).toNat)
    case atStart => exact ⟨0, rfl, by omega, Below.refl _ _, fun j hj h => absurd h (Nat.not_lt_zero _)⟩
    case round =>
      obtain ⟨i, rfl, hin, HB, HA⟩ := hrel
      by_cases hlt : i < n
      · have hlt' : (i : Int) < (n : Int) := by omega
        have hiL : i < L.length := by rw [HL.out.1]; exact hlt
        obtain ⟨b, o, rfl, hbl, hc⟩ := (HL.out.below HB.out).2 (by omega)
        have hci := hc i hiL
        obtain ⟨y, hy⟩ : ∃ y, L[i] = y := ⟨_, rfl⟩
        have M1 : Hid (∀ W, Below w.heap.size w W → Calls Tryd.prog 26 #[polV y] W fun e w' => e = .returned (.bool (mayP y)) ∧ Below W.heap.size W w') := fun W hb => by rw [← hy]; exact MB.out i hiL W hb
        rw [hy] at hci
        have HY : Hid (∃ h : i < L.length, L[i] = y) := ⟨hiL, hy⟩
        have c0 := hci 0 _ rfl
        have c1 := hci 1 _ rfl
        have c2 := hci 2 _ rfl
        have c3 := hci 3 _ rfl
        have BN : Hid (∀ o, Below w.heap.size w (wr.alloc o)) := fun o => HB.out.alloc (HB.out.size) o
        rw [Nat.add_zero] at c0
        unfold polV at M1
        clear hc hci hy MB
        cases hm : mayP y with
        | true =>
          rw [hm] at M1
          go_wp2_with (go_at_call 26; refine (M1.out _ (BN.out _)).mono ?_; rintro e w1 ⟨rfl, hb1⟩; have HB1 : Hid (Below w.heap.size w w1) := (BN.out _).trans (hb1.mono (BN.out _).size); clear hb1)
          go_roundw
          case rel => exact ⟨i + 1, by go_num, by omega, HB1, all_take_next HY.out.1 HA.out (by rw [HY.out.2]; exact hm)⟩
          case measure => (simp [intOf]; omega)
        | false =>
          rw [hm] at M1
          go_wp2_with (go_at_call 26; refine (M1.out _ (BN.out _)).mono ?_; rintro e w1 ⟨rfl, hb1⟩; have HB1 : Hid (Below w.heap.size w w1) := (BN.out _).trans (hb1.mono (BN.out _).size); clear hb1)
          go_ret
          rw [chkP_no HY.out.1 (by rw [HY.out.2]; exact hm)]
          exact ⟨rfl, HB1.out⟩
      · obtain rfl : n = i := by omega
        have HE : Hid (chkP L = 0) := chkP_ok (by rw [HL.out.1]; omega) (fun j hj => HA.out j hj (by rw [← HL.out.1]; exact hj))
        clear HL MB HA
        go_wp2
        go_ret
        rw [HE.out]
        exact ⟨rfl, HB.out⟩
end Go.Proofs.YtdodempnkkkbmaaDoor
