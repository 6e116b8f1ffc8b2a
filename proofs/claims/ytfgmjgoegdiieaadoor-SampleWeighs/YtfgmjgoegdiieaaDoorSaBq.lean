/-
  Merged: SaB, SaC.
-/
import Derived.Test.YtfgmjgoegdiieaaDoorZg
import Derived.Test.YtfgmjgoegdiieaaDoorSOq
import Derived.Laws.StructEq
import Derived.Deep.Cut
namespace Go.Proofs.YtfgmjgoegdiieaaDoor
open Go Go.RowKit
set_option maxRecDepth 100000

/-- A policy. -/
structure Pol where
  kind : Int
  nanos : Int
  name : ByteArray
  part : Int
def polC (p : Pol) : List Value := [.int .i64 p.kind, .int .u64 p.nanos, .string p.name, .int .i64 p.part]
def polV (p : Pol) : Value := .agg #[.int .i64 p.kind, .int .u64 p.nanos, .string p.name, .int .i64 p.part]
abbrev emptyB : ByteArray := ⟨#[]⟩
/-- Which may be. -/
def mayP (p : Pol) : Bool :=
  if p.kind = 0 ∨ p.kind = 1 then decide (p.nanos = 0 ∧ p.name = emptyB ∧ p.part = 0)
  else if p.kind = 2 then decide (p.name = emptyB ∧ p.part = 0)
  else if p.kind = 3 then decide (p.nanos = 0 ∧ p.part = 0) && plainB p.name 60 33
  else if p.kind = 4 then decide (p.nanos = 0 ∧ p.name = emptyB) && decide (0 ≤ p.part) && decide (p.part ≤ 65536)
  else false
theorem strB_eq (s s' : ByteArray) : (s.toList == s'.toList) = decide (s = s') := by
  by_cases h : s = s'
  · simp [h]
  · have : ¬ s.toList = s'.toList := fun e => h (bytes_ext _ _ e)
    simp [h, this]
theorem eqI_pol (d : Nat) (k n q k' n' q' : Int) (s s' : ByteArray) (W : World) : (Op.equalIn (d + 2) 32 (.agg #[.int .i64 k, .int .u64 n, .string s, .int .i64 q]) (.agg #[.int .i64 k', .int .u64 n', .string s', .int .i64 q'])).run Tryd.prog W = .ok (decide (k = k' ∧ n = n' ∧ s = s' ∧ q = q')) W := by
  have u1 := Tryd.underlying24
  have a1 := Tryd.isAgg24
  have z1 := Tryd.sizeOf24
  have u2 := Tryd.underlying9
  have a2 := Tryd.isAgg9
  have z2 := Tryd.sizeOf9
  have u3 := Tryd.underlying3
  have a3 := Tryd.isAgg3
  have z3 := Tryd.sizeOf3
  have u4 := Tryd.underlying30
  have a4 := Tryd.isAgg30
  have z4 := Tryd.sizeOf30
  have hS : Tryd.prog.underlying 32 = some (.struct (Tryd.prog.fieldsOf 32)) := by kernel_rfl
  have hp : Tryd.prog.stoodInHeld 32 = false := by kernel_rfl
  have hs := strB_eq s s'
  rw [run_equalIn_agg W (d + 1) 32 _ _ hS hp]
  simp only [Program.fieldsOf, Tryd.underlying32]
  go_simp
  by_cases h1 : k = k' <;> by_cases h2 : n = n' <;> by_cases h3 : s = s' <;> by_cases h4 : q = q' <;> simp [h1, h2, h3, h4]
/-- A span in which nothing is amiss but its service. -/
def spQ (s : ByteArray) : Sp := ⟨0, 1, 1, 0, [], s, ⟨#[45]⟩, 0, 0, 0, 0, [], []⟩
def plQ : Pl := ⟨none, 0, none, 0, none, 0⟩
theorem spQ_at (w : World) (s : ByteArray) : SpAt w (spQ s) plQ :=
  ⟨⟨rfl, fun j u hj => by simp [spQ, intsV] at hj⟩, ⟨rfl, fun h => by cases h⟩, ⟨rfl, fun h => by cases h⟩, by simp [spQ], by simp [spQ], by simp [spQ]⟩
theorem spQ_chk (s : ByteArray) : decide (chkS (spQ s) = 0) = plainB s 60 33 := by
  have e1 : plainB ⟨#[45]⟩ 100 32 = true := by decide +kernel
  have e2 : momB 0 = true := by decide
  have e3 : linksB 1 [] = true := by decide +kernel
  have e4 : attrsB [] = true := by decide +kernel
  have e5 : eventsB [] = true := by decide +kernel
  unfold chkS spQ
  simp only [e1, e2, e3, e4, e5]
  cases plainB s 60 33 <;> simp
theorem isService_any (s : ByteArray) (hs : s.size ≤ 140737488355328) (w : World) (hT : Tabs w) :
    Calls Tryd.prog 27 #[.string s] w fun e w' => e = .returned (.bool (plainB s 60 33)) ∧ Below w.heap.size w w' := by
  have CK := check_any (spQ s) plQ w (spQ_at w s) ⟨by simp only [spQ]; omega, by simp only [spQ]; decide, (fun _ h => by cases h), (fun _ h => by cases h)⟩ hT
  have HE := spQ_chk s
  obtain ⟨c, hc⟩ : ∃ c, chkS (spQ s) = c := ⟨_, rfl⟩
  rw [hc] at CK HE
  rw [← HE]
  unfold spV spC spQ plQ at CK
  clear hc HE
  go_enter Tryd.func27, Tryd.ntmps27
  go_wp2_with (go_at_call 30; refine CK.mono ?_; clear CK; rintro e w1 ⟨rfl, hb1⟩)
  go_ret
  refine ⟨congrArg (fun z => Ending.returned (.bool z)) (?_ : (c == 0) = decide (c = 0)), hb1⟩
  by_cases h : c = 0 <;> simp [h]
theorem polGuard : Tryd.prog.eqGuardType Tryd.prog.depth 32 = false := by kernel_rfl
set_option maxHeartbeats 4000000 in
theorem mayBe_any (p : Pol) (hs : p.name.size ≤ 140737488355328) (w : World) (hT : Tabs w) :
    Calls Tryd.prog 14 #[polV p] w fun e w' => e = .returned (.bool (mayP p)) ∧ Below w.heap.size w w' := by
  obtain ⟨k, n, s, q⟩ := p
  have BB : Hid (∀ o, Below w.heap.size w (w.alloc o)) := fun o => (Below.refl _ _).alloc (Nat.le_refl _) _
  have SV := fun o => isService_any s hs (w.alloc o) (hT.below (BB.out o))
  have QE := fun k' n' s' q' W => run_eql_of (eqI_pol 9998 k n q k' n' q' s s' W)
  have hg := polGuard
  unfold polV
  go_enter Tryd.func14, Tryd.ntmps14
  by_cases k0 : k = 0
  · subst k0
    go_wp2
    go_ret
    refine ⟨congrArg (fun z => Ending.returned (.bool z)) (?_ : (decide (n = 0) && (decide (s = emptyB) && decide (q = 0))) = mayP ⟨0, n, s, q⟩), BB.out _⟩
    by_cases h1 : n = 0 <;> by_cases h2 : s = emptyB <;> by_cases h3 : q = 0 <;> simp [mayP, h1, h2, h3]
  by_cases k1 : k = 1
  · subst k1
    go_wp2
    go_ret
    refine ⟨congrArg (fun z => Ending.returned (.bool z)) (?_ : (decide (n = 0) && (decide (s = emptyB) && decide (q = 0))) = mayP ⟨1, n, s, q⟩), BB.out _⟩
    by_cases h1 : n = 0 <;> by_cases h2 : s = emptyB <;> by_cases h3 : q = 0 <;> simp [mayP, h1, h2, h3]
  by_cases k2 : k = 2
  · subst k2
    go_wp2
    go_ret
    refine ⟨congrArg (fun z => Ending.returned (.bool z)) (?_ : (decide (s = emptyB) && decide (q = 0)) = mayP ⟨2, n, s, q⟩), BB.out _⟩
    by_cases h2 : s = emptyB <;> by_cases h3 : q = 0 <;> simp [mayP, h2, h3]
  by_cases k3 : k = 3
  · subst k3
    by_cases h1 : n = 0
    · by_cases h2 : q = 0
      · subst h1 h2
        have S1 := SV (.cells #[.int .i64 3, .int .u64 0, .string s, .int .i64 0] 32)
        clear SV
        go_wp2_with (go_at_call 27; refine S1.mono ?_; clear S1; rintro e w1 ⟨rfl, hb1⟩)
        go_ret
        refine ⟨congrArg (fun z => Ending.returned (.bool z)) (?_ : plainB s 60 33 = mayP ⟨3, 0, s, 0⟩), (BB.out _).trans (hb1.mono (BB.out _).size)⟩
        simp [mayP]
      · have d2 : decide (q = 0) = false := by simp [h2]
        subst h1
        go_wp2
        go_ret
        refine ⟨congrArg (fun z => Ending.returned (.bool z)) (?_ : false = mayP ⟨3, 0, s, q⟩), BB.out _⟩
        simp [mayP, h2]
    · have d1 : decide (n = 0) = false := by simp [h1]
      go_wp2
      go_ret
      refine ⟨congrArg (fun z => Ending.returned (.bool z)) (?_ : false = mayP ⟨3, n, s, q⟩), BB.out _⟩
      simp [mayP, h1]
  by_cases k4 : k = 4
  · subst k4
    by_cases h1 : n = 0
    · subst h1
      by_cases h2 : s = emptyB
      · subst h2
        by_cases h3 : 0 ≤ q
        · go_wp2
          go_ret
          refine ⟨congrArg (fun z => Ending.returned (.bool z)) (?_ : decide (q ≤ 65536) = mayP ⟨4, 0, emptyB, q⟩), BB.out _⟩
          simp [mayP, h3]
        · go_wp2
          go_ret
          refine ⟨congrArg (fun z => Ending.returned (.bool z)) (?_ : false = mayP ⟨4, 0, emptyB, q⟩), BB.out _⟩
          simp [mayP]
          omega
      · have d2 : decide (s = emptyB) = false := by simp [h2]
        go_wp2
        go_ret
        refine ⟨congrArg (fun z => Ending.returned (.bool z)) (?_ : false = mayP ⟨4, 0, s, q⟩), BB.out _⟩
        simp [mayP, h2]
    · have d1 : decide (n = 0) = false := by simp [h1]
      go_wp2
      go_ret
      refine ⟨congrArg (fun z => Ending.returned (.bool z)) (?_ : false = mayP ⟨4, n, s, q⟩), BB.out _⟩
      simp [mayP, h1]
  have hne : ∀ j : Int, j = 0 ∨ j = 1 ∨ j = 2 ∨ j = 3 ∨ j = 4 → (k == j) = false := fun j hj => by rcases hj with rfl | rfl | rfl | rfl | rfl <;> simp [k0, k1, k2, k3, k4]
  have e0 := hne 0 (by simp)
  have e1 := hne 1 (by simp)
  have e2 := hne 2 (by simp)
  have e3 := hne 3 (by simp)
  have e4 := hne 4 (by simp)
  clear hne
  go_wp2
  go_ret
  refine ⟨congrArg (fun z => Ending.returned (.bool z)) (?_ : false = mayP ⟨k, n, s, q⟩), BB.out _⟩
  simp [mayP, k0, k1, k2, k3, k4]
end Go.Proofs.YtfgmjgoegdiieaaDoor

namespace Go.Proofs.YtfgmjgoegdiieaaDoor
open Go Go.RowKit
set_option maxRecDepth 100000

/-- A list of policies in memory. -/
def PolAt (w : World) (ad : Option Addr) (n : Nat) (L : List Pol) : Prop :=
  L.length = n ∧ (0 < n → ∃ b o, ad = some ⟨b, o, none⟩ ∧ b < w.heap.size ∧ ∀ i (hi : i < L.length), ∀ j v, (polC L[i])[j]? = some v → w.cell? ⟨b, o + i * 4 + j, none⟩ = some v)
theorem PolAt.below {w w' : World} {ad : Option Addr} {n : Nat} {L : List Pol} (h : PolAt w ad n L) (hb : Below w.heap.size w w') : PolAt w' ad n L :=
  ⟨h.1, fun hn => by
    obtain ⟨b, o, e, hl, hc⟩ := h.2 hn
    exact ⟨b, o, e, Nat.lt_of_lt_of_le hl hb.size, fun i hi j v hv => (hb.cell (p := ⟨b, o + i * 4 + j, none⟩) hl).trans (hc i hi j v hv)⟩⟩
/-- What Check tells. -/
def chkP (L : List Pol) : Int := if L.length ≤ 20 ∧ L.all mayP = true then 0 else 211
theorem all_take_next {L : List Pol} {i : Nat} (hi : i < L.length) (h : ∀ j (hj : j < L.length), j < i → mayP L[j] = true) (hm : mayP L[i] = true) : ∀ j (hj : j < L.length), j < i + 1 → mayP L[j] = true := fun j hj hji => by
  rcases Nat.lt_succ_iff_lt_or_eq.1 hji with h1 | rfl
  · exact h j hj h1
  · exact hm
theorem chkP_ok {L : List Pol} (hn : L.length ≤ 20) (h : ∀ j (hj : j < L.length), mayP L[j] = true) : chkP L = 0 := by
  unfold chkP
  rw [if_pos ⟨hn, List.all_eq_true.2 fun x hx => by obtain ⟨j, hj, rfl⟩ := List.getElem_of_mem hx; exact h j hj⟩]
theorem chkP_no {L : List Pol} {j : Nat} (hj : j < L.length) (h : mayP L[j] = false) : chkP L = 211 := by
  unfold chkP
  rw [if_neg fun ⟨_, e⟩ => by have := List.all_eq_true.1 e _ (List.getElem_mem hj); rw [h] at this; cases this]
theorem chkP_many {L : List Pol} (h : ¬ L.length ≤ 20) : chkP L = 211 := by
  unfold chkP
  rw [if_neg fun ⟨e, _⟩ => h e]
set_option maxHeartbeats 4000000 in
theorem checkP_any (ad : Option Addr) (n cap : Nat) (L : List Pol) (w : World) (hL : PolAt w ad n L) (hs : ∀ p ∈ L, p.name.size ≤ 140737488355328) (hn : n ≤ 140737488355328) (hT : Tabs w) :
    Calls Tryd.prog 5 #[.slice ad n cap] w fun e w' => e = .returned (.int .i64 (chkP L)) ∧ Below w.heap.size w w' := by
  have HL : Hid (PolAt w ad n L) := hL
  have MB : Hid (∀ i (hi : i < L.length) W, Below w.heap.size w W → Calls Tryd.prog 14 #[polV L[i]] W fun e w' => e = .returned (.bool (mayP L[i])) ∧ Below W.heap.size W w') := fun i hi W hb => mayBe_any L[i] (hs _ (List.getElem_mem hi)) W (hT.below hb)
  clear hL hT
  go_enter Tryd.func5, Tryd.ntmps5
  by_cases h20 : (20 : Int) < (n : Int)
  · have HE : Hid (chkP L = 211) := chkP_many (by rw [HL.out.1]; omega)
    have B0 : Hid (Below w.heap.size w w) := Below.refl _ _
    go_wp2
    go_ret
    rw [HE.out]
    exact ⟨rfl, B0.out⟩
  · go_wp2
    go_loopw [10] (fun z wr => ∃ i : Nat, z = .int .i64 i ∧ i ≤ n ∧ Hid (Below w.heap.size w wr) ∧ Hid (∀ j (hj : j < L.length), j < i → mayP L[j] = true)) (fun z _ => n - (intOf z).toNat)
    case atStart => exact ⟨0, rfl, by omega, Below.refl _ _, fun j hj h => absurd h (Nat.not_lt_zero _)⟩
    case round =>
      obtain ⟨i, rfl, hin, HB, HA⟩ := hrel
      by_cases hlt : i < n
      · have hlt' : (i : Int) < (n : Int) := by omega
        have hiL : i < L.length := by rw [HL.out.1]; exact hlt
        obtain ⟨b, o, rfl, hbl, hc⟩ := (HL.out.below HB.out).2 (by omega)
        have hci := hc i hiL
        obtain ⟨y, hy⟩ : ∃ y, L[i] = y := ⟨_, rfl⟩
        have M1 : Hid (∀ W, Below w.heap.size w W → Calls Tryd.prog 14 #[polV y] W fun e w' => e = .returned (.bool (mayP y)) ∧ Below W.heap.size W w') := fun W hb => by rw [← hy]; exact MB.out i hiL W hb
        rw [hy] at hci
        have HY : Hid (∃ h : i < L.length, L[i] = y) := ⟨hiL, hy⟩
        have c0 := hci 0 _ rfl
        have c1 := hci 1 _ rfl
        have c2 := hci 2 _ rfl
        have c3 := hci 3 _ rfl
        have BN : Hid (∀ o, Below w.heap.size w (wr.alloc o)) := fun o => HB.out.alloc (HB.out.size) o
        rw [Nat.add_zero] at c0
        unfold polV at M1
        clear hc hci hy MB
        cases hm : mayP y with
        | true =>
          rw [hm] at M1
          go_wp2_with (go_at_call 14; refine (M1.out _ (BN.out _)).mono ?_; rintro e w1 ⟨rfl, hb1⟩; have HB1 : Hid (Below w.heap.size w w1) := (BN.out _).trans (hb1.mono (BN.out _).size); clear hb1)
          go_roundw
          case rel => exact ⟨i + 1, by go_num, by omega, HB1, all_take_next HY.out.1 HA.out (by rw [HY.out.2]; exact hm)⟩
          case measure => (simp [intOf]; omega)
        | false =>
          rw [hm] at M1
          go_wp2_with (go_at_call 14; refine (M1.out _ (BN.out _)).mono ?_; rintro e w1 ⟨rfl, hb1⟩; have HB1 : Hid (Below w.heap.size w w1) := (BN.out _).trans (hb1.mono (BN.out _).size); clear hb1)
          go_ret
          rw [chkP_no HY.out.1 (by rw [HY.out.2]; exact hm)]
          exact ⟨rfl, HB1.out⟩
      · obtain rfl : n = i := by omega
        have HE : Hid (chkP L = 0) := chkP_ok (by rw [HL.out.1]; omega) (fun j hj => HA.out j hj (by rw [← HL.out.1]; exact hj))
        clear HL MB HA
        go_wp2
        go_ret
        rw [HE.out]
        exact ⟨rfl, HB.out⟩
end Go.Proofs.YtfgmjgoegdiieaaDoor
