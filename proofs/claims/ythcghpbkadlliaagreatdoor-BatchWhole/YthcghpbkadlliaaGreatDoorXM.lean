/-
  Encode of whatever spans; spans that were handed in; the walk of BatchBack.
-/
import Derived.Test.YthcghpbkadlliaaGreatDoorXL
namespace Go.Proofs.YthcghpbkadlliaaGreatDoor
open Go.Shelf Go.RowKit
set_option maxRecDepth 100000

/-- What is encoded at all. -/
def EncOk (X : List Sp) : Prop := X.length ≤ 500 ∧ (∀ a ∈ X, chkS a = 0) ∧ (encB X).length ≤ 65536
theorem first_bad : ∀ X : List Sp, (∀ a ∈ X, chkS a = 0) ∨ ∃ (i : Nat) (hi : i < X.length), (∀ j (hj : j < i), chkS (X[j]'(by omega)) = 0) ∧ chkS X[i] ≠ 0
  | [] => Or.inl (by simp)
  | a :: r => by
    by_cases h : chkS a = 0
    · rcases first_bad r with h1 | ⟨i, hi, h1, h2⟩
      · exact Or.inl (fun x hx => (List.mem_cons.1 hx).elim (fun e => e ▸ h) (h1 x))
      · refine Or.inr ⟨i + 1, by simpa using hi, fun j hj => ?_, by simpa using h2⟩
        cases j with
        | zero => simpa using h
        | succ j => simpa using h1 j (by omega)
    · exact Or.inr ⟨0, by simp, fun j hj => by omega, by simpa using h⟩
/-- What is not encoded: a fault, and nothing. -/
theorem encode_no (ad : Option Addr) (cp : Nat) (X : List Sp) (P : Nat → Pl) (w : World) (hX : SpsAt w ad X.length X P) (hS : ∀ a ∈ X, a.Small) (hF : ∀ a ∈ X, a.Fits) (hT : Tabs w) (hE : ErrT w) (hn : ¬ EncOk X) :
    Calls Tryz.prog 13 #[.slice ad X.length cp] w fun e w' => ∃ p, e = .returned (.tuple #[.slice none 0 0, .iface 57 (.pointer (some ⟨p, 0, none⟩))]) ∧ Below w.heap.size w w' := by
  by_cases h1 : X.length ≤ 500
  · rcases first_bad X with h2 | ⟨i, hi, h2, h3⟩
    · have h3 : 65536 < (encB X).length := by
        by_cases h : (encB X).length ≤ 65536
        · exact (hn ⟨h1, h2, h⟩).elim
        · omega
      refine (encode_up ad X.length cp 0 51 w hE (fun w1 b1 => (laid_rest ad cp X P w1 (hX.below b1) hS (hT.below b1) h1 hF h2).mono ?_)).mono ?_
      · rintro e w' ⟨h4, h5⟩; rw [if_pos h3] at h4; exact ⟨h4, h5⟩
      · rintro e w' ⟨p, h4, _, h5⟩; exact ⟨p, h4, h5⟩
    · refine (encode_up ad X.length cp i (chkS X[i]) w hE (fun w1 b1 => laid_bad ad cp X P i w1 (hX.below b1) hS (hT.below b1) h1 hi h2 h3)).mono ?_
      rintro e w' ⟨p, h4, _, h5⟩; exact ⟨p, h4, h5⟩
  · refine (encode_up ad X.length cp 500 53 w hE (fun w1 b1 => laid_many ad X.length cp w1 (by omega))).mono ?_
    rintro e w' ⟨p, h4, _, h5⟩; exact ⟨p, h4, h5⟩
theorem EncOk.byt {X : List Sp} (h : EncOk X) (hF : ∀ a ∈ X, a.Fits) : ∀ x ∈ encB X, 0 ≤ x ∧ x < 256 := enc_byt X (fun a ha => (span_can (hF a ha) (h.2.1 a ha)).1)
theorem EncOk.back {X : List Sp} (h : EncOk X) (hF : ∀ a ∈ X, a.Fits) : decB (encB X) = .ok X :=
  dec_back X h.1 (fun a ha => ⟨(span_can (hF a ha) (h.2.1 a ha)).1, (span_can (hF a ha) (h.2.1 a ha)).2, h.2.1 a ha⟩) h.2.2 (h.byt hF)

set_option maxHeartbeats 2000000 in
theorem back_ok (ad : Option Addr) (cp : Nat) (X : List Sp) (P : Nat → Pl) (w : World) (hX : SpsAt w ad X.length X P) (hS : ∀ a ∈ X, a.Small) (hF : ∀ a ∈ X, a.Fits) (hT : Tabs w) (ho : EncOk X) :
    Calls Tryz.prog 6 #[.slice ad X.length cp] w fun e w' => e = .returned (.bool true) ∧ Below w.heap.size w w' := by
  have S := shown_any w hT
  have EN := fun W (b : Below w.heap.size w W) => encode_ok ad cp X P W (hX.below b) hS (hT.below b) ho.1 hF ho.2.1 ho.2.2
  have D := fun W q (b : Below w.heap.size w W) (r : RowAt W q (encB X)) => decode_ok (some ⟨q, 0, none⟩) (encB X).length (encB X).length (encB X) X W r.holds (ho.byt hF) (Nat.le_refl _) (hT.below b) (ho.back hF)
  have SS := fun (W : World) (ao : Option Addr) (c : Nat) (Q : Nat → Pl) (b : Below w.heap.size w W) (h : SpsAt W ao X.length X Q) => sameSpans_self ao ad X.length c cp X Q P W h (hX.below b) (by have := ho.1; omega)
  have SP : ∀ (base : Nat) (x : Option Addr) (y z : Nat) (W : World), DecOk base X (.slice x y z) W → y = X.length ∧ ∃ P, SpsAt W x X.length X P := fun base x y z W h => ⟨h.sps.1, h.sps.2.2⟩
  have hl5 : ((encB X).length : Int) ≤ 65536 := by have := ho.2.2; omega
  have hl5' : decide (((encB X).length : Int) ≤ 65536) = true := decide_eq_true hl5
  have B0 : Below w.heap.size w w := Below.refl _ _
  clear ho hS hF hT hX
  generalize encB X = K at *
  generalize K.length = kl at *
  generalize hll : X.length = ln at *
  clear hll
  go_enter Tryz.func6, Tryz.ntmps6
  go_wp2_with (first
    | (go_at_call 9; refine S.mono ?_; clear S; rintro e w1 ⟨rfl, b1⟩)
    | (go_at_call 13; refine (EN _ b1).mono ?_; clear EN; rintro e w2 ⟨q, rfl, r2, hq, b2⟩; have B2 := b1.trans (b2.mono b1.size))
    | (go_at_call 21; refine (D _ _ B2 r2).mono ?_; clear D; rintro e w3 ⟨v3, rfl, d3, b3⟩; obtain ⟨x3, y3, z3, rfl⟩ : ∃ x y z, v3 = .slice x y z := (by obtain ⟨A, _, _, h3, _⟩ := d3; exact row_shape h3); have B3 := B2.trans (b3.mono B2.size); obtain ⟨rfl, P3, s3⟩ := SP _ _ _ _ _ d3; clear SP d3)
    | (go_at_call 23; refine (SS _ _ _ _ B3 s3).mono ?_; clear SS; rintro e w4 ⟨rfl, b4⟩; have B4 := B3.trans (b4.mono B3.size))
  )
  go_ret
  exact ⟨rfl, B4⟩
set_option maxHeartbeats 2000000 in
theorem back_no (ad : Option Addr) (cp : Nat) (X : List Sp) (P : Nat → Pl) (w : World) (hX : SpsAt w ad X.length X P) (hS : ∀ a ∈ X, a.Small) (hF : ∀ a ∈ X, a.Fits) (hT : Tabs w) (hE : ErrT w) (ho : ¬ EncOk X) :
    Calls Tryz.prog 6 #[.slice ad X.length cp] w fun e w' => e = .returned (.bool true) ∧ Below w.heap.size w w' := by
  have S := shown_any w hT
  have EN := fun W (b : Below w.heap.size w W) => encode_no ad cp X P W (hX.below b) hS hF (hT.below b) (hE.below b) ho
  clear ho hS hF hT hX hE
  generalize X.length = ln at *
  go_enter Tryz.func6, Tryz.ntmps6
  go_wp2_with (first
    | (go_at_call 9; refine S.mono ?_; clear S; rintro e w1 ⟨rfl, b1⟩)
    | (go_at_call 13; refine (EN _ b1).mono ?_; clear EN; rintro e w2 ⟨p, rfl, b2⟩; have B2 := b1.trans (b2.mono b1.size))
  )
  go_ret
  exact ⟨rfl, B2⟩
theorem back_any (ad : Option Addr) (cp : Nat) (X : List Sp) (P : Nat → Pl) (w : World) (hX : SpsAt w ad X.length X P) (hS : ∀ a ∈ X, a.Small) (hF : ∀ a ∈ X, a.Fits) (hT : Tabs w) (hE : ErrT w) :
    Calls Tryz.prog 6 #[.slice ad X.length cp] w fun e w' => e = .returned (.bool true) ∧ Below w.heap.size w w' := by
  by_cases ho : EncOk X
  · exact back_ok ad cp X P w hX hS hF hT ho
  · exact back_no ad cp X P w hX hS hF hT hE ho

/-! Spans that were handed in. -/
open Go.ChangeShapes Go.WideShapes Go.ChangeAt Go.Deep
theorem bytes_span : Tryz.prog.bytesOf 75 = 168 := by kernel_rfl
section
variable {H : Type} {enc : TypeId × Value → H} {W : World} {base : Nat} {spare : Nat → Bool} {held : Bool}
set_option maxHeartbeats 1000000 in
theorem spans_open {n : Nat} {v : Value} {x : DataW H × List MemPlace} (h : DataW.trod enc Tryz.prog W base spare held n 25 [v] = some x) (hr : Reach 25 x.1) :
    ∃ (ad : Option Addr) (cap : Nat) (X : List Sp) (P : Nat → Pl), v = .slice ad X.length cap ∧ SpsAt W ad X.length X P ∧ (∀ a ∈ X, a.Small) ∧ (∀ a ∈ X, a.Fits) ∧ X.length ≤ 140737488355328 ∧ X.length ≤ cap := by
  rcases open_slice Tryz.underlying25 h with ⟨hcs, hx⟩ | ⟨a, len, cap, m, n, D, PL, hcs, hb, hl, hm, hmm, hx, hel⟩
  · simp at hcs
    subst hcs
    exact ⟨none, 0, [], fun _ => ⟨none, 0, none, 0, none, 0⟩, rfl, ⟨rfl, fun hp => by simp at hp, fun i hi => by simp at hi⟩, (fun x hx => by cases hx), (fun x hx => by cases hx), by simp, by simp⟩
  · simp at hcs
    subst hcs hx
    have hln := hr.len Tryz.underlying25
    rw [bytes_span] at hln
    simp at hln
    have hlm : len ≤ m := by rw [hmm]; split <;> omega
    rw [cells_span] at hel
    have each : ∀ i, i < len → ∃ y : Sp × Pl, W.cells? base (a.add (i * 13)) 13 = some (spC y.1 y.2).toList ∧ SpAt W y.1 y.2 ∧ y.1.Small ∧ y.1.Fits := by
      intro i hi
      obtain ⟨cs', h1, h2⟩ := hel i (by omega)
      have hri : Reach 75 (D i) := hr.elem Tryz.underlying25 (List.mem_map.2 ⟨i, List.mem_range.2 hi, rfl⟩)
      obtain ⟨y, p, rfl, h3⟩ := span_open h2 hri
      exact ⟨(y, p), h1, h3⟩
    have : Inhabited (Sp × Pl) := ⟨⟨oneSp, ⟨none, 0, none, 0, none, 0⟩⟩⟩
    obtain ⟨Y, hY⟩ := choose_lt each
    have hlen : ((List.range len).map (fun i => (Y i).1)).length = len := by simp
    refine ⟨some a, cap, (List.range len).map (fun i => (Y i).1), fun i => (Y i).2, by rw [hlen], ?_, ?_, ?_, by rw [hlen]; omega, by rw [hlen]; exact hl⟩
    · refine ⟨rfl, fun hp => ?_, fun i hi => ?_⟩
      · rw [hlen] at hp
        obtain ⟨b, off, sp⟩ := a
        have hc0 := (World.cells?_some (hY 0 hp).1).2.2 0 (by omega)
        have hsp : sp = none := by
          refine spot_none (w := W) (b := b) (off := off) (u := (spC (Y 0).1 (Y 0).2)[0]'(by simp [spC])) ?_
          simpa [Addr.add, spC] using hc0
        subst hsp
        refine ⟨b, off, rfl, fun i hi j u hu => ?_⟩
        rw [hlen] at hi
        have e : ((List.range len).map (fun i => (Y i).1))[i]'(by rw [hlen]; exact hi) = (Y i).1 := by simp
        rw [e] at hu
        have hj : j < 13 := by have := (Array.getElem?_eq_some_iff.1 hu).1; simpa [spC] using this
        have hc := (World.cells?_some (hY i hi).1).2.2 j (by omega)
        rw [Addr.add_lit, Addr.add_lit] at hc
        rw [hc, ← hu]
        simp [spC] at hj ⊢
      · rw [hlen] at hi
        have e : ((List.range len).map (fun i => (Y i).1))[i]'(by rw [hlen]; exact hi) = (Y i).1 := by simp
        rw [e]
        exact (hY i hi).2.1
    · intro y hy
      simp at hy
      obtain ⟨i, hi, rfl⟩ := hy
      exact (hY i hi).2.2.1
    · intro y hy
      simp at hy
      obtain ⟨i, hi, rfl⟩ := hy
      exact (hY i hi).2.2.2
end
end Go.Proofs.YthcghpbkadlliaaGreatDoor
