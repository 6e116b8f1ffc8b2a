/-
  Merged: EH, EL, EM.
-/
import Derived.Test.YtkpkdikogoalkaaGreatDoorCUq
import Derived.Test.YtkpkdikogoalkaaGreatDoorDAq
import Derived.Test.YtkpkdikogoalkaaGreatDoorYcq
import Derived.Test.YtkpkdikogoalkaaGreatDoorCHq
namespace Go.Proofs.YtkpkdikogoalkaaGreatDoor.sk
open Go Go.RowKit
set_option maxRecDepth 100000

theorem neq_cal (x y : Cal) (W : World) : (binOp .neq 32 (.agg (calL x).toArray) (.agg (calL y).toArray)).run Tryz.prog W = .ok (.bool (!decide (x = y))) W := by
  obtain ⟨a, b, c, d, e⟩ := x
  obtain ⟨a', b', c', d', e'⟩ := y
  show (binOp .neq 32 (.agg #[.int .i64 a, .string b, .string c, .bool d, .int .u64 e]) (.agg #[.int .i64 a', .string b', .string c', .bool d', .int .u64 e'])).run Tryz.prog W = _
  rw [run_neqS (eqI_call 9996 _ _ _ _ _ _ _ _ _ _ W)]
  congr 4
  simp only [Prod.mk.injEq]
/-- Are two lists one? -/
def SameC (a b : List Cal) (w : World) (e : Ending) (w' : World) : Prop := ∃ r, e = .returned (.bool r) ∧ (r = true ↔ a = b) ∧ Below w.heap.size w w'
set_option maxHeartbeats 2000000 in
theorem sameC_any (ad bd : Option Addr) (n m ca cb : Nat) (a b : List Cal) (w : World) (hA : CalAt w ad n a) (hB : CalAt w bd m b) (hz : n ≤ ca) (hc : ca ≤ maxLen) :
    Calls Tryz.prog 9 #[.slice ad n ca, .slice bd m cb] w (SameC a b w) := by
  unfold maxLen at hc
  have HLA : Hid (a.length = n) := hA.len
  have HLB : Hid (b.length = m) := hB.len
  have HE : Hid (∀ r w', (r = true ↔ a = b) → Below w.heap.size w w' → SameC a b w (.returned (.bool r)) w') := fun r w' h1 h2 => ⟨r, rfl, h1, h2⟩
  generalize SameC a b w = R at *
  by_cases hnm : n = m
  · subst hnm
    have HA : Hid _ := hA
    have HB : Hid _ := hB
    clear hA hB
    go_enter Tryz.func9, Tryz.ntmps9
    go_wp2
    go_loopw [5] (fun t wr => ∃ k : Nat, t = .int .i64 k ∧ k ≤ n ∧ Hid (a.take k = b.take k) ∧ Hid (Below w.heap.size w wr)) (fun t _ => n - (intOf t).toNat)
    case atStart => exact ⟨0, rfl, by omega, rfl, Below.refl _ _⟩
    case round =>
      obtain ⟨k, rfl, hk, HT, HW⟩ := hrel
      by_cases hlt : k < n
      · obtain ⟨ba, oa, rfl, hca⟩ := (HA.out.below HW.out).lies (by omega)
        obtain ⟨bb, ob, rfl, hcb⟩ := (HB.out.below HW.out).lies (by omega)
        have hka : k < a.length := by rw [HLA.out]; exact hlt
        have hkb : k < b.length := by rw [HLB.out]; exact hlt
        have RA : Hid (wr.rangeAt ba (oa + k * 5) (calL a[k])) := hca k hka
        have RB : Hid (wr.rangeAt bb (ob + k * 5) (calL b[k])) := hcb k hkb
        have HTA : Hid _ := List.take_succ_eq_append_getElem hka
        have HTB : Hid _ := List.take_succ_eq_append_getElem hkb
        have HNE : Hid (a[k] ≠ b[k] → a ≠ b) := fun h e => h (by subst e; rfl)
        generalize a[k] = x at *
        generalize b[k] = y at *
        clear hca hcb hka hkb
        have NQ := neq_cal x y
        by_cases h1 : x = y
        · rw [show (!decide (x = y)) = false by simpa using h1] at NQ
          have HT1 : Hid (a.take (k + 1) = b.take (k + 1)) := by show _ = _; rw [HTA.out, HTB.out, HT.out, h1]
          clear HNE HTA HTB h1
          go_wp2
          refine wp_region_held (S := fun W => W.rangeAt ba (oa + k * 5) (calL x) ∧ W.rangeAt bb (ob + k * 5) (calL y)) (by kernel_rfl) ?_
          change wpAnyH _ _ _ _ _ _ _ _ (World.drew _)
          have hS : wr.drew.rangeAt ba (oa + k * 5) (calL x) ∧ wr.drew.rangeAt bb (ob + k * 5) (calL y) := ⟨RA.out, RB.out⟩
          refine takeC (i := 0) (v := .slice (some ⟨ba, oa, none⟩) n ca) rfl (by kernel_rfl) (by kernel_rfl) (by kernel_rfl) (fun _ _ _ h => h) (Or.inl ⟨by rfl, fun W hW => by go_simp⟩) hS ?_
          simp only [Act.put, List.setIfInBounds_toArray, List.set_cons_zero, List.set_cons_succ]
          refine takeC (i := 1) (v := .int .i64 (k : Int)) rfl (by kernel_rfl) (by kernel_rfl) (by kernel_rfl) (fun _ _ _ h => h) (Or.inl ⟨by rfl, fun W hW => by go_simp⟩) hS ?_
          simp only [Act.put, List.setIfInBounds_toArray, List.set_cons_zero, List.set_cons_succ]
          refine takeC (i := 2) (v := .pointer (some ⟨ba, oa + k * 5, none⟩)) rfl (by kernel_rfl) (by kernel_rfl) (by kernel_rfl) (fun _ _ _ h => h) (Or.inl ⟨by rfl, fun W hW => by go_simp⟩) hS ?_
          simp only [Act.put, List.setIfInBounds_toArray, List.set_cons_zero, List.set_cons_succ]
          refine takeC (i := 3) (v := .agg (calL x).toArray) rfl (by kernel_rfl) (by kernel_rfl) (by kernel_rfl) (fun _ _ _ h => h) (yieldsIf_load_mid (by rfl) 32 _ rfl ba (oa + k * 5) rfl (calL x) _ (fun W hW => hW.1) Tryz.underlying32 rfl (by kernel_rfl)) hS ?_
          simp only [Act.put, List.setIfInBounds_toArray, List.set_cons_zero, List.set_cons_succ]
          refine takeC (i := 4) (v := .slice (some ⟨bb, ob, none⟩) n cb) rfl (by kernel_rfl) (by kernel_rfl) (by kernel_rfl) (fun _ _ _ h => h) (Or.inl ⟨by rfl, fun W hW => by go_simp⟩) hS ?_
          simp only [Act.put, List.setIfInBounds_toArray, List.set_cons_zero, List.set_cons_succ]
          refine takeC (i := 5) (v := .int .i64 (k : Int)) rfl (by kernel_rfl) (by kernel_rfl) (by kernel_rfl) (fun _ _ _ h => h) (Or.inl ⟨by rfl, fun W hW => by go_simp⟩) hS ?_
          simp only [Act.put, List.setIfInBounds_toArray, List.set_cons_zero, List.set_cons_succ]
          refine takeC (i := 6) (v := .pointer (some ⟨bb, ob + k * 5, none⟩)) rfl (by kernel_rfl) (by kernel_rfl) (by kernel_rfl) (fun _ _ _ h => h) (Or.inl ⟨by rfl, fun W hW => by go_simp⟩) hS ?_
          simp only [Act.put, List.setIfInBounds_toArray, List.set_cons_zero, List.set_cons_succ]
          refine takeC (i := 7) (v := .agg (calL y).toArray) rfl (by kernel_rfl) (by kernel_rfl) (by kernel_rfl) (fun _ _ _ h => h) (yieldsIf_load_mid (by rfl) 32 _ rfl bb (ob + k * 5) rfl (calL y) _ (fun W hW => hW.2) Tryz.underlying32 rfl (by kernel_rfl)) hS ?_
          simp only [Act.put, List.setIfInBounds_toArray, List.set_cons_zero, List.set_cons_succ]
          refine takeC (i := 8) (v := .bool false) rfl (by kernel_rfl) (by kernel_rfl) (by kernel_rfl) (fun _ _ _ h => h) (Or.inl ⟨by rfl, fun W hW => by go_simp⟩) hS ?_
          simp only [Act.put, List.setIfInBounds_toArray, List.set_cons_zero, List.set_cons_succ]
          refine wpAnyH_done (by kernel_rfl) ?_ _
          go_wp2
          go_roundw
          case rel => exact ⟨k + 1, by go_num, by omega, HT1, HW.out.drew⟩
          case measure => simp [intOf]; omega
        · rw [show (!decide (x = y)) = true by simpa using h1] at NQ
          have HN : Hid (a ≠ b) := HNE.out h1
          clear HNE HTA HTB h1
          go_wp2
          refine wp_region_held (S := fun W => W.rangeAt ba (oa + k * 5) (calL x) ∧ W.rangeAt bb (ob + k * 5) (calL y)) (by kernel_rfl) ?_
          change wpAnyH _ _ _ _ _ _ _ _ (World.drew _)
          have hS : wr.drew.rangeAt ba (oa + k * 5) (calL x) ∧ wr.drew.rangeAt bb (ob + k * 5) (calL y) := ⟨RA.out, RB.out⟩
          refine takeC (i := 0) (v := .slice (some ⟨ba, oa, none⟩) n ca) rfl (by kernel_rfl) (by kernel_rfl) (by kernel_rfl) (fun _ _ _ h => h) (Or.inl ⟨by rfl, fun W hW => by go_simp⟩) hS ?_
          simp only [Act.put, List.setIfInBounds_toArray, List.set_cons_zero, List.set_cons_succ]
          refine takeC (i := 1) (v := .int .i64 (k : Int)) rfl (by kernel_rfl) (by kernel_rfl) (by kernel_rfl) (fun _ _ _ h => h) (Or.inl ⟨by rfl, fun W hW => by go_simp⟩) hS ?_
          simp only [Act.put, List.setIfInBounds_toArray, List.set_cons_zero, List.set_cons_succ]
          refine takeC (i := 2) (v := .pointer (some ⟨ba, oa + k * 5, none⟩)) rfl (by kernel_rfl) (by kernel_rfl) (by kernel_rfl) (fun _ _ _ h => h) (Or.inl ⟨by rfl, fun W hW => by go_simp⟩) hS ?_
          simp only [Act.put, List.setIfInBounds_toArray, List.set_cons_zero, List.set_cons_succ]
          refine takeC (i := 3) (v := .agg (calL x).toArray) rfl (by kernel_rfl) (by kernel_rfl) (by kernel_rfl) (fun _ _ _ h => h) (yieldsIf_load_mid (by rfl) 32 _ rfl ba (oa + k * 5) rfl (calL x) _ (fun W hW => hW.1) Tryz.underlying32 rfl (by kernel_rfl)) hS ?_
          simp only [Act.put, List.setIfInBounds_toArray, List.set_cons_zero, List.set_cons_succ]
          refine takeC (i := 4) (v := .slice (some ⟨bb, ob, none⟩) n cb) rfl (by kernel_rfl) (by kernel_rfl) (by kernel_rfl) (fun _ _ _ h => h) (Or.inl ⟨by rfl, fun W hW => by go_simp⟩) hS ?_
          simp only [Act.put, List.setIfInBounds_toArray, List.set_cons_zero, List.set_cons_succ]
          refine takeC (i := 5) (v := .int .i64 (k : Int)) rfl (by kernel_rfl) (by kernel_rfl) (by kernel_rfl) (fun _ _ _ h => h) (Or.inl ⟨by rfl, fun W hW => by go_simp⟩) hS ?_
          simp only [Act.put, List.setIfInBounds_toArray, List.set_cons_zero, List.set_cons_succ]
          refine takeC (i := 6) (v := .pointer (some ⟨bb, ob + k * 5, none⟩)) rfl (by kernel_rfl) (by kernel_rfl) (by kernel_rfl) (fun _ _ _ h => h) (Or.inl ⟨by rfl, fun W hW => by go_simp⟩) hS ?_
          simp only [Act.put, List.setIfInBounds_toArray, List.set_cons_zero, List.set_cons_succ]
          refine takeC (i := 7) (v := .agg (calL y).toArray) rfl (by kernel_rfl) (by kernel_rfl) (by kernel_rfl) (fun _ _ _ h => h) (yieldsIf_load_mid (by rfl) 32 _ rfl bb (ob + k * 5) rfl (calL y) _ (fun W hW => hW.2) Tryz.underlying32 rfl (by kernel_rfl)) hS ?_
          simp only [Act.put, List.setIfInBounds_toArray, List.set_cons_zero, List.set_cons_succ]
          refine takeC (i := 8) (v := .bool true) rfl (by kernel_rfl) (by kernel_rfl) (by kernel_rfl) (fun _ _ _ h => h) (Or.inl ⟨by rfl, fun W hW => by go_simp⟩) hS ?_
          simp only [Act.put, List.setIfInBounds_toArray, List.set_cons_zero, List.set_cons_succ]
          refine wpAnyH_done (by kernel_rfl) ?_ _
          go_wp2
          exact HE.out false _ ⟨(fun h => by cases h), fun h => absurd h HN.out⟩ HW.out.drew
      · have HQ : Hid (a = b) := by
          have ht := HT.out
          rw [List.take_of_length_le (by rw [HLA.out]; omega), List.take_of_length_le (by rw [HLB.out]; omega)] at ht
          exact ht
        clear HT
        go_wp2
        exact HE.out true _ ⟨fun _ => HQ.out, fun _ => rfl⟩ HW.out
  · have hne : a ≠ b := fun e => hnm (by rw [← HLA.out, ← HLB.out, e])
    have HN : Hid (a ≠ b) := hne
    have hne' : ¬ (n : Int) = (m : Int) := by omega
    have hne2 : ((n : Int) == (m : Int)) = false := by simpa using hne'
    clear hne hne' hA hB HLA HLB hz hc hnm
    go_enter Tryz.func9, Tryz.ntmps9
    go_wp2
    exact HE.out false _ ⟨(fun h => by cases h), fun h => absurd h HN.out⟩ (Below.refl _ _)
end Go.Proofs.YtkpkdikogoalkaaGreatDoor.sk

namespace Go.Proofs.YtkpkdikogoalkaaGreatDoor.sk
open Go Go.RowKit
set_option maxRecDepth 100000

/-- The mark behind calls. -/
def markC (i : Nat) : Cal := (900 + (i : Int), ⟨#[]⟩, ⟨#[]⟩, false, 0)
set_option maxHeartbeats 4000000 in
theorem stayC_any (aa ba : Option Addr) (n m ca cb : Nat) (a b : List Cal) (w : World) (hA : CalAt w aa n a) (hB : CalAt w ba m b) (hz : n ≤ 2513169434917)
    (hX : ∀ i (h : i < a.length), (∃ h' : i < b.length, a[i] = b[i]) ∨ (b.length ≤ i ∧ a[i] = markC i)) :
    Calls Tryz.prog 10 #[.slice aa n ca, .slice ba m cb] w fun e w' => e = .returned (.bool true) ∧ Below w.heap.size w w' := by
  have HLA : Hid (a.length = n) := hA.len
  have HLB : Hid (b.length = m) := hB.len
  have HA : Hid _ := hA
  have HB : Hid _ := hB
  have HX : Hid _ := hX
  clear hA hB hX
  go_enter Tryz.func10, Tryz.ntmps10
  go_wp2
  go_loopw [5] (fun t wr => ∃ i : Nat, t = .int .i64 i ∧ i ≤ n ∧ Hid (Below w.heap.size w wr)) (fun t _ => n - (intOf t).toNat)
  case atStart => exact ⟨0, rfl, by omega, Below.refl _ _⟩
  case round =>
    obtain ⟨i, rfl, hi, HW⟩ := hrel
    by_cases hlt : i < n
    · obtain ⟨xb, xo, rfl, hca⟩ := (HA.out.below HW.out).lies (by omega)
      have hia : i < a.length := by rw [HLA.out]; exact hlt
      have RA : Hid (wr.rangeAt xb (xo + i * 5) (calL a[i])) := hca i hia
      have hlt' : (i : Int) < (n : Int) := by omega
      rcases HX.out i hia with ⟨hib, e⟩ | ⟨hib, e⟩
      · obtain ⟨yb, yo, rfl, hcb⟩ := (HB.out.below HW.out).lies (by have := HLB.out; omega)
        have RB : Hid (wr.rangeAt yb (yo + i * 5) (calL b[i])) := hcb i hib
        rw [e] at RA
        generalize b[i] = x at *
        have him : (i : Int) < (m : Int) := by have := HLB.out; omega
        have hge : ¬ (i : Int) ≥ (m : Int) := by omega
        have NQ := neq_cal x x
        rw [show (!decide (x = x)) = false by simp] at NQ
        clear hca hcb hia hib e
        go_wp2
        refine wp_region_held (S := fun W => W.rangeAt xb (xo + i * 5) (calL x) ∧ W.rangeAt yb (yo + i * 5) (calL x)) (by kernel_rfl) ?_
        change wpAnyH _ _ _ _ _ _ _ _ (World.drew _)
        have hS : wr.drew.rangeAt xb (xo + i * 5) (calL x) ∧ wr.drew.rangeAt yb (yo + i * 5) (calL x) := ⟨RA.out, RB.out⟩
        refine takeC (i := 0) (v := .int .i64 (i : Int)) rfl (by kernel_rfl) (by kernel_rfl) (by kernel_rfl) (fun _ _ _ h => h) (Or.inl ⟨by rfl, fun W hW => by go_simp⟩) hS ?_
        simp only [Act.put, List.setIfInBounds_toArray, List.set_cons_zero, List.set_cons_succ]
        refine takeC (i := 1) (v := .slice (some ⟨yb, yo, none⟩) m cb) rfl (by kernel_rfl) (by kernel_rfl) (by kernel_rfl) (fun _ _ _ h => h) (Or.inl ⟨by rfl, fun W hW => by go_simp⟩) hS ?_
        simp only [Act.put, List.setIfInBounds_toArray, List.set_cons_zero, List.set_cons_succ]
        refine takeC (i := 2) (v := .int .i64 (m : Int)) rfl (by kernel_rfl) (by kernel_rfl) (by kernel_rfl) (fun _ _ _ h => h) (Or.inl ⟨by rfl, fun W hW => by go_simp⟩) hS ?_
        simp only [Act.put, List.setIfInBounds_toArray, List.set_cons_zero, List.set_cons_succ]
        refine takeC (i := 3) (v := .bool true) rfl (by kernel_rfl) (by kernel_rfl) (by kernel_rfl) (fun _ _ _ h => h) (Or.inl ⟨by rfl, fun W hW => by (go_simp) <;> omega⟩) hS ?_
        simp only [Act.put, List.setIfInBounds_toArray, List.set_cons_zero, List.set_cons_succ]
        refine takeC (i := 4) (v := .bool true) rfl (by kernel_rfl) (by kernel_rfl) (by kernel_rfl) (fun _ _ _ h => h) (Or.inl ⟨by rfl, fun W hW => by go_simp⟩) hS ?_
        simp only [Act.put, List.setIfInBounds_toArray, List.set_cons_zero, List.set_cons_succ]
        refine takeC (i := 5) (v := .slice (some ⟨xb, xo, none⟩) n ca) rfl (by kernel_rfl) (by kernel_rfl) (by kernel_rfl) (fun _ _ _ h => h) (Or.inl ⟨by rfl, fun W hW => by go_simp⟩) hS ?_
        simp only [Act.put, List.setIfInBounds_toArray, List.set_cons_zero, List.set_cons_succ]
        refine takeC (i := 6) (v := .int .i64 (i : Int)) rfl (by kernel_rfl) (by kernel_rfl) (by kernel_rfl) (fun _ _ _ h => h) (Or.inl ⟨by rfl, fun W hW => by go_simp⟩) hS ?_
        simp only [Act.put, List.setIfInBounds_toArray, List.set_cons_zero, List.set_cons_succ]
        refine takeC (i := 7) (v := .pointer (some ⟨xb, xo + i * 5, none⟩)) rfl (by kernel_rfl) (by kernel_rfl) (by kernel_rfl) (fun _ _ _ h => h) (Or.inl ⟨by rfl, fun W hW => by go_simp⟩) hS ?_
        simp only [Act.put, List.setIfInBounds_toArray, List.set_cons_zero, List.set_cons_succ]
        refine takeC (i := 8) (v := .agg (calL x).toArray) rfl (by kernel_rfl) (by kernel_rfl) (by kernel_rfl) (fun _ _ _ h => h) (yieldsIf_load_mid (by rfl) 32 _ rfl xb (xo + i * 5) rfl (calL x) _ (fun W hW => hW.1) Tryz.underlying32 rfl (by kernel_rfl)) hS ?_
        simp only [Act.put, List.setIfInBounds_toArray, List.set_cons_zero, List.set_cons_succ]
        refine takeC (i := 9) (v := .slice (some ⟨yb, yo, none⟩) m cb) rfl (by kernel_rfl) (by kernel_rfl) (by kernel_rfl) (fun _ _ _ h => h) (Or.inl ⟨by rfl, fun W hW => by go_simp⟩) hS ?_
        simp only [Act.put, List.setIfInBounds_toArray, List.set_cons_zero, List.set_cons_succ]
        refine takeC (i := 10) (v := .int .i64 (i : Int)) rfl (by kernel_rfl) (by kernel_rfl) (by kernel_rfl) (fun _ _ _ h => h) (Or.inl ⟨by rfl, fun W hW => by go_simp⟩) hS ?_
        simp only [Act.put, List.setIfInBounds_toArray, List.set_cons_zero, List.set_cons_succ]
        refine takeC (i := 11) (v := .pointer (some ⟨yb, yo + i * 5, none⟩)) rfl (by kernel_rfl) (by kernel_rfl) (by kernel_rfl) (fun _ _ _ h => h) (Or.inl ⟨by rfl, fun W hW => by go_simp⟩) hS ?_
        simp only [Act.put, List.setIfInBounds_toArray, List.set_cons_zero, List.set_cons_succ]
        refine takeC (i := 12) (v := .agg (calL x).toArray) rfl (by kernel_rfl) (by kernel_rfl) (by kernel_rfl) (fun _ _ _ h => h) (yieldsIf_load_mid (by rfl) 32 _ rfl yb (yo + i * 5) rfl (calL x) _ (fun W hW => hW.2) Tryz.underlying32 rfl (by kernel_rfl)) hS ?_
        simp only [Act.put, List.setIfInBounds_toArray, List.set_cons_zero, List.set_cons_succ]
        refine takeC (i := 13) (v := .bool false) rfl (by kernel_rfl) (by kernel_rfl) (by kernel_rfl) (fun _ _ _ h => h) (Or.inl ⟨by rfl, fun W hW => by go_simp⟩) hS ?_
        simp only [Act.put, List.setIfInBounds_toArray, List.set_cons_zero, List.set_cons_succ]
        refine takeC (i := 14) (v := .bool false) rfl (by kernel_rfl) (by kernel_rfl) (by kernel_rfl) (fun _ _ _ h => h) (Or.inl ⟨by rfl, fun W hW => by go_simp⟩) hS ?_
        simp only [Act.put, List.setIfInBounds_toArray, List.set_cons_zero, List.set_cons_succ]
        refine takeC (i := 15) (v := .bool false) rfl (by kernel_rfl) (by kernel_rfl) (by kernel_rfl) (fun _ _ _ h => h) (Or.inl ⟨by rfl, fun W hW => by go_simp⟩) hS ?_
        simp only [Act.put, List.setIfInBounds_toArray, List.set_cons_zero, List.set_cons_succ]
        refine takeC (i := 16) (v := .int .i64 (i : Int)) rfl (by kernel_rfl) (by kernel_rfl) (by kernel_rfl) (fun _ _ _ h => h) (Or.inl ⟨by rfl, fun W hW => by go_simp⟩) hS ?_
        simp only [Act.put, List.setIfInBounds_toArray, List.set_cons_zero, List.set_cons_succ]
        refine takeC (i := 17) (v := .slice (some ⟨yb, yo, none⟩) m cb) rfl (by kernel_rfl) (by kernel_rfl) (by kernel_rfl) (fun _ _ _ h => h) (Or.inl ⟨by rfl, fun W hW => by go_simp⟩) hS ?_
        simp only [Act.put, List.setIfInBounds_toArray, List.set_cons_zero, List.set_cons_succ]
        refine takeC (i := 18) (v := .int .i64 (m : Int)) rfl (by kernel_rfl) (by kernel_rfl) (by kernel_rfl) (fun _ _ _ h => h) (Or.inl ⟨by rfl, fun W hW => by go_simp⟩) hS ?_
        simp only [Act.put, List.setIfInBounds_toArray, List.set_cons_zero, List.set_cons_succ]
        refine takeC (i := 19) (v := .bool false) rfl (by kernel_rfl) (by kernel_rfl) (by kernel_rfl) (fun _ _ _ h => h) (Or.inl ⟨by rfl, fun W hW => by (go_simp) <;> omega⟩) hS ?_
        simp only [Act.put, List.setIfInBounds_toArray, List.set_cons_zero, List.set_cons_succ]
        refine takeC (i := 20) (v := .bool false) rfl (by kernel_rfl) (by kernel_rfl) (by kernel_rfl) (fun _ _ _ h => h) (Or.inl ⟨by rfl, fun W hW => by go_simp⟩) hS ?_
        simp only [Act.put, List.setIfInBounds_toArray, List.set_cons_zero, List.set_cons_succ]
        refine takeC (i := 21) (v := undef) rfl (by kernel_rfl) (by kernel_rfl) (by kernel_rfl) (fun _ _ _ h => h) (Or.inr ⟨by rfl, rfl⟩) hS ?_
        simp only [Act.put, List.setIfInBounds_toArray, List.set_cons_zero, List.set_cons_succ]
        refine takeC (i := 22) (v := undef) rfl (by kernel_rfl) (by kernel_rfl) (by kernel_rfl) (fun _ _ _ h => h) (Or.inr ⟨by rfl, rfl⟩) hS ?_
        simp only [Act.put, List.setIfInBounds_toArray, List.set_cons_zero, List.set_cons_succ]
        refine takeC (i := 23) (v := undef) rfl (by kernel_rfl) (by kernel_rfl) (by kernel_rfl) (fun _ _ _ h => h) (Or.inr ⟨by rfl, rfl⟩) hS ?_
        simp only [Act.put, List.setIfInBounds_toArray, List.set_cons_zero, List.set_cons_succ]
        refine takeC (i := 24) (v := undef) rfl (by kernel_rfl) (by kernel_rfl) (by kernel_rfl) (fun _ _ _ h => h) (Or.inr ⟨by rfl, rfl⟩) hS ?_
        simp only [Act.put, List.setIfInBounds_toArray, List.set_cons_zero, List.set_cons_succ]
        refine takeC (i := 25) (v := undef) rfl (by kernel_rfl) (by kernel_rfl) (by kernel_rfl) (fun _ _ _ h => h) (Or.inr ⟨by rfl, rfl⟩) hS ?_
        simp only [Act.put, List.setIfInBounds_toArray, List.set_cons_zero, List.set_cons_succ]
        refine takeC (i := 26) (v := undef) rfl (by kernel_rfl) (by kernel_rfl) (by kernel_rfl) (fun _ _ _ h => h) (Or.inr ⟨by rfl, rfl⟩) hS ?_
        simp only [Act.put, List.setIfInBounds_toArray, List.set_cons_zero, List.set_cons_succ]
        refine takeC (i := 27) (v := undef) rfl (by kernel_rfl) (by kernel_rfl) (by kernel_rfl) (fun _ _ _ h => h) (Or.inr ⟨by rfl, rfl⟩) hS ?_
        simp only [Act.put, List.setIfInBounds_toArray, List.set_cons_zero, List.set_cons_succ]
        refine takeC (i := 28) (v := undef) rfl (by kernel_rfl) (by kernel_rfl) (by kernel_rfl) (fun _ _ _ h => h) (Or.inr ⟨by rfl, rfl⟩) hS ?_
        simp only [Act.put, List.setIfInBounds_toArray, List.set_cons_zero, List.set_cons_succ]
        refine takeC (i := 29) (v := .bool false) rfl (by kernel_rfl) (by kernel_rfl) (by kernel_rfl) (fun _ _ _ h => h) (Or.inl ⟨by rfl, fun W hW => by go_simp⟩) hS ?_
        simp only [Act.put, List.setIfInBounds_toArray, List.set_cons_zero, List.set_cons_succ]
        refine takeC (i := 30) (v := .bool false) rfl (by kernel_rfl) (by kernel_rfl) (by kernel_rfl) (fun _ _ _ h => h) (Or.inl ⟨by rfl, fun W hW => by go_simp⟩) hS ?_
        simp only [Act.put, List.setIfInBounds_toArray, List.set_cons_zero, List.set_cons_succ]
        refine wpAnyH_done (by kernel_rfl) ?_ _
        go_wp2
        go_roundw
        case rel => exact ⟨i + 1, by go_num, by omega, HW.out.drew⟩
        case measure => simp [intOf]; omega
      · rw [e] at RA
        unfold markC at RA
        have him : ¬ (i : Int) < (m : Int) := by have := HLB.out; omega
        have hge : (i : Int) ≥ (m : Int) := by omega
        have NQ := neq_cal (900 + (i : Int), ⟨#[]⟩, ⟨#[]⟩, false, 0) (900 + (i : Int), ⟨#[]⟩, ⟨#[]⟩, false, 0)
        rw [show (!decide (((900 + (i : Int), ⟨#[]⟩, ⟨#[]⟩, false, 0) : Cal) = (900 + (i : Int), ⟨#[]⟩, ⟨#[]⟩, false, 0))) = false by simp] at NQ
        have hw9 : IntKind.i64.wrap (900 + (i : Int)) = 900 + (i : Int) := by rw [IntKind.wrap_i64]; omega
        clear hca hia hib e
        go_wp2
        refine wp_region_held (S := fun W => W.rangeAt xb (xo + i * 5) (calL (900 + (i : Int), ⟨#[]⟩, ⟨#[]⟩, false, 0))) (by kernel_rfl) ?_
        change wpAnyH _ _ _ _ _ _ _ _ (World.drew _)
        have hS : wr.drew.rangeAt xb (xo + i * 5) (calL (900 + (i : Int), ⟨#[]⟩, ⟨#[]⟩, false, 0)) := RA.out
        refine takeC (i := 0) (v := .int .i64 (i : Int)) rfl (by kernel_rfl) (by kernel_rfl) (by kernel_rfl) (fun _ _ _ h => h) (Or.inl ⟨by rfl, fun W hW => by go_simp⟩) hS ?_
        simp only [Act.put, List.setIfInBounds_toArray, List.set_cons_zero, List.set_cons_succ]
        refine takeC (i := 1) (v := .slice ba m cb) rfl (by kernel_rfl) (by kernel_rfl) (by kernel_rfl) (fun _ _ _ h => h) (Or.inl ⟨by rfl, fun W hW => by go_simp⟩) hS ?_
        simp only [Act.put, List.setIfInBounds_toArray, List.set_cons_zero, List.set_cons_succ]
        refine takeC (i := 2) (v := .int .i64 (m : Int)) rfl (by kernel_rfl) (by kernel_rfl) (by kernel_rfl) (fun _ _ _ h => h) (Or.inl ⟨by rfl, fun W hW => by go_simp⟩) hS ?_
        simp only [Act.put, List.setIfInBounds_toArray, List.set_cons_zero, List.set_cons_succ]
        refine takeC (i := 3) (v := .bool false) rfl (by kernel_rfl) (by kernel_rfl) (by kernel_rfl) (fun _ _ _ h => h) (Or.inl ⟨by rfl, fun W hW => by (go_simp) <;> omega⟩) hS ?_
        simp only [Act.put, List.setIfInBounds_toArray, List.set_cons_zero, List.set_cons_succ]
        refine takeC (i := 4) (v := .bool false) rfl (by kernel_rfl) (by kernel_rfl) (by kernel_rfl) (fun _ _ _ h => h) (Or.inl ⟨by rfl, fun W hW => by go_simp⟩) hS ?_
        simp only [Act.put, List.setIfInBounds_toArray, List.set_cons_zero, List.set_cons_succ]
        refine takeC (i := 5) (v := undef) rfl (by kernel_rfl) (by kernel_rfl) (by kernel_rfl) (fun _ _ _ h => h) (Or.inr ⟨by rfl, rfl⟩) hS ?_
        simp only [Act.put, List.setIfInBounds_toArray, List.set_cons_zero, List.set_cons_succ]
        refine takeC (i := 6) (v := undef) rfl (by kernel_rfl) (by kernel_rfl) (by kernel_rfl) (fun _ _ _ h => h) (Or.inr ⟨by rfl, rfl⟩) hS ?_
        simp only [Act.put, List.setIfInBounds_toArray, List.set_cons_zero, List.set_cons_succ]
        refine takeC (i := 7) (v := undef) rfl (by kernel_rfl) (by kernel_rfl) (by kernel_rfl) (fun _ _ _ h => h) (Or.inr ⟨by rfl, rfl⟩) hS ?_
        simp only [Act.put, List.setIfInBounds_toArray, List.set_cons_zero, List.set_cons_succ]
        refine takeC (i := 8) (v := undef) rfl (by kernel_rfl) (by kernel_rfl) (by kernel_rfl) (fun _ _ _ h => h) (Or.inr ⟨by rfl, rfl⟩) hS ?_
        simp only [Act.put, List.setIfInBounds_toArray, List.set_cons_zero, List.set_cons_succ]
        refine takeC (i := 9) (v := undef) rfl (by kernel_rfl) (by kernel_rfl) (by kernel_rfl) (fun _ _ _ h => h) (Or.inr ⟨by rfl, rfl⟩) hS ?_
        simp only [Act.put, List.setIfInBounds_toArray, List.set_cons_zero, List.set_cons_succ]
        refine takeC (i := 10) (v := undef) rfl (by kernel_rfl) (by kernel_rfl) (by kernel_rfl) (fun _ _ _ h => h) (Or.inr ⟨by rfl, rfl⟩) hS ?_
        simp only [Act.put, List.setIfInBounds_toArray, List.set_cons_zero, List.set_cons_succ]
        refine takeC (i := 11) (v := undef) rfl (by kernel_rfl) (by kernel_rfl) (by kernel_rfl) (fun _ _ _ h => h) (Or.inr ⟨by rfl, rfl⟩) hS ?_
        simp only [Act.put, List.setIfInBounds_toArray, List.set_cons_zero, List.set_cons_succ]
        refine takeC (i := 12) (v := undef) rfl (by kernel_rfl) (by kernel_rfl) (by kernel_rfl) (fun _ _ _ h => h) (Or.inr ⟨by rfl, rfl⟩) hS ?_
        simp only [Act.put, List.setIfInBounds_toArray, List.set_cons_zero, List.set_cons_succ]
        refine takeC (i := 13) (v := undef) rfl (by kernel_rfl) (by kernel_rfl) (by kernel_rfl) (fun _ _ _ h => h) (Or.inr ⟨by rfl, rfl⟩) hS ?_
        simp only [Act.put, List.setIfInBounds_toArray, List.set_cons_zero, List.set_cons_succ]
        refine takeC (i := 14) (v := .bool false) rfl (by kernel_rfl) (by kernel_rfl) (by kernel_rfl) (fun _ _ _ h => h) (Or.inl ⟨by rfl, fun W hW => by go_simp⟩) hS ?_
        simp only [Act.put, List.setIfInBounds_toArray, List.set_cons_zero, List.set_cons_succ]
        refine takeC (i := 15) (v := .bool false) rfl (by kernel_rfl) (by kernel_rfl) (by kernel_rfl) (fun _ _ _ h => h) (Or.inl ⟨by rfl, fun W hW => by go_simp⟩) hS ?_
        simp only [Act.put, List.setIfInBounds_toArray, List.set_cons_zero, List.set_cons_succ]
        refine takeC (i := 16) (v := .int .i64 (i : Int)) rfl (by kernel_rfl) (by kernel_rfl) (by kernel_rfl) (fun _ _ _ h => h) (Or.inl ⟨by rfl, fun W hW => by go_simp⟩) hS ?_
        simp only [Act.put, List.setIfInBounds_toArray, List.set_cons_zero, List.set_cons_succ]
        refine takeC (i := 17) (v := .slice ba m cb) rfl (by kernel_rfl) (by kernel_rfl) (by kernel_rfl) (fun _ _ _ h => h) (Or.inl ⟨by rfl, fun W hW => by go_simp⟩) hS ?_
        simp only [Act.put, List.setIfInBounds_toArray, List.set_cons_zero, List.set_cons_succ]
        refine takeC (i := 18) (v := .int .i64 (m : Int)) rfl (by kernel_rfl) (by kernel_rfl) (by kernel_rfl) (fun _ _ _ h => h) (Or.inl ⟨by rfl, fun W hW => by go_simp⟩) hS ?_
        simp only [Act.put, List.setIfInBounds_toArray, List.set_cons_zero, List.set_cons_succ]
        refine takeC (i := 19) (v := .bool true) rfl (by kernel_rfl) (by kernel_rfl) (by kernel_rfl) (fun _ _ _ h => h) (Or.inl ⟨by rfl, fun W hW => by (go_simp) <;> omega⟩) hS ?_
        simp only [Act.put, List.setIfInBounds_toArray, List.set_cons_zero, List.set_cons_succ]
        refine takeC (i := 20) (v := .bool true) rfl (by kernel_rfl) (by kernel_rfl) (by kernel_rfl) (fun _ _ _ h => h) (Or.inl ⟨by rfl, fun W hW => by go_simp⟩) hS ?_
        simp only [Act.put, List.setIfInBounds_toArray, List.set_cons_zero, List.set_cons_succ]
        refine takeC (i := 21) (v := .slice (some ⟨xb, xo, none⟩) n ca) rfl (by kernel_rfl) (by kernel_rfl) (by kernel_rfl) (fun _ _ _ h => h) (Or.inl ⟨by rfl, fun W hW => by go_simp⟩) hS ?_
        simp only [Act.put, List.setIfInBounds_toArray, List.set_cons_zero, List.set_cons_succ]
        refine takeC (i := 22) (v := .int .i64 (i : Int)) rfl (by kernel_rfl) (by kernel_rfl) (by kernel_rfl) (fun _ _ _ h => h) (Or.inl ⟨by rfl, fun W hW => by go_simp⟩) hS ?_
        simp only [Act.put, List.setIfInBounds_toArray, List.set_cons_zero, List.set_cons_succ]
        refine takeC (i := 23) (v := .pointer (some ⟨xb, xo + i * 5, none⟩)) rfl (by kernel_rfl) (by kernel_rfl) (by kernel_rfl) (fun _ _ _ h => h) (Or.inl ⟨by rfl, fun W hW => by go_simp⟩) hS ?_
        simp only [Act.put, List.setIfInBounds_toArray, List.set_cons_zero, List.set_cons_succ]
        refine takeC (i := 24) (v := .agg (calL (900 + (i : Int), ⟨#[]⟩, ⟨#[]⟩, false, 0)).toArray) rfl (by kernel_rfl) (by kernel_rfl) (by kernel_rfl) (fun _ _ _ h => h) (yieldsIf_load_mid (by rfl) 32 _ rfl xb (xo + i * 5) rfl (calL (900 + (i : Int), ⟨#[]⟩, ⟨#[]⟩, false, 0)) _ (fun W hW => hW) Tryz.underlying32 rfl (by kernel_rfl)) hS ?_
        simp only [Act.put, List.setIfInBounds_toArray, List.set_cons_zero, List.set_cons_succ]
        refine takeC (i := 25) (v := .int .i64 (i : Int)) rfl (by kernel_rfl) (by kernel_rfl) (by kernel_rfl) (fun _ _ _ h => h) (Or.inl ⟨by rfl, fun W hW => by go_simp⟩) hS ?_
        simp only [Act.put, List.setIfInBounds_toArray, List.set_cons_zero, List.set_cons_succ]
        refine takeC (i := 26) (v := .int .i64 (900 + (i : Int) : Int)) rfl (by kernel_rfl) (by kernel_rfl) (by kernel_rfl) (fun _ _ _ h => h) (Or.inl ⟨by rfl, fun W hW => by go_simp⟩) hS ?_
        simp only [Act.put, List.setIfInBounds_toArray, List.set_cons_zero, List.set_cons_succ]
        refine takeC (i := 27) (v := .agg (calL (900 + (i : Int), ⟨#[]⟩, ⟨#[]⟩, false, 0)).toArray) rfl (by kernel_rfl) (by kernel_rfl) (by kernel_rfl) (fun _ _ _ h => h) (Or.inl ⟨by rfl, fun W hW => by go_simp; first | rfl | simp⟩) hS ?_
        simp only [Act.put, List.setIfInBounds_toArray, List.set_cons_zero, List.set_cons_succ]
        refine takeC (i := 28) (v := .bool false) rfl (by kernel_rfl) (by kernel_rfl) (by kernel_rfl) (fun _ _ _ h => h) (Or.inl ⟨by rfl, fun W hW => by go_simp⟩) hS ?_
        simp only [Act.put, List.setIfInBounds_toArray, List.set_cons_zero, List.set_cons_succ]
        refine takeC (i := 29) (v := .bool false) rfl (by kernel_rfl) (by kernel_rfl) (by kernel_rfl) (fun _ _ _ h => h) (Or.inl ⟨by rfl, fun W hW => by go_simp⟩) hS ?_
        simp only [Act.put, List.setIfInBounds_toArray, List.set_cons_zero, List.set_cons_succ]
        refine takeC (i := 30) (v := .bool false) rfl (by kernel_rfl) (by kernel_rfl) (by kernel_rfl) (fun _ _ _ h => h) (Or.inl ⟨by rfl, fun W hW => by go_simp⟩) hS ?_
        simp only [Act.put, List.setIfInBounds_toArray, List.set_cons_zero, List.set_cons_succ]
        refine wpAnyH_done (by kernel_rfl) ?_ _
        go_wp2
        go_roundw
        case rel => exact ⟨i + 1, by go_num, by omega, HW.out.drew⟩
        case measure => simp [intOf]; omega
    · go_wp2
      go_ret
      exact ⟨rfl, HW.out⟩
end Go.Proofs.YtkpkdikogoalkaaGreatDoor.sk

namespace Go.Proofs.YtkpkdikogoalkaaGreatDoor.sk
open Go Go.RowKit
set_option maxRecDepth 100000

theorem RowC.ofBlk {base : Nat} {w : World} {g : Nat} {L : List Cal} (h : Blk w g (L.flatMap calL).toArray 32) (hb : base ≤ g) : RowC base w (some ⟨g, 0, none⟩) L.length L := by
  refine ⟨⟨rfl, fun _ => ⟨g, 0, rfl, fun i hi j v hv => ?_⟩, fun a ha => by injection ha with ha; subst ha; exact h.lt⟩, fun a ha => by injection ha with ha; subst ha; exact ⟨rfl, hb⟩, fun _ => ⟨g, rfl, ?_⟩⟩
  · have hj : j < 5 := by
      rcases Nat.lt_or_ge j 5 with h1 | h1
      · exact h1
      · rw [List.getElem?_eq_none (by rw [calL_len]; omega)] at hv; simp at hv
    rw [Nat.zero_add]
    refine h.cell _ ?_
    rw [List.getElem?_toArray, calF_get L i hi j hj]
    exact hv
  · exact Blk.there h 0 (L.length * 5) (by rw [calF_len]; omega)
theorem CalAt.cells {w : World} {ad : Option Addr} {n : Nat} {l : List Cal} (h : CalAt w ad n l) : ∀ x, ad = some x → ∀ j v, (l.flatMap calL)[j]? = some v → w.cell? (x.add j) = some v := by
  intro x hx j v hj
  have hjl : j < l.length * 5 := by
    rw [← calF_len]
    exact (List.getElem?_eq_some_iff.mp hj).1
  obtain ⟨b, off, e, hc⟩ := h.lies (by have := h.len; omega)
  rw [hx] at e
  injection e with e
  subst e
  rw [Addr.add_lit]
  have e : j = j / 5 * 5 + j % 5 := by omega
  have h1 := calF_get l (j / 5) (by omega) (j % 5) (by omega)
  rw [← e, hj] at h1
  have h2 := hc (j / 5) (by omega) (j % 5) v h1.symm
  rw [Nat.add_assoc, ← e] at h2
  exact h2
def zC : Cal := (0, ⟨#[]⟩, ⟨#[]⟩, false, 0)
theorem made_cal (n : Nat) : (madeCells (#[.int .i64 0, .string ⟨#[]⟩, .string ⟨#[]⟩, .bool false, .int .u64 0] : Array Value) (n * 5)).toList = (List.replicate n zC).flatMap calL := by
  refine List.ext_getElem? fun j => ?_
  rcases Nat.lt_or_ge j (n * 5) with hj | hj
  · have e : j = j / 5 * 5 + j % 5 := by omega
    have h1 := calF_get (List.replicate n zC) (j / 5) (by simp; omega) (j % 5) (by omega)
    rw [← e] at h1
    rw [h1, List.getElem_replicate]
    have h5 : j % 5 < 5 := by omega
    simp [madeCells, hj]
    generalize j % 5 = r at *
    match r, h5 with
    | 0, _ => rfl
    | 1, _ => rfl
    | 2, _ => rfl
    | 3, _ => rfl
    | 4, _ => rfl
  · rw [List.getElem?_eq_none (by simp [size_madeCells]; omega), List.getElem?_eq_none (by rw [calF_len]; simp; omega)]
/-- Calls with marks behind them. -/
def LentP (a : List Cal) (w : World) (e : Ending) (w' : World) : Prop := ∃ g L, e = .returned (.slice (some ⟨g, 0, none⟩) (a.length + 4) (a.length + 4)) ∧ Hid (RowC w.heap.size w' (some ⟨g, 0, none⟩) (a.length + 4) L) ∧ Hid (∀ i (h : i < L.length), (∃ h' : i < a.length, L[i] = a[i]) ∨ (a.length ≤ i ∧ L[i] = markC i)) ∧ Below w.heap.size w w'
set_option maxHeartbeats 4000000 in
theorem lentC_any (ad : Option Addr) (n c : Nat) (a : List Cal) (w : World) (hA : CalAt w ad n a) (hnil : ad = none → n = 0 ∧ c = 0) (hz : n * 56 ≤ 140737488351232) :
    Calls Tryz.prog 6 #[.slice ad n c] w (LentP a w) := by
  have HA : Hid _ := hA
  have HL : Hid (a.length = n) := hA.len
  have HN : Hid _ := hnil
  have HE : Hid (∀ g L w', RowC w.heap.size w' (some ⟨g, 0, none⟩) (n + 4) L → (∀ i (h : i < L.length), (∃ h' : i < a.length, L[i] = a[i]) ∨ (a.length ≤ i ∧ L[i] = markC i)) → Below w.heap.size w w' → LentP a w (.returned (.slice (some ⟨g, 0, none⟩) (n + 4) (n + 4))) w') := fun g L w' h1 h2 h3 => ⟨g, L, by rw [HL.out], by rw [HL.out]; exact h1, h2, h3⟩
  have hsz : (Tryz.prog.info? 32).map (·.size) = some 5 := by kernel_rfl
  generalize LentP a w = R at *
  have hw4 : IntKind.i64.wrap ((n : Int) + 4) = ((n + 4 : Nat) : Int) := by rw [IntKind.wrap_i64]; omega
  clear hA hnil
  go_enter Tryz.func6, Tryz.ntmps6
  go_wp2_with (first
    | (refine wpList_mk rfl _ _ 22 rfl 32 _ 5 56 Tryz.underlying22 Tryz.info32 (n + 4) rfl rfl (by omega) (by unfold maxLen; omega) ?_; intro w1 n1 b1; have HN1 : Hid (Blk w1 w.heap.size (madeCells (#[.int .i64 0, .string ⟨#[]⟩, .string ⟨#[]⟩, .bool false, .int .u64 0] : Array Value) ((n + 4) * 5)) 32) := n1; have HB1 : Hid (Below w.heap.size w w1) := b1; clear n1 b1)
    | (refine wpList_copyX rfl (.tmp 9) (.tmp 10) 22 22 rfl 32 Tryz.underlying22 5 hsz w.heap.size (n + 4) (n + 4) ad n c rfl rfl HN.out _ 32 HN1.out (a.flatMap calL) (by rw [calF_len, HL.out]) (by omega) (CalAt.cells (HA.out.below HB1.out)) (by rw [size_madeCells, calF_len, HL.out]; omega) (calF_one a) ?_; intro w2 n2 u2; have HN2 : Hid _ := n2; have HU2 : Hid _ := u2; clear n2 u2))
  have HR2 : Hid (RowC w.heap.size w2 (some ⟨w.heap.size, 0, none⟩) (n + 4) (a ++ List.replicate 4 zC)) := by
    have h := HN2.out
    have e : (a.flatMap calL ++ (madeCells (#[.int .i64 0, .string ⟨#[]⟩, .string ⟨#[]⟩, .bool false, .int .u64 0] : Array Value) ((n + 4) * 5)).toList.drop (a.flatMap calL).length) = (a ++ List.replicate 4 zC).flatMap calL := by
      rw [made_cal, show List.replicate (n + 4) zC = List.replicate n zC ++ List.replicate 4 zC from (List.replicate_append_replicate).symm, List.flatMap_append, List.flatMap_append, List.drop_append_of_le_length (by rw [calF_len, calF_len, HL.out]; simp), List.drop_eq_nil_of_le (by rw [calF_len, calF_len, HL.out]; simp), List.nil_append]
    rw [e] at h
    have hr := RowC.ofBlk (base := w.heap.size) h (Nat.le_refl _)
    rw [show (a ++ List.replicate 4 zC).length = n + 4 by rw [List.length_append, HL.out]; simp] at hr
    exact hr
  have HB2 : Hid (Below w.heap.size w w2) := HB1.out.trans (HU2.out.below HB1.out.size (fun k hk e => by omega))
  clear HN1 HN2 HU2 HB1 HN HA hsz
  go_loopw [4] (fun t wr => ∃ (i : Nat) (L : List Cal), t = .int .i64 i ∧ n ≤ i ∧ i ≤ n + 4 ∧ Hid (RowC w.heap.size wr (some ⟨w.heap.size, 0, none⟩) (n + 4) L) ∧ Hid (∀ j (h : j < L.length), j < i → (∃ h' : j < a.length, L[j] = a[j]) ∨ (a.length ≤ j ∧ L[j] = markC j)) ∧ Hid (Below w.heap.size w wr)) (fun t _ => n + 4 - (intOf t).toNat)
  case atStart =>
    refine ⟨n, _, rfl, Nat.le_refl _, by omega, HR2, fun j h hj => Or.inl ⟨by rw [HL.out]; exact hj, ?_⟩, HB2⟩
    rw [List.getElem_append_left]
  case round =>
    obtain ⟨i, L, rfl, hi1, hi2, HR, HI, HW⟩ := hrel
    have HLL : Hid (L.length = n + 4) := HR.out.at_.len
    by_cases hlt : i < n + 4
    · have hiL : i < L.length := by rw [HLL.out]; exact hlt
      have hlt' : (i : Int) < ((n + 4 : Nat) : Int) := by omega
      have hw9 : IntKind.i64.wrap (900 + (i : Int)) = 900 + (i : Int) := by rw [IntKind.wrap_i64]; omega
      go_wp2_with (refine wpList_stC rfl _ _ rfl w.heap.size w.heap.size i (n + 4) L (900 + (i : Int), ⟨#[]⟩, ⟨#[]⟩, false, 0) HR.out hiL rfl rfl ?_; intro w5 r5 u5; have HR5 : Hid (RowC w.heap.size w5 (some ⟨w.heap.size, 0, none⟩) (n + 4) (L.set i (markC i))) := r5; have HU5 : Hid (Upd (fun k => k = w.heap.size) wr w5) := u5; clear r5 u5)
      (try simp only [Act.put])
      go_roundw
      case rel =>
        refine ⟨i + 1, _, by go_num, by omega, by omega, HR5, fun j h hj => ?_, HW.out.trans (HU5.out.below HW.out.size (fun k hk e => by omega))⟩
        rw [List.length_set] at h
        by_cases hji : j = i
        · subst hji
          exact Or.inr ⟨by rw [HL.out]; exact hi1, by rw [List.getElem_set_self]⟩
        · have hp := HI.out j h (by omega)
          rw [List.getElem_set_ne (fun e => hji e.symm)]
          exact hp
      case measure => simp [intOf]; omega
    · obtain rfl : i = n + 4 := by omega
      go_wp2
      exact HE.out _ L _ HR.out (fun j h => HI.out j h (by rw [← HLL.out]; exact h)) HW.out
end Go.Proofs.YtkpkdikogoalkaaGreatDoor.sk
