/-
  Merged: SaF, SaG.
-/
import Derived.Test.YtfgmjgoegdiieaaDoorSaDq
namespace Go.Proofs.YtfgmjgoegdiieaaDoor
open Go Go.RowKit
set_option maxRecDepth 100000

/-- A span of the example, as it is handed on. -/
abbrev exA (id s e : Int) : Value := .agg #[.int .u64 0, .int .u64 1, .int .u64 id, .int .u64 0, .slice none 0 0, .string ⟨#[98]⟩, .string ⟨#[111]⟩, .int .i64 0, .int .i64 2, .int .i64 s, .int .i64 e, .slice none 0 0, .slice none 0 0]
theorem exCells {w : World} {b : Nat} (hK : Blk w b exRow 52) (i : Nat) (v : Value) (hv : exRow[i]? = some v) : w.cell? ⟨b, i, none⟩ = some v := hK.cell i hv
theorem failed_any (id s e : Int) (w : World) :
    Calls Tryd.prog 34 #[exA id s e] w fun e w' => e = .returned (.bool true) ∧ Below w.heap.size w w' := by
  have BB : Hid (∀ o, Below w.heap.size w (w.alloc o)) := fun o => (Below.refl _ _).alloc (Nat.le_refl _) _
  go_enter Tryd.func34, Tryd.ntmps34
  go_wp2
  go_ret
  exact ⟨rfl, BB.out _⟩
abbrev nameA : Array Value := #[.int .i64 3, .int .u64 0, .string ⟨#[97]⟩, .int .i64 0]
theorem named1_any (id s e : Int) (w : World) (q : Nat) (hq : Blk w q nameA 32) :
    Calls Tryd.prog 36 #[exA id s e, .pointer (some ⟨q, 0, none⟩)] w fun e w' => e = .returned (.bool false) ∧ Below w.heap.size w w' := by
  have BB : Hid (∀ o, Below w.heap.size w (w.alloc o)) := fun o => (Below.refl _ _).alloc (Nat.le_refl _) _
  have c2 : ∀ o, (w.alloc o).cell? ⟨q, 2, none⟩ = some (.string ⟨#[97]⟩) := fun o => (hq.alloc o).cell 2 rfl
  clear hq
  go_enter Tryd.func36, Tryd.ntmps36
  go_wp2
  go_ret
  exact ⟨rfl, BB.out _⟩
theorem idxFailed_any (b : Nat) (w : World) (hK : Blk w b exRow 52) :
    Calls Tryd.prog 50 #[.slice (some ⟨b, 0, none⟩) 2 2, .func (.func 34) #[] #[]] w fun e w' => e = .returned (.int .i64 0) ∧ Below w.heap.size w w' := by
  have d0 : w.cell? ⟨b, 0, none⟩ = some (.int .u64 0) := hK.cell 0 rfl
  have d1 : w.cell? ⟨b, 1, none⟩ = some (.int .u64 1) := hK.cell 1 rfl
  have d2 : w.cell? ⟨b, 2, none⟩ = some (.int .u64 1) := hK.cell 2 rfl
  have d3 : w.cell? ⟨b, 3, none⟩ = some (.int .u64 0) := hK.cell 3 rfl
  have d4 : w.cell? ⟨b, 4, none⟩ = some (.slice none 0 0) := hK.cell 4 rfl
  have d5 : w.cell? ⟨b, 5, none⟩ = some (.string ⟨#[98]⟩) := hK.cell 5 rfl
  have d6 : w.cell? ⟨b, 6, none⟩ = some (.string ⟨#[111]⟩) := hK.cell 6 rfl
  have d7 : w.cell? ⟨b, 7, none⟩ = some (.int .i64 0) := hK.cell 7 rfl
  have d8 : w.cell? ⟨b, 8, none⟩ = some (.int .i64 2) := hK.cell 8 rfl
  have d9 : w.cell? ⟨b, 9, none⟩ = some (.int .i64 3) := hK.cell 9 rfl
  have d10 : w.cell? ⟨b, 10, none⟩ = some (.int .i64 4) := hK.cell 10 rfl
  have d11 : w.cell? ⟨b, 11, none⟩ = some (.slice none 0 0) := hK.cell 11 rfl
  have d12 : w.cell? ⟨b, 12, none⟩ = some (.slice none 0 0) := hK.cell 12 rfl
  have FA := failed_any 1 3 4 w
  clear hK
  go_enter Tryd.func50, Tryd.ntmps50
  go_wp2
  go_loopw [8] (fun z wr => z = .int .i64 0 ∧ wr = w) (fun _ _ => 0)
  case atStart => exact ⟨rfl, rfl⟩
  case round =>
    obtain ⟨rfl, rfl⟩ := hrel
    go_wp2_with (go_at_call 34; refine FA.mono ?_; clear FA; rintro e w1 ⟨rfl, hb1⟩)
    go_ret
    exact ⟨rfl, hb1⟩
theorem idxNamed_any (b q : Nat) (w : World) (hK : Blk w b exRow 52) (hq : Blk w q nameA 32) :
    Calls Tryd.prog 50 #[.slice (some ⟨b, 0, none⟩) 2 2, .func (.func 36) #[] #[.pointer (some ⟨q, 0, none⟩)]] w fun e w' => e = .returned (.int .i64 (-1)) ∧ Below w.heap.size w w' := by
  have HK : Hid (Blk w b exRow 52 ∧ Blk w q nameA 32) := ⟨hK, hq⟩
  clear hK hq
  go_enter Tryd.func50, Tryd.ntmps50
  go_wp2
  go_loopw [8] (fun z wr => (z = .int .i64 0 ∧ Below w.heap.size w wr) ∨ (z = .int .i64 1 ∧ Below w.heap.size w wr) ∨ (z = .int .i64 2 ∧ Below w.heap.size w wr)) (fun z _ => 2 - (intOf z).toNat)
  case atStart => exact Or.inl ⟨rfl, Below.refl _ _⟩
  case round =>
    rcases hrel with ⟨rfl, hb⟩ | ⟨rfl, hb⟩ | ⟨rfl, hb⟩
    · have HB : Hid (Below w.heap.size w wr) := hb
      have hKr := HK.out.1.below hb HK.out.1.lt
      have FA := named1_any 1 3 4 wr q (HK.out.2.below hb HK.out.2.lt)
      have d0 : wr.cell? ⟨b, 0, none⟩ = some (.int .u64 0) := hKr.cell 0 rfl
      have d1 : wr.cell? ⟨b, 1, none⟩ = some (.int .u64 1) := hKr.cell 1 rfl
      have d2 : wr.cell? ⟨b, 2, none⟩ = some (.int .u64 1) := hKr.cell 2 rfl
      have d3 : wr.cell? ⟨b, 3, none⟩ = some (.int .u64 0) := hKr.cell 3 rfl
      have d4 : wr.cell? ⟨b, 4, none⟩ = some (.slice none 0 0) := hKr.cell 4 rfl
      have d5 : wr.cell? ⟨b, 5, none⟩ = some (.string ⟨#[98]⟩) := hKr.cell 5 rfl
      have d6 : wr.cell? ⟨b, 6, none⟩ = some (.string ⟨#[111]⟩) := hKr.cell 6 rfl
      have d7 : wr.cell? ⟨b, 7, none⟩ = some (.int .i64 0) := hKr.cell 7 rfl
      have d8 : wr.cell? ⟨b, 8, none⟩ = some (.int .i64 2) := hKr.cell 8 rfl
      have d9 : wr.cell? ⟨b, 9, none⟩ = some (.int .i64 3) := hKr.cell 9 rfl
      have d10 : wr.cell? ⟨b, 10, none⟩ = some (.int .i64 4) := hKr.cell 10 rfl
      have d11 : wr.cell? ⟨b, 11, none⟩ = some (.slice none 0 0) := hKr.cell 11 rfl
      have d12 : wr.cell? ⟨b, 12, none⟩ = some (.slice none 0 0) := hKr.cell 12 rfl
      clear hKr hb
      go_wp2_with (go_at_call 36; refine FA.mono ?_; clear FA; rintro e w1 ⟨rfl, hb1⟩; have H1 : Below w.heap.size w w1 := HB.out.trans (hb1.mono HB.out.size))
      go_roundw
      case rel => exact Or.inr (Or.inl ⟨rfl, H1⟩)
      case measure => decide
    · have HB : Hid (Below w.heap.size w wr) := hb
      have hKr := HK.out.1.below hb HK.out.1.lt
      have FA := named1_any 2 7 8 wr q (HK.out.2.below hb HK.out.2.lt)
      have d0 : wr.cell? ⟨b, 13, none⟩ = some (.int .u64 0) := hKr.cell 13 rfl
      have d1 : wr.cell? ⟨b, 14, none⟩ = some (.int .u64 1) := hKr.cell 14 rfl
      have d2 : wr.cell? ⟨b, 15, none⟩ = some (.int .u64 2) := hKr.cell 15 rfl
      have d3 : wr.cell? ⟨b, 16, none⟩ = some (.int .u64 0) := hKr.cell 16 rfl
      have d4 : wr.cell? ⟨b, 17, none⟩ = some (.slice none 0 0) := hKr.cell 17 rfl
      have d5 : wr.cell? ⟨b, 18, none⟩ = some (.string ⟨#[98]⟩) := hKr.cell 18 rfl
      have d6 : wr.cell? ⟨b, 19, none⟩ = some (.string ⟨#[111]⟩) := hKr.cell 19 rfl
      have d7 : wr.cell? ⟨b, 20, none⟩ = some (.int .i64 0) := hKr.cell 20 rfl
      have d8 : wr.cell? ⟨b, 21, none⟩ = some (.int .i64 2) := hKr.cell 21 rfl
      have d9 : wr.cell? ⟨b, 22, none⟩ = some (.int .i64 7) := hKr.cell 22 rfl
      have d10 : wr.cell? ⟨b, 23, none⟩ = some (.int .i64 8) := hKr.cell 23 rfl
      have d11 : wr.cell? ⟨b, 24, none⟩ = some (.slice none 0 0) := hKr.cell 24 rfl
      have d12 : wr.cell? ⟨b, 25, none⟩ = some (.slice none 0 0) := hKr.cell 25 rfl
      clear hKr hb
      go_wp2_with (go_at_call 36; refine FA.mono ?_; clear FA; rintro e w1 ⟨rfl, hb1⟩; have H1 : Below w.heap.size w w1 := HB.out.trans (hb1.mono HB.out.size))
      go_roundw
      case rel => exact Or.inr (Or.inr ⟨rfl, H1⟩)
      case measure => decide
    · have HB : Hid (Below w.heap.size w wr) := hb
      clear hb
      go_wp2
      go_ret
      exact ⟨rfl, HB.out⟩
set_option maxHeartbeats 4000000 in
theorem took_any (b : Nat) (w : World) (hK : Blk w b exRow 52) :
    Calls Tryd.prog 35 #[.slice (some ⟨b, 0, none⟩) 2 2] w fun e w' => e = .returned (.int .u64 5) ∧ Below w.heap.size w w' := by
  have HK : Hid (Blk w b exRow 52) := hK
  clear hK
  go_enter Tryd.func35, Tryd.ntmps35
  go_wp2
  go_loopw [3, 4, 9] (fun z3 z4 z wr => (z = .int .i64 0 ∧ z3 = .int .i64 9223372036854775807 ∧ z4 = .int .i64 0 ∧ Below w.heap.size w wr) ∨ (z = .int .i64 1 ∧ z3 = .int .i64 3 ∧ z4 = .int .i64 4 ∧ Below w.heap.size w wr) ∨ (z = .int .i64 2 ∧ z3 = .int .i64 3 ∧ z4 = .int .i64 8 ∧ Below w.heap.size w wr)) (fun _ _ z _ => 2 - (intOf z).toNat)
  case atStart => exact Or.inl ⟨rfl, rfl, rfl, Below.refl _ _⟩
  case round =>
    rcases hrel with ⟨rfl, rfl, rfl, hb⟩ | ⟨rfl, rfl, rfl, hb⟩ | ⟨rfl, rfl, rfl, hb⟩
    · have HB : Hid (Below w.heap.size w wr) := hb
      have hKr := HK.out.below hb HK.out.lt
      have d0 : wr.cell? ⟨b, 0, none⟩ = some (.int .u64 0) := hKr.cell 0 rfl
      have d1 : wr.cell? ⟨b, 1, none⟩ = some (.int .u64 1) := hKr.cell 1 rfl
      have d2 : wr.cell? ⟨b, 2, none⟩ = some (.int .u64 1) := hKr.cell 2 rfl
      have d3 : wr.cell? ⟨b, 3, none⟩ = some (.int .u64 0) := hKr.cell 3 rfl
      have d4 : wr.cell? ⟨b, 4, none⟩ = some (.slice none 0 0) := hKr.cell 4 rfl
      have d5 : wr.cell? ⟨b, 5, none⟩ = some (.string ⟨#[98]⟩) := hKr.cell 5 rfl
      have d6 : wr.cell? ⟨b, 6, none⟩ = some (.string ⟨#[111]⟩) := hKr.cell 6 rfl
      have d7 : wr.cell? ⟨b, 7, none⟩ = some (.int .i64 0) := hKr.cell 7 rfl
      have d8 : wr.cell? ⟨b, 8, none⟩ = some (.int .i64 2) := hKr.cell 8 rfl
      have d9 : wr.cell? ⟨b, 9, none⟩ = some (.int .i64 3) := hKr.cell 9 rfl
      have d10 : wr.cell? ⟨b, 10, none⟩ = some (.int .i64 4) := hKr.cell 10 rfl
      have d11 : wr.cell? ⟨b, 11, none⟩ = some (.slice none 0 0) := hKr.cell 11 rfl
      have d12 : wr.cell? ⟨b, 12, none⟩ = some (.slice none 0 0) := hKr.cell 12 rfl
      clear hKr hb
      go_upto_region 5 with fail
      obtain ⟨w7, hw7⟩ : ∃ w7, wr.alloc (.cells #[.int .u64 0, .int .u64 1, .int .u64 1, .int .u64 0, .slice none 0 0, .string ⟨#[98]⟩, .string ⟨#[111]⟩, .int .i64 0, .int .i64 2, .int .i64 3, .int .i64 4, .slice none 0 0, .slice none 0 0] 52) = w7 := ⟨_, rfl⟩
      have KB : w7.drew.cell? ⟨wr.heap.size, 9, none⟩ = some (.int .i64 3) ∧ w7.drew.cell? ⟨wr.heap.size, 10, none⟩ = some (.int .i64 4) := by
        subst hw7
        have k1 : Blk (wr.alloc (.cells #[.int .u64 0, .int .u64 1, .int .u64 1, .int .u64 0, .slice none 0 0, .string ⟨#[98]⟩, .string ⟨#[111]⟩, .int .i64 0, .int .i64 2, .int .i64 3, .int .i64 4, .slice none 0 0, .slice none 0 0] 52)) wr.heap.size #[.int .u64 0, .int .u64 1, .int .u64 1, .int .u64 0, .slice none 0 0, .string ⟨#[98]⟩, .string ⟨#[111]⟩, .int .i64 0, .int .i64 2, .int .i64 3, .int .i64 4, .slice none 0 0, .slice none 0 0] 52 := Blk.new wr _ _
        exact ⟨k1.cell 9 rfl, k1.cell 10 rfl⟩
      have H7 : Hid (Below w.heap.size w w7.drew) := by
        subst hw7
        exact (HB.out.alloc HB.out.size _).drew
      rw [hw7]
      clear hw7 d0 d1 d2 d3 d4 d5 d6 d7 d8 d9 d10 d11 d12
      go_region_held3 (fun W => W.cell? ⟨wr.heap.size, 9, none⟩ = some (.int .i64 3) ∧ W.cell? ⟨wr.heap.size, 10, none⟩ = some (.int .i64 4)) (first | exact KB | fail) (first | fail | fail)
      all_goals go_wp2
      all_goals exact ⟨Or.inr (Or.inl ⟨rfl, congrArg _ (by decide), congrArg _ (by decide), H7.out⟩), by decide⟩
    · have HB : Hid (Below w.heap.size w wr) := hb
      have hKr := HK.out.below hb HK.out.lt
      have d0 : wr.cell? ⟨b, 13, none⟩ = some (.int .u64 0) := hKr.cell 13 rfl
      have d1 : wr.cell? ⟨b, 14, none⟩ = some (.int .u64 1) := hKr.cell 14 rfl
      have d2 : wr.cell? ⟨b, 15, none⟩ = some (.int .u64 2) := hKr.cell 15 rfl
      have d3 : wr.cell? ⟨b, 16, none⟩ = some (.int .u64 0) := hKr.cell 16 rfl
      have d4 : wr.cell? ⟨b, 17, none⟩ = some (.slice none 0 0) := hKr.cell 17 rfl
      have d5 : wr.cell? ⟨b, 18, none⟩ = some (.string ⟨#[98]⟩) := hKr.cell 18 rfl
      have d6 : wr.cell? ⟨b, 19, none⟩ = some (.string ⟨#[111]⟩) := hKr.cell 19 rfl
      have d7 : wr.cell? ⟨b, 20, none⟩ = some (.int .i64 0) := hKr.cell 20 rfl
      have d8 : wr.cell? ⟨b, 21, none⟩ = some (.int .i64 2) := hKr.cell 21 rfl
      have d9 : wr.cell? ⟨b, 22, none⟩ = some (.int .i64 7) := hKr.cell 22 rfl
      have d10 : wr.cell? ⟨b, 23, none⟩ = some (.int .i64 8) := hKr.cell 23 rfl
      have d11 : wr.cell? ⟨b, 24, none⟩ = some (.slice none 0 0) := hKr.cell 24 rfl
      have d12 : wr.cell? ⟨b, 25, none⟩ = some (.slice none 0 0) := hKr.cell 25 rfl
      clear hKr hb
      go_upto_region 5 with fail
      obtain ⟨w7, hw7⟩ : ∃ w7, wr.alloc (.cells #[.int .u64 0, .int .u64 1, .int .u64 2, .int .u64 0, .slice none 0 0, .string ⟨#[98]⟩, .string ⟨#[111]⟩, .int .i64 0, .int .i64 2, .int .i64 7, .int .i64 8, .slice none 0 0, .slice none 0 0] 52) = w7 := ⟨_, rfl⟩
      have KB : w7.drew.cell? ⟨wr.heap.size, 9, none⟩ = some (.int .i64 7) ∧ w7.drew.cell? ⟨wr.heap.size, 10, none⟩ = some (.int .i64 8) := by
        subst hw7
        have k1 : Blk (wr.alloc (.cells #[.int .u64 0, .int .u64 1, .int .u64 2, .int .u64 0, .slice none 0 0, .string ⟨#[98]⟩, .string ⟨#[111]⟩, .int .i64 0, .int .i64 2, .int .i64 7, .int .i64 8, .slice none 0 0, .slice none 0 0] 52)) wr.heap.size #[.int .u64 0, .int .u64 1, .int .u64 2, .int .u64 0, .slice none 0 0, .string ⟨#[98]⟩, .string ⟨#[111]⟩, .int .i64 0, .int .i64 2, .int .i64 7, .int .i64 8, .slice none 0 0, .slice none 0 0] 52 := Blk.new wr _ _
        exact ⟨k1.cell 9 rfl, k1.cell 10 rfl⟩
      have H7 : Hid (Below w.heap.size w w7.drew) := by
        subst hw7
        exact (HB.out.alloc HB.out.size _).drew
      rw [hw7]
      clear hw7 d0 d1 d2 d3 d4 d5 d6 d7 d8 d9 d10 d11 d12
      go_region_held3 (fun W => W.cell? ⟨wr.heap.size, 9, none⟩ = some (.int .i64 7) ∧ W.cell? ⟨wr.heap.size, 10, none⟩ = some (.int .i64 8)) (first | exact KB | fail) (first | fail | fail)
      all_goals go_wp2
      all_goals exact ⟨Or.inr (Or.inr ⟨rfl, congrArg _ (by decide), congrArg _ (by decide), H7.out⟩), by decide⟩
    · have HB : Hid (Below w.heap.size w wr) := hb
      clear hb
      go_wp2
      go_ret
      exact ⟨rfl, HB.out⟩
end Go.Proofs.YtfgmjgoegdiieaaDoor

namespace Go.Proofs.YtfgmjgoegdiieaaDoor
open Go Go.RowKit
set_option maxRecDepth 100000

abbrev failA : Array Value := #[.int .i64 1, .int .u64 0, .string ⟨#[]⟩, .int .i64 0]
abbrev slowA : Array Value := #[.int .i64 2, .int .u64 6, .string ⟨#[]⟩, .int .i64 0]
theorem hasFailed_any (b : Nat) (w : World) (hK : Blk w b exRow 52) :
    Calls Tryd.prog 33 #[.slice (some ⟨b, 0, none⟩) 2 2, .func (.func 34) #[] #[]] w fun e w' => e = .returned (.bool true) ∧ Below w.heap.size w w' := by
  have FX := idxFailed_any b w hK
  clear hK
  go_enter Tryd.func33, Tryd.ntmps33
  go_wp2_with (go_at_call 50; refine FX.mono ?_; clear FX; rintro e w1 ⟨rfl, hb1⟩)
  go_ret
  exact ⟨rfl, hb1⟩
theorem hasNamed_any (b q : Nat) (w : World) (hK : Blk w b exRow 52) (hq : Blk w q nameA 32) :
    Calls Tryd.prog 33 #[.slice (some ⟨b, 0, none⟩) 2 2, .func (.func 36) #[] #[.pointer (some ⟨q, 0, none⟩)]] w fun e w' => e = .returned (.bool false) ∧ Below w.heap.size w w' := by
  have FX := idxNamed_any b q w hK hq
  clear hK hq
  go_enter Tryd.func33, Tryd.ntmps33
  go_wp2_with (go_at_call 50; refine FX.mono ?_; clear FX; rintro e w1 ⟨rfl, hb1⟩)
  go_ret
  exact ⟨rfl, hb1⟩
theorem holdsFailed_any (b : Nat) (w : World) (hK : Blk w b exRow 52) :
    Calls Tryd.prog 21 #[.agg failA, .slice (some ⟨b, 0, none⟩) 2 2] w fun e w' => e = .returned (.bool true) ∧ Below w.heap.size w w' := by
  have BB : Hid (∀ o, Below w.heap.size w (w.alloc o)) := fun o => (Below.refl _ _).alloc (Nat.le_refl _) _
  have FX : Hid (∀ o, Calls Tryd.prog 33 #[.slice (some ⟨b, 0, none⟩) 2 2, .func (.func 34) #[] #[]] (w.alloc o) fun e w' => e = .returned (.bool true) ∧ Below (w.alloc o).heap.size (w.alloc o) w') := fun o => hasFailed_any b _ (hK.alloc o)
  clear hK
  go_enter Tryd.func21, Tryd.ntmps21
  go_wp2_with (go_at_call 33; refine (FX.out _).mono ?_; clear FX; rintro e w1 ⟨rfl, hb1⟩)
  go_ret
  exact ⟨rfl, (BB.out _).trans (hb1.mono (BB.out _).size)⟩
theorem holdsNamed_any (b : Nat) (w : World) (hK : Blk w b exRow 52) :
    Calls Tryd.prog 21 #[.agg nameA, .slice (some ⟨b, 0, none⟩) 2 2] w fun e w' => e = .returned (.bool false) ∧ Below w.heap.size w w' := by
  have BB : Hid (∀ o, Below w.heap.size w (w.alloc o)) := fun o => (Below.refl _ _).alloc (Nat.le_refl _) _
  have FX := hasNamed_any b w.heap.size (w.alloc (.cells nameA 32)) (hK.alloc _) (Blk.new _ _ _)
  clear hK
  go_enter Tryd.func21, Tryd.ntmps21
  go_wp2_with (go_at_call 33; refine FX.mono ?_; clear FX; rintro e w1 ⟨rfl, hb1⟩)
  go_ret
  exact ⟨rfl, (BB.out _).trans (hb1.mono (BB.out _).size)⟩
theorem holdsSlow_any (b : Nat) (w : World) (hK : Blk w b exRow 52) :
    Calls Tryd.prog 21 #[.agg slowA, .slice (some ⟨b, 0, none⟩) 2 2] w fun e w' => e = .returned (.bool false) ∧ Below w.heap.size w w' := by
  have TD : ∀ w7, w.alloc (.cells slowA 32) = w7 → Calls Tryd.prog 35 #[.slice (some ⟨b, 0, none⟩) 2 2] w7.drew fun e w' => e = .returned (.int .u64 5) ∧ Below w7.drew.heap.size w7.drew w' := fun w7 h => by subst h; exact took_any b _ (show Blk _ b exRow 52 from hK.alloc _)
  have KP : ∀ W, Below (w.alloc (.cells slowA 32)).heap.size (w.alloc (.cells slowA 32)) W → W.cell? ⟨w.heap.size, 1, none⟩ = some (.int .u64 6) := fun W hW => ((Blk.new w slowA 32).below hW (by rw [World.size_alloc]; omega)).cell 1 rfl
  clear hK
  go_enter Tryd.func21, Tryd.ntmps21
  go_upto_region 5 with fail
  obtain ⟨w7, hw7⟩ : ∃ w7, w.alloc (.cells slowA 32) = w7 := ⟨_, rfl⟩
  have H7 : Hid (Below w.heap.size w w7) := by rw [← hw7]; exact (Below.refl _ _).alloc (Nat.le_refl _) _
  rw [hw7] at KP ⊢
  have TK : Calls Tryd.prog 35 #[.slice (some ⟨b, 0, none⟩) 2 2] w7.drew fun e w' => e = .returned (.int .u64 5) ∧ Below w7.drew.heap.size w7.drew w' := TD w7 hw7
  have B0 : Below w7.heap.size w7 w7.drew := (Below.refl _ _).drew
  clear hw7 TD
  go_region_held3 (fun W => W.cell? ⟨w.heap.size, 1, none⟩ = some (.int .u64 6)) (first | exact KP _ B0 | exact KP _ B1) (first
    | (go_at_call 35; refine TK.mono ?_; clear TK; rintro e w1 ⟨rfl, hb1⟩; have B1 : Below w7.heap.size w7 w1 := B0.trans (hb1.mono B0.size))
    | fail)
  go_wp2
  go_ret
  exact ⟨rfl, H7.out.trans (B1.mono H7.out.size)⟩
end Go.Proofs.YtfgmjgoegdiieaaDoor
