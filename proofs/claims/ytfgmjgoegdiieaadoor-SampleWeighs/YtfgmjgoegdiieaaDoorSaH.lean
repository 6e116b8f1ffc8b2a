/-
  SaH.
-/
import Derived.Test.YtfgmjgoegdiieaaDoorSaFq
import Derived.Laws.ResultCell
namespace Go.Proofs.YtfgmjgoegdiieaaDoor
open Go Go.RowKit
set_option maxRecDepth 100000

abbrev exP1 : Array Value := #[.int .i64 3, .int .u64 0, .string ⟨#[97]⟩, .int .i64 0, .int .i64 1, .int .u64 0, .string ⟨#[]⟩, .int .i64 0]
theorem byFailed_any (b q : Nat) (w : World) (hK : Blk w b exRow 52) (hq : Blk w q #[.slice (some ⟨b, 0, none⟩) 2 2] 23) :
    Calls Tryd.prog 20 #[.agg failA, .pointer (some ⟨q, 0, none⟩)] w fun e w' => e = .returned (.bool true) ∧ Below w.heap.size w w' := by
  have BB : Hid (∀ o, Below w.heap.size w (w.alloc o)) := fun o => (Below.refl _ _).alloc (Nat.le_refl _) _
  have FX : Hid (∀ o, Calls Tryd.prog 21 #[.agg failA, .slice (some ⟨b, 0, none⟩) 2 2] (w.alloc o) fun e w' => e = .returned (.bool true) ∧ Below (w.alloc o).heap.size (w.alloc o) w') := fun o => holdsFailed_any b _ (hK.alloc o)
  have cq : ∀ o, (w.alloc o).cell? ⟨q, 0, none⟩ = some (.slice (some ⟨b, 0, none⟩) 2 2) := fun o => (hq.alloc o).cell 0 rfl
  clear hK hq
  go_enter Tryd.func20, Tryd.ntmps20
  go_wp2_with (go_at_call 21; refine (FX.out _).mono ?_; clear FX; rintro e w1 ⟨rfl, hb1⟩)
  go_ret
  exact ⟨rfl, (BB.out _).trans (hb1.mono (BB.out _).size)⟩
theorem byNamed_any (b q : Nat) (w : World) (hK : Blk w b exRow 52) (hq : Blk w q #[.slice (some ⟨b, 0, none⟩) 2 2] 23) :
    Calls Tryd.prog 20 #[.agg nameA, .pointer (some ⟨q, 0, none⟩)] w fun e w' => e = .returned (.bool false) ∧ Below w.heap.size w w' := by
  have BB : Hid (∀ o, Below w.heap.size w (w.alloc o)) := fun o => (Below.refl _ _).alloc (Nat.le_refl _) _
  have FX : Hid (∀ o, Calls Tryd.prog 21 #[.agg nameA, .slice (some ⟨b, 0, none⟩) 2 2] (w.alloc o) fun e w' => e = .returned (.bool false) ∧ Below (w.alloc o).heap.size (w.alloc o) w') := fun o => holdsNamed_any b _ (hK.alloc o)
  have cq : ∀ o, (w.alloc o).cell? ⟨q, 0, none⟩ = some (.slice (some ⟨b, 0, none⟩) 2 2) := fun o => (hq.alloc o).cell 0 rfl
  clear hK hq
  go_enter Tryd.func20, Tryd.ntmps20
  go_wp2_with (go_at_call 21; refine (FX.out _).mono ?_; clear FX; rintro e w1 ⟨rfl, hb1⟩)
  go_ret
  exact ⟨rfl, (BB.out _).trans (hb1.mono (BB.out _).size)⟩
theorem bySlow_any (b q : Nat) (w : World) (hK : Blk w b exRow 52) (hq : Blk w q #[.slice (some ⟨b, 0, none⟩) 2 2] 23) :
    Calls Tryd.prog 20 #[.agg slowA, .pointer (some ⟨q, 0, none⟩)] w fun e w' => e = .returned (.bool false) ∧ Below w.heap.size w w' := by
  have BB : Hid (∀ o, Below w.heap.size w (w.alloc o)) := fun o => (Below.refl _ _).alloc (Nat.le_refl _) _
  have FX : Hid (∀ o, Calls Tryd.prog 21 #[.agg slowA, .slice (some ⟨b, 0, none⟩) 2 2] (w.alloc o) fun e w' => e = .returned (.bool false) ∧ Below (w.alloc o).heap.size (w.alloc o) w') := fun o => holdsSlow_any b _ (hK.alloc o)
  have cq : ∀ o, (w.alloc o).cell? ⟨q, 0, none⟩ = some (.slice (some ⟨b, 0, none⟩) 2 2) := fun o => (hq.alloc o).cell 0 rfl
  clear hK hq
  go_enter Tryd.func20, Tryd.ntmps20
  go_wp2_with (go_at_call 21; refine (FX.out _).mono ?_; clear FX; rintro e w1 ⟨rfl, hb1⟩)
  go_ret
  exact ⟨rfl, (BB.out _).trans (hb1.mono (BB.out _).size)⟩
abbrev exP2 : Array Value := #[.int .i64 2, .int .u64 6, .string ⟨#[]⟩, .int .i64 0]
theorem weight1_any (lp b : Nat) (w : World) (hP : Blk w lp exP1 32) (hK : Blk w b exRow 52) :
    Calls Tryd.prog 22 #[.slice (some ⟨lp, 0, none⟩) 2 2, .slice (some ⟨b, 0, none⟩) 2 2] w fun e w' => e = .returned (.int .u64 65536) ∧ Below w.heap.size w w' := by
  have HK : Hid (Blk w lp exP1 32 ∧ Blk w b exRow 52) := ⟨hP, hK⟩
  clear hP hK
  go_enter Tryd.func22, Tryd.ntmps22
  go_wp2
  go_loopw [10] (fun z wr => (z = .int .i64 0 ∧ Below w.heap.size w wr) ∨ (z = .int .i64 1 ∧ Below w.heap.size w wr)) (fun z _ => 2 - (intOf z).toNat)
  case atStart => exact Or.inl ⟨rfl, Below.refl _ _⟩
  case round =>
    rcases hrel with ⟨rfl, hb⟩ | ⟨rfl, hb⟩
    · have HB : Hid (∀ o, Below w.heap.size w (wr.alloc o)) := fun o => hb.alloc hb.size o
      have hKr := HK.out.1.below hb HK.out.1.lt
      have FA : Hid (∀ o, Calls Tryd.prog 21 #[.agg nameA, .slice (some ⟨b, 0, none⟩) 2 2] (wr.alloc o) fun e w' => e = .returned (.bool false) ∧ Below (wr.alloc o).heap.size (wr.alloc o) w') := fun o => holdsNamed_any b _ ((HK.out.2.below hb HK.out.2.lt).alloc o)
      have d0 : wr.cell? ⟨lp, 0, none⟩ = some (.int .i64 3) := hKr.cell 0 rfl
      have d1 : wr.cell? ⟨lp, 1, none⟩ = some (.int .u64 0) := hKr.cell 1 rfl
      have d2 : wr.cell? ⟨lp, 2, none⟩ = some (.string ⟨#[97]⟩) := hKr.cell 2 rfl
      have d3 : wr.cell? ⟨lp, 3, none⟩ = some (.int .i64 0) := hKr.cell 3 rfl
      clear hKr hb
      go_wp2_with (go_at_call 21; refine (FA.out _).mono ?_; clear FA; rintro e w1 ⟨rfl, hb1⟩; have H1 : Below w.heap.size w w1 := (HB.out _).trans (hb1.mono (HB.out _).size))
      go_roundw
      case rel => exact Or.inr ⟨rfl, H1⟩
      case measure => decide
    · have HB : Hid (∀ o, Below w.heap.size w (wr.alloc o)) := fun o => hb.alloc hb.size o
      have hKr := HK.out.1.below hb HK.out.1.lt
      have FA : Hid (∀ o, Calls Tryd.prog 21 #[.agg failA, .slice (some ⟨b, 0, none⟩) 2 2] (wr.alloc o) fun e w' => e = .returned (.bool true) ∧ Below (wr.alloc o).heap.size (wr.alloc o) w') := fun o => holdsFailed_any b _ ((HK.out.2.below hb HK.out.2.lt).alloc o)
      have d0 : wr.cell? ⟨lp, 4, none⟩ = some (.int .i64 1) := hKr.cell 4 rfl
      have d1 : wr.cell? ⟨lp, 5, none⟩ = some (.int .u64 0) := hKr.cell 5 rfl
      have d2 : wr.cell? ⟨lp, 6, none⟩ = some (.string ⟨#[]⟩) := hKr.cell 6 rfl
      have d3 : wr.cell? ⟨lp, 7, none⟩ = some (.int .i64 0) := hKr.cell 7 rfl
      clear hKr hb
      go_wp2_with (go_at_call 21; refine (FA.out _).mono ?_; clear FA; rintro e w1 ⟨rfl, hb1⟩; have H1 : Below w.heap.size w w1 := (HB.out _).trans (hb1.mono (HB.out _).size))
      go_ret
      exact ⟨rfl, H1⟩
theorem first1_any (lp b q : Nat) (w : World) (hP : Blk w lp exP1 32) (hK : Blk w b exRow 52) (hq : Blk w q #[.slice (some ⟨b, 0, none⟩) 2 2] 23) :
    Calls Tryd.prog 19 #[.slice (some ⟨lp, 0, none⟩) 2 2, .func (.func 20) #[] #[.pointer (some ⟨q, 0, none⟩)]] w fun e w' => e = .returned (.int .i64 1) ∧ Below w.heap.size w w' := by
  have HK : Hid (Blk w lp exP1 32 ∧ Blk w b exRow 52 ∧ Blk w q #[.slice (some ⟨b, 0, none⟩) 2 2] 23) := ⟨hP, hK, hq⟩
  clear hP hK hq
  go_enter Tryd.func19, Tryd.ntmps19
  go_wp2
  go_loopw [8] (fun z wr => (z = .int .i64 0 ∧ Below w.heap.size w wr) ∨ (z = .int .i64 1 ∧ Below w.heap.size w wr)) (fun z _ => 2 - (intOf z).toNat)
  case atStart => exact Or.inl ⟨rfl, Below.refl _ _⟩
  case round =>
    rcases hrel with ⟨rfl, hb⟩ | ⟨rfl, hb⟩
    · have HB : Hid (Below w.heap.size w wr) := hb
      have hKr := HK.out.1.below hb HK.out.1.lt
      have FA := byNamed_any b q wr (HK.out.2.1.below hb HK.out.2.1.lt) (HK.out.2.2.below hb HK.out.2.2.lt)
      have d0 : wr.cell? ⟨lp, 0, none⟩ = some (.int .i64 3) := hKr.cell 0 rfl
      have d1 : wr.cell? ⟨lp, 1, none⟩ = some (.int .u64 0) := hKr.cell 1 rfl
      have d2 : wr.cell? ⟨lp, 2, none⟩ = some (.string ⟨#[97]⟩) := hKr.cell 2 rfl
      have d3 : wr.cell? ⟨lp, 3, none⟩ = some (.int .i64 0) := hKr.cell 3 rfl
      clear hKr hb
      go_wp2_with (go_at_call 20; refine FA.mono ?_; clear FA; rintro e w1 ⟨rfl, hb1⟩; have H1 : Below w.heap.size w w1 := HB.out.trans (hb1.mono HB.out.size))
      go_roundw
      case rel => exact Or.inr ⟨rfl, H1⟩
      case measure => decide
    · have HB : Hid (Below w.heap.size w wr) := hb
      have hKr := HK.out.1.below hb HK.out.1.lt
      have FA := byFailed_any b q wr (HK.out.2.1.below hb HK.out.2.1.lt) (HK.out.2.2.below hb HK.out.2.2.lt)
      have d0 : wr.cell? ⟨lp, 4, none⟩ = some (.int .i64 1) := hKr.cell 4 rfl
      have d1 : wr.cell? ⟨lp, 5, none⟩ = some (.int .u64 0) := hKr.cell 5 rfl
      have d2 : wr.cell? ⟨lp, 6, none⟩ = some (.string ⟨#[]⟩) := hKr.cell 6 rfl
      have d3 : wr.cell? ⟨lp, 7, none⟩ = some (.int .i64 0) := hKr.cell 7 rfl
      clear hKr hb
      go_wp2_with (go_at_call 20; refine FA.mono ?_; clear FA; rintro e w1 ⟨rfl, hb1⟩; have H1 : Below w.heap.size w w1 := HB.out.trans (hb1.mono HB.out.size))
      go_ret
      exact ⟨rfl, H1⟩
theorem first2_any (lp b q : Nat) (w : World) (hP : Blk w lp exP2 32) (hK : Blk w b exRow 52) (hq : Blk w q #[.slice (some ⟨b, 0, none⟩) 2 2] 23) :
    Calls Tryd.prog 19 #[.slice (some ⟨lp, 0, none⟩) 1 1, .func (.func 20) #[] #[.pointer (some ⟨q, 0, none⟩)]] w fun e w' => e = .returned (.int .i64 (-1)) ∧ Below w.heap.size w w' := by
  have HK : Hid (Blk w lp exP2 32 ∧ Blk w b exRow 52 ∧ Blk w q #[.slice (some ⟨b, 0, none⟩) 2 2] 23) := ⟨hP, hK, hq⟩
  clear hP hK hq
  go_enter Tryd.func19, Tryd.ntmps19
  go_wp2
  go_loopw [8] (fun z wr => (z = .int .i64 0 ∧ Below w.heap.size w wr) ∨ (z = .int .i64 1 ∧ Below w.heap.size w wr)) (fun z _ => 2 - (intOf z).toNat)
  case atStart => exact Or.inl ⟨rfl, Below.refl _ _⟩
  case round =>
    rcases hrel with ⟨rfl, hb⟩ | ⟨rfl, hb⟩
    · have HB : Hid (Below w.heap.size w wr) := hb
      have hKr := HK.out.1.below hb HK.out.1.lt
      have FA := bySlow_any b q wr (HK.out.2.1.below hb HK.out.2.1.lt) (HK.out.2.2.below hb HK.out.2.2.lt)
      have d0 : wr.cell? ⟨lp, 0, none⟩ = some (.int .i64 2) := hKr.cell 0 rfl
      have d1 : wr.cell? ⟨lp, 1, none⟩ = some (.int .u64 6) := hKr.cell 1 rfl
      have d2 : wr.cell? ⟨lp, 2, none⟩ = some (.string ⟨#[]⟩) := hKr.cell 2 rfl
      have d3 : wr.cell? ⟨lp, 3, none⟩ = some (.int .i64 0) := hKr.cell 3 rfl
      clear hKr hb
      go_wp2_with (go_at_call 20; refine FA.mono ?_; clear FA; rintro e w1 ⟨rfl, hb1⟩; have H1 : Below w.heap.size w w1 := HB.out.trans (hb1.mono HB.out.size))
      go_roundw
      case rel => exact Or.inr ⟨rfl, H1⟩
      case measure => decide
    · have HB : Hid (Below w.heap.size w wr) := hb
      clear hb
      go_wp2
      go_ret
      exact ⟨rfl, HB.out⟩
theorem polAt1 {w : World} {lp : Nat} (h : Blk w lp exP1 32) : PolAt w (some ⟨lp, 0, none⟩) 2 [⟨3, 0, ⟨#[97]⟩, 0⟩, ⟨1, 0, ⟨#[]⟩, 0⟩] :=
  ⟨rfl, fun _ => ⟨lp, 0, rfl, h.lt, fun i hi j v hv => by
    match i, hi, j, hv with
    | 0, _, 0, hv => exact (h.cell 0 rfl).trans hv
    | 0, _, 1, hv => exact (h.cell 1 rfl).trans hv
    | 0, _, 2, hv => exact (h.cell 2 rfl).trans hv
    | 0, _, 3, hv => exact (h.cell 3 rfl).trans hv
    | 1, _, 0, hv => exact (h.cell 4 rfl).trans hv
    | 1, _, 1, hv => exact (h.cell 5 rfl).trans hv
    | 1, _, 2, hv => exact (h.cell 6 rfl).trans hv
    | 1, _, 3, hv => exact (h.cell 7 rfl).trans hv
    | 0, _, j + 4, hv => simp [polC] at hv
    | 1, _, j + 4, hv => simp [polC] at hv
    | i + 2, hi, _, _ => simp at hi; omega⟩⟩
theorem polAt2 {w : World} {lp : Nat} {k n q : Int} {s : ByteArray} (h : Blk w lp #[.int .i64 k, .int .u64 n, .string s, .int .i64 q] 32) : PolAt w (some ⟨lp, 0, none⟩) 1 [⟨k, n, s, q⟩] :=
  ⟨rfl, fun _ => ⟨lp, 0, rfl, h.lt, fun i hi j v hv => by
    match i, hi, j, hv with
    | 0, _, 0, hv => exact (h.cell 0 rfl).trans hv
    | 0, _, 1, hv => exact (h.cell 1 rfl).trans hv
    | 0, _, 2, hv => exact (h.cell 2 rfl).trans hv
    | 0, _, 3, hv => exact (h.cell 3 rfl).trans hv
    | 0, _, j + 4, hv => simp [polC] at hv
    | i + 1, hi, _, _ => simp at hi⟩⟩
end Go.Proofs.YtfgmjgoegdiieaaDoor
