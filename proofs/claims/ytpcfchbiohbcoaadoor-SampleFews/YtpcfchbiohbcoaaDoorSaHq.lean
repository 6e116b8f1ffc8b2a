/-
  Merged: SaH, SaI.
-/
import Derived.Test.YtpcfchbiohbcoaaDoorSaFq
import Derived.Laws.ResultCell
namespace Go.Proofs.YtpcfchbiohbcoaaDoor
open Go Go.RowKit
set_option maxRecDepth 100000

abbrev exP1 : Array Value := #[.int .i64 3, .int .u64 0, .string ⟨#[97]⟩, .int .i64 0, .int .i64 1, .int .u64 0, .string ⟨#[]⟩, .int .i64 0]
theorem byFailed_any (b q : Nat) (w : World) (hK : Blk w b exRow 58) (hq : Blk w q #[.slice (some ⟨b, 0, none⟩) 2 2] 60) :
    Calls Tryd.prog 27 #[.agg failA, .pointer (some ⟨q, 0, none⟩)] w fun e w' => e = .returned (.bool true) ∧ Below w.heap.size w w' := by
  have BB : Hid (∀ o, Below w.heap.size w (w.alloc o)) := fun o => (Below.refl _ _).alloc (Nat.le_refl _) _
  have FX : Hid (∀ o, Calls Tryd.prog 28 #[.agg failA, .slice (some ⟨b, 0, none⟩) 2 2] (w.alloc o) fun e w' => e = .returned (.bool true) ∧ Below (w.alloc o).heap.size (w.alloc o) w') := fun o => holdsFailed_any b _ (hK.alloc o)
  have cq : ∀ o, (w.alloc o).cell? ⟨q, 0, none⟩ = some (.slice (some ⟨b, 0, none⟩) 2 2) := fun o => (hq.alloc o).cell 0 rfl
  clear hK hq
  go_enter Tryd.func27, Tryd.ntmps27
  go_wp2_with (go_at_call 28; refine (FX.out _).mono ?_; clear FX; rintro e w1 ⟨rfl, hb1⟩)
  go_ret
  exact ⟨rfl, (BB.out _).trans (hb1.mono (BB.out _).size)⟩
theorem byNamed_any (b q : Nat) (w : World) (hK : Blk w b exRow 58) (hq : Blk w q #[.slice (some ⟨b, 0, none⟩) 2 2] 60) :
    Calls Tryd.prog 27 #[.agg nameA, .pointer (some ⟨q, 0, none⟩)] w fun e w' => e = .returned (.bool false) ∧ Below w.heap.size w w' := by
  have BB : Hid (∀ o, Below w.heap.size w (w.alloc o)) := fun o => (Below.refl _ _).alloc (Nat.le_refl _) _
  have FX : Hid (∀ o, Calls Tryd.prog 28 #[.agg nameA, .slice (some ⟨b, 0, none⟩) 2 2] (w.alloc o) fun e w' => e = .returned (.bool false) ∧ Below (w.alloc o).heap.size (w.alloc o) w') := fun o => holdsNamed_any b _ (hK.alloc o)
  have cq : ∀ o, (w.alloc o).cell? ⟨q, 0, none⟩ = some (.slice (some ⟨b, 0, none⟩) 2 2) := fun o => (hq.alloc o).cell 0 rfl
  clear hK hq
  go_enter Tryd.func27, Tryd.ntmps27
  go_wp2_with (go_at_call 28; refine (FX.out _).mono ?_; clear FX; rintro e w1 ⟨rfl, hb1⟩)
  go_ret
  exact ⟨rfl, (BB.out _).trans (hb1.mono (BB.out _).size)⟩
theorem bySlow_any (b q : Nat) (w : World) (hK : Blk w b exRow 58) (hq : Blk w q #[.slice (some ⟨b, 0, none⟩) 2 2] 60) :
    Calls Tryd.prog 27 #[.agg slowA, .pointer (some ⟨q, 0, none⟩)] w fun e w' => e = .returned (.bool false) ∧ Below w.heap.size w w' := by
  have BB : Hid (∀ o, Below w.heap.size w (w.alloc o)) := fun o => (Below.refl _ _).alloc (Nat.le_refl _) _
  have FX : Hid (∀ o, Calls Tryd.prog 28 #[.agg slowA, .slice (some ⟨b, 0, none⟩) 2 2] (w.alloc o) fun e w' => e = .returned (.bool false) ∧ Below (w.alloc o).heap.size (w.alloc o) w') := fun o => holdsSlow_any b _ (hK.alloc o)
  have cq : ∀ o, (w.alloc o).cell? ⟨q, 0, none⟩ = some (.slice (some ⟨b, 0, none⟩) 2 2) := fun o => (hq.alloc o).cell 0 rfl
  clear hK hq
  go_enter Tryd.func27, Tryd.ntmps27
  go_wp2_with (go_at_call 28; refine (FX.out _).mono ?_; clear FX; rintro e w1 ⟨rfl, hb1⟩)
  go_ret
  exact ⟨rfl, (BB.out _).trans (hb1.mono (BB.out _).size)⟩
abbrev exP2 : Array Value := #[.int .i64 2, .int .u64 6, .string ⟨#[]⟩, .int .i64 0]
theorem weight1_any (lp b : Nat) (w : World) (hP : Blk w lp exP1 44) (hK : Blk w b exRow 58) :
    Calls Tryd.prog 29 #[.slice (some ⟨lp, 0, none⟩) 2 2, .slice (some ⟨b, 0, none⟩) 2 2] w fun e w' => e = .returned (.int .u64 65536) ∧ Below w.heap.size w w' := by
  have HK : Hid (Blk w lp exP1 44 ∧ Blk w b exRow 58) := ⟨hP, hK⟩
  clear hP hK
  go_enter Tryd.func29, Tryd.ntmps29
  go_wp2
  go_loopw [10] (fun z wr => (z = .int .i64 0 ∧ Below w.heap.size w wr) ∨ (z = .int .i64 1 ∧ Below w.heap.size w wr)) (fun z _ => 2 - (intOf z).toNat)
  case atStart => exact Or.inl ⟨rfl, Below.refl _ _⟩
  case round =>
    rcases hrel with ⟨rfl, hb⟩ | ⟨rfl, hb⟩
    · have HB : Hid (∀ o, Below w.heap.size w (wr.alloc o)) := fun o => hb.alloc hb.size o
      have hKr := HK.out.1.below hb HK.out.1.lt
      have FA : Hid (∀ o, Calls Tryd.prog 28 #[.agg nameA, .slice (some ⟨b, 0, none⟩) 2 2] (wr.alloc o) fun e w' => e = .returned (.bool false) ∧ Below (wr.alloc o).heap.size (wr.alloc o) w') := fun o => holdsNamed_any b _ ((HK.out.2.below hb HK.out.2.lt).alloc o)
      have d0 : wr.cell? ⟨lp, 0, none⟩ = some (.int .i64 3) := hKr.cell 0 rfl
      have d1 : wr.cell? ⟨lp, 1, none⟩ = some (.int .u64 0) := hKr.cell 1 rfl
      have d2 : wr.cell? ⟨lp, 2, none⟩ = some (.string ⟨#[97]⟩) := hKr.cell 2 rfl
      have d3 : wr.cell? ⟨lp, 3, none⟩ = some (.int .i64 0) := hKr.cell 3 rfl
      clear hKr hb
      go_wp2_with (go_at_call 28; refine (FA.out _).mono ?_; clear FA; rintro e w1 ⟨rfl, hb1⟩; have H1 : Below w.heap.size w w1 := (HB.out _).trans (hb1.mono (HB.out _).size))
      go_roundw
      case rel => exact Or.inr ⟨rfl, H1⟩
      case measure => decide
    · have HB : Hid (∀ o, Below w.heap.size w (wr.alloc o)) := fun o => hb.alloc hb.size o
      have hKr := HK.out.1.below hb HK.out.1.lt
      have FA : Hid (∀ o, Calls Tryd.prog 28 #[.agg failA, .slice (some ⟨b, 0, none⟩) 2 2] (wr.alloc o) fun e w' => e = .returned (.bool true) ∧ Below (wr.alloc o).heap.size (wr.alloc o) w') := fun o => holdsFailed_any b _ ((HK.out.2.below hb HK.out.2.lt).alloc o)
      have d0 : wr.cell? ⟨lp, 4, none⟩ = some (.int .i64 1) := hKr.cell 4 rfl
      have d1 : wr.cell? ⟨lp, 5, none⟩ = some (.int .u64 0) := hKr.cell 5 rfl
      have d2 : wr.cell? ⟨lp, 6, none⟩ = some (.string ⟨#[]⟩) := hKr.cell 6 rfl
      have d3 : wr.cell? ⟨lp, 7, none⟩ = some (.int .i64 0) := hKr.cell 7 rfl
      clear hKr hb
      go_wp2_with (go_at_call 28; refine (FA.out _).mono ?_; clear FA; rintro e w1 ⟨rfl, hb1⟩; have H1 : Below w.heap.size w w1 := (HB.out _).trans (hb1.mono (HB.out _).size))
      go_ret
      exact ⟨rfl, H1⟩
theorem first1_any (lp b q : Nat) (w : World) (hP : Blk w lp exP1 44) (hK : Blk w b exRow 58) (hq : Blk w q #[.slice (some ⟨b, 0, none⟩) 2 2] 60) :
    Calls Tryd.prog 26 #[.slice (some ⟨lp, 0, none⟩) 2 2, .func (.func 27) #[] #[.pointer (some ⟨q, 0, none⟩)]] w fun e w' => e = .returned (.int .i64 1) ∧ Below w.heap.size w w' := by
  have HK : Hid (Blk w lp exP1 44 ∧ Blk w b exRow 58 ∧ Blk w q #[.slice (some ⟨b, 0, none⟩) 2 2] 60) := ⟨hP, hK, hq⟩
  clear hP hK hq
  go_enter Tryd.func26, Tryd.ntmps26
  go_wp2
  go_loopw [8] (fun z wr => (z = .int .i64 0 ∧ Below w.heap.size w wr) ∨ (z = .int .i64 1 ∧ Below w.heap.size w wr)) (fun z _ => 2 - (intOf z).toNat)
  case atStart => exact Or.inl ⟨rfl, Below.refl _ _⟩
  case round =>
    rcases hrel with ⟨rfl, hb⟩ | ⟨rfl, hb⟩
    · have HB : Hid (Below w.heap.size w wr) := hb
      have hKr := HK.out.1.below hb HK.out.1.lt
      have FA := byNamed_any b q wr (HK.out.2.1.below hb HK.out.2.1.lt) (HK.out.2.2.below hb HK.out.2.2.lt)
      have d0 : wr.cell? ⟨lp, 0, none⟩ = some (.int .i64 3) := hKr.cell 0 rfl
      have d1 : wr.cell? ⟨lp, 1, none⟩ = some (.int .u64 0) := hKr.cell 1 rfl
      have d2 : wr.cell? ⟨lp, 2, none⟩ = some (.string ⟨#[97]⟩) := hKr.cell 2 rfl
      have d3 : wr.cell? ⟨lp, 3, none⟩ = some (.int .i64 0) := hKr.cell 3 rfl
      clear hKr hb
      go_wp2_with (go_at_call 27; refine FA.mono ?_; clear FA; rintro e w1 ⟨rfl, hb1⟩; have H1 : Below w.heap.size w w1 := HB.out.trans (hb1.mono HB.out.size))
      go_roundw
      case rel => exact Or.inr ⟨rfl, H1⟩
      case measure => decide
    · have HB : Hid (Below w.heap.size w wr) := hb
      have hKr := HK.out.1.below hb HK.out.1.lt
      have FA := byFailed_any b q wr (HK.out.2.1.below hb HK.out.2.1.lt) (HK.out.2.2.below hb HK.out.2.2.lt)
      have d0 : wr.cell? ⟨lp, 4, none⟩ = some (.int .i64 1) := hKr.cell 4 rfl
      have d1 : wr.cell? ⟨lp, 5, none⟩ = some (.int .u64 0) := hKr.cell 5 rfl
      have d2 : wr.cell? ⟨lp, 6, none⟩ = some (.string ⟨#[]⟩) := hKr.cell 6 rfl
      have d3 : wr.cell? ⟨lp, 7, none⟩ = some (.int .i64 0) := hKr.cell 7 rfl
      clear hKr hb
      go_wp2_with (go_at_call 27; refine FA.mono ?_; clear FA; rintro e w1 ⟨rfl, hb1⟩; have H1 : Below w.heap.size w w1 := HB.out.trans (hb1.mono HB.out.size))
      go_ret
      exact ⟨rfl, H1⟩
theorem first2_any (lp b q : Nat) (w : World) (hP : Blk w lp exP2 44) (hK : Blk w b exRow 58) (hq : Blk w q #[.slice (some ⟨b, 0, none⟩) 2 2] 60) :
    Calls Tryd.prog 26 #[.slice (some ⟨lp, 0, none⟩) 1 1, .func (.func 27) #[] #[.pointer (some ⟨q, 0, none⟩)]] w fun e w' => e = .returned (.int .i64 (-1)) ∧ Below w.heap.size w w' := by
  have HK : Hid (Blk w lp exP2 44 ∧ Blk w b exRow 58 ∧ Blk w q #[.slice (some ⟨b, 0, none⟩) 2 2] 60) := ⟨hP, hK, hq⟩
  clear hP hK hq
  go_enter Tryd.func26, Tryd.ntmps26
  go_wp2
  go_loopw [8] (fun z wr => (z = .int .i64 0 ∧ Below w.heap.size w wr) ∨ (z = .int .i64 1 ∧ Below w.heap.size w wr)) (fun z _ => 2 - (intOf z).toNat)
  case atStart => exact Or.inl ⟨rfl, Below.refl _ _⟩
  case round =>
    rcases hrel with ⟨rfl, hb⟩ | ⟨rfl, hb⟩
    · have HB : Hid (Below w.heap.size w wr) := hb
      have hKr := HK.out.1.below hb HK.out.1.lt
      have FA := bySlow_any b q wr (HK.out.2.1.below hb HK.out.2.1.lt) (HK.out.2.2.below hb HK.out.2.2.lt)
      have d0 : wr.cell? ⟨lp, 0, none⟩ = some (.int .i64 2) := hKr.cell 0 rfl
      have d1 : wr.cell? ⟨lp, 1, none⟩ = some (.int .u64 6) := hKr.cell 1 rfl
      have d2 : wr.cell? ⟨lp, 2, none⟩ = some (.string ⟨#[]⟩) := hKr.cell 2 rfl
      have d3 : wr.cell? ⟨lp, 3, none⟩ = some (.int .i64 0) := hKr.cell 3 rfl
      clear hKr hb
      go_wp2_with (go_at_call 27; refine FA.mono ?_; clear FA; rintro e w1 ⟨rfl, hb1⟩; have H1 : Below w.heap.size w w1 := HB.out.trans (hb1.mono HB.out.size))
      go_roundw
      case rel => exact Or.inr ⟨rfl, H1⟩
      case measure => decide
    · have HB : Hid (Below w.heap.size w wr) := hb
      clear hb
      go_wp2
      go_ret
      exact ⟨rfl, HB.out⟩
theorem polAt1 {w : World} {lp : Nat} (h : Blk w lp exP1 44) : PolAt w (some ⟨lp, 0, none⟩) 2 [⟨3, 0, ⟨#[97]⟩, 0⟩, ⟨1, 0, ⟨#[]⟩, 0⟩] :=
  ⟨rfl, fun _ => ⟨lp, 0, rfl, h.lt, fun i hi j v hv => by
    match i, hi, j, hv with
    | 0, _, 0, hv => exact (h.cell 0 rfl).trans hv
    | 0, _, 1, hv => exact (h.cell 1 rfl).trans hv
    | 0, _, 2, hv => exact (h.cell 2 rfl).trans hv
    | 0, _, 3, hv => exact (h.cell 3 rfl).trans hv
    | 1, _, 0, hv => exact (h.cell 4 rfl).trans hv
    | 1, _, 1, hv => exact (h.cell 5 rfl).trans hv
    | 1, _, 2, hv => exact (h.cell 6 rfl).trans hv
    | 1, _, 3, hv => exact (h.cell 7 rfl).trans hv
    | 0, _, j + 4, hv => simp [polC] at hv
    | 1, _, j + 4, hv => simp [polC] at hv
    | i + 2, hi, _, _ => simp at hi; omega⟩⟩
theorem polAt2 {w : World} {lp : Nat} {k n q : Int} {s : ByteArray} (h : Blk w lp #[.int .i64 k, .int .u64 n, .string s, .int .i64 q] 44) : PolAt w (some ⟨lp, 0, none⟩) 1 [⟨k, n, s, q⟩] :=
  ⟨rfl, fun _ => ⟨lp, 0, rfl, h.lt, fun i hi j v hv => by
    match i, hi, j, hv with
    | 0, _, 0, hv => exact (h.cell 0 rfl).trans hv
    | 0, _, 1, hv => exact (h.cell 1 rfl).trans hv
    | 0, _, 2, hv => exact (h.cell 2 rfl).trans hv
    | 0, _, 3, hv => exact (h.cell 3 rfl).trans hv
    | 0, _, j + 4, hv => simp [polC] at hv
    | i + 1, hi, _, _ => simp at hi⟩⟩
end Go.Proofs.YtpcfchbiohbcoaaDoor

namespace Go.Proofs.YtpcfchbiohbcoaaDoor
open Go Go.RowKit
set_option maxRecDepth 100000

theorem veSize : (Tryd.prog.info? 48).map (·.size) = some 4 := by kernel_rfl
/-- What lies behind Decide's own two blocks. -/
def DeE (w W : World) (lp b : Nat) (pr : Array Value) : Prop :=
  Blk W lp pr 44 ∧ Blk W b exRow 58 ∧ Blk W w.heap.size #[.slice (some ⟨b, 0, none⟩) 2 2] 60 ∧ Blk W (w.heap.size + 1) #[.bool false, .int .i64 0, .int .u64 0, .int .u64 0] 48 ∧ Tabs W ∧ Below w.heap.size w W
theorem DeE.below {w W W' : World} {lp b : Nat} {pr : Array Value} (h : DeE w W lp b pr) (hb : Below W.heap.size W W') : DeE w W' lp b pr :=
  ⟨h.1.below hb h.1.lt, h.2.1.below hb h.2.1.lt, h.2.2.1.below hb h.2.2.1.lt, h.2.2.2.1.below hb h.2.2.2.1.lt, h.2.2.2.2.1.below hb, h.2.2.2.2.2.trans (hb.mono h.2.2.2.2.2.size)⟩
theorem DeE.new {w : World} {lp b : Nat} {pr : Array Value} (hP : Blk w lp pr 44) (hK : Blk w b exRow 58) (hT : Tabs w) : DeE w ((w.alloc (.cells #[.slice (some ⟨b, 0, none⟩) 2 2] 60)).alloc (.cells #[.bool false, .int .i64 0, .int .u64 0, .int .u64 0] 48)) lp b pr := by
  have b1 : Below w.heap.size w (w.alloc (.cells #[.slice (some ⟨b, 0, none⟩) 2 2] 60)) := (Below.refl _ _).alloc (Nat.le_refl _) _
  have b2 := b1.alloc b1.size (.cells #[.bool false, .int .i64 0, .int .u64 0, .int .u64 0] 48)
  refine ⟨(hP.alloc _).alloc _, (hK.alloc _).alloc _, (Blk.new _ _ _).alloc _, ?_, hT.below b2, b2⟩
  have := Blk.new (w.alloc (.cells #[.slice (some ⟨b, 0, none⟩) 2 2] 60)) #[.bool false, .int .i64 0, .int .u64 0, .int .u64 0] 48
  rwa [World.size_alloc] at this
set_option maxHeartbeats 4000000 in
theorem decide1_any (lp b : Nat) (w : World) (hP : Blk w lp exP1 44) (hK : Blk w b exRow 58) (hT : Tabs w) :
    Calls Tryd.prog 12 #[.slice (some ⟨lp, 0, none⟩) 2 2, .slice (some ⟨b, 0, none⟩) 2 2] w fun e w' => e = .returned (.tuple #[.agg #[.bool true, .int .i64 1, .int .u64 0, .int .u64 65536], .int .i64 0]) ∧ Below w.heap.size w w' := by
  have E0 := DeE.new hP hK hT
  have CH := checkP_any _ 2 2 _ _ (polAt1 E0.1) (fun p hp => by simp at hp; rcases hp with rfl | rfl <;> simp only <;> decide) (by omega) E0.2.2.2.2.1
  have e0 : chkP [⟨3, 0, ⟨#[97]⟩, 0⟩, ⟨1, 0, ⟨#[]⟩, 0⟩] = 0 := by decide +kernel
  rw [e0] at CH
  have HE0 : Hid (DeE w _ lp b exP1) := E0
  clear hP hK hT E0 e0
  go_enter Tryd.func12, Tryd.ntmps12
  go_wp2_with (first
    | (go_at_call 14; refine CH.mono ?_; clear CH; rintro e w1 ⟨rfl, hb1⟩; have E1 := HE0.out.below hb1; have k1 := E1.2.2.1.cell 0 rfl; have OT := oneTrace2_any b w1 E1.2.1 E1.2.2.2.2.1; have HE1 : Hid (DeE w w1 lp b exP1) := E1; clear hb1 E1 HE0)
    | (go_at_call 25; refine OT.mono ?_; clear OT; rintro e w2 ⟨rfl, hb2⟩; have E2 := HE1.out.below hb2; have k2 := E2.2.2.1.cell 0 rfl; have FI := first1_any lp b w.heap.size w2 E2.1 E2.2.1 E2.2.2.1; have HE2 : Hid (DeE w w2 lp b exP1) := E2; clear hb2 E2 HE1 k1)
    | (go_at_call 26; refine FI.mono ?_; clear FI; rintro e w3 ⟨rfl, hb3⟩; have E3 := HE2.out.below hb3; have k3 := E3.2.2.1.cell 0 rfl; have WE := weight1_any lp b w3 E3.1 E3.2.1; have HE3 : Hid (DeE w w3 lp b exP1) := E3; clear hb3 E3 HE2 k2)
    | (go_at_call 29; refine WE.mono ?_; clear WE; rintro e w4 ⟨rfl, hb4⟩; have E4 := HE3.out.below hb4; have o0 := E4.2.2.2.1.cell 0 rfl; have o1 := E4.2.2.2.1.cell 1 rfl; have o2 := E4.2.2.2.1.cell 2 rfl; have o3 := E4.2.2.2.1.cell 3 rfl; have g0 := E4.2.2.2.1.frozen 0; have g1 := E4.2.2.2.1.frozen 1; have g2 := E4.2.2.2.1.frozen 2; have g3 := E4.2.2.2.1.frozen 3; have HE4 : Hid (DeE w w4 lp b exP1) := E4; clear hb4 E4 HE3 k3))
  (try simp only [Exit.inBlock, Exit.then])
  have E4 := HE4.out
  have hb0 := E4.2.2.2.2.2
  have hrow := (((E4.2.2.2.1.set 0 (.bool true)).set 1 (.int .i64 1)).set 2 (.int .u64 0)).set 3 (.int .u64 65536)
  have hld := run_loadVar_row (P := Tryd.prog) _ (w.heap.size + 1) 48 48 #[.bool true, .int .i64 1, .int .u64 0, .int .u64 65536] (0, 0) _ hrow Tryd.underlying48 rfl veSize
  have hs : w.heap.size ≤ w.heap.size + 1 := by omega
  refine bodyPost_ret (v := .tuple #[.agg #[.bool true, .int .i64 1, .int .u64 0, .int .u64 65536], .int .i64 0]) ?_ rfl ⟨rfl, (((hb0.setCell (p := ⟨w.heap.size + 1, 0, none⟩) hs _).setCell (p := ⟨w.heap.size + 1, 1, none⟩) hs _).setCell (p := ⟨w.heap.size + 1, 2, none⟩) hs _).setCell (p := ⟨w.heap.size + 1, 3, none⟩) hs _⟩
  rw [results_cell_tmp rfl]
  simp [asAddr, Result.andThen, hld]
set_option maxHeartbeats 4000000 in
theorem decide2_any (lp b : Nat) (w : World) (hP : Blk w lp exP2 44) (hK : Blk w b exRow 58) (hT : Tabs w) :
    Calls Tryd.prog 12 #[.slice (some ⟨lp, 0, none⟩) 1 1, .slice (some ⟨b, 0, none⟩) 2 2] w fun e w' => e = .returned (.tuple #[.agg #[.bool false, .int .i64 (-1), .int .u64 0, .int .u64 0], .int .i64 0]) ∧ Below w.heap.size w w' := by
  have E0 := DeE.new hP hK hT
  have CH := checkP_any _ 1 1 _ _ (polAt2 E0.1) (fun p hp => by simp at hp; rcases hp with rfl; simp only; decide) (by omega) E0.2.2.2.2.1
  have e0 : chkP [⟨2, 6, ⟨#[]⟩, 0⟩] = 0 := by decide +kernel
  rw [e0] at CH
  have HE0 : Hid (DeE w _ lp b exP2) := E0
  clear hP hK hT E0 e0
  go_enter Tryd.func12, Tryd.ntmps12
  go_wp2_with (first
    | (go_at_call 14; refine CH.mono ?_; clear CH; rintro e w1 ⟨rfl, hb1⟩; have E1 := HE0.out.below hb1; have k1 := E1.2.2.1.cell 0 rfl; have OT := oneTrace2_any b w1 E1.2.1 E1.2.2.2.2.1; have HE1 : Hid (DeE w w1 lp b exP2) := E1; clear hb1 E1 HE0)
    | (go_at_call 25; refine OT.mono ?_; clear OT; rintro e w2 ⟨rfl, hb2⟩; have E2 := HE1.out.below hb2; have k2 := E2.2.2.1.cell 0 rfl; have FI := first2_any lp b w.heap.size w2 E2.1 E2.2.1 E2.2.2.1; have HE2 : Hid (DeE w w2 lp b exP2) := E2; clear hb2 E2 HE1 k1)
    | (go_at_call 26; refine FI.mono ?_; clear FI; rintro e w3 ⟨rfl, hb3⟩; have E3 := HE2.out.below hb3; have o0 := E3.2.2.2.1.cell 0 rfl; have g0 := E3.2.2.2.1.frozen 0; have o1 := E3.2.2.2.1.cell 1 rfl; have g1 := E3.2.2.2.1.frozen 1; have o2 := E3.2.2.2.1.cell 2 rfl; have g2 := E3.2.2.2.1.frozen 2; have o3 := E3.2.2.2.1.cell 3 rfl; have g3 := E3.2.2.2.1.frozen 3; have HE3 : Hid (DeE w w3 lp b exP2) := E3; clear hb3 E3 HE2 k2))
  (try simp only [Exit.inBlock, Exit.then])
  have E3 := HE3.out
  have hb0 := E3.2.2.2.2.2
  have hrow := (((E3.2.2.2.1.set 0 (.bool false)).set 1 (.int .i64 (-1))).set 2 (.int .u64 0)).set 3 (.int .u64 0)
  have hld := run_loadVar_row (P := Tryd.prog) _ (w.heap.size + 1) 48 48 #[.bool false, .int .i64 (-1), .int .u64 0, .int .u64 0] (0, 0) _ hrow Tryd.underlying48 rfl veSize
  have hs : w.heap.size ≤ w.heap.size + 1 := by omega
  refine bodyPost_ret (v := .tuple #[.agg #[.bool false, .int .i64 (-1), .int .u64 0, .int .u64 0], .int .i64 0]) ?_ rfl ⟨rfl, (((hb0.setCell (p := ⟨w.heap.size + 1, 0, none⟩) hs _).setCell (p := ⟨w.heap.size + 1, 1, none⟩) hs _).setCell (p := ⟨w.heap.size + 1, 2, none⟩) hs _).setCell (p := ⟨w.heap.size + 1, 3, none⟩) hs _⟩
  rw [results_cell_tmp rfl]
  simp [asAddr, Result.andThen, hld]
theorem check3_any (lp : Nat) (w : World) (hP : Blk w lp #[.int .i64 4, .int .u64 0, .string ⟨#[]⟩, .int .i64 65537] 44) (hT : Tabs w) :
    Calls Tryd.prog 14 #[.slice (some ⟨lp, 0, none⟩) 1 1] w fun e w' => e = .returned (.int .i64 211) ∧ Below w.heap.size w w' := by
  have CH := checkP_any _ 1 1 _ _ (polAt2 hP) (fun p hp => by simp at hp; rcases hp with rfl; simp only; decide) (by omega) hT
  have e0 : chkP [⟨4, 0, ⟨#[]⟩, 65537⟩] = 211 := by decide +kernel
  rwa [e0] at CH
end Go.Proofs.YtpcfchbiohbcoaaDoor
