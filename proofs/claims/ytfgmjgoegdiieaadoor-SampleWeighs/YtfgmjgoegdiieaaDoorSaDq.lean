/-
  Merged: SaD, SaE.
-/
import Derived.Test.YtfgmjgoegdiieaaDoorSaBq
import Derived.Deep.OwnRows
namespace Go.Proofs.YtfgmjgoegdiieaaDoor
open Go Go.RowKit
set_option maxRecDepth 100000

theorem less21_any (w : World) :
    Calls Tryd.prog 70 #[.int .u64 2, .int .u64 1] w fun e w' => e = .returned (.bool false) ∧ Below w.heap.size w w' := by
  have B0 : Hid (Below w.heap.size w w) := Below.refl _ _
  go_enter Tryd.func70, Tryd.ntmps70
  go_wp2
  go_ret
  exact ⟨rfl, B0.out⟩
set_option maxHeartbeats 4000000 in
theorem insertion2_any (g : Nat) (w : World) (hK : Blk w g #[.int .u64 1, .int .u64 2] 45) :
    Calls Tryd.prog 64 #[.slice (some ⟨g, 0, none⟩) 2 2, .int .i64 0, .int .i64 2] w fun e w' => e = .returned (.tuple #[]) ∧ Below w.heap.size w w' := by
  have c0 : w.cell? ⟨g, 0, none⟩ = some (.int .u64 1) := hK.cell 0 rfl
  have c1 : w.cell? ⟨g, 1, none⟩ = some (.int .u64 2) := hK.cell 1 rfl
  have KP : ∀ W, Below w.heap.size w W → W.cell? ⟨g, 0, none⟩ = some (.int .u64 1) ∧ W.cell? ⟨g, 1, none⟩ = some (.int .u64 2) := fun W hW => ⟨(hW.cell (p := ⟨g, 0, none⟩) hK.lt).trans c0, (hW.cell (p := ⟨g, 1, none⟩) hK.lt).trans c1⟩
  clear hK
  have LS := less21_any w.drew
  have B0 : Below w.heap.size w w.drew := (Below.refl _ _).drew
  go_enter Tryd.func64, Tryd.ntmps64
  go_wp2
  go_loopw [6] (fun z wr => (z = .int .i64 1 ∧ wr = w) ∨ (z = .int .i64 2 ∧ Below w.heap.size w wr)) (fun z _ => 2 - (intOf z).toNat)
  case atStart => exact Or.inl ⟨rfl, rfl⟩
  case round =>
    rcases hrel with ⟨rfl, rfl⟩ | ⟨rfl, hb⟩
    · go_wp2
      go_loopw [7] (fun z wq => z = .int .i64 1 ∧ wq = wr) (fun _ _ => 0)
      case atStart => exact ⟨rfl, rfl⟩
      case round =>
        obtain ⟨rfl, rfl⟩ := hrel
        have hwz : IntKind.i64.wrap 0 = 0 := by decide
        go_upto_region 4 with fail
        go_region_held3 (fun W => W.cell? ⟨g, 0, none⟩ = some (.int .u64 1) ∧ W.cell? ⟨g, 1, none⟩ = some (.int .u64 2)) (first | exact KP _ B0 | exact KP _ B1) (first | (go_at_call 70; refine LS.mono ?_; clear LS; rintro e w1 ⟨rfl, hb1⟩; have B1 : Below wr.heap.size wr w1 := B0.trans (hb1.mono B0.size)) | fail)
        go_wp2
        exact ⟨Or.inr ⟨rfl, B1⟩, by decide⟩
    · go_wp2
      go_end0
      exact ⟨rfl, hb⟩
theorem len2_any (w : World) :
    Calls Tryd.prog 49 #[.int .u64 2] w fun e w' => e = .returned (.int .i64 2) ∧ Below w.heap.size w w' := by
  have B0 : Hid (Below w.heap.size w w) := Below.refl _ _
  go_enter Tryd.func49, Tryd.ntmps49
  go_wp2
  go_ret
  exact ⟨by kernel_rfl, B0.out⟩
theorem pdq2_any (g : Nat) (w : World) (hK : Blk w g #[.int .u64 1, .int .u64 2] 45) :
    Calls Tryd.prog 48 #[.slice (some ⟨g, 0, none⟩) 2 2, .int .i64 0, .int .i64 2, .int .i64 2] w fun e w' => e = .returned (.tuple #[]) ∧ Below w.heap.size w w' := by
  have IS := insertion2_any g w hK
  go_enter Tryd.func48, Tryd.ntmps48
  go_wp2
  go_loopw [1, 2] (fun z1 z2 wr => z1 = .int .i64 0 ∧ z2 = .int .i64 2 ∧ wr = w) (fun _ _ _ => 0)
  case atStart => exact ⟨rfl, rfl, rfl⟩
  case round =>
    obtain ⟨rfl, rfl, rfl⟩ := hrel
    go_wp2_with (go_at_call 64; refine IS.mono ?_; clear IS; rintro e w1 ⟨rfl, hb1⟩)
    (try simp only [Exit.inBlock, Exit.then])
    refine bodyPost_ret (results_none rfl _ _ _) rfl ?_
    exact ⟨rfl, hb1⟩
theorem sort2_any (g : Nat) (w : World) (hK : Blk w g #[.int .u64 1, .int .u64 2] 45) :
    Calls Tryd.prog 31 #[.slice (some ⟨g, 0, none⟩) 2 2] w fun e w' => e = .returned (.tuple #[]) ∧ Below w.heap.size w w' := by
  have LN := len2_any w
  have PD : Hid (∀ w1, Below w.heap.size w w1 → Calls Tryd.prog 48 #[.slice (some ⟨g, 0, none⟩) 2 2, .int .i64 0, .int .i64 2, .int .i64 2] w1 fun e w' => e = .returned (.tuple #[]) ∧ Below w1.heap.size w1 w') := fun w1 hb => pdq2_any g w1 (hK.below hb hK.lt)
  clear hK
  go_enter Tryd.func31, Tryd.ntmps31
  go_wp2_with (first
    | (go_at_call 49; refine LN.mono ?_; clear LN; rintro e w1 ⟨rfl, hb1⟩; have P1 := PD.out w1 hb1; clear PD)
    | (go_at_call 48; refine P1.mono ?_; clear P1; rintro e w2 ⟨rfl, hb2⟩))
  go_end0
  exact ⟨rfl, hb1.trans (hb2.mono hb1.size)⟩
set_option maxHeartbeats 4000000 in
theorem compact2_any (g : Nat) (w : World) (hK : Blk w g #[.int .u64 1, .int .u64 2] 45) :
    Calls Tryd.prog 32 #[.slice (some ⟨g, 0, none⟩) 2 2] w fun e w' => e = .returned (.slice (some ⟨g, 0, none⟩) 2 2) ∧ Below w.heap.size w w' := by
  have c0 : w.cell? ⟨g, 0, none⟩ = some (.int .u64 1) := hK.cell 0 rfl
  have c1 : w.cell? ⟨g, 1, none⟩ = some (.int .u64 2) := hK.cell 1 rfl
  have KP : ∀ W, Below w.heap.size w W → W.cell? ⟨g, 0, none⟩ = some (.int .u64 1) ∧ W.cell? ⟨g, 1, none⟩ = some (.int .u64 2) := fun W hW => ⟨(hW.cell (p := ⟨g, 0, none⟩) hK.lt).trans c0, (hW.cell (p := ⟨g, 1, none⟩) hK.lt).trans c1⟩
  clear hK
  go_enter Tryd.func32, Tryd.ntmps32
  go_wp2
  go_loopw [3] (fun z wr => (z = .int .i64 1 ∧ wr = w) ∨ (z = .int .i64 2 ∧ Below w.heap.size w wr)) (fun z _ => 2 - (intOf z).toNat)
  case atStart => exact Or.inl ⟨rfl, rfl⟩
  case round =>
    rcases hrel with ⟨rfl, rfl⟩ | ⟨rfl, hb⟩
    · have B0 : Below wr.heap.size wr wr.drew := (Below.refl _ _).drew
      have hwz : IntKind.i64.wrap 0 = 0 := by decide
      go_upto_region 6 with fail
      go_region_held3 (fun W => W.cell? ⟨g, 0, none⟩ = some (.int .u64 1) ∧ W.cell? ⟨g, 1, none⟩ = some (.int .u64 2)) (first | exact KP _ B0 | fail) (first | fail | fail)
      go_wp2
      go_roundw
      case rel => exact Or.inr ⟨rfl, B0⟩
      case measure => decide
    · go_wp2
      go_ret
      exact ⟨rfl, hb⟩
end Go.Proofs.YtfgmjgoegdiieaaDoor

namespace Go.Proofs.YtfgmjgoegdiieaaDoor
open Go Go.RowKit
set_option maxRecDepth 100000

/-- The example's spans. -/
def exS (id s e : Int) : Sp := ⟨0, 1, id, 0, [], ⟨#[98]⟩, ⟨#[111]⟩, 0, 2, s, e, [], []⟩
theorem exS_at (w : World) (id s e : Int) : SpAt w (exS id s e) plQ :=
  ⟨⟨rfl, fun j u hj => by simp [exS, intsV] at hj⟩, ⟨rfl, fun h => by cases h⟩, ⟨rfl, fun h => by cases h⟩, by simp [exS], by simp [exS], by simp [exS]⟩
theorem exS_small (id s e : Int) : (exS id s e).Small := ⟨by simp only [exS]; decide, by simp only [exS]; decide, (fun _ h => by cases h), (fun _ h => by cases h)⟩
theorem exS_chk1 : chkS (exS 1 3 4) = 0 := by decide +kernel
theorem exS_chk2 : chkS (exS 2 7 8) = 0 := by decide +kernel
abbrev exRow : Array Value := #[.int .u64 0, .int .u64 1, .int .u64 1, .int .u64 0, .slice none 0 0, .string ⟨#[98]⟩, .string ⟨#[111]⟩, .int .i64 0, .int .i64 2, .int .i64 3, .int .i64 4, .slice none 0 0, .slice none 0 0,
  .int .u64 0, .int .u64 1, .int .u64 2, .int .u64 0, .slice none 0 0, .string ⟨#[98]⟩, .string ⟨#[111]⟩, .int .i64 0, .int .i64 2, .int .i64 7, .int .i64 8, .slice none 0 0, .slice none 0 0]
theorem infoSI : (Tryd.prog.info? 45).map (fun i => (i.zero, i.size, i.bytes)) = some (some (.int .u64 0), 1, 8) := by kernel_rfl
theorem made_two (w : World) : (Instr.makeSlice 46 (.int .i64 2) (.int .i64 2)).run Tryd.prog w = .ok (.slice (some ⟨w.heap.size, 0, none⟩) 2 2) (w.alloc (.cells #[.int .u64 0, .int .u64 0] 45)) := by
  have h := run_make_row' (P := Tryd.prog) 46 45 (.int .u64 0) 8 Tryd.underlying46 infoSI rfl .i64 .i64 2 (by omega) (by omega) w
  have e : madeCells #[Value.int .u64 0] 2 = #[Value.int .u64 0, Value.int .u64 0] := by kernel_rfl
  rw [e] at h
  exact h
theorem run_neqT {T : TypeId} {xs ys : Array Value} {b : Bool} {W : World} (h : (Op.equalIn 10000 T (.agg xs) (.agg ys)).run Tryd.prog W = .ok b W) : (binOp .neq T (.agg xs) (.agg ys)).run Tryd.prog W = .ok (.bool (!b)) W := by
  rw [run_neq_struct, h]; rfl
set_option maxHeartbeats 8000000 in
theorem oneTrace2_any (b : Nat) (w : World) (hK : Blk w b exRow 52) (hT : Tabs w) :
    Calls Tryd.prog 18 #[.slice (some ⟨b, 0, none⟩) 2 2] w fun e w' => e = .returned (.bool true) ∧ Below w.heap.size w w' := by
  have MK := made_two w
  have HK : Hid (Blk w b exRow 52 ∧ Tabs w) := ⟨hK, hT⟩
  clear hK hT
  go_enter Tryd.func18, Tryd.ntmps18
  go_wp2
  go_loopw [14] (fun z wr => (z = .int .i64 0 ∧ Below w.heap.size w wr ∧ Blk wr w.heap.size #[.int .u64 0, .int .u64 0] 45) ∨ (z = .int .i64 1 ∧ Below w.heap.size w wr ∧ Blk wr w.heap.size #[.int .u64 1, .int .u64 0] 45) ∨ (z = .int .i64 2 ∧ Below w.heap.size w wr ∧ Blk wr w.heap.size #[.int .u64 1, .int .u64 2] 45)) (fun z _ => 2 - (intOf z).toNat)
  case atStart => exact Or.inl ⟨rfl, (Below.refl _ _).alloc (Nat.le_refl _) _, Blk.new _ _ _⟩
  case round =>
    rcases hrel with ⟨rfl, hrel⟩ | ⟨rfl, hrel⟩ | ⟨rfl, hrel⟩
    · obtain ⟨hb, hI⟩ := hrel
      have HR : Hid (Below w.heap.size w wr ∧ Blk wr w.heap.size #[.int .u64 0, .int .u64 0] 45) := ⟨hb, hI⟩
      have hKr := HK.out.1.below hb HK.out.1.lt
      have d0 := hKr.cell 0 rfl
      have d1 := hKr.cell 1 rfl
      have d2 := hKr.cell 2 rfl
      have d3 := hKr.cell 3 rfl
      have d4 := hKr.cell 4 rfl
      have d5 := hKr.cell 5 rfl
      have d6 := hKr.cell 6 rfl
      have d7 := hKr.cell 7 rfl
      have d8 := hKr.cell 8 rfl
      have d9 := hKr.cell 9 rfl
      have d10 := hKr.cell 10 rfl
      have d11 := hKr.cell 11 rfl
      have d12 := hKr.cell 12 rfl
      simp only [List.getElem_toArray, List.getElem_cons_succ, List.getElem_cons_zero] at d0 d1 d2 d3 d4 d5 d6 d7 d8 d9 d10 d11 d12
      clear hKr hb hI
      go_upto_region 7 with fail
      obtain ⟨w7, hw7⟩ : ∃ w7, wr.alloc (.cells #[.int .u64 0, .int .u64 1, .int .u64 1, .int .u64 0, .slice none 0 0, .string ⟨#[98]⟩, .string ⟨#[111]⟩, .int .i64 0, .int .i64 2, .int .i64 3, .int .i64 4, .slice none 0 0, .slice none 0 0] 52) = w7 := ⟨_, rfl⟩
      have KB : ∀ W, Below w7.heap.size w7 W → W.cell? ⟨wr.heap.size, 0, none⟩ = some (.int .u64 0) ∧ W.cell? ⟨wr.heap.size, 1, none⟩ = some (.int .u64 1) ∧ W.cell? ⟨wr.heap.size, 2, none⟩ = some (.int .u64 1) ∧ W.cell? ⟨wr.heap.size, 3, none⟩ = some (.int .u64 0) ∧ W.cell? ⟨wr.heap.size, 4, none⟩ = some (.slice none 0 0) ∧ W.cell? ⟨wr.heap.size, 5, none⟩ = some (.string ⟨#[98]⟩) ∧ W.cell? ⟨wr.heap.size, 6, none⟩ = some (.string ⟨#[111]⟩) ∧ W.cell? ⟨wr.heap.size, 7, none⟩ = some (.int .i64 0) ∧ W.cell? ⟨wr.heap.size, 8, none⟩ = some (.int .i64 2) ∧ W.cell? ⟨wr.heap.size, 9, none⟩ = some (.int .i64 3) ∧ W.cell? ⟨wr.heap.size, 10, none⟩ = some (.int .i64 4) ∧ W.cell? ⟨wr.heap.size, 11, none⟩ = some (.slice none 0 0) ∧ W.cell? ⟨wr.heap.size, 12, none⟩ = some (.slice none 0 0) ∧ W.cell? ⟨b, 0, none⟩ = some (.int .u64 0) ∧ W.cell? ⟨b, 1, none⟩ = some (.int .u64 1) := fun W hW => by
        subst hw7
        have k1 : Blk W wr.heap.size #[.int .u64 0, .int .u64 1, .int .u64 1, .int .u64 0, .slice none 0 0, .string ⟨#[98]⟩, .string ⟨#[111]⟩, .int .i64 0, .int .i64 2, .int .i64 3, .int .i64 4, .slice none 0 0, .slice none 0 0] 52 := (Blk.new wr _ _).below hW (by rw [World.size_alloc]; omega)
        have k2 : Blk W b exRow 52 := (HK.out.1.below HR.out.1 HK.out.1.lt).alloc _ |>.below hW (by rw [World.size_alloc]; have := (HK.out.1.below HR.out.1 HK.out.1.lt).lt; omega)
        exact ⟨k1.cell 0 rfl, k1.cell 1 rfl, k1.cell 2 rfl, k1.cell 3 rfl, k1.cell 4 rfl, k1.cell 5 rfl, k1.cell 6 rfl, k1.cell 7 rfl, k1.cell 8 rfl, k1.cell 9 rfl, k1.cell 10 rfl, k1.cell 11 rfl, k1.cell 12 rfl, k2.cell 0 rfl, k2.cell 1 rfl⟩
      have H7 : Hid (Below w.heap.size w w7 ∧ Blk w7 w.heap.size #[.int .u64 0, .int .u64 0] 45 ∧ w.heap.size < w7.heap.size) := by
        subst hw7
        exact ⟨HR.out.1.alloc HR.out.1.size _, HR.out.2.alloc _, by rw [World.size_alloc]; have := HR.out.2.lt; omega⟩
      rw [hw7]
      have B0 : Below w7.heap.size w7 w7.drew := (Below.refl _ _).drew
      have CK := check_any (exS 1 3 4) plQ w7.drew (exS_at _ _ _ _) (exS_small _ _ _) (HK.out.2.below (H7.out.1.trans (B0.mono H7.out.1.size)))
      rw [exS_chk1] at CK
      unfold spV spC exS plQ at CK
      have hq : ∀ W, (binOp .neq 35 (.agg #[.int .u64 0, .int .u64 1]) (.agg #[.int .u64 0, .int .u64 1])).run Tryd.prog W = .ok (.bool false) W := fun W => run_neqT (eqI_trace 9998 0 1 0 1 W)
      have hg := guard_trace
      clear hw7 d0 d1 d2 d3 d4 d5 d6 d7 d8 d9 d10 d11 d12
      go_region_held3 (fun W => W.cell? ⟨wr.heap.size, 0, none⟩ = some (.int .u64 0) ∧ W.cell? ⟨wr.heap.size, 1, none⟩ = some (.int .u64 1) ∧ W.cell? ⟨wr.heap.size, 2, none⟩ = some (.int .u64 1) ∧ W.cell? ⟨wr.heap.size, 3, none⟩ = some (.int .u64 0) ∧ W.cell? ⟨wr.heap.size, 4, none⟩ = some (.slice none 0 0) ∧ W.cell? ⟨wr.heap.size, 5, none⟩ = some (.string ⟨#[98]⟩) ∧ W.cell? ⟨wr.heap.size, 6, none⟩ = some (.string ⟨#[111]⟩) ∧ W.cell? ⟨wr.heap.size, 7, none⟩ = some (.int .i64 0) ∧ W.cell? ⟨wr.heap.size, 8, none⟩ = some (.int .i64 2) ∧ W.cell? ⟨wr.heap.size, 9, none⟩ = some (.int .i64 3) ∧ W.cell? ⟨wr.heap.size, 10, none⟩ = some (.int .i64 4) ∧ W.cell? ⟨wr.heap.size, 11, none⟩ = some (.slice none 0 0) ∧ W.cell? ⟨wr.heap.size, 12, none⟩ = some (.slice none 0 0) ∧ W.cell? ⟨b, 0, none⟩ = some (.int .u64 0) ∧ W.cell? ⟨b, 1, none⟩ = some (.int .u64 1)) (first | exact KB _ B0 | exact KB _ B1) (first
        | (go_at_call 30; refine CK.mono ?_; clear CK; rintro e w8 ⟨rfl, hb8⟩; have B1 : Below w7.heap.size w7 w8 := B0.trans (hb8.mono B0.size))
        | fail)
      have k8 : Blk w8 w.heap.size #[.int .u64 0, .int .u64 0] 45 := H7.out.2.1.below B1 H7.out.2.2
      have o0 := k8.cell 0 rfl
      have g0 := k8.frozen 0
      have c8 := (KB w8 B1).2.2.1
      have H8 : Hid (Below w.heap.size w w8 ∧ Blk w8 w.heap.size #[.int .u64 0, .int .u64 0] 45) := ⟨H7.out.1.trans (B1.mono H7.out.1.size), k8⟩
      clear KB B0 B1 hb8 k8
      go_wp2
      go_roundw
      case rel => exact Or.inr (Or.inl ⟨rfl, H8.out.1.setCell (p := ⟨w.heap.size, 0, none⟩) (Nat.le_refl _) _, H8.out.2.set 0 (.int .u64 1)⟩)
      case measure => decide
    · obtain ⟨hb, hI⟩ := hrel
      have HR : Hid (Below w.heap.size w wr ∧ Blk wr w.heap.size #[.int .u64 1, .int .u64 0] 45) := ⟨hb, hI⟩
      have hKr := HK.out.1.below hb HK.out.1.lt
      have d0 := hKr.cell 13 rfl
      have d1 := hKr.cell 14 rfl
      have d2 := hKr.cell 15 rfl
      have d3 := hKr.cell 16 rfl
      have d4 := hKr.cell 17 rfl
      have d5 := hKr.cell 18 rfl
      have d6 := hKr.cell 19 rfl
      have d7 := hKr.cell 20 rfl
      have d8 := hKr.cell 21 rfl
      have d9 := hKr.cell 22 rfl
      have d10 := hKr.cell 23 rfl
      have d11 := hKr.cell 24 rfl
      have d12 := hKr.cell 25 rfl
      simp only [List.getElem_toArray, List.getElem_cons_succ, List.getElem_cons_zero] at d0 d1 d2 d3 d4 d5 d6 d7 d8 d9 d10 d11 d12
      clear hKr hb hI
      go_upto_region 7 with fail
      obtain ⟨w7, hw7⟩ : ∃ w7, wr.alloc (.cells #[.int .u64 0, .int .u64 1, .int .u64 2, .int .u64 0, .slice none 0 0, .string ⟨#[98]⟩, .string ⟨#[111]⟩, .int .i64 0, .int .i64 2, .int .i64 7, .int .i64 8, .slice none 0 0, .slice none 0 0] 52) = w7 := ⟨_, rfl⟩
      have KB : ∀ W, Below w7.heap.size w7 W → W.cell? ⟨wr.heap.size, 0, none⟩ = some (.int .u64 0) ∧ W.cell? ⟨wr.heap.size, 1, none⟩ = some (.int .u64 1) ∧ W.cell? ⟨wr.heap.size, 2, none⟩ = some (.int .u64 2) ∧ W.cell? ⟨wr.heap.size, 3, none⟩ = some (.int .u64 0) ∧ W.cell? ⟨wr.heap.size, 4, none⟩ = some (.slice none 0 0) ∧ W.cell? ⟨wr.heap.size, 5, none⟩ = some (.string ⟨#[98]⟩) ∧ W.cell? ⟨wr.heap.size, 6, none⟩ = some (.string ⟨#[111]⟩) ∧ W.cell? ⟨wr.heap.size, 7, none⟩ = some (.int .i64 0) ∧ W.cell? ⟨wr.heap.size, 8, none⟩ = some (.int .i64 2) ∧ W.cell? ⟨wr.heap.size, 9, none⟩ = some (.int .i64 7) ∧ W.cell? ⟨wr.heap.size, 10, none⟩ = some (.int .i64 8) ∧ W.cell? ⟨wr.heap.size, 11, none⟩ = some (.slice none 0 0) ∧ W.cell? ⟨wr.heap.size, 12, none⟩ = some (.slice none 0 0) ∧ W.cell? ⟨b, 0, none⟩ = some (.int .u64 0) ∧ W.cell? ⟨b, 1, none⟩ = some (.int .u64 1) := fun W hW => by
        subst hw7
        have k1 : Blk W wr.heap.size #[.int .u64 0, .int .u64 1, .int .u64 2, .int .u64 0, .slice none 0 0, .string ⟨#[98]⟩, .string ⟨#[111]⟩, .int .i64 0, .int .i64 2, .int .i64 7, .int .i64 8, .slice none 0 0, .slice none 0 0] 52 := (Blk.new wr _ _).below hW (by rw [World.size_alloc]; omega)
        have k2 : Blk W b exRow 52 := (HK.out.1.below HR.out.1 HK.out.1.lt).alloc _ |>.below hW (by rw [World.size_alloc]; have := (HK.out.1.below HR.out.1 HK.out.1.lt).lt; omega)
        exact ⟨k1.cell 0 rfl, k1.cell 1 rfl, k1.cell 2 rfl, k1.cell 3 rfl, k1.cell 4 rfl, k1.cell 5 rfl, k1.cell 6 rfl, k1.cell 7 rfl, k1.cell 8 rfl, k1.cell 9 rfl, k1.cell 10 rfl, k1.cell 11 rfl, k1.cell 12 rfl, k2.cell 0 rfl, k2.cell 1 rfl⟩
      have H7 : Hid (Below w.heap.size w w7 ∧ Blk w7 w.heap.size #[.int .u64 1, .int .u64 0] 45 ∧ w.heap.size < w7.heap.size) := by
        subst hw7
        exact ⟨HR.out.1.alloc HR.out.1.size _, HR.out.2.alloc _, by rw [World.size_alloc]; have := HR.out.2.lt; omega⟩
      rw [hw7]
      have B0 : Below w7.heap.size w7 w7.drew := (Below.refl _ _).drew
      have CK := check_any (exS 2 7 8) plQ w7.drew (exS_at _ _ _ _) (exS_small _ _ _) (HK.out.2.below (H7.out.1.trans (B0.mono H7.out.1.size)))
      rw [exS_chk2] at CK
      unfold spV spC exS plQ at CK
      have hq : ∀ W, (binOp .neq 35 (.agg #[.int .u64 0, .int .u64 1]) (.agg #[.int .u64 0, .int .u64 1])).run Tryd.prog W = .ok (.bool false) W := fun W => run_neqT (eqI_trace 9998 0 1 0 1 W)
      have hg := guard_trace
      clear hw7 d0 d1 d2 d3 d4 d5 d6 d7 d8 d9 d10 d11 d12
      go_region_held3 (fun W => W.cell? ⟨wr.heap.size, 0, none⟩ = some (.int .u64 0) ∧ W.cell? ⟨wr.heap.size, 1, none⟩ = some (.int .u64 1) ∧ W.cell? ⟨wr.heap.size, 2, none⟩ = some (.int .u64 2) ∧ W.cell? ⟨wr.heap.size, 3, none⟩ = some (.int .u64 0) ∧ W.cell? ⟨wr.heap.size, 4, none⟩ = some (.slice none 0 0) ∧ W.cell? ⟨wr.heap.size, 5, none⟩ = some (.string ⟨#[98]⟩) ∧ W.cell? ⟨wr.heap.size, 6, none⟩ = some (.string ⟨#[111]⟩) ∧ W.cell? ⟨wr.heap.size, 7, none⟩ = some (.int .i64 0) ∧ W.cell? ⟨wr.heap.size, 8, none⟩ = some (.int .i64 2) ∧ W.cell? ⟨wr.heap.size, 9, none⟩ = some (.int .i64 7) ∧ W.cell? ⟨wr.heap.size, 10, none⟩ = some (.int .i64 8) ∧ W.cell? ⟨wr.heap.size, 11, none⟩ = some (.slice none 0 0) ∧ W.cell? ⟨wr.heap.size, 12, none⟩ = some (.slice none 0 0) ∧ W.cell? ⟨b, 0, none⟩ = some (.int .u64 0) ∧ W.cell? ⟨b, 1, none⟩ = some (.int .u64 1)) (first | exact KB _ B0 | exact KB _ B1) (first
        | (go_at_call 30; refine CK.mono ?_; clear CK; rintro e w8 ⟨rfl, hb8⟩; have B1 : Below w7.heap.size w7 w8 := B0.trans (hb8.mono B0.size))
        | fail)
      have k8 : Blk w8 w.heap.size #[.int .u64 1, .int .u64 0] 45 := H7.out.2.1.below B1 H7.out.2.2
      have o1 := k8.cell 1 rfl
      have g1 := k8.frozen 1
      have c8 := (KB w8 B1).2.2.1
      have H8 : Hid (Below w.heap.size w w8 ∧ Blk w8 w.heap.size #[.int .u64 1, .int .u64 0] 45) := ⟨H7.out.1.trans (B1.mono H7.out.1.size), k8⟩
      clear KB B0 B1 hb8 k8
      go_wp2
      go_roundw
      case rel => exact Or.inr (Or.inr ⟨rfl, H8.out.1.setCell (p := ⟨w.heap.size, 1, none⟩) (Nat.le_refl _) _, H8.out.2.set 1 (.int .u64 2)⟩)
      case measure => decide
    · obtain ⟨hb, hI⟩ := hrel
      have ST := sort2_any w.heap.size wr hI
      have CP : Hid (∀ W, Below wr.heap.size wr W → Calls Tryd.prog 32 #[.slice (some ⟨w.heap.size, 0, none⟩) 2 2] W fun e w' => e = .returned (.slice (some ⟨w.heap.size, 0, none⟩) 2 2) ∧ Below W.heap.size W w') := fun W hW => compact2_any _ W (hI.below hW hI.lt)
      clear hI
      go_wp2_with (first
        | (go_at_call 31; refine ST.mono ?_; clear ST; rintro e w1 ⟨rfl, hb1⟩; have C1 := CP.out w1 hb1; clear CP)
        | (go_at_call 32; refine C1.mono ?_; clear C1; rintro e w2 ⟨rfl, hb2⟩))
      go_ret
      exact ⟨rfl, hb.trans ((hb1.trans (hb2.mono hb1.size)).mono hb.size)⟩
end Go.Proofs.YtfgmjgoegdiieaaDoor
