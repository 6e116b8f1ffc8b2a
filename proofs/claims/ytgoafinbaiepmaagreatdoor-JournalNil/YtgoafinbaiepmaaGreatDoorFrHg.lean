/-
  Contracts: a frame's head that is right; Head.
-/
import Derived.Test.YtgoafinbaiepmaaGreatDoorFrHe
namespace Go.Proofs.YtgoafinbaiepmaaGreatDoor.fr
open Go.RowKit
set_option maxRecDepth 100000

/-- A right head's value. -/
def headOf (K : List Int) : Value := headV (K.getD 3 0) (numI (part K 4 8)) (numI (part K 12 4)) (sumI (part K 16 4))

theorem Holds.heap {w w' : World} {ad : Option Addr} {n : Nat} {K : List Int} (h : Holds w ad n K) (e : w'.heap = w.heap) : Holds w' ad n K :=
  h.mono (fun a v hc _ => by unfold World.cell? at hc ⊢; rw [e]; exact hc)
set_option maxHeartbeats 2000000 in
theorem tableHead_good (T b o n cap : Nat) (K : List Int) (w : World) (hT : w.heap[T]? = some (.cells (tabAt 256) 220 (0, 0))) (h : Holds w (some ⟨b, o, none⟩) n K) (hK : ByteL K) (hn : 24 ≤ n) (hcap : n ≤ cap) (hR : RightH K) :
    Calls Tryz.prog 217 #[.pointer (some ⟨T, 0, none⟩), .slice (some ⟨b, o, none⟩) n cap] w fun e w' => e = .returned (.tuple #[headOf K, .int .i64 0]) ∧ Below w.heap.size w w' := by
  have hz : ¬ ((n : Int) < 24) := by omega
  have hl := h.len
  have hz24 : (24 : Int) ≤ (n : Int) := by omega
  have hc24 : (24 : Int) ≤ (cap : Int) := by omega
  have hc3 : (3 : Int) ≤ (cap : Int) := by omega
  have hc20 : (20 : Int) ≤ (cap : Int) := by omega
  have hc3n : 3 ≤ cap := by omega
  have hc20n : 20 ≤ cap := by omega
  have hc24n : 24 ≤ cap := by omega
  have hc12n : 12 ≤ cap := by omega
  have hb1 : Below w.heap.size w (hw w) := (Below.refl _ _).alloc (Nat.le_refl _) _
  have hB := heap_alloc_new w (.cells #[Value.int IntKind.i64 0, Value.int IntKind.u64 0, Value.int IntKind.i64 0, Value.int IntKind.u32 0] 311)
  have h1 := h.below hb1
  have hT1 := (hb1.block T (lt_of_block hT)).trans hT
  obtain ⟨k, hk⟩ : ∃ k, K.getD 3 0 = k := ⟨_, rfl⟩
  have hck := h1.at 3 (by omega)
  rw [hk, Addr.add_lit] at hck
  have hk3 : 3 < K.length := by omega
  obtain ⟨hk0, hk1⟩ := hK k (by rw [← hk, List.getD, List.getElem?_eq_getElem hk3]; exact List.getElem_mem hk3)
  have ek : wrap64 k = k := by unfold wrap64; omega
  have N := number_any b (o + 12) 4 (cap - 12) (part K 12 4) _ (h1.part 12 4 (by omega)) (hK.part _ _) (by omega)
  obtain ⟨d1, d2, d3, d4⟩ := hR
  have d1' : Hid (K.take 3 = [83, 80, 82]) := d1
  rw [hk] at d2
  unfold headOf
  rw [hk]
  obtain ⟨L, hL⟩ : ∃ L, numI (part K 12 4) = L := ⟨_, rfl⟩
  rw [hL] at N d3 ⊢
  have HC : ∀ m, (convert 37 9 (.slice (some ⟨b, o, none⟩) 3 cap)).run Tryz.prog ((hw w).drewN m) = .ok (.string ⟨#[83, 80, 82]⟩) ((hw w).drewN m) := by
    intro m
    have := h1.part 0 3 (by omega)
    have e := conv_holds (this.drewN m) cap
    rw [show part K 0 3 = [83, 80, 82] from d1] at e
    exact e
  have RS := fun m => readSum_any b (o + 20) (cap - 20) (part K 20 4) ((hw w).drewN m) ((h1.part 20 4 (by omega)).drewN m) (hK.part _ _)
  have RS2 := fun (w' : World) (hw' : w'.heap = (hw w).heap) => readSum_any b (o + 16) (cap - 16) (part K 16 4) w' ((h1.part 16 4 (by omega)).heap hw') (hK.part _ _)
  have N2 := fun (w' : World) (hw' : w'.heap = (hw w).heap) => number_any b (o + 4) 8 (cap - 4) (part K 4 8) w' ((h1.part 4 8 (by omega)).heap hw') (hK.part _ _) (by omega)
  have MO := fun m => more_any T 0#32 (some ⟨b, o, none⟩) 20 cap (K.take 20) ((hw w).drewN m) hT1 ((h1.part 0 20 (by omega)).drewN m) (hK.take 20) (by omega)
  obtain ⟨s2, hs2⟩ : ∃ s, (moreB 0#32 (K.take 20)).toNat = s := ⟨_, rfl⟩
  rw [hs2] at d4
  simp only [d4] at RS
  simp only [hs2] at MO
  have MO' : ∀ m, Calls Tryz.prog 121 #[.pointer (some ⟨T, 0, none⟩), .int .u32 0, .slice (some ⟨b, o, none⟩) 20 cap] ((hw w).drewN m) fun e w' => e = .returned (.int .u32 (s2 : Int)) ∧ w' = (hw w).drewN m := MO
  generalize numI (part K 4 8) = q at N2 ⊢
  generalize sumI (part K 16 4) = s at RS2 ⊢
  have FIN : Hid (∀ m, (loadVar 311 ⟨w.heap.size, 0, none⟩).run Tryz.prog ((((((hw w).drewN m).setCell ⟨w.heap.size, 0, none⟩ (.int .i64 k)).setCell ⟨w.heap.size, 1, none⟩ (.int .u64 q)).setCell ⟨w.heap.size, 2, none⟩ (.int .i64 L)).setCell ⟨w.heap.size, 3, none⟩ (.int .u32 s)) = .ok (headV k q L s) ((((((hw w).drewN m).setCell ⟨w.heap.size, 0, none⟩ (.int .i64 k)).setCell ⟨w.heap.size, 1, none⟩ (.int .u64 q)).setCell ⟨w.heap.size, 2, none⟩ (.int .i64 L)).setCell ⟨w.heap.size, 3, none⟩ (.int .u32 s)) ∧ Below w.heap.size w ((((((hw w).drewN m).setCell ⟨w.heap.size, 0, none⟩ (.int .i64 k)).setCell ⟨w.heap.size, 1, none⟩ (.int .u64 q)).setCell ⟨w.heap.size, 2, none⟩ (.int .i64 L)).setCell ⟨w.heap.size, 3, none⟩ (.int .u32 s))) :=
    fun m => ⟨head_set4 (w := (hw w).drewN m) hB _ _ _ _, ((((below_drewN hb1 m).setCell (Nat.le_refl _) _).setCell (Nat.le_refl _) _).setCell (Nat.le_refl _) _).setCell (Nat.le_refl _) _⟩
  have hd1 : ((⟨#[83, 80, 82]⟩ : ByteArray).toList == [83, 80, 82]) = true := by rw [Lib.toList_data]; rfl
  have hd3 : (L : Int) ≤ 1048576 := by omega
  have hL64 : wrap64 (L : Int) = L := by unfold wrap64; omega
  clear d1 hk hL hs2 d3 d4 hB hb1 MO
  go_enter Tryz.func217, Tryz.ntmps217
  go_wp2_with (go_at_call 239; refine N.mono ?_; rintro e w' ⟨rfl, hw⟩; obtain rfl := hw.symm)
  go_quiet (first | (go_at_call 117; refine Calls.quiet_of_same (isKind_true k d2 _)) | (go_at_call 240; refine Calls.quiet_of_same (RS _)) | (go_at_call 121; refine Calls.quiet_of_same (MO' _)))
  go_wp2
  go_region_with (first | (go_at_call 239; refine (N2 _ (by rfl)).mono ?_; rintro e w' ⟨rfl, rfl⟩) | (go_at_call 240; refine (RS2 _ (by rfl)).mono ?_; rintro e w' ⟨rfl, rfl⟩))
  all_goals
    go_wp2
    obtain ⟨f2, f3⟩ := FIN.out (nq + 1)
    refine bodyPost_ret (v := .tuple #[headV k q L s, .int .i64 0]) ?_ rfl ⟨rfl, f3⟩
    rw [results_cell_tmp rfl]
    simp [asAddr, Result.andThen, f2, Act.put]

/-- What a head is: torn, wrong, or its value. -/
def headR (K : List Int) (r : Value) : Prop := (K.length < 24 ∧ r = .tuple #[headV 0 0 0 0, .int .i64 23]) ∨ (24 ≤ K.length ∧ ¬ RightH K ∧ r = .tuple #[headV 0 0 0 0, .int .i64 24]) ∨ (24 ≤ K.length ∧ RightH K ∧ r = .tuple #[headOf K, .int .i64 0])
theorem headR_has (K : List Int) : ∃ r, headR K r := by
  by_cases h : K.length < 24
  · exact ⟨_, Or.inl ⟨h, rfl⟩⟩
  · by_cases hR : RightH K
    · exact ⟨_, Or.inr (Or.inr ⟨by omega, hR, rfl⟩)⟩
    · exact ⟨_, Or.inr (Or.inl ⟨by omega, hR, rfl⟩)⟩

theorem tableHead_any (T : Nat) (ad : Option Addr) (n cap : Nat) (K : List Int) (r : Value) (hr : headR K r) (w : World) (hT : w.heap[T]? = some (.cells (tabAt 256) 220 (0, 0))) (h : Holds w ad n K) (hK : ByteL K) (hcap : n ≤ cap) :
    Calls Tryz.prog 217 #[.pointer (some ⟨T, 0, none⟩), .slice ad n cap] w fun e w' => e = .returned r ∧ Below w.heap.size w w' := by
  have hl := h.len
  rcases hr with ⟨h1, rfl⟩ | ⟨h1, h2, rfl⟩ | ⟨h1, h2, rfl⟩
  · exact tableHead_short T ad n cap w (by omega)
  · obtain ⟨b, o, rfl⟩ := h.some_of (by omega)
    exact tableHead_bad T b o n cap K w hT h hK (by omega) hcap h2
  · obtain ⟨b, o, rfl⟩ := h.some_of (by omega)
    exact tableHead_good T b o n cap K w hT h hK (by omega) hcap h2

theorem headR_shape {K : List Int} {r : Value} (h : headR K r) : ∃ (k : Int) (q L s : Nat) (e : Int), r = .tuple #[headV k q L s, .int .i64 e] := by
  rcases h with ⟨_, rfl⟩ | ⟨_, _, rfl⟩ | ⟨_, _, rfl⟩
  · exact ⟨_, _, _, _, _, rfl⟩
  · exact ⟨_, _, _, _, _, rfl⟩
  · exact ⟨_, _, _, _, _, rfl⟩
end Go.Proofs.YtgoafinbaiepmaaGreatDoor.fr