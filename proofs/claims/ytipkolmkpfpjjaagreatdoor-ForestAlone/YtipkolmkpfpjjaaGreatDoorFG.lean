/-
  FG.
-/
import Derived.Test.YtipkolmkpfpjjaaGreatDoorYcq
namespace Go.Proofs.YtipkolmkpfpjjaaGreatDoor
open Go Go.RowKit
set_option maxRecDepth 100000

/-- A row of numbers. -/
def intB (L : List Int) : Array Value := (L.map (Value.int .i64)).toArray
theorem intB_set (L : List Int) (k : Nat) (v : Int) : (intB L).setIfInBounds k (.int .i64 v) = intB (L.set k v) := by
  unfold intB
  rw [List.setIfInBounds_toArray, List.map_set]
theorem intB_get (L : List Int) (k : Nat) (h : k < L.length) : (intB L)[k]? = some (.int .i64 L[k]) := by
  unfold intB
  simp [h]
theorem intB_made (n : Nat) : madeCells (Value.int .i64 0).cells (n * 1) = intB (List.replicate n 0) := by
  rw [show (Value.int .i64 0).cells = #[Value.int .i64 0] from rfl, made_one]
  unfold intB
  apply Array.toList_inj.1
  simp
/-- The number of a span's spot. -/
def idxI (X : List Spot) (id : Int) : Int := match X.findIdx? (fun x => x.nd.id == id) with | some k => (k : Int) | none => -1
theorem idx_found {X : List Spot} (hr : RiseS X) {k : Nat} (hk : k < X.length) {id : Int} (h : X[k].nd.id = id) : idxI X id = (k : Int) := by
  have : X.findIdx? (fun x => x.nd.id == id) = some k := by
    rw [List.findIdx?_eq_some_iff_getElem]
    refine ⟨hk, by simp [h], fun j hj => ?_⟩
    have := hr j k (by omega) hk hj
    simp
    omega
  unfold idxI
  rw [this]
theorem idx_none {X : List Spot} {id : Int} (h : ∀ i (h : i < X.length), X[i].nd.id ≠ id) : idxI X id = -1 := by
  have : X.findIdx? (fun x => x.nd.id == id) = none := by
    rw [List.findIdx?_eq_none_iff]
    intro x hx
    obtain ⟨i, hi, rfl⟩ := List.getElem_of_mem hx
    simpa using h i hi
  unfold idxI
  rw [this]
theorem idx_range (X : List Spot) (id : Int) : -1 ≤ idxI X id ∧ idxI X id < X.length := by
  unfold idxI
  split
  · rename_i k hk
    have := (List.findIdx?_eq_some_iff_getElem.1 hk).1
    omega
  · omega
theorem fill_step (M : List Int) (n k : Nat) (hM : M.length = n) (hk : k < n) (z : Int) : (M.take k ++ List.replicate (n - k) z).set k (M[k]'(by omega)) = M.take (k + 1) ++ List.replicate (n - (k + 1)) z := by
  have h1 : (M.take k).length = k := by simp; omega
  have h2 : n - k = (n - (k + 1)) + 1 := by omega
  rw [List.set_append_right _ _ (by omega), h1, Nat.sub_self, h2, List.replicate_succ, List.set_cons_zero, List.take_succ_eq_append_getElem (by omega), List.append_assoc]
  rfl
theorem fill_at (M : List Int) (n k : Nat) (hM : M.length = n) (hk : k < n) (z : Int) : ∃ h : k < (M.take k ++ List.replicate (n - k) z).length, (M.take k ++ List.replicate (n - k) z)[k] = z := by
  have h1 : (M.take k).length = k := by simp; omega
  refine ⟨by simp; omega, ?_⟩
  rw [List.getElem_append_right (by omega)]
  simp
def zSpotL : List Value := [.int .u64 0, .int .u64 0, .int .u64 0, .int .u64 0, .slice none 0 0, .string ⟨#[]⟩, .string ⟨#[]⟩, .int .i64 0, .int .i64 0, .int .i64 0, .int .i64 0, .slice none 0 0, .slice none 0 0, .int .u64 0, .int .u64 0, .int .i64 0, .int .u64 0, .int .i64 0, .int .i64 0, .int .i64 0, .slice none 0 0]
def nmOf (X : List Spot) : List Int := X.map (fun x => idxI X x.a.par)
set_option maxHeartbeats 4000000 in
theorem named_any (f sb : Nat) (X : List Spot) (w : World) (hf : w.cell? ⟨f, 0, none⟩ = some (.slice (some ⟨sb, 0, none⟩) X.length X.length)) (hB : Blk w sb (rowS X) 71) (hr : RiseS X) (hl : X.length ≤ 1000) :
    Calls Tryz.prog 40 #[.pointer (some ⟨f, 0, none⟩)] w fun e w' => ∃ r, e = .returned (.slice (some ⟨r, 0, none⟩) X.length X.length) ∧ Blk w' r (intB (nmOf X)) 3 ∧ w.heap.size ≤ r ∧ Below w.heap.size w w' := by
  have HF : Hid (w.cell? ⟨f, 0, none⟩ = some (.slice (some ⟨sb, 0, none⟩) X.length X.length)) := hf
  have HB : Hid (Blk w sb (rowS X) 71) := hB
  have HR : Hid (RiseS X) := hr
  have hflt : Hid (f < w.heap.size) := World.block_lt_of_cell? w _ hf
  have FA : ∀ id W, Below w.heap.size w W → Calls Tryz.prog 27 #[.pointer (some ⟨f, 0, none⟩), .int .u64 id] W fun e w' => (∃ (k : Nat) (b : Bool), e = .returned (.tuple #[.int .i64 k, .bool b]) ∧ (b = true → idxI X id = (k : Int)) ∧ (b = false → idxI X id = -1)) ∧ Below W.heap.size W w' := fun id W hb => by
    refine (find_any f sb X.length X id W ((hb.cell (World.block_lt_of_cell? w _ hf)).trans hf) (hB.below hb hB.lt) rfl hr (by omega)).mono ?_
    rintro e w' ⟨⟨v, rfl, hv⟩, hb'⟩
    refine ⟨?_, hb'⟩
    rcases hv with ⟨k, hk, hid, rfl⟩ | ⟨hno, k, rfl⟩
    · exact ⟨k, true, rfl, fun _ => idx_found hr hk hid, (fun h => by cases h)⟩
    · exact ⟨k, false, rfl, (fun h => by cases h), fun _ => idx_none hno⟩
  have HFA : Hid _ := FA
  obtain ⟨n, hn⟩ : ∃ n, X.length = n := ⟨_, rfl⟩
  have HN : Hid (X.length = n) := hn
  rw [hn] at hl hf ⊢
  have hlN : (nmOf X).length = n := by simp [nmOf, hn]
  have HLN : Hid ((nmOf X).length = n) := hlN
  clear hB hr hn hlN FA
  go_enter Tryz.func40, Tryz.ntmps40
  go_wp2_with (at_make; refine wpList_mk rfl _ _ 23 rfl 3 (.int .i64 0) 1 8 Tryz.underlying23 infoI n rfl rfl (by omega) (by unfold maxLen; omega) ?_; intro w1 b1 hb1; have f1 : w1.cell? ⟨f, 0, none⟩ = some (.slice (some ⟨sb, 0, none⟩) n n) := (hb1.cell (p := ⟨f, 0, none⟩) hflt.out).trans hf)
  rw [intB_made] at b1
  have B0 : Hid (Blk w1 w.heap.size (intB (List.replicate n 0)) 3) := b1
  have HB1 : Hid (Below w.heap.size w w1) := hb1
  obtain ⟨r, hrr⟩ : ∃ r, w.heap.size = r := ⟨_, rfl⟩
  have HRR : Hid (w.heap.size = r) := hrr
  rw [hrr] at B0 ⊢
  clear b1 hb1 hrr f1 hf
  go_loopw [19] (fun x wr => ∃ k : Nat, x = .int .i64 k ∧ k ≤ n ∧ Blk wr r (intB ((nmOf X).take k ++ List.replicate (n - k) 0)) 3 ∧ Below w.heap.size w wr) (fun x _ => n - (intOf x).toNat)
  case atStart => exact ⟨0, rfl, by omega, by simpa using B0.out, HB1.out⟩
  case round =>
    obtain ⟨k, rfl, hkn, hblk, hb⟩ := hrel
    have HBB : Hid (Below w.heap.size w wr) := hb
    have HBK : Hid (Blk wr r (intB ((nmOf X).take k ++ List.replicate (n - k) 0)) 3) := hblk
    clear hb hblk
    by_cases hlt : k < n
    · have hkX : k < X.length := by rw [HN.out]; exact hlt
      have f1 : wr.cell? ⟨f, 0, none⟩ = some (.slice (some ⟨sb, 0, none⟩) n n) := (HBB.out.cell (p := ⟨f, 0, none⟩) hflt.out).trans (by rw [← HN.out]; exact HF.out)
      have LD : Hid (wr.rangeAt sb (k * 21) (enS X[k])) := Blk.range (Blk.below HB.out HBB.out (Blk.lt HB.out)) k hkX
      have hMk : (nmOf X)[k]'(by rw [HLN.out]; exact hlt) = idxI X X[k].a.par := by simp [nmOf]
      have HMK : Hid ((nmOf X)[k]'(by rw [HLN.out]; exact hlt) = idxI X X[k].a.par) := hMk
      obtain ⟨x, hx⟩ : ∃ x, X[k]'hkX = x := ⟨_, rfl⟩
      rw [hx] at LD HMK
      have hkr : Hid (∀ W, Upd (fun j => j = wr.heap.size) (wr.alloc (.cells zSpotL.toArray 71)) W → Blk W wr.heap.size (enS x).toArray 71 → Below w.heap.size w W ∧ Blk W r (intB ((nmOf X).take k ++ List.replicate (n - k) 0)) 3) := fun W hu _ => by
        have hs := HBB.out.size
        have hb : Below w.heap.size w W := (HBB.out.alloc hs _).trans (hu.below (by simp; omega) (fun j hj e => by omega))
        refine ⟨hb, ?_⟩
        have h0 : Blk (wr.alloc (.cells zSpotL.toArray 71)) r (intB ((nmOf X).take k ++ List.replicate (n - k) 0)) 3 := Blk.alloc HBK.out _
        exact Blk.upd h0 hu (fun e => by have := Blk.lt HBK.out; omega)
      have STEP : Hid (∀ W v, Blk W r (intB (((nmOf X).take k ++ List.replicate (n - k) 0).set k v)) 3 → v = idxI X x.a.par → Blk W r (intB ((nmOf X).take (k + 1) ++ List.replicate (n - (k + 1)) 0)) 3) := fun W v hW hv => by
        rw [← fill_step (nmOf X) n k HLN.out hlt 0, HMK.out, ← hv]
        exact hW
      have GET : Hid (∀ W (L : List Int) v, Blk W r (intB (L.set k v)) 3 → k < L.length → W.cell? ⟨r, k, none⟩ = some (.int .i64 v)) := fun W L v hW hL => Blk.cell hW k (by rw [intB_get _ _ (by simpa using hL)]; simp)
      have hlen : Hid (k < ((nmOf X).take k ++ List.replicate (n - k) 0).length) := (fill_at (nmOf X) n k HLN.out hlt 0).1
      have GET0 : Hid (∀ W, Blk W r (intB ((nmOf X).take k ++ List.replicate (n - k) 0)) 3 → W.cell? ⟨r, k, none⟩ = some (.int .i64 0)) := fun W hW => Blk.cell hW k (by rw [intB_get _ _ hlen.out]; obtain ⟨_, h2⟩ := fill_at (nmOf X) n k HLN.out hlt 0; rw [h2])
      clear hMk hx
      go_wp2_with (first
        | (refine wpList_spot rfl _ rfl sb _ x LD.out rfl ?_)
        | (refine wpList_stW rfl 71 _ _ rfl wr.heap.size zSpotL (enS x) 71 (Blk.new _ _ _) rfl rfl rfl (by kernel_rfl) (enS_one _) ?_; intro w2 n2 u2; obtain ⟨hb2, hr2⟩ := hkr.out w2 u2 n2; have e3 : w2.cell? ⟨wr.heap.size, 3, none⟩ = some (.int .u64 x.a.par) := Blk.cell n2 3 rfl; have d1 := GET0.out w2 hr2; have d2 := Blk.frozen hr2 k; have hr3 := Blk.set hr2 k (.int .i64 (-1)); rw [intB_set] at hr3; have hb3 : Below w.heap.size w (w2.setCell ⟨r, k, none⟩ (.int .i64 (-1))) := Below.setCell hb2 (by have := HRR.out; simp; omega) _; have hne : r ≠ wr.heap.size := (by have := Blk.lt HBK.out; omega); have HN2 : Hid (Blk w2 wr.heap.size (enS x).toArray 71) := n2; have HR3 : Hid (Blk (w2.setCell ⟨r, k, none⟩ (.int .i64 (-1))) r (intB (((nmOf X).take k ++ List.replicate (n - k) 0).set k (-1))) 3) := hr3; have HB3 : Hid (Below w.heap.size w (w2.setCell ⟨r, k, none⟩ (.int .i64 (-1)))) := hb3; clear n2 u2 hb2 hr2 hr3 hb3)
        | (go_at_call 27; refine (HFA.out x.a.par _ HB3.out).mono ?_; rintro e w4 ⟨⟨j, b, rfl, hj1, hj2⟩, hb4⟩; have hr4 := Blk.below HR3.out hb4 (Blk.lt HR3.out); have g1 := GET.out w4 _ (-1) hr4 hlen.out; have g2 := Blk.frozen hr4 k; have HR4 : Hid (Blk w4 r (intB (((nmOf X).take k ++ List.replicate (n - k) 0).set k (-1))) 3) := hr4; have HB4 : Hid (Below w.heap.size w w4) := HB3.out.trans (hb4.mono HB3.out.size); clear hr4 hb4; cases b))
      · go_roundw
        case rel => exact ⟨k + 1, by simp, by omega, STEP.out w4 (-1) HR4.out (hj2 (by simp)).symm, HB4.out⟩
        case measure => simp [intOf]; omega
      · go_roundw
        case rel =>
          refine ⟨k + 1, by simp, by omega, ?_, Below.setCell HB4.out (by have := HRR.out; simp; omega) _⟩
          have h5 := Blk.set HR4.out k (.int .i64 (j : Int))
          rw [intB_set, List.set_set] at h5
          exact STEP.out _ _ h5 (hj1 (by simp)).symm
        case measure => simp [intOf]; omega
    · obtain rfl : k = n := by omega
      go_wp2
      go_ret
      refine ⟨r, rfl, ?_, by have := HRR.out; omega, HBB.out⟩
      have := HBK.out
      rw [List.take_of_length_le (by rw [HLN.out]; exact Nat.le_refl _), Nat.sub_self, List.replicate_zero, List.append_nil] at this
      exact this
end Go.Proofs.YtipkolmkpfpjjaaGreatDoor
