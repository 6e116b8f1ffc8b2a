/-
  Merged: CE, CF.
-/
import Derived.Test.YtbefeobikjnlpaaGreatDoorCHq
import Derived.Test.YtbefeobikjnlpaaGreatDoorCMq
import Derived.Test.YtbefeobikjnlpaaGreatDoorSkHq
namespace Go.Proofs.YtbefeobikjnlpaaGreatDoor.sk
open Go.RowKit
set_option maxRecDepth 100000

theorem bars_oneC (x : Cal) (h : tookN x < 18446744073709551616) : barsF (oneC x) = [((idxN (tookN x) : Int), 1)] := by
  have hi := idxN_lt h
  refine barsF_is (by rw [chkF_iff]; exact ⟨fun b hb => by simp at hb; subst hb; simp only; omega, List.pairwise_singleton _ _⟩) (by simp) fun i _ => ?_
  unfold oneC
  rw [cntF_cons]
  simp only
  by_cases e : i = idxN (tookN x)
  · rw [if_pos e, if_pos (by omega)]; rfl
  · rw [if_neg e, if_neg (by omega)]; rfl
theorem own_one {base : Nat} {w : World} {g : Nat} {i c : Int} (h : Blk w g #[.int .i64 i, .int .u64 c] 75) (hb : base ≤ g) : OwnBar base w (.slice (some ⟨g, 0, none⟩) 1 1) [(i, c)] := by
  refine ⟨rfl, Or.inr ⟨g, 1, _, rfl, hb, h, Nat.le_refl _, by unfold maxLen; omega, rfl, rfl⟩⟩
theorem oneC_top (x : Cal) : ∀ j, oneC x j ≤ topC := fun j => Nat.le_trans (oneC_le x j) (by rw [topC_eq]; omega)
/-- What One tells. -/
def OneP (x : Cal) (w : World) (e : Ending) (w' : World) : Prop := ∃ ao cp, e = .returned (talV 1 (failN x) (tookN x) ao 1 cp) ∧ Hid (SkAt w' ao 1 (oneC x)) ∧ Below w.heap.size w w' ∧ Hid (OwnBar w.heap.size w' (.slice ao 1 cp) (barsF (oneC x)))
theorem one_end (x : Cal) (w w' : World) (g : Nat) (hx : 0 ≤ x.2.2.2.2 ∧ x.2.2.2.2 < 18446744073709551616) (h : Blk w' g #[.int .i64 (idxN (tookN x) : Int), .int .u64 1] 75) (hg : w.heap.size ≤ g) (hb : Below w.heap.size w w') :
    OneP x w (.returned (.agg (talL 0 1 0 (failI x.2.2.2.1) 0 x.2.2.2.2 (some ⟨g, 0, none⟩) 1 1).toArray)) w' := by
  have ht : tookN x < 18446744073709551616 := by unfold tookN; omega
  have e1 := bars_oneC x ht
  have ho : OwnBar w.heap.size w' (.slice (some ⟨g, 0, none⟩) 1 1) (barsF (oneC x)) := by rw [e1]; exact own_one h hg
  obtain ⟨ao, c, e2, hI, _⟩ := InAt.own ho (oneC_top x)
  rw [e1] at e2 hI
  simp at e2
  obtain ⟨rfl, rfl⟩ := e2
  refine ⟨_, 1, ?_, ⟨by rw [e1]; rfl, by rw [e1]; exact hI, oneC_top x⟩, hb, ho⟩
  unfold talV
  have a1 : hi64 (failN x) = 0 := by have := failN_le x; unfold hi64; omega
  have a2 : (lo64 (failN x) : Int) = failI x.2.2.2.1 := by have := failN_le x; unfold lo64 failN failI; split <;> rfl
  have a3 : hi64 (tookN x) = 0 := by unfold hi64; omega
  have a4 : (lo64 (tookN x) : Int) = x.2.2.2.2 := by unfold lo64 tookN; omega
  rw [a1, a2, a3, a4]
  rfl
theorem fails_bel (h : Int) (s t : ByteArray) (f : Bool) (k : Int) (w : World) :
    Calls Tryz.prog 39 #[.agg (calL (h, s, t, f, k)).toArray] w fun e w' => e = .returned (.int .u64 (failI f)) ∧ Below w.heap.size w w' := by
  refine (fails_any h s t f k w).mono fun e w' h => ?_
  obtain ⟨h1, rfl⟩ := h
  exact ⟨h1, (Below.refl _ _).alloc (Nat.le_refl _) _⟩
set_option maxHeartbeats 4000000 in
theorem cOne_any (x : Cal) (hx : 0 ≤ x.2.2.2.2 ∧ x.2.2.2.2 < 18446744073709551616) (w : World) :
    Calls Tryz.prog 18 #[calV x] w (OneP x w) := by
  have HE : Hid (∀ w' g, Blk w' g #[.int .i64 (idxN (tookN x) : Int), .int .u64 1] 75 → w.heap.size ≤ g → Below w.heap.size w w' → OneP x w (.returned (.agg (talL 0 1 0 (failI x.2.2.2.1) 0 x.2.2.2.2 (some ⟨g, 0, none⟩) 1 1).toArray)) w') := fun w' g h1 h2 h3 => one_end x w w' g hx h1 h2 h3
  have IX := skIndex (tookN x) (by unfold tookN; omega)
  rw [show ((tookN x : Nat) : Int) = x.2.2.2.2 by unfold tookN; omega] at IX
  generalize OneP x w = R at *
  generalize (idxN (tookN x) : Int) = ix at *
  obtain ⟨h, s, t, f, k⟩ := x
  have F1 := fun W => fails_bel h s t f k W
  simp only at hx HE IX
  unfold calV
  clear hx
  obtain ⟨V, hV⟩ : ∃ V, (w.alloc (.cells (calL (h, s, t, f, k)).toArray 68)).alloc (.cells (talL 0 0 0 0 0 0 none 0 0).toArray 43) = V := ⟨_, rfl⟩
  have HC : Hid (Blk V w.heap.size (calL (h, s, t, f, k)).toArray 68) := by rw [← hV]; exact (Blk.new _ _ _).alloc _
  have HR : Hid (Blk V (w.heap.size + 1) (talL 0 0 0 0 0 0 none 0 0).toArray 43) := by
    rw [← hV]
    have := Blk.new (w.alloc (.cells (calL (h, s, t, f, k)).toArray 68)) (talL 0 0 0 0 0 0 none 0 0).toArray 43
    rw [World.size_alloc] at this
    exact this
  have HBV : Hid (Below w.heap.size w V) := by rw [← hV]; exact ((Below.refl _ _).alloc (Nat.le_refl _) _).alloc (by simp) _
  have HZ : Hid (V.heap.size = w.heap.size + 2) := by
    have : V.heap.size = w.heap.size + 2 := by rw [← hV]; simp
    exact this
  simp only [calL, talL] at hV ⊢
  go_enter Tryz.func18, Tryz.ntmps18
  go_wp2
  refine wp_region_held (S := fun W => Blk W w.heap.size (calL (h, s, t, f, k)).toArray 68) (by kernel_rfl) ?_
  change wpAnyH _ _ _ _ _ _ _ _ (World.drew _)
  have hS0 : Blk V.drew w.heap.size (calL (h, s, t, f, k)).toArray 68 := HC.out
  refine takeC (i := 0) (v := .agg #[.int .u64 0, .int .u64 1]) rfl (by kernel_rfl) (by kernel_rfl) (by kernel_rfl) (fun _ _ _ h => h) (Or.inl ⟨by rfl, fun W hW => by go_simp⟩) hS0 ?_
  simp only [Act.put, List.setIfInBounds_toArray, List.set_cons_zero, List.set_cons_succ]
  refine takeC (i := 1) (v := .agg (calL (h, s, t, f, k)).toArray) rfl (by kernel_rfl) (by kernel_rfl) (by kernel_rfl) (fun _ _ _ h => h) (yieldsIf_load_mid (by rfl) 68 _ rfl w.heap.size 0 rfl (calL (h, s, t, f, k)) _ (fun W hW => fun j v hv => by rw [Nat.zero_add]; exact Blk.cell hW j (by rw [List.getElem?_toArray]; exact hv)) Tryz.underlying68 rfl (by kernel_rfl)) hS0 ?_
  simp only [Act.put, List.setIfInBounds_toArray, List.set_cons_zero, List.set_cons_succ]
  refine takeC (i := 4) (v := .pointer (some ⟨w.heap.size, 4, none⟩)) rfl (by kernel_rfl) (by kernel_rfl) (by kernel_rfl) (fun _ _ _ h => h) (Or.inl ⟨by rfl, fun W hW => by go_simp⟩) hS0 ?_
  simp only [Act.put, List.setIfInBounds_toArray, List.set_cons_zero, List.set_cons_succ]
  refine takeC (i := 5) (v := .int .u64 k) rfl (by kernel_rfl) (by kernel_rfl) (by kernel_rfl) (fun _ _ _ h => h) (Or.inl ⟨by rfl, fun W hW => by have hW4 : W.cell? ⟨w.heap.size, 4, none⟩ = some (.int .u64 k) := Blk.cell hW 4 rfl; clear hW; go_simp⟩) hS0 ?_
  simp only [Act.put, List.setIfInBounds_toArray, List.set_cons_zero, List.set_cons_succ]
  refine takeC (i := 6) (v := .agg #[.int .u64 0, .int .u64 k]) rfl (by kernel_rfl) (by kernel_rfl) (by kernel_rfl) (fun _ _ _ h => h) (Or.inl ⟨by rfl, fun W hW => by go_simp⟩) hS0 ?_
  simp only [Act.put, List.setIfInBounds_toArray, List.set_cons_zero, List.set_cons_succ]
  refine takeC (i := 7) (v := .pointer (some ⟨w.heap.size, 4, none⟩)) rfl (by kernel_rfl) (by kernel_rfl) (by kernel_rfl) (fun _ _ _ h => h) (Or.inl ⟨by rfl, fun W hW => by go_simp⟩) hS0 ?_
  simp only [Act.put, List.setIfInBounds_toArray, List.set_cons_zero, List.set_cons_succ]
  refine takeC (i := 8) (v := .int .u64 k) rfl (by kernel_rfl) (by kernel_rfl) (by kernel_rfl) (fun _ _ _ h => h) (Or.inl ⟨by rfl, fun W hW => by have hW4 : W.cell? ⟨w.heap.size, 4, none⟩ = some (.int .u64 k) := Blk.cell hW 4 rfl; clear hW; go_simp⟩) hS0 ?_
  simp only [Act.put, List.setIfInBounds_toArray, List.set_cons_zero, List.set_cons_succ]
  refine onlyC (i := 2) rfl (by kernel_rfl) (fun K hK => ?_)
  go_simp
  go_at_call 39
  (with_reducible refine (F1 _).mono ?_)
  clear F1
  rintro x w2 ⟨rfl, b2⟩
  have hS1 := Blk.below hS0 b2 (Blk.lt hS0)
  refine hK _ _ ⟨hS1, ?_⟩
  clear hK K
  refine takeC (i := 3) (v := .agg #[.int .u64 0, .int .u64 (failI f)]) rfl (by kernel_rfl) (by kernel_rfl) (by kernel_rfl) (fun _ _ _ h => h) (Or.inl ⟨by rfl, fun W hW => by go_simp⟩) hS1 ?_
  simp only [Act.put, List.setIfInBounds_toArray, List.set_cons_zero, List.set_cons_succ]
  refine onlyC (i := 9) rfl (by kernel_rfl) (fun K hK => ?_)
  go_simp
  go_at_call 40
  (with_reducible refine (IX _).mono ?_)
  clear IX
  rintro x w' ⟨rfl, hw⟩
  obtain rfl := hw.symm
  refine hK _ _ ⟨hS1, ?_⟩
  clear hK K
  refine takeC (i := 10) (v := .agg #[.int .i64 ix, .int .u64 1]) rfl (by kernel_rfl) (by kernel_rfl) (by kernel_rfl) (fun _ _ _ h => h) (Or.inl ⟨by rfl, fun W hW => by go_simp⟩) hS1 ?_
  simp only [Act.put, List.setIfInBounds_toArray, List.set_cons_zero, List.set_cons_succ]
  refine onlyC (i := 11) rfl (by kernel_rfl) (fun K hK => ?_)
  go_simp
  have hS2 : Blk (w2.alloc (.cells #[.int .i64 ix, .int .u64 1] 75)) w.heap.size (calL (h, s, t, f, k)).toArray 68 := Blk.alloc hS1 _
  refine hK _ _ ⟨hS2, ?_⟩
  clear hK K
  have bb : Below V.heap.size V w2 := (Below.refl V.heap.size V).drew.trans b2
  have ba : Below w2.heap.size w2 (w2.alloc (.cells #[.int .i64 ix, .int .u64 1] 75)) := (Below.refl _ _).alloc (Nat.le_refl _) _
  refine takeC (i := 12) (v := .agg (talL 0 1 0 (failI f) 0 k (some ⟨w2.heap.size, 0, none⟩) 1 1).toArray) rfl (by kernel_rfl) (by kernel_rfl) (by kernel_rfl) (fun _ _ _ h => h) (Or.inl ⟨by rfl, fun W hW => by go_simp; rfl⟩) hS2 ?_
  simp only [Act.put, List.setIfInBounds_toArray, List.set_cons_zero, List.set_cons_succ]
  refine onlyC (i := 13) rfl (by kernel_rfl) (fun K hK => ?_)
  refine step_stW (by rfl) 43 _ _ (by rfl) (w.heap.size + 1) (talL 0 0 0 0 0 0 none 0 0) (talL 0 1 0 (failI f) 0 k (some ⟨w2.heap.size, 0, none⟩) 1 1) 43 (Blk.below (Blk.below HR.out bb (Blk.lt HR.out)) ba (Nat.lt_of_lt_of_le (Blk.lt HR.out) bb.size)) (by rfl) (by rfl) (by rfl) (by kernel_rfl) talL_one ?_
  intro v5 n5 u5
  have hS5 : Blk v5 w.heap.size (calL (h, s, t, f, k)).toArray 68 := Blk.upd hS2 u5 (by omega)
  refine hK _ _ ⟨hS5, ?_⟩
  clear hK K
  have hsz : w.heap.size + 2 ≤ w2.heap.size := by have := bb.size; have := HZ.out; omega
  have hN : Blk v5 w2.heap.size #[.int .i64 ix, .int .u64 1] 75 := Blk.upd (Blk.new _ _ _) u5 (by omega)
  have HB5 : Below w.heap.size w v5 := (((HBV.out.trans (bb.mono HBV.out.size)).trans (ba.mono (by omega)))).trans (u5.below (by rw [World.size_alloc]; omega) (fun k hk e => by omega))
  have hE := HE.out v5 w2.heap.size hN (by omega) HB5
  refine wpAnyH_done (by kernel_rfl) ?_ _
  go_wp2
  (try simp only [Exit.inBlock, Exit.then])
  refine bodyPost_ret (v := .agg (talL 0 1 0 (failI f) 0 k (some ⟨w2.heap.size, 0, none⟩) 1 1).toArray) ?_ rfl hE
  have hld := blk_loadT n5
  simp [results, Tryz.results18, asAddr, hld]
end Go.Proofs.YtbefeobikjnlpaaGreatDoor.sk

namespace Go.Proofs.YtbefeobikjnlpaaGreatDoor.sk
open Go.RowKit
set_option maxRecDepth 100000

end Go.Proofs.YtbefeobikjnlpaaGreatDoor.sk
