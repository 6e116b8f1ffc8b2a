/-
  Merged: OR, OS.
-/
import Derived.Test.YtnffedmcblbkoaaGreatDoorGAq
import Derived.Test.YtnffedmcblbkoaaGreatDoorOXq
import Derived.Test.YtnffedmcblbkoaaGreatDoorOLq
import Derived.Test.YtnffedmcblbkoaaGreatDoorFKq
namespace Go.Proofs.YtnffedmcblbkoaaGreatDoor
open Go Go.RowKit
set_option maxRecDepth 100000
def swO (fin : Nat → Nod) (L : List Nat) : List Nat := L.mergeSort (fun a b => !(decide ((fin b).fr < (fin a).fr ∨ (fin b).fr = (fin a).fr ∧ (fin a).id < (fin b).id)))
theorem swO_ok (fin : Nat → Nod) (L : List Nat) (hn : L.Pairwise (fun a b => (fin a).id ≠ (fin b).id)) : L.Perm (swO fin L) ∧ (swO fin L).Pairwise (fun a b => ltG (fin a) (fin b)) := by
 have hp := List.mergeSort_perm L (fun a b => !(decide ((fin b).fr < (fin a).fr ∨ (fin b).fr = (fin a).fr ∧ (fin a).id < (fin b).id)))
 refine ⟨hp.symm, ?_⟩
 have hs := List.pairwise_mergeSort (le := fun a b => !(decide ((fin b).fr < (fin a).fr ∨ (fin b).fr = (fin a).fr ∧ (fin a).id < (fin b).id))) (fun a b c h1 h2 => by simp at *; omega) (fun a b => by simp; omega) L
 have hn' : (swO fin L).Pairwise (fun a b => (fin a).id ≠ (fin b).id) := (hp.pairwise_iff (fun {a b} h => fun e => h e.symm)).2 hn
 exact (hs.and hn').imp (fun {a b} h => by
  have h1 := h.1
  have h2 := h.2
  unfold ltG
  simp at h1
  omega)
theorem tenv_of {Y : List Sp} {C : List Int} {fin : Nat → Nod} {X : List Spot} {K : Nat → List Int} {R : List Int} {dp : Nat → Nat} (h : FoC Y C fin X K R) (sh : Shape (cutX C (zs Y)) (cutN C (nmOf (zs Y))) dp fin) (hr : RiseS X) (hl : Y.length ≤ 1000) (x : Nat) (hx : x < Y.length) : TEnv X K fin (fun i => (K i).map Int.toNat) (fun i => swO fin ((K i).map Int.toNat)) 1001 x := by
 have hlen := h.len
 have hcl : (cutX C (zs Y)).length = Y.length := by rw [cutX_len, zs_len]
 have hnl : (cutN C (nmOf (zs Y))).length = Y.length := by rw [cutN_len]; simp [nmOf, zs_len]
 have mem : ∀ i, i < Y.length → ∀ c ∈ (K i).map Int.toNat, c < Y.length ∧ (cutN C (nmOf (zs Y))).getD c (-1) = (i : Int) := fun i hi c hc => by
  obtain ⟨z, hz, rfl⟩ := List.mem_map.1 hc
  obtain ⟨q, rfl, h1, h2⟩ := kidsF_iff.1 ((h.kids i hi).1.mem_iff.2 hz)
  exact ⟨by simpa using h1, by simpa using h2⟩
 have pos : ∀ i, i < Y.length → ∀ z ∈ K i, 0 ≤ z := fun i hi z hz => (kidsF_mem ((h.kids i hi).1.mem_iff.2 hz)).1
 have nd : ∀ i, i < Y.length → ((K i).map Int.toNat).Nodup := fun i hi => by
  have h1 : (K i).Nodup := (h.kids i hi).1.nodup_iff.1 (kidsF_nodup _ _ _)
  refine List.pairwise_map.2 (List.Pairwise.imp_of_mem ?_ h1)
  intro a b ha hb hab e
  have := pos i hi a ha
  have := pos i hi b hb
  omega
 have T : TreeK (fun i => (K i).map Int.toNat) (fun c => ((cutN C (nmOf (zs Y))).getD c (-1)).toNat) dp Y.length 1000 := by
  refine ⟨fun i hi c hc => ?_, fun i hi c hc => ?_, fun i hi c hc => (mem i hi c hc).1, nd, fun i hi => (sh.bd i (by omega)).1⟩
  ·rw [(mem i hi c hc).2]; simp
  ·exact (sh.kd c i (by rw [hcl]; exact (mem i hi c hc).1) (by omega) (mem i hi c hc).2).1
 have L := T.len 1001 x hx
 refine ⟨fun i hi => (h.each i (by omega) hi).2, fun i hi => ⟨?_, fun c hc => by rw [hlen]; exact (mem i (by omega) c hc).1, ?_⟩, fun i hi => swO_ok fin _ ?_, T.deep 1001 [x] (fun y hy => by simp at hy; subst hy; exact ⟨hx, by omega⟩), by omega, L.1, by omega⟩
 ·rw [List.map_map]
  have : ∀ z ∈ K i, ((fun c : Nat => (c : Int)) ∘ Int.toNat) z = z := fun z hz => by
   have := pos i (by omega) z hz
   show ((z.toNat : Nat) : Int) = z
   omega
  exact (List.map_congr_left this).trans (List.map_id _) |>.symm
 ·have := sub_len _ (List.range Y.length) (nd i (by omega)) (fun c hc => List.mem_range.2 (mem i (by omega) c hc).1)
  simp only [List.length_range] at this
  omega
 ·refine List.Pairwise.imp_of_mem ?_ (nd i (by omega))
  intro a b ha hb hab e
  have h1 := (mem i (by omega) a ha).1
  have h2 := (mem i (by omega) b hb).1
  refine hab (rise_same hr (by omega) (by omega) ?_)
  rw [(h.each a h1 (by omega)).2, (h.each b h2 (by omega)).2]
  exact e
theorem ownG_of {Y : List Sp} {C : List Int} {fin : Nat → Nod} {X : List Spot} {K : Nat → List Int} {R : List Int} {dp : Nat → Nat} (h : FoC Y C fin X K R) (sh : Shape (cutX C (zs Y)) (cutN C (nmOf (zs Y))) dp fin) (hr : RiseS X) (hl : Y.length ≤ 1000) (x : Nat) (hx : x < Y.length) : OwnG (preN (fun i => (K i).map Int.toNat) 1001 [x]) (fun i => swO fin ((K i).map Int.toNat)) nils (fun i => 1000 - dp i) := by
 have T := tenv_of h sh hr hl x hx
 have hcl : (cutX C (zs Y)).length = Y.length := by rw [cutX_len, zs_len]
 have inY : ∀ (fu : Nat) (L : List Nat), (∀ y ∈ L, y < Y.length) → ∀ y ∈ preN (fun i => (K i).map Int.toNat) fu L, y < Y.length := by
  intro fu
  induction fu with
  | zero => intro L _ y hy; simp [preN] at hy
  | succ fu ih =>
   intro L hL y hy
   simp only [preN, List.mem_flatMap, List.mem_cons] at hy
   obtain ⟨z, hz, rfl | hy⟩ := hy
   ·exact hL y hz
   ·refine ih _ (fun c hc => ?_) y hy
    have := (T.kn z (by rw [h.len]; exact hL z hz)).2.1 c hc
    rw [h.len] at this
    exact this
 refine ⟨fun y hy c hc => ?_, fun y _ c hc => by simp [nils] at hc, fun y hy => ?_⟩
 ·have hyn := inY 1001 [x] (fun z hz => by simp at hz; subst hz; exact hx) y hy
  have hc' : c ∈ (K y).map Int.toNat := (T.sw y (by rw [h.len]; exact hyn)).1.mem_iff.2 hc
  refine ⟨preN_down _ 1001 [x] T.dp y hy c hc', ?_⟩
  obtain ⟨z, hz, rfl⟩ := List.mem_map.1 hc'
  obtain ⟨q, rfl, h1, h2⟩ := kidsF_iff.1 ((h.kids y hyn).1.mem_iff.2 hz)
  have h3 := (sh.kd q y (by rw [hcl]; exact h1) (by rw [hcl]; exact hyn) h2).1
  have h4 := (sh.bd q (by rw [hcl]; exact h1)).1
  simp only [Int.toNat_natCast]
  omega
 ·have hyn := inY 1001 [x] (fun z hz => by simp at hz; subst hz; exact hx) y hy
  have h1 := (T.sw y (by rw [h.len]; exact hyn)).1.length_eq
  have h2 := (T.kn y (by rw [h.len]; exact hyn)).2.2
  simp only [nils, List.length_nil]
  omega
end Go.Proofs.YtnffedmcblbkoaaGreatDoor
namespace Go.Proofs.YtnffedmcblbkoaaGreatDoor
open Go Go.RowKit Go.Lib
set_option maxRecDepth 100000
theorem cptE_len (E : List Int) (h : 1 ≤ E.length) : 1 ≤ (cptE E).length ∧ (cptE E).length ≤ E.length := by
 unfold cptE compactUpTo
 rw [List.length_map]
 constructor
 ·have h0 : 0 ∈ (List.range E.length).filter (keeps E.toArray) := List.mem_filter.2 ⟨List.mem_range.2 (by omega), keeps_lt_one _ 0 (by omega)⟩
  exact List.length_pos_of_mem h0
 ·have := List.length_filter_le (keeps E.toArray) (List.range E.length)
  simpa using this
theorem srtE_len (E : List Int) : (srtE E).length = E.length := List.length_mergeSort E
def knO (K : Nat → List Int) : Nat → List Nat := fun i => (K i).map Int.toNat
theorem ownerB (f sb : Nat) (X : List Spot) (K : Nat → List Int) (rvv : Value) (R : List Int) (Y : List Sp) (C : List Int) (fin : Nat → Nod) (dp : Nat → Nat) (x : Nat) (at_ : Int) (W : World) (hF : ForestAt W f sb X K rvv R) (h : FoC Y C fin X K R) (sh : Shape (cutX C (zs Y)) (cutN C (nmOf (zs Y))) dp fin) (hx : x < Y.length) (ho : (fin x).org ≠ 0) (h1 : (fin x).fr ≤ at_) (h2 : at_ < (fin x).til) :
  Calls Tryz.prog 26 #[.pointer (some ⟨f, 0, none⟩), .int .u64 (fin x).id, .int .i64 at_] W fun e W' => e = .returned (.tuple #[.int .u64 (fin (ownerM fin at_ (1000 - dp x + 1) (fun i => swO fin (knO K i)) nils x).1).id, .int .i64 0]) ∧ Below W.heap.size W W' := by
 have hl : Y.length ≤ 1000 := by have := hF.small; rw [h.len] at this; exact this
 exact ownerAt_any f sb X K rvv R fin _ _ 1001 x (fun i => 1000 - dp i) at_ W hF (tenv_of h sh hF.rise hl x hx) ho (ownG_of h sh hF.rise hl x hx) h1 h2
theorem legsB (f sb : Nat) (X : List Spot) (K : Nat → List Int) (rvv : Value) (R : List Int) (Y : List Sp) (C : List Int) (fin : Nat → Nod) (dp : Nat → Nat) (x : Nat) (W : World) (hF : ForestAt W f sb X K rvv R) (h : FoC Y C fin X K R) (sh : Shape (cutX C (zs Y)) (cutN C (nmOf (zs Y))) dp fin) (hx : x < Y.length) (ho : (fin x).org ≠ 0) :
  Calls Tryz.prog 11 #[.pointer (some ⟨f, 0, none⟩), .int .u64 (fin x).id] W fun e W' => ∃ v L b, e = .returned (.tuple #[v, .int .i64 0]) ∧ L = legsM fin (1000 - dp x + 1) x (cptE (srtE (endsN fin (preN (knO K) 1001 [x])))) (fun i => swO fin (knO K i)) nils [] ∧ W.heap.size ≤ b ∧ W'.ownsRow b 50 3 v L.length (L.flatMap legC) ∧ Below W.heap.size W W' := by
 have hl : Y.length ≤ 1000 := by have := hF.small; rw [h.len] at this; exact this
 have T := tenv_of h sh hF.rise hl x hx
 have hel := endsN_len fin (preN (knO K) 1001 [x])
 have h1 : 1 ≤ (preN (knO K) 1001 [x]).length := List.length_pos_of_mem (preN_mem (knO K) 1001 [x] T.dp x (by simp))
 have h2 : (preN (knO K) 1001 [x]).length ≤ 1000 := T.ln
 have h3 := srtE_len (endsN fin (preN (knO K) 1001 [x]))
 have h4 := cptE_len (srtE (endsN fin (preN (knO K) 1001 [x]))) (by omega)
 exact legsAt_any f sb X K rvv R fin (knO K) (fun i => swO fin (knO K i)) 1001 x (fun i => 1000 - dp i) W hF T ho (ownG_of h sh hF.rise hl x hx) (endsN fin (preN (knO K) 1001 [x])) (cptE (srtE (endsN fin (preN (knO K) 1001 [x])))) rfl rfl (by omega) (by omega) h4.1 (by omega)
end Go.Proofs.YtnffedmcblbkoaaGreatDoor
