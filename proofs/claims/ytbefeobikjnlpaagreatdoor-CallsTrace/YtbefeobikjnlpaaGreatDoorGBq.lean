/-
  Merged: GB, GC.
-/
import Derived.RangeFuncNested
import Derived.RangeFuncBound
import Derived.RangeFuncCalls
import Derived.RangeFuncLeaves
import Derived.RangeFuncBox
import Derived.Shelf.Abstract
import Derived.Shelf.RegionOpen
import Derived.WalkKit
import Derived.OwnWalkIn
import Derived.TacticsInMore
import Derived.LoopNIn
import Derived.LoopIn
import Derived.Test.YtbefeobikjnlpaaGreatDoorZmq
import Derived.Test.YtbefeobikjnlpaaGreatDoorGAq
namespace Go.Proofs.YtbefeobikjnlpaaGreatDoor
open Go Go.RowKit Go.Shelf

attribute [local go_sem] Oper.semAt_some

/-- An iterator of N rounds: in the k-th one it hands over args k; what it lays and writes lies in blocks of its own. -/
def StepsA (F : Fence) (n : Nat) (P : Program) (g : Nat) (lb : Array Value) (N : Nat) (args : Nat → Array Value) (Kp : World → World → Prop) (w : World) : Prop :=
  ∀ (l : Nat) (J : Nat → World → Prop) (W : World), Below w.heap.size w W →
    (∀ k A B, W.heap.size ≤ A.heap.size → J k A → Upd (fun j => W.heap.size ≤ j) A B → J k B) →
    (∀ k W1, k < N → J k W1 → YieldAt F (n - 1) P l (args k) W1 fun e W' => e = .returned (.bool true) ∧ J (k + 1) W' ∧ Kp W1 W') →
    J 0 W → CallsIn F n P g (#[.func (.yield l) #[] #[]] ++ lb) W fun e W' => (∃ v, e = .returned v) ∧ J N W'

end Go.Proofs.YtbefeobikjnlpaaGreatDoor

namespace Go.Proofs.YtbefeobikjnlpaaGreatDoor
open Go Go.RowKit
set_option maxRecDepth 100000

set_option maxHeartbeats 4000000 in
theorem ids_any (f sb : Nat) (X : List Spot) (K : Nat → List Int) (rv : Value) (R : List Int) (w : World) (h : ForestAt w f sb X K rv R) :
    Calls Tryz.prog 13 #[.pointer (some ⟨f, 0, none⟩)] w fun e w' => ∃ r, e = .returned (.slice (some ⟨r, 0, none⟩) X.length X.length) ∧ Blk w' r (fillC .u64 (X.map (fun x => x.nd.id)) 0) 48 ∧ w.heap.size ≤ r ∧ Below w.heap.size w w' := by
  have hl := h.small
  have hf : w.cell? ⟨f, 0, none⟩ = some (.slice (some ⟨sb, 0, none⟩) X.length X.length) := h.head.cell 0 rfl
  have HF : Hid (w.cell? ⟨f, 0, none⟩ = some (.slice (some ⟨sb, 0, none⟩) X.length X.length)) := hf
  have HB : Hid (Blk w sb (rowS X) 83) := h.row
  have hflt : Hid (f < w.heap.size) := World.block_lt_of_cell? w _ hf
  obtain ⟨n, hn⟩ : ∃ n, X.length = n := ⟨_, rfl⟩
  have HN : Hid (X.length = n) := hn
  rw [hn] at hl hf ⊢
  clear h hn
  go_enter Tryz.func13, Tryz.ntmps13
  go_wp2_with (at_make; refine wpList_mk rfl _ _ 46 rfl 48 (.int .u64 0) 1 8 Tryz.underlying46 infoID n rfl rfl (by omega) (by unfold maxLen; omega) ?_; intro w1 b1 hb1; have f1 : w1.cell? ⟨f, 0, none⟩ = some (.slice (some ⟨sb, 0, none⟩) n n) := (hb1.cell (p := ⟨f, 0, none⟩) hflt.out).trans hf)
  have B0 : Hid (Blk w1 w.heap.size (fillC .u64 [] n) 48) := by
    rw [fill_start, ← made_one]; exact b1
  have HB1 : Hid (Below w.heap.size w w1) := hb1
  obtain ⟨r, hrr⟩ : ∃ r, w.heap.size = r := ⟨_, rfl⟩
  have HRR : Hid (w.heap.size = r) := hrr
  rw [hrr] at B0 ⊢
  clear b1 hb1 hrr f1 hf
  go_loopw [17] (fun x wr => ∃ k : Nat, x = .int .i64 k ∧ k ≤ n ∧ Blk wr r (fillC .u64 ((X.take k).map (fun x => x.nd.id)) (n - k)) 48 ∧ Below w.heap.size w wr) (fun x _ => n - (intOf x).toNat)
  case atStart => exact ⟨0, rfl, by omega, by simpa using B0.out, HB1.out⟩
  case round =>
    obtain ⟨k, rfl, hkn, hblk, hb⟩ := hrel
    have HBB : Hid (Below w.heap.size w wr) := hb
    have HBK : Hid (Blk wr r (fillC .u64 ((X.take k).map (fun x => x.nd.id)) (n - k)) 48) := hblk
    clear hb hblk
    by_cases hlt : k < n
    · have hkX : k < X.length := by rw [HN.out]; exact hlt
      have f1 : wr.cell? ⟨f, 0, none⟩ = some (.slice (some ⟨sb, 0, none⟩) n n) := (HBB.out.cell (p := ⟨f, 0, none⟩) hflt.out).trans (by rw [← HN.out]; exact HF.out)
      have LD : Hid (wr.rangeAt sb (k * 21) (enS X[k])) := Blk.range (Blk.below HB.out HBB.out (Blk.lt HB.out)) k hkX
      have hT : Hid ((X.take (k + 1)).map (fun x => x.nd.id) = (X.take k).map (fun x => x.nd.id) ++ [X[k].nd.id]) := by rw [List.take_succ_eq_append_getElem hkX, List.map_append]; rfl
      obtain ⟨x, hx⟩ : ∃ x, X[k]'hkX = x := ⟨_, rfl⟩
      rw [hx] at LD hT
      have hkr : Hid (∀ W, Upd (fun j => j = wr.heap.size) (wr.alloc (.cells zSpotL.toArray 83)) W → Below w.heap.size w W ∧ Blk W r (fillC .u64 ((X.take k).map (fun x => x.nd.id)) (n - k)) 48) := fun W hu => by
        have hs := HBB.out.size
        have hb : Below w.heap.size w W := (HBB.out.alloc hs _).trans (hu.below (by simp; omega) (fun j hj e => by omega))
        refine ⟨hb, ?_⟩
        have h0 : Blk (wr.alloc (.cells zSpotL.toArray 83)) r (fillC .u64 ((X.take k).map (fun x => x.nd.id)) (n - k)) 48 := Blk.alloc HBK.out _
        exact Blk.upd h0 hu (fun e => by have := Blk.lt HBK.out; omega)
      have hlen : ((X.take k).map (fun x => x.nd.id)).length = k := by simp; omega
      have hnk : n - k = (n - (k + 1)) + 1 := by omega
      have GET0 : Hid (∀ W, Blk W r (fillC .u64 ((X.take k).map (fun x => x.nd.id)) (n - k)) 48 → W.cell? ⟨r, k, none⟩ = some (.int .u64 0) ∧ Blk (W.setCell ⟨r, k, none⟩ (.int .u64 x.nd.id)) r (fillC .u64 ((X.take (k + 1)).map (fun x => x.nd.id)) (n - (k + 1))) 48) := fun W hW => by
        refine ⟨Blk.cell hW k (by rw [hnk]; have := fill_get .u64 ((X.take k).map (fun x => x.nd.id)) (n - (k + 1)); rwa [hlen] at this), ?_⟩
        have := Blk.set hW k (.int .u64 x.nd.id)
        rw [hnk] at this
        have e := fill_set .u64 ((X.take k).map (fun x => x.nd.id)) (n - (k + 1)) x.nd.id
        rw [hlen] at e
        rw [e, ← hT.out] at this
        exact this
      clear hx hlen hnk
      go_wp2_with (first
        | (refine wpList_spot rfl _ rfl sb _ x LD.out rfl ?_)
        | (refine wpList_stW rfl 83 _ _ rfl wr.heap.size zSpotL (enS x) 83 (Blk.new _ _ _) rfl rfl rfl (by kernel_rfl) (enS_one _) ?_; intro w2 n2 u2; obtain ⟨hb2, hr2⟩ := hkr.out w2 u2; have e3 : w2.cell? ⟨wr.heap.size, 13, none⟩ = some (.int .u64 x.nd.id) := Blk.cell n2 13 rfl; obtain ⟨d1, hr3⟩ := GET0.out w2 hr2; have d2 := Blk.frozen hr2 k; have HR3 : Hid (Blk (w2.setCell ⟨r, k, none⟩ (.int .u64 x.nd.id)) r (fillC .u64 ((X.take (k + 1)).map (fun x => x.nd.id)) (n - (k + 1))) 48) := hr3; have HB3 : Hid (Below w.heap.size w (w2.setCell ⟨r, k, none⟩ (.int .u64 x.nd.id))) := Below.setCell hb2 (by have := HRR.out; simp; omega) _; clear n2 u2 hb2 hr2 hr3))
      go_roundw
      case rel => exact ⟨k + 1, by simp, by omega, HR3.out, HB3.out⟩
      case measure => simp [intOf]; omega
    · obtain rfl : k = n := by omega
      go_wp2
      go_ret
      refine ⟨r, rfl, ?_, by have := HRR.out; omega, HBB.out⟩
      have := HBK.out
      rw [List.take_of_length_le (by rw [HN.out]; exact Nat.le_refl _), Nat.sub_self] at this
      exact this
end Go.Proofs.YtbefeobikjnlpaaGreatDoor
