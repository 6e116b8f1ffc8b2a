/-
  Merged: PM, PO, PP.
-/
import Derived.Test.YtkkeffodbngibaaGreatDoorPIq
import Derived.Test.YtkkeffodbngibaaGreatDoorPAq
import Derived.Test.YtkkeffodbngibaaGreatDoorPR
import Derived.Test.YtkkeffodbngibaaGreatDoorPCq
namespace Go.Proofs.YtkkeffodbngibaaGreatDoor
open Go Go.RowKit
set_option maxRecDepth 100000

theorem FoB.senv {Y : List Sp} {C : List Int} {dp : Nat → Nat} {fin : Nat → Nod} {X : List Spot} {K : Nat → List Int} {R : List Int} (h : FoB Y C dp fin X K R) (x : Nat) (hx : x < Y.length) : SvE X K (spAt Y) fin (knK K) (cnK fin K) 1001 x := by
  have T := h.tree
  have hlen := h.fo.len
  have hl := h.one.len
  have L := T.len 1001 x hx
  have inY : ∀ y ∈ preN (knK K) 1001 [x], y < Y.length := fun y hy => (T.above 1001 [x] (fun z hz => by simp at hz; subst hz; exact hx) y hy).1
  have kl : ∀ i, i < Y.length → (knK K i).length ≤ 1000 := fun i hi => by
    have := sub_len _ (List.range Y.length) (h.nodup i hi) (fun c hc => List.mem_range.2 ((h.mem i hi c).1 hc).1)
    simp only [List.length_range] at this
    omega
  refine ⟨fun i hi => (h.fo.each i (by omega) hi).2, fun i hi => ?_, fun i hi => ⟨?_, fun c hc => by rw [hlen]; exact ((h.mem i (by omega) c).1 hc).1, kl i (by omega)⟩, fun i => rfl, T.deep 1001 [x] (fun y hy => by simp at hy; subst hy; exact ⟨hx, by omega⟩), by omega, L.1, by omega, fun y hy => h.ids y (inY y hy), fun y hy => ?_, fun y hy => ?_⟩
  · rw [(h.fo.each i (by omega) hi).1]
    simp [spAt, List.getD, show i < Y.length by omega]
  · rw [List.map_map]
    have : ∀ z ∈ K i, ((fun c : Nat => (c : Int)) ∘ Int.toNat) z = z := fun z hz => by
      have := h.pos i (by omega) z hz
      show ((z.toNat : Nat) : Int) = z
      omega
    exact (List.map_congr_left this).trans (List.map_id _) |>.symm
  · have := h.inn (dp y) y rfl (inY y hy)
    unfold In64 in64
    simp only
    omega
  · exact Nat.le_trans (List.length_filter_le _ _) (kl y (inY y hy))
theorem FoB.bel {Y : List Sp} {C : List Int} {dp : Nat → Nat} {fin : Nat → Nod} {X : List Spot} {K : Nat → List Int} {R : List Int} (h : FoB Y C dp fin X K R) {s y : Nat} (hb : BelN (cnK fin K) s y) : s < Y.length → y < Y.length ∧ (fin y).tree = (fin s).tree ∧ ∃ k, upI (upK C Y) k y = s ∧ dp y = dp s + k := by
  induction hb using BelN.ind with
  | here => exact fun hs => ⟨hs, rfl, 0, rfl, rfl⟩
  | @down s c y hc _ ih =>
    intro hs
    have hk : c ∈ knK K s := (List.mem_filter.1 hc).1
    have hcl := ((h.mem s hs c).1 hk).1
    obtain ⟨h1, h2, k, h3, h4⟩ := ih hcl
    refine ⟨h1, h2.trans (h.kid s hs c hk).2.2, k + 1, ?_, ?_⟩
    · show upK C Y (upI (upK C Y) k y) = s
      rw [h3]
      exact h.tree.hup s hs c hk
    · have := h.tree.hdp s hs c hk
      omega
theorem FoB.nest {Y : List Sp} {C : List Int} {dp : Nat → Nat} {fin : Nat → Nod} {X : List Spot} {K : Nat → List Int} {R : List Int} (h : FoB Y C dp fin X K R) : NestN fin (cnK fin K) (fun s => s < Y.length) := by
  have T := h.tree
  refine ⟨fun s hs c hc => ((h.mem s hs c).1 (List.mem_filter.1 hc).1).1, fun s hs c hc => ?_, fun s hs c hc hb => ?_, fun s hs c hc d hd hcd y h1 h2 => ?_⟩
  · obtain ⟨k1, k2⟩ := List.mem_filter.1 hc
    have := h.kid s hs c k1
    exact ⟨this.1, this.2.1, of_decide_eq_true k2⟩
  · have hk := (List.mem_filter.1 hc).1
    obtain ⟨_, _, k, _, h4⟩ := h.bel hb (((h.mem s hs c).1 hk).1)
    have := T.hdp s hs c hk
    omega
  · have hk := (List.mem_filter.1 hc).1
    have hk' := (List.mem_filter.1 hd).1
    obtain ⟨_, _, k, h3, h4⟩ := h.bel h1 (((h.mem s hs c).1 hk).1)
    obtain ⟨_, _, l, h5, h6⟩ := h.bel h2 (((h.mem s hs d).1 hk').1)
    have a1 := T.hdp s hs c hk
    have a2 := T.hdp s hs d hk'
    have : k = l := by omega
    subst this
    exact hcd (h3.symm.trans h5)
end Go.Proofs.YtkkeffodbngibaaGreatDoor

namespace Go.Proofs.YtkkeffodbngibaaGreatDoor
open Go Go.RowKit
set_option maxRecDepth 100000

end Go.Proofs.YtkkeffodbngibaaGreatDoor

namespace Go.Proofs.YtkkeffodbngibaaGreatDoor
open Go Go.RowKit
set_option maxRecDepth 100000

/-- What is so of a leg. -/
structure LegK (Y : List Sp) (fin : Nat → Nod) (K : Nat → List Int) (x : Nat) (M : List (Nat × Int × Int)) (k : Nat) (y : Nat) (a b : Int) : Prop where
  yY : y < Y.length
  tree : (fin y).tree = (fin x).tree
  fr : (fin y).fr ≤ a
  til : b ≤ (fin y).til
  ab : a < b
  adj : ∀ (_ : 0 < k) (h' : k - 1 < M.length), (fin M[k - 1].1).id ≠ (fin y).id
  free : ∀ c ∈ knK K y, ¬ ((fin c).fr < (fin c).til ∧ (fin c).fr < b ∧ a < (fin c).til)
theorem FoB.idInj {Y : List Sp} {C : List Int} {dp : Nat → Nat} {fin : Nat → Nod} {X : List Spot} {K : Nat → List Int} {R : List Int} (h : FoB Y C dp fin X K R) {i j : Nat} (hi : i < Y.length) (hj : j < Y.length) (e : (fin i).id = (fin j).id) : i = j := by
  have hl := h.fo.len
  refine rise_same h.rise (by omega) (by omega) ?_
  rw [(h.fo.each i hi (by omega)).2, (h.fo.each j hj (by omega)).2]
  exact e
/-- The legs of a root, in the order of time. -/
theorem FoB.legs {Y : List Sp} {C : List Int} {dp : Nat → Nat} {fin : Nat → Nod} {X : List Spot} {K : Nat → List Int} {R : List Int} (h : FoB Y C dp fin X K R) {x : Nat} (hx : x < Y.length) {L : List (Nat × Int × Int)} (hP : PathR fin (cnK fin K) x (fin x).til L) :
    TileF (fin x).til (fin x).fr L.reverse ∧ ∀ k (hk : k < L.reverse.length) (at_ : Int), TileF (fin x).til at_ (L.reverse.drop k) → L.reverse[k].2.1 = at_ ∧ TileF (fin x).til L.reverse[k].2.2 (L.reverse.drop (k + 1)) ∧ LegK Y fin K x L.reverse k L.reverse[k].1 L.reverse[k].2.1 L.reverse[k].2.2 := by
  have hi := h.inn (dp x) x rfl hx
  obtain ⟨t1, t2, t3⟩ := hP.tiles h.nest hx hi.2.1 (Int.le_refl _)
  have t2' := AdjN.rev L t2
  refine ⟨t1.rev, fun k hk at_ hT => ?_⟩
  have hm : L.reverse[k] ∈ L := List.mem_reverse.1 (List.getElem_mem hk)
  have hb := h.bel (hP.bel _ hm) hx
  obtain ⟨g1, g2, g3⟩ := t3 _ hm
  rw [List.drop_eq_getElem_cons hk] at hT
  obtain ⟨e1, e2, e3⟩ := hT
  refine ⟨e1, e3, hb.1, hb.2.1, g1, g2, e2, fun h0 h1 e => ?_, fun c hc hh => ?_⟩
  · have hm1 : L.reverse[k - 1] ∈ L := List.mem_reverse.1 (List.getElem_mem h1)
    have hb1 := h.bel (hP.bel _ hm1) hx
    have := t2'.at_ _ (k - 1) (by omega)
    have hk1 : k - 1 + 1 = k := by omega
    simp only [hk1] at this
    exact this (h.idInj hb1.1 hb.1 e)
  · exact g3 c (List.mem_filter.2 ⟨hc, decide_eq_true hh.1⟩) ⟨hh.2.1, hh.2.2⟩
/-- A root. -/
theorem FoB.root {Y : List Sp} {C : List Int} {dp : Nat → Nat} {fin : Nat → Nod} {X : List Spot} {K : Nat → List Int} {R : List Int} (h : FoB Y C dp fin X K R) (z : Int) (hz : z ∈ R) : ∃ x : Nat, z = (x : Int) ∧ x < Y.length ∧ (fin x).org ≠ 0 ∧ (fin x).tree = (fin x).id := by
  have hcl : (cutX C (zs Y)).length = Y.length := by rw [cutX_len, zs_len]
  obtain ⟨x, rfl, hx, hn⟩ := kidsF_iff.1 (h.fo.roots.1.mem_iff.2 hz)
  have := (h.sh.rt x (by omega) hn).2
  refine ⟨x, rfl, hx, ?_, ?_⟩
  · rw [this]
    unfold rootN
    simp only
    split
    · omega
    · split <;> omega
  · rw [this]
    rfl
theorem FoB.idsR {Y : List Sp} {C : List Int} {dp : Nat → Nat} {fin : Nat → Nod} {X : List Spot} {K : Nat → List Int} {R : List Int} (h : FoB Y C dp fin X K R) (i : Nat) (hi : i < R.length) : ∃ x : Nat, x < Y.length ∧ (fin x).org ≠ 0 ∧ (fin x).tree = (fin x).id ∧ ∀ w rc, Blk w rc (fillC .u64 (idsOf X R) 0) 33 → w.cell? ⟨rc, i, none⟩ = some (.int .u64 (fin x).id) := by
  obtain ⟨x, hz, hx, h1, h2⟩ := h.root R[i] (List.getElem_mem hi)
  refine ⟨x, hx, h1, h2, fun w rc hB => hB.cell i ?_⟩
  have hl := h.fo.len
  have e := (h.fo.each x hx (by omega)).2
  simp [fillC, idsOf, hi, hz, hl, hx, e]
end Go.Proofs.YtkkeffodbngibaaGreatDoor
