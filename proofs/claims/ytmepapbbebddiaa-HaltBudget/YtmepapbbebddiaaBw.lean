/-
  slices.Backward, of a row of stops: the iterator's contract.
-/
import Derived.RangeFuncNested
import Derived.RangeFuncBound
import Derived.RangeFuncCalls
import Derived.RangeFuncLeaves
import Derived.RangeFuncBox
import Derived.Shelf.Abstract
import Derived.Shelf.RegionOpen
import Derived.WalkKit
import Derived.OwnWalkIn
import Derived.TacticsInMore
import Derived.LoopNIn
import Derived.LoopIn
import Derived.Test.YtmepapbbebddiaaLo
namespace Go.Proofs.Ytmepapbbebddiaa
open Go Go.RowKit Go.Shelf

attribute [local go_sem] Oper.semAt_some

/-- What a round keeps for the iterator: the box of the slice, and the slice's block. -/
def KpB (B g : Nat) (W W' : World) : Prop := W'.heap[B]? = W.heap[B]? ∧ W'.heap[g]? = W.heap[g]?
theorem KpB.trans {B g : Nat} {X Y Z : World} (h : KpB B g X Y) (k : KpB B g Y Z) : KpB B g X Z := ⟨k.1.trans h.1, k.2.trans h.2⟩
theorem KpB.put {B g n : Nat} (hB : B < n) (hg : g < n) (W : World) (l : Nat) (o o' : Obj) (hl : n ≤ l) (_ : W.heap[l]? = some o) (_ : o.isCells = false) (_ : o.isWalk = false) : KpB B g W (W.putObj l o') :=
  ⟨World.putObj_heap_other (by omega), World.putObj_heap_other (by omega)⟩

/-- What comes: a place, and one of M. -/
abbrev Item (M : List Nat) := { x : Nat × Nat // x.2 ∈ M }
/-- What has come when k rounds are over. -/
def bwd (ids : List Nat) : Nat → List (Item ids)
  | 0 => []
  | k + 1 => if h : ids.length - 1 - k < ids.length then bwd ids k ++ [⟨(ids.length - 1 - k, ids[ids.length - 1 - k]), List.getElem_mem h⟩] else bwd ids k
theorem bwd_succ (ids : List Nat) (k : Nat) (h : ids.length - 1 - k < ids.length) : bwd ids (k + 1) = bwd ids k ++ [⟨(ids.length - 1 - k, ids[ids.length - 1 - k]), List.getElem_mem h⟩] := by
  simp [bwd, h]
theorem bwd_len (ids : List Nat) (k : Nat) (hk : k ≤ ids.length) : (bwd ids k).length = k := by
  induction k with
  | zero => rfl
  | succ k ih =>
    rw [bwd_succ ids k (by omega)]
    simp [ih (by omega)]
theorem bwd_map (ids : List Nat) (k : Nat) (hk : k ≤ ids.length) : (bwd ids k).map (fun x => x.1.2) = ids.reverse.take k := by
  induction k with
  | zero => rfl
  | succ k ih =>
    rw [bwd_succ ids k (by omega), List.map_append, ih (by omega), List.take_add_one]
    simp [List.getElem?_reverse (show k < ids.length by omega)]
    rw [List.getElem?_eq_getElem (by omega)]
    rfl

set_option maxRecDepth 100000 in
set_option maxHeartbeats 1000000 in
theorem back1_in (F : Fence) (n : Nat) (h69 : F.fn 69) (hro : F.round = none) (hn : 1 ≤ n) (l Bs g cap : Nat) (ids : List Nat) (hreach : ids.length * 8 ≤ 140737488355328) (J Jx : List (Item ids) → World → Prop)
    (hY : ∀ pre x W, J pre W → pre.length < ids.length → YieldAt F (n - 1) Try.prog l #[.int .i64 (x.1.1 : Int), ptrV x.1.2] W fun e W' =>
      (e = .returned (.bool true) ∧ J (pre ++ [x]) W' ∧ KpB Bs g W W') ∨ (e = .returned (.bool false) ∧ Jx (pre ++ [x]) W'))
    (W : World) (hBs : W.cell? ⟨Bs, 0, none⟩ = some (.slice (some ⟨g, 0, none⟩) ids.length cap)) (hc : ∀ j, j < ids.length → W.cell? ⟨g, j, none⟩ = some (ptrV (ids[j]?.getD 0))) (h0 : J [] W) :
    CallsIn F n Try.prog 69 #[.func (.yield l) #[] #[], .pointer (some ⟨Bs, 0, none⟩)] W fun e W' => (∃ v, e = .returned v) ∧ (J (bwd ids ids.length) W' ∨ ∃ pre, Jx pre W') := by
  refine callsIn_of_wp Try.func69 rfl h69 ?_ hro
  simp only [Try.ntmps69, List.size_toArray, List.length_cons, List.length_nil, Nat.reduceAdd, Nat.reduceSub, Array.replicate_succ, Array.replicate_zero, List.push_toArray, List.append_toArray, List.nil_append, List.cons_append]
  have HC : Hid (∀ j, j < ids.length → W.cell? ⟨g, j, none⟩ = some (ptrV (ids[j]?.getD 0))) := hc
  clear hc
  gi_wp2
  gi_loopw [3] (fun i wr => ∃ k : Nat, k ≤ ids.length ∧ i = .int .i64 ((ids.length : Int) - 1 - (k : Int)) ∧ J (bwd ids k) wr ∧ KpB Bs g W wr)
    (fun i _ => ((intOf i) + 1).toNat)
  case atStart => exact ⟨0, Nat.zero_le _, by simp, h0, ⟨rfl, rfl⟩⟩
  case round =>
    obtain ⟨k, hk, rfl, hJs, hnx⟩ := hrel
    have hB2 : wr.cell? ⟨Bs, 0, none⟩ = some (.slice (some ⟨g, 0, none⟩) ids.length cap) := by rw [← hBs]; simp only [World.cell?, hnx.1]
    by_cases hlt : k < ids.length
    · have hx : ids.length - 1 - k < ids.length := by omega
      obtain ⟨i, hi⟩ : ∃ i, ids.length - 1 - k = i := ⟨_, rfl⟩
      have hil : i < ids.length := by omega
      have ei : (ids.length : Int) - 1 - (k : Int) = (i : Int) := by omega
      obtain ⟨x, hxx⟩ : ∃ x, ids[i] = x := ⟨_, rfl⟩
      have hxm : x ∈ ids := hxx ▸ List.getElem_mem hil
      have hcx : wr.cell? ⟨g, i, none⟩ = some (ptrV x) := by
        have h1 := (show ∀ j, j < ids.length → W.cell? ⟨g, j, none⟩ = some (ptrV (ids[j]?.getD 0)) from HC) i hil
        rw [List.getElem?_eq_getElem hil, hxx] at h1
        rw [← show W.cell? ⟨g, i, none⟩ = some (ptrV x) from h1]
        simp only [World.cell?, hnx.2]
      have hlen := bwd_len ids k hk
      obtain ⟨fn, tmps, assign, body, hy, hR⟩ := hY _ ⟨(i, x), hxm⟩ wr hJs (by rw [hlen]; exact hlt)
      dsimp only at hy
      have hsucc : Hid (bwd ids (k + 1) = bwd ids k ++ [⟨(i, x), hxm⟩]) := by
        subst hi; subst hxx
        exact bwd_succ ids k hx
      have HI : Hid (ids.length - 1 - k = i) := hi
      have hiz : (0 : Int) ≤ (i : Int) := by omega
      rw [ei]
      have HE : Hid ((ids.length : Int) - 1 - (k : Int) = (i : Int)) := ei
      clear hi ei hxx
      gi_wp2
      refine hR.mono ?_
      rintro e W3 (⟨rfl, hJ3, hk3⟩ | ⟨rfl, hJx3⟩)
      · gi_wp2
        go_roundw
        case rel => exact ⟨k + 1, by omega, by have := (show (ids.length : Int) - 1 - (k : Int) = (i : Int) from HE); simp; omega, by rw [show bwd ids (k + 1) = _ from hsucc]; exact hJ3, hnx.trans hk3⟩
        case measure => simp [intOf]
      · gi_wp2
        refine bodyPost_ret (results_none rfl _ _ _) rfl ?_
        exact ⟨⟨_, rfl⟩, .inr ⟨_, hJx3⟩⟩
    · obtain rfl : k = ids.length := by omega
      have ei : (ids.length : Int) - 1 - (ids.length : Int) = -1 := by omega
      rw [ei]
      gi_wp2
      go_end0
      exact ⟨⟨_, rfl⟩, .inl hJs⟩

set_option maxRecDepth 100000 in
set_option maxHeartbeats 1000000 in
theorem back1_nil_in (F : Fence) (n : Nat) (h69 : F.fn 69) (hro : F.round = none) (l Bs cap : Nat) (a : Option Addr) (Jn : World → Prop)
    (W : World) (hBs : W.cell? ⟨Bs, 0, none⟩ = some (.slice a 0 cap)) (h0 : Jn W) :
    CallsIn F n Try.prog 69 #[.func (.yield l) #[] #[], .pointer (some ⟨Bs, 0, none⟩)] W fun e W' => (∃ v, e = .returned v) ∧ Jn W' := by
  refine callsIn_of_wp Try.func69 rfl h69 ?_ hro
  simp only [Try.ntmps69, List.size_toArray, List.length_cons, List.length_nil, Nat.reduceAdd, Nat.reduceSub, Array.replicate_succ, Array.replicate_zero, List.push_toArray, List.append_toArray, List.nil_append, List.cons_append]
  gi_wp2
  gi_loopw [3] (fun i wr => i = .int .i64 (-1) ∧ Jn wr) (fun _ _ => 0)
  case atStart => exact ⟨rfl, h0⟩
  case round =>
    obtain ⟨rfl, hJs⟩ := hrel
    gi_wp2
    go_end0
    exact ⟨⟨_, rfl⟩, hJs⟩

set_option maxHeartbeats 1000000 in
theorem back_in (F : Fence) (n : Nat) (h59 : F.fn 59) (hro : F.round = none) (a : Option Addr) (len cap : Nat) (w : World) :
    CallsIn F n Try.prog 59 #[.slice a len cap] w fun e w' => e = .returned (.func (.func 69) #[] #[.pointer (some ⟨w.heap.size, 0, none⟩)]) ∧ w' = w.alloc (.cells #[.slice a len cap] 25) := by
  refine callsIn_of_wp Try.func59 rfl h59 ?_ hro
  simp only [Try.ntmps59, List.size_toArray, List.length_cons, List.length_nil, Nat.reduceAdd, Nat.reduceSub, Array.replicate_succ, Array.replicate_zero, List.push_toArray, List.append_toArray, List.nil_append, List.cons_append]
  gi_wp2
  go_ret
  exact ⟨rfl, rfl⟩

/-- A row of stops, as it is read: nil, or in a block g. -/
def RowIs (W : World) (sv : Value) (g : Nat) (ids : List Nat) : Prop :=
  (∃ a cap, sv = .slice a 0 cap ∧ ids = []) ∨ ∃ cap, sv = .slice (some ⟨g, 0, none⟩) ids.length cap ∧ ∀ j, j < ids.length → W.cell? ⟨g, j, none⟩ = some (ptrV (ids[j]?.getD 0))
theorem RowIs.ofOwn {W : World} {base : Nat} {e : TypeId} {v : Value} {ids : List Nat} (h : W.ownsRow base e 1 v ids.length (ids.map ptrV)) : ∃ g, RowIs W v g ids ∧ (v.ownBlock = some g ∨ (ids = [] ∧ g = 0)) := by
  rcases h.2 with ⟨rfl, h0⟩ | ⟨g, cap, cur, rfl, hb, hh, r⟩
  · have : ids = [] := List.eq_nil_of_length_eq_zero h0
    exact ⟨0, Or.inl ⟨none, 0, rfl, this⟩, Or.inr ⟨this, rfl⟩⟩
  · refine ⟨g, Or.inr ⟨cap, rfl, ?_⟩, Or.inl rfl⟩
    intro j hj
    have := h.cells (g := g) rfl j (ptrV (ids[j]?.getD 0)) (by simp [hj])
    rwa [Addr.add_lit, Nat.zero_add] at this
theorem RowIs.same {W W' : World} {sv : Value} {g : Nat} {ids : List Nat} (h : RowIs W sv g ids) (hg : W'.heap[g]? = W.heap[g]?) : RowIs W' sv g ids := by
  rcases h with h | ⟨cap, hs, hc⟩
  · exact Or.inl h
  · refine Or.inr ⟨cap, hs, fun j hj => ?_⟩
    rw [← hc j hj]
    simp only [World.cell?, hg]

theorem back_stops (F : Fence) (n : Nat) (h69 : F.fn 69) (hro : F.round = none) (hn : 1 ≤ n) (Bs g : Nat) (sv : Value) (ids : List Nat) (hreach : ids.length * 8 ≤ 140737488355328) (w : World) (hBs : Bs < w.heap.size) (hgs : g < w.heap.size)
    (hc : w.cell? ⟨Bs, 0, none⟩ = some sv) (hI : RowIs w sv g ids) :
    SeqStopsK F n Try.prog 69 #[.pointer (some ⟨Bs, 0, none⟩)] (fun x : Item ids => #[Value.int .i64 (x.1.1 : Int), ptrV x.1.2]) (KpB Bs g) (fun ys => ys.map (fun x => x.1.2) = ids.reverse) (fun _ => True) ids.length w := fun l J Jx W hW _ _ hY h0 => by
  have hc' := (hW.cell (p := ⟨Bs, 0, none⟩) hBs).trans hc
  rcases hI.same (hW.block g hgs) with ⟨a, cap, rfl, rfl⟩ | ⟨cap, rfl, hcs⟩
  · exact (back1_nil_in F n h69 hro l Bs cap a (J []) W hc' h0).mono fun e W' ⟨he, hj⟩ => ⟨he, .inl ⟨_, rfl, hj⟩⟩
  · refine (back1_in F n h69 hro hn l Bs g cap ids hreach J Jx hY W hc' hcs h0).mono ?_
    rintro e W' ⟨he, hj | ⟨pre, hj⟩⟩
    · exact ⟨he, .inl ⟨_, by show (bwd ids ids.length).map (fun x => x.1.2) = ids.reverse; rw [bwd_map ids _ (Nat.le_refl _)]; exact List.take_of_length_le (by rw [List.length_reverse]; exact Nat.le_refl _), hj⟩⟩
    · exact ⟨he, .inr ⟨_, trivial, hj⟩⟩
end Go.Proofs.Ytmepapbbebddiaa
