/-
  RzG.
-/
import Derived.Test.YtiflfapdffkcbaaGreatDoorRzE
import Derived.Test.YtiflfapdffkcbaaGreatDoorGBq
import Derived.Stop.RegionWithIn
namespace Go.Proofs.YtiflfapdffkcbaaGreatDoor
open Go Go.RowKit Go.Maps Go.WideMaps Go.Shelf
set_option maxRecDepth 100000

def AllP (w : World) (X : List It) (e : Ending) (w' : World) : Prop := ∃ bx g c Z, e = .returned (.func (.func 33) #[] #[.pointer (some ⟨bx, 0, none⟩)]) ∧ RisS X Z ∧ Blk w' bx #[.slice (some ⟨g, 0, none⟩) Z.length c] 22 ∧ RowQ w' g (Z.map sqI) ∧ w.heap.size ≤ g ∧ w.heap.size ≤ bx ∧ Below w.heap.size w w'
theorem all_any (s b : Nat) (M : Tc → Nat) (T : List Tc) (X : List It) (w : World) (h : StoreAt w s b M T X) (hx : X.length ≤ 100000000) :
    Calls Tryz.prog 19 #[.pointer (some ⟨s, 0, none⟩)] w fun e w' => AllP w X e w' := by
  have SR := srising_any s b M T X w h hx
  clear h
  go_enter Tryz.func19, Tryz.ntmps19
  go_wp2_with (go_at_call 28; (with_reducible refine SR.mono ?_); clear SR; rintro e w1 ⟨g, c, Z, rfl, hZ, hrow, hg, hb⟩; have H1 : Hid (RisS X Z ∧ RowQ w1 g (Z.map sqI) ∧ w.heap.size ≤ g ∧ Below w.heap.size w w1) := ⟨hZ, hrow, hg, hb⟩; clear hZ hrow hg hb)
  go_ret
  have hb2 : Below w1.heap.size w1 (w1.alloc (.cells #[.slice (some ⟨g, 0, none⟩) Z.length c] 22)) := (Below.refl _ _).alloc (Nat.le_refl _) _
  exact ⟨w1.heap.size, g, c, Z, rfl, H1.out.1, Blk.new _ _ _, RowQ.upd (S := fun _ => False) H1.out.2.1 (Upd.ofBelow hb2 (fun k h1 h2 => by omega)) (fun h => h), H1.out.2.2.1, H1.out.2.2.2.size, H1.out.2.2.2.trans (hb2.mono H1.out.2.2.2.size)⟩
/-- What a loop over All must keep: all but the block U, and what it lays itself. -/
abbrev KpU (B U : Nat) (W W' : World) : Prop := Upd (fun j => j = U ∨ B ≤ j) W W'
theorem KpU.trans {B U : Nat} {W1 W2 W3 : World} (h : KpU B U W1 W2) (k : KpU B U W2 W3) : KpU B U W1 W3 := Upd.trans h k (fun _ _ h => h)
theorem KpU.put {B U : Nat} (W : World) (l : Nat) (o o' : Obj) (hl : B ≤ l) (_ : W.heap[l]? = some o) (_ : o.isCells = false) (_ : o.isWalk = false) : KpU B U W (W.putObj l o') :=
  ⟨rfl, rfl, rfl, by rw [World.putObj_size]; exact Nat.le_refl _, fun k _ hn => World.putObj_heap_other (fun e => hn (Or.inr (by omega)))⟩
/-- A span that was laid on the way, of those that are told. -/
def PaC (Z : List It) (k : Nat) (A B : World) (args : Array Value) : Prop := ∃ z p', Z[k]? = some z ∧ args = #[spV z.a p'] ∧ ∀ w5 : World, (∀ j, A.heap.size ≤ j → j < B.heap.size → w5.heap[j]? = B.heap[j]?) → SpAt w5 z.a p'
set_option maxHeartbeats 8000000 in
theorem all_steps (n bx g c U : Nat) (hn : 1 ≤ n) (Z : List It) (w0 w : World) (hI : ∀ z ∈ Z, ItOk w0 z) (hU : w0.heap.size ≤ U) (hUw : U < w.heap.size) (hb : Below w0.heap.size w0 w) (hbx : Blk w bx #[.slice (some ⟨g, 0, none⟩) Z.length c] 22) (hrow : RowQ w g (Z.map sqI)) (hgU : g ≠ U) (hl : Z.length ≤ 100000000) :
    StepsB Fence.wide n Tryz.prog 33 #[.pointer (some ⟨bx, 0, none⟩)] Z.length (PaC Z) (KpU w.heap.size U) w := fun l J W hW hY h0 => by
  have hsW := hW.size
  have hxW : Blk W bx #[.slice (some ⟨g, 0, none⟩) Z.length c] 22 := hbx.below hW hbx.lt
  have ROW : Hid (∀ V, KpU w.heap.size U W V → RowQ V g (Z.map sqI) ∧ ∀ z ∈ Z, SpAt V z.a z.p) := fun V hV => by
    have hgl := hrow.lt
    refine ⟨(hrow.upd (S := fun _ => False) (Upd.ofBelow hW (fun k h1 h2 => by omega)) (fun h => h)).upd hV (fun h => by rcases h with h | h <;> omega), fun z hz => ?_⟩
    have hi := hI z hz
    refine hi.stays V (fun k h1 h2 => ?_)
    have hk := hi.le
    exact ((hV.block k (by have := hb.size; omega) (fun h => by rcases h with h | h <;> (have := hb.size; omega))).trans (hW.block k (by have := hb.size; omega))).trans (hb.block k (by omega))
  have HY : Hid (∀ k A B args, k < Z.length → W.heap.size ≤ A.heap.size → J k A → Below A.heap.size A B → PaC Z k A B args → YieldAt Fence.wide (n - 1) Tryz.prog l args B fun e W' => e = .returned (.bool true) ∧ J (k + 1) W' ∧ KpU w.heap.size U B W') := hY
  have H0 : Hid (J 0 W ∧ w.heap.size ≤ W.heap.size) := ⟨h0, hsW⟩
  have k1 : W.cell? ⟨bx, 0, none⟩ = some (.slice (some ⟨g, 0, none⟩) Z.length c) := hxW.cell 0 rfl
  have HSM : Hid (∀ z ∈ Z, z.a.links.length ≤ 1000 ∧ z.a.attrs.length ≤ 1000 ∧ z.a.events.length ≤ 1000) := fun z hz => by
    have hG := chk_good (hI z hz).chk
    exact ⟨Nat.le_trans hG.links (by omega), Nat.le_trans hG.attrs (by omega), Nat.le_trans hG.events (by omega)⟩
  obtain ⟨nz, hnz⟩ : ∃ x, Z.length = x := ⟨_, rfl⟩
  have HNZ : Hid (Z.length = nz) := hnz
  rw [hnz] at k1 hl
  clear hI hU hUw hb hbx hrow hgU hW hY h0 hsW hxW hnz
  refine callsIn_of_wp Tryz.func33 rfl trivial ?_ rfl
  simp only [Tryz.ntmps33, List.size_toArray, List.length_cons, List.length_nil, Nat.reduceAdd, Nat.reduceSub, Array.replicate_succ, Array.replicate_zero, List.push_toArray, List.append_toArray, List.nil_append, List.cons_append]
  gi_wp2
  gi_loopw [7] (fun x wr => ∃ k : Nat, x = .int .i64 k ∧ k ≤ nz ∧ Hid (J k wr ∧ KpU w.heap.size U W wr)) (fun x _ => nz - (intOf x).toNat)
  case atStart => exact ⟨0, rfl, by omega, H0.out.1, Upd.refl _ _⟩
  case round =>
    obtain ⟨k, rfl, hk, HR⟩ := hrel
    by_cases hlt : k < nz
    · have hltd : (k : Int) < (nz : Int) := by omega
      have hkZ : k < Z.length := by rw [HNZ.out]; exact hlt
      obtain ⟨z, hz⟩ : ∃ z, Z[k]'hkZ = z := ⟨_, rfl⟩
      have HZ : Hid (Z[k]? = some z ∧ z ∈ Z) := ⟨by rw [← hz]; exact List.getElem?_eq_getElem hkZ, by rw [← hz]; exact List.getElem_mem hkZ⟩
      have RO := ROW.out wr HR.out.2
      have hks : k < (Z.map sqI).length := by rw [List.length_map]; exact hkZ
      have e9 : (Z.map sqI)[k] = sqI z := by rw [List.getElem_map, hz]
      have RC : ∀ (j : Nat) (u : Value), (spC z.a z.p)[j]? = some u → wr.cell? ⟨g, k * 13 + j, none⟩ = some u := fun j u hu => RO.1.cell k hks j (by rw [e9]; exact hu)
      have SA := RO.2 z HZ.out.2
      have hS := HSM.out z HZ.out.2
      have hb1 : ∀ o, Below wr.heap.size wr (wr.alloc o) := fun o => (Below.refl _ _).alloc (Nat.le_refl _) _
      have CL : Hid (∀ o, Calls Tryz.prog 20 #[spV z.a z.p] (wr.alloc o) fun e w' => ∃ p', e = .returned (spV z.a p') ∧ (∀ w5 : World, (∀ j, (wr.alloc o).heap.size ≤ j → j < w'.heap.size → w5.heap[j]? = w'.heap[j]?) → SpAt w5 z.a p') ∧ Below (wr.alloc o).heap.size (wr.alloc o) w') := fun o => (clone_any z.a z.p (wr.alloc o) (SA.below (hb1 o)) hS.1 hS.2.1 hS.2.2)
      have q0 : wr.cell? ⟨g, k * 13, none⟩ = some (.int .u64 z.a.hi) := RC 0 _ rfl
      have q1 : wr.cell? ⟨g, k * 13 + 1, none⟩ = some (.int .u64 z.a.lo) := RC 1 _ rfl
      have q2 : wr.cell? ⟨g, k * 13 + 2, none⟩ = some (.int .u64 z.a.id) := RC 2 _ rfl
      have q3 : wr.cell? ⟨g, k * 13 + 3, none⟩ = some (.int .u64 z.a.par) := RC 3 _ rfl
      have q4 : wr.cell? ⟨g, k * 13 + 4, none⟩ = some (.slice z.p.la z.a.links.length z.p.lc) := RC 4 _ rfl
      have q5 : wr.cell? ⟨g, k * 13 + 5, none⟩ = some (.string z.a.svc) := RC 5 _ rfl
      have q6 : wr.cell? ⟨g, k * 13 + 6, none⟩ = some (.string z.a.op) := RC 6 _ rfl
      have q7 : wr.cell? ⟨g, k * 13 + 7, none⟩ = some (.int .i64 z.a.kind) := RC 7 _ rfl
      have q8 : wr.cell? ⟨g, k * 13 + 8, none⟩ = some (.int .i64 z.a.status) := RC 8 _ rfl
      have q9 : wr.cell? ⟨g, k * 13 + 9, none⟩ = some (.int .i64 z.a.start) := RC 9 _ rfl
      have q10 : wr.cell? ⟨g, k * 13 + 10, none⟩ = some (.int .i64 z.a.fin) := RC 10 _ rfl
      have q11 : wr.cell? ⟨g, k * 13 + 11, none⟩ = some (.slice z.p.aa z.a.attrs.length z.p.ac) := RC 11 _ rfl
      have q12 : wr.cell? ⟨g, k * 13 + 12, none⟩ = some (.slice z.p.ea z.a.events.length z.p.ec) := RC 12 _ rfl
      unfold spV spC at CL
      clear RO e9 RC SA hS hz hkZ hks hb1
      have HB1 : Hid (Below wr.heap.size wr (wr.alloc (.cells #[.int .u64 z.a.hi, .int .u64 z.a.lo, .int .u64 z.a.id, .int .u64 z.a.par, .slice z.p.la z.a.links.length z.p.lc, .string z.a.svc, .string z.a.op, .int .i64 z.a.kind, .int .i64 z.a.status, .int .i64 z.a.start, .int .i64 z.a.fin, .slice z.p.aa z.a.attrs.length z.p.ac, .slice z.p.ea z.a.events.length z.p.ec] 41))) := (Below.refl _ _).alloc (Nat.le_refl _) _
      gi_wp2_with (first
        | (gi_at_call 20; refine (callsIn_wide.2 (CL.out _)).mono ?_; clear CL; rintro e w5 ⟨p', rfl, hst, hb5⟩; have hbel : Below wr.heap.size wr w5 := HB1.out.trans (hb5.mono HB1.out.size); have HYY := HY.out k wr w5 #[spV z.a p'] (by rw [HNZ.out]; exact hlt) HR.out.2.size HR.out.1 hbel ⟨z, p', HZ.out.1, rfl, fun w6 h6 => hst w6 (fun j h1 h2 => h6 j (by rw [World.size_alloc] at h1; omega) h2)⟩; unfold spV spC at HYY; obtain ⟨fn, tmps, assign, body, hy, hRR⟩ := HYY; have HB5 : Hid (Below wr.heap.size wr w5) := hbel; clear hst hb5 hbel)
        | (refine ⟨trivial, ?_⟩; gi_at_call 20; refine (callsIn_wide.2 (CL.out _)).mono ?_; clear CL; rintro e w5 ⟨p', rfl, hst, hb5⟩; have hbel : Below wr.heap.size wr w5 := HB1.out.trans (hb5.mono HB1.out.size); have HYY := HY.out k wr w5 #[spV z.a p'] (by rw [HNZ.out]; exact hlt) HR.out.2.size HR.out.1 hbel ⟨z, p', HZ.out.1, rfl, fun w6 h6 => hst w6 (fun j h1 h2 => h6 j (by rw [World.size_alloc] at h1; omega) h2)⟩; unfold spV spC at HYY; obtain ⟨fn, tmps, assign, body, hy, hRR⟩ := HYY; have HB5 : Hid (Below wr.heap.size wr w5) := hbel; clear hst hb5 hbel))
      refine hRR.mono ?_
      rintro e W3 ⟨rfl, hJ3, hk3⟩
      have H3 : Hid (J (k + 1) W3 ∧ KpU w.heap.size U W W3) := ⟨hJ3, (HR.out.2.trans (Upd.ofBelow (S := fun j => j = U ∨ w.heap.size ≤ j) HB5.out (fun j h1 h2 => by omega))).trans hk3⟩
      clear hJ3 hk3 hRR hy q0 q1 q2 q3 q4 q5 q6 q7 q8 q9 q10 q11 q12
      gi_wp2
      go_roundw
      case rel => exact ⟨k + 1, by simp, by omega, H3⟩
      case measure => (simp [intOf]; omega)
    · have hltd : ¬ (k : Int) < (nz : Int) := by omega
      have hk2 : k = nz := by omega
      have HJ9 : Hid (J Z.length wr) := by rw [HNZ.out, ← hk2]; exact HR.out.1
      clear hk2 HR
      gi_wp2
      go_end0
      exact ⟨⟨_, rfl⟩, HJ9.out⟩
end Go.Proofs.YtiflfapdffkcbaaGreatDoor
