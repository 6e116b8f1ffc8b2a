/-
  Layer 7 (disk): a disk in memory; names that may be; refuse, find, fire.
-/
import Derived.Test.YtgoafinbaiepmaaGreatDoorDe
import Derived.Maps.OwnSet
import Derived.Maps.RangeWalk
import Derived.StringKeys
import Derived.WalkKit
namespace Go.Proofs.YtgoafinbaiepmaaGreatDoor
open Go.RowKit Go.Shelf Go.Maps
set_option maxRecDepth 100000

theorem law_s : Keyed Tryz.prog 9 := string_keyed Tryz.underlying9
theorem law_i : Keyed Tryz.prog 3 := int_keyed Tryz.underlying3
/-- How a file's pointer reads: by its block. -/
def ptrR (v : Value) : Option (DataW Unit × List MemPlace) :=
  match v with
  | .pointer none => some (.nil, [])
  | .pointer (some a) => if a = ⟨a.block, 0, none⟩ then some (.lit (.int .i64 a.block), []) else none
  | _ => none
theorem ptrR_mk (b : Nat) : ptrR (.pointer (some ⟨b, 0, none⟩)) = some (.lit (.int .i64 b), []) := by simp [ptrR]
theorem ptrR_nil : ptrR (.pointer none) = some (.nil, []) := rfl
theorem ptrR_inv {v : Value} {b : Int} {ps : List MemPlace} (h : ptrR v = some (.lit (.int .i64 b), ps)) : ∃ k : Nat, v = .pointer (some ⟨k, 0, none⟩) ∧ (k : Int) = b := by
  unfold ptrR at h
  split at h
  · simp at h
  · rename_i a
    split at h
    · rename_i ha
      simp at h
      exact ⟨a.block, by rw [← ha], h.1⟩
    · simp at h
  · simp at h
theorem ptrR_shape {v : Value} {y : DataW Unit × List MemPlace} (h : ptrR v = some y) : ∃ a, v = .pointer a := by
  unfold ptrR at h
  split at h
  · exact ⟨none, rfl⟩
  · exact ⟨_, rfl⟩
  · simp at h

/-- What a disk is. -/
structure Dk where
  mf : Nat
  mn : Nat
  ml : Nat
  cr : Nat
  sv : Value
  ns : List Value
  a1 : Int
  a2 : Int
  a3 : Int
  off : Bool
  DF : DataW Unit
  DN : DataW Unit
  DL : DataW Unit
def Dk.cells (K : Dk) : Array Value := #[.map (some K.mf), .int .i64 K.cr, .map (some K.mn), .map (some K.ml), K.sv, .int .i64 K.a1, .int .i64 K.a2, .int .i64 K.a3, .bool K.off]
structure DiskAt (base : Nat) (w : World) (d N : Nat) (K : Dk) : Prop where
  block : w.heap[d]? = some (.cells K.cells 96 (0, 0))
  mF : w.ownsMap Tryz.prog 3 ptrR K.mf N K.DF
  mN : w.ownsMap Tryz.prog 9 (plainElem (H := Unit) Tryz.prog 3) K.mn N K.DN
  mL : w.ownsMap Tryz.prog 9 (plainElem (H := Unit) Tryz.prog 3) K.ml N K.DL
  sown : w.ownsRow base 128 1 K.sv K.ns.length K.ns
  n1 : K.mf ≠ K.mn
  n2 : K.mf ≠ K.ml
  n3 : K.mn ≠ K.ml
  low : base ≤ d ∧ base ≤ K.mf ∧ base ≤ K.mn ∧ base ≤ K.ml
/-- What may be written of a disk. -/
def DW (d : Nat) (K : Dk) (k : Nat) : Prop := k = d ∨ k = K.mf ∨ k = K.mn ∨ k = K.ml ∨ K.sv.ownBlock = some k
theorem map_block {w : World} {k : TypeId} {R : Value → Option (DataW Unit × List MemPlace)} {b n : Nat} {D : DataW Unit} (h : w.ownsMap Tryz.prog k R b n D) : ∃ es c, w.heap[b]? = some (.map es c) := by
  obtain ⟨es, c, hb, _⟩ := h
  exact ⟨es, c, hb⟩
theorem map_upd {S : Nat → Prop} {w w' : World} {k : TypeId} {R : Value → Option (DataW Unit × List MemPlace)} {b n : Nat} {D : DataW Unit} (h : w.ownsMap Tryz.prog k R b n D) (hu : Upd S w w') (hS : ¬ S b) : w'.ownsMap Tryz.prog k R b n D := by
  obtain ⟨es, c, hb, r⟩ := h
  exact ⟨es, c, (hu.block b (lt_of_block hb) hS).trans hb, r⟩
theorem DiskAt.upd {S : Nat → Prop} {base d N : Nat} {w w' : World} {K : Dk} (h : DiskAt base w d N K) (hu : Upd S w w') (hS : ∀ k, DW d K k → ¬ S k) : DiskAt base w' d N K :=
  ⟨(hu.block d (lt_of_block h.block) (hS d (Or.inl rfl))).trans h.block, map_upd h.mF hu (hS _ (Or.inr (Or.inl rfl))), map_upd h.mN hu (hS _ (Or.inr (Or.inr (Or.inl rfl)))), map_upd h.mL hu (hS _ (Or.inr (Or.inr (Or.inr (Or.inl rfl))))), ownsRow_upd h.sown hu (fun k hk => hS k (Or.inr (Or.inr (Or.inr (Or.inr hk))))), h.n1, h.n2, h.n3, h.low⟩
theorem DiskAt.below {base d N : Nat} {w w' : World} {K : Dk} (h : DiskAt base w d N K) (hb : Below w.heap.size w w') : DiskAt base w' d N K :=
  h.upd (Upd.ofBelow (S := fun _ => False) hb (fun k hk hk' => by omega)) (fun _ _ h => h)
theorem DiskAt.lt {base d N : Nat} {w : World} {K : Dk} (h : DiskAt base w d N K) {k : Nat} (hk : DW d K k) : base ≤ k ∧ k < w.heap.size := by
  have := h.low
  rcases hk with rfl | rfl | rfl | rfl | hk
  · exact ⟨this.1, lt_of_block h.block⟩
  · exact ⟨this.2.1, h.mF.lt⟩
  · exact ⟨this.2.2.1, h.mN.lt⟩
  · exact ⟨this.2.2.2, h.mL.lt⟩
  · exact ⟨(own_lt h.sown hk).2, (own_lt h.sown hk).1⟩
/-- A file's blocks are none of the disk's. -/
theorem DiskAt.apart {base base' d N : Nat} {w : World} {K : Dk} {f : Nat} {F : Fl} (h : DiskAt base w d N K) (hf : FileAt base' w f F) : ∀ k, DW d K k → ¬ FW f F k := by
  intro k hk
  rcases hk with rfl | rfl | rfl | rfl | hk
  · exact hf.not_cells h.block (by decide) (by decide) (by decide)
  · obtain ⟨es, c, hb⟩ := map_block h.mF; exact hf.not_map hb
  · obtain ⟨es, c, hb⟩ := map_block h.mN; exact hf.not_map hb
  · obtain ⟨es, c, hb⟩ := map_block h.mL; exact hf.not_map hb
  · obtain ⟨cs, hc⟩ := own_type h.sown hk; exact hf.not_cells hc (by decide) (by decide) (by decide)
theorem DiskAt.apartS {base base' d N : Nat} {w : World} {K : Dk} {s : St} (h : DiskAt base w d N K) (hs : StAt base' w s) : ∀ k, s.bl = some k → ¬ DW d K k := by
  intro k e hk
  obtain ⟨cs, hcs⟩ := hs.type e
  rcases hk with rfl | rfl | rfl | rfl | hk
  · rw [h.block] at hcs; simp at hcs
  · obtain ⟨es, c, hb⟩ := map_block h.mF; rw [hb] at hcs; simp at hcs
  · obtain ⟨es, c, hb⟩ := map_block h.mN; rw [hb] at hcs; simp at hcs
  · obtain ⟨es, c, hb⟩ := map_block h.mL; rw [hb] at hcs; simp at hcs
  · obtain ⟨cs2, hc⟩ := own_type h.sown hk; rw [hc] at hcs; simp at hcs
theorem blk_cell {w : World} {b : Nat} {cs : Array Value} {t : TypeId} (h : w.heap[b]? = some (.cells cs t (0, 0))) (i : Nat) {v : Value} (hv : cs[i]? = some v) : w.cell? ⟨b, i, none⟩ = some v := by
  simp [World.cell?, h, hv]
theorem blk_set {w : World} {b : Nat} {cs : Array Value} {t : TypeId} (h : w.heap[b]? = some (.cells cs t (0, 0))) (i : Nat) (x : Value) : (w.setCell ⟨b, i, none⟩ x).heap[b]? = some (.cells (cs.setIfInBounds i x) t (0, 0)) := by
  show (w.heap.modify b _)[b]? = _
  rw [Array.getElem?_modify, if_pos rfl, h]
  rfl
structure DCells (w : World) (d : Nat) (K : Dk) : Prop where
  c0 : w.cell? ⟨d, 0, none⟩ = some (.map (some K.mf))
  c1 : w.cell? ⟨d, 1, none⟩ = some (.int .i64 K.cr)
  c2 : w.cell? ⟨d, 2, none⟩ = some (.map (some K.mn))
  c3 : w.cell? ⟨d, 3, none⟩ = some (.map (some K.ml))
  c4 : w.cell? ⟨d, 4, none⟩ = some K.sv
  c5 : w.cell? ⟨d, 5, none⟩ = some (.int .i64 K.a1)
  c6 : w.cell? ⟨d, 6, none⟩ = some (.int .i64 K.a2)
  c7 : w.cell? ⟨d, 7, none⟩ = some (.int .i64 K.a3)
  c8 : w.cell? ⟨d, 8, none⟩ = some (.bool K.off)
theorem DiskAt.cells {base d N : Nat} {w : World} {K : Dk} (h : DiskAt base w d N K) : DCells w d K :=
  ⟨blk_cell h.block 0 rfl, blk_cell h.block 1 rfl, blk_cell h.block 2 rfl, blk_cell h.block 3 rfl, blk_cell h.block 4 rfl, blk_cell h.block 5 rfl, blk_cell h.block 6 rfl, blk_cell h.block 7 rfl, blk_cell h.block 8 rfl⟩

/-- The name a. -/
def nameA : ByteArray := ⟨#[97]⟩
theorem mayStand_a (w : World) : Calls Tryz.prog 199 #[.int .u8 97] w fun e w' => e = .returned (.bool true) ∧ w' = w := by
  go_enter Tryz.func199, Tryz.ntmps199
  go_wp2
  go_ret
  exact ⟨rfl, rfl⟩
set_option maxHeartbeats 1000000 in
theorem mayBe_a (w : World) : Calls Tryz.prog 174 #[.string ⟨#[97]⟩] w fun e w' => e = .returned (.bool true) ∧ w' = w := by
  have M := mayStand_a w
  go_enter Tryz.func174, Tryz.ntmps174
  go_wp2
  refine wp_loop_rounds 2 ?_
  rw [rounds_succ]
  go_wp2_with (go_at_call 199; refine M.mono ?_; rintro e w' ⟨rfl, hw⟩; obtain rfl := hw.symm)
  rw [rounds_succ]
  go_wp2
  go_ret
  exact ⟨rfl, rfl⟩
theorem refuse_a (base d N : Nat) (K : Dk) (w : World) (h : DiskAt base w d N K) (ho : K.off = false) :
    Calls Tryz.prog 136 #[.pointer (some ⟨d, 0, none⟩), .string ⟨#[97]⟩] w fun e w' => e = .returned (.int .i64 0) ∧ w' = w := by
  have c8 := h.cells.c8
  rw [ho] at c8
  have M := mayBe_a w
  clear h
  go_enter Tryz.func136, Tryz.ntmps136
  go_wp2_with (go_at_call 174; refine M.mono ?_; rintro e w' ⟨rfl, hw⟩; obtain rfl := hw.symm)
  go_ret
  exact ⟨rfl, rfl⟩
end Go.Proofs.YtgoafinbaiepmaaGreatDoor
