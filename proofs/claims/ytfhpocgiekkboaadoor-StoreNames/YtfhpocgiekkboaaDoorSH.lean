/-
  Layer 9 (store): Put, New, Get, Count.
-/
import Derived.Test.YtfhpocgiekkboaaDoorSG
namespace Go.Proofs.YtfhpocgiekkboaaDoor
open Go.RowKit Go.Maps Go.WideMaps
set_option maxRecDepth 100000

def stP (st : List Sp × List Int) (a : Sp) : List Sp × List Int := (putL st.1 a, st.2 ++ [becI st.1 a])
def runP (L : List Sp) (Y : List Sp) : List Sp × List Int := Y.foldl stP (L, [])
theorem run_snoc (L : List Sp) (Y : List Sp) (k : Nat) (hk : k < Y.length) : runP L (Y.take (k + 1)) = stP (runP L (Y.take k)) Y[k] := by
  unfold runP
  rw [List.take_succ_eq_append_getElem hk, List.foldl_append]
  rfl
theorem run_len (L : List Sp) (Y : List Sp) : ∀ k, k ≤ Y.length → (runP L (Y.take k)).2.length = k
  | 0, _ => by simp [runP]
  | k + 1, hk => by
    rw [run_snoc L Y k hk]
    simp [stP, run_len L Y k (by omega)]
def chC (cs : List Int) (m : Nat) : Array Value := ((cs ++ List.replicate m 0).map (Value.int .i64)).toArray
theorem chC_at (cs : List Int) (m k : Nat) (hk : cs.length = k) (hm : 0 < m) : (chC cs m)[k]? = some (.int .i64 0) := by
  unfold chC
  subst hk
  simp [hm]
theorem chC_set (cs : List Int) (m k : Nat) (c : Int) (hk : cs.length = k) : (chC cs (m + 1)).setIfInBounds k (.int .i64 c) = chC (cs ++ [c]) m := by
  unfold chC
  subst hk
  apply Array.toList_inj.1
  simp [List.replicate_succ]
theorem fits_zero {X : List It} {Y : List Sp} (h : fitsI X Y = 0) : ∀ a ∈ Y, chkS a = 0 := by
  intro a ha
  unfold fitsI at h
  cases hfd : Y.find? (fun a => decide (chkS a ≠ 0)) with
  | none =>
    have := List.find?_eq_none.1 hfd a ha
    simpa using this
  | some y =>
    rw [hfd] at h
    have := List.find?_some hfd
    simp at this
    exact absurd h this
/-- Put on the way: k spans are in. -/
structure PtAt (w wr : World) (s b : Nat) (M : Tc → Nat) (T : List Tc) (X : List It) (r : Nat) (Y : List Sp) (k : Nat) (M' : Tc → Nat) (T' : List Tc) (X' : List It) : Prop where
  st : StoreAt wr s b M' T' X'
  sps : spsX X' = (runP (spsX X) (Y.take k)).1
  row : wr.heap[r]? = some (.cells (chC (runP (spsX X) (Y.take k)).2 (Y.length - k)) 44 (0, 0))
  upd : Upd (FT s b M T) w wr
  ft : ∀ j, FT s b M' T' j → FT s b M T j ∨ w.heap.size ≤ j
  len : X'.length ≤ X.length + k
  low : w.heap.size ≤ r
  slow : s < w.heap.size
  far : ∀ x, x ∈ X' → x.hi ≤ r ∨ r < x.lo
theorem pt_step {w wr w2 : World} {s b r k : Nat} {M M' M2 : Tc → Nat} {T T' T2 : List Tc} {X X' X2 : List It} {Y : List Sp} (h : PtAt w wr s b M T X r Y k M' T' X') (hk : k < Y.length) (o : Obj)
    (s2 : StoreAt w2 s b M2 T2 X2) (e2 : spsX X2 = putL (spsX X') Y[k]) (u2 : Upd (FT s b M' T') (wr.alloc o) w2) (f2 : ∀ j, FT s b M2 T2 j → FT s b M' T' j ∨ (wr.alloc o).heap.size ≤ j) (l2 : X2.length ≤ X'.length + 1) (m2 : ∀ x, x ∈ X2 → x ∈ X' ∨ (wr.alloc o).heap.size ≤ x.lo) :
    w2.cell? ⟨r, k, none⟩ = some (.int .i64 0) ∧ w2.frozen? ⟨r, k, none⟩ = false ∧ PtAt w (w2.setCell ⟨r, k, none⟩ (.int .i64 (becI (spsX X') Y[k]))) s b M T X r Y (k + 1) M2 T2 X2 := by
  have hr := lt_of_block h.row
  have hsz : (wr.alloc o).heap.size = wr.heap.size + 1 := World.size_alloc _ _
  have hrl := run_len (spsX X) Y k (by omega)
  have nr : ∀ j, FT s b M' T' j → j ≠ r := by
    rintro j (rfl | rfl | ⟨t, ht, rfl⟩)
    · have := h.slow; have := h.low; omega
    · exact (h.st.nest.not h.row).1
    · exact (h.st.nest.not h.row).2 t ht
  have row1 : (wr.alloc o).heap[r]? = _ := (Below.heap_alloc wr o r hr).trans h.row
  have row2 := (u2.block r (by omega) (fun hh => nr r hh rfl)).trans row1
  have hcell := chC_at (runP (spsX X) (Y.take k)).2 (Y.length - k) k hrl (by omega)
  have us : Upd (fun j => j = r) w2 (w2.setCell ⟨r, k, none⟩ (.int .i64 (becI (spsX X') Y[k]))) := (Upd.refl (fun j => j = r) w2).setCell (p := ⟨r, k, none⟩) (fun _ => rfl) _
  have far2 : ∀ x, x ∈ X2 → x.hi ≤ r ∨ r < x.lo := fun x hx => by
    rcases m2 x hx with hx | hx
    · exact h.far x hx
    · exact Or.inr (by omega)
  have n2 : ∀ j, FT s b M2 T2 j → j ≠ r := by
    rintro j (rfl | rfl | ⟨t, ht, rfl⟩)
    · have := h.slow; have := h.low; omega
    · exact (s2.nest.not row2).1
    · exact (s2.nest.not row2).2 t ht
  refine ⟨blk_cell row2 k hcell, blk_free row2 k, ⟨s2.upd us (fun j hj e => n2 j hj e) (fun x hx j h1 h2 e => by subst e; rcases far2 x hx with q | q <;> omega), ?_, ?_, ?_, fun j hj => ?_, by have := h.len; omega, h.low, h.slow, far2⟩⟩
  · rw [e2, h.sps, run_snoc _ _ _ hk]; rfl
  · have k5 := set_block row2 k (.int .i64 (becI (spsX X') Y[k]))
    rw [show Y.length - k = (Y.length - (k + 1)) + 1 from by omega, chC_set _ _ _ _ hrl] at k5
    rw [run_snoc _ _ _ hk]
    rw [h.sps] at k5
    rw [h.sps]
    exact k5
  · have u3 : Upd (FT s b M T) w w2 := (h.upd.alloc o).trans u2 (fun i hi hF => by rcases h.ft i hF with q | q; exact q; omega)
    exact u3.trans us (fun i hi e => by have := h.low; omega)
  · rcases f2 j hj with q | q
    · exact h.ft j q
    · have := h.upd.size
      exact Or.inr (by omega)
end Go.Proofs.YtfhpocgiekkboaaDoor
