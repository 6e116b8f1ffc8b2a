/-
  FY.
-/
import Derived.Test.YtipkolmkpfpjjaaGreatDoorFX
namespace Go.Proofs.YtipkolmkpfpjjaaGreatDoor
open Go Go.RowKit
set_option maxRecDepth 100000

def zSpot : Spot := ⟨⟨0, 0, 0, 0, [], ⟨#[]⟩, ⟨#[]⟩, 0, 0, 0, 0, [], []⟩, ⟨none, 0, none, 0, none, 0⟩, ⟨0, 0, 0, 0, 0, 0, 0⟩, none, 0, 0⟩
theorem zSpot_en : enS zSpot = zSpotL := rfl
theorem infoSp : (Tryz.prog.info? 71).map (fun i => (i.zero, i.size, i.bytes)) = some (some (.agg zSpotL.toArray), 21, 248) := by kernel_rfl
theorem made_spots (n : Nat) : madeCells (Value.agg zSpotL.toArray).cells (n * 21) = rowS (List.replicate n zSpot) := by
  have hsz : (rowS (List.replicate n zSpot)).size = n * 21 := by unfold rowS; rw [List.size_toArray, flatS_len]; simp
  have hm : ∀ t, t < n * 21 → (madeCells (Value.agg zSpotL.toArray).cells (n * 21))[t]? = zSpotL[t % 21]? := fun t ht => by
    have hl : t % 21 < zSpotL.length := by show t % 21 < 21; omega
    have h21 : zSpotL.length = 21 := rfl
    simp [madeCells, Value.cells, ht, hl]
    rw [h21]
    simp [hl]
  apply Array.ext_getElem?
  intro t
  by_cases ht : t < n * 21
  · rw [hm t ht]
    have e : t = t / 21 * 21 + t % 21 := by omega
    unfold rowS
    rw [List.getElem?_toArray]
    conv => rhs; rw [e]
    rw [flatS_get _ (t / 21) (by simp; omega) (t % 21) (by omega)]
    simp [zSpot_en]
  · rw [Array.getElem?_eq_none (by simp [madeCells]; omega), Array.getElem?_eq_none (by rw [hsz]; omega)]
/-- A spot is stored, at a step of a region that draws its order. -/
theorem step_stS {ops : Array Oper} {o : Oper} {a : Act} {w : World} {K : Act → World → Prop} {Q : Exit → Act → World → Prop} {E : Prop} (hgd : o.guard = none) (x y : Operand) (ho : o.op = .store 71 x y) (b i : Nat) (X : List Spot) (s : Spot) (hB : Blk w b (rowS X) 71) (hiX : i < X.length) (hx : a.eval x = .pointer (some ⟨b, i * 21, none⟩)) (hy : a.eval y = .agg (enS s).toArray)
    (h : ∀ w', Blk w' b (rowS (X.set i s)) 71 → Upd (fun k => k = b) w w' → K (a.put o.dst undef) w') : if Region.wanted o (yielded ops a.tmps) = true then Oper.wp Tryz.prog o a w K Q else E := by
  have hw : Region.wanted o (yielded ops a.tmps) = true := by simp [Region.wanted, hgd]
  rw [if_pos hw]
  refine wp_store_mid 71 x y ho b (i * 21) (enS s).toArray hx hy (by rw [List.size_toArray, enS_len]; exact Blk.there hB (i * 21) 21 (by rw [flatS_len]; omega)) (by rw [List.size_toArray, enS_len]; kernel_rfl) (all_oneCell_toArray (enS_one s)) ?_
  refine h _ ?_ (setCells_upd _ _ _ _)
  have := setCells_blk (enS s) (i * 21) (X.flatMap enS) w hB
  rw [flat_put X i hiX s] at this
  exact this
def ndOf (a : Sp) : Nod := ⟨a.id, 0, 0, 0, 0, 0, 0⟩
/-- A spot that is laid: its span's lists lie in blocks of its own. -/
structure Laid (w : World) (f : Nat) (a : Sp) (z : Spot) : Prop where
  a_ : z.a = a
  nd : z.nd = ndOf a
  kv : z.kv = .slice none 0 0
  at_ : ∃ lo hi, f < lo ∧ hi ≤ w.heap.size ∧ ∀ W : World, (∀ j, lo ≤ j → j < hi → W.heap[j]? = w.heap[j]?) → SpAt W a z.p
theorem Laid.upd {S : Nat → Prop} {w w' : World} {f : Nat} {a : Sp} {z : Spot} (h : Laid w f a z) (hu : Upd S w w') (hS : ∀ j, f < j → j < w.heap.size → ¬ S j) : Laid w' f a z := by
  obtain ⟨lo, hi, h1, h2, h3⟩ := h.at_
  refine ⟨h.a_, h.nd, h.kv, lo, hi, h1, Nat.le_trans h2 hu.size, fun W hW => h3 W fun j hj1 hj2 => ?_⟩
  rw [hW j hj1 hj2, hu.block j (by omega) (hS j (by omega) (by omega))]
/-- While Build lays spots. -/
structure BuR (w wr : World) (f sb : Nat) (X : List Sp) (k : Nat) (Z : List Spot) : Prop where
  head : Blk wr f #[.slice (some ⟨sb, 0, none⟩) X.length X.length, .slice none 0 0] 68
  row : Blk wr sb (rowS Z) 71
  len : Z.length = X.length
  below : Below w.heap.size w wr
  lo : w.heap.size ≤ sb ∧ sb < f
  done : ∀ i (h1 : i < Z.length) (h2 : i < X.length), i < k → Laid wr f X[i] Z[i]
theorem BuR.step {w wr w5 w6 : World} {f sb k : Nat} {X : List Sp} {Z : List Spot} (h : BuR w wr f sb X k Z) (hk : k < X.length) (hb : Below wr.heap.size wr w5) (z : Spot) (hz : Laid w5 f X[k] z) (hB : Blk w6 sb (rowS (Z.set k z)) 71) (hu : Upd (fun j => j = sb) w5 w6) : BuR w w6 f sb X (k + 1) (Z.set k z) := by
  have hs := hb.size
  have u5 : Upd (fun _ => False) wr w5 := Upd.ofBelow hb (fun k h1 h2 => by omega)
  have hlo := h.lo
  refine ⟨(h.head.below hb h.head.lt).upd hu (fun e => by omega), hB, by simp [h.len], (h.below.trans (hb.mono h.below.size)).trans (hu.below (by have := h.below.size; omega) (fun j hj e => by omega)), hlo, fun i h1 h2 hi => ?_⟩
  by_cases e : k = i
  · subst e
    simp only [List.getElem_set_self]
    exact hz.upd hu (fun j h1 h2 e => by omega)
  · simp only [List.getElem_set_ne e]
    exact ((h.done i (by simpa using h1) h2 (by omega)).upd u5 (fun _ _ _ h => h)).upd hu (fun j h1 h2 e => by omega)
theorem rise_unique : ∀ (X Y : List Sp), X.Perm Y → X.Pairwise (fun a b => a.id < b.id) → Y.Pairwise (fun a b => a.id < b.id) → X = Y
  | [], Y, h, _, _ => by rw [List.nil_perm.1 h]
  | x :: r, [], h, _, _ => absurd h.length_eq (by simp)
  | x :: r, y :: s, h, hx, hy => by
    rw [List.pairwise_cons] at hx hy
    have e : x = y := by
      have h1 : x ∈ y :: s := h.mem_iff.1 (by simp)
      have h2 : y ∈ x :: r := h.mem_iff.2 (by simp)
      rcases List.mem_cons.1 h1 with e | m1
      · exact e
      · rcases List.mem_cons.1 h2 with e | m2
        · exact e.symm
        · have := hx.1 y m2; have := hy.1 x m1; omega
    subst e
    rw [rise_unique r s (List.Perm.cons_inv h) hx.2 hy.2]
end Go.Proofs.YtipkolmkpfpjjaaGreatDoor
