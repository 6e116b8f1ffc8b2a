/-
  RzI.
-/
import Derived.Test.YtiflfapdffkcbaaDoorRzH
namespace Go.Proofs.YtiflfapdffkcbaaDoor
open Go Go.RowKit Go.Maps Go.WideMaps Go.Shelf
set_option maxRecDepth 100000
attribute [local go_sem] Oper.semAt_some

/-- What told tells. -/
def ToldS9 (w : World) (X : List It) (e : Ending) (w' : World) : Prop := ∃ ad c Y P, e = .returned (.slice ad Y.length c) ∧ Y.Pairwise (fun x y => cmpN x y < 0) ∧ (∀ y, y ∈ Y ↔ y ∈ spsX X) ∧ (∀ V : World, w'.heap.size ≤ V.heap.size → (∀ k, w.heap.size ≤ k → k < w'.heap.size → V.heap[k]? = w'.heap[k]?) → SpsAt V ad Y.length Y P) ∧ Below w.heap.size w w'
/-- Within the loop. -/
structure TdI (X0 : World) (U : Nat) (Z : List It) (k : Nat) (V : World) : Prop where
  keep : KpU X0.heap.size U X0 V
  own : ∃ v K, Blk V U #[v] 25 ∧ OwnSF (X0.heap.size + 2) V v K ∧ K.map (·.1) = (Z.take k).map (fun z => z.a)
theorem TdI.put {X0 : World} {U : Nat} {Z : List It} {k : Nat} {V : World} (h : TdI X0 U Z k V) (hU : U < X0.heap.size) {o : Obj} (o' : Obj) (ho : V.heap[X0.heap.size + 1]? = some o) (_ : o.isCells = false) : TdI X0 U Z k (V.putObj (X0.heap.size + 1) o') := by
  obtain ⟨v, K, h1, h2, h3⟩ := h.own
  refine ⟨⟨h.keep.os, h.keep.tape, h.keep.output, by rw [World.putObj_size]; exact h.keep.size, fun j hj hn => (World.putObj_heap_other (by omega)).trans (h.keep.block j hj hn)⟩, v, K, (World.putObj_heap_other (by omega)).trans h1, h2.put o' (by omega) ho, h3⟩
theorem spsZ_of {X : List It} {Z : List It} (h : RisS X Z) : (Z.map (fun z => z.a)).Pairwise (fun x y => cmpN x y < 0) ∧ ∀ y, y ∈ Z.map (fun z => z.a) ↔ y ∈ spsX X := by
  refine ⟨List.pairwise_map.2 h.up, fun y => ?_⟩
  unfold spsX
  simp only [List.mem_map]
  constructor
  · rintro ⟨z, hz, rfl⟩
    exact ⟨z, (h.mem z).1 hz, rfl⟩
  · rintro ⟨z, hz, rfl⟩
    exact ⟨z, (h.mem z).2 hz, rfl⟩
theorem OwnSF.stay {base : Nat} {w W : World} {v : Value} {L : List Sq} (h : OwnSF base w v L) (hs : w.heap.size ≤ W.heap.size) (he : ∀ k, base ≤ k → k < w.heap.size → W.heap[k]? = w.heap[k]?) : OwnSF base W v L := by
  refine ⟨⟨h.row.1, ?_⟩, fun x hx => ?_⟩
  · rcases h.row.2 with h0 | ⟨g, cap, cur, e, hb, hh, rest⟩
    · exact Or.inl h0
    · exact Or.inr ⟨g, cap, cur, e, hb, (he g hb (lt_of_block hh)).trans hh, rest⟩
  · obtain ⟨lo, hi, h0, h1, h2, h3⟩ := h.kept x hx
    exact ⟨lo, hi, h0, Nat.le_trans h1 hs, h2, fun w5 h5 => h3 w5 (fun k k1 k2 => (h5 k k1 k2).trans (he k (by omega) (by omega)))⟩
theorem KeptF.put {base : Nat} {w : World} {v : Value} {x : Sq} (h : KeptF base w v x) {l : Nat} {o : Obj} (o' : Obj) (hl : l < base) (_ : w.heap[l]? = some o) : KeptF base (w.putObj l o') v x := by
  obtain ⟨lo, hi, h0, h1, h2, h3⟩ := h
  exact ⟨lo, hi, h0, by rw [World.putObj_size]; exact h1, h2, fun w5 h5 => h3 w5 (fun k k1 k2 => (h5 k k1 k2).trans (World.putObj_heap_other (by omega)))⟩
/-- Within a round, ahead of the append. -/
structure TdJ (X0 : World) (U : Nat) (v : Value) (K : List Sq) (x : Sq) (xb : Nat) (V : World) : Prop where
  keep : KpU X0.heap.size U X0 V
  blk : Blk V U #[v] 25
  own : OwnSF (X0.heap.size + 2) V v K
  kept : KeptF (X0.heap.size + 2) V v x
  one : Blk V xb (spC x.1 x.2) 36
theorem TdJ.put {X0 : World} {U : Nat} {v : Value} {K : List Sq} {x : Sq} {xb : Nat} {V : World} (h : TdJ X0 U v K x xb V) (hU : U < X0.heap.size) (hx : X0.heap.size + 1 < xb) {o : Obj} (o' : Obj) (ho : V.heap[X0.heap.size + 1]? = some o) (_ : o.isCells = false) : TdJ X0 U v K x xb (V.putObj (X0.heap.size + 1) o') :=
  ⟨⟨h.keep.os, h.keep.tape, h.keep.output, by rw [World.putObj_size]; exact h.keep.size, fun j hj hn => (World.putObj_heap_other (by omega)).trans (h.keep.block j hj hn)⟩, (World.putObj_heap_other (by omega)).trans h.blk, h.own.put o' (by omega) ho, h.kept.put o' (by omega) ho, (World.putObj_heap_other (by omega)).trans h.one⟩
theorem OwnSF.lt {base : Nat} {w : World} {v : Value} {L : List Sq} (h : OwnSF base w v L) {k : Nat} (hk : v.ownBlock = some k) : base ≤ k ∧ k < w.heap.size := by
  obtain ⟨h1, cs, fz, h2⟩ := own_block h.row hk
  exact ⟨h1, lt_of_block h2⟩
/-- A round begins. -/
theorem TdI.begin {X0 A B : World} {U : Nat} {Z : List It} {k : Nat} {z : It} {p' : Pl} (h : TdI X0 U Z k A) (hA : X0.heap.size + 2 ≤ A.heap.size) (hb : Below A.heap.size A B) (hst : ∀ w5 : World, (∀ j, A.heap.size ≤ j → j < B.heap.size → w5.heap[j]? = B.heap[j]?) → SpAt w5 z.a p') : ∃ v K, K.map (·.1) = (Z.take k).map (fun z => z.a) ∧ TdJ X0 U v K (z.a, p') B.heap.size (B.alloc (.cells (spC z.a p') 36)) := by
  obtain ⟨v, K, h1, h2, h3⟩ := h.own
  have hb2 : Below B.heap.size B (B.alloc (.cells (spC z.a p') 36)) := (Below.refl _ _).alloc (Nat.le_refl _) _
  have hb3 := hb.trans (hb2.mono hb.size)
  have hk : KeptF (X0.heap.size + 2) B v (z.a, p') := ⟨A.heap.size, B.heap.size, hA, Nat.le_refl _, fun g hg hl => by have := (h2.lt hg).2; omega, hst⟩
  exact ⟨v, K, h3, h.keep.trans (Upd.ofBelow (S := fun j => j = U ∨ X0.heap.size ≤ j) hb3 (fun j h1 h2 => by omega)), h1.below hb3 h1.lt, h2.below hb3, hk.below hb2, Blk.new _ _ _⟩
/-- A round ends. -/
theorem TdJ.done {X0 V w6 : World} {U : Nat} {Z : List It} {k : Nat} {z : It} {p' : Pl} {v v' : Value} {K : List Sq} {xb : Nat} (h : TdJ X0 U v K (z.a, p') xb V) (hU : U < X0.heap.size) (hK : K.map (·.1) = (Z.take k).map (fun z => z.a)) (hk : k < Z.length) (hz : Z[k] = z) (ho : OwnSF (X0.heap.size + 2) w6 v' (K ++ [((z.a, p') : Sq)])) (hu : Upd (fun j => v.ownBlock = some j) V w6) : KeepsFrom X0.heap.size V (w6.setCell ⟨U, 0, none⟩ v') ∧ KpU X0.heap.size U V (w6.setCell ⟨U, 0, none⟩ v') ∧ TdI X0 U Z (k + 1) (w6.setCell ⟨U, 0, none⟩ v') := by
  have hne : ∀ j, v.ownBlock = some j → X0.heap.size + 2 ≤ j := fun j hj => (h.own.lt hj).1
  have hUU : Upd (fun j => j = U ∨ v.ownBlock = some j) V (w6.setCell ⟨U, 0, none⟩ v') := Upd.setCell (S := fun j => j = U ∨ v.ownBlock = some j) (hu.mono (fun _ _ e => Or.inr e)) (p := ⟨U, 0, none⟩) (fun _ => Or.inl rfl) v'
  have hkp : KpU X0.heap.size U V (w6.setCell ⟨U, 0, none⟩ v') := hUU.mono (fun j _ e => by
    rcases e with e | e
    · exact Or.inl e
    · exact Or.inr (by have := hne j e; omega))
  have hb6 : Blk w6 U #[v] 25 := h.blk.upd hu (fun e => by have := hne U e; omega)
  refine ⟨⟨hUU.size, fun j o hj hjo hc => ?_⟩, hkp, h.keep.trans hkp, v', K ++ [((z.a, p') : Sq)], ?_, ?_, ?_⟩
  · refine (hUU.block j (lt_of_block hjo) (fun e => ?_)).trans hjo
    rcases e with e | e
    · omega
    · obtain ⟨_, cs, fz, h9⟩ := own_block h.own.row e
      rw [hjo] at h9
      injection h9 with h9
      subst h9
      simp [Obj.isCells] at hc
  · exact hb6.set 0 v'
  · have hs : Upd (fun j => j = U) w6 (w6.setCell ⟨U, 0, none⟩ v') := Upd.setCell (S := fun j => j = U) (Upd.refl _ _) (p := ⟨U, 0, none⟩) (fun _ => rfl) v'
    refine ⟨ownsRow_upd ho.row hs (fun j hj e => by have := (ho.lt hj).1; omega), fun x hx => ?_⟩
    obtain ⟨lo, hi, h0, h1, h2, h3⟩ := ho.kept x hx
    exact ⟨lo, hi, h0, Nat.le_trans h1 hs.size, h2, fun w5 h5 => h3 w5 (fun j k1 k2 => (h5 j k1 k2).trans (hs.block j (by omega) (by omega)))⟩
  · rw [List.map_append, hK, List.take_succ_eq_append_getElem hk, List.map_append, hz]
    rfl
end Go.Proofs.YtiflfapdffkcbaaDoor
