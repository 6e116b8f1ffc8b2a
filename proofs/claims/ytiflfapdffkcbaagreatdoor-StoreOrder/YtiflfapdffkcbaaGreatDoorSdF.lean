/-
  SdF.
-/
import Derived.Test.YtiflfapdffkcbaaGreatDoorSaBq
import Derived.Test.YtiflfapdffkcbaaGreatDoorTJq
import Derived.Test.YtiflfapdffkcbaaGreatDoorSaO
namespace Go.Proofs.YtiflfapdffkcbaaGreatDoor
open Go Go.RowKit
set_option maxRecDepth 100000

/-- A span whose lists lie in blocks of their own, apart from a row's. -/
def KeptSp (W : World) (v : Value) (x : Sq) : Prop := ∃ lo hi, hi ≤ W.heap.size ∧ (∀ g, v.ownBlock = some g → ¬ (lo ≤ g ∧ g < hi)) ∧ ∀ w5 : World, (∀ k, lo ≤ k → k < hi → w5.heap[k]? = W.heap[k]?) → SpAt w5 x.1 x.2
theorem KeptSp.at {W : World} {v : Value} {x : Sq} (h : KeptSp W v x) : SpAt W x.1 x.2 := by
  obtain ⟨lo, hi, _, _, h3⟩ := h
  exact h3 W (fun _ _ _ => rfl)
theorem KeptSp.grown {W W' : World} {v v' : Value} {x : Sq} (h : KeptSp W v x) (hu : Upd (fun k => v.ownBlock = some k) W W') (hm : Moved W v v') : KeptSp W' v' x := by
  obtain ⟨lo, hi, h1, h2, h3⟩ := h
  refine ⟨lo, hi, Nat.le_trans h1 hu.size, fun g hg hl => ?_, fun w5 h5 => h3 w5 (fun k k1 k2 => (h5 k k1 k2).trans (hu.block k (by omega) (fun e => h2 k e ⟨k1, k2⟩)))⟩
  rcases hm with e | ⟨k, e, hk⟩
  · rw [e] at hg
    exact h2 g hg hl
  · rw [e] at hg
    injection hg with hg
    omega
theorem KeptSp.below {W W' : World} {v : Value} {x : Sq} (h : KeptSp W v x) (hb : Below W.heap.size W W') : KeptSp W' v x :=
  h.grown (Upd.ofBelow hb (fun k h1 h2 => by omega)) (Moved.refl _ _)
/-- A row of spans of one's own. -/
structure OwnSq (base : Nat) (w : World) (v : Value) (L : List Sq) : Prop where
  row : w.ownsRow base 41 13 v L.length (L.flatMap sqL)
  kept : ∀ x ∈ L, KeptSp w v x
theorem OwnSq.below {base : Nat} {w w' : World} {v : Value} {L : List Sq} (h : OwnSq base w v L) (hb : Below w.heap.size w w') : OwnSq base w' v L :=
  ⟨ownsRow_upd h.row (Upd.ofBelow (S := fun _ => False) hb (fun k hk hk' => by omega)) (fun _ _ h => h), fun x hx => (h.kept x hx).below hb⟩
theorem OwnSq.nil (base : Nat) (w : World) : OwnSq base w (.slice none 0 0) [] := ⟨World.ownsRow_nil w base _ 13, fun x hx => by cases hx⟩
theorem OwnSq.block {base : Nat} {w : World} {v : Value} {L : List Sq} (h : OwnSq base w v L) {k : Nat} (hk : v.ownBlock = some k) : base ≤ k ∧ k < w.heap.size := by
  obtain ⟨h1, cs, fz, h2⟩ := own_block h.row hk
  exact ⟨h1, lt_of_block h2⟩
/-- It is a list of spans. -/
theorem OwnSq.sps {base : Nat} {w : World} {v : Value} {L : List Sq} (h : OwnSq base w v L) : ∃ ad c, v = .slice ad L.length c ∧ L.length ≤ c ∧ ∀ X : List Sp, L.map (·.1) = X → SpsAt w ad L.length X (fun i => (L.map (·.2)).getD i plQ) := by
  have hat : ∀ X : List Sp, L.map (·.1) = X → ∀ i (hi : i < X.length), SpAt w X[i] ((L.map (·.2)).getD i plQ) := fun X hX i hi => by
    subst hX
    have hiL : i < L.length := by simpa using hi
    have := (h.kept L[i] (List.getElem_mem hiL)).at
    rw [List.getElem_map, List.getD_eq_getElem?_getD, List.getElem?_eq_getElem (by simpa using hiL), List.getElem_map]
    exact this
  rcases h.row.2 with ⟨rfl, h0⟩ | ⟨g, cap, cur, rfl, hb, hh, hnc, hcm, hcs, ht⟩
  · refine ⟨none, 0, by rw [h0], by omega, fun X hX => ⟨by rw [← hX]; simp, fun hp => by omega, hat X hX⟩⟩
  · refine ⟨_, cap, rfl, hnc, fun X hX => ⟨by rw [← hX]; simp, fun hp => ⟨g, 0, rfl, fun i hi j u hu => ?_⟩, hat X hX⟩⟩
    have hiL : i < L.length := by rw [← hX] at hi; simpa using hi
    have hj : j < 13 := (Array.getElem?_eq_some_iff.mp hu).1
    have e1 : (L.flatMap sqL)[i * 13 + j]? = some u := by
      rw [sqF_get L i hiL j hj]
      unfold sqL
      rw [Array.getElem?_toList]
      have e2 : X[i] = L[i].1 := by subst hX; simp
      have e3 : (L.map (·.2)).getD i plQ = L[i].2 := by rw [List.getD_eq_getElem?_getD, List.getElem?_eq_getElem (by simpa using hiL), List.getElem_map]; rfl
      rw [e2, e3] at hu
      exact hu
    have := h.row.cells (g := g) rfl (i * 13 + j) u e1
    rw [Addr.add_lit] at this
    simpa using this
theorem infoSp13 : (Tryz.prog.info? 41).map (fun i => (i.zero, i.size, i.bytes)) = some (some (.agg zSpL.toArray), 13, 168) := by kernel_rfl
/-- One more. -/
theorem wpList_appS {ops : Array Oper} {rest : List Oper} {o : Oper} {a : Act} {Q : Exit → Act → World → Prop} (w : World) (hgd : o.guard = none) (s x : Operand)
    (ho : o.op = .call { callee := .builtin .append, args := #[s, x], argTypes := #[22, 22] })
    (base : Nat) (v : Value) (L : List Sq) (y : Sq) (cs : Array Value) (hcs : cs = spC y.1 y.2) (b : Nat) (hb : b = w.heap.size) (hv : a.eval s = v) (hown : OwnSq base w v L) (hky : KeptSp w v y) (hx : a.eval x = .slice (some ⟨b, 0, none⟩) 1 1) (hlen : L.length ≤ 2147483647) (hbase : base ≤ w.heap.size)
    (h : ∀ v' w', OwnSq base w' v' (L ++ [y]) → Upd (fun k => v.ownBlock = some k) w w' → wpList Tryz.prog ops Q rest (a.put o.dst v') w') : wpList Tryz.prog ops Q (o :: rest) a (w.alloc (.cells cs 41)) := by
  subst hb
  subst hcs
  obtain ⟨i0, hi0, hz0, hz1, hz2⟩ := info_parts infoSp13
  have hbw : Below w.heap.size w (w.alloc (.cells (spC y.1 y.2) 41)) := (Below.refl _ _).alloc (Nat.le_refl _) _
  have hown' := hown.below hbw
  have hky' := hky.below hbw
  have hs : Src Tryz.prog 13 22 (.slice (some ⟨w.heap.size, 0, none⟩) 1 1) 1 (sqL y) (w.alloc (.cells (spC y.1 y.2) 41)) := by
    refine Src.ofSlice _ Tryz.underlying22 ⟨w.heap.size, 0, none⟩ 1 1 _ rfl ?_ (sqL_one y)
    intro j u hj
    rw [Addr.add_lit, Nat.zero_add]
    refine (Blk.new w (spC y.1 y.2) 41).cell j ?_
    unfold sqL at hj
    rwa [Array.getElem?_toList] at hj
  refine wpList_appW _ hgd s x 22 22 ho base 41 i0 _ 13 168 Tryz.underlying22 hi0 hz0 hz1 hz2 rfl v L.length _ hv hown'.row _ 1 _ hx hs (by unfold maxLen; omega) (by omega) (by simp; omega) ?_
  intro v1 w1 o1 g1 m1
  have e : L.flatMap sqL ++ sqL y = (L ++ [y]).flatMap sqL := by simp
  rw [e] at o1
  have hu1 : Upd (fun k => v.ownBlock = some k) (w.alloc (.cells (spC y.1 y.2) 41)) w1 := (Upd.refl _ _).grown g1 (fun k hk e => e)
  have hu : Upd (fun k => v.ownBlock = some k) w w1 := (Upd.ofBelow hbw (fun k h1 h2 => by omega)).trans hu1 (fun _ _ h => h)
  refine h v1 w1 ⟨by rw [List.length_append]; exact o1, fun z hz => ?_⟩ hu
  rcases List.mem_append.1 hz with hz | hz
  · exact (hown'.kept z hz).grown hu1 m1
  · simp at hz
    subst hz
    exact hky'.grown hu1 m1
/-- How much a list of spans may have. -/
def WeightOk (X : List Sp) : Prop := X.length ≤ 2147483647 ∧ ∀ a ∈ X, a.links.length ≤ 2147483647 ∧ a.attrs.length ≤ 2147483647 ∧ a.events.length ≤ 2147483647
end Go.Proofs.YtiflfapdffkcbaaGreatDoor
