/-
  Layer 7 (disk): copyStep, file.copy.
-/
import Derived.Test.YtgoafinbaiepmaaGreatDoorDd
import Derived.Deep.AppendLies
import Derived.Deep.RegionLaw
namespace Go.Proofs.YtgoafinbaiepmaaGreatDoor
open Go.RowKit Go.Shelf
set_option maxRecDepth 100000

/-- What a step does, wherever its bytes lie. -/
def St.abs (s : St) : Bool × Nat × List Int := (s.cut, s.n, s.K)
theorem St.v_iface (s : St) : ∃ g x, s.v = .iface g x := by
  unfold St.v
  split
  · exact ⟨_, _, rfl⟩
  · exact ⟨_, _, rfl⟩
theorem abs_on {s t : St} (h : s.abs = t.abs) (L : List Int) (u : Nat) : s.on L u = t.on L u ∧ s.units = t.units := by
  simp [St.abs] at h
  obtain ⟨h1, h2, h3⟩ := h
  simp [St.on, St.units, h1, h2, h3]
theorem abs_all : ∀ (S T : List St) (L : List Int), S.map St.abs = T.map St.abs → allOn L S = allOn L T ∧ unitsL S = unitsL T ∧ (Legal L S → Legal L T)
  | [], [], L, _ => ⟨rfl, rfl, fun h => h⟩
  | [], t :: T, L, h => by simp at h
  | s :: S, [], L, h => by simp at h
  | s :: S, t :: T, L, h => by
    simp only [List.map_cons, List.cons.injEq] at h
    obtain ⟨h1, h2⟩ := h
    have eu := (abs_on h1 L 0).2
    have eo := (abs_on h1 L t.units).1
    obtain ⟨r1, r2, r3⟩ := abs_all S T (t.on L t.units) h2
    refine ⟨?_, ?_, fun hl => ?_⟩
    · show allOn (s.on L s.units) S = allOn (t.on L t.units) T
      rw [eu, eo, r1]
    · have a : unitsL (s :: S) = s.units + unitsL S := by simp [unitsL]
      have b : unitsL (t :: T) = t.units + unitsL T := by simp [unitsL]
      rw [a, b, eu, r2]
    · simp [St.abs] at h1
      obtain ⟨k1, k2, k3⟩ := h1
      refine ⟨by rw [← k1, ← k2]; exact hl.1, by rw [← k1, ← k2, ← k3]; exact hl.2.1, r3 ?_⟩
      have h3 := hl.2.2
      rw [eu, eo] at h3
      exact h3
theorem abs_first : ∀ (S T : List St) (L : List Int) (u : Nat), S.map St.abs = T.map St.abs → firstOn L S u = firstOn L T u
  | [], [], _, _, _ => rfl
  | [], t :: T, _, _, h => by simp at h
  | s :: S, [], _, _, h => by simp at h
  | s :: S, t :: T, L, u, h => by
    simp only [List.map_cons, List.cons.injEq] at h
    have e := abs_on h.1 L u
    show firstOn (s.on L u) S (u - min u s.units) = firstOn (t.on L u) T (u - min u t.units)
    rw [e.1, e.2]
    exact abs_first S T _ _ h.2

/-- Midway in copy. -/
structure Cpy (base : Nat) (w0 : World) (F : Fl) (c : Nat) (wr : World) (k : Nat) (v1 v2 sv : Value) (T : List St) : Prop where
  blk : wr.heap[c]? = some (.cells #[v1, v2, sv] 174 (0, 0))
  low : base ≤ c
  o1 : OwnB base wr v1 F.B
  o2 : OwnB base wr v2 F.L
  os : wr.ownsRow base 254 1 sv T.length (T.map St.v)
  st : ∀ t ∈ T, StAt base wr t
  apart : ∀ k, v1.ownBlock = some k → v2.ownBlock ≠ some k
  sep : ∀ t ∈ T, ∀ k, t.bl = some k → v1.ownBlock ≠ some k ∧ v2.ownBlock ≠ some k
  abs : T.map St.abs = (F.S.take k).map St.abs
  below : Below base w0 wr
theorem Cpy.last {base : Nat} {w0 : World} {F : Fl} {c : Nat} {wr : World} {k : Nat} {v1 v2 sv : Value} {T : List St} (h : Cpy base w0 F c wr k v1 v2 sv T) (hk : F.S.length ≤ k) (hl : Legal F.L F.S) (hs : F.B = allOn F.L F.S) : FileAt base wr c ⟨v1, v2, sv, F.B, F.L, T⟩ ∧ T.map St.abs = F.S.map St.abs := by
  have e := h.abs
  rw [List.take_of_length_le hk] at e
  obtain ⟨e1, e2, e3⟩ := abs_all F.S T F.L e.symm
  exact ⟨⟨h.blk, h.low, h.o1, h.o2, h.os, h.st, h.apart, h.sep, e3 hl, by show F.B = allOn F.L T; rw [hs, e1]⟩, e⟩
theorem Cpy.len {base : Nat} {w0 : World} {F : Fl} {c : Nat} {wr : World} {k : Nat} {v1 v2 sv : Value} {T : List St} (h : Cpy base w0 F c wr k v1 v2 sv T) (hk : k ≤ F.S.length) : T.length = k := by
  have := congrArg List.length h.abs
  simp at this
  omega
theorem Cpy.next {base : Nat} {w0 : World} {F : Fl} {c : Nat} {wr w1 w2 : World} {k : Nat} {v1 v2 sv sv' : Value} {T : List St} {t : St} (x : Obj) (h : Cpy base w0 F c wr k v1 v2 sv T) (hb : base ≤ w0.heap.size) (hk : k < F.S.length)
    (ht : t.abs = F.S[k].abs) (h1 : StAt wr.heap.size w1 t) (b1 : Below wr.heap.size wr w1) (o2 : w2.ownsRow base 254 1 sv' (T.length + 1) (T.map St.v ++ [t.v])) (g2 : (w1.alloc x).grownBy w2 sv.ownBlock) (m2 : Moved (w1.alloc x) sv sv') :
    Cpy base w0 F c (w2.setCell ⟨c, 2, none⟩ sv') (k + 1) v1 v2 sv' (T ++ [t]) ∧ w2.heap[c]? = some (.cells #[v1, v2, sv] 174 (0, 0)) := by
  have hs := h.below.size
  have hlt := lt_of_block h.blk
  have nc : sv.ownBlock ≠ some c := own_not h.os h.blk (fun cs h => by simp at h)
  have n1 : v1.ownBlock ≠ some c := own_not h.o1 h.blk (fun cs h => by simp at h)
  have n2 : v2.ownBlock ≠ some c := own_not h.o2 h.blk (fun cs h => by simp at h)
  have hs1 := b1.size
  have hblk : w2.heap[c]? = some (.cells #[v1, v2, sv] 174 (0, 0)) := by
    refine (g2.block c (by rw [World.size_alloc]; omega) (fun e => nc e.symm)).trans ?_
    exact (Below.heap_alloc _ _ _ (by omega)).trans ((b1.block c hlt).trans h.blk)
  have U : Upd (fun k => k = c ∨ sv.ownBlock = some k) wr (w2.setCell ⟨c, 2, none⟩ sv') := (((Upd.ofBelow (S := fun k => k = c ∨ sv.ownBlock = some k) b1 (fun k h1 h2 => by omega)).alloc x).grown g2 (fun k _ e => Or.inr e)).setCell (p := ⟨c, 2, none⟩) (fun _ => Or.inl rfl) sv'
  have U1 : Upd (fun k => k = c ∨ sv.ownBlock = some k) w1 (w2.setCell ⟨c, 2, none⟩ sv') := (((Upd.refl (fun k => k = c ∨ sv.ownBlock = some k) w1).alloc x).grown g2 (fun k _ e => Or.inr e)).setCell (p := ⟨c, 2, none⟩) (fun _ => Or.inl rfl) sv'
  have m3 : Moved wr sv sv' := (Moved.refl wr sv).trans (by rw [World.size_alloc]; omega) m2
  have nc' : sv'.ownBlock ≠ some c := fun e => (m3.old e).elim nc (fun h => by omega)
  have tlt : ∀ k, t.bl = some k → wr.heap.size ≤ k := fun k e => (h1.lt e).1
  have t1 : StAt base w1 t := ⟨fun hc => (h1.own hc).base (by omega), h1.big⟩
  refine ⟨⟨set3_2 sv' hblk, h.low, h.o1.upd U (fun k e hh => ?_), h.o2.upd U (fun k e hh => ?_), ?_, ?_, h.apart, ?_, ?_, ?_⟩, hblk⟩
  · rcases hh with rfl | hh
    · exact n1 e
    · obtain ⟨cs, hcs⟩ := own_type h.os hh
      exact own_not h.o1 hcs (fun cs h => by simp at h) e
  · rcases hh with rfl | hh
    · exact n2 e
    · obtain ⟨cs, hcs⟩ := own_type h.os hh
      exact own_not h.o2 hcs (fun cs h => by simp at h) e
  · have := ownsRow_upd o2 ((Upd.refl (fun k => k = c) w2).setCell (p := ⟨c, 2, none⟩) (fun _ => rfl) sv') (fun k e hh => by subst hh; exact nc' e)
    simpa using this
  · intro y hy
    rcases List.mem_append.1 hy with hy | hy
    · refine (h.st y hy).upd U (fun k e hh => ?_)
      obtain ⟨cs, hcs⟩ := (h.st y hy).type e
      rcases hh with rfl | hh
      · rw [h.blk] at hcs; simp at hcs
      · exact own_not h.os hcs (fun cs h => by simp at h) hh
    · rw [List.mem_singleton.1 hy]
      refine t1.upd U1 (fun k e hh => ?_)
      have := tlt k e
      rcases hh with rfl | hh
      · omega
      · have := (own_lt h.os hh).1; omega
  · intro y hy k e
    rcases List.mem_append.1 hy with hy | hy
    · exact h.sep y hy k e
    · rw [List.mem_singleton.1 hy] at e
      have := tlt k e
      exact ⟨fun e2 => by have := (h.o1.lt e2).1; omega, fun e2 => by have := (h.o2.lt e2).1; omega⟩
  · rw [List.map_append, h.abs, List.take_succ_eq_append_getElem hk, List.map_append, List.map_cons, List.map_nil, List.map_cons, List.map_nil, ht]
  · refine h.below.trans (U.below (by omega) (fun k hk hh => ?_))
    rcases hh with rfl | hh
    · have := h.low; omega
    · have := (own_lt h.os hh).2; omega

/-- A file that is as another one is, in memory of its own. -/
def Copied (base : Nat) (F : Fl) (w w' : World) (c : Nat) : Prop := ∃ G, FileAt base w' c G ∧ G.B = F.B ∧ G.L = F.L ∧ G.S.map St.abs = F.S.map St.abs ∧ Below base w w'
end Go.Proofs.YtgoafinbaiepmaaGreatDoor
