/-
  Layer 9 (store): a store in memory.
-/
import Derived.Test.YtfhpocgiekkboaaDoorSA
import Derived.Test.YtfhpocgiekkboaaDoorZj
import Derived.Test.YtfhpocgiekkboaaDoorZr
import Derived.Test.YtfhpocgiekkboaaDoorYd
namespace Go.Proofs.YtfhpocgiekkboaaDoor
open Go.RowKit Go.Maps Go.WideMaps
set_option maxRecDepth 100000

/-- A list of spans, thirteen cells each. -/
structure SpsAt (w : World) (ad : Option Addr) (n : Nat) (X : List Sp) (P : Nat → Pl) : Prop where
  len : X.length = n
  lies : 0 < n → ∃ b off, ad = some ⟨b, off, none⟩ ∧ ∀ i (_ : i < X.length) (j : Nat) (u : Value), (spC X[i] (P i))[j]? = some u → w.cell? ⟨b, off + i * 13 + j, none⟩ = some u
  each : ∀ i (_ : i < X.length), SpAt w X[i] (P i)
theorem SpsAt.below {w w' : World} {ad : Option Addr} {n : Nat} {X : List Sp} {P : Nat → Pl} (h : SpsAt w ad n X P) (hb : Below w.heap.size w w') : SpsAt w' ad n X P := by
  refine ⟨h.len, fun hp => ?_, fun i hi => (h.each i hi).below hb⟩
  obtain ⟨b, off, ha, hc⟩ := h.lies hp
  refine ⟨b, off, ha, fun i hi j u hu => ?_⟩
  have h1 := hc i hi j u hu
  exact (hb.cell (p := ⟨b, _, none⟩) (World.block_lt_of_cell? w _ h1)).trans h1
def nmS (a : Sp) : Nm := ((a.hi, a.lo), a.id)
theorem nmS_ok {a : Sp} (h : a.Fits) : NmOk (nmS a) := ⟨⟨h.hi, h.lo⟩, h.id⟩
/-- A span in a store: where its lists lie, within which blocks. -/
structure It where
  a : Sp
  p : Pl
  lo : Nat
  hi : Nat
def findX (X : List It) (n : Nm) : Option It := X.find? (fun x => decide (nmS x.a = n))
def entE (X : List It) : List (Nm × Value) := X.map (fun x => (nmS x.a, spV x.a x.p))
theorem look_ent (n : Nm) : ∀ X : List It, lookE (entE X) n = (findX X n).map (fun x => spV x.a x.p)
  | [] => rfl
  | x :: r => by
    have ih := look_ent n r
    unfold lookE findX entE at ih ⊢
    by_cases h : nmS x.a = n
    · simp [h]
    · simp [h] at ih ⊢
      exact ih
theorem find_mem {X : List It} {n : Nm} {y : It} (h : findX X n = some y) : y ∈ X ∧ nmS y.a = n :=
  ⟨List.mem_of_find?_eq_some h, by simpa using List.find?_some h⟩
/-- The blocks that a store writes. -/
def FT (s b : Nat) (M : Tc → Nat) (T : List Tc) (k : Nat) : Prop := k = s ∨ k = b ∨ ∃ t, t ∈ T ∧ M t = k
structure ItOk (w : World) (x : It) : Prop where
  le : x.hi ≤ w.heap.size
  stays : ∀ w5 : World, (∀ k, x.lo ≤ k → k < x.hi → w5.heap[k]? = w.heap[k]?) → SpAt w5 x.a x.p
  fits : x.a.Fits
  small : x.a.Small
  chk : chkS x.a = 0
theorem ItOk.at {w : World} {x : It} (h : ItOk w x) : SpAt w x.a x.p := h.stays w (fun _ _ _ => rfl)
theorem ItOk.upd {S : Nat → Prop} {w w' : World} {x : It} (h : ItOk w x) (hu : Upd S w w') (hS : ∀ k, x.lo ≤ k → k < x.hi → ¬ S k) : ItOk w' x :=
  ⟨Nat.le_trans h.le hu.size, fun w5 h5 => h.stays w5 (fun k h1 h2 => (h5 k h1 h2).trans (hu.block k (Nat.lt_of_lt_of_le h2 h.le) (hS k h1 h2))), h.fits, h.small, h.chk⟩
/-- What a store holds. -/
structure Body (w : World) (s b : Nat) (M : Tc → Nat) (T : List Tc) (X : List It) : Prop where
  nest : Nest w b M T (entE X)
  each : ∀ x, x ∈ X → ItOk w x
  apart : ∀ x, x ∈ X → ∀ k, FT s b M T k → ¬ (x.lo ≤ k ∧ k < x.hi)
  nodup : (X.map (fun x => nmS x.a)).Nodup
  full : ∀ t, t ∈ T → ∃ x, x ∈ X ∧ (nmS x.a).1 = t
  tl : T.length ≤ X.length
/-- A store. -/
structure StoreAt (w : World) (s b : Nat) (M : Tc → Nat) (T : List Tc) (X : List It) : Prop extends Body w s b M T X where
  block : w.heap[s]? = some (.cells #[.map (some b), .int .i64 (X.length : Int)] 48 (0, 0))
theorem Body.upd {S : Nat → Prop} {w w' : World} {s b : Nat} {M : Tc → Nat} {T : List Tc} {X : List It} (h : Body w s b M T X) (hu : Upd S w w') (h1 : ∀ k, k ≠ s → FT s b M T k → ¬ S k) (h0 : ∀ t, t ∈ T → M t ≠ s) (hb : b ≠ s) (h2 : ∀ x, x ∈ X → ∀ k, x.lo ≤ k → k < x.hi → ¬ S k) : Body w' s b M T X :=
  ⟨h.nest.upd hu (h1 b hb (Or.inr (Or.inl rfl))) (fun t ht => h1 _ (h0 t ht) (Or.inr (Or.inr ⟨t, ht, rfl⟩))), fun x hx => (h.each x hx).upd hu (h2 x hx), h.apart, h.nodup, h.full, h.tl⟩
theorem StoreAt.upd {S : Nat → Prop} {w w' : World} {s b : Nat} {M : Tc → Nat} {T : List Tc} {X : List It} (h : StoreAt w s b M T X) (hu : Upd S w w') (h1 : ∀ k, FT s b M T k → ¬ S k) (h2 : ∀ x, x ∈ X → ∀ k, x.lo ≤ k → k < x.hi → ¬ S k) : StoreAt w' s b M T X :=
  ⟨⟨h.nest.upd hu (h1 b (Or.inr (Or.inl rfl))) (fun t ht => h1 _ (Or.inr (Or.inr ⟨t, ht, rfl⟩))), fun x hx => (h.each x hx).upd hu (h2 x hx), h.apart, h.nodup, h.full, h.tl⟩, (hu.block s (lt_of_block h.block) (h1 s (Or.inl rfl))).trans h.block⟩
theorem StoreAt.below {w w' : World} {s b : Nat} {M : Tc → Nat} {T : List Tc} {X : List It} (h : StoreAt w s b M T X) (hb : Below w.heap.size w w') : StoreAt w' s b M T X :=
  h.upd (S := fun _ => False) (Upd.ofBelow hb (fun k h1 h2 => by omega)) (fun _ _ h => h) (fun _ _ _ _ _ h => h)
theorem StoreAt.ft_lt {w : World} {s b : Nat} {M : Tc → Nat} {T : List Tc} {X : List It} (h : StoreAt w s b M T X) {k : Nat} (hk : FT s b M T k) : k < w.heap.size := by
  rcases hk with rfl | rfl | ⟨t, ht, rfl⟩
  · exact lt_of_block h.block
  · exact h.nest.lt.1
  · exact h.nest.lt.2 t ht
theorem zT (w : World) : (zeroValue 52).run Tryd.prog w = .ok (.map none) w := by kernel_rfl
def zC : Array Value := #[.int .u64 0, .int .u64 0, .int .u64 0, .int .u64 0, .slice none 0 0, .string ⟨#[]⟩, .string ⟨#[]⟩, .int .i64 0, .int .i64 0, .int .i64 0, .int .i64 0, .slice none 0 0, .slice none 0 0]
def zSp : Value := .agg zC
theorem zS (w : World) : (zeroValue 39).run Tryd.prog w = .ok zSp w := by kernel_rfl
theorem eqT (mb : Nat) (W : World) : (binOp BinOp.eql 52 (Value.map (some mb)) (Value.map none)).run Tryd.prog W = .ok (.bool false) W := rfl
theorem eqT0 (W : World) : (binOp BinOp.eql 52 (Value.map none) (Value.map none)).run Tryd.prog W = .ok (.bool true) W := rfl
theorem eqU (mb : Nat) (W : World) : (binOp BinOp.eql 74 (Value.map (some mb)) (Value.map none)).run Tryd.prog W = .ok (.bool false) W := rfl
theorem eqU0 (W : World) : (binOp BinOp.eql 74 (Value.map none) (Value.map none)).run Tryd.prog W = .ok (.bool true) W := rfl
theorem in_of_find {w : World} {s b : Nat} {M : Tc → Nat} {T : List Tc} {X : List It} (h : StoreAt w s b M T X) {n : Nm} {y : It} (hy : findX X n = some y) : n.1 ∈ T :=
  h.nest.sub n (spV y.a y.p) (by rw [look_ent, hy]; rfl)
/-- A boxed span, cell by cell. -/
structure Boxed (W : World) (g : Nat) (a : Sp) (p : Pl) : Prop where
  c0 : W.cell? ⟨g, 0, none⟩ = some (.int .u64 a.hi)
  c1 : W.cell? ⟨g, 1, none⟩ = some (.int .u64 a.lo)
  c2 : W.cell? ⟨g, 2, none⟩ = some (.int .u64 a.id)
  c3 : W.cell? ⟨g, 3, none⟩ = some (.int .u64 a.par)
  c4 : W.cell? ⟨g, 4, none⟩ = some (.slice p.la a.links.length p.lc)
  c5 : W.cell? ⟨g, 5, none⟩ = some (.string a.svc)
  c6 : W.cell? ⟨g, 6, none⟩ = some (.string a.op)
  c7 : W.cell? ⟨g, 7, none⟩ = some (.int .i64 a.kind)
  c8 : W.cell? ⟨g, 8, none⟩ = some (.int .i64 a.status)
  c9 : W.cell? ⟨g, 9, none⟩ = some (.int .i64 a.start)
  c10 : W.cell? ⟨g, 10, none⟩ = some (.int .i64 a.fin)
  c11 : W.cell? ⟨g, 11, none⟩ = some (.slice p.aa a.attrs.length p.ac)
  c12 : W.cell? ⟨g, 12, none⟩ = some (.slice p.ea a.events.length p.ec)
theorem boxed_of {W : World} {g : Nat} {a : Sp} {p : Pl} (h : W.heap[g]? = some (.cells (spC a p) 39 (0, 0))) : Boxed W g a p :=
  ⟨blk_cell h 0 rfl, blk_cell h 1 rfl, blk_cell h 2 rfl, blk_cell h 3 rfl, blk_cell h 4 rfl, blk_cell h 5 rfl, blk_cell h 6 rfl, blk_cell h 7 rfl, blk_cell h 8 rfl, blk_cell h 9 rfl, blk_cell h 10 rfl, blk_cell h 11 rfl, blk_cell h 12 rfl⟩
theorem belowN {B : Nat} {a b : World} (h : Below B a b) (m : Nat) : Below B a (b.drewN m) := ⟨h.os, h.tape, h.output, h.size, h.block⟩
def setX (X : List It) (z : It) : List It := if (findX X (nmS z.a)).isSome = true then X.map (fun x => if nmS x.a = nmS z.a then z else x) else X ++ [z]
theorem ent_set (X : List It) (z : It) : entE (setX X z) = setE (entE X) (nmS z.a) (spV z.a z.p) := by
  unfold setX setE
  rw [look_ent]
  cases h : findX X (nmS z.a) with
  | none => simp [entE]
  | some y =>
    simp only [Option.map, Option.isSome, if_true, entE, List.map_map]
    refine List.map_congr_left fun x _ => ?_
    by_cases hx : nmS x.a = nmS z.a <;> simp [hx]
theorem mem_set {X : List It} {z x : It} (h : x ∈ setX X z) : x = z ∨ x ∈ X := by
  unfold setX at h
  split at h
  · obtain ⟨y, hy, rfl⟩ := List.mem_map.1 h
    by_cases hx : nmS y.a = nmS z.a
    · rw [if_pos hx]; exact Or.inl rfl
    · rw [if_neg hx]; exact Or.inr hy
  · rcases List.mem_append.1 h with h | h
    · exact Or.inr h
    · exact Or.inl (by simpa using h)
theorem find_none {X : List It} {n : Nm} (h : findX X n = none) : ∀ x ∈ X, nmS x.a ≠ n := by
  intro x hx
  have := List.find?_eq_none.1 h x hx
  simpa using this
theorem names_set (X : List It) (z : It) : (setX X z).map (fun x => nmS x.a) = if (findX X (nmS z.a)).isSome = true then X.map (fun x => nmS x.a) else X.map (fun x => nmS x.a) ++ [nmS z.a] := by
  unfold setX
  split
  · rw [List.map_map]
    refine List.map_congr_left fun x _ => ?_
    by_cases hx : nmS x.a = nmS z.a <;> simp [hx]
  · simp
theorem set_kept {X : List It} {z x : It} (h : x ∈ X) : ∃ y, y ∈ setX X z ∧ nmS y.a = nmS x.a := by
  have : nmS x.a ∈ (setX X z).map (fun x => nmS x.a) := by
    rw [names_set]
    have hx : nmS x.a ∈ X.map (fun x => nmS x.a) := List.mem_map.2 ⟨x, h, rfl⟩
    split
    · exact hx
    · exact List.mem_append_left _ hx
  obtain ⟨y, hy, e⟩ := List.mem_map.1 this
  exact ⟨y, hy, e⟩
theorem set_has (X : List It) (z : It) : ∃ y, y ∈ setX X z ∧ nmS y.a = nmS z.a := by
  have : nmS z.a ∈ (setX X z).map (fun x => nmS x.a) := by
    rw [names_set]
    split
    · rename_i h
      obtain ⟨y, hy⟩ := Option.isSome_iff_exists.1 h
      exact List.mem_map.2 ⟨y, (find_mem hy).1, (find_mem hy).2⟩
    · simp
  obtain ⟨y, hy, e⟩ := List.mem_map.1 this
  exact ⟨y, hy, e⟩
theorem set_nodup {X : List It} (z : It) (h : (X.map (fun x => nmS x.a)).Nodup) : ((setX X z).map (fun x => nmS x.a)).Nodup := by
  rw [names_set]
  split
  · exact h
  · rename_i hn
    have hn' : findX X (nmS z.a) = none := by simpa using hn
    rw [List.nodup_append]
    refine ⟨h, by simp, fun a ha b hb => ?_⟩
    obtain ⟨x, hx, rfl⟩ := List.mem_map.1 ha
    simp at hb
    subst hb
    exact find_none hn' x hx
theorem set_len (X : List It) (z : It) : (setX X z).length = if (findX X (nmS z.a)).isSome = true then X.length else X.length + 1 := by
  unfold setX
  split <;> simp
/-- A span put in, at a trace that is there. -/
theorem body_set {w : World} {s b : Nat} {M : Tc → Nat} {T : List Tc} {X : List It} (hN : Nest w b M T (entE X)) (each : ∀ x, x ∈ X → ItOk w x) (apart : ∀ x, x ∈ X → ∀ k, FT s b M T k → ¬ (x.lo ≤ k ∧ k < x.hi)) (nodup : (X.map (fun x => nmS x.a)).Nodup)
    (z : It) (full : ∀ t, t ∈ T → t = (nmS z.a).1 ∨ ∃ x, x ∈ X ∧ (nmS x.a).1 = t) (hz : ItOk w z) (hzap : ∀ k, FT s b M T k → ¬ (z.lo ≤ k ∧ k < z.hi)) (hin : (nmS z.a).1 ∈ T) (hl : X.length < maxLen) (hTl : T.length ≤ (setX X z).length) :
    ∃ w', (Instr.mapUpdate 52 (.map (some (M (nmS z.a).1))) (.int .u64 (nmS z.a).2) (spV z.a z.p)).run Tryd.prog w = .ok () w' ∧ Body w' s b M T (setX X z) ∧ Upd (fun k => k = M (nmS z.a).1) w w' ∧ w'.heap.size = w.heap.size := by
  obtain ⟨w', hr, n', u, hs⟩ := hN.set Tryd.underlying52 (nmS z.a).1 (nmS z.a).2 (nmS_ok hz.fits).2 hin (spV z.a z.p) (by simpa [entE] using hl)
  refine ⟨w', hr, ⟨?_, fun x hx => ?_, fun x hx => ?_, set_nodup z nodup, fun t ht => ?_, hTl⟩, u, hs⟩
  · rw [ent_set]; exact n'
  · rcases mem_set hx with rfl | hx
    · exact hz.upd u (fun k h1 h2 e => hzap k (Or.inr (Or.inr ⟨_, hin, e.symm⟩)) ⟨h1, h2⟩)
    · exact (each x hx).upd u (fun k h1 h2 e => apart x hx k (Or.inr (Or.inr ⟨_, hin, e.symm⟩)) ⟨h1, h2⟩)
  · rcases mem_set hx with rfl | hx
    · exact hzap
    · exact apart x hx
  · rcases full t ht with rfl | ⟨x, hx, rfl⟩
    · obtain ⟨y, hy, e⟩ := set_has X z
      exact ⟨y, hy, by rw [e]⟩
    · obtain ⟨y, hy, e⟩ := set_kept (z := z) hx
      exact ⟨y, hy, by rw [e]⟩
end Go.Proofs.YtfhpocgiekkboaaDoor
