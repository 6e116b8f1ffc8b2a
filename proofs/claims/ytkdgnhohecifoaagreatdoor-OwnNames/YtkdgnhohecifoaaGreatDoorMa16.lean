/-
  Merged by merge.py: Zo, Zx, Wy, Zy, Yc, Yd.
-/
import Derived.Test.YtkdgnhohecifoaaGreatDoorMa14
import Derived.Test.YtkdgnhohecifoaaGreatDoorMa04
import Derived.Test.YtkdgnhohecifoaaGreatDoorMw
import Derived.Deep.MidRow
import Derived.Laws.ResultCell
import Derived.Lib.SliceRun
namespace Go.Proofs.YtkdgnhohecifoaaGreatDoor
open Go.Shelf Go.RowKit
set_option maxRecDepth 100000

/-- A block of another kind than a taker's. -/
structure Far (w : World) (T R g E : Nat) : Prop where
  t : T ≠ E
  r : R ≠ E
  g : g ≠ E
  f : E ≠ 0
  a : E ≠ 1
theorem own_neW {base : Nat} {w : World} {e : TypeId} {size : Nat} {v : Value} {n : Nat} {xs : List Value} (h : w.ownsRow base e size v n xs) {R : Nat} {cs : Array Value} {t : TypeId} {fz : Nat × Nat} (hR : w.heap[R]? = some (.cells cs t fz)) (hne : e ≠ t) : v.ownBlock ≠ some R := by
  intro hk
  rcases h.2 with ⟨rfl, _⟩ | ⟨g, cap, cur, rfl, _, hg, _⟩
  · simp [Value.ownBlock] at hk
  · simp [Value.ownBlock] at hk
    subst hk
    rw [hR] at hg
    simp at hg
    exact hne hg.2.1.symm
/-- So many takings, one behind the other. -/
def iterS {α : Type} (f : Option Nat → α × Option Nat) : Nat → Option Nat → List α × Option Nat
  | 0, s => ([], s)
  | k + 1, s => ((iterS f k s).1 ++ [(f (iterS f k s).2).1], (f (iterS f k s).2).2)
theorem iterS_len {α : Type} (f : Option Nat → α × Option Nat) (k : Nat) (s : Option Nat) : (iterS f k s).1.length = k := by
  induction k with
  | zero => rfl
  | succ k ih => simp [iterS, ih]
theorem countP_le (K : List Int) (most : Nat) (s : Option Nat) : (countP K most s).1 ≤ most := by
  unfold countP; split <;> simp <;> omega
def linksP (K : List Int) (s : Option Nat) : List Int × Option Nat := iterS (rawP K) (countP K 16 s).1 (countP K 16 s).2
theorem rawP_rng (K : List Int) (s : Option Nat) (hK : ∀ x ∈ K, 0 ≤ x ∧ x < 256) : 0 ≤ (rawP K s).1 ∧ (rawP K s).1 < 18446744073709551616 := by
  cases s with
  | none => simp [rawP]
  | some t =>
    unfold rawP
    simp only
    split
    · have := unraw_bound 8 ((K.drop t).take 8) (by simp; omega) (fun x hx => hK x (List.mem_of_mem_drop (List.mem_of_mem_take hx)))
      simpa using this
    · simp
theorem Tryz.info26 : (Tryz.prog.info? 26).map (fun i => (i.zero, i.size, i.bytes)) = some (some (.int .u64 0), 1, 8) := by kernel_rfl
theorem upd_new {S : Nat → Prop} {a b c : World} {v : Value} {base e size n : Nat} {xs : List Value} (hu : Upd S a b) (ho : b.ownsRow base e size v n xs) (hb : a.heap.size ≤ base) (hg : b.grownBy c v.ownBlock) : Upd S a c :=
  hu.grown hg (fun k hk e => by
    rcases ho.2 with ⟨rfl, _⟩ | ⟨g, cap, cur, rfl, hbg, _⟩
    · simp [Value.ownBlock] at e
    · simp [Value.ownBlock] at e; omega)

end Go.Proofs.YtkdgnhohecifoaaGreatDoor

namespace Go.Proofs.YtkdgnhohecifoaaGreatDoor
open Go.Shelf Go.RowKit
set_option maxRecDepth 100000

theorem a4_0 (a b c d v : Value) : (#[a, b, c, d] : Array Value).setIfInBounds 0 v = #[v, b, c, d] := rfl
theorem a4_1 (a b c d v : Value) : (#[a, b, c, d] : Array Value).setIfInBounds 1 v = #[a, v, c, d] := rfl
theorem a4_2 (a b c d v : Value) : (#[a, b, c, d] : Array Value).setIfInBounds 2 v = #[a, b, v, d] := rfl
theorem a4_3 (a b c d v : Value) : (#[a, b, c, d] : Array Value).setIfInBounds 3 v = #[a, b, c, v] := rfl
theorem a2_0 (a b v : Value) : (#[a, b] : Array Value).setIfInBounds 0 v = #[v, b] := rfl
theorem a2_1 (a b v : Value) : (#[a, b] : Array Value).setIfInBounds 1 v = #[a, v] := rfl

def attrP (K : List Int) (s : Option Nat) : AttrD × Option Nat :=
  (⟨(textP K 40 s).1, (smallP K (textP K 40 s).2).1, (textP K 200 (smallP K (textP K 40 s).2).2).1, (intP K (textP K 200 (smallP K (textP K 40 s).2).2).2).1⟩, (intP K (textP K 200 (smallP K (textP K 40 s).2).2).2).2)
def eventP (K : List Int) (s : Option Nat) : EventD × Option Nat := (⟨(momP K s).1, (textP K 100 (momP K s).2).1⟩, (textP K 100 (momP K s).2).2)
def attrC (a : AttrD) : List Value := [.string a.key, .int .i64 a.kind, .string a.text, .int .i64 a.num]
def eventC (a : EventD) : List Value := [.int .i64 a.moment, .string a.name]
def attrsP (K : List Int) (s : Option Nat) : List AttrD × Option Nat := iterS (attrP K) (countP K 32 s).1 (countP K 32 s).2
def eventsP (K : List Int) (s : Option Nat) : List EventD × Option Nat := iterS (eventP K) (countP K 32 s).1 (countP K 32 s).2
theorem Tryz.info128 : (Tryz.prog.info? 128).map (fun i => (i.zero, i.size, i.bytes)) = some (some (.agg #[.string ⟨#[]⟩, .int .i64 0, .string ⟨#[]⟩, .int .i64 0]), 4, 48) := by kernel_rfl
theorem Tryz.info131 : (Tryz.prog.info? 131).map (fun i => (i.zero, i.size, i.bytes)) = some (some (.agg #[.int .i64 0, .string ⟨#[]⟩]), 2, 24) := by kernel_rfl
theorem upd_far {S : Nat → Prop} {w0 w : World} {E i : Nat} {v : Value} (hu : Upd S w0 w) (hE : w0.heap.size ≤ E) : Upd S w0 (w.setCell ⟨E, i, none⟩ v) :=
  Upd.setCell (p := ⟨E, i, none⟩) hu (fun h => by simp at h; omega) v

theorem own_fresh {base : Nat} {w : World} {e : TypeId} {size : Nat} {v : Value} {n : Nat} {xs : List Value} (h : w.ownsRow base e size v n xs) : v.ownBlock ≠ some w.heap.size := by
  intro hk
  rcases h.2 with ⟨rfl, _⟩ | ⟨g, cap, cur, rfl, _, hg, _⟩
  · simp [Value.ownBlock] at hk
  · simp [Value.ownBlock] at hk
    have := lt_of_block hg
    omega
theorem eventP_eq (K : List Int) (s : Option Nat) : eventP K s = (⟨(momP K s).1, (textP K 100 (momP K s).2).1⟩, (textP K 100 (momP K s).2).2) := rfl
theorem attrP_eq (K : List Int) (s : Option Nat) : attrP K s = (⟨(textP K 40 s).1, (smallP K (textP K 40 s).2).1, (textP K 200 (smallP K (textP K 40 s).2).2).1, (intP K (textP K 200 (smallP K (textP K 40 s).2).2).2).1⟩, (intP K (textP K 200 (smallP K (textP K 40 s).2).2).2).2) := rfl

end Go.Proofs.YtkdgnhohecifoaaGreatDoor

namespace Go.Proofs.YtkdgnhohecifoaaGreatDoor
open Go.RowKit
set_option maxRecDepth 100000

/-- A whole array into a block. -/
theorem wpList_store_row {P : Program} {ops : Array Oper} {rest : List Oper} {op : Oper} {a : Act} {w : World} {Q : Exit → Act → World → Prop} (hgd : op.guard = none) (ty : TypeId) (x y : Operand) (ho : op.op = .store ty x y)
    (g : Nat) (t : TypeId) (old cells : Array Value) (hx : a.eval x = .pointer (some ⟨g, 0, none⟩)) (hy : a.eval y = .agg cells)
    (hg : w.heap[g]? = some (.cells old t (0, 0))) (hi : (P.info? ty).map (·.size) = some cells.size) (hs : old.size = cells.size) (h1 : cells.all (·.oneCell') = true)
    (h : wpList P ops Q rest (a.put op.dst undef) (w.setRow g cells)) : wpList P ops Q (op :: rest) a w := by
  refine wpList_plain hgd fun _ hK => ?_
  unfold Oper.wp execOp
  simp only [ho, hx, hy, Instr.storeAt, Instr.sureAddr, Sem.run_bind, Sem.run_pure, Result.andThen_ok, run_storeVar_row w g t ty old cells hg hi hs h1]
  exact hK _ _ h
/-- A whole array out of a block. -/
theorem wpList_load_row {P : Program} {ops : Array Oper} {rest : List Oper} {op : Oper} {a : Act} {w : World} {Q : Exit → Act → World → Prop} (hgd : op.guard = none) (ty : TypeId) (x : Operand) (ho : op.op = .load ty x)
    (g : Nat) (t : TypeId) (cells : Array Value) (hx : a.eval x = .pointer (some ⟨g, 0, none⟩)) (d : TypeDesc)
    (hg : w.heap[g]? = some (.cells cells t (0, 0))) (hu : P.underlying ty = some d) (hd : (match d with | .struct _ | .array _ _ => true | _ => false) = true) (hi : (P.info? ty).map (·.size) = some cells.size)
    (h : wpList P ops Q rest (a.put op.dst (.agg cells)) w) : wpList P ops Q (op :: rest) a w := by
  refine wpList_plain hgd fun _ hK => ?_
  unfold Oper.wp execOp
  simp only [ho, hx, Instr.loadAt, Instr.sureAddr, Sem.run_bind, Sem.run_pure, Result.andThen_ok, run_loadVar_row w g t ty cells (0, 0) d hg hu hd hi]
  exact hK _ _ h
theorem results_cell1 {fn : Func} {p : Tmp} {ty : TypeId} (h : fn.results = #[.cell p ty]) (tmps : Array Value) (P : Program) (w : World) :
    (results fn tmps).run P w = ((asAddr (tmps.getD p undef)).run P w).andThen fun a w₁ => (loadVar ty a).run P w₁ := by
  simp only [results, h]
  simp [Sem.run_bind, Result.andThen]
end Go.Proofs.YtkdgnhohecifoaaGreatDoor

namespace Go.Proofs.YtkdgnhohecifoaaGreatDoor
open Go.Shelf Go.RowKit
set_option maxRecDepth 100000

theorem a13_0 (a0 a1 a2 a3 a4 a5 a6 a7 a8 a9 a10 a11 a12 v : Value) : (#[a0, a1, a2, a3, a4, a5, a6, a7, a8, a9, a10, a11, a12] : Array Value).setIfInBounds 0 v = #[v, a1, a2, a3, a4, a5, a6, a7, a8, a9, a10, a11, a12] := by simp
theorem a13_1 (a0 a1 a2 a3 a4 a5 a6 a7 a8 a9 a10 a11 a12 v : Value) : (#[a0, a1, a2, a3, a4, a5, a6, a7, a8, a9, a10, a11, a12] : Array Value).setIfInBounds 1 v = #[a0, v, a2, a3, a4, a5, a6, a7, a8, a9, a10, a11, a12] := by simp
theorem a13_2 (a0 a1 a2 a3 a4 a5 a6 a7 a8 a9 a10 a11 a12 v : Value) : (#[a0, a1, a2, a3, a4, a5, a6, a7, a8, a9, a10, a11, a12] : Array Value).setIfInBounds 2 v = #[a0, a1, v, a3, a4, a5, a6, a7, a8, a9, a10, a11, a12] := by simp
theorem a13_3 (a0 a1 a2 a3 a4 a5 a6 a7 a8 a9 a10 a11 a12 v : Value) : (#[a0, a1, a2, a3, a4, a5, a6, a7, a8, a9, a10, a11, a12] : Array Value).setIfInBounds 3 v = #[a0, a1, a2, v, a4, a5, a6, a7, a8, a9, a10, a11, a12] := by simp
theorem a13_4 (a0 a1 a2 a3 a4 a5 a6 a7 a8 a9 a10 a11 a12 v : Value) : (#[a0, a1, a2, a3, a4, a5, a6, a7, a8, a9, a10, a11, a12] : Array Value).setIfInBounds 4 v = #[a0, a1, a2, a3, v, a5, a6, a7, a8, a9, a10, a11, a12] := by simp
theorem a13_5 (a0 a1 a2 a3 a4 a5 a6 a7 a8 a9 a10 a11 a12 v : Value) : (#[a0, a1, a2, a3, a4, a5, a6, a7, a8, a9, a10, a11, a12] : Array Value).setIfInBounds 5 v = #[a0, a1, a2, a3, a4, v, a6, a7, a8, a9, a10, a11, a12] := by simp
theorem a13_6 (a0 a1 a2 a3 a4 a5 a6 a7 a8 a9 a10 a11 a12 v : Value) : (#[a0, a1, a2, a3, a4, a5, a6, a7, a8, a9, a10, a11, a12] : Array Value).setIfInBounds 6 v = #[a0, a1, a2, a3, a4, a5, v, a7, a8, a9, a10, a11, a12] := by simp
theorem a13_7 (a0 a1 a2 a3 a4 a5 a6 a7 a8 a9 a10 a11 a12 v : Value) : (#[a0, a1, a2, a3, a4, a5, a6, a7, a8, a9, a10, a11, a12] : Array Value).setIfInBounds 7 v = #[a0, a1, a2, a3, a4, a5, a6, v, a8, a9, a10, a11, a12] := by simp
theorem a13_8 (a0 a1 a2 a3 a4 a5 a6 a7 a8 a9 a10 a11 a12 v : Value) : (#[a0, a1, a2, a3, a4, a5, a6, a7, a8, a9, a10, a11, a12] : Array Value).setIfInBounds 8 v = #[a0, a1, a2, a3, a4, a5, a6, a7, v, a9, a10, a11, a12] := by simp
theorem a13_9 (a0 a1 a2 a3 a4 a5 a6 a7 a8 a9 a10 a11 a12 v : Value) : (#[a0, a1, a2, a3, a4, a5, a6, a7, a8, a9, a10, a11, a12] : Array Value).setIfInBounds 9 v = #[a0, a1, a2, a3, a4, a5, a6, a7, a8, v, a10, a11, a12] := by simp
theorem a13_10 (a0 a1 a2 a3 a4 a5 a6 a7 a8 a9 a10 a11 a12 v : Value) : (#[a0, a1, a2, a3, a4, a5, a6, a7, a8, a9, a10, a11, a12] : Array Value).setIfInBounds 10 v = #[a0, a1, a2, a3, a4, a5, a6, a7, a8, a9, v, a11, a12] := by simp
theorem a13_11 (a0 a1 a2 a3 a4 a5 a6 a7 a8 a9 a10 a11 a12 v : Value) : (#[a0, a1, a2, a3, a4, a5, a6, a7, a8, a9, a10, a11, a12] : Array Value).setIfInBounds 11 v = #[a0, a1, a2, a3, a4, a5, a6, a7, a8, a9, a10, v, a12] := by simp
theorem a13_12 (a0 a1 a2 a3 a4 a5 a6 a7 a8 a9 a10 a11 a12 v : Value) : (#[a0, a1, a2, a3, a4, a5, a6, a7, a8, a9, a10, a11, a12] : Array Value).setIfInBounds 12 v = #[a0, a1, a2, a3, a4, a5, a6, a7, a8, a9, a10, a11, v] := by simp
theorem set13_eq (w : World) (g : Nat) (t : TypeId) (z0 z1 z2 z3 z4 z5 z6 z7 z8 z9 z10 z11 z12 v0 v1 v2 v3 v4 v5 v6 v7 v8 v9 v10 v11 v12 : Value) (hg : w.heap[g]? = some (.cells #[z0, z1, z2, z3, z4, z5, z6, z7, z8, z9, z10, z11, z12] t (0, 0))) :
    (((((((((((((w.setCell ⟨g, 0, none⟩ v0).setCell ⟨g, 1, none⟩ v1).setCell ⟨g, 2, none⟩ v2).setCell ⟨g, 3, none⟩ v3).setCell ⟨g, 4, none⟩ v4).setCell ⟨g, 5, none⟩ v5).setCell ⟨g, 6, none⟩ v6).setCell ⟨g, 7, none⟩ v7).setCell ⟨g, 8, none⟩ v8).setCell ⟨g, 9, none⟩ v9).setCell ⟨g, 10, none⟩ v10).setCell ⟨g, 11, none⟩ v11).setCell ⟨g, 12, none⟩ v12) = w.setRow g #[v0, v1, v2, v3, v4, v5, v6, v7, v8, v9, v10, v11, v12] := by
  rw [setCell_eq_setRow w g 0 _ t (0, 0) v0 hg, a13_0,
    setCell_eq_setRow _ g 1 _ t (0, 0) v1 (setRow_heap w g _ _ t _ hg), setRow_setRow, a13_1,
    setCell_eq_setRow _ g 2 _ t (0, 0) v2 (setRow_heap w g _ _ t _ hg), setRow_setRow, a13_2,
    setCell_eq_setRow _ g 3 _ t (0, 0) v3 (setRow_heap w g _ _ t _ hg), setRow_setRow, a13_3,
    setCell_eq_setRow _ g 4 _ t (0, 0) v4 (setRow_heap w g _ _ t _ hg), setRow_setRow, a13_4,
    setCell_eq_setRow _ g 5 _ t (0, 0) v5 (setRow_heap w g _ _ t _ hg), setRow_setRow, a13_5,
    setCell_eq_setRow _ g 6 _ t (0, 0) v6 (setRow_heap w g _ _ t _ hg), setRow_setRow, a13_6,
    setCell_eq_setRow _ g 7 _ t (0, 0) v7 (setRow_heap w g _ _ t _ hg), setRow_setRow, a13_7,
    setCell_eq_setRow _ g 8 _ t (0, 0) v8 (setRow_heap w g _ _ t _ hg), setRow_setRow, a13_8,
    setCell_eq_setRow _ g 9 _ t (0, 0) v9 (setRow_heap w g _ _ t _ hg), setRow_setRow, a13_9,
    setCell_eq_setRow _ g 10 _ t (0, 0) v10 (setRow_heap w g _ _ t _ hg), setRow_setRow, a13_10,
    setCell_eq_setRow _ g 11 _ t (0, 0) v11 (setRow_heap w g _ _ t _ hg), setRow_setRow, a13_11,
    setCell_eq_setRow _ g 12 _ t (0, 0) v12 (setRow_heap w g _ _ t _ hg), setRow_setRow, a13_12]
/-- What is read. -/
def spanP (K : List Int) (s : Option Nat) : Sp × Option Nat :=
  let r0 := rawP K s
  let r1 := rawP K r0.2
  let r2 := rawP K r1.2
  let r3 := rawP K r2.2
  let r4 := linksP K r3.2
  let r5 := textP K 60 r4.2
  let r6 := textP K 100 r5.2
  let r7 := smallP K r6.2
  let r8 := smallP K r7.2
  let r9 := momP K r8.2
  let r10 := momP K r9.2
  let r11 := attrsP K r10.2
  let r12 := eventsP K r11.2
  (⟨r0.1, r1.1, r2.1, r3.1, r4.1, r5.1, r6.1, r7.1, r8.1, r9.1, r10.1, r11.1, r12.1⟩, r12.2)

theorem holdsV_own {w : World} {base e : Nat} {ad : Option Addr} {n cap : Nat} {xs : List Value} (h : w.ownsRow base e 1 (.slice ad n cap) n xs) : HoldsV w ad n xs := by
  have h1 := h.1
  refine ⟨by omega, fun j u hj => ?_⟩
  rcases h.2 with ⟨e, hn⟩ | ⟨g, cap', cur, e, _⟩
  · have : xs = [] := List.eq_nil_of_length_eq_zero (by omega)
    subst this; simp at hj
  · simp at e
    obtain ⟨rfl, rfl⟩ := e
    exact ⟨_, rfl, h.cells (g := g) rfl j u hj⟩
theorem flat_get {α : Type} (f : α → List Value) (m : Nat) (hf : ∀ a, (f a).length = m) : ∀ (X : List α) (i j : Nat) (hi : i < X.length), j < m → (X.flatMap f)[i * m + j]? = (f X[i])[j]? := by
  intro X
  induction X with
  | nil => intro i j hi; simp at hi
  | cons a r ih =>
    intro i j hi hj
    cases i with
    | zero => simp only [List.flatMap_cons, Nat.zero_mul, Nat.zero_add, List.getElem_cons_zero]; rw [List.getElem?_append_left (by rw [hf]; exact hj)]
    | succ i =>
      simp only [List.flatMap_cons, List.getElem_cons_succ]
      rw [List.getElem?_append_right (by rw [hf, Nat.succ_mul]; omega), hf, show (i + 1) * m + j - m = i * m + j by rw [Nat.succ_mul]; omega]
      exact ih i j (by simpa using hi) hj
theorem attrsAt_own {w : World} {base : Nat} {ad : Option Addr} {cap : Nat} {X : List AttrD} (h : w.ownsRow base 128 4 (.slice ad X.length cap) X.length (X.flatMap attrC)) : AttrsAt w ad X.length X := by
  refine ⟨rfl, fun hp => ?_⟩
  rcases h.2 with ⟨e, hn⟩ | ⟨g, cap', cur, e, _⟩
  · omega
  · simp at e
    obtain ⟨rfl, rfl⟩ := e
    have hc := h.cells (g := g) rfl
    refine ⟨g, 0, rfl, fun i hi => ?_⟩
    have k0 := hc (i * 4 + 0) _ ((flat_get attrC 4 (fun _ => rfl) X i 0 hi (by omega)).trans rfl)
    have k1 := hc (i * 4 + 1) _ ((flat_get attrC 4 (fun _ => rfl) X i 1 hi (by omega)).trans rfl)
    have k2 := hc (i * 4 + 2) _ ((flat_get attrC 4 (fun _ => rfl) X i 2 hi (by omega)).trans rfl)
    have k3 := hc (i * 4 + 3) _ ((flat_get attrC 4 (fun _ => rfl) X i 3 hi (by omega)).trans rfl)
    rw [Addr.add_lit] at k0 k1 k2 k3
    exact ⟨k0, k1, k2, k3⟩
theorem eventsAt_own {w : World} {base : Nat} {ad : Option Addr} {cap : Nat} {X : List EventD} (h : w.ownsRow base 131 2 (.slice ad X.length cap) X.length (X.flatMap eventC)) : EventsAt w ad X.length X := by
  refine ⟨rfl, fun hp => ?_⟩
  rcases h.2 with ⟨e, hn⟩ | ⟨g, cap', cur, e, _⟩
  · omega
  · simp at e
    obtain ⟨rfl, rfl⟩ := e
    have hc := h.cells (g := g) rfl
    refine ⟨g, 0, rfl, fun i hi => ?_⟩
    have k0 := hc (i * 2 + 0) _ ((flat_get eventC 2 (fun _ => rfl) X i 0 hi (by omega)).trans rfl)
    have k1 := hc (i * 2 + 1) _ ((flat_get eventC 2 (fun _ => rfl) X i 1 hi (by omega)).trans rfl)
    rw [Addr.add_lit] at k0 k1
    exact ⟨k0, k1⟩
theorem upd_row (W : World) (g : Nat) (cs : Array Value) : Upd (fun k => k = g) W (W.setRow g cs) :=
  ⟨rfl, rfl, rfl, by simp [World.setRow], fun k _ hk => setRow_other W g k _ hk⟩
theorem own_len {base e size : Nat} {w : World} {ad : Option Addr} {l cap n : Nat} {xs : List Value} (h : w.ownsRow base e size (.slice ad l cap) n xs) : l = n := by
  rcases h.2 with ⟨e, hn⟩ | ⟨g, cap', cur, e, _⟩
  · simp at e; omega
  · simp at e; exact e.2.1
theorem Tryz.info78 : (Tryz.prog.info? 78).map (·.size) = some 13 := by kernel_rfl
theorem iter_le16 (K : List Int) (s : Option Nat) : (linksP K s).1.length ≤ 16 := by unfold linksP; rw [iterS_len]; exact countP_le K 16 s
theorem iter_le32a (K : List Int) (s : Option Nat) : (attrsP K s).1.length ≤ 32 := by unfold attrsP; rw [iterS_len]; exact countP_le K 32 s
theorem iter_le32e (K : List Int) (s : Option Nat) : (eventsP K s).1.length ≤ 32 := by unfold eventsP; rw [iterS_len]; exact countP_le K 32 s

end Go.Proofs.YtkdgnhohecifoaaGreatDoor

namespace Go.Proofs.YtkdgnhohecifoaaGreatDoor
open Go.Shelf Go.RowKit
set_option maxRecDepth 100000

theorem flat_len {α : Type} (f : α → List Value) (m : Nat) (hf : ∀ a, (f a).length = m) : ∀ X : List α, (X.flatMap f).length = X.length * m := by
  intro X
  induction X with
  | nil => simp
  | cons a r ih => simp only [List.flatMap_cons, List.length_append, List.length_cons, hf, ih, Nat.succ_mul]; omega
theorem flat_at {α : Type} (f : α → List Value) (m : Nat) (hf : ∀ a, (f a).length = m) : ∀ (X : List α) (j : Nat) (v : Value), (X.flatMap f)[j]? = some v → ∃ (i k : Nat) (hi : i < X.length), ∃ (_ : k < m), j = i * m + k ∧ some v = (f X[i])[k]? := by
  intro X
  induction X with
  | nil => intro j v h; simp at h
  | cons a r ih =>
    intro j v h
    simp only [List.flatMap_cons] at h
    by_cases hj : j < m
    · rw [List.getElem?_append_left (by rw [hf]; exact hj)] at h
      exact ⟨0, j, by simp, hj, by simp, by simpa using h.symm⟩
    · rw [List.getElem?_append_right (by rw [hf]; omega), hf] at h
      obtain ⟨i, k, hi, hk, e, hv⟩ := ih (j - m) v h
      exact ⟨i + 1, k, by simpa using hi, hk, by rw [Nat.succ_mul]; omega, by simpa using hv⟩
theorem run_copyW {P : Program} (w : World) (dT sT ty elem : TypeId) (g n dCap : Nat) (a : Addr) (sCap s : Nat) (cur : Array Value) (t : TypeId) (cs : List Value)
    (hu : P.underlying dT = some (.slice elem)) (hs : (P.info? elem).map (·.size) = some s)
    (hg : w.heap[g]? = some (.cells cur t (0, 0))) (hn : cs.length = n * s)
    (hsrc : ∀ j v, cs[j]? = some v → w.cell? (a.add j) = some v) (hfit : cs.length = cur.size) (h1 : ∀ v ∈ cs, v.oneCell' = true) :
    (Builtin.copy_ #[dT, sT] ty #[.slice (some ⟨g, 0, none⟩) n dCap, .slice (some a) n sCap]).run P w = .ok (goInt n) (w.setRow g cs.toArray) := by
  have hst := run_storeCells_at P g 0 t cs 0 cur w hg (by omega) h1
  cases hq : P.info? elem with
  | none => simp [hq] at hs
  | some i =>
    have hi : i.size = s := by simpa [hq] using hs
    have hl := run_firstCells_some (P := P) w i.size n a n sCap cs (by rw [hi]; omega) hsrc
    have e : (cur.toList.take 0 ++ cs ++ cur.toList.drop (0 + cs.length)).toArray = cs.toArray := by
      rw [List.drop_of_length_le (by simp; omega)]; simp
    rw [e] at hst
    simp [Builtin.copy_, run_underlying hu, Builtin.lenOf, sizeOf, typeInfo, hq, hl, hst]
theorem wpList_copyW {P : Program} {w : World} {ops : Array Oper} {rest : List Oper} {o : Oper} {a : Act} {Q : Exit → Act → World → Prop} (hgd : o.guard = none) (d s : Operand) (dT sT : TypeId)
    (ho : o.op = .call { callee := .builtin .copy, args := #[d, s], argTypes := #[dT, sT] }) (elem : TypeId) (hu : P.underlying dT = some (.slice elem)) (size : Nat) (hsz : (P.info? elem).map (·.size) = some size)
    (g n dCap : Nat) (ad : Addr) (sCap : Nat) (hd : a.eval d = .slice (some ⟨g, 0, none⟩) n dCap) (hs : a.eval s = .slice (some ad) n sCap)
    (cur : Array Value) (t : TypeId) (hg : w.heap[g]? = some (.cells cur t (0, 0))) (cs : List Value) (hn : cs.length = n * size)
    (hsrc : ∀ j v, cs[j]? = some v → w.cell? (ad.add j) = some v) (hfit : cs.length = cur.size) (h1 : ∀ v ∈ cs, v.oneCell' = true)
    (h : wpList P ops Q rest (a.put o.dst (goInt n)) (w.setRow g cs.toArray)) : wpList P ops Q (o :: rest) a w := by
  refine wpList_plain hgd fun K hK => ?_
  have hrun := run_copyW (P := P) w dT sT o.type elem g n dCap ad sCap size cur t cs hu hsz hg hn hsrc hfit h1
  unfold Oper.wp
  simp [execOp, ho, resolve, invoke, builtin, hd, hs, hrun, Result.andThen]
  exact hK _ _ h

set_option maxHeartbeats 400000 in
theorem copied_links (ad : Option Addr) (n cap : Nat) (X : List Int) (w : World) (h : HoldsV w ad n (intsV .u64 X)) (hn : n ≤ 1000) :
    Calls Tryz.prog 48 #[.slice ad n cap] w fun e w' => ∃ ad' c', e = .returned (.slice ad' n c') ∧ (∀ w5, (∀ k, w.heap.size ≤ k → k < w'.heap.size → w5.heap[k]? = w'.heap[k]?) → HoldsV w5 ad' n (intsV .u64 X)) ∧ Below w.heap.size w w' := by
  obtain ⟨i0, hi, hz0, hz1, hz2⟩ := info_parts Tryz.info26
  have hsz : (Tryz.prog.info? 26).map (·.size) = some 1 := by rw [hi]; simp [hz1]
  have hl : X.length = n := by simpa [intsV] using h.len
  have hnil : ∀ W, (binOp .eql 61 (.slice ad n cap) (.slice none 0 0)).run Tryz.prog W = .ok (.bool ad.isNone) W := fun W => Lib.run_eql_slice_nil W _ _ ad n cap 0 0 Tryz.underlying61
  cases ad with
  | none =>
    have hX : X = [] := by
      cases X with
      | nil => rfl
      | cons x r => exfalso; obtain ⟨a, ha, _⟩ := h.cells 0 (.int .u64 x) (by simp [intsV]); simp at ha
    subst hX
    have hn0 : n = 0 := by simpa using hl.symm
    subst hn0
    go_enter Tryz.func48, Tryz.ntmps48
    go_wp2
    go_ret
    exact ⟨none, _, rfl, fun w5 _ => HoldsV.nil w5, Below.refl _ _⟩
  | some a =>
    obtain ⟨cs, hcs⟩ : ∃ cs, intsV .u64 X = cs := ⟨_, rfl⟩
    have hcl : cs.length = n * 1 := by rw [← hcs]; simpa [intsV] using hl
    have hone : ∀ u ∈ cs, u.oneCell' = true := by rw [← hcs]; exact ints_oneCell _ _
    have hsrc : ∀ j v, cs[j]? = some v → w.cell? (a.add j) = some v := by
      rw [← hcs]; intro j v hj; obtain ⟨a', ha, hc⟩ := h.cells j v hj; simp at ha; subst ha; exact hc
    have HC : Hid (intsV .u64 X = cs) := hcs
    clear hcs
    go_enter Tryz.func48, Tryz.ntmps48
    go_wp2_with (at_make; refine wpList_make_full _ rfl (.tmp 7) (.tmp 7) 61 rfl w.heap.size 26 i0 (.int .u64 0) 1 Tryz.underlying61 hi hz0 hz1 .i64 .i64 (n : Int) (n : Int) n rfl rfl rfl rfl (by rw [hz2]; omega) (by unfold maxLen; omega) (Nat.le_refl _) ?_)
    intro w1 hown hgrow
    obtain ⟨cur, hcur, hcz⟩ : ∃ cur : Array Value, w1.heap[w.heap.size]? = some (.cells cur 26 (0, 0)) ∧ cur.size = n * 1 := by
      rcases hown.2 with ⟨e, _⟩ | ⟨g, cap', cur, e, _, hg, _, _, hs, _⟩
      · simp at e
      · simp at e
        obtain ⟨rfl, rfl⟩ := e
        exact ⟨cur, hg, hs⟩
    have hb1 : Below w.heap.size w w1 := (Below.refl _ _).grown hgrow (Nat.le_refl _) (by intro k hk; cases hk)
    have hsrc1 : ∀ j v, cs[j]? = some v → w1.cell? (a.add j) = some v := fun j v hj => hgrow.cell (hsrc j v hj) (by simp)
    clear hown hgrow hsrc
    go_wp2_with (refine wpList_copyW rfl (.tmp 9) (.tmp 10) 61 61 rfl 26 Tryz.underlying61 1 hsz w.heap.size n n a cap (by rfl) (by rfl) cur 26 hcur cs hcl hsrc1 (by omega) hone ?_)
    go_ret
    have hrow := setRow_heap w1 w.heap.size cur cs.toArray 26 (0, 0) hcur
    refine ⟨some ⟨w.heap.size, 0, none⟩, n, rfl, fun w5 b5 => ?_, below_setRow hb1 (Nat.le_refl _) _⟩
    have hr5 := (b5 w.heap.size (Nat.le_refl _) (lt_of_block hrow)).trans hrow
    rw [← HC.out] at hr5
    exact ⟨by simpa [intsV] using hl, fun j u hj => ⟨_, rfl, by rw [Addr.add_lit]; exact blk_cell hr5 _ (by simpa using hj)⟩⟩

set_option maxHeartbeats 400000 in
theorem copied_attrs (ad : Option Addr) (n cap : Nat) (X : List AttrD) (w : World) (h : AttrsAt w ad n X) (hn : n ≤ 1000) :
    Calls Tryz.prog 49 #[.slice ad n cap] w fun e w' => ∃ ad' c', e = .returned (.slice ad' n c') ∧ (∀ w5, (∀ k, w.heap.size ≤ k → k < w'.heap.size → w5.heap[k]? = w'.heap[k]?) → AttrsAt w5 ad' n X) ∧ Below w.heap.size w w' := by
  obtain ⟨i0, hi, hz0, hz1, hz2⟩ := info_parts Tryz.info128
  have hsz : (Tryz.prog.info? 128).map (·.size) = some 4 := by rw [hi]; simp [hz1]
  have hl : X.length = n := h.len
  have hnil : ∀ W, (binOp .eql 75 (.slice ad n cap) (.slice none 0 0)).run Tryz.prog W = .ok (.bool ad.isNone) W := fun W => Lib.run_eql_slice_nil W _ _ ad n cap 0 0 Tryz.underlying75
  cases ad with
  | none =>
    have hX : X = [] := by
      cases X with
      | nil => rfl
      | cons x r => exfalso; obtain ⟨b, off, ha, _⟩ := h.lies (by simp at hl; omega); simp at ha
    subst hX
    have hn0 : n = 0 := by simpa using hl.symm
    subst hn0
    go_enter Tryz.func49, Tryz.ntmps49
    go_wp2
    go_ret
    exact ⟨none, _, rfl, fun w5 _ => ⟨rfl, fun hp => by omega⟩, Below.refl _ _⟩
  | some a =>
    obtain ⟨cs, hcs⟩ : ∃ cs, X.flatMap attrC = cs := ⟨_, rfl⟩
    have hcl : cs.length = n * 4 := by rw [← hcs]; rw [flat_len attrC 4 (fun _ => rfl), hl]
    have hone : ∀ u ∈ cs, u.oneCell' = true := by rw [← hcs]; intro u hu; simp [attrC] at hu; obtain ⟨x, _, rfl | rfl | rfl | rfl⟩ := hu <;> rfl
    have hsrc : ∀ j v, cs[j]? = some v → w.cell? (a.add j) = some v := by
      rw [← hcs]; intro j v hj
      have hp : 0 < n := by
        cases X with
        | nil => simp at hj
        | cons x r => simp at hl; omega
      obtain ⟨b, off, ha, hc⟩ := h.lies hp
      simp at ha
      subst ha
      obtain ⟨i, k, hi, hk, rfl, hv⟩ := flat_at attrC 4 (fun _ => rfl) X j v hj
      obtain ⟨c0, c1, c2, c3⟩ := hc i hi
      rw [Addr.add_lit, ← Nat.add_assoc]
      match k, hk with
      | 0, _ => rw [hv]; exact c0
      | 1, _ => rw [hv]; exact c1
      | 2, _ => rw [hv]; exact c2
      | 3, _ => rw [hv]; exact c3
    have HC : Hid (X.flatMap attrC = cs) := hcs
    clear hcs
    go_enter Tryz.func49, Tryz.ntmps49
    go_wp2_with (at_make; refine wpList_make_full _ rfl (.tmp 7) (.tmp 7) 75 rfl w.heap.size 128 i0 _ 4 Tryz.underlying75 hi hz0 hz1 .i64 .i64 (n : Int) (n : Int) n rfl rfl rfl rfl (by rw [hz2]; omega) (by unfold maxLen; omega) (Nat.le_refl _) ?_)
    intro w1 hown hgrow
    obtain ⟨cur, hcur, hcz⟩ : ∃ cur : Array Value, w1.heap[w.heap.size]? = some (.cells cur 128 (0, 0)) ∧ cur.size = n * 4 := by
      rcases hown.2 with ⟨e, _⟩ | ⟨g, cap', cur, e, _, hg, _, _, hs, _⟩
      · simp at e
      · simp at e
        obtain ⟨rfl, rfl⟩ := e
        exact ⟨cur, hg, hs⟩
    have hb1 : Below w.heap.size w w1 := (Below.refl _ _).grown hgrow (Nat.le_refl _) (by intro k hk; cases hk)
    have hsrc1 : ∀ j v, cs[j]? = some v → w1.cell? (a.add j) = some v := fun j v hj => hgrow.cell (hsrc j v hj) (by simp)
    clear hown hgrow hsrc
    go_wp2_with (refine wpList_copyW rfl (.tmp 9) (.tmp 10) 75 75 rfl 128 Tryz.underlying75 4 hsz w.heap.size n n a cap (by rfl) (by rfl) cur 128 hcur cs hcl hsrc1 (by omega) hone ?_)
    go_ret
    have hrow := setRow_heap w1 w.heap.size cur cs.toArray 128 (0, 0) hcur
    refine ⟨some ⟨w.heap.size, 0, none⟩, n, rfl, fun w5 b5 => ?_, below_setRow hb1 (Nat.le_refl _) _⟩
    have hr5 := (b5 w.heap.size (Nat.le_refl _) (lt_of_block hrow)).trans hrow
    rw [← HC.out] at hr5
    refine ⟨hl, fun hp => ⟨w.heap.size, 0, rfl, fun i hi => ?_⟩⟩
    have k0 := blk_cell hr5 (i * 4 + 0) (by rw [List.getElem?_toArray]; exact (flat_get attrC 4 (fun _ => rfl) X i 0 hi (by omega)).trans rfl)
    have k1 := blk_cell hr5 (i * 4 + 1) (by rw [List.getElem?_toArray]; exact (flat_get attrC 4 (fun _ => rfl) X i 1 hi (by omega)).trans rfl)
    have k2 := blk_cell hr5 (i * 4 + 2) (by rw [List.getElem?_toArray]; exact (flat_get attrC 4 (fun _ => rfl) X i 2 hi (by omega)).trans rfl)
    have k3 := blk_cell hr5 (i * 4 + 3) (by rw [List.getElem?_toArray]; exact (flat_get attrC 4 (fun _ => rfl) X i 3 hi (by omega)).trans rfl)
    rw [Nat.zero_add]
    exact ⟨k0, k1, k2, k3⟩

set_option maxHeartbeats 400000 in
theorem copied_events (ad : Option Addr) (n cap : Nat) (X : List EventD) (w : World) (h : EventsAt w ad n X) (hn : n ≤ 1000) :
    Calls Tryz.prog 50 #[.slice ad n cap] w fun e w' => ∃ ad' c', e = .returned (.slice ad' n c') ∧ (∀ w5, (∀ k, w.heap.size ≤ k → k < w'.heap.size → w5.heap[k]? = w'.heap[k]?) → EventsAt w5 ad' n X) ∧ Below w.heap.size w w' := by
  obtain ⟨i0, hi, hz0, hz1, hz2⟩ := info_parts Tryz.info131
  have hsz : (Tryz.prog.info? 131).map (·.size) = some 2 := by rw [hi]; simp [hz1]
  have hl : X.length = n := h.len
  have hnil : ∀ W, (binOp .eql 76 (.slice ad n cap) (.slice none 0 0)).run Tryz.prog W = .ok (.bool ad.isNone) W := fun W => Lib.run_eql_slice_nil W _ _ ad n cap 0 0 Tryz.underlying76
  cases ad with
  | none =>
    have hX : X = [] := by
      cases X with
      | nil => rfl
      | cons x r => exfalso; obtain ⟨b, off, ha, _⟩ := h.lies (by simp at hl; omega); simp at ha
    subst hX
    have hn0 : n = 0 := by simpa using hl.symm
    subst hn0
    go_enter Tryz.func50, Tryz.ntmps50
    go_wp2
    go_ret
    exact ⟨none, _, rfl, fun w5 _ => ⟨rfl, fun hp => by omega⟩, Below.refl _ _⟩
  | some a =>
    obtain ⟨cs, hcs⟩ : ∃ cs, X.flatMap eventC = cs := ⟨_, rfl⟩
    have hcl : cs.length = n * 2 := by rw [← hcs]; rw [flat_len eventC 2 (fun _ => rfl), hl]
    have hone : ∀ u ∈ cs, u.oneCell' = true := by rw [← hcs]; intro u hu; simp [eventC] at hu; obtain ⟨x, _, rfl | rfl⟩ := hu <;> rfl
    have hsrc : ∀ j v, cs[j]? = some v → w.cell? (a.add j) = some v := by
      rw [← hcs]; intro j v hj
      have hp : 0 < n := by
        cases X with
        | nil => simp at hj
        | cons x r => simp at hl; omega
      obtain ⟨b, off, ha, hc⟩ := h.lies hp
      simp at ha
      subst ha
      obtain ⟨i, k, hi, hk, rfl, hv⟩ := flat_at eventC 2 (fun _ => rfl) X j v hj
      obtain ⟨c0, c1⟩ := hc i hi
      rw [Addr.add_lit, ← Nat.add_assoc]
      match k, hk with
      | 0, _ => rw [hv]; exact c0
      | 1, _ => rw [hv]; exact c1
    have HC : Hid (X.flatMap eventC = cs) := hcs
    clear hcs
    go_enter Tryz.func50, Tryz.ntmps50
    go_wp2_with (at_make; refine wpList_make_full _ rfl (.tmp 7) (.tmp 7) 76 rfl w.heap.size 131 i0 _ 2 Tryz.underlying76 hi hz0 hz1 .i64 .i64 (n : Int) (n : Int) n rfl rfl rfl rfl (by rw [hz2]; omega) (by unfold maxLen; omega) (Nat.le_refl _) ?_)
    intro w1 hown hgrow
    obtain ⟨cur, hcur, hcz⟩ : ∃ cur : Array Value, w1.heap[w.heap.size]? = some (.cells cur 131 (0, 0)) ∧ cur.size = n * 2 := by
      rcases hown.2 with ⟨e, _⟩ | ⟨g, cap', cur, e, _, hg, _, _, hs, _⟩
      · simp at e
      · simp at e
        obtain ⟨rfl, rfl⟩ := e
        exact ⟨cur, hg, hs⟩
    have hb1 : Below w.heap.size w w1 := (Below.refl _ _).grown hgrow (Nat.le_refl _) (by intro k hk; cases hk)
    have hsrc1 : ∀ j v, cs[j]? = some v → w1.cell? (a.add j) = some v := fun j v hj => hgrow.cell (hsrc j v hj) (by simp)
    clear hown hgrow hsrc
    go_wp2_with (refine wpList_copyW rfl (.tmp 9) (.tmp 10) 76 76 rfl 131 Tryz.underlying76 2 hsz w.heap.size n n a cap (by rfl) (by rfl) cur 131 hcur cs hcl hsrc1 (by omega) hone ?_)
    go_ret
    have hrow := setRow_heap w1 w.heap.size cur cs.toArray 131 (0, 0) hcur
    refine ⟨some ⟨w.heap.size, 0, none⟩, n, rfl, fun w5 b5 => ?_, below_setRow hb1 (Nat.le_refl _) _⟩
    have hr5 := (b5 w.heap.size (Nat.le_refl _) (lt_of_block hrow)).trans hrow
    rw [← HC.out] at hr5
    refine ⟨hl, fun hp => ⟨w.heap.size, 0, rfl, fun i hi => ?_⟩⟩
    have k0 := blk_cell hr5 (i * 2 + 0) (by rw [List.getElem?_toArray]; exact (flat_get eventC 2 (fun _ => rfl) X i 0 hi (by omega)).trans rfl)
    have k1 := blk_cell hr5 (i * 2 + 1) (by rw [List.getElem?_toArray]; exact (flat_get eventC 2 (fun _ => rfl) X i 1 hi (by omega)).trans rfl)
    rw [Nat.zero_add]
    exact ⟨k0, k1⟩
end Go.Proofs.YtkdgnhohecifoaaGreatDoor

namespace Go.Proofs.YtkdgnhohecifoaaGreatDoor
open Go.Shelf Go.RowKit
set_option maxRecDepth 100000

set_option maxHeartbeats 4000000 in
theorem clone_any (a : Sp) (p : Pl) (w : World) (h : SpAt w a p) (hl : a.links.length ≤ 1000) (ha : a.attrs.length ≤ 1000) (he : a.events.length ≤ 1000) :
    Calls Tryz.prog 28 #[spV a p] w fun e w' => ∃ p', e = .returned (spV a p') ∧ (∀ w5, (∀ k, w.heap.size ≤ k → k < w'.heap.size → w5.heap[k]? = w'.heap[k]?) → SpAt w5 a p') ∧ Below w.heap.size w w' := by
  have B2 : Below w.heap.size w ((w.alloc (.cells #[.int .u64 a.hi, .int .u64 a.lo, .int .u64 a.id, .int .u64 a.par, .slice p.la a.links.length p.lc, .string a.svc, .string a.op, .int .i64 a.kind, .int .i64 a.status, .int .i64 a.start, .int .i64 a.fin, .slice p.aa a.attrs.length p.ac, .slice p.ea a.events.length p.ec] 78)).alloc (.cells #[.int .u64 0, .int .u64 0, .int .u64 0, .int .u64 0, .slice none 0 0, .string ⟨#[]⟩, .string ⟨#[]⟩, .int .i64 0, .int .i64 0, .int .i64 0, .int .i64 0, .slice none 0 0, .slice none 0 0] 78)) := ((Below.refl _ _).alloc (Nat.le_refl _) _).alloc (by simp) _
  have L1 := copied_links p.la a.links.length p.lc a.links _ (h.links.below B2) hl
  have L2 := fun w' (hb : Below w.heap.size w w') => copied_attrs p.aa a.attrs.length p.ac a.attrs w' (h.attrs.below hb) ha
  have L3 := fun w' (hb : Below w.heap.size w w') => copied_events p.ea a.events.length p.ec a.events w' (h.events.below hb) he
  have X0 : ((w.alloc (.cells #[.int .u64 a.hi, .int .u64 a.lo, .int .u64 a.id, .int .u64 a.par, .slice p.la a.links.length p.lc, .string a.svc, .string a.op, .int .i64 a.kind, .int .i64 a.status, .int .i64 a.start, .int .i64 a.fin, .slice p.aa a.attrs.length p.ac, .slice p.ea a.events.length p.ec] 78)).alloc (.cells #[.int .u64 0, .int .u64 0, .int .u64 0, .int .u64 0, .slice none 0 0, .string ⟨#[]⟩, .string ⟨#[]⟩, .int .i64 0, .int .i64 0, .int .i64 0, .int .i64 0, .slice none 0 0, .slice none 0 0] 78)).heap[w.heap.size]? = some (.cells #[.int .u64 a.hi, .int .u64 a.lo, .int .u64 a.id, .int .u64 a.par, .slice p.la a.links.length p.lc, .string a.svc, .string a.op, .int .i64 a.kind, .int .i64 a.status, .int .i64 a.start, .int .i64 a.fin, .slice p.aa a.attrs.length p.ac, .slice p.ea a.events.length p.ec] 78 (0, 0)) := (Below.heap_alloc _ _ _ (by simp)).trans (heap_alloc_new _ _)
  have R0 : ((w.alloc (.cells #[.int .u64 a.hi, .int .u64 a.lo, .int .u64 a.id, .int .u64 a.par, .slice p.la a.links.length p.lc, .string a.svc, .string a.op, .int .i64 a.kind, .int .i64 a.status, .int .i64 a.start, .int .i64 a.fin, .slice p.aa a.attrs.length p.ac, .slice p.ea a.events.length p.ec] 78)).alloc (.cells #[.int .u64 0, .int .u64 0, .int .u64 0, .int .u64 0, .slice none 0 0, .string ⟨#[]⟩, .string ⟨#[]⟩, .int .i64 0, .int .i64 0, .int .i64 0, .int .i64 0, .slice none 0 0, .slice none 0 0] 78)).heap[w.heap.size + 1]? = some (.cells #[.int .u64 0, .int .u64 0, .int .u64 0, .int .u64 0, .slice none 0 0, .string ⟨#[]⟩, .string ⟨#[]⟩, .int .i64 0, .int .i64 0, .int .i64 0, .int .i64 0, .slice none 0 0, .slice none 0 0] 78 (0, 0)) := alloc_at (by simp)
  have s1 := h.sl
  have s2 := h.sa
  have s3 := h.se
  have hne : w.heap.size + 1 ≠ w.heap.size := by omega
  clear h
  unfold spV spC
  go_enter Tryz.func28, Tryz.ntmps28
  go_wp2_with (first
    | (go_at_call 48; refine L1.mono ?_; clear L1; rintro e w1 ⟨la, lc, rfl, H1, b1⟩; have X1 := (b1.block _ (lt_of_block X0)).trans X0; have R1 := (b1.block _ (lt_of_block R0)).trans R0; have c1 := blk_cell X1 4 rfl; have f1 := blk_free X1 4; have X1' := set_block X1 4 (.slice la a.links.length lc); rw [a13_4] at X1'; have R1' := (Below.heap_setCell w1 ⟨w.heap.size, 4, none⟩ (.slice la a.links.length lc) (w.heap.size + 1) hne).trans R1; have bw1 := B2.trans (b1.mono B2.size); have bw1' := bw1.setCell (p := ⟨w.heap.size, 4, none⟩) (Nat.le_refl _) (.slice la a.links.length lc); have c1' := blk_cell X1' 11 rfl)
    | (go_at_call 49; refine (L2 _ bw1').mono ?_; clear L2; rintro e w2 ⟨aa, ac, rfl, H2, b2⟩; have X2 := (b2.block _ (lt_of_block X1')).trans X1'; have R2 := (b2.block _ (lt_of_block R1')).trans R1'; have c2 := blk_cell X2 11 rfl; have f2 := blk_free X2 11; have X2' := set_block X2 11 (.slice aa a.attrs.length ac); rw [a13_11] at X2'; have R2' := (Below.heap_setCell w2 ⟨w.heap.size, 11, none⟩ (.slice aa a.attrs.length ac) (w.heap.size + 1) hne).trans R2; have bw2 := bw1'.trans (b2.mono bw1'.size); have bw2' := bw2.setCell (p := ⟨w.heap.size, 11, none⟩) (Nat.le_refl _) (.slice aa a.attrs.length ac); have c2' := blk_cell X2' 12 rfl)
    | (go_at_call 50; refine (L3 _ bw2').mono ?_; clear L3; rintro e w3 ⟨ea, ec, rfl, H3, b3⟩; have X3 := (b3.block _ (lt_of_block X2')).trans X2'; have R3 := (b3.block _ (lt_of_block R2')).trans R2'; have c3 := blk_cell X3 12 rfl; have f3 := blk_free X3 12; have X3' := set_block X3 12 (.slice ea a.events.length ec); rw [a13_12] at X3'; have R3' := (Below.heap_setCell w3 ⟨w.heap.size, 12, none⟩ (.slice ea a.events.length ec) (w.heap.size + 1) hne).trans R3; have bw3 := bw2'.trans (b3.mono bw2'.size); have bw3' := bw3.setCell (p := ⟨w.heap.size, 12, none⟩) (Nat.le_refl _) (.slice ea a.events.length ec); have e0 := blk_cell X3' 0 rfl; have o0 := blk_cell R3' 0 rfl; have g0 := blk_free R3' 0; have e1 := blk_cell X3' 1 rfl; have o1 := blk_cell R3' 1 rfl; have g1 := blk_free R3' 1; have e2 := blk_cell X3' 2 rfl; have o2 := blk_cell R3' 2 rfl; have g2 := blk_free R3' 2; have e3 := blk_cell X3' 3 rfl; have o3 := blk_cell R3' 3 rfl; have g3 := blk_free R3' 3; have e4 := blk_cell X3' 4 rfl; have o4 := blk_cell R3' 4 rfl; have g4 := blk_free R3' 4; have e5 := blk_cell X3' 5 rfl; have o5 := blk_cell R3' 5 rfl; have g5 := blk_free R3' 5; have e6 := blk_cell X3' 6 rfl; have o6 := blk_cell R3' 6 rfl; have g6 := blk_free R3' 6; have e7 := blk_cell X3' 7 rfl; have o7 := blk_cell R3' 7 rfl; have g7 := blk_free R3' 7; have e8 := blk_cell X3' 8 rfl; have o8 := blk_cell R3' 8 rfl; have g8 := blk_free R3' 8; have e9 := blk_cell X3' 9 rfl; have o9 := blk_cell R3' 9 rfl; have g9 := blk_free R3' 9; have e10 := blk_cell X3' 10 rfl; have o10 := blk_cell R3' 10 rfl; have g10 := blk_free R3' 10; have e11 := blk_cell X3' 11 rfl; have o11 := blk_cell R3' 11 rfl; have g11 := blk_free R3' 11; have e12 := blk_cell X3' 12 rfl; have o12 := blk_cell R3' 12 rfl; have g12 := blk_free R3' 12))
  (try simp only [Exit.inBlock, Exit.then])
  obtain ⟨W, hW⟩ : ∃ W, w3.setCell ⟨w.heap.size, 12, none⟩ (.slice ea a.events.length ec) = W := ⟨_, rfl⟩
  rw [hW] at X3' R3' bw3' ⊢
  rw [set13_eq W (w.heap.size + 1) 78 _ _ _ _ _ _ _ _ _ _ _ _ _ _ _ _ _ _ _ _ _ _ _ _ _ _ R3']
  have hrow := setRow_heap W (w.heap.size + 1) _ #[.int .u64 a.hi, .int .u64 a.lo, .int .u64 a.id, .int .u64 a.par, .slice la a.links.length lc, .string a.svc, .string a.op, .int .i64 a.kind, .int .i64 a.status, .int .i64 a.start, .int .i64 a.fin, .slice aa a.attrs.length ac, .slice ea a.events.length ec] 78 (0, 0) R3'
  have hld := run_loadVar_row (P := Tryz.prog) (W.setRow (w.heap.size + 1) #[.int .u64 a.hi, .int .u64 a.lo, .int .u64 a.id, .int .u64 a.par, .slice la a.links.length lc, .string a.svc, .string a.op, .int .i64 a.kind, .int .i64 a.status, .int .i64 a.start, .int .i64 a.fin, .slice aa a.attrs.length ac, .slice ea a.events.length ec]) (w.heap.size + 1) 78 78 #[.int .u64 a.hi, .int .u64 a.lo, .int .u64 a.id, .int .u64 a.par, .slice la a.links.length lc, .string a.svc, .string a.op, .int .i64 a.kind, .int .i64 a.status, .int .i64 a.start, .int .i64 a.fin, .slice aa a.attrs.length ac, .slice ea a.events.length ec] (0, 0) _ hrow Tryz.underlying78 rfl Tryz.info78
  have z1 := b1.size
  have z2 := b2.size
  have z3 := b3.size
  simp at z1 z2 z3
  have k3 : ∀ k, w.heap.size + 2 ≤ k → (W.setRow (w.heap.size + 1) #[.int .u64 a.hi, .int .u64 a.lo, .int .u64 a.id, .int .u64 a.par, .slice la a.links.length lc, .string a.svc, .string a.op, .int .i64 a.kind, .int .i64 a.status, .int .i64 a.start, .int .i64 a.fin, .slice aa a.attrs.length ac, .slice ea a.events.length ec]).heap[k]? = w3.heap[k]? := fun k hk => by
    rw [setRow_other W _ k _ (by omega), ← hW]; exact Below.heap_setCell w3 ⟨w.heap.size, 12, none⟩ _ k (by simp; omega)
  have k2 : ∀ k, w.heap.size + 2 ≤ k → k < w2.heap.size → (W.setRow (w.heap.size + 1) #[.int .u64 a.hi, .int .u64 a.lo, .int .u64 a.id, .int .u64 a.par, .slice la a.links.length lc, .string a.svc, .string a.op, .int .i64 a.kind, .int .i64 a.status, .int .i64 a.start, .int .i64 a.fin, .slice aa a.attrs.length ac, .slice ea a.events.length ec]).heap[k]? = w2.heap[k]? := fun k hk hk2 => by
    rw [k3 k hk, b3.block k (by simpa using hk2)]; exact Below.heap_setCell w2 ⟨w.heap.size, 11, none⟩ _ k (by simp; omega)
  have k1 : ∀ k, w.heap.size + 2 ≤ k → k < w1.heap.size → (W.setRow (w.heap.size + 1) #[.int .u64 a.hi, .int .u64 a.lo, .int .u64 a.id, .int .u64 a.par, .slice la a.links.length lc, .string a.svc, .string a.op, .int .i64 a.kind, .int .i64 a.status, .int .i64 a.start, .int .i64 a.fin, .slice aa a.attrs.length ac, .slice ea a.events.length ec]).heap[k]? = w1.heap[k]? := fun k hk hk2 => by
    rw [k2 k hk (by omega), b2.block k (by simpa using hk2)]; exact Below.heap_setCell w1 ⟨w.heap.size, 4, none⟩ _ k (by simp; omega)
  have zW : (W.setRow (w.heap.size + 1) #[.int .u64 a.hi, .int .u64 a.lo, .int .u64 a.id, .int .u64 a.par, .slice la a.links.length lc, .string a.svc, .string a.op, .int .i64 a.kind, .int .i64 a.status, .int .i64 a.start, .int .i64 a.fin, .slice aa a.attrs.length ac, .slice ea a.events.length ec]).heap.size = w3.heap.size := by rw [← hW]; simp [World.setRow]
  have f1 := fun w5 (h5 : ∀ k, w.heap.size ≤ k → k < (W.setRow (w.heap.size + 1) #[.int .u64 a.hi, .int .u64 a.lo, .int .u64 a.id, .int .u64 a.par, .slice la a.links.length lc, .string a.svc, .string a.op, .int .i64 a.kind, .int .i64 a.status, .int .i64 a.start, .int .i64 a.fin, .slice aa a.attrs.length ac, .slice ea a.events.length ec]).heap.size → w5.heap[k]? = (W.setRow (w.heap.size + 1) #[.int .u64 a.hi, .int .u64 a.lo, .int .u64 a.id, .int .u64 a.par, .slice la a.links.length lc, .string a.svc, .string a.op, .int .i64 a.kind, .int .i64 a.status, .int .i64 a.start, .int .i64 a.fin, .slice aa a.attrs.length ac, .slice ea a.events.length ec]).heap[k]?) => H1 w5 (fun k hk hk' => (h5 k (by simp at hk; omega) (by omega)).trans (k1 k (by simp at hk; omega) hk'))
  have f2 := fun w5 (h5 : ∀ k, w.heap.size ≤ k → k < (W.setRow (w.heap.size + 1) #[.int .u64 a.hi, .int .u64 a.lo, .int .u64 a.id, .int .u64 a.par, .slice la a.links.length lc, .string a.svc, .string a.op, .int .i64 a.kind, .int .i64 a.status, .int .i64 a.start, .int .i64 a.fin, .slice aa a.attrs.length ac, .slice ea a.events.length ec]).heap.size → w5.heap[k]? = (W.setRow (w.heap.size + 1) #[.int .u64 a.hi, .int .u64 a.lo, .int .u64 a.id, .int .u64 a.par, .slice la a.links.length lc, .string a.svc, .string a.op, .int .i64 a.kind, .int .i64 a.status, .int .i64 a.start, .int .i64 a.fin, .slice aa a.attrs.length ac, .slice ea a.events.length ec]).heap[k]?) => H2 w5 (fun k hk hk' => (h5 k (by simp at hk; omega) (by omega)).trans (k2 k (by simp at hk; omega) hk'))
  have f3 := fun w5 (h5 : ∀ k, w.heap.size ≤ k → k < (W.setRow (w.heap.size + 1) #[.int .u64 a.hi, .int .u64 a.lo, .int .u64 a.id, .int .u64 a.par, .slice la a.links.length lc, .string a.svc, .string a.op, .int .i64 a.kind, .int .i64 a.status, .int .i64 a.start, .int .i64 a.fin, .slice aa a.attrs.length ac, .slice ea a.events.length ec]).heap.size → w5.heap[k]? = (W.setRow (w.heap.size + 1) #[.int .u64 a.hi, .int .u64 a.lo, .int .u64 a.id, .int .u64 a.par, .slice la a.links.length lc, .string a.svc, .string a.op, .int .i64 a.kind, .int .i64 a.status, .int .i64 a.start, .int .i64 a.fin, .slice aa a.attrs.length ac, .slice ea a.events.length ec]).heap[k]?) => H3 w5 (fun k hk hk' => (h5 k (by simp at hk; omega) (by omega)).trans (k3 k (by simp at hk; omega)))
  refine bodyPost_ret (v := .agg #[.int .u64 a.hi, .int .u64 a.lo, .int .u64 a.id, .int .u64 a.par, .slice la a.links.length lc, .string a.svc, .string a.op, .int .i64 a.kind, .int .i64 a.status, .int .i64 a.start, .int .i64 a.fin, .slice aa a.attrs.length ac, .slice ea a.events.length ec]) ?_ rfl ⟨⟨la, lc, aa, ac, ea, ec⟩, rfl, (fun w5 h5 => ⟨f1 w5 h5, f2 w5 h5, f3 w5 h5, s1, s2, s3⟩), below_setRow bw3' (by omega) _⟩
  rw [results_cell1 rfl]
  simp [asAddr, Result.andThen, hld]
end Go.Proofs.YtkdgnhohecifoaaGreatDoor
