/-
  Merged: Zj, Zd, Zo, Zx, Wy, Zy.
-/
import Derived.Test.YtnffedmcblbkoaaGreatDoorWeq
import Derived.Test.YtnffedmcblbkoaaGreatDoorZg
import Derived.Deep.RegionHeld3
import Derived.Deep.RegionWith
import Derived.Test.YtnffedmcblbkoaaGreatDoorWaq
import Derived.Test.YtnffedmcblbkoaaGreatDoorMwq
import Derived.Deep.MidRow
import Derived.Laws.ResultCell
namespace Go.Proofs.YtnffedmcblbkoaaGreatDoor
open Go.Shelf Go.RowKit
set_option maxRecDepth 100000
structure Sp.Fits (a : Sp) : Prop where
 hi : 0 ≤ a.hi ∧ a.hi < 18446744073709551616
 lo : 0 ≤ a.lo ∧ a.lo < 18446744073709551616
 id : 0 ≤ a.id ∧ a.id < 18446744073709551616
 par : 0 ≤ a.par ∧ a.par < 18446744073709551616
 links : ∀ x ∈ a.links, 0 ≤ x ∧ x < 18446744073709551616
 attrs : ∀ x ∈ a.attrs, -9223372036854775808 ≤ x.num ∧ x.num ≤ 9223372036854775807
theorem plainB_ok {s : ByteArray} {m l : Int} (h : plainB s m l = true) : 1 ≤ s.size ∧ (s.size : Int) ≤ m ∧ Lib.validD s.data.toList = true := by
 simp only [plainB, Bool.and_eq_true, decide_eq_true_eq] at h
 exact ⟨h.1.1.1, h.1.1.2, h.1.2⟩
structure Sp.Good (a : Sp) : Prop where
 id : ¬ (a.hi = 0 ∧ a.lo = 0) ∧ a.id ≠ 0
 start : 0 ≤ a.start ∧ a.start ≤ 4611686018427387904
 fin : 0 ≤ a.fin ∧ a.fin ≤ 4611686018427387904
 svc : 1 ≤ a.svc.size ∧ a.svc.size ≤ 60 ∧ Lib.validD a.svc.data.toList = true
 op : 1 ≤ a.op.size ∧ a.op.size ≤ 100 ∧ Lib.validD a.op.data.toList = true
 kind : 0 ≤ a.kind ∧ a.kind ≤ 4
 status : 0 ≤ a.status ∧ a.status ≤ 2
 links : a.links.length ≤ 16
 attrs : a.attrs.length ≤ 32
 attr : ∀ x ∈ a.attrs, 1 ≤ x.key.size ∧ x.key.size ≤ 40 ∧ x.text.size ≤ 200 ∧ 0 ≤ x.kind ∧ x.kind ≤ 2
 events : a.events.length ≤ 32
 event : ∀ x ∈ a.events, 1 ≤ x.name.size ∧ x.name.size ≤ 100 ∧ 0 ≤ x.moment ∧ x.moment ≤ 4611686018427387904
theorem chk_good {a : Sp} (h : chkS a = 0) : a.Good := by
 unfold chkS at h
 split at h
 ·omega
 rename_i h1
 split at h
 ·omega
 rename_i h2
 split at h
 ·omega
 rename_i h3
 split at h
 ·omega
 rename_i h4
 split at h
 ·omega
 rename_i h5
 split at h
 ·omega
 rename_i h6
 split at h
 ·omega
 rename_i h7
 simp only [Bool.or_eq_true, decide_eq_true_eq, Bool.not_eq_true', not_or, Bool.not_eq_false] at h1 h2 h3 h4 h5 h6 h7
 obtain ⟨⟨m1, m2⟩, _⟩ := h2
 simp only [momB, Bool.and_eq_true, decide_eq_true_eq] at m1 m2
 obtain ⟨p1, p2⟩ := h3
 have q1 := plainB_ok p1
 have q2 := plainB_ok p2
 simp only [linksB, attrsB, eventsB, Bool.and_eq_true, decide_eq_true_eq, List.all_eq_true] at h5 h6 h7
 refine ⟨h1, m1, m2, ⟨q1.1, by omega, q1.2.2⟩, ⟨q2.1, by omega, q2.2.2⟩, by omega, by omega, h5.1.1, h6.1.1, fun x hx => ?_, h7.1.1, fun x hx => ?_⟩
 ·have := h6.2 x hx
  simp only [attrB, Bool.and_eq_true, keyB, decide_eq_true_eq] at this
  obtain ⟨⟨⟨⟨k1, k2⟩, _⟩, _⟩, v1⟩ := this
  refine ⟨k1, k2, ?_⟩
  unfold valB at v1
  split at v1
  ·simp only [Bool.and_eq_true, decide_eq_true_eq] at v1; omega
  ·split at v1
   ·simp only [decide_eq_true_eq] at v1; omega
   ·split at v1
    ·simp only [Bool.and_eq_true, decide_eq_true_eq] at v1; omega
    ·simp at v1
 ·have := h7.2 x hx
  simp only [eventB, Bool.and_eq_true, momB, decide_eq_true_eq] at this
  have q := plainB_ok this.2
  exact ⟨q.1, by omega, this.1⟩
theorem blk_cell {w : World} {g : Nat} {cs : Array Value} {t : TypeId} {fz : Nat × Nat} (h : w.heap[g]? = some (.cells cs t fz)) (j : Nat) {u : Value} (hu : cs[j]? = some u) : w.cell? ⟨g, j, none⟩ = some u := by
 simp [World.cell?, h, hu]
theorem blk_free {w : World} {g : Nat} {cs : Array Value} {t : TypeId} (h : w.heap[g]? = some (.cells cs t (0, 0))) (j : Nat) : w.frozen? ⟨g, j, none⟩ = false := by
 simp [World.frozen?, h]
abbrev TR (T R : Nat) : Nat → Prop := fun k => k = T ∨ k = R
theorem ne_of_types {w : World} {a b : Nat} {c d : Array Value} {s t : TypeId} {f h : Nat × Nat} (h1 : w.heap[a]? = some (.cells c s f)) (h2 : w.heap[b]? = some (.cells d t h)) (hne : s ≠ t) : a ≠ b := by
 rintro rfl
 rw [h1] at h2
 simp at h2
 exact hne h2.2.1
theorem Tryz.info33 : (Tryz.prog.info? 33).map (fun i => (i.zero, i.size, i.bytes)) = some (some (.int .u64 0), 1, 8) := by kernel_rfl
def attrC (a : AttrD) : List Value := [.string a.key, .int .i64 a.kind, .string a.text, .int .i64 a.num]
def eventC (a : EventD) : List Value := [.int .i64 a.moment, .string a.name]
theorem Tryz.info179 : (Tryz.prog.info? 179).map (fun i => (i.zero, i.size, i.bytes)) = some (some (.agg #[.string ⟨#[]⟩, .int .i64 0, .string ⟨#[]⟩, .int .i64 0]), 4, 48) := by kernel_rfl
theorem Tryz.info182 : (Tryz.prog.info? 182).map (fun i => (i.zero, i.size, i.bytes)) = some (some (.agg #[.int .i64 0, .string ⟨#[]⟩]), 2, 24) := by kernel_rfl
end Go.Proofs.YtnffedmcblbkoaaGreatDoor
namespace Go.Proofs.YtnffedmcblbkoaaGreatDoor
open Go.RowKit
set_option maxRecDepth 100000
theorem wpList_load_row {P : Program} {ops : Array Oper} {rest : List Oper} {op : Oper} {a : Act} {w : World} {Q : Exit → Act → World → Prop} (hgd : op.guard = none) (ty : TypeId) (x : Operand) (ho : op.op = .load ty x)
  (g : Nat) (t : TypeId) (cells : Array Value) (hx : a.eval x = .pointer (some ⟨g, 0, none⟩)) (d : TypeDesc)
  (hg : w.heap[g]? = some (.cells cells t (0, 0))) (hu : P.underlying ty = some d) (hd : (match d with | .struct _ | .array _ _ => true | _ => false) = true) (hi : (P.info? ty).map (·.size) = some cells.size)
  (h : wpList P ops Q rest (a.put op.dst (.agg cells)) w) : wpList P ops Q (op :: rest) a w := by
 refine wpList_plain hgd fun _ hK => ?_
 unfold Oper.wp execOp
 simp only [ho, hx, Instr.loadAt, Instr.sureAddr, Sem.run_bind, Sem.run_pure, Result.andThen_ok, run_loadVar_row w g t ty cells (0, 0) d hg hu hd hi]
 exact hK _ _ h
theorem results_cell1 {fn : Func} {p : Tmp} {ty : TypeId} (h : fn.results = #[.cell p ty]) (tmps : Array Value) (P : Program) (w : World) :
  (results fn tmps).run P w = ((asAddr (tmps.getD p undef)).run P w).andThen fun a w₁ => (loadVar ty a).run P w₁ := by
 simp only [results, h]
 simp [Sem.run_bind, Result.andThen]
end Go.Proofs.YtnffedmcblbkoaaGreatDoor
namespace Go.Proofs.YtnffedmcblbkoaaGreatDoor
open Go.Shelf Go.RowKit
set_option maxRecDepth 100000
theorem a13_0 (a0 a1 a2 a3 a4 a5 a6 a7 a8 a9 a10 a11 a12 v : Value) : (#[a0, a1, a2, a3, a4, a5, a6, a7, a8, a9, a10, a11, a12] : Array Value).setIfInBounds 0 v = #[v, a1, a2, a3, a4, a5, a6, a7, a8, a9, a10, a11, a12] := by simp
theorem a13_1 (a0 a1 a2 a3 a4 a5 a6 a7 a8 a9 a10 a11 a12 v : Value) : (#[a0, a1, a2, a3, a4, a5, a6, a7, a8, a9, a10, a11, a12] : Array Value).setIfInBounds 1 v = #[a0, v, a2, a3, a4, a5, a6, a7, a8, a9, a10, a11, a12] := by simp
theorem a13_2 (a0 a1 a2 a3 a4 a5 a6 a7 a8 a9 a10 a11 a12 v : Value) : (#[a0, a1, a2, a3, a4, a5, a6, a7, a8, a9, a10, a11, a12] : Array Value).setIfInBounds 2 v = #[a0, a1, v, a3, a4, a5, a6, a7, a8, a9, a10, a11, a12] := by simp
theorem a13_3 (a0 a1 a2 a3 a4 a5 a6 a7 a8 a9 a10 a11 a12 v : Value) : (#[a0, a1, a2, a3, a4, a5, a6, a7, a8, a9, a10, a11, a12] : Array Value).setIfInBounds 3 v = #[a0, a1, a2, v, a4, a5, a6, a7, a8, a9, a10, a11, a12] := by simp
theorem a13_4 (a0 a1 a2 a3 a4 a5 a6 a7 a8 a9 a10 a11 a12 v : Value) : (#[a0, a1, a2, a3, a4, a5, a6, a7, a8, a9, a10, a11, a12] : Array Value).setIfInBounds 4 v = #[a0, a1, a2, a3, v, a5, a6, a7, a8, a9, a10, a11, a12] := by simp
theorem a13_5 (a0 a1 a2 a3 a4 a5 a6 a7 a8 a9 a10 a11 a12 v : Value) : (#[a0, a1, a2, a3, a4, a5, a6, a7, a8, a9, a10, a11, a12] : Array Value).setIfInBounds 5 v = #[a0, a1, a2, a3, a4, v, a6, a7, a8, a9, a10, a11, a12] := by simp
theorem a13_6 (a0 a1 a2 a3 a4 a5 a6 a7 a8 a9 a10 a11 a12 v : Value) : (#[a0, a1, a2, a3, a4, a5, a6, a7, a8, a9, a10, a11, a12] : Array Value).setIfInBounds 6 v = #[a0, a1, a2, a3, a4, a5, v, a7, a8, a9, a10, a11, a12] := by simp
theorem a13_7 (a0 a1 a2 a3 a4 a5 a6 a7 a8 a9 a10 a11 a12 v : Value) : (#[a0, a1, a2, a3, a4, a5, a6, a7, a8, a9, a10, a11, a12] : Array Value).setIfInBounds 7 v = #[a0, a1, a2, a3, a4, a5, a6, v, a8, a9, a10, a11, a12] := by simp
theorem a13_8 (a0 a1 a2 a3 a4 a5 a6 a7 a8 a9 a10 a11 a12 v : Value) : (#[a0, a1, a2, a3, a4, a5, a6, a7, a8, a9, a10, a11, a12] : Array Value).setIfInBounds 8 v = #[a0, a1, a2, a3, a4, a5, a6, a7, v, a9, a10, a11, a12] := by simp
theorem a13_9 (a0 a1 a2 a3 a4 a5 a6 a7 a8 a9 a10 a11 a12 v : Value) : (#[a0, a1, a2, a3, a4, a5, a6, a7, a8, a9, a10, a11, a12] : Array Value).setIfInBounds 9 v = #[a0, a1, a2, a3, a4, a5, a6, a7, a8, v, a10, a11, a12] := by simp
theorem a13_10 (a0 a1 a2 a3 a4 a5 a6 a7 a8 a9 a10 a11 a12 v : Value) : (#[a0, a1, a2, a3, a4, a5, a6, a7, a8, a9, a10, a11, a12] : Array Value).setIfInBounds 10 v = #[a0, a1, a2, a3, a4, a5, a6, a7, a8, a9, v, a11, a12] := by simp
theorem a13_11 (a0 a1 a2 a3 a4 a5 a6 a7 a8 a9 a10 a11 a12 v : Value) : (#[a0, a1, a2, a3, a4, a5, a6, a7, a8, a9, a10, a11, a12] : Array Value).setIfInBounds 11 v = #[a0, a1, a2, a3, a4, a5, a6, a7, a8, a9, a10, v, a12] := by simp
theorem a13_12 (a0 a1 a2 a3 a4 a5 a6 a7 a8 a9 a10 a11 a12 v : Value) : (#[a0, a1, a2, a3, a4, a5, a6, a7, a8, a9, a10, a11, a12] : Array Value).setIfInBounds 12 v = #[a0, a1, a2, a3, a4, a5, a6, a7, a8, a9, a10, a11, v] := by simp
theorem set13_eq (w : World) (g : Nat) (t : TypeId) (z0 z1 z2 z3 z4 z5 z6 z7 z8 z9 z10 z11 z12 v0 v1 v2 v3 v4 v5 v6 v7 v8 v9 v10 v11 v12 : Value) (hg : w.heap[g]? = some (.cells #[z0, z1, z2, z3, z4, z5, z6, z7, z8, z9, z10, z11, z12] t (0, 0))) :
  (((((((((((((w.setCell ⟨g, 0, none⟩ v0).setCell ⟨g, 1, none⟩ v1).setCell ⟨g, 2, none⟩ v2).setCell ⟨g, 3, none⟩ v3).setCell ⟨g, 4, none⟩ v4).setCell ⟨g, 5, none⟩ v5).setCell ⟨g, 6, none⟩ v6).setCell ⟨g, 7, none⟩ v7).setCell ⟨g, 8, none⟩ v8).setCell ⟨g, 9, none⟩ v9).setCell ⟨g, 10, none⟩ v10).setCell ⟨g, 11, none⟩ v11).setCell ⟨g, 12, none⟩ v12) = w.setRow g #[v0, v1, v2, v3, v4, v5, v6, v7, v8, v9, v10, v11, v12] := by
 rw [setCell_eq_setRow w g 0 _ t (0, 0) v0 hg, a13_0,
  setCell_eq_setRow _ g 1 _ t (0, 0) v1 (setRow_heap w g _ _ t _ hg), setRow_setRow, a13_1,
  setCell_eq_setRow _ g 2 _ t (0, 0) v2 (setRow_heap w g _ _ t _ hg), setRow_setRow, a13_2,
  setCell_eq_setRow _ g 3 _ t (0, 0) v3 (setRow_heap w g _ _ t _ hg), setRow_setRow, a13_3,
  setCell_eq_setRow _ g 4 _ t (0, 0) v4 (setRow_heap w g _ _ t _ hg), setRow_setRow, a13_4,
  setCell_eq_setRow _ g 5 _ t (0, 0) v5 (setRow_heap w g _ _ t _ hg), setRow_setRow, a13_5,
  setCell_eq_setRow _ g 6 _ t (0, 0) v6 (setRow_heap w g _ _ t _ hg), setRow_setRow, a13_6,
  setCell_eq_setRow _ g 7 _ t (0, 0) v7 (setRow_heap w g _ _ t _ hg), setRow_setRow, a13_7,
  setCell_eq_setRow _ g 8 _ t (0, 0) v8 (setRow_heap w g _ _ t _ hg), setRow_setRow, a13_8,
  setCell_eq_setRow _ g 9 _ t (0, 0) v9 (setRow_heap w g _ _ t _ hg), setRow_setRow, a13_9,
  setCell_eq_setRow _ g 10 _ t (0, 0) v10 (setRow_heap w g _ _ t _ hg), setRow_setRow, a13_10,
  setCell_eq_setRow _ g 11 _ t (0, 0) v11 (setRow_heap w g _ _ t _ hg), setRow_setRow, a13_11,
  setCell_eq_setRow _ g 12 _ t (0, 0) v12 (setRow_heap w g _ _ t _ hg), setRow_setRow, a13_12]
theorem flat_get {α : Type} (f : α → List Value) (m : Nat) (hf : ∀ a, (f a).length = m) : ∀ (X : List α) (i j : Nat) (hi : i < X.length), j < m → (X.flatMap f)[i * m + j]? = (f X[i])[j]? := by
 intro X
 induction X with
 | nil => intro i j hi; simp at hi
 | cons a r ih =>
  intro i j hi hj
  cases i with
  | zero => simp only [List.flatMap_cons, Nat.zero_mul, Nat.zero_add, List.getElem_cons_zero]; rw [List.getElem?_append_left (by rw [hf]; exact hj)]
  | succ i =>
   simp only [List.flatMap_cons, List.getElem_cons_succ]
   rw [List.getElem?_append_right (by rw [hf, Nat.succ_mul]; omega), hf, show (i + 1) * m + j - m = i * m + j by rw [Nat.succ_mul]; omega]
   exact ih i j (by simpa using hi) hj
theorem Tryz.info102 : (Tryz.prog.info? 102).map (·.size) = some 13 := by kernel_rfl
end Go.Proofs.YtnffedmcblbkoaaGreatDoor
