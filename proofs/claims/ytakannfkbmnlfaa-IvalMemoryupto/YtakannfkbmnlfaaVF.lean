/-
  Layer 6, the law's own: spared, kept.
-/
import Derived.Test.YtakannfkbmnlfaaVE
import Derived.OwnWalk
import Derived.Laws.CopyRow
namespace Go.Proofs.Ytakannfkbmnlfaa
open Go.Shelf Go.RowKit Go.Lib
set_option maxRecDepth 100000

/-- A block of intervals, as a whole. -/
def BlkI (w : World) (g : Nat) (X : List (Int × Int)) : Prop := w.heap[g]? = some (.cells (X.flatMap ivC).toArray 35 (0, 0))
theorem BlkI.lt {w : World} {g : Nat} {X : List (Int × Int)} (h : BlkI w g X) : g < w.heap.size := lt_of_block h
theorem BlkI.c0 {w : World} {g : Nat} {X : List (Int × Int)} (h : BlkI w g X) (i : Nat) (hi : i < X.length) : w.cell? ⟨g, i * 2, none⟩ = some (.int .i64 X[i].1) := blk_cell h _ (by rw [List.getElem?_toArray]; exact (ivC_at X i hi).1)
theorem BlkI.c1 {w : World} {g : Nat} {X : List (Int × Int)} (h : BlkI w g X) (i : Nat) (hi : i < X.length) : w.cell? ⟨g, i * 2 + 1, none⟩ = some (.int .i64 X[i].2) := blk_cell h _ (by rw [List.getElem?_toArray]; exact (ivC_at X i hi).2)
theorem BlkI.free {w : World} {g : Nat} {X : List (Int × Int)} (h : BlkI w g X) (j : Nat) : w.frozen? ⟨g, j, none⟩ = false := blk_free h j
theorem BlkI.upd {S : Nat → Prop} {w w' : World} {g : Nat} {X : List (Int × Int)} (h : BlkI w g X) (hu : Upd S w w') (hS : ¬ S g) : BlkI w' g X := (hu.block g h.lt hS).trans h
theorem BlkI.below {w w' : World} {g : Nat} {X : List (Int × Int)} (h : BlkI w g X) (hb : Below w.heap.size w w') : BlkI w' g X := (hb.block g h.lt).trans h
theorem BlkI.at {w : World} {g : Nat} {X : List (Int × Int)} (h : BlkI w g X) (k : Nat) (hk : k ≤ X.length) : IvAt w (some ⟨g, 0, none⟩) k (X.take k) := by
  refine ⟨by rw [List.length_take]; omega, fun hp => ⟨g, 0, rfl, fun i hi => ?_⟩⟩
  rw [List.length_take] at hi
  simp only [List.getElem_take, Nat.zero_add]
  exact ⟨h.c0 i (by omega), h.c1 i (by omega)⟩
theorem ivC_set (X : List (Int × Int)) : ∀ (i : Nat) (_ : i < X.length) (a : Int × Int), ((X.flatMap ivC).set (i * 2) (.int .i64 a.1)).set (i * 2 + 1) (.int .i64 a.2) = (X.set i a).flatMap ivC := by
  induction X with
  | nil => intro i hi; simp at hi
  | cons p r ih =>
    intro i hi a
    cases i with
    | zero => rfl
    | succ i =>
      have h := ih i (by simpa using hi) a
      rw [List.set_cons_succ, List.flatMap_cons, List.flatMap_cons, ← h]
      have h2 : (ivC p).length = 2 := rfl
      rw [List.set_append_right _ _ (by omega), List.set_append_right _ _ (by omega), h2, show (i + 1) * 2 - 2 = i * 2 by omega, show (i + 1) * 2 + 1 - 2 = i * 2 + 1 by omega]
theorem BlkI.set {w : World} {g : Nat} {X : List (Int × Int)} (h : BlkI w g X) (i : Nat) (hi : i < X.length) (a b : Int) : BlkI ((w.setCell ⟨g, i * 2, none⟩ (.int .i64 a)).setCell ⟨g, i * 2 + 1, none⟩ (.int .i64 b)) g (X.set i (a, b)) := by
  unfold BlkI at h ⊢
  rw [set_block (set_block h (i * 2) (.int .i64 a)) (i * 2 + 1) (.int .i64 b)]
  rw [← ivC_set X i hi (a, b)]
  simp
theorem upd_two (w : World) (g i j : Nat) (a b : Value) : Upd (fun k => k = g) w ((w.setCell ⟨g, i, none⟩ a).setCell ⟨g, j, none⟩ b) :=
  (upd_one w g i a).trans (upd_one _ g j b) (fun _ _ h => h)
theorem made_iv (n : Nat) : (madeCells (#[.int .i64 0, .int .i64 0] : Array Value) (n * 2)).toList = (List.replicate n ((0, 0) : Int × Int)).flatMap ivC := by
  refine List.ext_getElem? fun j => ?_
  rcases Nat.lt_or_ge j (n * 2) with hj | hj
  · have e : j = j / 2 * 2 + j % 2 := by omega
    have h1 := ivC_at (List.replicate n ((0, 0) : Int × Int)) (j / 2) (by simp; omega)
    simp only [List.getElem_replicate] at h1
    have h5 : j % 2 < 2 := by omega
    have h6 : (madeCells (#[.int .i64 0, .int .i64 0] : Array Value) (n * 2)).toList[j]? = some (.int .i64 0) := by
      simp [madeCells, hj]
      generalize j % 2 = r at *
      match r, h5 with
      | 0, _ => rfl
      | 1, _ => rfl
    rw [h6]
    rcases (show j % 2 = 0 ∨ j % 2 = 1 by omega) with h | h
    · rw [e, h, Nat.add_zero]; exact h1.1.symm
    · rw [e, h]; exact h1.2.symm
  · rw [List.getElem?_eq_none (by simp [size_madeCells]; omega), List.getElem?_eq_none (by rw [ivC_len]; simp; omega)]
/-- A row of intervals is made. -/
theorem wpList_mkI {ops : Array Oper} {rest : List Oper} {o : Oper} {a : Act} {w : World} {Q : Exit → Act → World → Prop} (hg : o.guard = none) (l c : Operand) (hop : o.op = Op.makeSlice 22 l c)
    (n : Nat) (hl : a.eval l = .int .i64 (n : Int)) (hc : a.eval c = .int .i64 (n : Int)) (hb : 16 * n ≤ 281474976710656) (hm : n ≤ maxLen)
    (hK : ∀ w', BlkI w' w.heap.size (List.replicate n (0, 0)) → Below w.heap.size w w' → wpList Try.prog ops Q rest (a.put o.dst (.slice (some ⟨w.heap.size, 0, none⟩) n n)) w') : wpList Try.prog ops Q (o :: rest) a w := by
  obtain ⟨i0, hi0, hz0, hz1, hz2⟩ := info_parts Try.info35
  refine wpList_make_full w hg l c 22 hop w.heap.size 35 i0 _ 2 Try.underlying22 hi0 hz0 hz1 .i64 .i64 _ _ n hl hc rfl rfl (by rw [hz2]; exact hb) hm (Nat.le_refl _) ?_
  intro w' ho hgr
  refine hK w' ?_ ⟨hgr.os, hgr.tape, hgr.output, hgr.size, fun k hk => hgr.block k hk (by simp)⟩
  rcases ho.2 with ⟨e, _⟩ | ⟨g, cap, cur, hv, _, hh, _, _, hsz, ht⟩
  · simp at e
  · simp at hv
    obtain ⟨rfl, rfl⟩ := hv
    unfold BlkI
    have hc : cur = (madeCells (#[.int .i64 0, .int .i64 0] : Array Value) (n * 2)) := by
      apply Array.toList_inj.1
      rw [List.take_of_length_le (by simp [hsz])] at ht
      rw [ht]
      rfl
    rw [hh, ← made_iv, hc]
theorem run_copyV {P : Program} (w : World) (dT sT ty elem : TypeId) (g dLen dCap : Nat) (a : Addr) (n sCap s : Nat) (cur : Array Value) (t : TypeId) (cs : List Value)
    (hu : P.underlying dT = some (.slice elem)) (hs : (P.info? elem).map (·.size) = some s) (hg : w.heap[g]? = some (.cells cur t (0, 0))) (hn : cs.length = n * s) (hle : n ≤ dLen)
    (hsrc : ∀ j v, cs[j]? = some v → w.cell? (a.add j) = some v) (hfit : cs.length ≤ cur.size) (h1 : ∀ v ∈ cs, v.oneCell' = true) :
    (Builtin.copy_ #[dT, sT] ty #[.slice (some ⟨g, 0, none⟩) dLen dCap, .slice (some a) n sCap]).run P w = .ok (goInt n) (w.setRow g (cs ++ cur.toList.drop cs.length).toArray) := by
  have hl := run_loadCells_list (P := P) w a cs hsrc
  have hst := run_storeCells_at P g 0 t cs 0 cur w hg (by simpa using hfit) h1
  simp only [Nat.zero_add, List.take_zero, List.nil_append] at hst
  have hmin : min n dLen = n := Nat.min_eq_left hle
  cases hq : P.info? elem with
  | none => simp [hq] at hs
  | some i =>
    have hi : i.size = s := by simpa [hq] using hs
    simp [Builtin.copy_, run_underlying hu, Builtin.lenOf, Builtin.firstCells, sizeOf, typeInfo, hq, hi, hmin, ← hn, hl, hst]
theorem IvAt.cells {w : World} {ad : Option Addr} {n : Nat} {l : List (Int × Int)} (h : IvAt w ad n l) : ∀ x, ad = some x → ∀ j v, (l.flatMap ivC)[j]? = some v → w.cell? (x.add j) = some v := by
  intro x hx j v hj
  have hjl : j < l.length * 2 := by
    rw [← ivC_len]
    exact (List.getElem?_eq_some_iff.mp hj).1
  obtain ⟨b, off, e, hc⟩ := h.lies (by have := h.len; omega)
  rw [hx] at e
  injection e with e
  subst e
  rw [Addr.add_lit]
  have e : j = j / 2 * 2 + j % 2 := by omega
  have h1 := ivC_at l (j / 2) (by omega)
  have h2 := hc (j / 2) (by omega)
  rcases (show j % 2 = 0 ∨ j % 2 = 1 by omega) with h | h
  · rw [h, Nat.add_zero] at e
    rw [e] at hj
    rw [h1.1] at hj
    injection hj with hj
    rw [e, ← hj]
    exact h2.1
  · rw [h] at e
    rw [e] at hj
    rw [h1.2] at hj
    injection hj with hj
    rw [e, ← hj]
    exact h2.2
/-- A list of intervals is copied into a longer one. -/
theorem wpList_copyI {w : World} {ops : Array Oper} {rest : List Oper} {o : Oper} {a : Act} {Q : Exit → Act → World → Prop} (hgd : o.guard = none) (d s : Operand)
    (ho : o.op = .call { callee := .builtin .copy, args := #[d, s], argTypes := #[22, 22] })
    (g m : Nat) (ad : Option Addr) (n sCap : Nat) (A : List (Int × Int)) (hd : a.eval d = .slice (some ⟨g, 0, none⟩) (n + m) (n + m)) (hs : a.eval s = .slice ad n sCap) (hnil : ad = none → n = 0 ∧ sCap = 0)
    (hg : BlkI w g (List.replicate (n + m) (0, 0))) (hA : IvAt w ad n A)
    (h : ∀ w', BlkI w' g (A ++ List.replicate m (0, 0)) → Upd (fun k => k = g) w w' → wpList Try.prog ops Q rest (a.put o.dst (goInt n)) w') : wpList Try.prog ops Q (o :: rest) a w := by
  have hsz : (Try.prog.info? 35).map (·.size) = some 2 := by kernel_rfl
  refine wpList_plain hgd fun K hK => ?_
  unfold Oper.wp
  cases ad with
  | none =>
    obtain ⟨rfl, rfl⟩ := hnil rfl
    obtain rfl : A = [] := List.eq_nil_of_length_eq_zero hA.len
    have hrun := run_copy_nil (P := Try.prog) w 22 22 o.type 35 ⟨g, 0, none⟩ (0 + m) (0 + m) Try.underlying22 (by cases hq : Try.prog.info? 35 <;> simp_all)
    simp only [Nat.zero_add] at hg hd hrun
    simp [execOp, ho, resolve, invoke, builtin, hd, hs, hrun, Result.andThen]
    exact hK _ _ (h w (by simpa using hg) (Upd.refl _ _))
  | some x =>
    have hn : (A.flatMap ivC).length = n * 2 := by rw [ivC_len, hA.len]
    have hrun := run_copyV (P := Try.prog) w 22 22 o.type 35 g (n + m) (n + m) x n sCap 2 _ 35 (A.flatMap ivC) Try.underlying22 hsz hg hn (by omega) (hA.cells x rfl) (by rw [hn, List.size_toArray, ivC_len]; simp; omega) (ivC_one A)
    have e : (A.flatMap ivC ++ ((List.replicate (n + m) ((0, 0) : Int × Int)).flatMap ivC).toArray.toList.drop (A.flatMap ivC).length) = (A ++ List.replicate m (0, 0)).flatMap ivC := by
      rw [List.flatMap_append, show List.replicate (n + m) ((0, 0) : Int × Int) = List.replicate n (0, 0) ++ List.replicate m (0, 0) from (List.replicate_append_replicate).symm, List.flatMap_append]
      congr 1
      show List.drop _ ((List.replicate n ((0, 0) : Int × Int)).flatMap ivC ++ (List.replicate m ((0, 0) : Int × Int)).flatMap ivC) = _
      rw [List.drop_append_of_le_length (by rw [hn, ivC_len]; simp), List.drop_eq_nil_of_le (by rw [hn, ivC_len]; simp), List.nil_append]
    rw [e] at hrun
    simp [execOp, ho, resolve, invoke, builtin, hd, hs, hrun, Result.andThen]
    exact hK _ _ (h _ (by unfold BlkI; rw [List.flatMap_append]; exact setRow_heap w g _ _ _ _ hg) ⟨rfl, rfl, rfl, by simp [World.setRow], fun k hk hn => setRow_other w g k _ hn⟩)
end Go.Proofs.Ytakannfkbmnlfaa
