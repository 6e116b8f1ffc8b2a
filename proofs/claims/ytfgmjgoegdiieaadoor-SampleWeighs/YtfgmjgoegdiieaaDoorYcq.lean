/-
  Merged: Yc, Yd, FC, FD, FE.
-/
import Derived.Test.YtfgmjgoegdiieaaDoorZjq
import Derived.Lib.SliceRun
import Derived.Test.YtfgmjgoegdiieaaDoorFBq
import Derived.OwnWalk
import Derived.Laws.ResultCell
namespace Go.Proofs.YtfgmjgoegdiieaaDoor
open Go.Shelf Go.RowKit
set_option maxRecDepth 100000

theorem flat_len {α : Type} (f : α → List Value) (m : Nat) (hf : ∀ a, (f a).length = m) : ∀ X : List α, (X.flatMap f).length = X.length * m := by
  intro X
  induction X with
  | nil => simp
  | cons a r ih => simp only [List.flatMap_cons, List.length_append, List.length_cons, hf, ih, Nat.succ_mul]; omega
theorem flat_at {α : Type} (f : α → List Value) (m : Nat) (hf : ∀ a, (f a).length = m) : ∀ (X : List α) (j : Nat) (v : Value), (X.flatMap f)[j]? = some v → ∃ (i k : Nat) (hi : i < X.length), ∃ (_ : k < m), j = i * m + k ∧ some v = (f X[i])[k]? := by
  intro X
  induction X with
  | nil => intro j v h; simp at h
  | cons a r ih =>
    intro j v h
    simp only [List.flatMap_cons] at h
    by_cases hj : j < m
    · rw [List.getElem?_append_left (by rw [hf]; exact hj)] at h
      exact ⟨0, j, by simp, hj, by simp, by simpa using h.symm⟩
    · rw [List.getElem?_append_right (by rw [hf]; omega), hf] at h
      obtain ⟨i, k, hi, hk, e, hv⟩ := ih (j - m) v h
      exact ⟨i + 1, k, by simpa using hi, hk, by rw [Nat.succ_mul]; omega, by simpa using hv⟩
theorem run_copyW {P : Program} (w : World) (dT sT ty elem : TypeId) (g n dCap : Nat) (a : Addr) (sCap s : Nat) (cur : Array Value) (t : TypeId) (cs : List Value)
    (hu : P.underlying dT = some (.slice elem)) (hs : (P.info? elem).map (·.size) = some s)
    (hg : w.heap[g]? = some (.cells cur t (0, 0))) (hn : cs.length = n * s)
    (hsrc : ∀ j v, cs[j]? = some v → w.cell? (a.add j) = some v) (hfit : cs.length = cur.size) (h1 : ∀ v ∈ cs, v.oneCell' = true) :
    (Builtin.copy_ #[dT, sT] ty #[.slice (some ⟨g, 0, none⟩) n dCap, .slice (some a) n sCap]).run P w = .ok (goInt n) (w.setRow g cs.toArray) := by
  have hst := run_storeCells_at P g 0 t cs 0 cur w hg (by omega) h1
  cases hq : P.info? elem with
  | none => simp [hq] at hs
  | some i =>
    have hi : i.size = s := by simpa [hq] using hs
    have hl := run_firstCells_some (P := P) w i.size n a n sCap cs (by rw [hi]; omega) hsrc
    have e : (cur.toList.take 0 ++ cs ++ cur.toList.drop (0 + cs.length)).toArray = cs.toArray := by
      rw [List.drop_of_length_le (by simp; omega)]; simp
    rw [e] at hst
    simp [Builtin.copy_, run_underlying hu, Builtin.lenOf, sizeOf, typeInfo, hq, hl, hst]
theorem wpList_copyW {P : Program} {w : World} {ops : Array Oper} {rest : List Oper} {o : Oper} {a : Act} {Q : Exit → Act → World → Prop} (hgd : o.guard = none) (d s : Operand) (dT sT : TypeId)
    (ho : o.op = .call { callee := .builtin .copy, args := #[d, s], argTypes := #[dT, sT] }) (elem : TypeId) (hu : P.underlying dT = some (.slice elem)) (size : Nat) (hsz : (P.info? elem).map (·.size) = some size)
    (g n dCap : Nat) (ad : Addr) (sCap : Nat) (hd : a.eval d = .slice (some ⟨g, 0, none⟩) n dCap) (hs : a.eval s = .slice (some ad) n sCap)
    (cur : Array Value) (t : TypeId) (hg : w.heap[g]? = some (.cells cur t (0, 0))) (cs : List Value) (hn : cs.length = n * size)
    (hsrc : ∀ j v, cs[j]? = some v → w.cell? (ad.add j) = some v) (hfit : cs.length = cur.size) (h1 : ∀ v ∈ cs, v.oneCell' = true)
    (h : wpList P ops Q rest (a.put o.dst (goInt n)) (w.setRow g cs.toArray)) : wpList P ops Q (o :: rest) a w := by
  refine wpList_plain hgd fun K hK => ?_
  have hrun := run_copyW (P := P) w dT sT o.type elem g n dCap ad sCap size cur t cs hu hsz hg hn hsrc hfit h1
  unfold Oper.wp
  simp [execOp, ho, resolve, invoke, builtin, hd, hs, hrun, Result.andThen]
  exact hK _ _ h

end Go.Proofs.YtfgmjgoegdiieaaDoor

namespace Go.Proofs.YtfgmjgoegdiieaaDoor
open Go.Shelf Go.RowKit
set_option maxRecDepth 100000

end Go.Proofs.YtfgmjgoegdiieaaDoor

namespace Go.Proofs.YtfgmjgoegdiieaaDoor
open Go Go.RowKit
set_option maxRecDepth 100000

theorem blk_of_owns {w : World} {base r n k : Nat} {e : TypeId} {xs : List Value} (h : w.ownsRow base e k (.slice (some ⟨r, 0, none⟩) n n) n xs) : Blk w r xs.toArray e := by
  rcases h.2 with ⟨e, _⟩ | ⟨g, cap, cur, hv, _, hh, _, _, hsz, ht⟩
  · simp at e
  · simp at hv
    obtain ⟨rfl, rfl⟩ := hv
    have hc : cur = xs.toArray := by
      apply Array.toList_inj.1
      rw [List.take_of_length_le (by simp [hsz])] at ht
      rw [ht]
    unfold Blk
    rw [hh, hc]
/-- A row is made. -/
theorem wpList_mk {ops : Array Oper} {rest : List Oper} {o : Oper} {a : Act} {w : World} {Q : Exit → Act → World → Prop} (hg : o.guard = none) (l c : Operand) (t : TypeId) (hop : o.op = Op.makeSlice t l c) (e : TypeId) (z : Value) (k by_ : Nat) (hu : Tryd.prog.underlying t = some (.slice e)) (hi : (Tryd.prog.info? e).map (fun i => (i.zero, i.size, i.bytes)) = some (some z, k, by_))
    (n : Nat) (hl : a.eval l = .int .i64 (n : Int)) (hc : a.eval c = .int .i64 (n : Int)) (hb : by_ * n ≤ 281474976710656) (hm : n ≤ maxLen)
    (hK : ∀ w', Blk w' w.heap.size (madeCells z.cells (n * k)) e → Below w.heap.size w w' → wpList Tryd.prog ops Q rest (a.put o.dst (.slice (some ⟨w.heap.size, 0, none⟩) n n)) w') : wpList Tryd.prog ops Q (o :: rest) a w := by
  cases hq : Tryd.prog.info? e with
  | none => rw [hq] at hi; simp at hi
  | some i =>
    rw [hq] at hi
    simp at hi
    obtain ⟨h1, h2, h3⟩ := hi
    refine wpList_make_full w hg l c t hop w.heap.size e i z k hu hq h1 h2 .i64 .i64 _ _ n hl hc rfl rfl (by rw [h3]; exact hb) hm (Nat.le_refl _) ?_
    intro w' ho hgr
    refine hK w' ?_ ⟨hgr.os, hgr.tape, hgr.output, hgr.size, fun k hk => hgr.block k hk (by simp)⟩
    simpa using blk_of_owns ho
theorem infoI : (Tryd.prog.info? 3).map (fun i => (i.zero, i.size, i.bytes)) = some (some (.int .i64 0), 1, 8) := by kernel_rfl
theorem infoID : (Tryd.prog.info? 45).map (fun i => (i.zero, i.size, i.bytes)) = some (some (.int .u64 0), 1, 8) := by kernel_rfl
theorem made_one (v : Value) (n : Nat) : madeCells #[v] (n * 1) = Array.replicate n v := by
  apply Array.toList_inj.1
  simp [madeCells, Nat.mod_one]
  exact (List.map_const (l := List.range n) (b := v)).trans (by rw [List.length_range])
/-- A row of numbers, the first k of which are told, the rest are z. -/
def fillC (kd : IntKind) (L : List Int) (m : Nat) : Array Value := (L.map (Value.int kd) ++ List.replicate m (Value.int kd 0)).toArray
theorem fill_start (kd : IntKind) (n : Nat) : fillC kd [] n = Array.replicate n (.int kd 0) := by
  apply Array.toList_inj.1
  simp [fillC]
theorem fill_set (kd : IntKind) (L : List Int) (m : Nat) (x : Int) : (fillC kd L (m + 1)).setIfInBounds L.length (.int kd x) = fillC kd (L ++ [x]) m := by
  unfold fillC
  rw [List.setIfInBounds_toArray]
  congr 1
  rw [List.set_append_right _ _ (by simp), List.length_map, Nat.sub_self, List.replicate_succ, List.set_cons_zero]
  simp
theorem fill_get (kd : IntKind) (L : List Int) (m : Nat) : (fillC kd L (m + 1))[L.length]? = some (.int kd 0) := by
  unfold fillC
  rw [List.getElem?_toArray, List.getElem?_append_right (by simp)]
  simp [List.replicate_succ]
theorem fill_holds {w : World} {r : Nat} {kd : IntKind} {L : List Int} {e : TypeId} (h : Blk w r (fillC kd L 0) e) : HoldsV w (some ⟨r, 0, none⟩) L.length (intsV kd L) := by
  refine ⟨by simp [intsV], fun j u hu => ?_⟩
  refine ⟨_, rfl, ?_⟩
  rw [Addr.add_mid]
  simp only [Nat.zero_add]
  refine h.cell j ?_
  simp only [fillC, List.replicate_zero, List.append_nil]
  rw [List.getElem?_toArray]
  exact hu
/-- The IDs of spots. -/
def idsOf (X : List Spot) (L : List Int) : List Int := L.map (fun i => ((X[i.toNat]?).map (fun x => x.nd.id)).getD 0)
theorem idsOf_take (X : List Spot) (L : List Int) (k : Nat) (hk : k < L.length) (x : Spot) (hx : X[(L[k]).toNat]? = some x) : idsOf X (L.take (k + 1)) = idsOf X (L.take k) ++ [x.nd.id] := by
  unfold idsOf
  rw [List.take_succ_eq_append_getElem hk, List.map_append]
  simp [hx]
end Go.Proofs.YtfgmjgoegdiieaaDoor

namespace Go.Proofs.YtfgmjgoegdiieaaDoor
open Go Go.RowKit
set_option maxRecDepth 100000

theorem setCells_upd (b : Nat) : ∀ (vs : List Value) (o : Nat) (w : World), Upd (fun k => k = b) w (w.setCells b o vs)
  | [], _, w => Upd.refl _ w
  | v :: r, o, w => by
    rw [World.setCells]
    have h1 : Upd (fun k => k = b) w (w.setCell ⟨b, o, none⟩ v) := Upd.setCell (S := fun k => k = b) (Upd.refl _ w) (p := ⟨b, o, none⟩) (fun _ => rfl) v
    exact h1.trans (setCells_upd b r (o + 1) _) (fun _ _ h => h)
def putL (l : List Value) (o : Nat) : List Value → List Value
  | [] => l
  | v :: r => putL (l.set o v) (o + 1) r
theorem putL_eq : ∀ (vs l : List Value) (o : Nat), o + vs.length ≤ l.length → putL l o vs = l.take o ++ vs ++ l.drop (o + vs.length)
  | [], l, o, _ => by simp [putL]
  | v :: r, l, o, h => by
    simp at h
    rw [putL, putL_eq r (l.set o v) (o + 1) (by simp; omega)]
    have h1 : (l.set o v).take (o + 1) = l.take o ++ [v] := by
      rw [List.take_succ_eq_append_getElem (by simp; omega), List.getElem_set_self, List.take_set_of_le (Nat.le_refl _)]
    have h2 : (l.set o v).drop (o + 1 + r.length) = l.drop (o + (v :: r).length) := by
      rw [List.drop_set_of_lt (by omega)]
      congr 1
      simp; omega
    rw [h1, h2]
    simp
theorem setCells_blk {b : Nat} {e : TypeId} : ∀ (vs : List Value) (o : Nat) (l : List Value) (w : World), Blk w b l.toArray e → Blk (w.setCells b o vs) b (putL l o vs).toArray e
  | [], _, _, _, h => h
  | v :: r, o, l, w, h => by
    rw [World.setCells, putL]
    refine setCells_blk r (o + 1) _ _ ?_
    have := h.set o v
    rwa [List.setIfInBounds_toArray] at this
theorem Blk.there {w : World} {b : Nat} {l : List Value} {e : TypeId} (h : Blk w b l.toArray e) (o n : Nat) (hn : o + n ≤ l.length) : w.there b o n := fun j hj => by
  refine ⟨?_, h.frozen _⟩
  rw [h.cell (o + j) (v := l[o + j]) (by simp)]
  rfl
/-- A struct takes a block's place. -/
theorem wpList_stW {ops : Array Oper} {rest : List Oper} {op : Oper} {a : Act} {w : World} {Q : Exit → Act → World → Prop} (hgd : op.guard = none) (ty : TypeId) (x y : Operand) (ho : op.op = .store ty x y) (b : Nat) (l cs : List Value) (e : TypeId) (hB : Blk w b l.toArray e) (hx : a.eval x = .pointer (some ⟨b, 0, none⟩)) (hy : a.eval y = .agg cs.toArray) (hl : l.length = cs.length)
    (hi : (Tryd.prog.info? ty).map (·.size) = some cs.length) (h1 : ∀ v ∈ cs, v.oneCell' = true)
    (hK : ∀ w', Blk w' b cs.toArray e → Upd (fun k => k = b) w w' → wpList Tryd.prog ops Q rest (a.put op.dst undef) w') : wpList Tryd.prog ops Q (op :: rest) a w := by
  refine wpList_store_mid hgd ty x y ho b 0 cs.toArray hx hy (by simpa using hB.there 0 cs.length (by omega)) (by simpa using hi) (all_oneCell_toArray h1) ?_
  refine hK _ ?_ (setCells_upd _ _ _ _)
  have := setCells_blk cs 0 l w hB
  rw [putL_eq cs l 0 (by omega)] at this
  simp only [List.take_zero, List.nil_append, Nat.zero_add, ← hl, List.drop_length, List.append_nil] at this
  exact this
theorem flat_put (X : List Spot) (i : Nat) (hi : i < X.length) (y : Spot) : putL (X.flatMap enS) (i * 21) (enS y) = (X.set i y).flatMap enS := by
  have hs : X = X.take i ++ X[i] :: X.drop (i + 1) := by simp
  have hy : X.set i y = X.take i ++ y :: X.drop (i + 1) := List.set_eq_take_append_cons_drop.trans (by simp [hi])
  have hf : X.flatMap enS = (X.take i).flatMap enS ++ (enS X[i] ++ (X.drop (i + 1)).flatMap enS) := by
    conv => lhs; rw [hs]
    rw [List.flatMap_append, List.flatMap_cons]
  have hlen : ((X.take i).flatMap enS).length = i * 21 := by rw [flatS_len]; simp; omega
  rw [putL_eq _ _ _ (by rw [flatS_len, enS_len]; omega), hy, List.flatMap_append, List.flatMap_cons, hf]
  rw [List.take_append_of_le_length (by omega), List.take_of_length_le (by omega), enS_len]
  rw [show i * 21 + 21 = ((X.take i).flatMap enS).length + (enS X[i]).length by rw [hlen, enS_len], List.drop_append, List.drop_append]
  simp
theorem enS_one (s : Spot) : ∀ v ∈ enS s, v.oneCell' = true := by
  intro v hv
  unfold enS at hv
  simp only [List.mem_cons, List.not_mem_nil, or_false] at hv
  rcases hv with rfl | rfl | rfl | rfl | rfl | rfl | rfl | rfl | rfl | rfl | rfl | rfl | rfl | rfl | rfl | rfl | rfl | rfl | rfl | rfl | rfl
  all_goals rfl
def ndL (d : Nod) : List Value := [.int .u64 d.id, .int .u64 d.par, .int .i64 d.org, .int .u64 d.tree, .int .i64 d.dep, .int .i64 d.fr, .int .i64 d.til]
theorem ndL_one (d : Nod) : ∀ v ∈ ndL d, v.oneCell' = true := by
  intro v hv
  unfold ndL at hv
  simp only [List.mem_cons, List.not_mem_nil, or_false] at hv
  rcases hv with rfl | rfl | rfl | rfl | rfl | rfl | rfl <;> rfl
theorem spC_one (a : Sp) (p : Pl) : ∀ v ∈ (spC a p).toList, v.oneCell' = true := by
  intro v hv
  unfold spC at hv
  simp only [List.mem_cons, List.not_mem_nil, or_false] at hv
  rcases hv with rfl | rfl | rfl | rfl | rfl | rfl | rfl | rfl | rfl | rfl | rfl | rfl | rfl <;> rfl
def zNd : Nod := ⟨0, 0, 0, 0, 0, 0, 0⟩
/-- What is told of a span that is looked for. -/
def ToldS (X : List Spot) (id : Int) (Yes : Spot → Prop) (No : Prop) : Prop := (∃ k, ∃ h : k < X.length, X[k].nd.id = id ∧ Yes X[k]) ∨ ((∀ i (h : i < X.length), X[i].nd.id ≠ id) ∧ No)
end Go.Proofs.YtfgmjgoegdiieaaDoor

namespace Go.Proofs.YtfgmjgoegdiieaaDoor
open Go Go.RowKit
set_option maxRecDepth 100000

def zSpL : List Value := [.int .u64 0, .int .u64 0, .int .u64 0, .int .u64 0, .slice none 0 0, .string ⟨#[]⟩, .string ⟨#[]⟩, .int .i64 0, .int .i64 0, .int .i64 0, .int .i64 0, .slice none 0 0, .slice none 0 0]
theorem blk_loadS {w : World} {b : Nat} {cs : List Value} (hl : cs.length = 13) (h : Blk w b cs.toArray 52) : (loadVar 52 ⟨b, 0, none⟩).run Tryd.prog w = .ok (.agg cs.toArray) w :=
  run_loadVar_mid w b 0 52 cs _ (fun j v hv => by rw [Nat.zero_add]; exact h.cell j (by rw [List.getElem?_toArray]; exact hv)) Tryd.underlying52 rfl (by rw [hl]; kernel_rfl)
theorem span_cells {w : World} {b : Nat} (h : Blk w b zSpL.toArray 52) : w.cell? ⟨b, 0, none⟩ = some (.int .u64 0) ∧ w.cell? ⟨b, 1, none⟩ = some (.int .u64 0) ∧ w.cell? ⟨b, 2, none⟩ = some (.int .u64 0) ∧ w.cell? ⟨b, 3, none⟩ = some (.int .u64 0) ∧ w.cell? ⟨b, 4, none⟩ = some (.slice none 0 0) ∧ w.cell? ⟨b, 5, none⟩ = some (.string ⟨#[]⟩) ∧ w.cell? ⟨b, 6, none⟩ = some (.string ⟨#[]⟩) ∧ w.cell? ⟨b, 7, none⟩ = some (.int .i64 0) ∧ w.cell? ⟨b, 8, none⟩ = some (.int .i64 0) ∧ w.cell? ⟨b, 9, none⟩ = some (.int .i64 0) ∧ w.cell? ⟨b, 10, none⟩ = some (.int .i64 0) ∧ w.cell? ⟨b, 11, none⟩ = some (.slice none 0 0) ∧ w.cell? ⟨b, 12, none⟩ = some (.slice none 0 0) ∧ ∀ j, w.frozen? ⟨b, j, none⟩ = false :=
  ⟨h.cell 0 rfl, h.cell 1 rfl, h.cell 2 rfl, h.cell 3 rfl, h.cell 4 rfl, h.cell 5 rfl, h.cell 6 rfl, h.cell 7 rfl, h.cell 8 rfl, h.cell 9 rfl, h.cell 10 rfl, h.cell 11 rfl, h.cell 12 rfl, fun j => h.frozen j⟩
end Go.Proofs.YtfgmjgoegdiieaaDoor
