/-
  SaS.
-/
import Derived.Test.YtpcfchbiohbcoaaDoorSaQq
import Derived.Test.YtpcfchbiohbcoaaDoorSaTq
import Derived.Laws.CopyRow
import Derived.Lib.AppendZerosOnto
import Derived.Lib.Overlaps
namespace Go.Proofs.YtpcfchbiohbcoaaDoor
open Go Go.RowKit
set_option maxRecDepth 100000

/-- A copy into a row, from a place in it on. -/
theorem run_copyO {P : Program} (w : World) (dT sT ty elem : TypeId) (g o dLen dCap : Nat) (a : Addr) (n sCap m s : Nat) (cur : Array Value) (t : TypeId) (cs : List Value)
    (hu : P.underlying dT = some (.slice elem)) (hs : (P.info? elem).map (·.size) = some s) (hg : w.heap[g]? = some (.cells cur t (0, 0))) (hm : min n dLen = m) (hn : cs.length = m * s)
    (hsrc : ∀ j v, cs[j]? = some v → w.cell? (a.add j) = some v) (hfit : o + cs.length ≤ cur.size) (h1 : ∀ v ∈ cs, v.oneCell' = true) :
    (Builtin.copy_ #[dT, sT] ty #[.slice (some ⟨g, o, none⟩) dLen dCap, .slice (some a) n sCap]).run P w = .ok (goInt m) (w.setRow g (cur.toList.take o ++ cs ++ cur.toList.drop (o + cs.length)).toArray) := by
  have hl := run_loadCells_list (P := P) w a cs hsrc
  have hst := run_storeCells_at P g o t cs 0 cur w hg (by simpa using hfit) h1
  simp only [Nat.add_zero] at hst
  cases hq : P.info? elem with
  | none => simp [hq] at hs
  | some i =>
    have hi : i.size = s := by simpa [hq] using hs
    simp [Builtin.copy_, run_underlying hu, Builtin.lenOf, Builtin.firstCells, sizeOf, typeInfo, hq, hi, hm, ← hn, hl, hst]
theorem trC_len (a : Tr) : (trC a).length = 2 := rfl
theorem trC_one (a : Tr) : ∀ v ∈ trC a, v.oneCell' = true := by
  intro v hv
  simp only [trC, List.mem_cons, List.not_mem_nil, or_false] at hv
  rcases hv with rfl | rfl <;> rfl
theorem trF_len : ∀ l : List Tr, (l.flatMap trC).length = l.length * 2
  | [] => rfl
  | c :: l => by rw [List.flatMap_cons, List.length_append, trF_len l, trC_len, List.length_cons]; omega
theorem trF_one (l : List Tr) : ∀ v ∈ l.flatMap trC, v.oneCell' = true := by
  intro v hv
  obtain ⟨c, _, hc⟩ := List.mem_flatMap.1 hv
  exact trC_one c v hc
theorem trF_take (T : List Tr) (i : Nat) : (T.flatMap trC).take (i * 2) = (T.take i).flatMap trC := by
  induction T generalizing i with
  | nil => simp
  | cons a T ih =>
    cases i with
    | zero => simp
    | succ i =>
      rw [List.take_succ_cons, List.flatMap_cons, List.flatMap_cons, show (i + 1) * 2 = (trC a).length + i * 2 by rw [trC_len]; omega, List.take_length_add_append, ih]
theorem trF_drop (T : List Tr) (i : Nat) : (T.flatMap trC).drop (i * 2) = (T.drop i).flatMap trC := by
  induction T generalizing i with
  | nil => simp
  | cons a T ih =>
    cases i with
    | zero => simp
    | succ i =>
      rw [List.drop_succ_cons, List.flatMap_cons, show (i + 1) * 2 = (trC a).length + i * 2 by rw [trC_len]; omega, List.drop_length_add_append, ih]
/-- Traces in a row of one's own. -/
def OwnTr (base : Nat) (w : World) (v : Value) (T : List Tr) : Prop := w.ownsRow base 33 2 v T.length (T.flatMap trC)
theorem infoTr : (Tryd.prog.info? 33).map (fun i => (i.zero, i.size, i.bytes)) = some (some (.agg #[.int .u64 0, .int .u64 0]), 2, 16) := by kernel_rfl
theorem src_tr (b c : Nat) (t : Tr) (w : World) (hb : Blk w b #[.int .u64 (bvI t.1), .int .u64 (bvI t.2)] 33) : Src Tryd.prog 2 38 (.slice (some ⟨b, 0, none⟩) 1 c) 1 (trC t) w := by
  refine Src.ofSlice _ Tryd.underlying38 ⟨b, 0, none⟩ 1 c _ rfl ?_ (trC_one t)
  intro j u hj
  rw [Addr.add_lit, Nat.zero_add]
  match j, hj with
  | 0, hj => exact (hb.cell 0 rfl).trans hj
  | 1, hj => exact (hb.cell 1 rfl).trans hj
  | j + 2, hj => simp [trC] at hj
theorem ownB {ao : Option Addr} {n c k : Nat} (h : (Value.slice ao n c).ownBlock = some k) : ∃ a, ao = some a ∧ a.block = k := by
  cases ao with
  | none => cases h
  | some a => exact ⟨a, rfl, Option.some.inj h⟩
/-- A row lies where it lay, or in new memory. -/
def MovB (ao : Option Addr) (w : World) (v' : Value) : Prop := ∀ k, v'.ownBlock = some k → (∃ a, ao = some a ∧ a.block = k) ∨ w.heap.size ≤ k
/-- Behind the last one. -/
theorem insEnd_any (ao : Option Addr) (n c b base : Nat) (T : List Tr) (t : Tr) (w : World) (hO : OwnTr base w (.slice ao n c) T) (hn : n ≤ 1000) (hb : Blk w b #[.int .u64 (bvI t.1), .int .u64 (bvI t.2)] 33) (hbase : base ≤ w.heap.size) :
    Calls Tryd.prog 48 #[.slice ao n c, .int .i64 n, .slice (some ⟨b, 0, none⟩) 1 1] w fun e w' => ∃ v', e = .returned v' ∧ OwnTr base w' v' (T ++ [t]) ∧ MovB ao w v' ∧ Upd (fun k => ∃ a, ao = some a ∧ a.block = k) w w' := by
  have hc := own_cap hO
  have hl : T.length = n := hc.1.symm
  have hn0 : (0 : Int) ≤ (n : Int) := by omega
  have hc2 : (n : Int) ≤ (c : Int) := by omega
  obtain ⟨i0, hi0, hz0, hz1, hz2⟩ := info_parts infoTr
  have hS := src_tr b 1 t w hb
  have hO' : w.ownsRow base 33 2 (.slice ao n c) n (T.flatMap trC) := by unfold OwnTr at hO; rw [hl] at hO; exact hO
  clear hO hb hc
  go_enter Tryd.func48, Tryd.ntmps48
  go_wp2_with (at_builtin; refine wpList_appW w rfl (.tmp 23) (.tmp 24) 38 38 rfl base 33 i0 _ 2 16 Tryd.underlying38 hi0 hz0 hz1 hz2 rfl _ n (T.flatMap trC) rfl hO' _ 1 (trC t) rfl hS (by unfold maxLen; omega) (by omega) hbase ?_; intro v1 w1 o1 g1 m1)
  all_goals go_ret
  all_goals
    have HM : MovB ao w v1 := fun k hk => by
      rcases m1 with m | ⟨g, m, hg⟩
      · exact Or.inl (ownB (ao := ao) (n := n) (c := c) (m.symm.trans hk))
      · exact Or.inr (Option.some.inj (m.symm.trans hk) ▸ hg)
  all_goals refine ⟨v1, rfl, ?_, HM, (Upd.refl _ w).grown g1 (fun k _ e => ownB (ao := ao) (n := n) (c := c) e)⟩
  all_goals unfold OwnTr
  all_goals rw [List.length_append, List.flatMap_append, hl]
  all_goals simpa using o1
end Go.Proofs.YtpcfchbiohbcoaaDoor
