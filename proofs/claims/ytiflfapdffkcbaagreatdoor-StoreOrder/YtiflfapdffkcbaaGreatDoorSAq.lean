/-
  Merged: SA, SB.
-/
import Derived.Test.YtiflfapdffkcbaaGreatDoorRows
import Derived.WalkKit
import Derived.ProofKit
import Derived.OpenShut
import Derived.Test.YtiflfapdffkcbaaGreatDoorZmq
import Derived.Maps.OwnSet
import Derived.Maps.OwnOps
import Derived.Maps.Views
import Derived.Maps.RangeWalk
import Derived.DeepKeys4
import Derived.Test.YtiflfapdffkcbaaGreatDoorSOq
import Derived.Test.YtiflfapdffkcbaaGreatDoorZjq
import Derived.Test.YtiflfapdffkcbaaGreatDoorZqq
import Derived.Test.YtiflfapdffkcbaaGreatDoorYcq
namespace Go.Proofs.YtiflfapdffkcbaaGreatDoor
open Go.RowKit Go.Maps Go.WideMaps
set_option maxRecDepth 100000

abbrev Tc := Int × Int
abbrev Nm := Tc × Int
def u64J (x : Int) : Prop := 0 ≤ x ∧ x < 18446744073709551616
def TcOk (x : Tc) : Prop := u64J x.1 ∧ u64J x.2
def NmOk (x : Nm) : Prop := TcOk x.1 ∧ u64J x.2
def tcV (x : Tc) : Value := .agg #[.int .u64 x.1, .int .u64 x.2]
def tkey (x : Tc) : Lit := .string (keyBytes [.int .u64 x.1, .int .u64 x.2])
def ikey (i : Int) : Lit := .int .u64 i
theorem tc_laid : laidOutB Tryz.prog = true := by kernel_rfl
theorem tc_keyAt : Tryz.prog.keyTypeAt 3 33 = true := by kernel_rfl
theorem tc_lt : 33 < Tryz.prog.types.size := of_decide_eq_true (by kernel_rfl)
theorem lawT : Keyed Tryz.prog 33 := Keyed.of_law (deep_law_laid tc_laid (m := 3) (by omega) tc_lt tc_keyAt (by rw [Tryz.underlying33]))
theorem lawD : Keyed Tryz.prog 34 := int_keyed Tryz.underlying34
theorem tc_keyType : Tryz.prog.keyType 33 = true := by kernel_rfl
theorem tc_cells : Tryz.prog.cellsOf 33 = 2 := by kernel_rfl
theorem tc_cellsU : Tryz.prog.cellsOf 31 = 1 := by kernel_rfl
theorem tc_types : ∃ m, Tryz.prog.types.size = m + 1 := ⟨Tryz.prog.types.size - 1, by have := tc_lt; omega⟩
theorem key_t (x : Tc) (hx : TcOk x) : keyOf Tryz.prog 33 (tcV x) = some (tkey x) := by
  have w1 := WalkArith.wf_u64 (n := x.1) ⟨hx.1.1, by have := hx.1.2; omega⟩
  have w2 := WalkArith.wf_u64 (n := x.2) ⟨hx.2.1, by have := hx.2.2; omega⟩
  obtain ⟨m, hm⟩ := tc_types
  unfold keyOf tcV
  simp only [Tryz.underlying33]
  rw [if_pos (by simp [tc_keyType, Value.formed, Tryz.underlying33, tc_cells]), hm]
  unfold Program.keyLits
  simp only [Tryz.underlying33, Value.cells]
  rw [if_pos (by rw [tc_cells]; exact ⟨rfl, by kernel_rfl⟩)]
  simp [tc_cellsU, Program.keyLits, Tryz.underlying31, w1, w2, tkey]
theorem key_d (i : Int) (h : u64J i) : keyOf Tryz.prog 34 (.int .u64 i) = some (ikey i) := by
  have w1 := WalkArith.wf_u64 (n := i) ⟨h.1, by have := h.2; omega⟩
  simp [keyOf, Tryz.underlying34, mapKey, w1, ikey]
theorem tcV_inj {a b : Tc} (h : tcV a = tcV b) : a = b := by
  unfold tcV at h
  simp at h
  exact Prod.ext h.1 h.2
theorem tkey_inj {a b : Tc} (ha : TcOk a) (hb : TcOk b) (h : tkey a = tkey b) : a = b := by
  have h1 := key_t a ha
  rw [h] at h1
  exact tcV_inj (lawT.inj h1 (key_t b hb))
theorem ikey_inj {a b : Int} (h : ikey a = ikey b) : a = b := by
  unfold ikey at h
  simpa using h
theorem wf_back {n : Int} (h : (Lit.int .u64 n).wf = true) : u64J n := by
  simp [Lit.wf, IntKind.min, IntKind.max, IntKind.signed, IntKind.bits] at h
  unfold u64J
  omega
theorem lits_u {m : Nat} {cs : List Value} {l : List Lit} (h : Tryz.prog.keyLits (m + 1) 31 cs = some l) : ∃ n, cs = [.int .u64 n] ∧ u64J n ∧ l = [.int .u64 n] := by
  unfold Program.keyLits at h
  simp only [Tryz.underlying31] at h
  split at h <;> simp_all
  rename_i hq
  obtain ⟨⟨_, hw⟩, rfl⟩ := h
  subst hq
  exact wf_back hw
theorem key_t_inv {v : Value} {kl : Lit} (h : keyOf Tryz.prog 33 v = some kl) : ∃ x, v = tcV x ∧ TcOk x ∧ kl = tkey x := by
  obtain ⟨m, hm⟩ := tc_types
  unfold keyOf at h
  simp only [Tryz.underlying33] at h
  split at h
  · rename_i hf
    rw [hm] at h
    unfold Program.keyLits at h
    simp only [Tryz.underlying33] at h
    split at h
    · rename_i hc
      have hl := hc.1
      rw [tc_cells] at hl
      simp [tc_cellsU] at h
      cases h1 : Tryz.prog.keyLits (m + 1) 31 (List.take 1 v.cells.toList) with
      | none => rw [h1] at h; simp at h
      | some l1 =>
        rw [h1] at h
        cases h2 : Tryz.prog.keyLits (m + 1) 31 (List.take 1 v.cells.toList.tail) with
        | none => rw [h2] at h; simp at h
        | some l2 =>
          rw [h2] at h
          obtain ⟨n1, e1, o1, rfl⟩ := lits_u h1
          obtain ⟨n2, e2, o2, rfl⟩ := lits_u h2
          simp at h
          cases v <;> simp [Value.formed, Tryz.underlying33] at hf
          rename_i cs
          refine ⟨(n1, n2), ?_, ⟨o1, o2⟩, h.symm⟩
          simp only [Value.cells] at e1 e2 hl
          have hcs : cs.toList = [.int .u64 n1, .int .u64 n2] := by
            generalize cs.toList = L at *
            match L, hl with
            | [x, y], _ => simp at e1 e2; rw [e1, e2]
          unfold tcV
          congr 1
          exact Array.toList_inj.1 hcs
    · simp at h
  · simp at h
def valR (v : Value) : Option (DataW Value × List MemPlace) := some (.held v, [])
theorem valR_mk (v : Value) : valR v = some (.held v, []) := rfl
theorem valR_inv {v u : Value} {ps : List MemPlace} (h : valR v = some (.held u, ps)) : v = u := by
  unfold valR at h
  simp at h
  exact h.1
/-- A map at block b that reads as D. -/
def ownM (w : World) (k : TypeId) (b : Nat) (D : DataW Value) : Prop := w.ownsMap Tryz.prog k valR b (Maps.size D) D
theorem own_tight {w : World} {k : TypeId} {b n : Nat} {D : DataW Value} (h : w.ownsMap Tryz.prog k valR b n D) : ownM w k b D := by
  obtain ⟨es, clock, hb, F, hs, rfl⟩ := h
  exact ⟨es, clock, hb, F, by simp [Maps.size, length_sorted], rfl⟩
theorem ownM.upd {S : Nat → Prop} {w w' : World} {k : TypeId} {b : Nat} {D : DataW Value} (h : ownM w k b D) (hu : Upd S w w') (hS : ¬ S b) : ownM w' k b D := by
  have hlt := World.ownsMap.lt h
  obtain ⟨es, clock, hb, F, hs, hD⟩ := h
  exact ⟨es, clock, (hu.block b hlt hS).trans hb, F, hs, hD⟩
theorem turned_updM {w w' : World} {b : Nat} (h : w.mapTurned w' b) : Upd (fun k => k = b) w w' := by
  have hg := h.grown
  exact ⟨hg.os, hg.tape, hg.output, hg.size, fun k hk hn => hg.block k hk (by simpa using hn)⟩
/-- A map's block is no row of cells. -/
theorem ownM.not {w : World} {k : TypeId} {b c : Nat} {D : DataW Value} {cs : Array Value} {t : TypeId} {r : Nat × Nat} (h : ownM w k b D) (hc : w.heap[c]? = some (.cells cs t r)) : b ≠ c := by
  rintro rfl
  obtain ⟨es, clock, hb, _⟩ := h
  rw [hb] at hc
  simp at hc
def lookE (E : List (Nm × Value)) (n : Nm) : Option Value := (E.find? (fun e => decide (e.1 = n))).map (·.2)
def cntE (E : List (Nm × Value)) (t : Tc) : Nat := (E.filter (fun e => decide (e.1.1 = t))).length
def setE (E : List (Nm × Value)) (n : Nm) (v : Value) : List (Nm × Value) := if (lookE E n).isSome = true then E.map (fun e => if e.1 = n then (n, v) else e) else E ++ [(n, v)]
theorem look_map (n n' : Nm) (v : Value) : ∀ E : List (Nm × Value), lookE (E.map (fun e => if e.1 = n then (n, v) else e)) n' = if n' = n ∧ (lookE E n).isSome = true then some v else lookE E n'
  | [] => by simp [lookE]
  | e :: r => by
    have ih := look_map n n' v r
    unfold lookE at ih ⊢
    by_cases h1 : e.1 = n
    · by_cases h2 : n' = n
      · subst h2; simp [h1]
      · have h3 : ¬ e.1 = n' := fun h => h2 (h.symm.trans h1)
        have h4 : ¬ n = n' := fun h => h2 h.symm
        simp [h1, h2, h4] at ih ⊢
        exact ih
    · by_cases h2 : e.1 = n'
      · have h3 : ¬ n' = n := fun h => h1 (h2.trans h)
        simp [h2, h3]
      · simp only [List.map_cons, if_neg h1, List.find?_cons, decide_eq_false h1, decide_eq_false h2]
        exact ih
theorem look_app (E : List (Nm × Value)) (n n' : Nm) (v : Value) (h : (lookE E n).isSome = false) : lookE (E ++ [(n, v)]) n' = if n' = n then some v else lookE E n' := by
  unfold lookE at h ⊢
  rw [List.find?_append]
  by_cases h2 : n' = n
  · subst h2
    simp at h
    rw [List.find?_eq_none.2 (by simpa using h)]
    simp
  · have h3 : ¬ n = n' := fun h => h2 h.symm
    simp [h2, h3]
theorem look_set (E : List (Nm × Value)) (n n' : Nm) (v : Value) : lookE (setE E n v) n' = if n' = n then some v else lookE E n' := by
  unfold setE
  split
  · rename_i h
    rw [look_map, h]
    simp
  · rename_i h
    exact look_app E n n' v (by simpa using h)
theorem cnt_set (E : List (Nm × Value)) (n : Nm) (v : Value) (t : Tc) : cntE (setE E n v) t = cntE E t + if (lookE E n).isSome = false ∧ n.1 = t then 1 else 0 := by
  unfold setE cntE
  split
  · rename_i h
    simp only [h, Bool.true_eq_false, false_and, if_false, Nat.add_zero]
    clear h
    induction E with
    | nil => rfl
    | cons e r ih =>
      by_cases h1 : e.1 = n
      · by_cases h2 : n.1 = t <;> simp [h1, h2, ih]
      · by_cases h2 : e.1.1 = t <;> simp [h1, h2, ih]
  · rename_i h
    have h' : (lookE E n).isSome = false := by simpa using h
    rw [List.filter_append]
    by_cases h2 : n.1 = t <;> simp [h', h2]
theorem len_set (E : List (Nm × Value)) (n : Nm) (v : Value) : (setE E n v).length = E.length + if (lookE E n).isSome = false then 1 else 0 := by
  unfold setE
  split
  · rename_i h; simp [h]
  · rename_i h
    have h' : (lookE E n).isSome = false := by simpa using h
    simp [h']
theorem cnt_le (E : List (Nm × Value)) (t : Tc) : cntE E t ≤ E.length := List.length_filter_le _ _
/-- A map of maps: of each trace of T a map, at block M of it; together they hold E. -/
structure Nest (w : World) (b : Nat) (M : Tc → Nat) (T : List Tc) (E : List (Nm × Value)) : Prop where
  outer : ∃ D, ownM w 33 b D ∧ (∀ t, TcOk t → Maps.has D (tkey t) = decide (t ∈ T)) ∧ (∀ t, t ∈ T → ∀ z, D.atKey (tkey t) z = .held (.map (some (M t)))) ∧ Maps.size D = T.length
  inner : ∀ t, t ∈ T → ∃ D, ownM w 34 (M t) D ∧ (∀ i, u64J i → Maps.has D (ikey i) = (lookE E (t, i)).isSome) ∧ (∀ i v, lookE E (t, i) = some v → ∀ z, D.atKey (ikey i) z = .held v) ∧ Maps.size D = cntE E t
  inj : ∀ t t', t ∈ T → t' ∈ T → M t = M t' → t = t'
  ne : ∀ t, t ∈ T → M t ≠ b
  ok : ∀ t, t ∈ T → TcOk t
  sub : ∀ n v, lookE E n = some v → n.1 ∈ T
theorem Nest.upd {S : Nat → Prop} {w w' : World} {b : Nat} {M : Tc → Nat} {T : List Tc} {E : List (Nm × Value)} (h : Nest w b M T E) (hu : Upd S w w') (hb : ¬ S b) (hM : ∀ t, t ∈ T → ¬ S (M t)) : Nest w' b M T E := by
  obtain ⟨D, h1, h2⟩ := h.outer
  refine ⟨⟨D, h1.upd hu hb, h2⟩, fun t ht => ?_, h.inj, h.ne, h.ok, h.sub⟩
  obtain ⟨D', h3, h4⟩ := h.inner t ht
  exact ⟨D', h3.upd hu (hM t ht), h4⟩
theorem Nest.lt {w : World} {b : Nat} {M : Tc → Nat} {T : List Tc} {E : List (Nm × Value)} (h : Nest w b M T E) : b < w.heap.size ∧ ∀ t, t ∈ T → M t < w.heap.size := by
  obtain ⟨D, h1, _⟩ := h.outer
  refine ⟨World.ownsMap.lt h1, fun t ht => ?_⟩
  obtain ⟨D', h3, _⟩ := h.inner t ht
  exact World.ownsMap.lt h3
theorem Nest.not {w : World} {b c : Nat} {M : Tc → Nat} {T : List Tc} {E : List (Nm × Value)} {cs : Array Value} {ty : TypeId} {r : Nat × Nat} (h : Nest w b M T E) (hc : w.heap[c]? = some (.cells cs ty r)) : b ≠ c ∧ ∀ t, t ∈ T → M t ≠ c := by
  obtain ⟨D, h1, _⟩ := h.outer
  refine ⟨h1.not hc, fun t ht => ?_⟩
  obtain ⟨D', h3, _⟩ := h.inner t ht
  exact h3.not hc
def inV (M : Tc → Nat) (T : List Tc) (t : Tc) : Value := if t ∈ T then .map (some (M t)) else .map none
theorem Nest.look {w : World} {b : Nat} {M : Tc → Nat} {T : List Tc} {E : List (Nm × Value)} (h : Nest w b M T E) {ty e : TypeId} (hty : Tryz.prog.underlying ty = some (.map 33 e)) (hz : (zeroValue e).run Tryz.prog w = .ok (.map none) w) (t : Tc) (ht : TcOk t) :
    (Instr.lookup ty (.map (some b)) (tcV t) false).run Tryz.prog w = .ok (inV M T t) w := by
  obtain ⟨D, h1, h2, h3, h4⟩ := h.outer
  obtain ⟨v, ps, hr, hv⟩ := World.ownsMap.lookup h1 lawT hty hz (valR_mk _) (key_t t ht)
  rw [hr]
  unfold inV
  by_cases hm : t ∈ T
  · rw [h3 t hm] at hv
    rw [if_pos hm, valR_inv hv]
  · rw [atKey_of_not_has (by rw [h2 t ht]; simpa using hm)] at hv
    rw [if_neg hm, valR_inv hv]
theorem Nest.look2 {w : World} {b : Nat} {M : Tc → Nat} {T : List Tc} {E : List (Nm × Value)} (h : Nest w b M T E) {ty e : TypeId} (hty : Tryz.prog.underlying ty = some (.map 34 e)) {z : Value} (hz : (zeroValue e).run Tryz.prog w = .ok z w) (t : Tc) (i : Int) (hi : u64J i) :
    (Instr.lookup ty (inV M T t) (.int .u64 i) true).run Tryz.prog w = .ok (.tuple #[(lookE E (t, i)).getD z, .bool (lookE E (t, i)).isSome]) w := by
  unfold inV
  by_cases hm : t ∈ T
  · rw [if_pos hm]
    obtain ⟨D, h1, h2, h3, h4⟩ := h.inner t hm
    obtain ⟨v, ps, hr, hv⟩ := World.ownsMap.look_ok h1 lawD hty hz (valR_mk _) (key_d i hi)
    rw [hr, h2 i hi]
    cases hl : lookE E (t, i) with
    | none =>
      rw [atKey_of_not_has (by rw [h2 i hi, hl]; rfl)] at hv
      rw [valR_inv hv]; rfl
    | some u =>
      rw [h3 i u hl] at hv
      rw [valR_inv hv]; rfl
  · rw [if_neg hm, Maps.look_nil true lawD hty hz (key_d i hi)]
    cases hl : lookE E (t, i) with
    | none => rfl
    | some u => exact absurd (h.sub _ _ hl) hm
theorem Nest.len {w : World} {b : Nat} {M : Tc → Nat} {T : List Tc} {E : List (Nm × Value)} (h : Nest w b M T E) {ty e : TypeId} (hty : Tryz.prog.underlying ty = some (.map 34 e)) (t : Tc) (r : TypeId) :
    (Builtin.len_ #[ty] r #[inV M T t]).run Tryz.prog w = .ok (.int .i64 (cntE E t)) w := by
  unfold inV
  by_cases hm : t ∈ T
  · rw [if_pos hm]
    obtain ⟨D, h1, h2, h3, h4⟩ := h.inner t hm
    rw [World.ownsMap.len h1 hty r, h4]
  · rw [if_neg hm, Maps.len_nil hty r]
    have : cntE E t = 0 := by
      unfold cntE
      rw [List.length_eq_zero_iff, List.filter_eq_nil_iff]
      intro e he hd
      simp at hd
      have hs : (lookE E e.1).isSome = true := by
        unfold lookE
        simp
        exact ⟨e.2, he⟩
      obtain ⟨u, hu⟩ := Option.isSome_iff_exists.1 hs
      exact hm (hd ▸ h.sub _ _ hu)
    rw [this]; rfl
/-- A new trace. -/
theorem Nest.add {w : World} {b : Nat} {M : Tc → Nat} {T : List Tc} {E : List (Nm × Value)} (h : Nest w b M T E) {ty e : TypeId} (hty : Tryz.prog.underlying ty = some (.map 33 e)) (t : Tc) (ht : TcOk t) (hn : t ∉ T) (hl : T.length < maxLen) :
    ∃ w', (Instr.mapUpdate ty (.map (some b)) (tcV t) (.map (some w.heap.size))).run Tryz.prog ((w.alloc (.map #[] 0)).drew) = .ok () w' ∧ Nest w' b (fun x => if x = t then w.heap.size else M x) (T ++ [t]) E ∧ Upd (fun k => k = b) w w' ∧ w'.heap.size = w.heap.size + 1 := by
  have hlt := h.lt
  have h0 : Nest ((w.alloc (.map #[] 0)).drew) b M T E := h.upd (S := fun _ => False) ((Upd.refl _ w).alloc _).drew (fun h => h) (fun _ _ h => h)
  have hnew : ownM ((w.alloc (.map #[] 0)).drew) 34 w.heap.size (.map []) := World.ownsMap_made w Tryz.prog 34 valR
  obtain ⟨D, h1, h2, h3, h4⟩ := h0.outer
  obtain ⟨w', hr, o1, t1⟩ := World.ownsMap.store h1 lawT hty (by rw [h4]; exact hl) (key_t t ht) (valR_mk (.map (some w.heap.size)))
  have hu := turned_updM t1
  have hne : w.heap.size ≠ b := by have := hlt.1; omega
  refine ⟨w', hr, ⟨⟨_, own_tight o1, fun x hx => ?_, fun x hx z => ?_, ?_⟩, fun x hx => ?_, fun x y hx hy e => ?_, fun x hx => ?_, fun x hx => ?_, fun n v hv => ?_⟩, ?_, ?_⟩
  · by_cases hxt : x = t
    · subst hxt
      rw [has_put_same (World.ownsMap.isMap h1) (lawT.key (key_t _ hx))]; simp
    · rw [has_put_other (fun e => hxt (tkey_inj hx ht e)), h2 x hx]; simp [hxt]
  · by_cases hxt : x = t
    · subst hxt
      rw [atKey_put_same (World.ownsMap.isMap h1) (lawT.key (key_t _ ht)), if_pos rfl]
    · have hx' : x ∈ T := by simpa [hxt] using hx
      rw [atKey_put_other (fun e => hxt (tkey_inj (h.ok x hx') ht e)), h3 x hx', if_neg hxt]
  · rw [size_put (World.ownsMap.tidy h1 lawT), h2 t ht, h4]
    simp [hn]
  · by_cases hxt : x = t
    · subst hxt
      simp only [if_true]
      have hc : cntE E x = 0 := by
        unfold cntE
        rw [List.length_eq_zero_iff, List.filter_eq_nil_iff]
        intro e he hd
        simp at hd
        have hs : (lookE E e.1).isSome = true := by
          unfold lookE
          simp
          exact ⟨e.2, he⟩
        obtain ⟨u, hu⟩ := Option.isSome_iff_exists.1 hs
        exact hn (hd ▸ h.sub _ _ hu)
      have hno : ∀ i, lookE E (x, i) = none := fun i => by
        cases hl : lookE E (x, i) with
        | none => rfl
        | some u => exact absurd (h.sub _ _ hl) hn
      exact ⟨_, hnew.upd hu hne, fun i _ => by rw [hno]; rfl, fun i v hv => (by rw [hno] at hv; simp at hv), by rw [hc]; rfl⟩
    · have hx' : x ∈ T := by simpa [hxt] using hx
      simp only [if_neg hxt]
      obtain ⟨D', h5, h6⟩ := h0.inner x hx'
      exact ⟨D', h5.upd hu (h.ne x hx'), h6⟩
  · by_cases hxt : x = t
    · by_cases hyt : y = t
      · rw [hxt, hyt]
      · have hy' : y ∈ T := by simpa [hyt] using hy
        simp only [if_pos hxt, if_neg hyt] at e
        have := hlt.2 y hy'
        omega
    · have hx' : x ∈ T := by simpa [hxt] using hx
      by_cases hyt : y = t
      · simp only [if_neg hxt, if_pos hyt] at e
        have := hlt.2 x hx'
        omega
      · have hy' : y ∈ T := by simpa [hyt] using hy
        simp only [if_neg hxt, if_neg hyt] at e
        exact h.inj x y hx' hy' e
  · by_cases hxt : x = t
    · simp only [if_pos hxt]; exact hne
    · simp only [if_neg hxt]; exact h.ne x (by simpa [hxt] using hx)
  · by_cases hxt : x = t
    · exact hxt ▸ ht
    · exact h.ok x (by simpa [hxt] using hx)
  · exact List.mem_append_left _ (h.sub n v hv)
  · exact (((Upd.refl _ w).alloc _).drew).trans hu (fun _ _ h => h)
  · obtain ⟨es, ck, es', ck', _, rfl⟩ := t1
    simp [ChangeMaps.setBlock]
/-- A value at a name of a trace that is there. -/
theorem Nest.set {w : World} {b : Nat} {M : Tc → Nat} {T : List Tc} {E : List (Nm × Value)} (h : Nest w b M T E) {ty e : TypeId} (hty : Tryz.prog.underlying ty = some (.map 34 e)) (t : Tc) (i : Int) (hi : u64J i) (hm : t ∈ T) (v : Value) (hl : E.length < maxLen) :
    ∃ w', (Instr.mapUpdate ty (.map (some (M t))) (.int .u64 i) v).run Tryz.prog w = .ok () w' ∧ Nest w' b M T (setE E (t, i) v) ∧ Upd (fun k => k = M t) w w' ∧ w'.heap.size = w.heap.size := by
  obtain ⟨D, h1, h2, h3, h4⟩ := h.inner t hm
  obtain ⟨w', hr, o1, t1⟩ := World.ownsMap.store h1 lawD hty (by rw [h4]; exact Nat.lt_of_le_of_lt (cnt_le E t) hl) (key_d i hi) (valR_mk v)
  have hu := turned_updM t1
  refine ⟨w', hr, ⟨?_, fun x hx => ?_, h.inj, h.ne, h.ok, fun n u hv => ?_⟩, hu, ?_⟩
  · obtain ⟨D', h5, h6⟩ := h.outer
    exact ⟨D', h5.upd hu (fun e => h.ne t hm e.symm), h6⟩
  · by_cases hxt : x = t
    · subst hxt
      refine ⟨_, own_tight o1, fun j hj => ?_, fun j u hu' z => ?_, ?_⟩
      · rw [look_set]
        by_cases hji : j = i
        · subst hji
          rw [has_put_same (World.ownsMap.isMap h1) (lawD.key (key_d _ hj))]; simp
        · rw [has_put_other (fun e => hji (ikey_inj e)), h2 j hj]
          simp [hji]
      · rw [look_set] at hu'
        by_cases hji : j = i
        · subst hji
          simp at hu'
          rw [atKey_put_same (World.ownsMap.isMap h1) (lawD.key (key_d _ hi)), hu']
        · simp [hji] at hu'
          rw [atKey_put_other (fun e => hji (ikey_inj e)), h3 j u hu']
      · rw [size_put (World.ownsMap.tidy h1 lawD), h2 i hi, h4, cnt_set]
        cases (lookE E (x, i)).isSome <;> simp
    · obtain ⟨D', h5, h6, h7, h8⟩ := h.inner x hx
      have hlk : ∀ j, lookE (setE E (t, i) v) (x, j) = lookE E (x, j) := fun j => by rw [look_set]; simp [hxt]
      refine ⟨D', h5.upd hu (fun e => hxt (h.inj x t hx hm e)), fun j hj => by rw [hlk]; exact h6 j hj, fun j u hu' => h7 j u (by rw [← hlk]; exact hu'), ?_⟩
      rw [h8, cnt_set]
      have : ¬ t = x := fun e => hxt e.symm
      simp [this]
  · rw [look_set] at hv
    by_cases hn : n = (t, i)
    · rw [hn]; exact hm
    · simp [hn] at hv
      exact h.sub n u hv
  · obtain ⟨es, ck, es', ck', _, rfl⟩ := t1
    simp [ChangeMaps.setBlock]
/-- Nothing in it. -/
theorem Nest.made (w : World) : Nest (w.alloc (.map #[] 0)) w.heap.size (fun _ => 0) [] [] :=
  ⟨⟨.map [], World.ownsMap_made w Tryz.prog 33 valR, fun t _ => rfl, fun t ht => by simp at ht, rfl⟩, fun t ht => by simp at ht, fun t t' ht => by simp at ht, fun t ht => by simp at ht, fun t ht => by simp at ht, fun n v hv => by simp [lookE] at hv⟩
end Go.Proofs.YtiflfapdffkcbaaGreatDoor

namespace Go.Proofs.YtiflfapdffkcbaaGreatDoor
open Go.RowKit Go.Maps Go.WideMaps
set_option maxRecDepth 100000

def nmS (a : Sp) : Nm := ((a.hi, a.lo), a.id)
theorem nmS_ok {a : Sp} (h : a.Fits) : NmOk (nmS a) := ⟨⟨h.hi, h.lo⟩, h.id⟩
/-- A span in a store: where its lists lie, within which blocks. -/
structure It where
  a : Sp
  p : Pl
  lo : Nat
  hi : Nat
def findX (X : List It) (n : Nm) : Option It := X.find? (fun x => decide (nmS x.a = n))
def entE (X : List It) : List (Nm × Value) := X.map (fun x => (nmS x.a, spV x.a x.p))
theorem look_ent (n : Nm) : ∀ X : List It, lookE (entE X) n = (findX X n).map (fun x => spV x.a x.p)
  | [] => rfl
  | x :: r => by
    have ih := look_ent n r
    unfold lookE findX entE at ih ⊢
    by_cases h : nmS x.a = n
    · simp [h]
    · simp [h] at ih ⊢
      exact ih
theorem find_mem {X : List It} {n : Nm} {y : It} (h : findX X n = some y) : y ∈ X ∧ nmS y.a = n :=
  ⟨List.mem_of_find?_eq_some h, by simpa using List.find?_some h⟩
/-- The blocks that a store writes. -/
def FT (s b : Nat) (M : Tc → Nat) (T : List Tc) (k : Nat) : Prop := k = s ∨ k = b ∨ ∃ t, t ∈ T ∧ M t = k
structure ItOk (w : World) (x : It) : Prop where
  le : x.hi ≤ w.heap.size
  stays : ∀ w5 : World, (∀ k, x.lo ≤ k → k < x.hi → w5.heap[k]? = w.heap[k]?) → SpAt w5 x.a x.p
  fits : x.a.Fits
  small : x.a.Small
  chk : chkS x.a = 0
theorem ItOk.at {w : World} {x : It} (h : ItOk w x) : SpAt w x.a x.p := h.stays w (fun _ _ _ => rfl)
theorem ItOk.upd {S : Nat → Prop} {w w' : World} {x : It} (h : ItOk w x) (hu : Upd S w w') (hS : ∀ k, x.lo ≤ k → k < x.hi → ¬ S k) : ItOk w' x :=
  ⟨Nat.le_trans h.le hu.size, fun w5 h5 => h.stays w5 (fun k h1 h2 => (h5 k h1 h2).trans (hu.block k (Nat.lt_of_lt_of_le h2 h.le) (hS k h1 h2))), h.fits, h.small, h.chk⟩
/-- What a store holds. -/
structure Body (w : World) (s b : Nat) (M : Tc → Nat) (T : List Tc) (X : List It) : Prop where
  nest : Nest w b M T (entE X)
  each : ∀ x, x ∈ X → ItOk w x
  apart : ∀ x, x ∈ X → ∀ k, FT s b M T k → ¬ (x.lo ≤ k ∧ k < x.hi)
  nodup : (X.map (fun x => nmS x.a)).Nodup
  full : ∀ t, t ∈ T → ∃ x, x ∈ X ∧ (nmS x.a).1 = t
  tl : T.length ≤ X.length
/-- A store. -/
structure StoreAt (w : World) (s b : Nat) (M : Tc → Nat) (T : List Tc) (X : List It) : Prop extends Body w s b M T X where
  block : w.heap[s]? = some (.cells #[.map (some b), .int .i64 (X.length : Int)] 55 (0, 0))
theorem Body.upd {S : Nat → Prop} {w w' : World} {s b : Nat} {M : Tc → Nat} {T : List Tc} {X : List It} (h : Body w s b M T X) (hu : Upd S w w') (h1 : ∀ k, k ≠ s → FT s b M T k → ¬ S k) (h0 : ∀ t, t ∈ T → M t ≠ s) (hb : b ≠ s) (h2 : ∀ x, x ∈ X → ∀ k, x.lo ≤ k → k < x.hi → ¬ S k) : Body w' s b M T X :=
  ⟨h.nest.upd hu (h1 b hb (Or.inr (Or.inl rfl))) (fun t ht => h1 _ (h0 t ht) (Or.inr (Or.inr ⟨t, ht, rfl⟩))), fun x hx => (h.each x hx).upd hu (h2 x hx), h.apart, h.nodup, h.full, h.tl⟩
theorem StoreAt.upd {S : Nat → Prop} {w w' : World} {s b : Nat} {M : Tc → Nat} {T : List Tc} {X : List It} (h : StoreAt w s b M T X) (hu : Upd S w w') (h1 : ∀ k, FT s b M T k → ¬ S k) (h2 : ∀ x, x ∈ X → ∀ k, x.lo ≤ k → k < x.hi → ¬ S k) : StoreAt w' s b M T X :=
  ⟨⟨h.nest.upd hu (h1 b (Or.inr (Or.inl rfl))) (fun t ht => h1 _ (Or.inr (Or.inr ⟨t, ht, rfl⟩))), fun x hx => (h.each x hx).upd hu (h2 x hx), h.apart, h.nodup, h.full, h.tl⟩, (hu.block s (lt_of_block h.block) (h1 s (Or.inl rfl))).trans h.block⟩
theorem StoreAt.below {w w' : World} {s b : Nat} {M : Tc → Nat} {T : List Tc} {X : List It} (h : StoreAt w s b M T X) (hb : Below w.heap.size w w') : StoreAt w' s b M T X :=
  h.upd (S := fun _ => False) (Upd.ofBelow hb (fun k h1 h2 => by omega)) (fun _ _ h => h) (fun _ _ _ _ _ h => h)
theorem StoreAt.ft_lt {w : World} {s b : Nat} {M : Tc → Nat} {T : List Tc} {X : List It} (h : StoreAt w s b M T X) {k : Nat} (hk : FT s b M T k) : k < w.heap.size := by
  rcases hk with rfl | rfl | ⟨t, ht, rfl⟩
  · exact lt_of_block h.block
  · exact h.nest.lt.1
  · exact h.nest.lt.2 t ht
theorem zT (w : World) : (zeroValue 61).run Tryz.prog w = .ok (.map none) w := by kernel_rfl
def zC : Array Value := #[.int .u64 0, .int .u64 0, .int .u64 0, .int .u64 0, .slice none 0 0, .string ⟨#[]⟩, .string ⟨#[]⟩, .int .i64 0, .int .i64 0, .int .i64 0, .int .i64 0, .slice none 0 0, .slice none 0 0]
def zSp : Value := .agg zC
theorem zS (w : World) : (zeroValue 41).run Tryz.prog w = .ok zSp w := by kernel_rfl
theorem eqT (mb : Nat) (W : World) : (binOp BinOp.eql 61 (Value.map (some mb)) (Value.map none)).run Tryz.prog W = .ok (.bool false) W := rfl
theorem eqT0 (W : World) : (binOp BinOp.eql 61 (Value.map none) (Value.map none)).run Tryz.prog W = .ok (.bool true) W := rfl
theorem eqU (mb : Nat) (W : World) : (binOp BinOp.eql 94 (Value.map (some mb)) (Value.map none)).run Tryz.prog W = .ok (.bool false) W := rfl
theorem eqU0 (W : World) : (binOp BinOp.eql 94 (Value.map none) (Value.map none)).run Tryz.prog W = .ok (.bool true) W := rfl
theorem in_of_find {w : World} {s b : Nat} {M : Tc → Nat} {T : List Tc} {X : List It} (h : StoreAt w s b M T X) {n : Nm} {y : It} (hy : findX X n = some y) : n.1 ∈ T :=
  h.nest.sub n (spV y.a y.p) (by rw [look_ent, hy]; rfl)
/-- A boxed span, cell by cell. -/
structure Boxed (W : World) (g : Nat) (a : Sp) (p : Pl) : Prop where
  c0 : W.cell? ⟨g, 0, none⟩ = some (.int .u64 a.hi)
  c1 : W.cell? ⟨g, 1, none⟩ = some (.int .u64 a.lo)
  c2 : W.cell? ⟨g, 2, none⟩ = some (.int .u64 a.id)
  c3 : W.cell? ⟨g, 3, none⟩ = some (.int .u64 a.par)
  c4 : W.cell? ⟨g, 4, none⟩ = some (.slice p.la a.links.length p.lc)
  c5 : W.cell? ⟨g, 5, none⟩ = some (.string a.svc)
  c6 : W.cell? ⟨g, 6, none⟩ = some (.string a.op)
  c7 : W.cell? ⟨g, 7, none⟩ = some (.int .i64 a.kind)
  c8 : W.cell? ⟨g, 8, none⟩ = some (.int .i64 a.status)
  c9 : W.cell? ⟨g, 9, none⟩ = some (.int .i64 a.start)
  c10 : W.cell? ⟨g, 10, none⟩ = some (.int .i64 a.fin)
  c11 : W.cell? ⟨g, 11, none⟩ = some (.slice p.aa a.attrs.length p.ac)
  c12 : W.cell? ⟨g, 12, none⟩ = some (.slice p.ea a.events.length p.ec)
theorem boxed_of {W : World} {g : Nat} {a : Sp} {p : Pl} (h : W.heap[g]? = some (.cells (spC a p) 41 (0, 0))) : Boxed W g a p :=
  ⟨blk_cell h 0 rfl, blk_cell h 1 rfl, blk_cell h 2 rfl, blk_cell h 3 rfl, blk_cell h 4 rfl, blk_cell h 5 rfl, blk_cell h 6 rfl, blk_cell h 7 rfl, blk_cell h 8 rfl, blk_cell h 9 rfl, blk_cell h 10 rfl, blk_cell h 11 rfl, blk_cell h 12 rfl⟩
theorem belowN {B : Nat} {a b : World} (h : Below B a b) (m : Nat) : Below B a (b.drewN m) := ⟨h.os, h.tape, h.output, h.size, h.block⟩
def setX (X : List It) (z : It) : List It := if (findX X (nmS z.a)).isSome = true then X.map (fun x => if nmS x.a = nmS z.a then z else x) else X ++ [z]
theorem ent_set (X : List It) (z : It) : entE (setX X z) = setE (entE X) (nmS z.a) (spV z.a z.p) := by
  unfold setX setE
  rw [look_ent]
  cases h : findX X (nmS z.a) with
  | none => simp [entE]
  | some y =>
    simp only [Option.map, Option.isSome, if_true, entE, List.map_map]
    refine List.map_congr_left fun x _ => ?_
    by_cases hx : nmS x.a = nmS z.a <;> simp [hx]
theorem mem_set {X : List It} {z x : It} (h : x ∈ setX X z) : x = z ∨ x ∈ X := by
  unfold setX at h
  split at h
  · obtain ⟨y, hy, rfl⟩ := List.mem_map.1 h
    by_cases hx : nmS y.a = nmS z.a
    · rw [if_pos hx]; exact Or.inl rfl
    · rw [if_neg hx]; exact Or.inr hy
  · rcases List.mem_append.1 h with h | h
    · exact Or.inr h
    · exact Or.inl (by simpa using h)
theorem find_none {X : List It} {n : Nm} (h : findX X n = none) : ∀ x ∈ X, nmS x.a ≠ n := by
  intro x hx
  have := List.find?_eq_none.1 h x hx
  simpa using this
theorem names_set (X : List It) (z : It) : (setX X z).map (fun x => nmS x.a) = if (findX X (nmS z.a)).isSome = true then X.map (fun x => nmS x.a) else X.map (fun x => nmS x.a) ++ [nmS z.a] := by
  unfold setX
  split
  · rw [List.map_map]
    refine List.map_congr_left fun x _ => ?_
    by_cases hx : nmS x.a = nmS z.a <;> simp [hx]
  · simp
theorem set_kept {X : List It} {z x : It} (h : x ∈ X) : ∃ y, y ∈ setX X z ∧ nmS y.a = nmS x.a := by
  have : nmS x.a ∈ (setX X z).map (fun x => nmS x.a) := by
    rw [names_set]
    have hx : nmS x.a ∈ X.map (fun x => nmS x.a) := List.mem_map.2 ⟨x, h, rfl⟩
    split
    · exact hx
    · exact List.mem_append_left _ hx
  obtain ⟨y, hy, e⟩ := List.mem_map.1 this
  exact ⟨y, hy, e⟩
theorem set_has (X : List It) (z : It) : ∃ y, y ∈ setX X z ∧ nmS y.a = nmS z.a := by
  have : nmS z.a ∈ (setX X z).map (fun x => nmS x.a) := by
    rw [names_set]
    split
    · rename_i h
      obtain ⟨y, hy⟩ := Option.isSome_iff_exists.1 h
      exact List.mem_map.2 ⟨y, (find_mem hy).1, (find_mem hy).2⟩
    · simp
  obtain ⟨y, hy, e⟩ := List.mem_map.1 this
  exact ⟨y, hy, e⟩
theorem set_nodup {X : List It} (z : It) (h : (X.map (fun x => nmS x.a)).Nodup) : ((setX X z).map (fun x => nmS x.a)).Nodup := by
  rw [names_set]
  split
  · exact h
  · rename_i hn
    have hn' : findX X (nmS z.a) = none := by simpa using hn
    rw [List.nodup_append]
    refine ⟨h, by simp, fun a ha b hb => ?_⟩
    obtain ⟨x, hx, rfl⟩ := List.mem_map.1 ha
    simp at hb
    subst hb
    exact find_none hn' x hx
theorem set_len (X : List It) (z : It) : (setX X z).length = if (findX X (nmS z.a)).isSome = true then X.length else X.length + 1 := by
  unfold setX
  split <;> simp
/-- A span put in, at a trace that is there. -/
theorem body_set {w : World} {s b : Nat} {M : Tc → Nat} {T : List Tc} {X : List It} (hN : Nest w b M T (entE X)) (each : ∀ x, x ∈ X → ItOk w x) (apart : ∀ x, x ∈ X → ∀ k, FT s b M T k → ¬ (x.lo ≤ k ∧ k < x.hi)) (nodup : (X.map (fun x => nmS x.a)).Nodup)
    (z : It) (full : ∀ t, t ∈ T → t = (nmS z.a).1 ∨ ∃ x, x ∈ X ∧ (nmS x.a).1 = t) (hz : ItOk w z) (hzap : ∀ k, FT s b M T k → ¬ (z.lo ≤ k ∧ k < z.hi)) (hin : (nmS z.a).1 ∈ T) (hl : X.length < maxLen) (hTl : T.length ≤ (setX X z).length) :
    ∃ w', (Instr.mapUpdate 61 (.map (some (M (nmS z.a).1))) (.int .u64 (nmS z.a).2) (spV z.a z.p)).run Tryz.prog w = .ok () w' ∧ Body w' s b M T (setX X z) ∧ Upd (fun k => k = M (nmS z.a).1) w w' ∧ w'.heap.size = w.heap.size := by
  obtain ⟨w', hr, n', u, hs⟩ := hN.set Tryz.underlying61 (nmS z.a).1 (nmS z.a).2 (nmS_ok hz.fits).2 hin (spV z.a z.p) (by simpa [entE] using hl)
  refine ⟨w', hr, ⟨?_, fun x hx => ?_, fun x hx => ?_, set_nodup z nodup, fun t ht => ?_, hTl⟩, u, hs⟩
  · rw [ent_set]; exact n'
  · rcases mem_set hx with rfl | hx
    · exact hz.upd u (fun k h1 h2 e => hzap k (Or.inr (Or.inr ⟨_, hin, e.symm⟩)) ⟨h1, h2⟩)
    · exact (each x hx).upd u (fun k h1 h2 e => apart x hx k (Or.inr (Or.inr ⟨_, hin, e.symm⟩)) ⟨h1, h2⟩)
  · rcases mem_set hx with rfl | hx
    · exact hzap
    · exact apart x hx
  · rcases full t ht with rfl | ⟨x, hx, rfl⟩
    · obtain ⟨y, hy, e⟩ := set_has X z
      exact ⟨y, hy, by rw [e]⟩
    · obtain ⟨y, hy, e⟩ := set_kept (z := z) hx
      exact ⟨y, hy, by rw [e]⟩
end Go.Proofs.YtiflfapdffkcbaaGreatDoor
