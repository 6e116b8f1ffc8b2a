/-
  SA.
-/
import Derived.Test.YtbefeobikjnlpaaGreatDoorRows
import Derived.WalkKit
import Derived.ProofKit
import Derived.OpenShut
import Derived.Test.YtbefeobikjnlpaaGreatDoorZmq
import Derived.Maps.OwnSet
import Derived.Maps.OwnOps
import Derived.Maps.Views
import Derived.Maps.RangeWalk
import Derived.DeepKeys4
namespace Go.Proofs.YtbefeobikjnlpaaGreatDoor
open Go.RowKit Go.Maps Go.WideMaps
set_option maxRecDepth 100000

abbrev Tc := Int × Int
abbrev Nm := Tc × Int
def u64J (x : Int) : Prop := 0 ≤ x ∧ x < 18446744073709551616
def TcOk (x : Tc) : Prop := u64J x.1 ∧ u64J x.2
def tcV (x : Tc) : Value := .agg #[.int .u64 x.1, .int .u64 x.2]
def tkey (x : Tc) : Lit := .string (keyBytes [.int .u64 x.1, .int .u64 x.2])
def ikey (i : Int) : Lit := .int .u64 i
theorem tc_laid : laidOutB Tryz.prog = true := by kernel_rfl
theorem tc_keyAt : Tryz.prog.keyTypeAt 3 56 = true := by kernel_rfl
theorem tc_lt : 56 < Tryz.prog.types.size := of_decide_eq_true (by kernel_rfl)
theorem lawT : Keyed Tryz.prog 56 := Keyed.of_law (deep_law_laid tc_laid (m := 3) (by omega) tc_lt tc_keyAt (by rw [Tryz.underlying56]))
theorem lawD : Keyed Tryz.prog 48 := int_keyed Tryz.underlying48
theorem tc_keyType : Tryz.prog.keyType 56 = true := by kernel_rfl
theorem tc_cells : Tryz.prog.cellsOf 56 = 2 := by kernel_rfl
theorem tc_cellsU : Tryz.prog.cellsOf 38 = 1 := by kernel_rfl
theorem tc_types : ∃ m, Tryz.prog.types.size = m + 1 := ⟨Tryz.prog.types.size - 1, by have := tc_lt; omega⟩
theorem key_t (x : Tc) (hx : TcOk x) : keyOf Tryz.prog 56 (tcV x) = some (tkey x) := by
  have w1 := WalkArith.wf_u64 (n := x.1) ⟨hx.1.1, by have := hx.1.2; omega⟩
  have w2 := WalkArith.wf_u64 (n := x.2) ⟨hx.2.1, by have := hx.2.2; omega⟩
  obtain ⟨m, hm⟩ := tc_types
  unfold keyOf tcV
  simp only [Tryz.underlying56]
  rw [if_pos (by simp [tc_keyType, Value.formed, Tryz.underlying56, tc_cells]), hm]
  unfold Program.keyLits
  simp only [Tryz.underlying56, Value.cells]
  rw [if_pos (by rw [tc_cells]; exact ⟨rfl, by kernel_rfl⟩)]
  simp [tc_cellsU, Program.keyLits, Tryz.underlying38, w1, w2, tkey]
theorem key_d (i : Int) (h : u64J i) : keyOf Tryz.prog 48 (.int .u64 i) = some (ikey i) := by
  have w1 := WalkArith.wf_u64 (n := i) ⟨h.1, by have := h.2; omega⟩
  simp [keyOf, Tryz.underlying48, mapKey, w1, ikey]
theorem tcV_inj {a b : Tc} (h : tcV a = tcV b) : a = b := by
  unfold tcV at h
  simp at h
  exact Prod.ext h.1 h.2
theorem tkey_inj {a b : Tc} (ha : TcOk a) (hb : TcOk b) (h : tkey a = tkey b) : a = b := by
  have h1 := key_t a ha
  rw [h] at h1
  exact tcV_inj (lawT.inj h1 (key_t b hb))
theorem ikey_inj {a b : Int} (h : ikey a = ikey b) : a = b := by
  unfold ikey at h
  simpa using h
def valR (v : Value) : Option (DataW Value × List MemPlace) := some (.held v, [])
theorem valR_mk (v : Value) : valR v = some (.held v, []) := rfl
/-- A map at block b that reads as D. -/
def ownM (w : World) (k : TypeId) (b : Nat) (D : DataW Value) : Prop := w.ownsMap Tryz.prog k valR b (Maps.size D) D
theorem own_tight {w : World} {k : TypeId} {b n : Nat} {D : DataW Value} (h : w.ownsMap Tryz.prog k valR b n D) : ownM w k b D := by
  obtain ⟨es, clock, hb, F, hs, rfl⟩ := h
  exact ⟨es, clock, hb, F, by simp [Maps.size, length_sorted], rfl⟩
theorem ownM.upd {S : Nat → Prop} {w w' : World} {k : TypeId} {b : Nat} {D : DataW Value} (h : ownM w k b D) (hu : Upd S w w') (hS : ¬ S b) : ownM w' k b D := by
  have hlt := World.ownsMap.lt h
  obtain ⟨es, clock, hb, F, hs, hD⟩ := h
  exact ⟨es, clock, (hu.block b hlt hS).trans hb, F, hs, hD⟩
theorem turned_updM {w w' : World} {b : Nat} (h : w.mapTurned w' b) : Upd (fun k => k = b) w w' := by
  have hg := h.grown
  exact ⟨hg.os, hg.tape, hg.output, hg.size, fun k hk hn => hg.block k hk (by simpa using hn)⟩
/-- A map's block is no row of cells. -/
theorem ownM.not {w : World} {k : TypeId} {b c : Nat} {D : DataW Value} {cs : Array Value} {t : TypeId} {r : Nat × Nat} (h : ownM w k b D) (hc : w.heap[c]? = some (.cells cs t r)) : b ≠ c := by
  rintro rfl
  obtain ⟨es, clock, hb, _⟩ := h
  rw [hb] at hc
  simp at hc
def lookE (E : List (Nm × Value)) (n : Nm) : Option Value := (E.find? (fun e => decide (e.1 = n))).map (·.2)
def cntE (E : List (Nm × Value)) (t : Tc) : Nat := (E.filter (fun e => decide (e.1.1 = t))).length
def setE (E : List (Nm × Value)) (n : Nm) (v : Value) : List (Nm × Value) := if (lookE E n).isSome = true then E.map (fun e => if e.1 = n then (n, v) else e) else E ++ [(n, v)]
theorem look_map (n n' : Nm) (v : Value) : ∀ E : List (Nm × Value), lookE (E.map (fun e => if e.1 = n then (n, v) else e)) n' = if n' = n ∧ (lookE E n).isSome = true then some v else lookE E n'
  | [] => by simp [lookE]
  | e :: r => by
    have ih := look_map n n' v r
    unfold lookE at ih ⊢
    by_cases h1 : e.1 = n
    · by_cases h2 : n' = n
      · subst h2; simp [h1]
      · have h3 : ¬ e.1 = n' := fun h => h2 (h.symm.trans h1)
        have h4 : ¬ n = n' := fun h => h2 h.symm
        simp [h1, h2, h4] at ih ⊢
        exact ih
    · by_cases h2 : e.1 = n'
      · have h3 : ¬ n' = n := fun h => h1 (h2.trans h)
        simp [h2, h3]
      · simp only [List.map_cons, if_neg h1, List.find?_cons, decide_eq_false h1, decide_eq_false h2]
        exact ih
theorem look_app (E : List (Nm × Value)) (n n' : Nm) (v : Value) (h : (lookE E n).isSome = false) : lookE (E ++ [(n, v)]) n' = if n' = n then some v else lookE E n' := by
  unfold lookE at h ⊢
  rw [List.find?_append]
  by_cases h2 : n' = n
  · subst h2
    simp at h
    rw [List.find?_eq_none.2 (by simpa using h)]
    simp
  · have h3 : ¬ n = n' := fun h => h2 h.symm
    simp [h2, h3]
theorem look_set (E : List (Nm × Value)) (n n' : Nm) (v : Value) : lookE (setE E n v) n' = if n' = n then some v else lookE E n' := by
  unfold setE
  split
  · rename_i h
    rw [look_map, h]
    simp
  · rename_i h
    exact look_app E n n' v (by simpa using h)
theorem cnt_set (E : List (Nm × Value)) (n : Nm) (v : Value) (t : Tc) : cntE (setE E n v) t = cntE E t + if (lookE E n).isSome = false ∧ n.1 = t then 1 else 0 := by
  unfold setE cntE
  split
  · rename_i h
    simp only [h, Bool.true_eq_false, false_and, if_false, Nat.add_zero]
    clear h
    induction E with
    | nil => rfl
    | cons e r ih =>
      by_cases h1 : e.1 = n
      · by_cases h2 : n.1 = t <;> simp [h1, h2, ih]
      · by_cases h2 : e.1.1 = t <;> simp [h1, h2, ih]
  · rename_i h
    have h' : (lookE E n).isSome = false := by simpa using h
    rw [List.filter_append]
    by_cases h2 : n.1 = t <;> simp [h', h2]
theorem cnt_le (E : List (Nm × Value)) (t : Tc) : cntE E t ≤ E.length := List.length_filter_le _ _
/-- A map of maps: of each trace of T a map, at block M of it; together they hold E. -/
structure Nest (w : World) (b : Nat) (M : Tc → Nat) (T : List Tc) (E : List (Nm × Value)) : Prop where
  outer : ∃ D, ownM w 56 b D ∧ (∀ t, TcOk t → Maps.has D (tkey t) = decide (t ∈ T)) ∧ (∀ t, t ∈ T → ∀ z, D.atKey (tkey t) z = .held (.map (some (M t)))) ∧ Maps.size D = T.length
  inner : ∀ t, t ∈ T → ∃ D, ownM w 48 (M t) D ∧ (∀ i, u64J i → Maps.has D (ikey i) = (lookE E (t, i)).isSome) ∧ (∀ i v, lookE E (t, i) = some v → ∀ z, D.atKey (ikey i) z = .held v) ∧ Maps.size D = cntE E t
  inj : ∀ t t', t ∈ T → t' ∈ T → M t = M t' → t = t'
  ne : ∀ t, t ∈ T → M t ≠ b
  ok : ∀ t, t ∈ T → TcOk t
  sub : ∀ n v, lookE E n = some v → n.1 ∈ T
theorem Nest.upd {S : Nat → Prop} {w w' : World} {b : Nat} {M : Tc → Nat} {T : List Tc} {E : List (Nm × Value)} (h : Nest w b M T E) (hu : Upd S w w') (hb : ¬ S b) (hM : ∀ t, t ∈ T → ¬ S (M t)) : Nest w' b M T E := by
  obtain ⟨D, h1, h2⟩ := h.outer
  refine ⟨⟨D, h1.upd hu hb, h2⟩, fun t ht => ?_, h.inj, h.ne, h.ok, h.sub⟩
  obtain ⟨D', h3, h4⟩ := h.inner t ht
  exact ⟨D', h3.upd hu (hM t ht), h4⟩
theorem Nest.lt {w : World} {b : Nat} {M : Tc → Nat} {T : List Tc} {E : List (Nm × Value)} (h : Nest w b M T E) : b < w.heap.size ∧ ∀ t, t ∈ T → M t < w.heap.size := by
  obtain ⟨D, h1, _⟩ := h.outer
  refine ⟨World.ownsMap.lt h1, fun t ht => ?_⟩
  obtain ⟨D', h3, _⟩ := h.inner t ht
  exact World.ownsMap.lt h3
theorem Nest.not {w : World} {b c : Nat} {M : Tc → Nat} {T : List Tc} {E : List (Nm × Value)} {cs : Array Value} {ty : TypeId} {r : Nat × Nat} (h : Nest w b M T E) (hc : w.heap[c]? = some (.cells cs ty r)) : b ≠ c ∧ ∀ t, t ∈ T → M t ≠ c := by
  obtain ⟨D, h1, _⟩ := h.outer
  refine ⟨h1.not hc, fun t ht => ?_⟩
  obtain ⟨D', h3, _⟩ := h.inner t ht
  exact h3.not hc
def inV (M : Tc → Nat) (T : List Tc) (t : Tc) : Value := if t ∈ T then .map (some (M t)) else .map none
theorem Nest.len {w : World} {b : Nat} {M : Tc → Nat} {T : List Tc} {E : List (Nm × Value)} (h : Nest w b M T E) {ty e : TypeId} (hty : Tryz.prog.underlying ty = some (.map 48 e)) (t : Tc) (r : TypeId) :
    (Builtin.len_ #[ty] r #[inV M T t]).run Tryz.prog w = .ok (.int .i64 (cntE E t)) w := by
  unfold inV
  by_cases hm : t ∈ T
  · rw [if_pos hm]
    obtain ⟨D, h1, h2, h3, h4⟩ := h.inner t hm
    rw [World.ownsMap.len h1 hty r, h4]
  · rw [if_neg hm, Maps.len_nil hty r]
    have : cntE E t = 0 := by
      unfold cntE
      rw [List.length_eq_zero_iff, List.filter_eq_nil_iff]
      intro e he hd
      simp at hd
      have hs : (lookE E e.1).isSome = true := by
        unfold lookE
        simp
        exact ⟨e.2, he⟩
      obtain ⟨u, hu⟩ := Option.isSome_iff_exists.1 hs
      exact hm (hd ▸ h.sub _ _ hu)
    rw [this]; rfl
/-- A new trace. -/
theorem Nest.add {w : World} {b : Nat} {M : Tc → Nat} {T : List Tc} {E : List (Nm × Value)} (h : Nest w b M T E) {ty e : TypeId} (hty : Tryz.prog.underlying ty = some (.map 56 e)) (t : Tc) (ht : TcOk t) (hn : t ∉ T) (hl : T.length < maxLen) :
    ∃ w', (Instr.mapUpdate ty (.map (some b)) (tcV t) (.map (some w.heap.size))).run Tryz.prog ((w.alloc (.map #[] 0)).drew) = .ok () w' ∧ Nest w' b (fun x => if x = t then w.heap.size else M x) (T ++ [t]) E ∧ Upd (fun k => k = b) w w' ∧ w'.heap.size = w.heap.size + 1 := by
  have hlt := h.lt
  have h0 : Nest ((w.alloc (.map #[] 0)).drew) b M T E := h.upd (S := fun _ => False) ((Upd.refl _ w).alloc _).drew (fun h => h) (fun _ _ h => h)
  have hnew : ownM ((w.alloc (.map #[] 0)).drew) 48 w.heap.size (.map []) := World.ownsMap_made w Tryz.prog 48 valR
  obtain ⟨D, h1, h2, h3, h4⟩ := h0.outer
  obtain ⟨w', hr, o1, t1⟩ := World.ownsMap.store h1 lawT hty (by rw [h4]; exact hl) (key_t t ht) (valR_mk (.map (some w.heap.size)))
  have hu := turned_updM t1
  have hne : w.heap.size ≠ b := by have := hlt.1; omega
  refine ⟨w', hr, ⟨⟨_, own_tight o1, fun x hx => ?_, fun x hx z => ?_, ?_⟩, fun x hx => ?_, fun x y hx hy e => ?_, fun x hx => ?_, fun x hx => ?_, fun n v hv => ?_⟩, ?_, ?_⟩
  · by_cases hxt : x = t
    · subst hxt
      rw [has_put_same (World.ownsMap.isMap h1) (lawT.key (key_t _ hx))]; simp
    · rw [has_put_other (fun e => hxt (tkey_inj hx ht e)), h2 x hx]; simp [hxt]
  · by_cases hxt : x = t
    · subst hxt
      rw [atKey_put_same (World.ownsMap.isMap h1) (lawT.key (key_t _ ht)), if_pos rfl]
    · have hx' : x ∈ T := by simpa [hxt] using hx
      rw [atKey_put_other (fun e => hxt (tkey_inj (h.ok x hx') ht e)), h3 x hx', if_neg hxt]
  · rw [size_put (World.ownsMap.tidy h1 lawT), h2 t ht, h4]
    simp [hn]
  · by_cases hxt : x = t
    · subst hxt
      simp only [if_true]
      have hc : cntE E x = 0 := by
        unfold cntE
        rw [List.length_eq_zero_iff, List.filter_eq_nil_iff]
        intro e he hd
        simp at hd
        have hs : (lookE E e.1).isSome = true := by
          unfold lookE
          simp
          exact ⟨e.2, he⟩
        obtain ⟨u, hu⟩ := Option.isSome_iff_exists.1 hs
        exact hn (hd ▸ h.sub _ _ hu)
      have hno : ∀ i, lookE E (x, i) = none := fun i => by
        cases hl : lookE E (x, i) with
        | none => rfl
        | some u => exact absurd (h.sub _ _ hl) hn
      exact ⟨_, hnew.upd hu hne, fun i _ => by rw [hno]; rfl, fun i v hv => (by rw [hno] at hv; simp at hv), by rw [hc]; rfl⟩
    · have hx' : x ∈ T := by simpa [hxt] using hx
      simp only [if_neg hxt]
      obtain ⟨D', h5, h6⟩ := h0.inner x hx'
      exact ⟨D', h5.upd hu (h.ne x hx'), h6⟩
  · by_cases hxt : x = t
    · by_cases hyt : y = t
      · rw [hxt, hyt]
      · have hy' : y ∈ T := by simpa [hyt] using hy
        simp only [if_pos hxt, if_neg hyt] at e
        have := hlt.2 y hy'
        omega
    · have hx' : x ∈ T := by simpa [hxt] using hx
      by_cases hyt : y = t
      · simp only [if_neg hxt, if_pos hyt] at e
        have := hlt.2 x hx'
        omega
      · have hy' : y ∈ T := by simpa [hyt] using hy
        simp only [if_neg hxt, if_neg hyt] at e
        exact h.inj x y hx' hy' e
  · by_cases hxt : x = t
    · simp only [if_pos hxt]; exact hne
    · simp only [if_neg hxt]; exact h.ne x (by simpa [hxt] using hx)
  · by_cases hxt : x = t
    · exact hxt ▸ ht
    · exact h.ok x (by simpa [hxt] using hx)
  · exact List.mem_append_left _ (h.sub n v hv)
  · exact (((Upd.refl _ w).alloc _).drew).trans hu (fun _ _ h => h)
  · obtain ⟨es, ck, es', ck', _, rfl⟩ := t1
    simp [ChangeMaps.setBlock]
/-- A value at a name of a trace that is there. -/
theorem Nest.set {w : World} {b : Nat} {M : Tc → Nat} {T : List Tc} {E : List (Nm × Value)} (h : Nest w b M T E) {ty e : TypeId} (hty : Tryz.prog.underlying ty = some (.map 48 e)) (t : Tc) (i : Int) (hi : u64J i) (hm : t ∈ T) (v : Value) (hl : E.length < maxLen) :
    ∃ w', (Instr.mapUpdate ty (.map (some (M t))) (.int .u64 i) v).run Tryz.prog w = .ok () w' ∧ Nest w' b M T (setE E (t, i) v) ∧ Upd (fun k => k = M t) w w' ∧ w'.heap.size = w.heap.size := by
  obtain ⟨D, h1, h2, h3, h4⟩ := h.inner t hm
  obtain ⟨w', hr, o1, t1⟩ := World.ownsMap.store h1 lawD hty (by rw [h4]; exact Nat.lt_of_le_of_lt (cnt_le E t) hl) (key_d i hi) (valR_mk v)
  have hu := turned_updM t1
  refine ⟨w', hr, ⟨?_, fun x hx => ?_, h.inj, h.ne, h.ok, fun n u hv => ?_⟩, hu, ?_⟩
  · obtain ⟨D', h5, h6⟩ := h.outer
    exact ⟨D', h5.upd hu (fun e => h.ne t hm e.symm), h6⟩
  · by_cases hxt : x = t
    · subst hxt
      refine ⟨_, own_tight o1, fun j hj => ?_, fun j u hu' z => ?_, ?_⟩
      · rw [look_set]
        by_cases hji : j = i
        · subst hji
          rw [has_put_same (World.ownsMap.isMap h1) (lawD.key (key_d _ hj))]; simp
        · rw [has_put_other (fun e => hji (ikey_inj e)), h2 j hj]
          simp [hji]
      · rw [look_set] at hu'
        by_cases hji : j = i
        · subst hji
          simp at hu'
          rw [atKey_put_same (World.ownsMap.isMap h1) (lawD.key (key_d _ hi)), hu']
        · simp [hji] at hu'
          rw [atKey_put_other (fun e => hji (ikey_inj e)), h3 j u hu']
      · rw [size_put (World.ownsMap.tidy h1 lawD), h2 i hi, h4, cnt_set]
        cases (lookE E (x, i)).isSome <;> simp
    · obtain ⟨D', h5, h6, h7, h8⟩ := h.inner x hx
      have hlk : ∀ j, lookE (setE E (t, i) v) (x, j) = lookE E (x, j) := fun j => by rw [look_set]; simp [hxt]
      refine ⟨D', h5.upd hu (fun e => hxt (h.inj x t hx hm e)), fun j hj => by rw [hlk]; exact h6 j hj, fun j u hu' => h7 j u (by rw [← hlk]; exact hu'), ?_⟩
      rw [h8, cnt_set]
      have : ¬ t = x := fun e => hxt e.symm
      simp [this]
  · rw [look_set] at hv
    by_cases hn : n = (t, i)
    · rw [hn]; exact hm
    · simp [hn] at hv
      exact h.sub n u hv
  · obtain ⟨es, ck, es', ck', _, rfl⟩ := t1
    simp [ChangeMaps.setBlock]
/-- Nothing in it. -/
theorem Nest.made (w : World) : Nest (w.alloc (.map #[] 0)) w.heap.size (fun _ => 0) [] [] :=
  ⟨⟨.map [], World.ownsMap_made w Tryz.prog 56 valR, fun t _ => rfl, fun t ht => by simp at ht, rfl⟩, fun t ht => by simp at ht, fun t t' ht => by simp at ht, fun t ht => by simp at ht, fun t ht => by simp at ht, fun n v hv => by simp [lookE] at hv⟩
end Go.Proofs.YtbefeobikjnlpaaGreatDoor
