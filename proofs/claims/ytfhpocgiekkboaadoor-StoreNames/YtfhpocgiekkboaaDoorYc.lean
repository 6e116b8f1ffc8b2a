/-
  Contracts: copied, Clone (written by gen_zcl.py).
-/
import Derived.Test.YtfhpocgiekkboaaDoorZy
import Derived.Lib.SliceRun
namespace Go.Proofs.YtfhpocgiekkboaaDoor
open Go.Shelf Go.RowKit
set_option maxRecDepth 100000

theorem flat_len {α : Type} (f : α → List Value) (m : Nat) (hf : ∀ a, (f a).length = m) : ∀ X : List α, (X.flatMap f).length = X.length * m := by
  intro X
  induction X with
  | nil => simp
  | cons a r ih => simp only [List.flatMap_cons, List.length_append, List.length_cons, hf, ih, Nat.succ_mul]; omega
theorem flat_at {α : Type} (f : α → List Value) (m : Nat) (hf : ∀ a, (f a).length = m) : ∀ (X : List α) (j : Nat) (v : Value), (X.flatMap f)[j]? = some v → ∃ (i k : Nat) (hi : i < X.length), ∃ (_ : k < m), j = i * m + k ∧ some v = (f X[i])[k]? := by
  intro X
  induction X with
  | nil => intro j v h; simp at h
  | cons a r ih =>
    intro j v h
    simp only [List.flatMap_cons] at h
    by_cases hj : j < m
    · rw [List.getElem?_append_left (by rw [hf]; exact hj)] at h
      exact ⟨0, j, by simp, hj, by simp, by simpa using h.symm⟩
    · rw [List.getElem?_append_right (by rw [hf]; omega), hf] at h
      obtain ⟨i, k, hi, hk, e, hv⟩ := ih (j - m) v h
      exact ⟨i + 1, k, by simpa using hi, hk, by rw [Nat.succ_mul]; omega, by simpa using hv⟩
theorem run_copyW {P : Program} (w : World) (dT sT ty elem : TypeId) (g n dCap : Nat) (a : Addr) (sCap s : Nat) (cur : Array Value) (t : TypeId) (cs : List Value)
    (hu : P.underlying dT = some (.slice elem)) (hs : (P.info? elem).map (·.size) = some s)
    (hg : w.heap[g]? = some (.cells cur t (0, 0))) (hn : cs.length = n * s)
    (hsrc : ∀ j v, cs[j]? = some v → w.cell? (a.add j) = some v) (hfit : cs.length = cur.size) (h1 : ∀ v ∈ cs, v.oneCell' = true) :
    (Builtin.copy_ #[dT, sT] ty #[.slice (some ⟨g, 0, none⟩) n dCap, .slice (some a) n sCap]).run P w = .ok (goInt n) (w.setRow g cs.toArray) := by
  have hst := run_storeCells_at P g 0 t cs 0 cur w hg (by omega) h1
  cases hq : P.info? elem with
  | none => simp [hq] at hs
  | some i =>
    have hi : i.size = s := by simpa [hq] using hs
    have hl := run_firstCells_some (P := P) w i.size n a n sCap cs (by rw [hi]; omega) hsrc
    have e : (cur.toList.take 0 ++ cs ++ cur.toList.drop (0 + cs.length)).toArray = cs.toArray := by
      rw [List.drop_of_length_le (by simp; omega)]; simp
    rw [e] at hst
    simp [Builtin.copy_, run_underlying hu, Builtin.lenOf, sizeOf, typeInfo, hq, hl, hst]
theorem wpList_copyW {P : Program} {w : World} {ops : Array Oper} {rest : List Oper} {o : Oper} {a : Act} {Q : Exit → Act → World → Prop} (hgd : o.guard = none) (d s : Operand) (dT sT : TypeId)
    (ho : o.op = .call { callee := .builtin .copy, args := #[d, s], argTypes := #[dT, sT] }) (elem : TypeId) (hu : P.underlying dT = some (.slice elem)) (size : Nat) (hsz : (P.info? elem).map (·.size) = some size)
    (g n dCap : Nat) (ad : Addr) (sCap : Nat) (hd : a.eval d = .slice (some ⟨g, 0, none⟩) n dCap) (hs : a.eval s = .slice (some ad) n sCap)
    (cur : Array Value) (t : TypeId) (hg : w.heap[g]? = some (.cells cur t (0, 0))) (cs : List Value) (hn : cs.length = n * size)
    (hsrc : ∀ j v, cs[j]? = some v → w.cell? (ad.add j) = some v) (hfit : cs.length = cur.size) (h1 : ∀ v ∈ cs, v.oneCell' = true)
    (h : wpList P ops Q rest (a.put o.dst (goInt n)) (w.setRow g cs.toArray)) : wpList P ops Q (o :: rest) a w := by
  refine wpList_plain hgd fun K hK => ?_
  have hrun := run_copyW (P := P) w dT sT o.type elem g n dCap ad sCap size cur t cs hu hsz hg hn hsrc hfit h1
  unfold Oper.wp
  simp [execOp, ho, resolve, invoke, builtin, hd, hs, hrun, Result.andThen]
  exact hK _ _ h

set_option maxHeartbeats 400000 in
theorem copied_links (ad : Option Addr) (n cap : Nat) (X : List Int) (w : World) (h : HoldsV w ad n (intsV .u64 X)) (hn : n ≤ 1000) :
    Calls Tryd.prog 17 #[.slice ad n cap] w fun e w' => ∃ ad' c', e = .returned (.slice ad' n c') ∧ (∀ w5, (∀ k, w.heap.size ≤ k → k < w'.heap.size → w5.heap[k]? = w'.heap[k]?) → HoldsV w5 ad' n (intsV .u64 X)) ∧ Below w.heap.size w w' := by
  obtain ⟨i0, hi, hz0, hz1, hz2⟩ := info_parts Tryd.info32
  have hsz : (Tryd.prog.info? 32).map (·.size) = some 1 := by rw [hi]; simp [hz1]
  have hl : X.length = n := by simpa [intsV] using h.len
  have hnil : ∀ W, (binOp .eql 33 (.slice ad n cap) (.slice none 0 0)).run Tryd.prog W = .ok (.bool ad.isNone) W := fun W => Lib.run_eql_slice_nil W _ _ ad n cap 0 0 Tryd.underlying33
  cases ad with
  | none =>
    have hX : X = [] := by
      cases X with
      | nil => rfl
      | cons x r => exfalso; obtain ⟨a, ha, _⟩ := h.cells 0 (.int .u64 x) (by simp [intsV]); simp at ha
    subst hX
    have hn0 : n = 0 := by simpa using hl.symm
    subst hn0
    go_enter Tryd.func17, Tryd.ntmps17
    go_wp2
    go_ret
    exact ⟨none, _, rfl, fun w5 _ => HoldsV.nil w5, Below.refl _ _⟩
  | some a =>
    obtain ⟨cs, hcs⟩ : ∃ cs, intsV .u64 X = cs := ⟨_, rfl⟩
    have hcl : cs.length = n * 1 := by rw [← hcs]; simpa [intsV] using hl
    have hone : ∀ u ∈ cs, u.oneCell' = true := by rw [← hcs]; exact ints_oneCell _ _
    have hsrc : ∀ j v, cs[j]? = some v → w.cell? (a.add j) = some v := by
      rw [← hcs]; intro j v hj; obtain ⟨a', ha, hc⟩ := h.cells j v hj; simp at ha; subst ha; exact hc
    have HC : Hid (intsV .u64 X = cs) := hcs
    clear hcs
    go_enter Tryd.func17, Tryd.ntmps17
    go_wp2_with (at_make; refine wpList_make_full _ rfl (.tmp 7) (.tmp 7) 33 rfl w.heap.size 32 i0 (.int .u64 0) 1 Tryd.underlying33 hi hz0 hz1 .i64 .i64 (n : Int) (n : Int) n rfl rfl rfl rfl (by rw [hz2]; omega) (by unfold maxLen; omega) (Nat.le_refl _) ?_)
    intro w1 hown hgrow
    obtain ⟨cur, hcur, hcz⟩ : ∃ cur : Array Value, w1.heap[w.heap.size]? = some (.cells cur 32 (0, 0)) ∧ cur.size = n * 1 := by
      rcases hown.2 with ⟨e, _⟩ | ⟨g, cap', cur, e, _, hg, _, _, hs, _⟩
      · simp at e
      · simp at e
        obtain ⟨rfl, rfl⟩ := e
        exact ⟨cur, hg, hs⟩
    have hb1 : Below w.heap.size w w1 := (Below.refl _ _).grown hgrow (Nat.le_refl _) (by intro k hk; cases hk)
    have hsrc1 : ∀ j v, cs[j]? = some v → w1.cell? (a.add j) = some v := fun j v hj => hgrow.cell (hsrc j v hj) (by simp)
    clear hown hgrow hsrc
    go_wp2_with (refine wpList_copyW rfl (.tmp 9) (.tmp 10) 33 33 rfl 32 Tryd.underlying33 1 hsz w.heap.size n n a cap (by rfl) (by rfl) cur 32 hcur cs hcl hsrc1 (by omega) hone ?_)
    go_ret
    have hrow := setRow_heap w1 w.heap.size cur cs.toArray 32 (0, 0) hcur
    refine ⟨some ⟨w.heap.size, 0, none⟩, n, rfl, fun w5 b5 => ?_, below_setRow hb1 (Nat.le_refl _) _⟩
    have hr5 := (b5 w.heap.size (Nat.le_refl _) (lt_of_block hrow)).trans hrow
    rw [← HC.out] at hr5
    exact ⟨by simpa [intsV] using hl, fun j u hj => ⟨_, rfl, by rw [Addr.add_lit]; exact blk_cell hr5 _ (by simpa using hj)⟩⟩

set_option maxHeartbeats 400000 in
theorem copied_attrs (ad : Option Addr) (n cap : Nat) (X : List AttrD) (w : World) (h : AttrsAt w ad n X) (hn : n ≤ 1000) :
    Calls Tryd.prog 18 #[.slice ad n cap] w fun e w' => ∃ ad' c', e = .returned (.slice ad' n c') ∧ (∀ w5, (∀ k, w.heap.size ≤ k → k < w'.heap.size → w5.heap[k]? = w'.heap[k]?) → AttrsAt w5 ad' n X) ∧ Below w.heap.size w w' := by
  obtain ⟨i0, hi, hz0, hz1, hz2⟩ := info_parts Tryd.info65
  have hsz : (Tryd.prog.info? 65).map (·.size) = some 4 := by rw [hi]; simp [hz1]
  have hl : X.length = n := h.len
  have hnil : ∀ W, (binOp .eql 36 (.slice ad n cap) (.slice none 0 0)).run Tryd.prog W = .ok (.bool ad.isNone) W := fun W => Lib.run_eql_slice_nil W _ _ ad n cap 0 0 Tryd.underlying36
  cases ad with
  | none =>
    have hX : X = [] := by
      cases X with
      | nil => rfl
      | cons x r => exfalso; obtain ⟨b, off, ha, _⟩ := h.lies (by simp at hl; omega); simp at ha
    subst hX
    have hn0 : n = 0 := by simpa using hl.symm
    subst hn0
    go_enter Tryd.func18, Tryd.ntmps18
    go_wp2
    go_ret
    exact ⟨none, _, rfl, fun w5 _ => ⟨rfl, fun hp => by omega⟩, Below.refl _ _⟩
  | some a =>
    obtain ⟨cs, hcs⟩ : ∃ cs, X.flatMap attrC = cs := ⟨_, rfl⟩
    have hcl : cs.length = n * 4 := by rw [← hcs]; rw [flat_len attrC 4 (fun _ => rfl), hl]
    have hone : ∀ u ∈ cs, u.oneCell' = true := by rw [← hcs]; intro u hu; simp [attrC] at hu; obtain ⟨x, _, rfl | rfl | rfl | rfl⟩ := hu <;> rfl
    have hsrc : ∀ j v, cs[j]? = some v → w.cell? (a.add j) = some v := by
      rw [← hcs]; intro j v hj
      have hp : 0 < n := by
        cases X with
        | nil => simp at hj
        | cons x r => simp at hl; omega
      obtain ⟨b, off, ha, hc⟩ := h.lies hp
      simp at ha
      subst ha
      obtain ⟨i, k, hi, hk, rfl, hv⟩ := flat_at attrC 4 (fun _ => rfl) X j v hj
      obtain ⟨c0, c1, c2, c3⟩ := hc i hi
      rw [Addr.add_lit, ← Nat.add_assoc]
      match k, hk with
      | 0, _ => rw [hv]; exact c0
      | 1, _ => rw [hv]; exact c1
      | 2, _ => rw [hv]; exact c2
      | 3, _ => rw [hv]; exact c3
    have HC : Hid (X.flatMap attrC = cs) := hcs
    clear hcs
    go_enter Tryd.func18, Tryd.ntmps18
    go_wp2_with (at_make; refine wpList_make_full _ rfl (.tmp 7) (.tmp 7) 36 rfl w.heap.size 65 i0 _ 4 Tryd.underlying36 hi hz0 hz1 .i64 .i64 (n : Int) (n : Int) n rfl rfl rfl rfl (by rw [hz2]; omega) (by unfold maxLen; omega) (Nat.le_refl _) ?_)
    intro w1 hown hgrow
    obtain ⟨cur, hcur, hcz⟩ : ∃ cur : Array Value, w1.heap[w.heap.size]? = some (.cells cur 65 (0, 0)) ∧ cur.size = n * 4 := by
      rcases hown.2 with ⟨e, _⟩ | ⟨g, cap', cur, e, _, hg, _, _, hs, _⟩
      · simp at e
      · simp at e
        obtain ⟨rfl, rfl⟩ := e
        exact ⟨cur, hg, hs⟩
    have hb1 : Below w.heap.size w w1 := (Below.refl _ _).grown hgrow (Nat.le_refl _) (by intro k hk; cases hk)
    have hsrc1 : ∀ j v, cs[j]? = some v → w1.cell? (a.add j) = some v := fun j v hj => hgrow.cell (hsrc j v hj) (by simp)
    clear hown hgrow hsrc
    go_wp2_with (refine wpList_copyW rfl (.tmp 9) (.tmp 10) 36 36 rfl 65 Tryd.underlying36 4 hsz w.heap.size n n a cap (by rfl) (by rfl) cur 65 hcur cs hcl hsrc1 (by omega) hone ?_)
    go_ret
    have hrow := setRow_heap w1 w.heap.size cur cs.toArray 65 (0, 0) hcur
    refine ⟨some ⟨w.heap.size, 0, none⟩, n, rfl, fun w5 b5 => ?_, below_setRow hb1 (Nat.le_refl _) _⟩
    have hr5 := (b5 w.heap.size (Nat.le_refl _) (lt_of_block hrow)).trans hrow
    rw [← HC.out] at hr5
    refine ⟨hl, fun hp => ⟨w.heap.size, 0, rfl, fun i hi => ?_⟩⟩
    have k0 := blk_cell hr5 (i * 4 + 0) (by rw [List.getElem?_toArray]; exact (flat_get attrC 4 (fun _ => rfl) X i 0 hi (by omega)).trans rfl)
    have k1 := blk_cell hr5 (i * 4 + 1) (by rw [List.getElem?_toArray]; exact (flat_get attrC 4 (fun _ => rfl) X i 1 hi (by omega)).trans rfl)
    have k2 := blk_cell hr5 (i * 4 + 2) (by rw [List.getElem?_toArray]; exact (flat_get attrC 4 (fun _ => rfl) X i 2 hi (by omega)).trans rfl)
    have k3 := blk_cell hr5 (i * 4 + 3) (by rw [List.getElem?_toArray]; exact (flat_get attrC 4 (fun _ => rfl) X i 3 hi (by omega)).trans rfl)
    rw [Nat.zero_add]
    exact ⟨k0, k1, k2, k3⟩

set_option maxHeartbeats 400000 in
theorem copied_events (ad : Option Addr) (n cap : Nat) (X : List EventD) (w : World) (h : EventsAt w ad n X) (hn : n ≤ 1000) :
    Calls Tryd.prog 19 #[.slice ad n cap] w fun e w' => ∃ ad' c', e = .returned (.slice ad' n c') ∧ (∀ w5, (∀ k, w.heap.size ≤ k → k < w'.heap.size → w5.heap[k]? = w'.heap[k]?) → EventsAt w5 ad' n X) ∧ Below w.heap.size w w' := by
  obtain ⟨i0, hi, hz0, hz1, hz2⟩ := info_parts Tryd.info68
  have hsz : (Tryd.prog.info? 68).map (·.size) = some 2 := by rw [hi]; simp [hz1]
  have hl : X.length = n := h.len
  have hnil : ∀ W, (binOp .eql 37 (.slice ad n cap) (.slice none 0 0)).run Tryd.prog W = .ok (.bool ad.isNone) W := fun W => Lib.run_eql_slice_nil W _ _ ad n cap 0 0 Tryd.underlying37
  cases ad with
  | none =>
    have hX : X = [] := by
      cases X with
      | nil => rfl
      | cons x r => exfalso; obtain ⟨b, off, ha, _⟩ := h.lies (by simp at hl; omega); simp at ha
    subst hX
    have hn0 : n = 0 := by simpa using hl.symm
    subst hn0
    go_enter Tryd.func19, Tryd.ntmps19
    go_wp2
    go_ret
    exact ⟨none, _, rfl, fun w5 _ => ⟨rfl, fun hp => by omega⟩, Below.refl _ _⟩
  | some a =>
    obtain ⟨cs, hcs⟩ : ∃ cs, X.flatMap eventC = cs := ⟨_, rfl⟩
    have hcl : cs.length = n * 2 := by rw [← hcs]; rw [flat_len eventC 2 (fun _ => rfl), hl]
    have hone : ∀ u ∈ cs, u.oneCell' = true := by rw [← hcs]; intro u hu; simp [eventC] at hu; obtain ⟨x, _, rfl | rfl⟩ := hu <;> rfl
    have hsrc : ∀ j v, cs[j]? = some v → w.cell? (a.add j) = some v := by
      rw [← hcs]; intro j v hj
      have hp : 0 < n := by
        cases X with
        | nil => simp at hj
        | cons x r => simp at hl; omega
      obtain ⟨b, off, ha, hc⟩ := h.lies hp
      simp at ha
      subst ha
      obtain ⟨i, k, hi, hk, rfl, hv⟩ := flat_at eventC 2 (fun _ => rfl) X j v hj
      obtain ⟨c0, c1⟩ := hc i hi
      rw [Addr.add_lit, ← Nat.add_assoc]
      match k, hk with
      | 0, _ => rw [hv]; exact c0
      | 1, _ => rw [hv]; exact c1
    have HC : Hid (X.flatMap eventC = cs) := hcs
    clear hcs
    go_enter Tryd.func19, Tryd.ntmps19
    go_wp2_with (at_make; refine wpList_make_full _ rfl (.tmp 7) (.tmp 7) 37 rfl w.heap.size 68 i0 _ 2 Tryd.underlying37 hi hz0 hz1 .i64 .i64 (n : Int) (n : Int) n rfl rfl rfl rfl (by rw [hz2]; omega) (by unfold maxLen; omega) (Nat.le_refl _) ?_)
    intro w1 hown hgrow
    obtain ⟨cur, hcur, hcz⟩ : ∃ cur : Array Value, w1.heap[w.heap.size]? = some (.cells cur 68 (0, 0)) ∧ cur.size = n * 2 := by
      rcases hown.2 with ⟨e, _⟩ | ⟨g, cap', cur, e, _, hg, _, _, hs, _⟩
      · simp at e
      · simp at e
        obtain ⟨rfl, rfl⟩ := e
        exact ⟨cur, hg, hs⟩
    have hb1 : Below w.heap.size w w1 := (Below.refl _ _).grown hgrow (Nat.le_refl _) (by intro k hk; cases hk)
    have hsrc1 : ∀ j v, cs[j]? = some v → w1.cell? (a.add j) = some v := fun j v hj => hgrow.cell (hsrc j v hj) (by simp)
    clear hown hgrow hsrc
    go_wp2_with (refine wpList_copyW rfl (.tmp 9) (.tmp 10) 37 37 rfl 68 Tryd.underlying37 2 hsz w.heap.size n n a cap (by rfl) (by rfl) cur 68 hcur cs hcl hsrc1 (by omega) hone ?_)
    go_ret
    have hrow := setRow_heap w1 w.heap.size cur cs.toArray 68 (0, 0) hcur
    refine ⟨some ⟨w.heap.size, 0, none⟩, n, rfl, fun w5 b5 => ?_, below_setRow hb1 (Nat.le_refl _) _⟩
    have hr5 := (b5 w.heap.size (Nat.le_refl _) (lt_of_block hrow)).trans hrow
    rw [← HC.out] at hr5
    refine ⟨hl, fun hp => ⟨w.heap.size, 0, rfl, fun i hi => ?_⟩⟩
    have k0 := blk_cell hr5 (i * 2 + 0) (by rw [List.getElem?_toArray]; exact (flat_get eventC 2 (fun _ => rfl) X i 0 hi (by omega)).trans rfl)
    have k1 := blk_cell hr5 (i * 2 + 1) (by rw [List.getElem?_toArray]; exact (flat_get eventC 2 (fun _ => rfl) X i 1 hi (by omega)).trans rfl)
    rw [Nat.zero_add]
    exact ⟨k0, k1⟩
end Go.Proofs.YtfhpocgiekkboaaDoor
