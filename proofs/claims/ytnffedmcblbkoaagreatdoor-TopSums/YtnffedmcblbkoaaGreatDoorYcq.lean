/-
  Merged: Yc, Yd, FC, FD, FE.
-/
import Derived.Test.YtnffedmcblbkoaaGreatDoorZjq
import Derived.Lib.SliceRun
import Derived.Test.YtnffedmcblbkoaaGreatDoorWeq
import Derived.OwnWalk
import Derived.Laws.ResultCell
namespace Go.Proofs.YtnffedmcblbkoaaGreatDoor
open Go.Shelf Go.RowKit
set_option maxRecDepth 100000
theorem flat_len {α : Type} (f : α → List Value) (m : Nat) (hf : ∀ a, (f a).length = m) : ∀ X : List α, (X.flatMap f).length = X.length * m := by
 intro X
 induction X with
 | nil => simp
 | cons a r ih => simp only [List.flatMap_cons, List.length_append, List.length_cons, hf, ih, Nat.succ_mul]; omega
theorem flat_at {α : Type} (f : α → List Value) (m : Nat) (hf : ∀ a, (f a).length = m) : ∀ (X : List α) (j : Nat) (v : Value), (X.flatMap f)[j]? = some v → ∃ (i k : Nat) (hi : i < X.length), ∃ (_ : k < m), j = i * m + k ∧ some v = (f X[i])[k]? := by
 intro X
 induction X with
 | nil => intro j v h; simp at h
 | cons a r ih =>
  intro j v h
  simp only [List.flatMap_cons] at h
  by_cases hj : j < m
  ·rw [List.getElem?_append_left (by rw [hf]; exact hj)] at h
   exact ⟨0, j, by simp, hj, by simp, by simpa using h.symm⟩
  ·rw [List.getElem?_append_right (by rw [hf]; omega), hf] at h
   obtain ⟨i, k, hi, hk, e, hv⟩ := ih (j - m) v h
   exact ⟨i + 1, k, by simpa using hi, hk, by rw [Nat.succ_mul]; omega, by simpa using hv⟩
theorem run_copyW {P : Program} (w : World) (dT sT ty elem : TypeId) (g n dCap : Nat) (a : Addr) (sCap s : Nat) (cur : Array Value) (t : TypeId) (cs : List Value)
  (hu : P.underlying dT = some (.slice elem)) (hs : (P.info? elem).map (·.size) = some s)
  (hg : w.heap[g]? = some (.cells cur t (0, 0))) (hn : cs.length = n * s)
  (hsrc : ∀ j v, cs[j]? = some v → w.cell? (a.add j) = some v) (hfit : cs.length = cur.size) (h1 : ∀ v ∈ cs, v.oneCell' = true) :
  (Builtin.copy_ #[dT, sT] ty #[.slice (some ⟨g, 0, none⟩) n dCap, .slice (some a) n sCap]).run P w = .ok (goInt n) (w.setRow g cs.toArray) := by
 have hst := run_storeCells_at P g 0 t cs 0 cur w hg (by omega) h1
 cases hq : P.info? elem with
 | none => simp [hq] at hs
 | some i =>
  have hi : i.size = s := by simpa [hq] using hs
  have hl := run_firstCells_some (P := P) w i.size n a n sCap cs (by rw [hi]; omega) hsrc
  have e : (cur.toList.take 0 ++ cs ++ cur.toList.drop (0 + cs.length)).toArray = cs.toArray := by
   rw [List.drop_of_length_le (by simp; omega)]; simp
  rw [e] at hst
  simp [Builtin.copy_, run_underlying hu, Builtin.lenOf, sizeOf, typeInfo, hq, hl, hst]
theorem wpList_copyW {P : Program} {w : World} {ops : Array Oper} {rest : List Oper} {o : Oper} {a : Act} {Q : Exit → Act → World → Prop} (hgd : o.guard = none) (d s : Operand) (dT sT : TypeId)
  (ho : o.op = .call { callee := .builtin .copy, args := #[d, s], argTypes := #[dT, sT] }) (elem : TypeId) (hu : P.underlying dT = some (.slice elem)) (size : Nat) (hsz : (P.info? elem).map (·.size) = some size)
  (g n dCap : Nat) (ad : Addr) (sCap : Nat) (hd : a.eval d = .slice (some ⟨g, 0, none⟩) n dCap) (hs : a.eval s = .slice (some ad) n sCap)
  (cur : Array Value) (t : TypeId) (hg : w.heap[g]? = some (.cells cur t (0, 0))) (cs : List Value) (hn : cs.length = n * size)
  (hsrc : ∀ j v, cs[j]? = some v → w.cell? (ad.add j) = some v) (hfit : cs.length = cur.size) (h1 : ∀ v ∈ cs, v.oneCell' = true)
  (h : wpList P ops Q rest (a.put o.dst (goInt n)) (w.setRow g cs.toArray)) : wpList P ops Q (o :: rest) a w := by
 refine wpList_plain hgd fun K hK => ?_
 have hrun := run_copyW (P := P) w dT sT o.type elem g n dCap ad sCap size cur t cs hu hsz hg hn hsrc hfit h1
 unfold Oper.wp
 simp [execOp, ho, resolve, invoke, builtin, hd, hs, hrun, Result.andThen]
 exact hK _ _ h
set_option maxHeartbeats 400000 in
theorem copied_links (ad : Option Addr) (n cap : Nat) (X : List Int) (w : World) (h : HoldsV w ad n (intsV .u64 X)) (hn : n ≤ 1000) :
  Calls Tryz.prog 82 #[.slice ad n cap] w fun e w' => ∃ ad' c', e = .returned (.slice ad' n c') ∧ (∀ w5, (∀ k, w.heap.size ≤ k → k < w'.heap.size → w5.heap[k]? = w'.heap[k]?) → HoldsV w5 ad' n (intsV .u64 X)) ∧ Below w.heap.size w w' := by
 obtain ⟨i0, hi, hz0, hz1, hz2⟩ := info_parts Tryz.info33
 have hsz : (Tryz.prog.info? 33).map (·.size) = some 1 := by rw [hi]; simp [hz1]
 have hl : X.length = n := by simpa [intsV] using h.len
 have hnil : ∀ W, (binOp .eql 30 (.slice ad n cap) (.slice none 0 0)).run Tryz.prog W = .ok (.bool ad.isNone) W := fun W => Lib.run_eql_slice_nil W _ _ ad n cap 0 0 Tryz.underlying30
 cases ad with
 | none =>
  have hX : X = [] := by
   cases X with
   | nil => rfl
   | cons x r => exfalso; obtain ⟨a, ha, _⟩ := h.cells 0 (.int .u64 x) (by simp [intsV]); simp at ha
  subst hX
  have hn0 : n = 0 := by simpa using hl.symm
  subst hn0
  go_enter Tryz.func82, Tryz.ntmps82
  go_wp2
  go_ret
  exact ⟨none, _, rfl, fun w5 _ => HoldsV.nil w5, Below.refl _ _⟩
 | some a =>
  obtain ⟨cs, hcs⟩ : ∃ cs, intsV .u64 X = cs := ⟨_, rfl⟩
  have hcl : cs.length = n * 1 := by rw [← hcs]; simpa [intsV] using hl
  have hone : ∀ u ∈ cs, u.oneCell' = true := by rw [← hcs]; exact ints_oneCell _ _
  have hsrc : ∀ j v, cs[j]? = some v → w.cell? (a.add j) = some v := by
   rw [← hcs]; intro j v hj; obtain ⟨a', ha, hc⟩ := h.cells j v hj; simp at ha; subst ha; exact hc
  have HC : Hid (intsV .u64 X = cs) := hcs
  clear hcs
  go_enter Tryz.func82, Tryz.ntmps82
  go_wp2_with (at_make; refine wpList_make_full _ rfl (.tmp 7) (.tmp 7) 30 rfl w.heap.size 33 i0 (.int .u64 0) 1 Tryz.underlying30 hi hz0 hz1 .i64 .i64 (n : Int) (n : Int) n rfl rfl rfl rfl (by rw [hz2]; omega) (by unfold maxLen; omega) (Nat.le_refl _) ?_)
  intro w1 hown hgrow
  obtain ⟨cur, hcur, hcz⟩ : ∃ cur : Array Value, w1.heap[w.heap.size]? = some (.cells cur 33 (0, 0)) ∧ cur.size = n * 1 := by
   rcases hown.2 with ⟨e, _⟩ | ⟨g, cap', cur, e, _, hg, _, _, hs, _⟩
   ·simp at e
   ·simp at e
    obtain ⟨rfl, rfl⟩ := e
    exact ⟨cur, hg, hs⟩
  have hb1 : Below w.heap.size w w1 := (Below.refl _ _).grown hgrow (Nat.le_refl _) (by intro k hk; cases hk)
  have hsrc1 : ∀ j v, cs[j]? = some v → w1.cell? (a.add j) = some v := fun j v hj => hgrow.cell (hsrc j v hj) (by simp)
  clear hown hgrow hsrc
  go_wp2_with (refine wpList_copyW rfl (.tmp 9) (.tmp 10) 30 30 rfl 33 Tryz.underlying30 1 hsz w.heap.size n n a cap (by rfl) (by rfl) cur 33 hcur cs hcl hsrc1 (by omega) hone ?_)
  go_ret
  have hrow := setRow_heap w1 w.heap.size cur cs.toArray 33 (0, 0) hcur
  refine ⟨some ⟨w.heap.size, 0, none⟩, n, rfl, fun w5 b5 => ?_, below_setRow hb1 (Nat.le_refl _) _⟩
  have hr5 := (b5 w.heap.size (Nat.le_refl _) (lt_of_block hrow)).trans hrow
  rw [← HC.out] at hr5
  exact ⟨by simpa [intsV] using hl, fun j u hj => ⟨_, rfl, by rw [Addr.add_lit]; exact blk_cell hr5 _ (by simpa using hj)⟩⟩
set_option maxHeartbeats 400000 in
theorem copied_attrs (ad : Option Addr) (n cap : Nat) (X : List AttrD) (w : World) (h : AttrsAt w ad n X) (hn : n ≤ 1000) :
  Calls Tryz.prog 83 #[.slice ad n cap] w fun e w' => ∃ ad' c', e = .returned (.slice ad' n c') ∧ (∀ w5, (∀ k, w.heap.size ≤ k → k < w'.heap.size → w5.heap[k]? = w'.heap[k]?) → AttrsAt w5 ad' n X) ∧ Below w.heap.size w w' := by
 obtain ⟨i0, hi, hz0, hz1, hz2⟩ := info_parts Tryz.info179
 have hsz : (Tryz.prog.info? 179).map (·.size) = some 4 := by rw [hi]; simp [hz1]
 have hl : X.length = n := h.len
 have hnil : ∀ W, (binOp .eql 99 (.slice ad n cap) (.slice none 0 0)).run Tryz.prog W = .ok (.bool ad.isNone) W := fun W => Lib.run_eql_slice_nil W _ _ ad n cap 0 0 Tryz.underlying99
 cases ad with
 | none =>
  have hX : X = [] := by
   cases X with
   | nil => rfl
   | cons x r => exfalso; obtain ⟨b, off, ha, _⟩ := h.lies (by simp at hl; omega); simp at ha
  subst hX
  have hn0 : n = 0 := by simpa using hl.symm
  subst hn0
  go_enter Tryz.func83, Tryz.ntmps83
  go_wp2
  go_ret
  exact ⟨none, _, rfl, fun w5 _ => ⟨rfl, fun hp => by omega⟩, Below.refl _ _⟩
 | some a =>
  obtain ⟨cs, hcs⟩ : ∃ cs, X.flatMap attrC = cs := ⟨_, rfl⟩
  have hcl : cs.length = n * 4 := by rw [← hcs]; rw [flat_len attrC 4 (fun _ => rfl), hl]
  have hone : ∀ u ∈ cs, u.oneCell' = true := by rw [← hcs]; intro u hu; simp [attrC] at hu; obtain ⟨x, _, rfl | rfl | rfl | rfl⟩ := hu <;> rfl
  have hsrc : ∀ j v, cs[j]? = some v → w.cell? (a.add j) = some v := by
   rw [← hcs]; intro j v hj
   have hp : 0 < n := by
    cases X with
    | nil => simp at hj
    | cons x r => simp at hl; omega
   obtain ⟨b, off, ha, hc⟩ := h.lies hp
   simp at ha
   subst ha
   obtain ⟨i, k, hi, hk, rfl, hv⟩ := flat_at attrC 4 (fun _ => rfl) X j v hj
   obtain ⟨c0, c1, c2, c3⟩ := hc i hi
   rw [Addr.add_lit, ← Nat.add_assoc]
   match k, hk with
   | 0, _ => rw [hv]; exact c0
   | 1, _ => rw [hv]; exact c1
   | 2, _ => rw [hv]; exact c2
   | 3, _ => rw [hv]; exact c3
  have HC : Hid (X.flatMap attrC = cs) := hcs
  clear hcs
  go_enter Tryz.func83, Tryz.ntmps83
  go_wp2_with (at_make; refine wpList_make_full _ rfl (.tmp 7) (.tmp 7) 99 rfl w.heap.size 179 i0 _ 4 Tryz.underlying99 hi hz0 hz1 .i64 .i64 (n : Int) (n : Int) n rfl rfl rfl rfl (by rw [hz2]; omega) (by unfold maxLen; omega) (Nat.le_refl _) ?_)
  intro w1 hown hgrow
  obtain ⟨cur, hcur, hcz⟩ : ∃ cur : Array Value, w1.heap[w.heap.size]? = some (.cells cur 179 (0, 0)) ∧ cur.size = n * 4 := by
   rcases hown.2 with ⟨e, _⟩ | ⟨g, cap', cur, e, _, hg, _, _, hs, _⟩
   ·simp at e
   ·simp at e
    obtain ⟨rfl, rfl⟩ := e
    exact ⟨cur, hg, hs⟩
  have hb1 : Below w.heap.size w w1 := (Below.refl _ _).grown hgrow (Nat.le_refl _) (by intro k hk; cases hk)
  have hsrc1 : ∀ j v, cs[j]? = some v → w1.cell? (a.add j) = some v := fun j v hj => hgrow.cell (hsrc j v hj) (by simp)
  clear hown hgrow hsrc
  go_wp2_with (refine wpList_copyW rfl (.tmp 9) (.tmp 10) 99 99 rfl 179 Tryz.underlying99 4 hsz w.heap.size n n a cap (by rfl) (by rfl) cur 179 hcur cs hcl hsrc1 (by omega) hone ?_)
  go_ret
  have hrow := setRow_heap w1 w.heap.size cur cs.toArray 179 (0, 0) hcur
  refine ⟨some ⟨w.heap.size, 0, none⟩, n, rfl, fun w5 b5 => ?_, below_setRow hb1 (Nat.le_refl _) _⟩
  have hr5 := (b5 w.heap.size (Nat.le_refl _) (lt_of_block hrow)).trans hrow
  rw [← HC.out] at hr5
  refine ⟨hl, fun hp => ⟨w.heap.size, 0, rfl, fun i hi => ?_⟩⟩
  have k0 := blk_cell hr5 (i * 4 + 0) (by rw [List.getElem?_toArray]; exact (flat_get attrC 4 (fun _ => rfl) X i 0 hi (by omega)).trans rfl)
  have k1 := blk_cell hr5 (i * 4 + 1) (by rw [List.getElem?_toArray]; exact (flat_get attrC 4 (fun _ => rfl) X i 1 hi (by omega)).trans rfl)
  have k2 := blk_cell hr5 (i * 4 + 2) (by rw [List.getElem?_toArray]; exact (flat_get attrC 4 (fun _ => rfl) X i 2 hi (by omega)).trans rfl)
  have k3 := blk_cell hr5 (i * 4 + 3) (by rw [List.getElem?_toArray]; exact (flat_get attrC 4 (fun _ => rfl) X i 3 hi (by omega)).trans rfl)
  rw [Nat.zero_add]
  exact ⟨k0, k1, k2, k3⟩
set_option maxHeartbeats 400000 in
theorem copied_events (ad : Option Addr) (n cap : Nat) (X : List EventD) (w : World) (h : EventsAt w ad n X) (hn : n ≤ 1000) :
  Calls Tryz.prog 84 #[.slice ad n cap] w fun e w' => ∃ ad' c', e = .returned (.slice ad' n c') ∧ (∀ w5, (∀ k, w.heap.size ≤ k → k < w'.heap.size → w5.heap[k]? = w'.heap[k]?) → EventsAt w5 ad' n X) ∧ Below w.heap.size w w' := by
 obtain ⟨i0, hi, hz0, hz1, hz2⟩ := info_parts Tryz.info182
 have hsz : (Tryz.prog.info? 182).map (·.size) = some 2 := by rw [hi]; simp [hz1]
 have hl : X.length = n := h.len
 have hnil : ∀ W, (binOp .eql 100 (.slice ad n cap) (.slice none 0 0)).run Tryz.prog W = .ok (.bool ad.isNone) W := fun W => Lib.run_eql_slice_nil W _ _ ad n cap 0 0 Tryz.underlying100
 cases ad with
 | none =>
  have hX : X = [] := by
   cases X with
   | nil => rfl
   | cons x r => exfalso; obtain ⟨b, off, ha, _⟩ := h.lies (by simp at hl; omega); simp at ha
  subst hX
  have hn0 : n = 0 := by simpa using hl.symm
  subst hn0
  go_enter Tryz.func84, Tryz.ntmps84
  go_wp2
  go_ret
  exact ⟨none, _, rfl, fun w5 _ => ⟨rfl, fun hp => by omega⟩, Below.refl _ _⟩
 | some a =>
  obtain ⟨cs, hcs⟩ : ∃ cs, X.flatMap eventC = cs := ⟨_, rfl⟩
  have hcl : cs.length = n * 2 := by rw [← hcs]; rw [flat_len eventC 2 (fun _ => rfl), hl]
  have hone : ∀ u ∈ cs, u.oneCell' = true := by rw [← hcs]; intro u hu; simp [eventC] at hu; obtain ⟨x, _, rfl | rfl⟩ := hu <;> rfl
  have hsrc : ∀ j v, cs[j]? = some v → w.cell? (a.add j) = some v := by
   rw [← hcs]; intro j v hj
   have hp : 0 < n := by
    cases X with
    | nil => simp at hj
    | cons x r => simp at hl; omega
   obtain ⟨b, off, ha, hc⟩ := h.lies hp
   simp at ha
   subst ha
   obtain ⟨i, k, hi, hk, rfl, hv⟩ := flat_at eventC 2 (fun _ => rfl) X j v hj
   obtain ⟨c0, c1⟩ := hc i hi
   rw [Addr.add_lit, ← Nat.add_assoc]
   match k, hk with
   | 0, _ => rw [hv]; exact c0
   | 1, _ => rw [hv]; exact c1
  have HC : Hid (X.flatMap eventC = cs) := hcs
  clear hcs
  go_enter Tryz.func84, Tryz.ntmps84
  go_wp2_with (at_make; refine wpList_make_full _ rfl (.tmp 7) (.tmp 7) 100 rfl w.heap.size 182 i0 _ 2 Tryz.underlying100 hi hz0 hz1 .i64 .i64 (n : Int) (n : Int) n rfl rfl rfl rfl (by rw [hz2]; omega) (by unfold maxLen; omega) (Nat.le_refl _) ?_)
  intro w1 hown hgrow
  obtain ⟨cur, hcur, hcz⟩ : ∃ cur : Array Value, w1.heap[w.heap.size]? = some (.cells cur 182 (0, 0)) ∧ cur.size = n * 2 := by
   rcases hown.2 with ⟨e, _⟩ | ⟨g, cap', cur, e, _, hg, _, _, hs, _⟩
   ·simp at e
   ·simp at e
    obtain ⟨rfl, rfl⟩ := e
    exact ⟨cur, hg, hs⟩
  have hb1 : Below w.heap.size w w1 := (Below.refl _ _).grown hgrow (Nat.le_refl _) (by intro k hk; cases hk)
  have hsrc1 : ∀ j v, cs[j]? = some v → w1.cell? (a.add j) = some v := fun j v hj => hgrow.cell (hsrc j v hj) (by simp)
  clear hown hgrow hsrc
  go_wp2_with (refine wpList_copyW rfl (.tmp 9) (.tmp 10) 100 100 rfl 182 Tryz.underlying100 2 hsz w.heap.size n n a cap (by rfl) (by rfl) cur 182 hcur cs hcl hsrc1 (by omega) hone ?_)
  go_ret
  have hrow := setRow_heap w1 w.heap.size cur cs.toArray 182 (0, 0) hcur
  refine ⟨some ⟨w.heap.size, 0, none⟩, n, rfl, fun w5 b5 => ?_, below_setRow hb1 (Nat.le_refl _) _⟩
  have hr5 := (b5 w.heap.size (Nat.le_refl _) (lt_of_block hrow)).trans hrow
  rw [← HC.out] at hr5
  refine ⟨hl, fun hp => ⟨w.heap.size, 0, rfl, fun i hi => ?_⟩⟩
  have k0 := blk_cell hr5 (i * 2 + 0) (by rw [List.getElem?_toArray]; exact (flat_get eventC 2 (fun _ => rfl) X i 0 hi (by omega)).trans rfl)
  have k1 := blk_cell hr5 (i * 2 + 1) (by rw [List.getElem?_toArray]; exact (flat_get eventC 2 (fun _ => rfl) X i 1 hi (by omega)).trans rfl)
  rw [Nat.zero_add]
  exact ⟨k0, k1⟩
set_option maxHeartbeats 4000000 in
theorem clone_any (a : Sp) (p : Pl) (w : World) (h : SpAt w a p) (hl : a.links.length ≤ 1000) (ha : a.attrs.length ≤ 1000) (he : a.events.length ≤ 1000) :
  Calls Tryz.prog 52 #[spV a p] w fun e w' => ∃ p', e = .returned (spV a p') ∧ (∀ w5, (∀ k, w.heap.size ≤ k → k < w'.heap.size → w5.heap[k]? = w'.heap[k]?) → SpAt w5 a p') ∧ Below w.heap.size w w' := by
 have B2 : Below w.heap.size w ((w.alloc (.cells #[.int .u64 a.hi, .int .u64 a.lo, .int .u64 a.id, .int .u64 a.par, .slice p.la a.links.length p.lc, .string a.svc, .string a.op, .int .i64 a.kind, .int .i64 a.status, .int .i64 a.start, .int .i64 a.fin, .slice p.aa a.attrs.length p.ac, .slice p.ea a.events.length p.ec] 102)).alloc (.cells #[.int .u64 0, .int .u64 0, .int .u64 0, .int .u64 0, .slice none 0 0, .string ⟨#[]⟩, .string ⟨#[]⟩, .int .i64 0, .int .i64 0, .int .i64 0, .int .i64 0, .slice none 0 0, .slice none 0 0] 102)) := ((Below.refl _ _).alloc (Nat.le_refl _) _).alloc (by simp) _
 have L1 := copied_links p.la a.links.length p.lc a.links _ (h.links.below B2) hl
 have L2 := fun w' (hb : Below w.heap.size w w') => copied_attrs p.aa a.attrs.length p.ac a.attrs w' (h.attrs.below hb) ha
 have L3 := fun w' (hb : Below w.heap.size w w') => copied_events p.ea a.events.length p.ec a.events w' (h.events.below hb) he
 have X0 : ((w.alloc (.cells #[.int .u64 a.hi, .int .u64 a.lo, .int .u64 a.id, .int .u64 a.par, .slice p.la a.links.length p.lc, .string a.svc, .string a.op, .int .i64 a.kind, .int .i64 a.status, .int .i64 a.start, .int .i64 a.fin, .slice p.aa a.attrs.length p.ac, .slice p.ea a.events.length p.ec] 102)).alloc (.cells #[.int .u64 0, .int .u64 0, .int .u64 0, .int .u64 0, .slice none 0 0, .string ⟨#[]⟩, .string ⟨#[]⟩, .int .i64 0, .int .i64 0, .int .i64 0, .int .i64 0, .slice none 0 0, .slice none 0 0] 102)).heap[w.heap.size]? = some (.cells #[.int .u64 a.hi, .int .u64 a.lo, .int .u64 a.id, .int .u64 a.par, .slice p.la a.links.length p.lc, .string a.svc, .string a.op, .int .i64 a.kind, .int .i64 a.status, .int .i64 a.start, .int .i64 a.fin, .slice p.aa a.attrs.length p.ac, .slice p.ea a.events.length p.ec] 102 (0, 0)) := (Below.heap_alloc _ _ _ (by simp)).trans (heap_alloc_new _ _)
 have R0 : ((w.alloc (.cells #[.int .u64 a.hi, .int .u64 a.lo, .int .u64 a.id, .int .u64 a.par, .slice p.la a.links.length p.lc, .string a.svc, .string a.op, .int .i64 a.kind, .int .i64 a.status, .int .i64 a.start, .int .i64 a.fin, .slice p.aa a.attrs.length p.ac, .slice p.ea a.events.length p.ec] 102)).alloc (.cells #[.int .u64 0, .int .u64 0, .int .u64 0, .int .u64 0, .slice none 0 0, .string ⟨#[]⟩, .string ⟨#[]⟩, .int .i64 0, .int .i64 0, .int .i64 0, .int .i64 0, .slice none 0 0, .slice none 0 0] 102)).heap[w.heap.size + 1]? = some (.cells #[.int .u64 0, .int .u64 0, .int .u64 0, .int .u64 0, .slice none 0 0, .string ⟨#[]⟩, .string ⟨#[]⟩, .int .i64 0, .int .i64 0, .int .i64 0, .int .i64 0, .slice none 0 0, .slice none 0 0] 102 (0, 0)) := alloc_at (by simp)
 have s1 := h.sl
 have s2 := h.sa
 have s3 := h.se
 have hne : w.heap.size + 1 ≠ w.heap.size := by omega
 clear h
 unfold spV spC
 go_enter Tryz.func52, Tryz.ntmps52
 go_wp2_with (first
  | (go_at_call 82; refine L1.mono ?_; clear L1; rintro e w1 ⟨la, lc, rfl, H1, b1⟩; have X1 := (b1.block _ (lt_of_block X0)).trans X0; have R1 := (b1.block _ (lt_of_block R0)).trans R0; have c1 := blk_cell X1 4 rfl; have f1 := blk_free X1 4; have X1' := set_block X1 4 (.slice la a.links.length lc); rw [a13_4] at X1'; have R1' := (Below.heap_setCell w1 ⟨w.heap.size, 4, none⟩ (.slice la a.links.length lc) (w.heap.size + 1) hne).trans R1; have bw1 := B2.trans (b1.mono B2.size); have bw1' := bw1.setCell (p := ⟨w.heap.size, 4, none⟩) (Nat.le_refl _) (.slice la a.links.length lc); have c1' := blk_cell X1' 11 rfl)
  | (go_at_call 83; refine (L2 _ bw1').mono ?_; clear L2; rintro e w2 ⟨aa, ac, rfl, H2, b2⟩; have X2 := (b2.block _ (lt_of_block X1')).trans X1'; have R2 := (b2.block _ (lt_of_block R1')).trans R1'; have c2 := blk_cell X2 11 rfl; have f2 := blk_free X2 11; have X2' := set_block X2 11 (.slice aa a.attrs.length ac); rw [a13_11] at X2'; have R2' := (Below.heap_setCell w2 ⟨w.heap.size, 11, none⟩ (.slice aa a.attrs.length ac) (w.heap.size + 1) hne).trans R2; have bw2 := bw1'.trans (b2.mono bw1'.size); have bw2' := bw2.setCell (p := ⟨w.heap.size, 11, none⟩) (Nat.le_refl _) (.slice aa a.attrs.length ac); have c2' := blk_cell X2' 12 rfl)
  | (go_at_call 84; refine (L3 _ bw2').mono ?_; clear L3; rintro e w3 ⟨ea, ec, rfl, H3, b3⟩; have X3 := (b3.block _ (lt_of_block X2')).trans X2'; have R3 := (b3.block _ (lt_of_block R2')).trans R2'; have c3 := blk_cell X3 12 rfl; have f3 := blk_free X3 12; have X3' := set_block X3 12 (.slice ea a.events.length ec); rw [a13_12] at X3'; have R3' := (Below.heap_setCell w3 ⟨w.heap.size, 12, none⟩ (.slice ea a.events.length ec) (w.heap.size + 1) hne).trans R3; have bw3 := bw2'.trans (b3.mono bw2'.size); have bw3' := bw3.setCell (p := ⟨w.heap.size, 12, none⟩) (Nat.le_refl _) (.slice ea a.events.length ec); have e0 := blk_cell X3' 0 rfl; have o0 := blk_cell R3' 0 rfl; have g0 := blk_free R3' 0; have e1 := blk_cell X3' 1 rfl; have o1 := blk_cell R3' 1 rfl; have g1 := blk_free R3' 1; have e2 := blk_cell X3' 2 rfl; have o2 := blk_cell R3' 2 rfl; have g2 := blk_free R3' 2; have e3 := blk_cell X3' 3 rfl; have o3 := blk_cell R3' 3 rfl; have g3 := blk_free R3' 3; have e4 := blk_cell X3' 4 rfl; have o4 := blk_cell R3' 4 rfl; have g4 := blk_free R3' 4; have e5 := blk_cell X3' 5 rfl; have o5 := blk_cell R3' 5 rfl; have g5 := blk_free R3' 5; have e6 := blk_cell X3' 6 rfl; have o6 := blk_cell R3' 6 rfl; have g6 := blk_free R3' 6; have e7 := blk_cell X3' 7 rfl; have o7 := blk_cell R3' 7 rfl; have g7 := blk_free R3' 7; have e8 := blk_cell X3' 8 rfl; have o8 := blk_cell R3' 8 rfl; have g8 := blk_free R3' 8; have e9 := blk_cell X3' 9 rfl; have o9 := blk_cell R3' 9 rfl; have g9 := blk_free R3' 9; have e10 := blk_cell X3' 10 rfl; have o10 := blk_cell R3' 10 rfl; have g10 := blk_free R3' 10; have e11 := blk_cell X3' 11 rfl; have o11 := blk_cell R3' 11 rfl; have g11 := blk_free R3' 11; have e12 := blk_cell X3' 12 rfl; have o12 := blk_cell R3' 12 rfl; have g12 := blk_free R3' 12))
 (try simp only [Exit.inBlock, Exit.then])
 obtain ⟨W, hW⟩ : ∃ W, w3.setCell ⟨w.heap.size, 12, none⟩ (.slice ea a.events.length ec) = W := ⟨_, rfl⟩
 rw [hW] at X3' R3' bw3' ⊢
 rw [set13_eq W (w.heap.size + 1) 102 _ _ _ _ _ _ _ _ _ _ _ _ _ _ _ _ _ _ _ _ _ _ _ _ _ _ R3']
 have hrow := setRow_heap W (w.heap.size + 1) _ #[.int .u64 a.hi, .int .u64 a.lo, .int .u64 a.id, .int .u64 a.par, .slice la a.links.length lc, .string a.svc, .string a.op, .int .i64 a.kind, .int .i64 a.status, .int .i64 a.start, .int .i64 a.fin, .slice aa a.attrs.length ac, .slice ea a.events.length ec] 102 (0, 0) R3'
 have hld := run_loadVar_row (P := Tryz.prog) (W.setRow (w.heap.size + 1) #[.int .u64 a.hi, .int .u64 a.lo, .int .u64 a.id, .int .u64 a.par, .slice la a.links.length lc, .string a.svc, .string a.op, .int .i64 a.kind, .int .i64 a.status, .int .i64 a.start, .int .i64 a.fin, .slice aa a.attrs.length ac, .slice ea a.events.length ec]) (w.heap.size + 1) 102 102 #[.int .u64 a.hi, .int .u64 a.lo, .int .u64 a.id, .int .u64 a.par, .slice la a.links.length lc, .string a.svc, .string a.op, .int .i64 a.kind, .int .i64 a.status, .int .i64 a.start, .int .i64 a.fin, .slice aa a.attrs.length ac, .slice ea a.events.length ec] (0, 0) _ hrow Tryz.underlying102 rfl Tryz.info102
 have z1 := b1.size
 have z2 := b2.size
 have z3 := b3.size
 simp at z1 z2 z3
 have k3 : ∀ k, w.heap.size + 2 ≤ k → (W.setRow (w.heap.size + 1) #[.int .u64 a.hi, .int .u64 a.lo, .int .u64 a.id, .int .u64 a.par, .slice la a.links.length lc, .string a.svc, .string a.op, .int .i64 a.kind, .int .i64 a.status, .int .i64 a.start, .int .i64 a.fin, .slice aa a.attrs.length ac, .slice ea a.events.length ec]).heap[k]? = w3.heap[k]? := fun k hk => by
  rw [setRow_other W _ k _ (by omega), ← hW]; exact Below.heap_setCell w3 ⟨w.heap.size, 12, none⟩ _ k (by simp; omega)
 have k2 : ∀ k, w.heap.size + 2 ≤ k → k < w2.heap.size → (W.setRow (w.heap.size + 1) #[.int .u64 a.hi, .int .u64 a.lo, .int .u64 a.id, .int .u64 a.par, .slice la a.links.length lc, .string a.svc, .string a.op, .int .i64 a.kind, .int .i64 a.status, .int .i64 a.start, .int .i64 a.fin, .slice aa a.attrs.length ac, .slice ea a.events.length ec]).heap[k]? = w2.heap[k]? := fun k hk hk2 => by
  rw [k3 k hk, b3.block k (by simpa using hk2)]; exact Below.heap_setCell w2 ⟨w.heap.size, 11, none⟩ _ k (by simp; omega)
 have k1 : ∀ k, w.heap.size + 2 ≤ k → k < w1.heap.size → (W.setRow (w.heap.size + 1) #[.int .u64 a.hi, .int .u64 a.lo, .int .u64 a.id, .int .u64 a.par, .slice la a.links.length lc, .string a.svc, .string a.op, .int .i64 a.kind, .int .i64 a.status, .int .i64 a.start, .int .i64 a.fin, .slice aa a.attrs.length ac, .slice ea a.events.length ec]).heap[k]? = w1.heap[k]? := fun k hk hk2 => by
  rw [k2 k hk (by omega), b2.block k (by simpa using hk2)]; exact Below.heap_setCell w1 ⟨w.heap.size, 4, none⟩ _ k (by simp; omega)
 have zW : (W.setRow (w.heap.size + 1) #[.int .u64 a.hi, .int .u64 a.lo, .int .u64 a.id, .int .u64 a.par, .slice la a.links.length lc, .string a.svc, .string a.op, .int .i64 a.kind, .int .i64 a.status, .int .i64 a.start, .int .i64 a.fin, .slice aa a.attrs.length ac, .slice ea a.events.length ec]).heap.size = w3.heap.size := by rw [← hW]; simp [World.setRow]
 have f1 := fun w5 (h5 : ∀ k, w.heap.size ≤ k → k < (W.setRow (w.heap.size + 1) #[.int .u64 a.hi, .int .u64 a.lo, .int .u64 a.id, .int .u64 a.par, .slice la a.links.length lc, .string a.svc, .string a.op, .int .i64 a.kind, .int .i64 a.status, .int .i64 a.start, .int .i64 a.fin, .slice aa a.attrs.length ac, .slice ea a.events.length ec]).heap.size → w5.heap[k]? = (W.setRow (w.heap.size + 1) #[.int .u64 a.hi, .int .u64 a.lo, .int .u64 a.id, .int .u64 a.par, .slice la a.links.length lc, .string a.svc, .string a.op, .int .i64 a.kind, .int .i64 a.status, .int .i64 a.start, .int .i64 a.fin, .slice aa a.attrs.length ac, .slice ea a.events.length ec]).heap[k]?) => H1 w5 (fun k hk hk' => (h5 k (by simp at hk; omega) (by omega)).trans (k1 k (by simp at hk; omega) hk'))
 have f2 := fun w5 (h5 : ∀ k, w.heap.size ≤ k → k < (W.setRow (w.heap.size + 1) #[.int .u64 a.hi, .int .u64 a.lo, .int .u64 a.id, .int .u64 a.par, .slice la a.links.length lc, .string a.svc, .string a.op, .int .i64 a.kind, .int .i64 a.status, .int .i64 a.start, .int .i64 a.fin, .slice aa a.attrs.length ac, .slice ea a.events.length ec]).heap.size → w5.heap[k]? = (W.setRow (w.heap.size + 1) #[.int .u64 a.hi, .int .u64 a.lo, .int .u64 a.id, .int .u64 a.par, .slice la a.links.length lc, .string a.svc, .string a.op, .int .i64 a.kind, .int .i64 a.status, .int .i64 a.start, .int .i64 a.fin, .slice aa a.attrs.length ac, .slice ea a.events.length ec]).heap[k]?) => H2 w5 (fun k hk hk' => (h5 k (by simp at hk; omega) (by omega)).trans (k2 k (by simp at hk; omega) hk'))
 have f3 := fun w5 (h5 : ∀ k, w.heap.size ≤ k → k < (W.setRow (w.heap.size + 1) #[.int .u64 a.hi, .int .u64 a.lo, .int .u64 a.id, .int .u64 a.par, .slice la a.links.length lc, .string a.svc, .string a.op, .int .i64 a.kind, .int .i64 a.status, .int .i64 a.start, .int .i64 a.fin, .slice aa a.attrs.length ac, .slice ea a.events.length ec]).heap.size → w5.heap[k]? = (W.setRow (w.heap.size + 1) #[.int .u64 a.hi, .int .u64 a.lo, .int .u64 a.id, .int .u64 a.par, .slice la a.links.length lc, .string a.svc, .string a.op, .int .i64 a.kind, .int .i64 a.status, .int .i64 a.start, .int .i64 a.fin, .slice aa a.attrs.length ac, .slice ea a.events.length ec]).heap[k]?) => H3 w5 (fun k hk hk' => (h5 k (by simp at hk; omega) (by omega)).trans (k3 k (by simp at hk; omega)))
 refine bodyPost_ret (v := .agg #[.int .u64 a.hi, .int .u64 a.lo, .int .u64 a.id, .int .u64 a.par, .slice la a.links.length lc, .string a.svc, .string a.op, .int .i64 a.kind, .int .i64 a.status, .int .i64 a.start, .int .i64 a.fin, .slice aa a.attrs.length ac, .slice ea a.events.length ec]) ?_ rfl ⟨⟨la, lc, aa, ac, ea, ec⟩, rfl, (fun w5 h5 => ⟨f1 w5 h5, f2 w5 h5, f3 w5 h5, s1, s2, s3⟩), below_setRow bw3' (by omega) _⟩
 rw [results_cell1 rfl]
 simp [asAddr, Result.andThen, hld]
end Go.Proofs.YtnffedmcblbkoaaGreatDoor
namespace Go.Proofs.YtnffedmcblbkoaaGreatDoor
open Go Go.RowKit
set_option maxRecDepth 100000
theorem blk_of_owns {w : World} {base r n k : Nat} {e : TypeId} {xs : List Value} (h : w.ownsRow base e k (.slice (some ⟨r, 0, none⟩) n n) n xs) : Blk w r xs.toArray e := by
 rcases h.2 with ⟨e, _⟩ | ⟨g, cap, cur, hv, _, hh, _, _, hsz, ht⟩
 ·simp at e
 ·simp at hv
  obtain ⟨rfl, rfl⟩ := hv
  have hc : cur = xs.toArray := by
   apply Array.toList_inj.1
   rw [List.take_of_length_le (by simp [hsz])] at ht
   rw [ht]
  unfold Blk
  rw [hh, hc]
theorem wpList_mk {ops : Array Oper} {rest : List Oper} {o : Oper} {a : Act} {w : World} {Q : Exit → Act → World → Prop} (hg : o.guard = none) (l c : Operand) (t : TypeId) (hop : o.op = Op.makeSlice t l c) (e : TypeId) (z : Value) (k by_ : Nat) (hu : Tryz.prog.underlying t = some (.slice e)) (hi : (Tryz.prog.info? e).map (fun i => (i.zero, i.size, i.bytes)) = some (some z, k, by_))
  (n : Nat) (hl : a.eval l = .int .i64 (n : Int)) (hc : a.eval c = .int .i64 (n : Int)) (hb : by_ * n ≤ 281474976710656) (hm : n ≤ maxLen)
  (hK : ∀ w', Blk w' w.heap.size (madeCells z.cells (n * k)) e → Below w.heap.size w w' → wpList Tryz.prog ops Q rest (a.put o.dst (.slice (some ⟨w.heap.size, 0, none⟩) n n)) w') : wpList Tryz.prog ops Q (o :: rest) a w := by
 cases hq : Tryz.prog.info? e with
 | none => rw [hq] at hi; simp at hi
 | some i =>
  rw [hq] at hi
  simp at hi
  obtain ⟨h1, h2, h3⟩ := hi
  refine wpList_make_full w hg l c t hop w.heap.size e i z k hu hq h1 h2 .i64 .i64 _ _ n hl hc rfl rfl (by rw [h3]; exact hb) hm (Nat.le_refl _) ?_
  intro w' ho hgr
  refine hK w' ?_ ⟨hgr.os, hgr.tape, hgr.output, hgr.size, fun k hk => hgr.block k hk (by simp)⟩
  simpa using blk_of_owns ho
theorem infoI : (Tryz.prog.info? 3).map (fun i => (i.zero, i.size, i.bytes)) = some (some (.int .i64 0), 1, 8) := by kernel_rfl
theorem infoID : (Tryz.prog.info? 33).map (fun i => (i.zero, i.size, i.bytes)) = some (some (.int .u64 0), 1, 8) := by kernel_rfl
theorem made_one (v : Value) (n : Nat) : madeCells #[v] (n * 1) = Array.replicate n v := by
 apply Array.toList_inj.1
 simp [madeCells, Nat.mod_one]
 exact (List.map_const (l := List.range n) (b := v)).trans (by rw [List.length_range])
def fillC (kd : IntKind) (L : List Int) (m : Nat) : Array Value := (L.map (Value.int kd) ++ List.replicate m (Value.int kd 0)).toArray
theorem fill_start (kd : IntKind) (n : Nat) : fillC kd [] n = Array.replicate n (.int kd 0) := by
 apply Array.toList_inj.1
 simp [fillC]
theorem fill_set (kd : IntKind) (L : List Int) (m : Nat) (x : Int) : (fillC kd L (m + 1)).setIfInBounds L.length (.int kd x) = fillC kd (L ++ [x]) m := by
 unfold fillC
 rw [List.setIfInBounds_toArray]
 congr 1
 rw [List.set_append_right _ _ (by simp), List.length_map, Nat.sub_self, List.replicate_succ, List.set_cons_zero]
 simp
theorem fill_get (kd : IntKind) (L : List Int) (m : Nat) : (fillC kd L (m + 1))[L.length]? = some (.int kd 0) := by
 unfold fillC
 rw [List.getElem?_toArray, List.getElem?_append_right (by simp)]
 simp [List.replicate_succ]
structure ForestAt (w : World) (f sb : Nat) (X : List Spot) (K : Nat → List Int) (rv : Value) (R : List Int) : Prop where
 head : Blk w f #[.slice (some ⟨sb, 0, none⟩) X.length X.length, rv] 92
 row : Blk w sb (rowS X) 104
 rise : RiseS X
 small : X.length ≤ 1000
 spans : ∀ i (h : i < X.length), SpAt w X[i].a X[i].p ∧ X[i].a.links.length ≤ 1000 ∧ X[i].a.attrs.length ≤ 1000 ∧ X[i].a.events.length ≤ 1000
 kids : ∀ i (h : i < X.length), ∃ ad cap, X[i].kv = .slice ad (K i).length cap ∧ HoldsV w ad (K i).length (intsV .i64 (K i)) ∧ (K i).length ≤ 1000 ∧ ∀ x ∈ K i, 0 ≤ x ∧ x < X.length
 roots : ∃ ad cap, rv = .slice ad R.length cap ∧ HoldsV w ad R.length (intsV .i64 R) ∧ R.length ≤ 1000 ∧ ∀ x ∈ R, 0 ≤ x ∧ x < X.length
theorem ForestAt.below {w w' : World} {f sb : Nat} {X : List Spot} {K : Nat → List Int} {rv : Value} {R : List Int} (h : ForestAt w f sb X K rv R) (hb : Below w.heap.size w w') : ForestAt w' f sb X K rv R :=
 ⟨h.head.below hb h.head.lt, h.row.below hb h.row.lt, h.rise, h.small, fun i hi => ⟨(h.spans i hi).1.below hb, (h.spans i hi).2⟩, fun i hi => by obtain ⟨ad, cap, h1, h2, h3⟩ := h.kids i hi; exact ⟨ad, cap, h1, h2.below hb, h3⟩, by obtain ⟨ad, cap, h1, h2, h3⟩ := h.roots; exact ⟨ad, cap, h1, h2.below hb, h3⟩⟩
theorem count_any (f sb : Nat) (X : List Spot) (K : Nat → List Int) (rv : Value) (R : List Int) (w : World) (h : ForestAt w f sb X K rv R) :
  Calls Tryz.prog 33 #[.pointer (some ⟨f, 0, none⟩)] w fun e w' => e = .returned (.int .i64 X.length) ∧ w' = w := by
 have c0 := h.head.cell 0 rfl
 clear h
 go_enter Tryz.func33, Tryz.ntmps33
 go_wp2
 go_ret
 exact ⟨rfl, rfl⟩
def idsOf (X : List Spot) (L : List Int) : List Int := L.map (fun i => ((X[i.toNat]?).map (fun x => x.nd.id)).getD 0)
theorem idsOf_take (X : List Spot) (L : List Int) (k : Nat) (hk : k < L.length) (x : Spot) (hx : X[(L[k]).toNat]? = some x) : idsOf X (L.take (k + 1)) = idsOf X (L.take k) ++ [x.nd.id] := by
 unfold idsOf
 rw [List.take_succ_eq_append_getElem hk, List.map_append]
 simp [hx]
set_option maxHeartbeats 4000000 in
theorem names_any (f sb : Nat) (X : List Spot) (K : Nat → List Int) (rv : Value) (R : List Int) (w : World) (h : ForestAt w f sb X K rv R) (ad : Option Addr) (cap : Nat) (L : List Int) (hL : HoldsV w ad L.length (intsV .i64 L)) (hl : L.length ≤ 1000) (hm : ∀ x ∈ L, 0 ≤ x ∧ x < X.length) :
  Calls Tryz.prog 35 #[.pointer (some ⟨f, 0, none⟩), .slice ad L.length cap] w fun e w' => ∃ r, e = .returned (.slice (some ⟨r, 0, none⟩) L.length L.length) ∧ Blk w' r (fillC .u64 (idsOf X L) 0) 33 ∧ w.heap.size ≤ r ∧ Below w.heap.size w w' := by
 have HH : Hid _ := h
 have HM : Hid _ := hm
 have HLL : Hid _ := hL
 obtain ⟨n, hn⟩ : ∃ n, L.length = n := ⟨_, rfl⟩
 have HN : Hid (L.length = n) := hn
 rw [hn] at hl HLL ⊢
 obtain ⟨N, hN⟩ : ∃ N, X.length = N := ⟨_, rfl⟩
 have HX : Hid (X.length = N) := hN
 clear h hm hL hn hN
 go_enter Tryz.func35, Tryz.ntmps35
 go_wp2_with (at_make; refine wpList_mk rfl _ _ 30 rfl 33 (.int .u64 0) 1 8 Tryz.underlying30 infoID n rfl rfl (by omega) (by unfold maxLen; omega) ?_; intro w1 b1 hb1)
 have B0 : Hid (Blk w1 w.heap.size (fillC .u64 [] n) 33) := by
  rw [fill_start, ← made_one]; exact b1
 have HB1 : Hid _ := hb1
 obtain ⟨r, hr⟩ : ∃ r, w.heap.size = r := ⟨_, rfl⟩
 have HR : Hid (w.heap.size = r) := hr
 rw [hr] at B0 ⊢
 clear b1 hb1 hr
 go_wp2
 go_loopw [13] (fun x wr => ∃ k : Nat, x = .int .i64 k ∧ k ≤ n ∧ Blk wr r (fillC .u64 (idsOf X (L.take k)) (n - k)) 33 ∧ Below w.heap.size w wr) (fun x _ => n - (intOf x).toNat)
 case atStart => exact ⟨0, rfl, by omega, by simpa [idsOf] using B0.out, HB1.out⟩
 case round =>
  obtain ⟨k, rfl, hkn, hblk, hb⟩ := hrel
  have HBB : Hid (Below w.heap.size w wr) := hb
  have HBK : Hid (Blk wr r (fillC .u64 (idsOf X (L.take k)) (n - k)) 33) := hblk
  clear hb hblk
  by_cases hlt : k < n
  ·have hkL : k < L.length := by rw [HN.out]; exact hlt
   have FW := ForestAt.below HH.out HBB.out
   obtain ⟨b2, o2, rfl, hc2⟩ := (HoldsV.below HLL.out HBB.out).plain (intsV_get hkL)
   have c1 := hc2 k _ (intsV_get hkL)
   have hx := HM.out _ (List.getElem_mem hkL)
   obtain ⟨i, hi⟩ : ∃ i : Nat, L[k]'hkL = (i : Int) := ⟨(L[k]'hkL).toNat, by omega⟩
   have hiX : i < X.length := by omega
   have HT := idsOf_take X L k hkL X[i] (by rw [hi]; simp [hiX])
   rw [hi] at c1
   have c0 := FW.head.cell 0 rfl
   rw [HX.out] at c0
   have c3 := FW.row.spot i hiX 13 (by omega) rfl
   have hlen : (idsOf X (L.take k)).length = k := by simp [idsOf]; omega
   have hnk : n - k = (n - (k + 1)) + 1 := by omega
   have d1 : wr.cell? ⟨r, k, none⟩ = some (.int .u64 0) := Blk.cell HBK.out k (by rw [hnk]; have := fill_get .u64 (idsOf X (L.take k)) (n - (k + 1)); rwa [hlen] at this)
   have d2 : wr.frozen? ⟨r, k, none⟩ = false := Blk.frozen HBK.out k
   have HS : Hid (Blk (wr.setCell ⟨r, k, none⟩ (.int .u64 X[i].nd.id)) r (fillC .u64 (idsOf X (L.take (k + 1))) (n - (k + 1))) 33) := by
    have := Blk.set HBK.out k (.int .u64 X[i].nd.id)
    rw [hnk] at this
    have e := fill_set .u64 (idsOf X (L.take k)) (n - (k + 1)) X[i].nd.id
    rw [hlen] at e
    rw [e, ← HT] at this
    exact this
   have HI : Hid (i < N) := by rw [← HX.out]; exact hiX
   obtain ⟨y, hy⟩ : ∃ y, (X[i]'hiX).nd.id = y := ⟨_, rfl⟩
   rw [hy] at c3 HS
   have hiN : i < N := HI.out
   clear hx hi HT hlen hnk hy FW hc2
   go_wp2
   go_roundw
   case rel => exact ⟨k + 1, by simp, by omega, HS.out, Below.setCell HBB.out (by have := HR.out; simp; omega) _⟩
   case measure => simp [intOf]; omega
  ·obtain rfl : k = n := by omega
   go_wp2
   go_ret
   refine ⟨r, rfl, ?_, by have := HR.out; omega, HBB.out⟩
   have := HBK.out
   rw [List.take_of_length_le (by rw [HN.out]; exact Nat.le_refl _), Nat.sub_self] at this
   exact this
theorem setCells_upd (b : Nat) : ∀ (vs : List Value) (o : Nat) (w : World), Upd (fun k => k = b) w (w.setCells b o vs)
 | [], _, w => Upd.refl _ w
 | v :: r, o, w => by
  rw [World.setCells]
  have h1 : Upd (fun k => k = b) w (w.setCell ⟨b, o, none⟩ v) := Upd.setCell (S := fun k => k = b) (Upd.refl _ w) (p := ⟨b, o, none⟩) (fun _ => rfl) v
  exact h1.trans (setCells_upd b r (o + 1) _) (fun _ _ h => h)
def putL (l : List Value) (o : Nat) : List Value → List Value
 | [] => l
 | v :: r => putL (l.set o v) (o + 1) r
theorem putL_eq : ∀ (vs l : List Value) (o : Nat), o + vs.length ≤ l.length → putL l o vs = l.take o ++ vs ++ l.drop (o + vs.length)
 | [], l, o, _ => by simp [putL]
 | v :: r, l, o, h => by
  simp at h
  rw [putL, putL_eq r (l.set o v) (o + 1) (by simp; omega)]
  have h1 : (l.set o v).take (o + 1) = l.take o ++ [v] := by
   rw [List.take_succ_eq_append_getElem (by simp; omega), List.getElem_set_self, List.take_set_of_le (Nat.le_refl _)]
  have h2 : (l.set o v).drop (o + 1 + r.length) = l.drop (o + (v :: r).length) := by
   rw [List.drop_set_of_lt (by omega)]
   congr 1
   simp; omega
  rw [h1, h2]
  simp
theorem setCells_blk {b : Nat} {e : TypeId} : ∀ (vs : List Value) (o : Nat) (l : List Value) (w : World), Blk w b l.toArray e → Blk (w.setCells b o vs) b (putL l o vs).toArray e
 | [], _, _, _, h => h
 | v :: r, o, l, w, h => by
  rw [World.setCells, putL]
  refine setCells_blk r (o + 1) _ _ ?_
  have := h.set o v
  rwa [List.setIfInBounds_toArray] at this
theorem Blk.there {w : World} {b : Nat} {l : List Value} {e : TypeId} (h : Blk w b l.toArray e) (o n : Nat) (hn : o + n ≤ l.length) : w.there b o n := fun j hj => by
 refine ⟨?_, h.frozen _⟩
 rw [h.cell (o + j) (v := l[o + j]) (by simp)]
 rfl
theorem wpList_stW {ops : Array Oper} {rest : List Oper} {op : Oper} {a : Act} {w : World} {Q : Exit → Act → World → Prop} (hgd : op.guard = none) (ty : TypeId) (x y : Operand) (ho : op.op = .store ty x y) (b : Nat) (l cs : List Value) (e : TypeId) (hB : Blk w b l.toArray e) (hx : a.eval x = .pointer (some ⟨b, 0, none⟩)) (hy : a.eval y = .agg cs.toArray) (hl : l.length = cs.length)
  (hi : (Tryz.prog.info? ty).map (·.size) = some cs.length) (h1 : ∀ v ∈ cs, v.oneCell' = true)
  (hK : ∀ w', Blk w' b cs.toArray e → Upd (fun k => k = b) w w' → wpList Tryz.prog ops Q rest (a.put op.dst undef) w') : wpList Tryz.prog ops Q (op :: rest) a w := by
 refine wpList_store_mid hgd ty x y ho b 0 cs.toArray hx hy (by simpa using hB.there 0 cs.length (by omega)) (by simpa using hi) (all_oneCell_toArray h1) ?_
 refine hK _ ?_ (setCells_upd _ _ _ _)
 have := setCells_blk cs 0 l w hB
 rw [putL_eq cs l 0 (by omega)] at this
 simp only [List.take_zero, List.nil_append, Nat.zero_add, ← hl, List.drop_length, List.append_nil] at this
 exact this
theorem flat_put (X : List Spot) (i : Nat) (hi : i < X.length) (y : Spot) : putL (X.flatMap enS) (i * 21) (enS y) = (X.set i y).flatMap enS := by
 have hs : X = X.take i ++ X[i] :: X.drop (i + 1) := by simp
 have hy : X.set i y = X.take i ++ y :: X.drop (i + 1) := List.set_eq_take_append_cons_drop.trans (by simp [hi])
 have hf : X.flatMap enS = (X.take i).flatMap enS ++ (enS X[i] ++ (X.drop (i + 1)).flatMap enS) := by
  conv => lhs; rw [hs]
  rw [List.flatMap_append, List.flatMap_cons]
 have hlen : ((X.take i).flatMap enS).length = i * 21 := by rw [flatS_len]; simp; omega
 rw [putL_eq _ _ _ (by rw [flatS_len, enS_len]; omega), hy, List.flatMap_append, List.flatMap_cons, hf]
 rw [List.take_append_of_le_length (by omega), List.take_of_length_le (by omega), enS_len]
 rw [show i * 21 + 21 = ((X.take i).flatMap enS).length + (enS X[i]).length by rw [hlen, enS_len], List.drop_append, List.drop_append]
 simp
theorem enS_one (s : Spot) : ∀ v ∈ enS s, v.oneCell' = true := by
 intro v hv
 unfold enS at hv
 simp only [List.mem_cons, List.not_mem_nil, or_false] at hv
 rcases hv with rfl | rfl | rfl | rfl | rfl | rfl | rfl | rfl | rfl | rfl | rfl | rfl | rfl | rfl | rfl | rfl | rfl | rfl | rfl | rfl | rfl
 all_goals rfl
def ndL (d : Nod) : List Value := [.int .u64 d.id, .int .u64 d.par, .int .i64 d.org, .int .u64 d.tree, .int .i64 d.dep, .int .i64 d.fr, .int .i64 d.til]
theorem ndL_one (d : Nod) : ∀ v ∈ ndL d, v.oneCell' = true := by
 intro v hv
 unfold ndL at hv
 simp only [List.mem_cons, List.not_mem_nil, or_false] at hv
 rcases hv with rfl | rfl | rfl | rfl | rfl | rfl | rfl <;> rfl
theorem spC_one (a : Sp) (p : Pl) : ∀ v ∈ (spC a p).toList, v.oneCell' = true := by
 intro v hv
 unfold spC at hv
 simp only [List.mem_cons, List.not_mem_nil, or_false] at hv
 rcases hv with rfl | rfl | rfl | rfl | rfl | rfl | rfl | rfl | rfl | rfl | rfl | rfl | rfl <;> rfl
theorem Blk.node {w : World} {b : Nat} {X : List Spot} (h : Blk w b (rowS X) 104) (i : Nat) (hi : i < X.length) : w.rangeAt b (i * 21 + 13) (ndL X[i].nd) := fun j v hv => by
 have hj : j < 7 := (List.getElem?_eq_some_iff.1 hv).1
 rw [Nat.add_assoc]
 refine h.spot i hi (13 + j) (by omega) ?_
 have : (enS X[i]).drop 13 = ndL X[i].nd ++ [X[i].kv] := rfl
 rw [← List.getElem?_drop, this, List.getElem?_append_left (by show j < 7; exact hj)]
 exact hv
theorem Blk.span {w : World} {b : Nat} {X : List Spot} (h : Blk w b (rowS X) 104) (i : Nat) (hi : i < X.length) : w.rangeAt b (i * 21) (spC X[i].a X[i].p).toList := fun j v hv => by
 have hj : j < 13 := (List.getElem?_eq_some_iff.1 hv).1
 refine h.spot i hi j (by omega) ?_
 have : (enS X[i]).take 13 = (spC X[i].a X[i].p).toList := rfl
 rw [← this, List.getElem?_take_of_lt hj] at hv
 exact hv
def zNd : Nod := ⟨0, 0, 0, 0, 0, 0, 0⟩
def ToldS (X : List Spot) (id : Int) (Yes : Spot → Prop) (No : Prop) : Prop := (∃ k, ∃ h : k < X.length, X[k].nd.id = id ∧ Yes X[k]) ∨ ((∀ i (h : i < X.length), X[i].nd.id ≠ id) ∧ No)
theorem node_cells {w : World} {b : Nat} {d : Nod} (h : Blk w b (ndL d).toArray 38) : w.cell? ⟨b, 0, none⟩ = some (.int .u64 d.id) ∧ w.cell? ⟨b, 1, none⟩ = some (.int .u64 d.par) ∧ w.cell? ⟨b, 2, none⟩ = some (.int .i64 d.org) ∧ w.cell? ⟨b, 3, none⟩ = some (.int .u64 d.tree) ∧ w.cell? ⟨b, 4, none⟩ = some (.int .i64 d.dep) ∧ w.cell? ⟨b, 5, none⟩ = some (.int .i64 d.fr) ∧ w.cell? ⟨b, 6, none⟩ = some (.int .i64 d.til) ∧ ∀ j, w.frozen? ⟨b, j, none⟩ = false :=
 ⟨h.cell 0 rfl, h.cell 1 rfl, h.cell 2 rfl, h.cell 3 rfl, h.cell 4 rfl, h.cell 5 rfl, h.cell 6 rfl, fun j => h.frozen j⟩
theorem blk_loadN {w : World} {b : Nat} {d : Nod} (h : Blk w b (ndL d).toArray 38) : (loadVar 38 ⟨b, 0, none⟩).run Tryz.prog w = .ok (ndV d) w :=
 run_loadVar_mid w b 0 38 (ndL d) _ (fun j v hv => by rw [Nat.zero_add]; exact h.cell j (by rw [List.getElem?_toArray]; exact hv)) Tryz.underlying38 rfl (by kernel_rfl)
set_option maxHeartbeats 4000000 in
theorem node_any (f sb : Nat) (X : List Spot) (K : Nat → List Int) (rv : Value) (R : List Int) (id : Int) (w : World) (h : ForestAt w f sb X K rv R) :
  Calls Tryz.prog 10 #[.pointer (some ⟨f, 0, none⟩), .int .u64 id] w fun e w' => ToldS X id (fun x => e = .returned (.tuple #[ndV x.nd, .bool true])) (e = .returned (.tuple #[ndV zNd, .bool false])) ∧ Below w.heap.size w w' := by
 have B1 : Below w.heap.size w (w.alloc (.cells (ndL zNd).toArray 38)) := (Below.refl _ _).alloc (Nat.le_refl _) _
 have h1 := h.below B1
 have HF := find_any f sb X.length X id _ (h1.head.cell 0 rfl) h1.row rfl h1.rise (by have := h1.small; omega)
 have hN : Blk (w.alloc (.cells (ndL zNd).toArray 38)) w.heap.size (ndL zNd).toArray 38 := Blk.new _ _ _
 have HN : Hid (Blk (w.alloc (.cells (ndL zNd).toArray 38)) w.heap.size (ndL zNd).toArray 38) := hN
 have HH : Hid _ := h1
 have HB1 : Hid _ := B1
 clear h h1 hN B1
 have ez : ndL zNd = [.int .u64 0, .int .u64 0, .int .i64 0, .int .u64 0, .int .i64 0, .int .i64 0, .int .i64 0] := rfl
 rw [ez] at HF
 go_enter Tryz.func10, Tryz.ntmps10
 go_wp2_with (first
  | (go_at_call 36; refine HF.mono ?_; clear HF; rintro e w1 ⟨⟨v, rfl, hv⟩, hb⟩; have F1 := ForestAt.below HH.out hb; have N1 : Hid (Blk w1 w.heap.size (ndL zNd).toArray 38) := Blk.below HN.out hb (by simp); have c0 := F1.head.cell 0 rfl; obtain ⟨o0, o1, o2, o3, o4, o5, o6, fz⟩ := node_cells N1.out; have RR : Hid (∀ k (hk : k < X.length), w1.rangeAt sb (k * 21 + 13) (ndL X[k].nd)) := fun k hk => F1.row.node k hk; have HW : Hid (Below w.heap.size w w1) := HB1.out.trans (hb.mono (by simp)); clear F1 hb; rcases hv with ⟨k, hk, hid, rfl⟩ | ⟨hno, k, rfl⟩)
  | (refine wpList_load_mid rfl 38 _ rfl sb (k * 21 + 13) rfl (ndL X[k].nd) _ (RR.out k hk) Tryz.underlying38 rfl (by kernel_rfl) ?_)
  | (refine wpList_stW rfl 38 _ _ rfl w.heap.size (ndL zNd) (ndL X[k].nd) 38 N1.out rfl rfl rfl (by kernel_rfl) (ndL_one _) ?_; intro w2 n2 u2)
  | fail)
 ·(try simp only [Exit.inBlock, Exit.then])
  refine bodyPost_ret (v := .tuple #[ndV X[k].nd, .bool true]) ?_ rfl ⟨Or.inl ⟨k, hk, hid, rfl⟩, HW.out.trans (u2.below HW.out.size (fun k hk e => by omega))⟩
  rw [results_cell_tmp rfl]
  simp [asAddr, Result.andThen, blk_loadN n2]
 ·(try simp only [Exit.inBlock, Exit.then])
  have u2 := setCells_upd w.heap.size (ndL zNd) 0 w1
  have n2 : Blk (w1.setCells w.heap.size 0 (ndL zNd)) w.heap.size (ndL zNd).toArray 38 := by
   have := setCells_blk (ndL zNd) 0 (ndL zNd) w1 N1.out
   rwa [putL_eq _ _ 0 (by simp)] at this
  have hld := blk_loadN n2
  simp only [World.setCells, ndL, zNd, Nat.zero_add, Nat.reduceAdd] at hld u2
  refine bodyPost_ret (v := .tuple #[ndV zNd, .bool false]) ?_ rfl ⟨Or.inr ⟨hno, rfl⟩, HW.out.trans (u2.below HW.out.size (fun k hk e => by omega))⟩
  rw [results_cell_tmp rfl]
  simp [asAddr, Result.andThen, hld, zNd]
def zSpL : List Value := [.int .u64 0, .int .u64 0, .int .u64 0, .int .u64 0, .slice none 0 0, .string ⟨#[]⟩, .string ⟨#[]⟩, .int .i64 0, .int .i64 0, .int .i64 0, .int .i64 0, .slice none 0 0, .slice none 0 0]
theorem blk_loadS {w : World} {b : Nat} {cs : List Value} (hl : cs.length = 13) (h : Blk w b cs.toArray 102) : (loadVar 102 ⟨b, 0, none⟩).run Tryz.prog w = .ok (.agg cs.toArray) w :=
 run_loadVar_mid w b 0 102 cs _ (fun j v hv => by rw [Nat.zero_add]; exact h.cell j (by rw [List.getElem?_toArray]; exact hv)) Tryz.underlying102 rfl (by rw [hl]; kernel_rfl)
theorem span_cells {w : World} {b : Nat} (h : Blk w b zSpL.toArray 102) : w.cell? ⟨b, 0, none⟩ = some (.int .u64 0) ∧ w.cell? ⟨b, 1, none⟩ = some (.int .u64 0) ∧ w.cell? ⟨b, 2, none⟩ = some (.int .u64 0) ∧ w.cell? ⟨b, 3, none⟩ = some (.int .u64 0) ∧ w.cell? ⟨b, 4, none⟩ = some (.slice none 0 0) ∧ w.cell? ⟨b, 5, none⟩ = some (.string ⟨#[]⟩) ∧ w.cell? ⟨b, 6, none⟩ = some (.string ⟨#[]⟩) ∧ w.cell? ⟨b, 7, none⟩ = some (.int .i64 0) ∧ w.cell? ⟨b, 8, none⟩ = some (.int .i64 0) ∧ w.cell? ⟨b, 9, none⟩ = some (.int .i64 0) ∧ w.cell? ⟨b, 10, none⟩ = some (.int .i64 0) ∧ w.cell? ⟨b, 11, none⟩ = some (.slice none 0 0) ∧ w.cell? ⟨b, 12, none⟩ = some (.slice none 0 0) ∧ ∀ j, w.frozen? ⟨b, j, none⟩ = false :=
 ⟨h.cell 0 rfl, h.cell 1 rfl, h.cell 2 rfl, h.cell 3 rfl, h.cell 4 rfl, h.cell 5 rfl, h.cell 6 rfl, h.cell 7 rfl, h.cell 8 rfl, h.cell 9 rfl, h.cell 10 rfl, h.cell 11 rfl, h.cell 12 rfl, fun j => h.frozen j⟩
set_option maxHeartbeats 4000000 in
theorem span_any (f sb : Nat) (X : List Spot) (K : Nat → List Int) (rv : Value) (R : List Int) (id : Int) (w : World) (h : ForestAt w f sb X K rv R) :
  Calls Tryz.prog 40 #[.pointer (some ⟨f, 0, none⟩), .int .u64 id] w fun e w' => ToldS X id (fun x => ∃ p', e = .returned (.tuple #[spV x.a p', .bool true]) ∧ (∀ w5 : World, (∀ k, w.heap.size ≤ k → k < w'.heap.size → w5.heap[k]? = w'.heap[k]?) → SpAt w5 x.a p')) (e = .returned (.tuple #[.agg zSpL.toArray, .bool false])) ∧ Below w.heap.size w w' := by
 have B1 : Below w.heap.size w (w.alloc (.cells zSpL.toArray 102)) := (Below.refl _ _).alloc (Nat.le_refl _) _
 have h1 := h.below B1
 have HF := find_any f sb X.length X id _ (h1.head.cell 0 rfl) h1.row rfl h1.rise (by have := h1.small; omega)
 have hN : Blk (w.alloc (.cells zSpL.toArray 102)) w.heap.size zSpL.toArray 102 := Blk.new _ _ _
 have HN : Hid (Blk (w.alloc (.cells zSpL.toArray 102)) w.heap.size zSpL.toArray 102) := hN
 have HH : Hid _ := h1
 have HB1 : Hid _ := B1
 clear h h1 hN B1
 unfold zSpL at HF
 go_enter Tryz.func40, Tryz.ntmps40
 go_wp2_with (first
  | (go_at_call 36; refine HF.mono ?_; clear HF; rintro e w1 ⟨⟨v, rfl, hv⟩, hb⟩; have F1 := ForestAt.below HH.out hb; have N1 : Hid (Blk w1 w.heap.size zSpL.toArray 102) := Blk.below HN.out hb (by simp); have c0 := F1.head.cell 0 rfl; obtain ⟨o0, o1, o2, o3, o4, o5, o6, o7, o8, o9, o10, o11, o12, fz⟩ := span_cells N1.out; have RR : Hid (∀ k (hk : k < X.length), w1.rangeAt sb (k * 21) (spC X[k].a X[k].p).toList ∧ Calls Tryz.prog 52 #[spV X[k].a X[k].p] w1 fun e w' => ∃ p', e = .returned (spV X[k].a p') ∧ (∀ w5, (∀ k, w1.heap.size ≤ k → k < w'.heap.size → w5.heap[k]? = w'.heap[k]?) → SpAt w5 X[k].a p') ∧ Below w1.heap.size w1 w') := fun k hk => ⟨F1.row.span k hk, clone_any _ _ w1 (F1.spans k hk).1 (F1.spans k hk).2.1 (F1.spans k hk).2.2.1 (F1.spans k hk).2.2.2⟩; have HW : Hid (Below w.heap.size w w1) := HB1.out.trans (hb.mono (by simp)); have hsz' : w.heap.size + 1 ≤ w1.heap.size := (by have := hb.size; simpa using this); have hsz : Hid (w.heap.size + 1 ≤ w1.heap.size) := hsz'; clear hsz'; clear F1 hb; rcases hv with ⟨k, hk, hid, rfl⟩ | ⟨hno, k, rfl⟩)
  | (refine wpList_load_mid rfl 102 _ rfl sb (k * 21) rfl (spC X[k].a X[k].p).toList _ (RR.out k hk).1 Tryz.underlying102 rfl (by kernel_rfl) ?_)
  | (go_at_call 52; refine (RR.out k hk).2.mono ?_; rintro e w2 ⟨p', rfl, hst, hb2⟩)
  | (refine wpList_stW rfl 102 _ _ rfl w.heap.size zSpL (spC X[k].a p').toList 102 (Blk.below N1.out hb2 (Blk.lt N1.out)) rfl rfl rfl (by kernel_rfl) (spC_one _ _) ?_; intro w3 n3 u3))
 ·(try simp only [Exit.inBlock, Exit.then])
  refine bodyPost_ret (v := .tuple #[spV X[k].a p', .bool true]) ?_ rfl ⟨Or.inl ⟨k, hk, hid, p', rfl, fun w5 h5 => hst w5 (fun j hj1 hj2 => (h5 j (by have := HW.out.size; omega) (by have := u3.size; omega)).trans (u3.block j hj2 (by have := hsz.out; omega)))⟩, (HW.out.trans (hb2.mono HW.out.size)).trans (u3.below (by have := HW.out.size; have := hb2.size; omega) (fun k hk e => by omega))⟩
  rw [results_cell_tmp rfl]
  have hld := blk_loadS rfl n3
  simp [asAddr, Result.andThen, hld, spV]
 ·(try simp only [Exit.inBlock, Exit.then])
  have u2 := setCells_upd w.heap.size zSpL 0 w1
  have n2 : Blk (w1.setCells w.heap.size 0 zSpL) w.heap.size zSpL.toArray 102 := by
   have := setCells_blk zSpL 0 zSpL w1 N1.out
   rwa [putL_eq _ _ 0 (by simp)] at this
  have hld := blk_loadS rfl n2
  simp only [World.setCells, zSpL, Nat.zero_add, Nat.reduceAdd] at hld u2
  refine bodyPost_ret (v := .tuple #[.agg zSpL.toArray, .bool false]) ?_ rfl ⟨Or.inr ⟨hno, rfl⟩, HW.out.trans (u2.below HW.out.size (fun k hk e => by omega))⟩
  rw [results_cell_tmp rfl]
  simp [asAddr, Result.andThen, hld, zSpL]
theorem roots_any (f sb : Nat) (X : List Spot) (K : Nat → List Int) (rv : Value) (R : List Int) (w : World) (h : ForestAt w f sb X K rv R) :
  Calls Tryz.prog 9 #[.pointer (some ⟨f, 0, none⟩)] w fun e w' => ∃ r, e = .returned (.slice (some ⟨r, 0, none⟩) R.length R.length) ∧ Blk w' r (fillC .u64 (idsOf X R) 0) 33 ∧ w.heap.size ≤ r ∧ Below w.heap.size w w' := by
 obtain ⟨ad, cap, rfl, hV, hl, hm⟩ := h.roots
 have NA := names_any f sb X K _ R w h ad cap R hV hl hm
 have c1 := h.head.cell 1 rfl
 clear h hV hl hm
 go_enter Tryz.func9, Tryz.ntmps9
 go_wp2_with (go_at_call 35; refine NA.mono ?_; rintro e w1 ⟨r, rfl, h1⟩)
 go_ret
 exact ⟨r, rfl, h1⟩
set_option maxHeartbeats 1000000 in
theorem children_any (f sb : Nat) (X : List Spot) (K : Nat → List Int) (rv : Value) (R : List Int) (id : Int) (w : World) (h : ForestAt w f sb X K rv R) :
  Calls Tryz.prog 15 #[.pointer (some ⟨f, 0, none⟩), .int .u64 id] w fun e w' => ((∃ k, ∃ h : k < X.length, X[k].nd.id = id ∧ ∃ r, e = .returned (.slice (some ⟨r, 0, none⟩) (K k).length (K k).length) ∧ Blk w' r (fillC .u64 (idsOf X (K k)) 0) 33 ∧ w.heap.size ≤ r) ∨ ((∀ i (h : i < X.length), X[i].nd.id ≠ id) ∧ e = .returned (.slice none 0 0))) ∧ Below w.heap.size w w' := by
 have HF := find_any f sb X.length X id w (h.head.cell 0 rfl) h.row rfl h.rise (by have := h.small; omega)
 have HH : Hid _ := h
 clear h
 go_enter Tryz.func15, Tryz.ntmps15
 go_wp2_with (first
  | (go_at_call 36; refine HF.mono ?_; clear HF; rintro e w1 ⟨⟨v, rfl, hv⟩, hb⟩; have F1 := ForestAt.below HH.out hb; have c0 := F1.head.cell 0 rfl; have HF1 : Hid _ := F1; have HB : Hid _ := hb; clear F1 hb; rcases hv with ⟨k, hk, hid, rfl⟩ | ⟨hno, k, rfl⟩; (obtain ⟨ad, cap, hkv, hV, hl, hm⟩ := HF1.out.kids k hk; have c20 : w1.cell? ⟨sb, k * 21 + 20, none⟩ = some X[k].kv := HF1.out.row.spot k hk 20 (by omega) rfl; rw [hkv] at c20; have NA := names_any f sb X K _ R w1 HF1.out ad cap (K k) hV hl hm; clear hV hl hm hkv))
  | (go_at_call 35; refine NA.mono ?_; rintro e w2 ⟨r, rfl, h1, h2, h3⟩))
 ·go_ret
  exact ⟨Or.inl ⟨k, hk, hid, r, rfl, h1, by have := HB.out.size; omega⟩, HB.out.trans (h3.mono HB.out.size)⟩
 ·go_ret
  exact ⟨Or.inr ⟨hno, rfl⟩, HB.out⟩
end Go.Proofs.YtnffedmcblbkoaaGreatDoor
