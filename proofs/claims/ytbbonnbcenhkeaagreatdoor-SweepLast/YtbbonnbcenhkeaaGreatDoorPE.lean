/-
  PE.
-/
import Derived.Test.YtbbonnbcenhkeaaGreatDoorPD
namespace Go.Proofs.YtbbonnbcenhkeaaGreatDoor
open Go Go.RowKit
set_option maxRecDepth 100000

theorem step_appX {P : Program} (w : World) {ops : Array Oper} {o : Oper} {a : Act} {K : Act → World → Prop} {Q : Exit → Act → World → Prop} {E : Prop} (hgd : o.guard = none) (s x : Operand) (t tx : TypeId)
    (ho : o.op = .call { callee := .builtin .append, args := #[s, x], argTypes := #[t, tx] })
    (base : Nat) (e : TypeId) (i : TypeInfo) (z : Value) (size bytes : Nat) (ht : P.underlying t = some (.slice e)) (hi : P.info? e = some i) (hz : i.zero = some z) (hsize : i.size = size) (hby : i.bytes = bytes) (hzs : z.cells.size = size)
    (v : Value) (n : Nat) (xs : List Value) (hv : a.eval s = v) (hown : w.ownsRow base e size v n xs) (y : Value) (m : Nat) (news : List Value) (hx : a.eval x = y) (hs : Src P size tx y m news w)
    (h63 : n + m ≤ maxLen) (hbytes : (n + m + (n + m) / 4 + 192) * bytes ≤ 281474976710656) (hbase : base ≤ w.heap.size)
    (h : ∀ v' w', w'.ownsRow base e size v' (n + m) (xs ++ news) → w.grownBy w' v.ownBlock → Moved w v v' → K (a.put o.dst v') w') : if Region.wanted o (yielded ops a.tmps) = true then Oper.wp P o a w K Q else E := by
  subst hby
  have hw : Region.wanted o (yielded ops a.tmps) = true := by simp [Region.wanted, hgd]
  rw [if_pos hw]
  obtain ⟨v', w', hr, h2, h3, h4⟩ := run_appW (P := P) w base t tx o.type e i z size ht hi hz hsize hzs v n xs hown y m news hs h63 hbytes hbase
  unfold Oper.wp execOp
  simp only [ho, resolve, invoke, builtin, Sem.run_bind, Sem.run_pure, Result.andThen_ok, List.map_toArray, List.map_cons, List.map_nil, hv, hx, hr]
  exact h v' w' h2 h3 h4
theorem src_at3 {P : Program} {tx e : TypeId} (hu : P.underlying tx = some (.slice e)) {W : World} {b : Nat} {x y z : Value} {t : TypeId} (h : W.heap[b]? = some (.cells #[x, y, z] t (0, 0))) (h1 : x.oneCell' = true) (h2 : y.oneCell' = true) (h3 : z.oneCell' = true) : Src P 3 tx (.slice (some ⟨b, 0, none⟩) 1 1) 1 [x, y, z] W := by
  refine Src.ofSlice _ hu ⟨b, 0, none⟩ 1 1 _ rfl ?_ ?_
  · intro j u hj
    match j, hj with
    | 0, hj => simp at hj; subst hj; simp [Addr.add, World.cell?, h]
    | 1, hj => simp at hj; subst hj; simp [Addr.add, World.cell?, h]
    | 2, hj => simp at hj; subst hj; simp [Addr.add, World.cell?, h]
    | j + 3, hj => simp at hj
  · intro u hu
    simp at hu
    rcases hu with rfl | rfl | rfl
    · exact h1
    · exact h2
    · exact h3
/-- Moments are hung on a span, and put into the path. -/
theorem SwS.hang {base : Nat} {W w5 V : World} {A : Nat → Sp} {fin : Nat → Nod} {C : Nat → List Nat} {tb : Nat} {D : List Nat} {p : Nat → Pl} {B : Nat → Nat} {cv : Nat → Value} {cb : Nat → Nat} {r sv : Value} {vs : List Value} {lv : Value} {L : List (Nat × Int × Int)} (h : SwS base W A fin C tb D p B cv cb r sv vs lv L) {s : Nat} (hs : s ∈ D) (a b : Int) (hb : Below W.heap.size W w5) (hV : w5.setCell ⟨B s, 16, none⟩ (.int .u64 (IntKind.u64.wrap (hungI L s + lenI (a, b)))) = V) :
    V.cell? ⟨tb, 2, none⟩ = some lv ∧ V.cell? ⟨B s, 2, none⟩ = some (.int .u64 (A s).id) ∧ base ≤ V.heap.size ∧ (∀ u, Below V.heap.size V u → u.ownsRow base 69 3 lv L.length (L.flatMap (fun l => legC (legX A l)))) ∧
    ∀ (u2 u3 : World) (v' : Value), Below V.heap.size V u2 → u2.grownBy u3 lv.ownBlock → Moved u2 lv v' → u3.ownsRow base 69 3 v' (L.length + 1) (L.flatMap (fun l => legC (legX A l)) ++ [.int .u64 (A s).id, .int .i64 a, .int .i64 b]) → (SwS base (u3.setCell ⟨tb, 2, none⟩ v') A fin C tb D p B cv cb r sv vs v' (L ++ [(s, a, b)]) ∧ Upd (fun k => base ≤ k) W (u3.setCell ⟨tb, 2, none⟩ v')) ∧ u3.cell? ⟨tb, 2, none⟩ = some lv ∧ u3.frozen? ⟨tb, 2, none⟩ = false := by
  have h5 := h.below hb
  have u1 : Upd (fun k => k = B s) w5 V := by rw [← hV]; exact Upd.setCell (S := fun k => k = B s) (Upd.refl _ _) (p := ⟨B s, 16, none⟩) (fun _ => rfl) _
  have hsz : V.heap.size = w5.heap.size := by rw [← hV]; simp
  have bS : Blk V (B s) (swL (A s) (p s) (fin s) (cv s) (hungI (L ++ [(s, a, b)]) s)) 111 := by
    have := (h5.blk s hs).set 16 (.int .u64 (IntKind.u64.wrap (hungI L s + lenI (a, b))))
    rw [swL_set16, hV] at this
    rw [hungI_snoc, if_pos rfl]
    exact this
  have bO : ∀ y ∈ D, Blk V (B y) (swL (A y) (p y) (fin y) (cv y) (hungI (L ++ [(s, a, b)]) y)) 111 := fun y hy => by
    by_cases e : y = s
    · subst e; exact bS
    · rw [hungI_snoc, if_neg (fun e' => e e'.symm)]
      exact (h5.blk y hy).upd u1 (fun e' => e (h.inj y hy s hs e'))
  have kO : ∀ y ∈ D, KidAt V (cv y) (cb y) ((C y).map (pB B)) := fun y hy => (h5.kid y hy).upd u1 (fun hn e => by
    obtain ⟨c, fr, hc⟩ := h5.kidT hy (fun e => hn (by rw [e]; rfl))
    have hB := h5.blk s hs
    unfold Blk at hB
    rw [e, hB] at hc
    simp at hc)
  have tV : Blk V tb (twL r sv lv) 101 := h5.tree.upd u1 (fun e => blk_ne h5.tree (h5.blk s hs) (by decide) e)
  have rV : V.ownsRow base 98 1 sv vs.length vs := ownsRow_upd h5.row u1 (fun k e e' => row_type h5.row (h5.blk s hs) (by decide) (by rw [← e']; exact e))
  have lV : V.ownsRow base 69 3 lv L.length (L.flatMap (fun l => legC (legX A l))) := ownsRow_upd h5.legs u1 (fun k e e' => row_type h5.legs (h5.blk s hs) (by decide) (by rw [← e']; exact e))
  have uW : Upd (fun k => base ≤ k) W V := (Upd.ofBelow (S := fun k => base ≤ k) hb (fun k h1 h2 => by omega)).trans (u1.mono (S' := fun k => base ≤ k) (fun k _ e => by rw [e]; exact h.low s hs)) (fun _ _ h => h)
  refine ⟨tV.cell 2 rfl, bS.cell 2 rfl, by have := h5.lb; omega, fun u hu => ownsRow_upd lV (Upd.ofBelow (S := fun _ => False) hu (fun k h1 h2 => by omega)) (fun _ _ h => h), fun u2 u3 v' hb2 hg hm ho => ?_⟩
  have b2 : Upd (fun _ => False) V u2 := Upd.ofBelow (S := fun _ => False) hb2 (fun k h1 h2 => by omega)
  have u3' : Upd (fun k => lv.ownBlock = some k) u2 u3 := ⟨hg.os, hg.tape, hg.output, hg.size, fun k hk hn => hg.block k hk (fun e => hn e.symm)⟩
  have u4 : Upd (fun k => k = tb) u3 (u3.setCell ⟨tb, 2, none⟩ v') := Upd.setCell (S := fun k => k = tb) (Upd.refl _ _) (p := ⟨tb, 2, none⟩) (fun _ => rfl) _
  have l2 := ownsRow_upd lV b2 (fun _ _ h => h)
  have t2 := tV.upd b2 (fun h => h)
  have t3 : Blk u3 tb (twL r sv lv) 101 := t2.upd u3' (fun e => row_type l2 t2 (by decide) e)
  have hmv : ∀ g, v'.ownBlock = some g → lv.ownBlock = some g ∨ u2.heap.size ≤ g := fun g e => by
    rcases hm with hm | ⟨k, hk, hs⟩
    · rw [hm] at e; exact Or.inl e
    · rw [hk] at e; cases e; exact Or.inr hs
  have uw : Upd (fun k => k = tb ∨ lv.ownBlock = some k) u2 (u3.setCell ⟨tb, 2, none⟩ v') := (u3'.mono (S' := fun k => k = tb ∨ lv.ownBlock = some k) (fun k _ e => Or.inr e)).trans u4 (fun k _ e => Or.inl e)
  have no : ∀ (k : Nat) (c : Array Value) (T : TypeId) (fr : Nat × Nat), u2.heap[k]? = some (.cells c T fr) → T ≠ 101 → T ≠ 69 → ¬ (k = tb ∨ lv.ownBlock = some k) := fun k c T fr hk h1 h2 hor => by
    rcases hor with e | e
    · unfold Blk at t2
      rw [← e, hk] at t2
      simp at t2
      exact h1 t2.2.1
    · exact row_type l2 hk h2 e
  have hs2 := b2.size
  have hs3 := u3'.size
  have hs4 := u4.size
  have hlb := h5.lb
  refine ⟨⟨⟨fun y hy => ?_, h.low, h.inj, fun y hy => ?_, ?_, ?_, ?_, h.ap, h.cl, h.tl, by omega⟩, ?_⟩, t3.cell 2 rfl, t3.frozen 2⟩
  · have q := (bO y hy).upd b2 (fun h => h)
    exact q.upd uw (no _ _ _ _ q (by decide) (by decide))
  · have q := (kO y hy).upd b2 (fun _ h => h)
    refine q.upd uw (fun hn => ?_)
    obtain ⟨ad, cap, _, q2⟩ := q
    obtain ⟨_, c, fr, q4, _⟩ := q2 hn
    exact no _ _ _ _ q4 (by decide) (by decide)
  · have := t3.set 2 v'
    rwa [twL_set2] at this
  · refine ownsRow_upd (ownsRow_upd rV b2 (fun _ _ h => h)) uw (fun k e => ?_)
    obtain ⟨cur, hh⟩ := owns_type (ownsRow_upd rV b2 (fun _ _ h => h)) e
    exact no _ _ _ _ hh (by decide) (by decide)
  · have := ownsRow_upd ho u4 (fun k e e' => by
      subst e'
      rcases hmv _ e with h' | h'
      · exact row_type l2 t2 (by decide) h'
      · have := t2.lt; omega)
    rw [List.length_append, List.flatMap_append]
    exact this
  · refine ((uW.trans (b2.mono (S' := fun k => base ≤ k) (fun k _ h => h.elim)) (fun _ _ h => h)).trans (u3'.mono (S' := fun k => base ≤ k) (fun k hk e => ?_)) (fun _ _ h => h)).trans (u4.mono (S' := fun k => base ≤ k) (fun k _ e => by rw [e]; exact h.tl)) (fun _ _ h => h)
    rcases l2.2 with ⟨e1, _⟩ | ⟨g', cap', cur, e1, hb', _⟩
    · rw [e1] at e; simp [Value.ownBlock] at e
    · rw [e1] at e
      simp [Value.ownBlock] at e
      omega
set_option maxHeartbeats 4000000 in
theorem hangW_some (base : Nat) (A : Nat → Sp) (fin : Nat → Nod) (C : Nat → List Nat) (tb : Nat) (D : List Nat) (p : Nat → Pl) (B : Nat → Nat) (cv : Nat → Value) (cb : Nat → Nat) (r sv : Value) (vs : List Value) (lv : Value) (L : List (Nat × Int × Int)) (s : Nat) (hs : s ∈ D) (a b : Int) (hab : a < b) (ha : In64 (a, b)) (hl : L.length ≤ 4000) (W : World) (h : SwS base W A fin C tb D p B cv cb r sv vs lv L) :
    Calls Tryz.prog 96 #[.pointer (some ⟨tb, 0, none⟩), .pointer (some ⟨B s, 0, none⟩), .int .i64 a, .int .i64 b] W fun e W' => e = .returned (.tuple #[]) ∧ ∃ lv', SwS base W' A fin C tb D p B cv cb r sv vs lv' (L ++ [(s, a, b)]) ∧ Upd (fun k => base ≤ k) W W' := by
  obtain ⟨i0, hi0, hz0, hz1, hz2⟩ := infoLeg_parts
  have LE := fun w => length_any (a, b) w ha
  have bs := h.blk s hs
  have c16 : W.cell? ⟨B s, 13 + 3, none⟩ = some (.int .u64 (hungI L s)) := bs.cell 16 rfl
  have HB : Hid (∀ w5, Below W.heap.size W w5 → w5.cell? ⟨B s, 13 + 3, none⟩ = some (.int .u64 (hungI L s)) ∧ w5.frozen? ⟨B s, 13 + 3, none⟩ = false) := fun w5 hb => ⟨(bs.below hb bs.lt).cell 16 rfl, (bs.below hb bs.lt).frozen 16⟩
  have HH : Hid (SwS base W A fin C tb D p B cv cb r sv vs lv L) := h
  clear h ha bs
  go_enter Tryz.func96, Tryz.ntmps96
  go_wp2
  go_region_law (go_simp; go_at_call 116; (with_reducible refine (LE _).mono ?_); rintro e w5 ⟨rfl, hb5⟩; have H5 : Hid (Below W.heap.size W w5) := ((Below.refl W.heap.size W).drew).trans hb5; obtain ⟨d1, d2⟩ := HB.out w5 H5.out; clear hb5)
  all_goals
    obtain ⟨V, hV⟩ : ∃ V, w5.setCell ⟨B s, 16, none⟩ (.int .u64 (IntKind.u64.wrap (hungI L s + lenI (a, b)))) = V := ⟨_, rfl⟩
    rw [hV]
    obtain ⟨e1, e2, hlb, e3, e4⟩ := SwS.hang HH.out hs a b H5.out hV
    have HOK : Hid (∀ u, Below V.heap.size V u → u.ownsRow base 69 3 lv L.length (L.flatMap (fun l => legC (legX A l)))) := e3
    have HAD : Hid (∀ (u2 u3 : World) (v' : Value), Below V.heap.size V u2 → u2.grownBy u3 lv.ownBlock → Moved u2 lv v' → u3.ownsRow base 69 3 v' (L.length + 1) (L.flatMap (fun l => legC (legX A l)) ++ [.int .u64 (A s).id, .int .i64 a, .int .i64 b]) → (SwS base (u3.setCell ⟨tb, 2, none⟩ v') A fin C tb D p B cv cb r sv vs v' (L ++ [(s, a, b)]) ∧ Upd (fun k => base ≤ k) W (u3.setCell ⟨tb, 2, none⟩ v')) ∧ u3.cell? ⟨tb, 2, none⟩ = some lv ∧ u3.frozen? ⟨tb, 2, none⟩ = false) := e4
    have y1 := fun (o : Obj) => (World.cell?_alloc_lt V o ⟨tb, 2, none⟩ (World.block_lt_of_cell? V _ e1)).trans e1
    clear e3 e4 hV d1 d2 c16 HB LE H5
    have hl' : Hid (L.length ≤ 4000) := hl
    go_wp2
    go_region_law (refine step_appX _ (by rfl) _ _ 65 65 (by rfl) base 69 i0 (.agg #[.int .u64 0, .int .i64 0, .int .i64 0]) 3 24 Tryz.underlying65 hi0 hz0 hz1 hz2 rfl lv L.length (L.flatMap (fun l => legC (legX A l))) (by rfl) (HOK.out _ (by repeat' first | exact Below.refl _ _ | refine Below.alloc ?_ (by first | omega | (simp; omega) | (simp; done)) _ | refine Below.drew ?_)) (.slice (some ⟨V.heap.size, 0, none⟩) 1 1) 1 [.int .u64 (A s).id, .int .i64 a, .int .i64 b] (by rfl) (src_at3 Tryz.underlying65 (by first | exact heap_alloc_new _ _ | exact heap_alloc_new V.drew _) rfl rfl rfl) (by have := hl'.out; unfold maxLen; omega) (by have := hl'.out; omega) (by first | (simp; omega) | omega) ?_; intro v8 w8 o8 g8 m8; obtain ⟨ad8, cap8, rfl⟩ := owns_sliceS o8; obtain ⟨A8, f8, f9⟩ := HAD.out _ w8 _ (by repeat' first | exact Below.refl _ _ | refine Below.alloc ?_ (by first | omega | (simp; omega) | (simp; done)) _ | refine Below.drew ?_) g8 m8 o8; have HA8 : Hid (SwS base (w8.setCell ⟨tb, 2, none⟩ (.slice ad8 (L.length + 1) cap8)) A fin C tb D p B cv cb r sv vs (.slice ad8 (L.length + 1) cap8) (L ++ [(s, a, b)]) ∧ Upd (fun k => base ≤ k) W (w8.setCell ⟨tb, 2, none⟩ (.slice ad8 (L.length + 1) cap8))) := A8; clear A8 o8 g8 m8 HOK HAD)
    all_goals
      go_wp2
      go_end0
      exact ⟨rfl, _, HA8.out⟩
theorem hangW_any (base : Nat) (A : Nat → Sp) (fin : Nat → Nod) (C : Nat → List Nat) (tb : Nat) (D : List Nat) (p : Nat → Pl) (B : Nat → Nat) (cv : Nat → Value) (cb : Nat → Nat) (r sv : Value) (vs : List Value) (lv : Value) (L : List (Nat × Int × Int)) (s : Nat) (hs : s ∈ D) (a b : Int) (ha : In64 (a, b)) (hl : L.length ≤ 4000) (W : World) (h : SwS base W A fin C tb D p B cv cb r sv vs lv L) :
    Calls Tryz.prog 96 #[.pointer (some ⟨tb, 0, none⟩), .pointer (some ⟨B s, 0, none⟩), .int .i64 a, .int .i64 b] W fun e W' => e = .returned (.tuple #[]) ∧ ∃ lv', SwS base W' A fin C tb D p B cv cb r sv vs lv' (L ++ hangM s a b) ∧ Upd (fun k => base ≤ k) W W' := by
  by_cases hab : a < b
  · have := hangW_some base A fin C tb D p B cv cb r sv vs lv L s hs a b hab ha hl W h
    unfold hangM
    rw [if_pos hab]
    exact this
  · have HH : Hid (SwS base W A fin C tb D p B cv cb r sv vs lv L) := h
    clear h
    go_enter Tryz.func96, Tryz.ntmps96
    go_wp2
    go_end0
    unfold hangM
    rw [if_neg (by omega), List.append_nil]
    exact ⟨rfl, ⟨lv, HH.out⟩, Upd.refl _ _⟩
end Go.Proofs.YtbbonnbcenhkeaaGreatDoor
