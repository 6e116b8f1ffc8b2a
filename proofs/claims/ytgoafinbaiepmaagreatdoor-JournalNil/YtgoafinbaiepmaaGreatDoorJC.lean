import Derived.Test.YtgoafinbaiepmaaGreatDoorJB
/-
  Layer 8 (journal): Append of the first record.
-/
namespace Go.Proofs.YtgoafinbaiepmaaGreatDoor
open Go.RowKit Go.Shelf Go.Maps Go.WideMaps
set_option maxRecDepth 100000

theorem Jn.cells {b : Nat} {w : World} {j d gf cf gb nb cb : Nat} {nx fl : Int} {X : List Int} (h : Jn b w j d gf cf gb nb cb nx fl X) : w.cell? ⟨j, 0, none⟩ = some (.pointer (some ⟨d, 0, none⟩)) ∧ w.cell? ⟨j, 1, none⟩ = some (.int .i64 64) ∧ w.cell? ⟨j, 2, none⟩ = some (.slice (some ⟨gf, 0, none⟩) 1 cf) ∧ w.cell? ⟨j, 3, none⟩ = some (.int .u64 nx) ∧ w.cell? ⟨j, 4, none⟩ = some (.int .u64 fl) ∧ w.cell? ⟨j, 5, none⟩ = some (.bool false) ∧ (∀ i, w.frozen? ⟨j, i, none⟩ = false) :=
  ⟨blk_cell h.blk 0 rfl, blk_cell h.blk 1 rfl, blk_cell h.blk 2 rfl, blk_cell h.blk 3 rfl, blk_cell h.blk 4 rfl, blk_cell h.blk 5 rfl, fun i => free3 h.blk i⟩
theorem drewN_add (w : World) : ∀ (m n : Nat), (w.drewN m).drewN n = w.drewN (m + n)
  | m, 0 => rfl
  | m, n + 1 => by
    show ((w.drewN m).drewN n).drew = (w.drewN (m + n)).drew
    rw [drewN_add w m n]
theorem jlast {b : Nat} {w : World} {j d gf cf gb nb cb : Nat} {nx fl : Int} {X : List Int} (h : Jn b w j d gf cf gb nb cb nx fl X) :
    Calls Tryz.prog 124 #[.pointer (some ⟨j, 0, none⟩)] w fun e w' => e = .returned (.pointer (some ⟨gf, 0, none⟩)) ∧ ∃ m, w' = w.drewN m := by
  obtain ⟨c0, c1, c2, _, _, _, _⟩ := h.cells
  clear h
  go_enter Tryz.func124, Tryz.ntmps124
  go_wp2
  go_quiet (fail)
  go_wp2
  go_ret
  exact ⟨rfl, _, rfl⟩
theorem jfull0 {b : Nat} {w : World} {j d gf cf gb cb : Nat} {nx fl : Int} {X : List Int} (h : Jn b w j d gf cf gb 1 cb nx fl X) (more : Int) :
    Calls Tryz.prog 122 #[.pointer (some ⟨j, 0, none⟩), .int .i64 more] w fun e w' => e = .returned (.bool false) ∧ ∃ m, w' = w.drewN m := by
  have LA := jlast h
  obtain ⟨s0, s1, s2, _⟩ := seg_cells h.seg
  have CN := fun (W : World) (hW : W.cell? ⟨gf, 2, none⟩ = some (.slice (some ⟨gb, 0, none⟩) 1 cb)) => segCount gf (some ⟨gb, 0, none⟩) 1 cb W (by omega) (by omega) hW
  have e0 : ((1 : Nat) : Int) - 1 = 0 := by omega
  simp only [e0] at CN
  have HCN : Hid _ := CN
  clear h e0 CN
  go_enter Tryz.func122, Tryz.ntmps122
  go_upto_region 2 with (go_at_call 124; refine LA.mono ?_; clear LA; rintro e w1 ⟨rfl, m1, rfl⟩)
  obtain ⟨w1, hw1⟩ : ∃ W, w.drewN m1 = W := ⟨_, rfl⟩
  have CN1 := fun q => HCN.out (w1.drewN q) (by rw [← hw1]; exact s2)
  have HW1 : Hid (w.drewN m1 = w1) := hw1
  rw [hw1]
  clear hw1 HCN s0 s1 s2
  go_quiet (first | (go_at_call 70; (with_reducible refine Calls.quiet_of_same (CN1 _))))
  go_wp2
  go_ret
  exact ⟨rfl, _, by rw [← HW1.out]; exact drewN_add _ _ _⟩
def rec27 : List Int := fr.makeL 2 0 [97, 98, 99]
theorem rec27_len : rec27.length = 27 := by unfold rec27 fr.makeL; rw [List.length_append, fr.headL_len]; rfl
theorem seg_set {b : Nat} {w : World} {gf cf : Nat} {x y z v : Value} (h : w.ownsRow b 120 3 (.slice (some ⟨gf, 0, none⟩) 1 cf) 1 [x, y, z]) : (w.setCell ⟨gf, 2, none⟩ v).ownsRow b 120 3 (.slice (some ⟨gf, 0, none⟩) 1 cf) 1 [x, y, v] := by
  refine ⟨rfl, Or.inr ?_⟩
  rcases h.2 with ⟨e, _⟩ | ⟨g, cap, cur, e, q2, q3, q4, q5, q6, q7⟩
  · simp at e
  · simp at e
    obtain ⟨rfl, rfl⟩ := e
    refine ⟨gf, cf, cur.setIfInBounds 2 v, rfl, q2, blk_set q3 2 v, q4, q5, by rw [Array.size_setIfInBounds]; exact q6, ?_⟩
    rw [Array.toList_setIfInBounds, List.take_set, q7]
    rfl
/-- The last file's bounds have one more. -/
theorem Jn.more {b : Nat} {w w5 W : World} {j d gf cf gb nb cb : Nat} {nx fl : Int} {X : List Int} {y : Int} {v5 : Value} (h : Jn b w j d gf cf gb nb cb nx fl X) (bW : Below w.heap.size w W) (o5 : w5.ownsRow b 3 1 v5 (X.length + 1) (X.map iV ++ [.int .i64 y])) (g : W.grownBy w5 (Value.ownBlock (.slice (some ⟨gb, 0, none⟩) nb cb))) : ∃ gb' nb' cb', v5 = .slice (some ⟨gb', 0, none⟩) nb' cb' ∧ (w5.cell? ⟨gf, 2, none⟩ = some (.slice (some ⟨gb, 0, none⟩) nb cb) ∧ w5.frozen? ⟨gf, 2, none⟩ = false) ∧ Upd (fun k => k = gb ∨ k = gf) w (w5.setCell ⟨gf, 2, none⟩ v5) ∧ Jn b (w5.setCell ⟨gf, 2, none⟩ v5) j d gf cf gb' nb' cb' nx fl (X ++ [y]) := by
  obtain ⟨a, l, c, rfl⟩ := row_shape o5
  obtain ⟨gb', rfl, _⟩ := own_cell o5 (by omega)
  have u1 : Upd (fun k => k = gb) w w5 := ((Upd.ofBelow (S := fun k => k = gb) bW (fun k h1 h2 => by omega))).trans ((Upd.refl (fun k => k = gb) W).grown g (fun k _ e => by simp [Value.ownBlock] at e; exact e.symm)) (fun _ _ e => e)
  have ngf : ∀ k, Value.ownBlock (.slice (some ⟨gf, 0, none⟩) 1 cf) = some k → k ≠ gb := fun k e hh => by
    subst hh
    obtain ⟨cs, hc⟩ := own_type h.seg e
    obtain ⟨cs', hc'⟩ := own_type h.bnd (k := k) rfl
    rw [hc] at hc'
    simp at hc'
  have nj : j ≠ gb := fun e => by
    subst e
    obtain ⟨cs', hc'⟩ := own_type h.bnd (k := j) rfl
    rw [h.blk] at hc'
    simp at hc'
  have njf : j ≠ gf := fun e => by
    subst e
    obtain ⟨cs', hc'⟩ := own_type h.seg (k := j) rfl
    rw [h.blk] at hc'
    simp at hc'
  have s5 := ownsRow_upd h.seg u1 ngf
  obtain ⟨_, _, q2, qf⟩ := seg_cells s5
  have us : Upd (fun k => k = gf) w5 (w5.setCell ⟨gf, 2, none⟩ (.slice (some ⟨gb', 0, none⟩) l c)) := (Upd.refl (fun k => k = gf) w5).setCell (p := ⟨gf, 2, none⟩) (fun _ => rfl) _
  have j5 := (u1.block j (lt_of_block h.blk) nj).trans h.blk
  refine ⟨gb', l, c, rfl, ⟨q2, qf⟩, u1.trans2 us, ⟨(us.block j (lt_of_block j5) njf).trans j5, seg_set s5, ?_⟩⟩
  rw [List.length_append, List.map_append]
  refine ownsRow_upd o5 us (fun k e hh => ?_)
  subst hh
  obtain ⟨cs, hc⟩ := own_type o5 e
  obtain ⟨cs', hc'⟩ := own_type s5 (k := k) rfl
  rw [hc] at hc'
  simp at hc'
/-- An append to a row of one's own, at a step of a region that draws its order. -/
theorem step_app1 {P : Program} (w : World) {ops : Array Oper} {o : Oper} {a : Act} {K : Act → World → Prop} {Q : Exit → Act → World → Prop} {E : Prop} (hgd : o.guard = none) (s x : Operand) (t tx : TypeId)
    (ho : o.op = .call { callee := .builtin .append, args := #[s, x], argTypes := #[t, tx] })
    (base : Nat) (e : TypeId) (i : TypeInfo) (z : Value) (bytes : Nat) (ht : P.underlying t = some (.slice e)) (hi : P.info? e = some i) (hz : i.zero = some z) (hsize : i.size = 1) (hby : i.bytes = bytes) (hzs : z.cells.size = 1)
    (v : Value) (n : Nat) (xs : List Value) (hv : a.eval s = v) (hown : w.ownsRow base e 1 v n xs) (y : Value) (m : Nat) (news : List Value) (hx : a.eval x = y) (hs : Src P 1 tx y m news w)
    (h63 : n + m ≤ maxLen) (hbytes : (n + m) * bytes ≤ 140737488355328) (hbase : base ≤ w.heap.size)
    (h : ∀ v' w', w'.ownsRow base e 1 v' (n + m) (xs ++ news) → w.grownBy w' v.ownBlock → Moved w v v' → K (a.put o.dst v') w') : if Region.wanted o (yielded ops a.tmps) = true then Oper.wp P o a w K Q else E := by
  subst hby
  have hw : Region.wanted o (yielded ops a.tmps) = true := by simp [Region.wanted, hgd]
  rw [if_pos hw]
  obtain ⟨v', w', hr, h2, h3, h4⟩ := run_app (P := P) w base t tx o.type e i z ht hi hz hsize hzs v n xs hown y m news hs h63 hbytes hbase
  unfold Oper.wp execOp
  simp only [ho, resolve, invoke, builtin, Sem.run_bind, Sem.run_pure, Result.andThen_ok, List.map_toArray, List.map_cons, List.map_nil, hv, hx, hr]
  exact h v' w' h2 h3 h4
/-- Behind write. -/
def Wrote (b d j : Nat) (w w' : World) : Prop := (∃ N K f F, Jd b w' d N K f F (head32 ++ rec27) 32 1 ∧ F.S.length = 1 ∧ N ≤ 10) ∧ (∃ gf cf gb nb cb, Jn b w' j d gf cf gb nb cb 0 0 [32, 59]) ∧ Below b w w'
set_option maxHeartbeats 4000000 in
theorem write1 (b d j : Nat) (w : World) {N : Nat} {K : Dk} {f : Nat} {F : Fl} (J : Jd b w d N K f F head32 32 1) (hS : F.S = []) (hN : N ≤ 10) {gf cf gb cb : Nat} (hn : Jn b w j d gf cf gb 1 cb 0 0 [32]) (hb : b ≤ w.heap.size) (ad : Option Addr) (c : Nat) (o : OwnB b w (.slice ad 27 c) rec27) :
    Calls Tryz.prog 61 #[.pointer (some ⟨j, 0, none⟩), .slice ad 27 c] w fun e w' => e = .returned (.int .i64 0) ∧ Wrote b d j w w' := by
  have hgf : b ≤ gf := (own_lt hn.seg (j := gf) rfl).2
  have hgb : b ≤ gb := (own_lt hn.bnd (j := gb) rfl).2
  have FU := jfull0 hn 27
  have LA : ∀ W, KeepC w W → Calls Tryz.prog 124 #[.pointer (some ⟨j, 0, none⟩)] W fun e w' => e = .returned (.pointer (some ⟨gf, 0, none⟩)) ∧ ∃ m, w' = W.drewN m := fun W k => jlast (hn.keep k)
  have NM : ∀ W, KeepC w W → Calls Tryz.prog 66 #[.pointer (some ⟨gf, 0, none⟩)] W fun e w' => e = .returned (.string seg0) ∧ w' = W := fun W k => segName gf W (seg_cells (hn.keep k).seg).1
  have hcap := (own_len o).2.1
  rw [rec27_len] at hcap
  have AP : ∀ W, Below w.heap.size w W → Calls Tryz.prog 80 #[.pointer (some ⟨d, 0, none⟩), .string seg0, .slice ad 27 c] W fun e w' => e = .returned (.int .i64 0) ∧ (∃ G, Jd b w' d N K f G (head32 ++ rec27) 32 1 ∧ G.S.length = 1) ∧ (KeepC w w' ∧ Below b w w' ∧ b ≤ w'.heap.size) := fun W bm => by
    refine ((J.below bm).append (Nat.le_trans hb bm.size) ad 27 c rec27 (o.below bm).holds (by omega) hcap (by rw [hS]; simp) (by rw [head32_len]; omega)).mono ?_
    rintro e w' ⟨rfl, ⟨G, J2, g2⟩, b2, k2⟩
    have bb := (bm.mono hb).trans b2
    exact ⟨rfl, ⟨G, J2, by rw [g2, hS]; rfl⟩, (KeepC.ofBelow bm).trans k2, bb, Nat.le_trans hb bb.size⟩
  have CJ : ∀ W, KeepC w W → W.cell? ⟨j, 0, none⟩ = some (.pointer (some ⟨d, 0, none⟩)) ∧ W.cell? ⟨gf, 2, none⟩ = some (.slice (some ⟨gb, 0, none⟩) 1 cb) ∧ W.cell? ⟨gb, 0, none⟩ = some (.int .i64 32) ∧ W.ownsRow b 3 1 (.slice (some ⟨gb, 0, none⟩) 1 cb) 1 [.int .i64 32] := fun W k => by
    have J' := hn.keep k
    obtain ⟨_, _, s2, _⟩ := seg_cells J'.seg
    obtain ⟨g, e, hc⟩ := own_cell J'.bnd (by simp)
    simp at e
    subst e
    exact ⟨(J'.cells).1, s2, hc 0 _ rfl, J'.bnd⟩
  have SZ : ∀ W, KeepC w W → Calls Tryz.prog 71 #[.pointer (some ⟨gf, 0, none⟩)] W fun e w' => e = .returned (.int .i64 32) ∧ ∃ m, w' = W.drewN m := fun W k => segSize gf gb 1 cb 32 W (by omega) (by omega) (CJ W k).2.1 (CJ W k).2.2.1
  have EN : ∀ W, (∃ G, Jd b W d N K f G (head32 ++ rec27) 32 1 ∧ G.S.length = 1) → (KeepC w W ∧ Below b w W ∧ b ≤ W.heap.size) → ∀ W3, Below W.heap.size W W3 → W3.heap[W.heap.size]? = some (.cells #[.int .i64 59] 3 (0, 0)) → b ≤ W3.heap.size ∧ W3.ownsRow b 3 1 (.slice (some ⟨gb, 0, none⟩) 1 cb) 1 [.int .i64 32] ∧ Src Tryz.prog 1 43 (.slice (some ⟨W.heap.size, 0, none⟩) 1 1) 1 [.int .i64 59] W3 ∧ ∀ v w', w'.ownsRow b 3 1 v (1 + 1) ([.int .i64 32] ++ [.int .i64 59]) → W3.grownBy w' (Value.ownBlock (.slice (some ⟨gb, 0, none⟩) 1 cb)) → ∃ gb' nb' cb', v = .slice (some ⟨gb', 0, none⟩) nb' cb' ∧ (w'.cell? ⟨gf, 2, none⟩ = some (.slice (some ⟨gb, 0, none⟩) 1 cb) ∧ w'.frozen? ⟨gf, 2, none⟩ = false) ∧ Wrote b d j w (w'.setCell ⟨gf, 2, none⟩ (.slice (some ⟨gb', 0, none⟩) nb' cb')) := by
    rintro W ⟨G, J2, g2⟩ ⟨k, bW, hbW⟩ W3 B3 X3
    refine ⟨Nat.le_trans hbW B3.size, (CJ W3 (k.trans (KeepC.ofBelow B3))).2.2.2, ?_, fun v w' ho hg => ?_⟩
    · refine Src.ofSlice _ Tryz.underlying43 ⟨W.heap.size, 0, none⟩ 1 1 _ rfl (fun i u hi => ?_) (fun u hu => ?_)
      · rw [Addr.add_lit, Nat.zero_add]
        exact blk_cell X3 i (by simpa using hi)
      · simp at hu
        subst hu
        rfl
    · obtain ⟨gb', nb', cb', rfl, q1, q2, q3⟩ := (hn.keep k).more (y := 59) B3 ho hg
      have hl : ∀ i, i = gb ∨ i = gf → i < W.heap.size → Oth W i := fun i hi _ => by
        have J' := hn.keep k
        rcases hi with rfl | rfl
        · obtain ⟨cs, hc⟩ := own_type J'.bnd (k := i) rfl
          exact ⟨_, _, _, hc, ot_int⟩
        · obtain ⟨cs, hc⟩ := own_type J'.seg (k := i) rfl
          exact ⟨_, _, _, hc, ot_seg⟩
      exact ⟨gb', nb', cb', rfl, q1, ⟨N, K, f, G, J2.oth q2 hl, g2, hN⟩, ⟨gf, cf, gb', nb', cb', q3⟩, bW.trans (q2.below hbW (fun i hi e => by omega))⟩
  obtain ⟨i0, hi, hz0, hz1, hz2⟩ := info_parts Tryz.info3
  have HLA : Hid _ := LA
  have HNM : Hid _ := NM
  have HAP : Hid _ := AP
  have HCJ : Hid _ := CJ
  have HSZ : Hid _ := SZ
  have HEN : Hid _ := EN
  clear LA NM AP CJ SZ EN J hS hn o hcap hgf hgb
  generalize Wrote b d j w = R at *
  go_enter Tryz.func61, Tryz.ntmps61
  go_upto_region 6 with (first
    | (go_at_call 122; refine FU.mono ?_; clear FU; rintro e w1 ⟨rfl, m1, hw1⟩; have b1 : Below w.heap.size w w1 := (by rw [hw1]; exact below_drewN (Below.refl _ _) _); clear hw1; have LA1 := HLA.out _ (KeepC.ofBelow b1); clear HLA)
    | (go_at_call 124; refine LA1.mono ?_; clear LA1; rintro e w2 ⟨rfl, m2, hw2⟩; have b2 : Below w.heap.size w w2 := (by rw [hw2]; exact below_drewN b1 _); clear hw2 b1))
  obtain ⟨c0, _, _, _⟩ := HCJ.out w2 (KeepC.ofBelow b2)
  have NM2 := HNM.out w2.drew (KeepC.ofBelow b2.drew)
  have AP2 := HAP.out w2.drew b2.drew
  clear HNM HAP b2
  go_region_held3 (fun W => W.cell? ⟨j, 0, none⟩ = some (.pointer (some ⟨d, 0, none⟩))) (first | exact c0 | exact c5) (first
    | (go_at_call 66; (with_reducible refine NM2.mono ?_); clear NM2; rintro e w' ⟨rfl, hw⟩; obtain rfl := hw.symm)
    | (go_at_call 80; (with_reducible refine AP2.mono ?_); clear AP2; rintro e w5 ⟨rfl, J5, T5⟩; obtain ⟨c5, g5, x5, _⟩ := HCJ.out w5 T5.1; have EN5 := HEN.out _ J5 T5; have SZ5 := fun W (bW : Below w5.heap.size w5 W) => HSZ.out W (T5.1.trans (KeepC.ofBelow bW)); clear HEN HSZ J5 T5))
  have HE5 : Hid _ := EN5
  have HSZ5 : Hid _ := SZ5
  have y1 := fun (o : Obj) => (World.cell?_alloc_lt w5 o ⟨gf, 2, none⟩ (World.block_lt_of_cell? w5 _ g5)).trans g5
  have y2 := fun (q : Nat) (o : Obj) => (World.cell?_alloc_lt (w5.drewN q) o ⟨gf, 2, none⟩ (World.block_lt_of_cell? w5 _ g5)).trans g5
  have hw59 : IntKind.i64.wrap 59 = 59 := by decide
  clear EN5 SZ5 HCJ c0
  go_upto_region 9 with fail
  go_region_law (first
    | (go_simp; go_at_call 71; (with_reducible refine (HSZ5.out _ (by repeat' first | exact Below.refl _ _ | refine Below.alloc ?_ (by first | omega | (simp; omega) | (simp; done)) _ | refine Below.drew ?_ | refine below_drewN ?_ _)).mono ?_); clear HSZ5; rintro e w6 ⟨rfl, m6, rfl⟩)
    | (refine step_app1 _ (by rfl) _ _ 43 43 (by rfl) b 3 i0 (.int .i64 0) 8 Tryz.underlying43 hi hz0 hz1 hz2 rfl (.slice (some ⟨gb, 0, none⟩) 1 cb) 1 [.int .i64 32] (by rfl) (HE5.out _ (by repeat' first | exact Below.refl _ _ | refine Below.alloc ?_ (by first | omega | (simp; omega) | (simp; done)) _ | refine Below.drew ?_ | refine below_drewN ?_ _) (by first | exact heap_alloc_new _ _ | exact heap_alloc_new w5.drew _)).2.1 (.slice (some ⟨w5.heap.size, 0, none⟩) 1 1) 1 [.int .i64 59] (by rfl) (HE5.out _ (by repeat' first | exact Below.refl _ _ | refine Below.alloc ?_ (by first | omega | (simp; omega) | (simp; done)) _ | refine Below.drew ?_ | refine below_drewN ?_ _) (by first | exact heap_alloc_new _ _ | exact heap_alloc_new w5.drew _)).2.2.1 (by unfold maxLen; omega) (by omega) (HE5.out _ (by repeat' first | exact Below.refl _ _ | refine Below.alloc ?_ (by first | omega | (simp; omega) | (simp; done)) _ | refine Below.drew ?_ | refine below_drewN ?_ _) (by first | exact heap_alloc_new _ _ | exact heap_alloc_new w5.drew _)).1 ?_; intro v8 w8 o8 g8 m8; obtain ⟨gb8, nb8, cb8, rfl, ⟨e8, f8⟩, q8⟩ := (HE5.out _ (by repeat' first | exact Below.refl _ _ | refine Below.alloc ?_ (by first | omega | (simp; omega) | (simp; done)) _ | refine Below.drew ?_ | refine below_drewN ?_ _) (by first | exact heap_alloc_new _ _ | exact heap_alloc_new w5.drew _)).2.2.2 _ _ o8 g8; clear o8 g8 m8 HE5))
  all_goals (go_wp2; go_ret)
  all_goals exact ⟨rfl, q8⟩
end Go.Proofs.YtgoafinbaiepmaaGreatDoor
/-
  Layer 8 (journal): Append, Flush.
-/
namespace Go.Proofs.YtgoafinbaiepmaaGreatDoor
open Go.RowKit Go.Shelf Go.Maps Go.WideMaps
set_option maxRecDepth 100000

theorem Jn.apartJ {b : Nat} {w w' : World} {j d gf cf gb nb cb : Nat} {nx fl nx' fl' : Int} {X : List Int} (h : Jn b w j d gf cf gb nb cb nx fl X) (us : Upd (fun k => k = j) w w') (hb : w'.heap[j]? = some (.cells (jC d (.slice (some ⟨gf, 0, none⟩) 1 cf) nx' fl') 116 (0, 0))) : Jn b w' j d gf cf gb nb cb nx' fl' X := by
  refine ⟨hb, ownsRow_upd h.seg us (fun k e hh => ?_), ownsRow_upd h.bnd us (fun k e hh => ?_)⟩
  · subst hh
    obtain ⟨cs, hc⟩ := own_type h.seg e
    rw [h.blk] at hc
    simp at hc
  · subst hh
    obtain ⟨cs, hc⟩ := own_type h.bnd e
    rw [h.blk] at hc
    simp at hc
/-- Behind Append. -/
def Appd (b d j : Nat) (w w' : World) : Prop := (∃ N K f F, Jd b w' d N K f F (head32 ++ rec27) 32 1 ∧ F.S.length = 1 ∧ N ≤ 10) ∧ (∃ gf cf gb nb cb, Jn b w' j d gf cf gb nb cb 1 0 [32, 59]) ∧ Below b w w'
theorem wrote_next {b d j : Nat} {w w' : World} (hb : b ≤ w.heap.size) (hjb : b ≤ j) (h : Wrote b d j w w') : (w'.cell? ⟨j, 3, none⟩ = some (.int .u64 0) ∧ w'.frozen? ⟨j, 3, none⟩ = false) ∧ (w'.setCell ⟨j, 3, none⟩ (.int .u64 1)).cell? ⟨j, 3, none⟩ = some (.int .u64 1) ∧ Appd b d j w (w'.setCell ⟨j, 3, none⟩ (.int .u64 1)) := by
  obtain ⟨⟨N, K, f, F, J, hS, hN⟩, ⟨gf, cf, gb, nb, cb, hn⟩, B⟩ := h
  have us : Upd (fun k => k = j) w' (w'.setCell ⟨j, 3, none⟩ (.int .u64 1)) := (Upd.refl (fun k => k = j) w').setCell (p := ⟨j, 3, none⟩) (fun _ => rfl) _
  have h2 := blk_set hn.blk 3 (.int .u64 1)
  refine ⟨⟨blk_cell hn.blk 3 rfl, free3 hn.blk 3⟩, blk_cell h2 3 rfl, ⟨N, K, f, F, J.oth us (fun k e _ => by subst e; exact ⟨_, _, _, hn.blk, ot_jou⟩), hS, hN⟩, ⟨gf, cf, gb, nb, cb, hn.apartJ us h2⟩, ?_⟩
  exact B.trans (us.below (Nat.le_trans hb B.size) (fun k hk e => by omega))
set_option maxHeartbeats 1000000 in
theorem append1 (b d j : Nat) (w : World) {N : Nat} {K : Dk} {f : Nat} {F : Fl} (J : Jd b w d N K f F head32 32 1) (hS : F.S = []) (hN : N ≤ 10) {gf cf gb cb : Nat} (hn : Jn b w j d gf cf gb 1 cb 0 0 [32]) (hb : b ≤ w.heap.size) (hjb : b ≤ j) (ad : Option Addr) (c : Nat) (hP : fr.Holds w ad 3 [97, 98, 99]) :
    Calls Tryz.prog 26 #[.pointer (some ⟨j, 0, none⟩), .slice ad 3 c] w fun e w' => e = .returned (.tuple #[.int .u64 0, .int .i64 0]) ∧ Appd b d j w w' := by
  obtain ⟨c0, _, _, c3, _, c5, _⟩ := hn.cells
  have MK := fr.make_any 2 0 ad 3 c [97, 98, 99] w (by omega) (by omega) hP (by intro x hx; simp at hx; omega)
  have e0 : ((0 : Nat) : Int) = 0 := rfl
  rw [e0] at MK
  have WR : ∀ w1 v, w1.ownsRow w.heap.size 5 1 v (fr.makeL 2 0 [97, 98, 99]).length ((fr.makeL 2 0 [97, 98, 99]).map (Value.int .u8)) → Below w.heap.size w w1 → ∃ a cc, v = .slice a 27 cc ∧ Calls Tryz.prog 61 #[.pointer (some ⟨j, 0, none⟩), .slice a 27 cc] w1 fun e w' => e = .returned (.int .i64 0) ∧ Wrote b d j w1 w' ∧ b ≤ w1.heap.size := fun w1 v o b1 => by
    obtain ⟨a, l, cc, rfl⟩ := row_shape o
    have hl := (own_len o).1
    rw [show (fr.makeL 2 0 [97, 98, 99]).length = 27 from rec27_len] at hl
    subst hl
    refine ⟨a, cc, rfl, (write1 b d j w1 (J.below b1) hS hN (hn.keep (KeepC.ofBelow b1)) (Nat.le_trans hb b1.size) a cc (ownsRow_base_a o hb)).mono ?_⟩
    rintro e w' ⟨rfl, q⟩
    exact ⟨rfl, q, Nat.le_trans hb b1.size⟩
  have FIN : ∀ w1 w2, Below w.heap.size w w1 → Wrote b d j w1 w2 → b ≤ w1.heap.size → (w2.cell? ⟨j, 3, none⟩ = some (.int .u64 0) ∧ w2.frozen? ⟨j, 3, none⟩ = false) ∧ (w2.setCell ⟨j, 3, none⟩ (.int .u64 1)).cell? ⟨j, 3, none⟩ = some (.int .u64 1) ∧ Appd b d j w (w2.setCell ⟨j, 3, none⟩ (.int .u64 1)) := fun w1 w2 b1 q hb1 => by
    obtain ⟨p1, p2, p3, p4, p5⟩ := wrote_next hb1 hjb q
    exact ⟨p1, p2, p3, p4, (b1.mono hb).trans p5⟩
  have HWR : Hid _ := WR
  have HFN : Hid _ := FIN
  clear WR FIN J hS hN hn hP e0
  go_enter Tryz.func26, Tryz.ntmps26
  go_wp2_with (first
    | (go_at_call 60; refine MK.mono ?_; clear MK; rintro e w1 ⟨v1, rfl, o1, b1⟩; obtain ⟨a1, cc1, rfl, W1⟩ := HWR.out _ _ o1 b1; clear HWR o1)
    | (go_at_call 61; refine W1.mono ?_; clear W1; rintro e w2 ⟨rfl, q2, hb1⟩; obtain ⟨⟨d3, f3⟩, d3', q3⟩ := HFN.out _ _ b1 q2 hb1; clear HFN q2))
  go_ret2
  exact ⟨rfl, q3⟩
/-- Behind Flush. -/
def Flsd (b d j : Nat) (w w' : World) : Prop := (∃ N K f F, Jd b w' d N K f F (head32 ++ rec27) 59 1 ∧ F.S = [] ∧ N ≤ 10) ∧ (∃ gf cf gb nb cb, Jn b w' j d gf cf gb nb cb 1 1 [32, 59]) ∧ Below b w w'
set_option maxHeartbeats 1000000 in
theorem sync1 (b d j : Nat) (w : World) (hb : b ≤ w.heap.size) (hjb : b ≤ j) (h : Appd b d j w w) :
    Calls Tryz.prog 63 #[.pointer (some ⟨j, 0, none⟩)] w fun e w' => e = .returned (.int .i64 0) ∧ Flsd b d j w w' := by
  obtain ⟨⟨N, K, f, F, J, hS, hN⟩, ⟨gf, cf, gb, nb, cb, hn⟩, _⟩ := h
  obtain ⟨c0, _⟩ := hn.cells
  have hlen : (head32 ++ rec27).length = 59 := by rw [List.length_append, head32_len, rec27_len]
  have BD : Below w.heap.size w w.drew := (Below.refl _ _).drew
  have LA := jlast (hn.keep (KeepC.ofBelow BD))
  have NM : ∀ W, Below w.heap.size w W → Calls Tryz.prog 66 #[.pointer (some ⟨gf, 0, none⟩)] W fun e w' => e = .returned (.string seg0) ∧ w' = W := fun W k => segName gf W (seg_cells (hn.keep (KeepC.ofBelow k)).seg).1
  have SY : ∀ W, Below w.heap.size w W → Calls Tryz.prog 125 #[.pointer (some ⟨d, 0, none⟩), .string seg0] W fun e w' => e = .returned (.int .i64 0) ∧ w'.cell? ⟨j, 0, none⟩ = some (.pointer (some ⟨d, 0, none⟩)) ∧ w'.cell? ⟨j, 3, none⟩ = some (.int .u64 1) ∧ (w'.cell? ⟨j, 4, none⟩ = some (.int .u64 0) ∧ w'.frozen? ⟨j, 4, none⟩ = false) ∧ Flsd b d j w (w'.setCell ⟨j, 4, none⟩ (.int .u64 1)) := fun W bW => by
    refine ((J.below bW).sync (Nat.le_trans hb bW.size)).mono ?_
    rintro e w' ⟨rfl, ⟨G, J2, g2⟩, b2, k2⟩
    rw [hlen] at J2
    have n2 := hn.keep ((KeepC.ofBelow bW).trans k2)
    obtain ⟨q0, _, _, q3, q4, _, qf⟩ := n2.cells
    have us : Upd (fun k => k = j) w' (w'.setCell ⟨j, 4, none⟩ (.int .u64 1)) := (Upd.refl (fun k => k = j) w').setCell (p := ⟨j, 4, none⟩) (fun _ => rfl) _
    have bb := (bW.mono hb).trans b2
    exact ⟨rfl, q0, q3, ⟨q4, qf 4⟩, ⟨N, K, f, G, J2.oth us (fun k e _ => by subst e; exact ⟨_, _, _, n2.blk, ot_jou⟩), g2, hN⟩, ⟨gf, cf, gb, nb, cb, n2.apartJ us (blk_set n2.blk 4 _)⟩, bb.trans (us.below (Nat.le_trans hb bb.size) (fun k hk e => by omega))⟩
  have CJ : ∀ W, Below w.heap.size w W → W.cell? ⟨j, 0, none⟩ = some (.pointer (some ⟨d, 0, none⟩)) := fun W bW => (hn.keep (KeepC.ofBelow bW)).cells.1
  have HNM : Hid _ := NM
  have HSY : Hid _ := SY
  have HCJ : Hid _ := CJ
  have HBD : Hid _ := BD
  clear NM SY CJ J hS hn BD hlen
  generalize Flsd b d j w = R at *
  go_enter Tryz.func63, Tryz.ntmps63
  go_upto_region 1 with fail
  go_region_held3 (fun W => W.cell? ⟨j, 0, none⟩ = some (.pointer (some ⟨d, 0, none⟩))) (first | exact c0 | exact c1 | exact c2) (first
    | (go_at_call 124; (with_reducible refine LA.mono ?_); clear LA; rintro e w1 ⟨rfl, m1, hw1⟩; have b1 : Below w.heap.size w w1 := (by rw [hw1]; exact below_drewN HBD.out _); clear hw1; have c1 := HCJ.out _ b1; have NM1 := HNM.out _ b1; have SY1 := HSY.out _ b1; clear HNM HSY HCJ)
    | (go_at_call 66; (with_reducible refine NM1.mono ?_); clear NM1; rintro e w' ⟨rfl, hw⟩; obtain rfl := hw.symm)
    | (go_at_call 125; (with_reducible refine SY1.mono ?_); clear SY1; rintro e w5 ⟨rfl, c2, c3, ⟨c4, f4⟩, q5⟩))
  go_wp2
  go_ret
  exact ⟨rfl, q5⟩
theorem flush1 (b d j : Nat) (w : World) (hb : b ≤ w.heap.size) (hjb : b ≤ j) (h : Appd b d j w w) :
    Calls Tryz.prog 27 #[.pointer (some ⟨j, 0, none⟩)] w fun e w' => e = .returned (.int .i64 0) ∧ Flsd b d j w w' := by
  have SY := sync1 b d j w hb hjb h
  obtain ⟨_, ⟨gf, cf, gb, nb, cb, hn⟩, _⟩ := h
  obtain ⟨_, _, _, _, _, c5, _⟩ := hn.cells
  clear hn
  go_enter Tryz.func27, Tryz.ntmps27
  go_wp2_with (go_at_call 63; refine SY.mono ?_; clear SY; rintro e w1 ⟨rfl, q1⟩)
  go_ret
  exact ⟨rfl, q1⟩
end Go.Proofs.YtgoafinbaiepmaaGreatDoor
/-
  Layer 8 (journal): what Open finds: names and numbers.
-/
namespace Go.Proofs.YtgoafinbaiepmaaGreatDoor
open Go.RowKit Go.Shelf Go.Maps Go.WideMaps Go.Sort
set_option maxRecDepth 100000

def zer10 : ByteArray := ⟨#[48, 48, 48, 48, 48, 48, 48, 48, 48, 48]⟩
theorem zer10_size : zer10.size = 10 := by kernel_rfl
theorem zer10_at (k : Nat) (h : k < zer10.size) : (zer10[k]).toNat = 48 := by
  have h10 : k < 10 := h
  obtain rfl | rfl | rfl | rfl | rfl | rfl | rfl | rfl | rfl | rfl : k = 0 ∨ k = 1 ∨ k = 2 ∨ k = 3 ∨ k = 4 ∨ k = 5 ∨ k = 6 ∨ k = 7 ∨ k = 8 ∨ k = 9 := by omega
  all_goals rfl
def segP : ByteArray := ⟨#[115, 101, 103, 45]⟩
theorem segP_size : segP.size = 4 := by kernel_rfl
theorem seg_pre : ((seg0.extract 0 4).toList == segP.toList) = true := by kernel_rfl
theorem seg_rest : seg0.extract 4 14 = zer10 := by kernel_rfl
theorem hasSeg (w : World) : Calls Tryz.prog 226 #[.string seg0, .string segP] w fun e w' => e = .returned (.bool true) ∧ w' = w := by
  have k1 : (seg0.size : Int) = 14 := by rw [seg0_size]; rfl
  have k2 : (segP.size : Int) = 4 := by rw [segP_size]; rfl
  have k3 := seg_pre
  have k4 := seg0_size
  go_enter Tryz.func226, Tryz.ntmps226
  go_wp2
  go_ret
  exact ⟨by first | rfl | simp, rfl⟩
theorem cutSegI (w : World) : Calls Tryz.prog 216 #[.string seg0, .string segP] w fun e w' => e = .returned (.tuple #[.string zer10, .bool true]) ∧ w' = w := by
  have H := hasSeg
  have k1 : (seg0.size : Int) = 14 := by rw [seg0_size]; rfl
  have k2 : (segP.size : Int) = 4 := by rw [segP_size]; rfl
  have k3 := seg_rest
  have k4 := seg0_size
  go_enter Tryz.func216, Tryz.ntmps216
  go_wp2_with (go_at_call 226; refine (H _).mono ?_; rintro e w' ⟨rfl, hw⟩; obtain rfl := hw.symm)
  go_ret2
  exact ⟨rfl, rfl⟩
theorem cutSeg (w : World) : Calls Tryz.prog 185 #[.string seg0, .string segP] w fun e w' => e = .returned (.tuple #[.string zer10, .bool true]) ∧ w' = w := by
  have H := cutSegI
  go_enter Tryz.func185, Tryz.ntmps185
  go_wp2_with (go_at_call 216; refine (H _).mono ?_; rintro e w' ⟨rfl, hw⟩; obtain rfl := hw.symm)
  go_ret2
  exact ⟨rfl, rfl⟩
set_option maxHeartbeats 1000000 in
theorem fileNumber0 (w : World) : Calls Tryz.prog 162 #[.string seg0] w fun e w' => e = .returned (.tuple #[.int .u64 0, .bool true]) ∧ w' = w := by
  have H := cutSeg w
  unfold segP at H
  have k1 : (zer10.size : Int) = 10 := by rw [zer10_size]; rfl
  have hat := fun k h => zer10_at k h
  have hz := zer10_size
  go_enter Tryz.func162, Tryz.ntmps162
  go_wp2_with (go_at_call 185; refine H.mono ?_; clear H; rintro e w' ⟨rfl, hw⟩; obtain rfl := hw.symm)
  go_loopw [6, 23] (fun n i wr => wr = w ∧ n = .int .u64 0 ∧ ∃ k : Nat, i = .int .i64 (k : Int) ∧ k ≤ 10) (fun _ i _ => 10 - (intOf i).toNat)
  case atStart => exact ⟨rfl, rfl, 0, rfl, by omega⟩
  case round =>
    obtain ⟨rfl, rfl, k, rfl, hk⟩ := hrel
    by_cases h10 : k < 10
    · have h1 : (k : Int) < 10 := by omega
      have h2 : k < zer10.size := by rw [hz]; exact h10
      have h3 := hat k h2
      clear hat
      go_wp2
      go_roundw
      case rel => exact ⟨trivial, rfl, k + 1, by go_num, by omega⟩
      case measure => simp [intOf]; omega
    · have h1 : ¬ (k : Int) < 10 := by omega
      go_wp2
      go_ret2
      exact ⟨rfl, rfl⟩
end Go.Proofs.YtgoafinbaiepmaaGreatDoor
/-
  Layer 8 (journal): what Open finds: numbers, load, settle.
-/
namespace Go.Proofs.YtgoafinbaiepmaaGreatDoor
open Go.RowKit Go.Shelf Go.Maps Go.WideMaps Go.Sort
set_option maxRecDepth 100000
theorem Tryz.info42 : (Tryz.prog.info? 42).map (fun i => (i.zero, i.size, i.bytes)) = some (some (.int .u64 0), 1, 8) := by kernel_rfl

/-- A journal that is being opened: nothing is found yet. -/
def Jz (w : World) (j d : Nat) : Prop := w.heap[j]? = some (.cells (jC d (.slice none 0 0) 0 0) 116 (0, 0))
theorem Jz.keep {w w' : World} {j d : Nat} (h : Jz w j d) (k : KeepC w w') : Jz w' j d := (k j ⟨_, _, _, h, ot_jou⟩).trans h
theorem put0_size : Maps.size put0 = 1 := by kernel_rfl
theorem put0_keys : strKeys put0 = [seg0.data.toList] := by kernel_rfl
set_option maxHeartbeats 1000000 in
theorem numbers1 (b d j : Nat) (w : World) {N : Nat} {K : Dk} {f : Nat} {F : Fl} {B : List Int} {s : Nat} (J : Jd b w d N K f F B s 1) (hj : Jz w j d) :
    Calls Tryz.prog 104 #[.pointer (some ⟨j, 0, none⟩)] w fun e w' => ∃ g c, e = .returned (.tuple #[.slice (some ⟨g, 0, none⟩) 1 c, .pointer none]) ∧ w'.ownsRow w.heap.size 42 1 (.slice (some ⟨g, 0, none⟩) 1 c) 1 [.int .u64 0] ∧ Below w.heap.size w w' := by
  have c0 := blk_cell hj 0 (v := .pointer (some ⟨d, 0, none⟩)) rfl
  have NA := names_any b d N K w J.many.disk J.many.on (by have := J.num; omega)
  rw [J.dn, put0_size, put0_keys] at NA
  have CL : ∀ (a : Option Addr) (c : Nat) (ss : List (List UInt8)) (w1 : World), ss.Perm [seg0.data.toList] → w1.ownsRow w.heap.size 9 1 (.slice a 1 c) ss.length ((ss.mergeSort (fun x y => decide (x ≤ y))).map encStr) → ∃ g, a = some ⟨g, 0, none⟩ ∧ w1.cell? ⟨g, 0, none⟩ = some (.string seg0) := fun a c ss w1 hp ho => by
    have e : ss = [seg0.data.toList] := List.perm_singleton.1 hp
    subst e
    obtain ⟨g, rfl, hc⟩ := own_cell ho (by simp)
    refine ⟨g, rfl, hc 0 _ ?_⟩
    simp [List.mergeSort_singleton, encStr]
  have FN := fun W => fileNumber0 W
  obtain ⟨i0, hi, hz0, hz1, hz2⟩ := info_parts Tryz.info42
  have HCL : Hid _ := CL
  clear CL J hj
  go_enter Tryz.func104, Tryz.ntmps104
  go_wp2_with (go_at_call 41; refine NA.mono ?_; clear NA; rintro e w1 ⟨a1, c1, ss1, rfl, hp1, ho1, b1⟩; obtain ⟨g1, rfl, n1⟩ := HCL.out _ _ _ _ hp1 ho1; clear HCL hp1 ho1)
  have z1 := b1.size
  have R0 : (w1.alloc (.cells #[.int .u64 0] 42)).ownsRow w.heap.size 42 1 (.slice none 0 0) 0 [] := World.ownsRow_nil _ _ _ _
  refine wp_loop_rounds 2 ?_
  rw [rounds_succ]
  go_wp2_with (first
    | (go_at_call 162; refine (FN _).mono ?_; clear FN; rintro e w' ⟨rfl, hw⟩; obtain rfl := hw.symm)
    | (at_builtin; refine wpList_app _ rfl _ _ 181 181 rfl w.heap.size 42 i0 (.int .u64 0) 8 Tryz.underlying181 hi hz0 hz1 hz2 rfl (.slice none 0 0) 0 [] rfl R0 _ 1 [.int .u64 0] rfl (src_one Tryz.underlying181 _ _ _ rfl) (by unfold maxLen; omega) (by omega) (by rw [World.size_alloc]; omega) ?_; intro v2 w2 o2 g2 m2; clear m2; have b2 : Below w1.heap.size w1 w2 := ((Below.refl _ _).alloc (Nat.le_refl _) _).trans (((Below.refl _ _).grown g2 (Nat.le_refl _) (fun k e => by cases e)).mono (by rw [World.size_alloc]; omega)); obtain ⟨a2, l2, c2, rfl⟩ := row_shape o2; have hl2 := (own_len o2).1; obtain ⟨gg2, e2, _⟩ := own_cell o2 (by omega); subst e2; obtain rfl : l2 = 1 := (by omega); clear hl2 g2))
  rw [rounds_succ]
  go_wp2
  go_ret2
  exact ⟨gg2, c2, rfl, o2, b1.trans (b2.mono z1)⟩
theorem load1 (b d j : Nat) (w : World) {N : Nat} {K : Dk} {f : Nat} {F : Fl} {B : List Int} {s : Nat} (J : Jd b w d N K f F B s 1) (hj : Jz w j d) (hB : 0 < B.length) :
    Calls Tryz.prog 186 #[.pointer (some ⟨j, 0, none⟩), .string seg0] w fun e w' => ∃ a c, e = .returned (.tuple #[.slice a B.length c, .pointer none]) ∧ B.length ≤ c ∧ OwnB w.heap.size w' (.slice a B.length c) B ∧ Below w.heap.size w w' := by
  have c0 := blk_cell hj 0 (v := .pointer (some ⟨d, 0, none⟩)) rfl
  have SZ := sizeN b d N K seg0 0 f F w J.one
  have RD := readAt b d N K seg0 0 f F 0 B.length w J.one (by rw [J.fil.bytes]; omega) hB (by rw [J.fil.bytes]; exact J.small)
  rw [J.fil.bytes, List.drop_zero, List.take_of_length_le (Nat.le_refl _)] at RD
  rw [J.fil.bytes] at SZ
  have e0 : ((0 : Nat) : Int) = 0 := rfl
  rw [e0] at RD
  clear J hj e0
  generalize B.length = n at *
  go_enter Tryz.func186, Tryz.ntmps186
  go_wp2_with (first
    | (go_at_call 43; refine SZ.mono ?_; clear SZ; rintro e w' ⟨rfl, hw⟩; obtain rfl := hw.symm)
    | (go_at_call 45; refine RD.mono ?_; clear RD; rintro e w1 ⟨a1, c1, rfl, h1, o1, b1⟩))
  go_ret2
  exact ⟨a1, c1, rfl, h1, o1, b1⟩
theorem mayBegin0 (j d : Nat) (w : World) (hj : Jz w j d) : Calls Tryz.prog 189 #[.pointer (some ⟨j, 0, none⟩), .int .u64 0] w fun e w' => e = .returned (.bool true) ∧ w' = w := by
  have c2 := blk_cell hj 2 (v := .slice none 0 0) rfl
  clear hj
  go_enter Tryz.func189, Tryz.ntmps189
  go_wp2
  go_ret
  exact ⟨rfl, rfl⟩
set_option maxHeartbeats 1000000 in
theorem readNumber0 (ad : Option Addr) (c : Nat) (w : World) (h : Holds w ad 8 [0, 0, 0, 0, 0, 0, 0, 0]) : Calls Tryz.prog 218 #[.slice ad 8 c] w fun e w' => e = .returned (.int .u64 0) ∧ w' = w := by
  obtain ⟨g, o, rfl⟩ := h.some_of (show 0 < 8 by decide)
  have hc : ∀ k : Nat, k < 8 → w.cell? ⟨g, o + k, none⟩ = some (.int .u8 0) := fun k hk => by
    have := h.at k (by simpa using hk)
    rw [Addr.add_lit] at this
    obtain rfl | rfl | rfl | rfl | rfl | rfl | rfl | rfl : k = 0 ∨ k = 1 ∨ k = 2 ∨ k = 3 ∨ k = 4 ∨ k = 5 ∨ k = 6 ∨ k = 7 := by omega
    all_goals simpa using this
  clear h
  go_enter Tryz.func218, Tryz.ntmps218
  go_wp2
  go_loopw [3, 8] (fun n i wr => wr = w ∧ n = .int .u64 0 ∧ ∃ k : Nat, i = .int .i64 (k : Int) ∧ k ≤ 8) (fun _ i _ => 8 - (intOf i).toNat)
  case atStart => exact ⟨rfl, rfl, 0, rfl, by omega⟩
  case round =>
    obtain ⟨rfl, rfl, k, rfl, hk⟩ := hrel
    by_cases h8 : k < 8
    · have h1 : (k : Int) < 8 := by omega
      have h2 := hc k h8
      clear hc
      go_wp2
      go_roundw
      case rel => exact ⟨trivial, rfl, k + 1, by go_num, by omega⟩
      case measure => simp [intOf]; omega
    · have h1 : ¬ (k : Int) < 8 := by omega
      go_wp2
      go_ret
      exact ⟨rfl, rfl⟩
end Go.Proofs.YtgoafinbaiepmaaGreatDoor
/-
  Layer 8 (journal): the file's bytes, scanned.
-/
namespace Go.Proofs.YtgoafinbaiepmaaGreatDoor
set_option maxRecDepth 100000
def all59 : List Int := head32 ++ rec27
theorem all59_len : all59.length = 59 := by unfold all59; rw [List.length_append, head32_len, rec27_len]
set_option maxHeartbeats 1000000 in
theorem scan59 : fr.scanL all59 = ([(1, 0, 24, 8), (2, 0, 56, 3)], 59, 0) := by kernel_rfl
theorem all59_first : (all59.drop 24).take 8 = [0, 0, 0, 0, 0, 0, 0, 0] := by kernel_rfl
theorem all59_last : (all59.drop 56).take 3 = [97, 98, 99] := by kernel_rfl
theorem all59_bytes : fr.ByteL all59 := by
  have h : all59.all (fun x => decide (0 ≤ x ∧ x < 256)) = true := by kernel_rfl
  intro x hx
  exact of_decide_eq_true (List.all_eq_true.1 h x hx)
end Go.Proofs.YtgoafinbaiepmaaGreatDoor
