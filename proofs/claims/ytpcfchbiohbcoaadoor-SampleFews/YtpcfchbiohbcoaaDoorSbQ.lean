/-
  SbQ.
-/
import Derived.Test.YtpcfchbiohbcoaaDoorSbOq
namespace Go.Proofs.YtpcfchbiohbcoaaDoor
open Go Go.RowKit
set_option maxRecDepth 100000

/-- Where play stands, behind the name. -/
structure PlE (w W0 W : World) (K M F : Nat → Nat) (TT : Nat → List Tr) (bo bt : Nat) (oth back : Bool) (kind : Int) (hi lo : BitVec 64) (t : Tr) : Prop where
  fam : FamG w W K M F TT 4
  op : Blk W bo #[.bool oth, .int .i64 kind, .int .u64 (bvI hi), .int .u64 (bvI lo), .bool back] 35
  tr : Blk W bt #[.int .u64 (bvI t.1), .int .u64 (bvI t.2)] 33
  bt : W0.heap.size ≤ bt
  lt : ∀ i, i < 4 → F i < W0.heap.size ∧ ∀ a c, Blk W (F i) #[.int .i64 (M i), .slice a (TT i).length c] (K i) → ∀ x, a = some x → x.block < W0.heap.size
theorem fam_keep {w W W' : World} {K M F : Nat → Nat} {TT : Nat → List Tr} {i : Nat} {x : Value} (h : FamG w W K M F TT 4) (hi : i < 4) (hb : ∀ v, Blk W (F i) v (K i) → Blk W' (F i) v (K i)) (hx : Blk W' (F i) #[.int .i64 (M i), x] (K i)) : Blk W (F i) #[.int .i64 (M i), x] (K i) := by
  obtain ⟨ao, co, ko, oo⟩ := (h.few i hi).row
  have e := few_uniqT hx (hb _ ko)
  rw [e]
  exact ko
theorem PlE.below {w W0 W W' : World} {K M F : Nat → Nat} {TT : Nat → List Tr} {bo bt : Nat} {oth back : Bool} {kind : Int} {hi lo : BitVec 64} {t : Tr} (h : PlE w W0 W K M F TT bo bt oth back kind hi lo t) (hb : Below W.heap.size W W') : PlE w W0 W' K M F TT bo bt oth back kind hi lo t :=
  ⟨h.fam.below hb, h.op.below hb h.op.lt, h.tr.below hb h.tr.lt, h.bt, fun i hi => ⟨(h.lt i hi).1, fun a c hk x e => (h.lt i hi).2 a c (fam_keep h.fam hi (fun _ hv => hv.below hb hv.lt) hk) x e⟩⟩
theorem ple_start {w W : World} {K M F : Nat → Nat} {TT : Nat → List Tr} (oth back : Bool) (kind : Int) (hi lo : BitVec 64) (h : FamG w W K M F TT 4) :
    PlE w W ((W.alloc (.cells #[.bool oth, .int .i64 kind, .int .u64 (bvI hi), .int .u64 (bvI lo), .bool back] 35)).alloc (.cells #[.int .u64 (bvI hi), .int .u64 (bvI lo)] 33)) K M F TT W.heap.size (W.heap.size + 1) oth back kind hi lo (hi, lo) := by
  have hb : Below W.heap.size W ((W.alloc (.cells #[.bool oth, .int .i64 kind, .int .u64 (bvI hi), .int .u64 (bvI lo), .bool back] 35)).alloc (.cells #[.int .u64 (bvI hi), .int .u64 (bvI lo)] 33)) := belowAllocs (Below.refl _ _) (Nat.le_refl _) _ _
  exact ⟨h.below hb, (Blk.new _ _ _).alloc _, Blk.new2 _ _ _ _, by omega, fun i hi => ⟨(h.rowlt hi).1, fun a c hk x e => (h.rowlt hi).2 a c (fam_keep h hi (fun _ hv => hv.below hb hv.lt) hk) x e⟩⟩
/-- Another name is written. -/
theorem PlE.named {w W0 W : World} {K M F : Nat → Nat} {TT : Nat → List Tr} {bo bt : Nat} {oth back : Bool} {kind : Int} {hi lo : BitVec 64} {t : Tr} (h : PlE w W0 W K M F TT bo bt oth back kind hi lo t) (u : Tr) (hw : w.heap.size ≤ W0.heap.size) :
    PlE w W0 ((W.setCell ⟨bt, 0, none⟩ (.int .u64 (bvI u.1))).setCell ⟨bt, 1, none⟩ (.int .u64 (bvI u.2))) K M F TT bo bt oth back kind hi lo u := by
  have hu : Upd (fun k => k = bt) W ((W.setCell ⟨bt, 0, none⟩ (.int .u64 (bvI u.1))).setCell ⟨bt, 1, none⟩ (.int .u64 (bvI u.2))) := (updCell W bt _ _).trans (updCell _ bt _ _) (fun _ _ h => h)
  have hne : ∀ i, i < 4 → F i ≠ bt := fun i hi => by have := (h.lt i hi).1; have := h.bt; omega
  have hkeep : ∀ i, i < 4 → ∀ v, Blk W (F i) v (K i) → Blk ((W.setCell ⟨bt, 0, none⟩ (.int .u64 (bvI u.1))).setCell ⟨bt, 1, none⟩ (.int .u64 (bvI u.2))) (F i) v (K i) := fun i hi v hv => hv.upd hu (hne i hi)
  have hback : ∀ i, i < 4 → ∀ x, Blk ((W.setCell ⟨bt, 0, none⟩ (.int .u64 (bvI u.1))).setCell ⟨bt, 1, none⟩ (.int .u64 (bvI u.2))) (F i) #[.int .i64 (M i), x] (K i) → Blk W (F i) #[.int .i64 (M i), x] (K i) := fun i hi x hx => fam_keep h.fam hi (fun v hv => hkeep i hi v hv) hx
  refine ⟨⟨h.fam.knd, fun i hi => ?_, h.fam.ge, h.fam.ne, fun i j hi hj hij ai ci aj cj bi bj => h.fam.ap i j hi hj hij ai ci aj cj (hback i hi _ bi) (hback j hj _ bj), h.fam.bel.trans (hu.below h.fam.bel.size (fun k hk e => by have := h.bt; omega))⟩, h.op.upd hu (fun e => ?_), ?_, h.bt, fun i hi => ⟨(h.lt i hi).1, fun a c hk x e => (h.lt i hi).2 a c (hback i hi _ hk) x e⟩⟩
  · have F0 := h.fam.few i hi
    obtain ⟨ao, co, ko, oo⟩ := F0.row
    refine ⟨⟨ao, co, hkeep i hi _ ko, ownsRow_upd oo hu (fun k hk e => ?_)⟩, F0.rise, F0.len, F0.most, Nat.le_trans F0.low hu.size⟩
    obtain ⟨x, ex, hx⟩ := ownB hk
    have := (h.lt i hi).2 ao co ko x ex
    have := h.bt
    omega
  · have h1 : W.heap[bo]? = some (.cells _ 35 (0, 0)) := h.op
    have h2 : W.heap[bt]? = some (.cells _ 33 (0, 0)) := h.tr
    rw [e, h2] at h1
    simp at h1
  · exact (h.tr.set 0 _).set 1 _
theorem PlE.turned {w W0 W W' : World} {K M F : Nat → Nat} {TT : Nat → List Tr} {bo bt i : Nat} {oth back : Bool} {kind : Int} {hi lo : BitVec 64} {t : Tr} (h : PlE w W0 W K M F TT bo bt oth back kind hi lo t) (hi4 : i < 4) (hu : Upd (TurnS (K i) W (F i) (M i) (TT i).length) W W') : Blk W' bt #[.int .u64 (bvI t.1), .int .u64 (bvI t.2)] 33 := by
  refine h.tr.upd hu ?_
  rintro (e | ⟨ao, c, hk, a, e, ha⟩)
  · have := (h.lt i hi4).1
    have := h.bt
    omega
  · have := (h.lt i hi4).2 ao c hk a e
    have := h.bt
    omega
def PlP (w : World) (K M F : Nat → Nat) (a b c d : Nat) (e : Ending) (W' : World) : Prop := e = .returned (.bool true) ∧ ∃ TT', FamG w W' K M F TT' 4 ∧ Alike TT' a b c d
theorem plp_below {w W W' : World} {K M F : Nat → Nat} {TT : Nat → List Tr} {a b c d : Nat} (h : FamG w W K M F TT 4) (hA : Alike TT a b c d) (hb : Below W.heap.size W W') : PlP w K M F a b c d (.returned (.bool true)) W' := ⟨rfl, TT, h.below hb, hA⟩
theorem alike_put {K M : Nat → Nat} {TT : Nat → List Tr} {a b c d : Nat} {T1 T2 : List Tr} {t : Tr} {b1 b2 : Bool} (q : QuadP K M a b c d) (h : Alike TT a b c d) (hl : (TT a).length ≤ M a) (i1 : InF (M a) (TT a) t T1 b1) (i2 : InF (M c) (upG TT a T1 c) t T2 b2) : T1 = T2 ∧ b1 = b2 := by
  rw [upG_ne _ _ (Ne.symm q.ne.2.2.1), h.1, q.m.1] at i2
  exact i1.uniq hl i2
theorem alike_merge {K M : Nat → Nat} {TT : Nat → List Tr} {a b c d : Nat} {T1 T2 : List Tr} (q : QuadP K M a b c d) (h : Alike TT a b c d) (i1 : TopF (M a) ((TT b).reverse ++ TT a) T1) (i2 : TopF (M c) ((upG TT a T1 d).reverse ++ upG TT a T1 c) T2) : T1 = T2 := by
  rw [upG_ne _ _ (Ne.symm q.ne.2.2.1), upG_ne _ _ (Ne.symm q.ne.2.2.2.1), h.1, h.2, q.m.1] at i2
  exact i1.one i2 (fun x => Iff.rfl)
theorem put_box {w W0 W w4 w5 : World} {K M F : Nat → Nat} {TT : Nat → List Tr} {T1 : List Tr} {bo bt a c : Nat} {oth back : Bool} {kind : Int} {hi lo : BitVec 64} {t : Tr} (E : PlE w W0 W K M F TT bo bt oth back kind hi lo t) (ha : a < 4) (hc : c < 4) (hac : a ≠ c) (u4 : Upd (TurnS (K a) W (F a) (M a) (TT a).length) W w4) (k4 : Blk w4 bt #[.int .u64 (bvI t.1), .int .u64 (bvI t.2)] 33) (u5 : Upd (TurnS (K c) w4 (F c) (M c) (upG TT a T1 c).length) w4 w5) : Blk w5 bt #[.int .u64 (bvI t.1), .int .u64 (bvI t.2)] 33 := by
  refine k4.upd u5 ?_
  rw [upG_ne _ _ (Ne.symm hac)]
  rintro (e | ⟨ao, cc, hk, x, e, hx⟩)
  · have := (E.lt c hc).1
    have := E.bt
    omega
  · obtain ⟨a', c', k', o'⟩ := (E.fam.few c hc).row
    have hne : ¬ TurnS (K a) W (F a) (M a) (TT a).length (F c) := by
      rintro (e2 | ⟨ao2, c2, hk2, x2, e2, hx2⟩)
      · exact E.fam.ne a c ha hc hac e2.symm
      · obtain ⟨a3, c3, k3, o3⟩ := (E.fam.few a ha).row
        have e3 := few_uniqT hk2 k3
        simp only [Value.slice.injEq] at e3
        obtain ⟨rfl, -, rfl⟩ := e3
        obtain ⟨_, cs, hh⟩ := row_lt o3 e2
        rw [hx2] at hh
        have h1 : W.heap[F c]? = some (.cells _ (K c) (0, 0)) := k'
        rw [h1] at hh
        simp at hh
        exact E.fam.knd c hc hh.2
    have e3 := few_uniqT hk (k'.upd u4 hne)
    simp only [Value.slice.injEq] at e3
    obtain ⟨rfl, -, rfl⟩ := e3
    have := (E.lt c hc).2 ao cc k' x e
    have := E.bt
    omega
set_option maxHeartbeats 16000000 in
theorem play_any (K M F : Nat → Nat) (a b c d : Nat) (TT : Nat → List Tr) (w W : World) (oth back : Bool) (kind : Int) (hi lo : BitVec 64) (q : QuadP K M a b c d) (hF : FamG w W K M F TT 4) (hA : Alike TT a b c d) :
    Calls Tryd.prog 7 #[.pointer (some ⟨F a, 0, none⟩), .pointer (some ⟨F b, 0, none⟩), .pointer (some ⟨F c, 0, none⟩), .pointer (some ⟨F d, 0, none⟩), .agg #[.bool oth, .int .i64 kind, .int .u64 (bvI hi), .int .u64 (bvI lo), .bool back]] W (PlP w K M F a b c d) := by
  have HP0 : Hid (PlE w W ((W.alloc (.cells #[.bool oth, .int .i64 kind, .int .u64 (bvI hi), .int .u64 (bvI lo), .bool back] 35)).alloc (.cells #[.int .u64 (bvI hi), .int .u64 (bvI lo)] 33)) K M F TT W.heap.size (W.heap.size + 1) oth back kind hi lo (hi, lo)) := ple_start oth back kind hi lo hF
  have Q : Hid (QuadP K M a b c d) := q
  have HA : Hid (Alike TT a b c d) := hA
  have HW : Hid (w.heap.size ≤ W.heap.size) := hF.bel.size
  clear q hF hA
  cases back with
  | false =>
    go_enter Tryd.func7, Tryd.ntmps7
    go_upto_region 4 with fail
    obtain ⟨Wt, hWt⟩ : ∃ Wt, (W.alloc (.cells #[.bool oth, .int .i64 kind, .int .u64 (bvI hi), .int .u64 (bvI lo), .bool false] 35)).alloc (.cells #[.int .u64 (bvI hi), .int .u64 (bvI lo)] 33) = Wt := ⟨_, rfl⟩
    obtain ⟨t, ht⟩ : ∃ t, ((hi, lo) : Tr) = t := ⟨_, rfl⟩
    have HP : Hid (PlE w W Wt K M F TT W.heap.size (W.heap.size + 1) oth false kind hi lo t) := by rw [← hWt, ← ht]; exact HP0.out
    rw [hWt]
    obtain ⟨bt, hbt⟩ : ∃ bt, W.heap.size + 1 = bt := ⟨_, rfl⟩
    rw [hbt] at HP ⊢
    clear hWt ht HP0 hbt
    have c1 := HP.out.op.cell 1 rfl
    have ha := Q.out.lt.1
    have hb := Q.out.lt.2.1
    have hc := Q.out.lt.2.2.1
    have hd := Q.out.lt.2.2.2
    by_cases k1 : kind = 1
    · subst k1
      have E0 := HP.out.below ((Below.refl Wt.heap.size Wt).drew)
      have P1 := E0.fam.putP a ha Q.out.k.1 t
      go_upto_region 6 with fail
      go_region_held3 (fun W => W.cell? ⟨bt, 0, none⟩ = some (.int .u64 (bvI t.1)) ∧ W.cell? ⟨bt, 1, none⟩ = some (.int .u64 (bvI t.2))) (first | exact ⟨E0.tr.cell 0 rfl, E0.tr.cell 1 rfl⟩ | exact ⟨k4.cell 0 rfl, k4.cell 1 rfl⟩ | exact ⟨k5.cell 0 rfl, k5.cell 1 rfl⟩) (first
        | (go_at_call 15; (with_reducible refine P1.mono ?_); clear P1; rintro e w4 ⟨b1, T1, rfl, H4, i4, u4⟩; have k4 := E0.turned ha u4; have P2 := H4.putR c hc Q.out.k.2.2.1 t; have hlt4 := H4.rowlt hc; have hsz4 := u4.size)
        | (go_at_call 17; (with_reducible refine P2.mono ?_); clear P2; rintro e w5 ⟨b2, T2, rfl, H5, i5, u5⟩; obtain ⟨rfl, rfl⟩ := alike_put Q.out HA.out (E0.fam.few a ha).len i4 i5; have k5 : Blk w5 bt #[.int .u64 (bvI t.1), .int .u64 (bvI t.2)] 33 := put_box E0 ha hc Q.out.ne.2.2.1 u4 k4 u5))
      all_goals
        have HN : Hid (PlP w K M F a b c d (.returned (.bool true)) w5) := ⟨rfl, _, H5, HA.out.both Q.out T1⟩
        have eb : (b1 == b1) = true := by simp
        clear E0 H4 H5 i4 i5 u4 u5 k4 k5 hlt4 hsz4 c1
        go_wp2
        go_ret
        exact HN.out
    · have n1 : (kind == 1) = false := by simp [k1]
      by_cases k2 : kind = 2
      · subst k2
        have fc := HP.out.fam.few c hc
        rw [Q.out.k.2.2.1] at fc
        have R1 := rTraces_any (F c) w.heap.size (M c) (TT c) Wt fc
        rw [HA.out.1] at R1
        go_wp2_with (first
          | (go_at_call 9; (with_reducible refine R1.mono ?_); clear R1; rintro e w4 ⟨a4, c4, rfl, t4, b4⟩; have fa := (HP.out.fam.below b4).few a ha; rw [Q.out.k.1] at fa; have L1 := tracesL_any (F a) w.heap.size (M a) (TT a) a4 (TT a).length c4 w4 fa.at t4 rfl; clear fa t4)
          | (go_at_call 8; (with_reducible refine L1.mono ?_); clear L1; rintro e w5 ⟨rfl, b5⟩))
        go_ret
        exact plp_below HP.out.fam HA.out (b4.trans (b5.mono b4.size))
      · have n2 : (kind == 2) = false := by simp [k2]
        by_cases k3 : kind = 3
        · subst k3
          have fa := HP.out.fam.few a ha
          rw [Q.out.k.1] at fa
          have G1 := guessF_any (F a) w.heap.size (M a) (TT a) Wt fa.at
          have HG : Hid (gsN (M c) (TT c) = gsN (M a) (TT a)) := by rw [HA.out.1, Q.out.m.1]; exact rfl
          obtain ⟨gs, hgs⟩ : ∃ gs, gsN (M a) (TT a) = gs := ⟨_, rfl⟩
          rw [hgs] at G1
          have eg : ((gs : Int) == (gs : Int)) = true := by simp
          clear fa
          go_wp2_with (first
            | (go_at_call 10; (with_reducible refine G1.mono ?_); clear G1; rintro e w4 ⟨rfl, b4⟩; have fc := (HP.out.fam.below b4).few c hc; rw [Q.out.k.2.2.1] at fc; have G2 := rGuess_any (F c) w.heap.size (M c) (TT c) w4 fc; rw [HG.out, hgs] at G2; clear fc hgs)
            | (go_at_call 11; (with_reducible refine G2.mono ?_); clear G2; rintro e w5 ⟨rfl, b5⟩))
          go_ret
          exact plp_below HP.out.fam HA.out (b4.trans (b5.mono b4.size))
        · have n3 : (kind == 3) = false := by simp [k3]
          by_cases k4 : kind = 4
          · subst k4
            by_cases hm : M b = M a
            · have P1 := HP.out.fam.mergeP a b ha hb Q.out.ne.1 Q.out.k.1 Q.out.k.2.1 hm
              have HM : Hid (M d = M c) := by rw [Q.out.m.1, Q.out.m.2]; exact hm
              clear hm
              go_wp2_with (first
                | (go_at_call 18; (with_reducible refine P1.mono ?_); clear P1; rintro e w4 ⟨T1, rfl, H4, t4⟩; have P2 := H4.mergeR c d hc hd Q.out.ne.2.1 Q.out.k.2.2.1 Q.out.k.2.2.2 HM.out)
                | (go_at_call 19; (with_reducible refine P2.mono ?_); clear P2; rintro e w5 ⟨T2, rfl, H5, t5⟩))
              go_ret
              obtain rfl := alike_merge Q.out HA.out t4 t5
              exact ⟨rfl, _, H5, HA.out.both Q.out T1⟩
            · obtain ⟨_, _, ka, _⟩ := (HP.out.fam.few a ha).row
              obtain ⟨_, _, kb, _⟩ := (HP.out.fam.few b hb).row
              rw [Q.out.k.1] at ka
              rw [Q.out.k.2.1] at kb
              have P1 := mergeBad_any (F a) (M a) (F b) (M b) _ _ Wt ka kb hm
              have HM : Hid (M d ≠ M c) := by rw [Q.out.m.1, Q.out.m.2]; exact hm
              clear hm ka kb
              go_wp2_with (first
                | (go_at_call 18; (with_reducible refine P1.mono ?_); clear P1; rintro e w4 ⟨rfl, b4⟩; obtain ⟨_, _, kc, _⟩ := ((HP.out.fam.below b4).few c hc).row; obtain ⟨_, _, kd, _⟩ := ((HP.out.fam.below b4).few d hd).row; rw [Q.out.k.2.2.1] at kc; rw [Q.out.k.2.2.2] at kd; have P2 := rMergeBad_any (F c) (M c) (F d) (M d) _ _ w4 kc kd HM.out; clear kc kd)
                | (go_at_call 19; (with_reducible refine P2.mono ?_); clear P2; rintro e w5 ⟨rfl, b5⟩))
              go_ret
              exact plp_below HP.out.fam HA.out (b4.trans (b5.mono b4.size))
          · have n4 : (kind == 4) = false := by simp [k4]
            by_cases k5 : kind = 5
            · subst k5
              have fa := HP.out.fam.few a ha
              rw [Q.out.k.1] at fa
              have P1 := mergeSelf_any (F a) w.heap.size (M a) (TT a) Wt fa.at
              clear fa
              go_wp2_with (first
                | (go_at_call 18; (with_reducible refine P1.mono ?_); clear P1; rintro e w4 ⟨rfl, b4⟩; have fc := (HP.out.fam.below b4).few c hc; rw [Q.out.k.2.2.1] at fc; have P2 := rMergeSelf_any (F c) w.heap.size (M c) (TT c) w4 fc; clear fc)
                | (go_at_call 19; (with_reducible refine P2.mono ?_); clear P2; rintro e w5 ⟨rfl, b5⟩))
              go_ret
              exact plp_below HP.out.fam HA.out (b4.trans (b5.mono b4.size))
            · have n5 : (kind == 5) = false := by simp [k5]
              by_cases k6 : kind = 6
              · subst k6
                obtain ⟨_, _, ka, _⟩ := (HP.out.fam.few a ha).row
                rw [Q.out.k.1] at ka
                have P1 := mergeNil_any (F a) (M a) _ Wt ka
                clear ka
                go_wp2_with (go_at_call 18; (with_reducible refine P1.mono ?_); clear P1; rintro e w4 ⟨rfl, b4⟩)
                go_ret
                exact plp_below HP.out.fam HA.out b4
              · have n6 : (kind == 6) = false := by simp [k6]
                go_wp2
                go_ret
                exact plp_below HP.out.fam HA.out (Below.refl _ _)
  | true =>
    have NM : Hid (∀ Wx, Calls Tryd.prog 16 #[.int .u64 (bvI hi), .int .u64 (bvI lo)] Wx fun e w' => e = .returned (.agg #[.int .u64 (bvI (unblend hi - blend lo)), .int .u64 (bvI lo)]) ∧ Below Wx.heap.size Wx w') := fun Wx => named_any hi lo Wx
    obtain ⟨t, ht⟩ : ∃ t, ((unblend hi - blend lo, lo) : Tr) = t := ⟨_, rfl⟩
    have e1 : unblend hi - blend lo = t.1 := by rw [← ht]
    have e2 : Hid (lo = t.2) := by show lo = t.2; rw [← ht]
    rw [e1] at NM
    have HB : Hid (∀ w3, Below ((W.alloc (.cells #[.bool oth, .int .i64 kind, .int .u64 (bvI hi), .int .u64 (bvI lo), .bool true] 35)).alloc (.cells #[.int .u64 (bvI hi), .int .u64 (bvI lo)] 33)).heap.size ((W.alloc (.cells #[.bool oth, .int .i64 kind, .int .u64 (bvI hi), .int .u64 (bvI lo), .bool true] 35)).alloc (.cells #[.int .u64 (bvI hi), .int .u64 (bvI lo)] 33)) w3 → PlE w W w3 K M F TT W.heap.size (W.heap.size + 1) oth true kind hi lo (hi, lo)) := fun w3 hb => HP0.out.below hb
    clear HP0 e1 ht
    go_enter Tryd.func7, Tryd.ntmps7
    go_upto_region 4 with (go_at_call 16; (with_reducible refine (NM.out _).mono ?_); clear NM; rintro e w3 ⟨rfl, hb3⟩; have E3 := HB.out w3 hb3; have x0 := E3.tr.cell 0 rfl; have x1 := E3.tr.cell 1 rfl; have y0 := E3.tr.frozen 0; have y1 := E3.tr.frozen 1; have HE3 : Hid (PlE w W w3 K M F TT W.heap.size (W.heap.size + 1) oth true kind hi lo (hi, lo)) := E3; clear hb3 HB E3)
    have HP1 : Hid (PlE w W ((w3.setCell ⟨W.heap.size + 1, 0, none⟩ (.int .u64 (bvI t.1))).setCell ⟨W.heap.size + 1, 1, none⟩ (.int .u64 (bvI t.2))) K M F TT W.heap.size (W.heap.size + 1) oth true kind hi lo t) := HE3.out.named t HW.out
    obtain ⟨Wt, hWt⟩ : ∃ Wt, (w3.setCell ⟨W.heap.size + 1, 0, none⟩ (.int .u64 (bvI t.1))).setCell ⟨W.heap.size + 1, 1, none⟩ (.int .u64 (bvI t.2)) = Wt := ⟨_, rfl⟩
    have HP : Hid (PlE w W Wt K M F TT W.heap.size (W.heap.size + 1) oth true kind hi lo t) := by rw [← hWt]; exact HP1.out
    rw [e2.out, hWt]
    obtain ⟨bt, hbt⟩ : ∃ bt, W.heap.size + 1 = bt := ⟨_, rfl⟩
    rw [hbt] at HP ⊢
    clear hWt HP1 HE3 hbt x0 x1 y0 y1 e2
    have c1 := HP.out.op.cell 1 rfl
    have ha := Q.out.lt.1
    have hb := Q.out.lt.2.1
    have hc := Q.out.lt.2.2.1
    have hd := Q.out.lt.2.2.2
    by_cases k1 : kind = 1
    · subst k1
      have E0 := HP.out.below ((Below.refl Wt.heap.size Wt).drew)
      have P1 := E0.fam.putP a ha Q.out.k.1 t
      go_upto_region 6 with fail
      go_region_held3 (fun W => W.cell? ⟨bt, 0, none⟩ = some (.int .u64 (bvI t.1)) ∧ W.cell? ⟨bt, 1, none⟩ = some (.int .u64 (bvI t.2))) (first | exact ⟨E0.tr.cell 0 rfl, E0.tr.cell 1 rfl⟩ | exact ⟨k4.cell 0 rfl, k4.cell 1 rfl⟩ | exact ⟨k5.cell 0 rfl, k5.cell 1 rfl⟩) (first
        | (go_at_call 15; (with_reducible refine P1.mono ?_); clear P1; rintro e w4 ⟨b1, T1, rfl, H4, i4, u4⟩; have k4 := E0.turned ha u4; have P2 := H4.putR c hc Q.out.k.2.2.1 t; have hlt4 := H4.rowlt hc; have hsz4 := u4.size)
        | (go_at_call 17; (with_reducible refine P2.mono ?_); clear P2; rintro e w5 ⟨b2, T2, rfl, H5, i5, u5⟩; obtain ⟨rfl, rfl⟩ := alike_put Q.out HA.out (E0.fam.few a ha).len i4 i5; have k5 : Blk w5 bt #[.int .u64 (bvI t.1), .int .u64 (bvI t.2)] 33 := put_box E0 ha hc Q.out.ne.2.2.1 u4 k4 u5))
      all_goals
        have HN : Hid (PlP w K M F a b c d (.returned (.bool true)) w5) := ⟨rfl, _, H5, HA.out.both Q.out T1⟩
        have eb : (b1 == b1) = true := by simp
        clear E0 H4 H5 i4 i5 u4 u5 k4 k5 hlt4 hsz4 c1
        go_wp2
        go_ret
        exact HN.out
    · have n1 : (kind == 1) = false := by simp [k1]
      by_cases k2 : kind = 2
      · subst k2
        have fc := HP.out.fam.few c hc
        rw [Q.out.k.2.2.1] at fc
        have R1 := rTraces_any (F c) w.heap.size (M c) (TT c) Wt fc
        rw [HA.out.1] at R1
        go_wp2_with (first
          | (go_at_call 9; (with_reducible refine R1.mono ?_); clear R1; rintro e w4 ⟨a4, c4, rfl, t4, b4⟩; have fa := (HP.out.fam.below b4).few a ha; rw [Q.out.k.1] at fa; have L1 := tracesL_any (F a) w.heap.size (M a) (TT a) a4 (TT a).length c4 w4 fa.at t4 rfl; clear fa t4)
          | (go_at_call 8; (with_reducible refine L1.mono ?_); clear L1; rintro e w5 ⟨rfl, b5⟩))
        go_ret
        exact plp_below HP.out.fam HA.out (b4.trans (b5.mono b4.size))
      · have n2 : (kind == 2) = false := by simp [k2]
        by_cases k3 : kind = 3
        · subst k3
          have fa := HP.out.fam.few a ha
          rw [Q.out.k.1] at fa
          have G1 := guessF_any (F a) w.heap.size (M a) (TT a) Wt fa.at
          have HG : Hid (gsN (M c) (TT c) = gsN (M a) (TT a)) := by rw [HA.out.1, Q.out.m.1]; exact rfl
          obtain ⟨gs, hgs⟩ : ∃ gs, gsN (M a) (TT a) = gs := ⟨_, rfl⟩
          rw [hgs] at G1
          have eg : ((gs : Int) == (gs : Int)) = true := by simp
          clear fa
          go_wp2_with (first
            | (go_at_call 10; (with_reducible refine G1.mono ?_); clear G1; rintro e w4 ⟨rfl, b4⟩; have fc := (HP.out.fam.below b4).few c hc; rw [Q.out.k.2.2.1] at fc; have G2 := rGuess_any (F c) w.heap.size (M c) (TT c) w4 fc; rw [HG.out, hgs] at G2; clear fc hgs)
            | (go_at_call 11; (with_reducible refine G2.mono ?_); clear G2; rintro e w5 ⟨rfl, b5⟩))
          go_ret
          exact plp_below HP.out.fam HA.out (b4.trans (b5.mono b4.size))
        · have n3 : (kind == 3) = false := by simp [k3]
          by_cases k4 : kind = 4
          · subst k4
            by_cases hm : M b = M a
            · have P1 := HP.out.fam.mergeP a b ha hb Q.out.ne.1 Q.out.k.1 Q.out.k.2.1 hm
              have HM : Hid (M d = M c) := by rw [Q.out.m.1, Q.out.m.2]; exact hm
              clear hm
              go_wp2_with (first
                | (go_at_call 18; (with_reducible refine P1.mono ?_); clear P1; rintro e w4 ⟨T1, rfl, H4, t4⟩; have P2 := H4.mergeR c d hc hd Q.out.ne.2.1 Q.out.k.2.2.1 Q.out.k.2.2.2 HM.out)
                | (go_at_call 19; (with_reducible refine P2.mono ?_); clear P2; rintro e w5 ⟨T2, rfl, H5, t5⟩))
              go_ret
              obtain rfl := alike_merge Q.out HA.out t4 t5
              exact ⟨rfl, _, H5, HA.out.both Q.out T1⟩
            · obtain ⟨_, _, ka, _⟩ := (HP.out.fam.few a ha).row
              obtain ⟨_, _, kb, _⟩ := (HP.out.fam.few b hb).row
              rw [Q.out.k.1] at ka
              rw [Q.out.k.2.1] at kb
              have P1 := mergeBad_any (F a) (M a) (F b) (M b) _ _ Wt ka kb hm
              have HM : Hid (M d ≠ M c) := by rw [Q.out.m.1, Q.out.m.2]; exact hm
              clear hm ka kb
              go_wp2_with (first
                | (go_at_call 18; (with_reducible refine P1.mono ?_); clear P1; rintro e w4 ⟨rfl, b4⟩; obtain ⟨_, _, kc, _⟩ := ((HP.out.fam.below b4).few c hc).row; obtain ⟨_, _, kd, _⟩ := ((HP.out.fam.below b4).few d hd).row; rw [Q.out.k.2.2.1] at kc; rw [Q.out.k.2.2.2] at kd; have P2 := rMergeBad_any (F c) (M c) (F d) (M d) _ _ w4 kc kd HM.out; clear kc kd)
                | (go_at_call 19; (with_reducible refine P2.mono ?_); clear P2; rintro e w5 ⟨rfl, b5⟩))
              go_ret
              exact plp_below HP.out.fam HA.out (b4.trans (b5.mono b4.size))
          · have n4 : (kind == 4) = false := by simp [k4]
            by_cases k5 : kind = 5
            · subst k5
              have fa := HP.out.fam.few a ha
              rw [Q.out.k.1] at fa
              have P1 := mergeSelf_any (F a) w.heap.size (M a) (TT a) Wt fa.at
              clear fa
              go_wp2_with (first
                | (go_at_call 18; (with_reducible refine P1.mono ?_); clear P1; rintro e w4 ⟨rfl, b4⟩; have fc := (HP.out.fam.below b4).few c hc; rw [Q.out.k.2.2.1] at fc; have P2 := rMergeSelf_any (F c) w.heap.size (M c) (TT c) w4 fc; clear fc)
                | (go_at_call 19; (with_reducible refine P2.mono ?_); clear P2; rintro e w5 ⟨rfl, b5⟩))
              go_ret
              exact plp_below HP.out.fam HA.out (b4.trans (b5.mono b4.size))
            · have n5 : (kind == 5) = false := by simp [k5]
              by_cases k6 : kind = 6
              · subst k6
                obtain ⟨_, _, ka, _⟩ := (HP.out.fam.few a ha).row
                rw [Q.out.k.1] at ka
                have P1 := mergeNil_any (F a) (M a) _ Wt ka
                clear ka
                go_wp2_with (go_at_call 18; (with_reducible refine P1.mono ?_); clear P1; rintro e w4 ⟨rfl, b4⟩)
                go_ret
                exact plp_below HP.out.fam HA.out b4
              · have n6 : (kind == 6) = false := by simp [k6]
                go_wp2
                go_ret
                exact plp_below HP.out.fam HA.out (Below.refl _ _)
end Go.Proofs.YtpcfchbiohbcoaaDoor
