/-
  SdI.
-/
import Derived.Test.YtffdgpplgkmhiaaDoorSdH
import Derived.Test.YtffdgpplgkmhiaaDoorSaK
namespace Go.Proofs.YtffdgpplgkmhiaaDoor
open Go Go.RowKit
set_option maxRecDepth 100000

theorem run_eqlT {T : TypeId} {xs ys : Array Value} {b : Bool} {W : World} (h : (Op.equalIn 10000 T (.agg xs) (.agg ys)).run Tryd.prog W = .ok b W) : (binOp .eql T (.agg xs) (.agg ys)).run Tryd.prog W = .ok (.bool b) W := by
  rw [run_eql_struct, h]; rfl
/-- What stays while the law runs. -/
structure GrE (w W : World) (ad : Option Addr) (n : Nat) (X : List Sp) (P : Nat → Pl) (b1 b2 : Nat) (th uh tl ul : Int) : Prop where
  low : Below w.heap.size w W
  sps : SpsAt W ad n X P
  tab : Tabs W
  one : Blk W b1 #[.int .u64 th, .int .u64 tl] 35
  two : Blk W b2 #[.int .u64 uh, .int .u64 ul] 35
theorem GrE.below {w W W' : World} {ad : Option Addr} {n : Nat} {X : List Sp} {P : Nat → Pl} {b1 b2 : Nat} {th uh tl ul : Int} (h : GrE w W ad n X P b1 b2 th uh tl ul) (hb : Below W.heap.size W W') : GrE w W' ad n X P b1 b2 th uh tl ul :=
  ⟨h.low.trans (hb.mono h.low.size), h.sps.below hb, h.tab.below hb, h.one.below hb h.one.lt, h.two.below hb h.two.lt⟩
theorem overR (r : Nat) : (decide ((2147483647 : Int) < (r : Int)) = true ∧ decide (2147483647 < r) = true ∧ True) ∨ (decide ((2147483647 : Int) < (r : Int)) = false ∧ decide (2147483647 < r) = false ∧ r ≤ 2147483647) := by
  by_cases h : 2147483647 < r
  · exact Or.inl ⟨decide_eq_true (by omega), decide_eq_true h, trivial⟩
  · exact Or.inr ⟨decide_eq_false (by omega), decide_eq_false h, by omega⟩
theorem belowAl {W : World} (o : Obj) : Below W.heap.size W (W.alloc o) := (Below.refl _ _).alloc (Nat.le_refl _) _
/-- One part's verdict over spans under another name. -/
theorem decPart_any (ad : Option Addr) (n c g : Nat) (X : List Sp) (P : Nat → Pl) (hi lo : BitVec 64) (hi' lo' q m : Int) (ehi : hi' = bvI hi) (elo : lo' = bvI lo) (w : World) (hX : SpsAt w ad n (X.map (renS hi' lo')) P) (hg : Blk w g #[.int .i64 4, .int .u64 0, .string ⟨#[]⟩, .int .i64 q] 32) (h : ¬ (bvI hi = 0 ∧ bvI lo = 0)) (hF : ∀ a ∈ X, a.Fits) (hS : ∀ a ∈ X, a.Small) (h0 : 0 ≤ q) (h1 : q ≤ 65536) (hm : bvI (mixB hi lo) / 281474976710656 = m) (hT : Tabs w) :
    Calls Tryd.prog 10 #[.slice (some ⟨g, 0, none⟩) 1 1, .slice ad n c] w fun e w' => ∃ (k : Bool) (v gg er : Int), e = .returned (.tuple #[.agg #[.bool k, .int .i64 v, .int .u64 0, .int .u64 gg], .int .i64 er]) ∧ DecN X m q k v gg er ∧ Below w.heap.size w w' := by
  subst ehi
  subst elo
  refine (decideP_any (some ⟨g, 0, none⟩) 1 1 [pPol q] ad n c (X.map (renS (bvI hi) (bvI lo))) P w (polAt2 hg) (fun p hp => by simp at hp; subst hp; simp only [pPol]; decide) (by omega) hX (fits_ren ⟨bvI_lo hi, bvI_hi hi⟩ ⟨bvI_lo lo, bvI_hi lo⟩ hF) (small_ren hS) hT).mono ?_
  rintro e w' ⟨k, v, gg, er, h2, h3, h4⟩
  exact ⟨k, v, gg, er, h2, dec_part h hF hS h0 h1 hm h3, h4⟩
set_option maxHeartbeats 16000000 in
theorem sampleGreater_any (ad : Option Addr) (n cap : Nat) (X : List Sp) (P : Nat → Pl) (w : World) (mix lo : BitVec 64) (a b mi li : Int) (hmi : mi = bvI mix) (hli : li = bvI lo) (hX : SpsAt w ad n X P) (hF : ∀ a ∈ X, a.Fits) (hS : ∀ a ∈ X, a.Small) (hn : n ≤ 140737488355328) (hT : Tabs w) :
    Calls Tryd.prog 4 #[.slice ad n cap, .int .u64 mi, .int .u64 li, .int .i64 a, .int .i64 b] w fun e w' => e = .returned (.bool true) ∧ Below w.heap.size w w' := by
  have HF : Hid (∀ a ∈ X, a.Fits) := hF
  have HS : Hid (∀ a ∈ X, a.Small) := hS
  have HXL : Hid (X.length = n) := hX.len
  obtain ⟨a1, ha1⟩ : ∃ x, max 0 (min a 65536) = x := ⟨_, rfl⟩
  obtain ⟨c1, hc1⟩ : ∃ x, max 0 (min b 65536) = x := ⟨_, rfl⟩
  obtain ⟨q1, hq1⟩ : ∃ x, min a1 c1 = x := ⟨_, rfl⟩
  obtain ⟨q2, hq2⟩ : ∃ x, max a1 c1 = x := ⟨_, rfl⟩
  have HQ : Hid ((0 ≤ q1 ∧ q1 ≤ 65536) ∧ (0 ≤ q2 ∧ q2 ≤ 65536) ∧ q1 ≤ q2) := by
    show (0 ≤ q1 ∧ q1 ≤ 65536) ∧ (0 ≤ q2 ∧ q2 ≤ 65536) ∧ q1 ≤ q2
    omega
  have wq2 : IntKind.u64.wrap q2 = q2 := by rw [IntKind.wrap_u64]; omega
  obtain ⟨m, hm⟩ : ∃ x, mi / 281474976710656 = x := ⟨_, rfl⟩
  have HM0 : Hid (0 ≤ m) := by
    show 0 ≤ m
    rw [← hm, hmi]
    exact Int.ediv_nonneg (bvI_lo _) (by omega)
  obtain ⟨t0, ht0⟩ : ∃ x, unblend mix - blend lo = x := ⟨_, rfl⟩
  obtain ⟨u0, hu0⟩ : ∃ x, unblend mix - blend (lo + 1#64) = x := ⟨_, rfl⟩
  have HM1 : Hid (bvI (mixB t0 lo) / 281474976710656 = m) := by
    show bvI (mixB t0 lo) / 281474976710656 = m
    rw [← ht0, mix_named, ← hmi, hm]
  have HM2 : Hid (bvI (mixB u0 (lo + 1#64)) / 281474976710656 = m) := by
    show bvI (mixB u0 (lo + 1#64)) / 281474976710656 = m
    rw [← hu0, mix_named, ← hmi, hm]
  obtain ⟨th, hth⟩ : ∃ x, bvI t0 = x := ⟨_, rfl⟩
  obtain ⟨uh, huh⟩ : ∃ x, bvI u0 = x := ⟨_, rfl⟩
  obtain ⟨ul, hul⟩ : ∃ x, bvI (lo + 1#64) = x := ⟨_, rfl⟩
  obtain ⟨tl, htl⟩ : ∃ x, li = x := ⟨_, rfl⟩
  have wul : IntKind.u64.wrap (tl + 1) = ul := by
    rw [← htl, hli, ← hul, ← bvI_add]
    rfl
  have N1 : Hid (∀ W, Calls Tryd.prog 8 #[.int .u64 mi, .int .u64 tl] W fun e w' => e = .returned (.agg #[.int .u64 th, .int .u64 tl]) ∧ Below W.heap.size W w') := fun W => by
    have := named_any mix lo W
    rw [ht0, hth, ← hmi, ← hli, htl] at this
    exact this
  have N2 : Hid (∀ W, Calls Tryd.prog 8 #[.int .u64 mi, .int .u64 ul] W fun e w' => e = .returned (.agg #[.int .u64 uh, .int .u64 ul]) ∧ Below W.heap.size W w') := fun W => by
    have := named_any mix (lo + 1#64) W
    rw [hu0, huh, ← hmi, hul] at this
    exact this
  have hqt : ∀ (x y : Int) W, (binOp .eql 35 (.agg #[.int .u64 x, .int .u64 y]) (.agg #[.int .u64 0, .int .u64 0])).run Tryd.prog W = .ok (.bool (decide (x = 0 ∧ y = 0))) W := fun x y W => run_eqlT (eqI_trace 9998 x y 0 0 W)
  have hgt := guard_trace
  have AL := aliveP_any w hT
  have HX : Hid (SpsAt w ad n X P ∧ Tabs w) := ⟨hX, hT⟩
  have HTL : Hid (tl = bvI lo ∧ th = bvI t0 ∧ uh = bvI u0 ∧ ul = bvI (lo + 1#64)) := ⟨by rw [← htl, hli], hth.symm, huh.symm, hul.symm⟩
  rw [htl]
  clear hX hT hF hS ht0 hu0 hth huh hul htl hli hmi
  obtain ⟨tz, htz⟩ : ∃ z, decide (th = 0 ∧ tl = 0) = z := ⟨_, rfl⟩
  obtain ⟨uz, huz⟩ : ∃ z, decide (uh = 0 ∧ ul = 0) = z := ⟨_, rfl⟩
  have HTZ : Hid (decide (th = 0 ∧ tl = 0) = tz ∧ decide (uh = 0 ∧ ul = 0) = uz) := ⟨htz, huz⟩
  have hqt1 : ∀ W, (binOp .eql 35 (.agg #[.int .u64 th, .int .u64 tl]) (.agg #[.int .u64 0, .int .u64 0])).run Tryd.prog W = .ok (.bool tz) W := fun W => by rw [← htz]; exact hqt th tl W
  have hqt2 : ∀ W, (binOp .eql 35 (.agg #[.int .u64 uh, .int .u64 ul]) (.agg #[.int .u64 0, .int .u64 0])).run Tryd.prog W = .ok (.bool uz) W := fun W => by rw [← huz]; exact hqt uh ul W
  clear hqt htz huz
  go_enter Tryd.func4, Tryd.ntmps4
  go_upto_region 6 with (first
    | (go_at_call 5; (with_reducible refine AL.mono ?_); clear AL; rintro e w1 ⟨rfl, hb1⟩; have H1 : Hid (Below w.heap.size w w1) := hb1; clear hb1)
    | (go_at_call 8; (with_reducible refine (N1.out _).mono ?_); clear N1; rintro e w2 ⟨rfl, hb2⟩; have H2 : Hid (Below w.heap.size w w2) := H1.out.trans (hb2.mono H1.out.size); clear hb2)
    | (go_at_call 8; (with_reducible refine (N2.out _).mono ?_); clear N2; rintro e w3 ⟨rfl, hb3⟩; have H3 : Hid (Below (w2.alloc (.cells #[.int .u64 th, .int .u64 tl] 35)).heap.size (w2.alloc (.cells #[.int .u64 th, .int .u64 tl] 35)) w3) := hb3; clear hb3))
  obtain ⟨wr4, hw4⟩ : ∃ W, w3.alloc (.cells #[.int .u64 uh, .int .u64 ul] 35) = W := ⟨_, rfl⟩
  obtain ⟨b1, hb1⟩ : ∃ y, w2.heap.size = y := ⟨_, rfl⟩
  obtain ⟨b2, hb2⟩ : ∃ y, w3.heap.size = y := ⟨_, rfl⟩
  have HE4 : Hid (GrE w wr4 ad n X P b1 b2 th uh tl ul) := by
    have h2 : Below w.heap.size w (w2.alloc (.cells #[.int .u64 th, .int .u64 tl] 35)) := H2.out.trans ((belowAl _).mono H2.out.size)
    have h3 : Below w.heap.size w w3 := h2.trans (H3.out.mono h2.size)
    have h4 : Below w.heap.size w wr4 := by rw [← hw4]; exact h3.trans ((belowAl _).mono h3.size)
    have k1 : Blk wr4 b1 #[.int .u64 th, .int .u64 tl] 35 := by
      have k := Blk.new w2 #[.int .u64 th, .int .u64 tl] 35
      have k' := k.below H3.out k.lt
      rw [← hw4, ← hb1]
      exact k'.alloc _
    have k2 : Blk wr4 b2 #[.int .u64 uh, .int .u64 ul] 35 := by rw [← hw4, ← hb2]; exact Blk.new _ _ _
    exact ⟨h4, HX.out.1.below h4, HX.out.2.below h4, k1, k2⟩
  (try rw [hw4])
  simp only [hb1, hb2]
  clear hw4 hb1 hb2 H1 H2 H3 HX ha1 hc1
  have xa : wr4.cell? ⟨b1, 0, none⟩ = some (.int .u64 th) := HE4.out.one.cell 0 rfl
  have xb : wr4.cell? ⟨b1, 1, none⟩ = some (.int .u64 tl) := HE4.out.one.cell 1 rfl
  have xc : wr4.cell? ⟨b2, 0, none⟩ = some (.int .u64 uh) := HE4.out.two.cell 0 rfl
  have xd : wr4.cell? ⟨b2, 1, none⟩ = some (.int .u64 ul) := HE4.out.two.cell 1 rfl
  rcases tz with _ | _
  · rcases uz with _ | _
    · have WT := lawWeight_any ad n cap X P wr4 HE4.out.sps hn
      have HZ : Hid (¬ (th = 0 ∧ tl = 0) ∧ ¬ (uh = 0 ∧ ul = 0)) := ⟨of_decide_eq_false HTZ.out.1, of_decide_eq_false HTZ.out.2⟩
      go_upto_region 8 with (go_at_call 7; (with_reducible refine WT.mono ?_); clear WT; rintro e w5 ⟨r, rfl, hr, hb5⟩; have HR : Hid (r ≤ 2147483647 → WeightOk X) := hr; have HE5 : Hid (GrE w w5 ad n X P b1 b2 th uh tl ul) := HE4.out.below hb5; clear hr hb5 HE4 xa xb xc xd; rcases overR r with ⟨hrd, hrn, hrk⟩ | ⟨hrd, hrn, hrk⟩)
      · (try go_wp2)
        go_ret
        exact ⟨rfl, HE5.out.low⟩
      · have HOK : Hid (WeightOk X) := HR.out hrk
        clear HR hrd hrn hrk
        have HE4 : Hid (GrE w w5 ad n X P b1 b2 th uh tl ul) := HE5.out
        clear HE5
        generalize w5 = wr4 at *
        have RN4 : Hid (∀ o, Calls Tryd.prog 9 #[.slice ad n cap, .agg #[.int .u64 th, .int .u64 tl]] (wr4.alloc o) fun e w' => ∃ ad' c' P', e = .returned (.slice ad' n c') ∧ SpsAt w' ad' n (X.map (renS th tl)) P' ∧ Below (wr4.alloc o).heap.size (wr4.alloc o) w') := fun o => renamed_any ad n cap X P th tl _ (HE4.out.sps.below (belowAl o)) HOK.out
        have xa4 : ∀ o, (wr4.alloc o).cell? ⟨b1, 0, none⟩ = some (.int .u64 th) := fun o => (HE4.out.one.alloc o).cell 0 rfl
        have xb4 : ∀ o, (wr4.alloc o).cell? ⟨b1, 1, none⟩ = some (.int .u64 tl) := fun o => (HE4.out.one.alloc o).cell 1 rfl
        go_upto_region 9 with (first
          | (go_at_call 9; (with_reducible refine (RN4.out _).mono ?_); clear RN4; rintro e wa4 ⟨ad', c', P', rfl, hsp, hb⟩; have hbb : Below wr4.heap.size wr4 wa4 := (belowAl _).trans (hb.mono (belowAl _).size); have EE := HE4.out.below hbb; have DD := decPart_any ad' n c' wr4.heap.size X P' t0 lo th tl q1 m HTL.out.2.1 HTL.out.1 wa4 hsp (Blk.below (Blk.new wr4 #[.int .i64 4, .int .u64 0, .string ⟨#[]⟩, .int .i64 q1] 32) hb (by rw [World.size_alloc]; omega)) (by have := HZ.out.1; have h2 := HTL.out; rw [← h2.2.1, ← h2.1]; exact this) HF.out HS.out HQ.out.1.1 HQ.out.1.2 HM1.out EE.tab; have HEa4 : Hid (GrE w wa4 ad n X P b1 b2 th uh tl ul) := EE; have HW4 : Hid (Below wr4.heap.size wr4 wa4) := hbb; clear EE hsp hb hbb)
          | (go_at_call 10; (with_reducible refine DD.mono ?_); clear DD; rintro e wb4 ⟨k4, v4, g4, e4, rfl, hd, hb⟩; have HD4 : Hid (DecN X m q1 k4 v4 g4 e4) := hd; have HEb4 : Hid (GrE w wb4 ad n X P b1 b2 th uh tl ul) := HEa4.out.below hb; have HV4 : Hid (Below wr4.heap.size wr4 wb4) := HW4.out.trans (hb.mono HW4.out.size); clear hd hb HEa4 HW4))
        obtain ⟨wr5, hw5⟩ : ∃ W, wb4.alloc (.cells #[.bool k4, .int .i64 v4, .int .u64 0, .int .u64 g4] 41) = W := ⟨_, rfl⟩
        have HE5 : Hid (GrE w wr5 ad n X P b1 b2 th uh tl ul) := by rw [← hw5]; exact HEb4.out.below (belowAl _)
        have KV4 : Hid (Blk wr5 wb4.heap.size #[.bool k4, .int .i64 v4, .int .u64 0, .int .u64 g4] 41 ∧ Below wr4.heap.size wr4 wr5) := by rw [← hw5]; exact ⟨Blk.new _ _ _, HV4.out.trans ((belowAl _).mono HV4.out.size)⟩
        (try rw [hw5])
        clear hw5 HEb4 HV4 xa4 xb4 HE4
        have RN5 : Hid (∀ o, Calls Tryd.prog 9 #[.slice ad n cap, .agg #[.int .u64 th, .int .u64 tl]] (wr5.alloc o) fun e w' => ∃ ad' c' P', e = .returned (.slice ad' n c') ∧ SpsAt w' ad' n (X.map (renS th tl)) P' ∧ Below (wr5.alloc o).heap.size (wr5.alloc o) w') := fun o => renamed_any ad n cap X P th tl _ (HE5.out.sps.below (belowAl o)) HOK.out
        have xa5 : ∀ o, (wr5.alloc o).cell? ⟨b1, 0, none⟩ = some (.int .u64 th) := fun o => (HE5.out.one.alloc o).cell 0 rfl
        have xb5 : ∀ o, (wr5.alloc o).cell? ⟨b1, 1, none⟩ = some (.int .u64 tl) := fun o => (HE5.out.one.alloc o).cell 1 rfl
        go_upto_region 10 with (first
          | (go_at_call 9; (with_reducible refine (RN5.out _).mono ?_); clear RN5; rintro e wa5 ⟨ad', c', P', rfl, hsp, hb⟩; have hbb : Below wr5.heap.size wr5 wa5 := (belowAl _).trans (hb.mono (belowAl _).size); have EE := HE5.out.below hbb; have DD := decPart_any ad' n c' wr5.heap.size X P' t0 lo th tl q2 m HTL.out.2.1 HTL.out.1 wa5 hsp (Blk.below (Blk.new wr5 #[.int .i64 4, .int .u64 0, .string ⟨#[]⟩, .int .i64 q2] 32) hb (by rw [World.size_alloc]; omega)) (by have := HZ.out.1; have h2 := HTL.out; rw [← h2.2.1, ← h2.1]; exact this) HF.out HS.out HQ.out.2.1.1 HQ.out.2.1.2 HM1.out EE.tab; have HEa5 : Hid (GrE w wa5 ad n X P b1 b2 th uh tl ul) := EE; have HW5 : Hid (Below wr5.heap.size wr5 wa5) := hbb; clear EE hsp hb hbb)
          | (go_at_call 10; (with_reducible refine DD.mono ?_); clear DD; rintro e wb5 ⟨k5, v5, g5, e5, rfl, hd, hb⟩; have HD5 : Hid (DecN X m q2 k5 v5 g5 e5) := hd; have HEb5 : Hid (GrE w wb5 ad n X P b1 b2 th uh tl ul) := HEa5.out.below hb; have HV5 : Hid (Below wr5.heap.size wr5 wb5) := HW5.out.trans (hb.mono HW5.out.size); clear hd hb HEa5 HW5))
        obtain ⟨wr6, hw6⟩ : ∃ W, wb5.alloc (.cells #[.bool k5, .int .i64 v5, .int .u64 0, .int .u64 g5] 41) = W := ⟨_, rfl⟩
        have HE6 : Hid (GrE w wr6 ad n X P b1 b2 th uh tl ul) := by rw [← hw6]; exact HEb5.out.below (belowAl _)
        have KV5 : Hid (Blk wr6 wb5.heap.size #[.bool k5, .int .i64 v5, .int .u64 0, .int .u64 g5] 41 ∧ Below wr5.heap.size wr5 wr6) := by rw [← hw6]; exact ⟨Blk.new _ _ _, HV5.out.trans ((belowAl _).mono HV5.out.size)⟩
        (try rw [hw6])
        clear hw6 HEb5 HV5 xa5 xb5 HE5
        have RN6 : Hid (∀ o, Calls Tryd.prog 9 #[.slice ad n cap, .agg #[.int .u64 uh, .int .u64 ul]] (wr6.alloc o) fun e w' => ∃ ad' c' P', e = .returned (.slice ad' n c') ∧ SpsAt w' ad' n (X.map (renS uh ul)) P' ∧ Below (wr6.alloc o).heap.size (wr6.alloc o) w') := fun o => renamed_any ad n cap X P uh ul _ (HE6.out.sps.below (belowAl o)) HOK.out
        have xa6 : ∀ o, (wr6.alloc o).cell? ⟨b2, 0, none⟩ = some (.int .u64 uh) := fun o => (HE6.out.two.alloc o).cell 0 rfl
        have xb6 : ∀ o, (wr6.alloc o).cell? ⟨b2, 1, none⟩ = some (.int .u64 ul) := fun o => (HE6.out.two.alloc o).cell 1 rfl
        go_upto_region 11 with (first
          | (go_at_call 9; (with_reducible refine (RN6.out _).mono ?_); clear RN6; rintro e wa6 ⟨ad', c', P', rfl, hsp, hb⟩; have hbb : Below wr6.heap.size wr6 wa6 := (belowAl _).trans (hb.mono (belowAl _).size); have EE := HE6.out.below hbb; have DD := decPart_any ad' n c' wr6.heap.size X P' u0 (lo + 1#64) uh ul q2 m HTL.out.2.2.1 HTL.out.2.2.2 wa6 hsp (Blk.below (Blk.new wr6 #[.int .i64 4, .int .u64 0, .string ⟨#[]⟩, .int .i64 q2] 32) hb (by rw [World.size_alloc]; omega)) (by have := HZ.out.2; have h2 := HTL.out; rw [← h2.2.2.1, ← h2.2.2.2]; exact this) HF.out HS.out HQ.out.2.1.1 HQ.out.2.1.2 HM2.out EE.tab; have HEa6 : Hid (GrE w wa6 ad n X P b1 b2 th uh tl ul) := EE; have HW6 : Hid (Below wr6.heap.size wr6 wa6) := hbb; clear EE hsp hb hbb)
          | (go_at_call 10; (with_reducible refine DD.mono ?_); clear DD; rintro e wb6 ⟨k6, v6, g6, e6, rfl, hd, hb⟩; have HD6 : Hid (DecN X m q2 k6 v6 g6 e6) := hd; have HEb6 : Hid (GrE w wb6 ad n X P b1 b2 th uh tl ul) := HEa6.out.below hb; have HV6 : Hid (Below wr6.heap.size wr6 wb6) := HW6.out.trans (hb.mono HW6.out.size); clear hd hb HEa6 HW6))
        obtain ⟨wr7, hw7⟩ : ∃ W, wb6.alloc (.cells #[.bool k6, .int .i64 v6, .int .u64 0, .int .u64 g6] 41) = W := ⟨_, rfl⟩
        have HE7 : Hid (GrE w wr7 ad n X P b1 b2 th uh tl ul) := by rw [← hw7]; exact HEb6.out.below (belowAl _)
        have KV6 : Hid (Blk wr7 wb6.heap.size #[.bool k6, .int .i64 v6, .int .u64 0, .int .u64 g6] 41 ∧ Below wr6.heap.size wr6 wr7) := by rw [← hw7]; exact ⟨Blk.new _ _ _, HV6.out.trans ((belowAl _).mono HV6.out.size)⟩
        (try rw [hw7])
        clear hw7 HEb6 HV6 xa6 xb6 HE6
        obtain ⟨y1, hy1⟩ : ∃ y, wb4.heap.size = y := ⟨_, rfl⟩
        obtain ⟨y2, hy2⟩ : ∃ y, wb5.heap.size = y := ⟨_, rfl⟩
        obtain ⟨y3, hy3⟩ : ∃ y, wb6.heap.size = y := ⟨_, rfl⟩
        have K1 : Blk wr7 wb4.heap.size #[.bool k4, .int .i64 v4, .int .u64 0, .int .u64 g4] 41 := by
          have k := KV4.out.1
          have b := KV5.out.2
          have b' := b.trans (KV6.out.2.mono b.size)
          exact k.below b' k.lt
        have K2 : Blk wr7 wb5.heap.size #[.bool k5, .int .i64 v5, .int .u64 0, .int .u64 g5] 41 := by
          have k := KV5.out.1
          exact k.below KV6.out.2 k.lt
        have K3 := KV6.out.1
        rw [hy1] at K1
        rw [hy2] at K2
        rw [hy3] at K3
        simp only [hy1, hy2, hy3]
        clear hy1 hy2 hy3
        have GG := great3 HM0.out HQ.out.2.2 HD4.out HD5.out HD6.out
        clear HD4 HD5 HD6 KV4 KV5 KV6
        have a0 : wr7.cell? ⟨y1, 0, none⟩ = some (.bool k4) := K1.cell 0 rfl
        have a3 : wr7.cell? ⟨y1, 3, none⟩ = some (.int .u64 g4) := K1.cell 3 rfl
        have c0 : wr7.cell? ⟨y2, 0, none⟩ = some (.bool k5) := K2.cell 0 rfl
        have c1 : wr7.cell? ⟨y2, 1, none⟩ = some (.int .i64 v5) := K2.cell 1 rfl
        have c2 : wr7.cell? ⟨y2, 2, none⟩ = some (.int .u64 0) := K2.cell 2 rfl
        have c3 : wr7.cell? ⟨y2, 3, none⟩ = some (.int .u64 g5) := K2.cell 3 rfl
        have d0 : wr7.cell? ⟨y3, 0, none⟩ = some (.bool k6) := K3.cell 0 rfl
        have d1 : wr7.cell? ⟨y3, 1, none⟩ = some (.int .i64 v6) := K3.cell 1 rfl
        have d2 : wr7.cell? ⟨y3, 2, none⟩ = some (.int .u64 0) := K3.cell 2 rfl
        have d3 : wr7.cell? ⟨y3, 3, none⟩ = some (.int .u64 g6) := K3.cell 3 rfl
        clear K1 K2 K3
        have hqv : ∀ (k k' : Bool) (p q' p' h h' q : Int) W, (binOp .eql 41 (.agg #[.bool k, .int .i64 p, .int .u64 h, .int .u64 q]) (.agg #[.bool k', .int .i64 p', .int .u64 h', .int .u64 q'])).run Tryd.prog W = .ok (.bool (decide (k = k' ∧ p = p' ∧ h = h' ∧ q = q'))) W := fun k k' p q' p' h h' q W => run_eqlT (eqI_ver 9996 k k' p q q' p' h h' W)
        have hvg := verGuard
        have HB7 : Hid (Below w.heap.size w wr7) := HE7.out.low
        rcases GG with ⟨rfl, rfl, rfl, rfl, rfl, rfl, rfl, rfl, rfl, rfl, rfl, rfl⟩ | ⟨rfl, rfl, rfl, rfl, rfl, rfl, rfl, rfl, rfl, rfl, rfl, rfl, hx⟩ | ⟨rfl, rfl, rfl, rfl, rfl, rfl, rfl, rfl, rfl, rfl, rfl, hx, hlx⟩ | ⟨rfl, rfl, rfl, rfl, rfl, rfl, rfl, rfl, rfl, rfl, hx, hgg, hlx⟩
        · go_wp2
          go_ret
          exact ⟨rfl, HB7.out⟩
        · rcases hx with hx | hx
          · have n0 : ((n : Int) == 0) = true := by rw [← HXL.out, hx]; rfl
            go_wp2
            go_ret
            exact ⟨rfl, HB7.out⟩
          · have mq : decide (m < q2) = false := decide_eq_false hx
            by_cases hn0 : n = 0
            · have n0 : ((n : Int) == 0) = true := by rw [hn0]; rfl
              clear hn0
              go_wp2
              go_ret
              exact ⟨rfl, HB7.out⟩
            · have n0 : ((n : Int) == 0) = false := by simp; omega
              clear hn0
              go_wp2
              go_ret
              exact ⟨rfl, HB7.out⟩
        · have mq : decide (m < q2) = true := decide_eq_true hx
          have n0 : ((n : Int) == 0) = false := by rw [HXL.out] at hlx; simp; omega
          clear hlx
          go_wp2
          go_ret
          exact ⟨rfl, HB7.out⟩
        · have mq : decide (m < q2) = true := decide_eq_true hx
          have n0 : ((n : Int) == 0) = false := by rw [HXL.out] at hlx; simp; omega
          have gg := decide_eq_true hgg
          clear hlx
          go_wp2
          go_ret
          exact ⟨rfl, HB7.out⟩
    · go_wp2
      go_ret
      exact ⟨rfl, HE4.out.low⟩
  · go_wp2
    go_ret
    exact ⟨rfl, HE4.out.low⟩
end Go.Proofs.YtffdgpplgkmhiaaDoor
