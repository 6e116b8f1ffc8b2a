/-
  SpanBack: the row and its card (written by gen_law4.py).
-/
import Derived.Test.YtioibllopidilaaDoorCards
import Derived.Test.YtioibllopidilaaDoorTie
import Derived.Test.YtioibllopidilaaDoorYp
import Derived.Test.YtioibllopidilaaDoorYs
namespace Go.Proofs.YtioibllopidilaaDoor.spanBack
open Go.ChangeShapes Go.WideShapes Go.ChangeAt Go.RowKit Go.Deep Go.Shelf

set_option maxRecDepth 100000 in
set_option maxHeartbeats 4000000 in
theorem back_bad (a : Sp) (p : Pl) (w : World) (ha : SpAt w a p) (hs : a.Small) (hT : Tabs w) (hc : chkS a ≠ 0) :
    Calls Tryd.prog 6 #[spV a p] w fun e w' => e = .returned (.bool true) ∧ Below w.heap.size w w' := by
  have bw0 : Below w.heap.size w (w.alloc (.cells (spC a p) 33)) := (Below.refl _ _).alloc (Nat.le_refl _) _
  have X0 : (w.alloc (.cells (spC a p) 33)).heap[w.heap.size]? = some (.cells (spC a p) 33 (0, 0)) := heap_alloc_new _ _
  have AW := fun w' (h : Below w.heap.size w w') => awake_any w' (hT.below h)
  have CK := fun w' (h : Below w.heap.size w w') => check_any a p w' (ha.below h) hs (hT.below h)
  have EN := fun w' (h : Below w.heap.size w w') => encode_bad a p w' (ha.below h) hs (hT.below h) hc
  clear ha hT hs
  generalize chkS a = c at CK EN hc
  have hc1 : (c != 0) = true := by simpa using hc
  have hc2 : (c != c) = false := by simp
  unfold spV spC at CK EN
  unfold spC at X0 bw0
  unfold spV spC
  go_enter Tryd.func6, Tryd.ntmps6
  go_wp2_with (first
    | (go_at_call 8; refine (AW _ bw0).mono ?_; clear AW; rintro e w1 ⟨rfl, b1⟩; have bw1 := bw0.trans (b1.mono bw0.size); have X1 := (b1.block _ (lt_of_block X0)).trans X0; have x0 := blk_cell X1 0 rfl; have x1 := blk_cell X1 1 rfl; have x2 := blk_cell X1 2 rfl; have x3 := blk_cell X1 3 rfl; have x4 := blk_cell X1 4 rfl; have x5 := blk_cell X1 5 rfl; have x6 := blk_cell X1 6 rfl; have x7 := blk_cell X1 7 rfl; have x8 := blk_cell X1 8 rfl; have x9 := blk_cell X1 9 rfl; have x10 := blk_cell X1 10 rfl; have x11 := blk_cell X1 11 rfl; have x12 := blk_cell X1 12 rfl)
    | (go_at_call 15; refine (EN _ bw1).mono ?_; clear EN; rintro e w2 ⟨rfl, b2⟩; have bw2 := bw1.trans (b2.mono bw1.size); have X2 := (b2.block _ (lt_of_block X1)).trans X1; clear x0 x1 x2 x3 x4 x5 x6 x7 x8 x9 x10 x11 x12; have x0 := blk_cell X2 0 rfl; have x1 := blk_cell X2 1 rfl; have x2 := blk_cell X2 2 rfl; have x3 := blk_cell X2 3 rfl; have x4 := blk_cell X2 4 rfl; have x5 := blk_cell X2 5 rfl; have x6 := blk_cell X2 6 rfl; have x7 := blk_cell X2 7 rfl; have x8 := blk_cell X2 8 rfl; have x9 := blk_cell X2 9 rfl; have x10 := blk_cell X2 10 rfl; have x11 := blk_cell X2 11 rfl; have x12 := blk_cell X2 12 rfl)
    | (go_at_call 13; refine (CK _ bw2).mono ?_; clear CK; rintro e w3 ⟨rfl, b3⟩; have bw3 := bw2.trans (b3.mono bw2.size); have X3 := (b3.block _ (lt_of_block X2)).trans X2; clear x0 x1 x2 x3 x4 x5 x6 x7 x8 x9 x10 x11 x12))
  go_ret
  exact ⟨rfl, bw3⟩
set_option maxRecDepth 100000 in
set_option maxHeartbeats 4000000 in
theorem back_ok (a : Sp) (p : Pl) (w : World) (ha : SpAt w a p) (hs : a.Small) (hf : a.Fits) (hT : Tabs w) (hc : chkS a = 0) :
    Calls Tryd.prog 6 #[spV a p] w fun e w' => e = .returned (.bool true) ∧ Below w.heap.size w w' := by
  have bw0 : Below w.heap.size w (w.alloc (.cells (spC a p) 33)) := (Below.refl _ _).alloc (Nat.le_refl _) _
  have X0 : (w.alloc (.cells (spC a p) 33)).heap[w.heap.size]? = some (.cells (spC a p) 33 (0, 0)) := heap_alloc_new _ _
  have AW := fun w' (h : Below w.heap.size w w') => awake_any w' (hT.below h)
  have CK := fun w' (h : Below w.heap.size w w') => check_any a p w' (ha.below h) hs (hT.below h)
  have EN := fun w' (h : Below w.heap.size w w') => encode_ok a p w' (ha.below h) hs hf (hT.below h) hc
  obtain ⟨L1, L2⟩ := enc_len a hf hc
  have DE := fun w' (h : Below w.heap.size w w') g (hH : Holds w' (some ⟨g, 0, none⟩) (encS a).length (encS a)) => decode_ok (some ⟨g, 0, none⟩) (encS a).length (encS a).length (encS a) w' hH (by omega) (enc_bytes a) (hT.below h) (encS a).length (by rw [span_back a hf hc]; simp [endP]) (by rw [span_back a hf hc]; exact hs) (by rw [span_back a hf hc]; exact hc)
  rw [span_back a hf hc] at DE
  have SM := fun w' (h : Below w.heap.size w w') q (hq : SpAt w' a q) => same_any a a p q w' (ha.below h) hq
  rw [(good_cmpP.eq a a).2 rfl] at SM
  rw [hc] at CK
  clear ha hT hs hf hc
  generalize encS a = K at EN DE L1 L2
  obtain ⟨L, hL⟩ : ∃ n, K.length = n := ⟨_, rfl⟩
  have H2 : ∀ w' g, RowAt w' g K → Holds w' (some ⟨g, 0, none⟩) L K := fun w' g h => hL ▸ h.holds
  rw [hL] at EN DE L1 L2
  clear hL
  unfold spV spC at CK EN DE SM
  unfold spC at X0 bw0
  unfold spV spC
  go_enter Tryd.func6, Tryd.ntmps6
  go_wp2_with (first
    | (go_at_call 8; refine (AW _ bw0).mono ?_; clear AW; rintro e w1 ⟨rfl, b1⟩; have bw1 := bw0.trans (b1.mono bw0.size); have X1 := (b1.block _ (lt_of_block X0)).trans X0; have x0 := blk_cell X1 0 rfl; have x1 := blk_cell X1 1 rfl; have x2 := blk_cell X1 2 rfl; have x3 := blk_cell X1 3 rfl; have x4 := blk_cell X1 4 rfl; have x5 := blk_cell X1 5 rfl; have x6 := blk_cell X1 6 rfl; have x7 := blk_cell X1 7 rfl; have x8 := blk_cell X1 8 rfl; have x9 := blk_cell X1 9 rfl; have x10 := blk_cell X1 10 rfl; have x11 := blk_cell X1 11 rfl; have x12 := blk_cell X1 12 rfl)
    | (go_at_call 15; refine (EN _ bw1).mono ?_; clear EN; rintro e w2 ⟨g, rfl, R2, hg2, b2⟩; have bw2 := bw1.trans (b2.mono bw1.size); have X2 := (b2.block _ (lt_of_block X1)).trans X1; clear x0 x1 x2 x3 x4 x5 x6 x7 x8 x9 x10 x11 x12; have x0 := blk_cell X2 0 rfl; have x1 := blk_cell X2 1 rfl; have x2 := blk_cell X2 2 rfl; have x3 := blk_cell X2 3 rfl; have x4 := blk_cell X2 4 rfl; have x5 := blk_cell X2 5 rfl; have x6 := blk_cell X2 6 rfl; have x7 := blk_cell X2 7 rfl; have x8 := blk_cell X2 8 rfl; have x9 := blk_cell X2 9 rfl; have x10 := blk_cell X2 10 rfl; have x11 := blk_cell X2 11 rfl; have x12 := blk_cell X2 12 rfl; have h2 := H2 _ _ R2; clear R2 hg2)
    | (go_at_call 13; refine (CK _ bw2).mono ?_; clear CK; rintro e w3 ⟨rfl, b3⟩; have bw3 := bw2.trans (b3.mono bw2.size); have X3 := (b3.block _ (lt_of_block X2)).trans X2; have h3 := holds_below h2 b3; clear x0 x1 x2 x3 x4 x5 x6 x7 x8 x9 x10 x11 x12)
    | (go_at_call 16; refine (DE _ bw3 _ h3).mono ?_; clear DE h2 h3; rintro e w4 ⟨r, rfl, S4, b4⟩; have bw4 := bw3.trans (b4.mono bw3.size); have X4 := (b4.block _ (lt_of_block X3)).trans X3; have b5 : Below w4.heap.size w4 (w4.alloc (.cells #[.int .u64 a.hi, .int .u64 a.lo, .int .u64 a.id, .int .u64 a.par, .slice r.la a.links.length r.lc, .string a.svc, .string a.op, .int .i64 a.kind, .int .i64 a.status, .int .i64 a.start, .int .i64 a.fin, .slice r.aa a.attrs.length r.ac, .slice r.ea a.events.length r.ec] 33)) := (Below.refl _ _).alloc (Nat.le_refl _) _; have bw5 := bw4.trans (b5.mono bw4.size); have X5 := (b5.block _ (lt_of_block X4)).trans X4; have S5 := S4.below b5; have Y5 : (w4.alloc (.cells #[.int .u64 a.hi, .int .u64 a.lo, .int .u64 a.id, .int .u64 a.par, .slice r.la a.links.length r.lc, .string a.svc, .string a.op, .int .i64 a.kind, .int .i64 a.status, .int .i64 a.start, .int .i64 a.fin, .slice r.aa a.attrs.length r.ac, .slice r.ea a.events.length r.ec] 33)).heap[w4.heap.size]? = some (.cells #[.int .u64 a.hi, .int .u64 a.lo, .int .u64 a.id, .int .u64 a.par, .slice r.la a.links.length r.lc, .string a.svc, .string a.op, .int .i64 a.kind, .int .i64 a.status, .int .i64 a.start, .int .i64 a.fin, .slice r.aa a.attrs.length r.ac, .slice r.ea a.events.length r.ec] 33 (0, 0)) := heap_alloc_new _ _; clear S4; have x0 := blk_cell X5 0 rfl; have x1 := blk_cell X5 1 rfl; have x2 := blk_cell X5 2 rfl; have x3 := blk_cell X5 3 rfl; have x4 := blk_cell X5 4 rfl; have x5 := blk_cell X5 5 rfl; have x6 := blk_cell X5 6 rfl; have x7 := blk_cell X5 7 rfl; have x8 := blk_cell X5 8 rfl; have x9 := blk_cell X5 9 rfl; have x10 := blk_cell X5 10 rfl; have x11 := blk_cell X5 11 rfl; have x12 := blk_cell X5 12 rfl; have y0 := blk_cell Y5 0 rfl; have y1 := blk_cell Y5 1 rfl; have y2 := blk_cell Y5 2 rfl; have y3 := blk_cell Y5 3 rfl; have y4 := blk_cell Y5 4 rfl; have y5 := blk_cell Y5 5 rfl; have y6 := blk_cell Y5 6 rfl; have y7 := blk_cell Y5 7 rfl; have y8 := blk_cell Y5 8 rfl; have y9 := blk_cell Y5 9 rfl; have y10 := blk_cell Y5 10 rfl; have y11 := blk_cell Y5 11 rfl; have y12 := blk_cell Y5 12 rfl)
    | (go_at_call 10; refine (SM _ bw5 _ S5).mono ?_; clear SM; rintro e w6 ⟨rfl, b6⟩; have bw6 := bw5.trans (b6.mono bw5.size); clear x0 x1 x2 x3 x4 x5 x6 x7 x8 x9 x10 x11 x12 y0 y1 y2 y3 y4 y5 y6 y7 y8 y9 y10 y11 y12))
  all_goals go_ret
  all_goals exact ⟨ret_bool (decide_eq_true (by omega)), bw6⟩

set_option maxRecDepth 100000 in
set_option maxHeartbeats 1000000 in
theorem contract (H : Type) (enc : TypeId × Value → H) (W : World) (base : Nat) (args : Array Value) (ds gs : List (DataW H)) (before : List MemPlace)
    (hval : ∀ (j : Nat) t v, Tryd.f6.params[j]? = some t → args[j]? = some v → Value.okWide Tryd.prog W .any base t v)
    (hW : DataW.Whole enc Tryd.prog Tryd.f6.params.toList Rows.spanBackSpec.vars false W args.toList ds gs before)
    (hsz : (DataW.weightsEach Tryd.prog Tryd.f6.params.toList ds).all (· ≤ reachBytes) = true) (hT : Tabs W) :
    Calls Tryd.prog 6 args W fun e W' => ∃ v, e = .returned v ∧ Rows.spanBackSpec.post enc Tryd.prog Tryd.f6 false true false false W args v W' := by
  have hW' := hW
  obtain ⟨p, q, hA0, hV, rfl, hfz, hnd⟩ := hW
  have hA : DataW.TrodAll enc Tryd.prog W 0 (fun _ => true) true Tryd.f6.params.toList args.toList ds p := hA0
  rw [Tryd.params6] at hA hval hsz
  obtain ⟨v0, vs0, d0, ds0, p0, q0, hargs, rfl, rfl, h0, r0⟩ := trodAll_cons hA
  obtain ⟨rfl, rfl, rfl⟩ := trodAll_nil r0
  obtain rfl : args = #[v0] := by cases args; simp_all
  obtain ⟨rfl, rfl⟩ := trodVars_none hV
  have k0 := h0
  obtain ⟨cs0, rfl, hcz0⟩ := okWide_struct Tryd.underlying33 (hval 0 33 v0 rfl rfl)
  obtain ⟨fu0, hf0⟩ := h0
  obtain ⟨a0, l0, e0, H0, S0, F0⟩ := span_open hf0 (reach_of (j := 0) hsz rfl rfl)
  obtain rfl : cs0 = spC a0 l0 := Array.ext' e0
  clear hA0
  simp only [List.append_nil] at hW'
  have lt0 : ∀ x ∈ p0, x.block < W.heap.size := fun x hx => by simpa using hW'.lt x (by simp [hx])
  have walk := (if hc : chkS a0 = 0 then back_ok a0 l0 W H0 S0 F0 hT hc else back_bad a0 l0 W H0 S0 hT hc)
  refine walk.mono fun e W' ⟨he, bel⟩ => ?_
  subst he
  exact ⟨_, rfl, _, _, _, [], _, [], hW', trodAll_mk1 (shut_bool Tryd.underlying4 _), (trodAll_cons_mk (Below.trod laidOutK (by kernel_rfl) (of_decide_eq_true (by kernel_rfl)) k0 bel lt0) trodAll_mk0), rfl, bel.frame _, fun h => by cases h⟩

set_option maxRecDepth 100000 in
theorem laid_met (os : Os) : laidMetH Tryd.prog Rows.spanBackRow.laid ((laying (World.holding Tryd.prog os ⟨#[], #[], []⟩)).forCall (fun _ _ => 0) ⟨#[], #[(.agg #[.int .u64 0, .int .u64 0, .int .u64 0, .int .u64 0, .slice none 0 0, .string ⟨#[]⟩, .string ⟨#[]⟩, .int .i64 0, .int .i64 0, .int .i64 0, .int .i64 0, .slice none 0 0, .slice none 0 0] : Value)], []⟩).memory :=
  laidMet_of_run' 8 (by kernel_rfl) (by kernel_rfl)
set_option maxRecDepth 100000 in
theorem reads (os : Os) {H : Type} (enc : TypeId × Value → H) : ∃ places, DataW.whole enc Tryd.prog ((laying (World.holding Tryd.prog os ⟨#[], #[], []⟩)).forCall (fun _ _ => 0) ⟨#[], #[(.agg #[.int .u64 0, .int .u64 0, .int .u64 0, .int .u64 0, .slice none 0 0, .string ⟨#[]⟩, .string ⟨#[]⟩, .int .i64 0, .int .i64 0, .int .i64 0, .int .i64 0, .slice none 0 0, .slice none 0 0] : Value)], []⟩).memory Tryd.f6.params.toList Rows.spanBackSpec.vars false #[(.agg #[.int .u64 0, .int .u64 0, .int .u64 0, .int .u64 0, .slice none 0 0, .string ⟨#[]⟩, .string ⟨#[]⟩, .int .i64 0, .int .i64 0, .int .i64 0, .int .i64 0, .slice none 0 0, .slice none 0 0] : Value)].toList 8 = some ([.agg [.agg [.lit (.int .u64 0), .lit (.int .u64 0)], .lit (.int .u64 0), .lit (.int .u64 0), .nil, .lit (.string []), .lit (.string []), .lit (.int .i64 0), .lit (.int .i64 0), .lit (.int .i64 0), .lit (.int .i64 0), .nil, .nil]], [], places) :=
  ⟨[], by kernel_rfl⟩

set_option maxRecDepth 100000 in
theorem lifted (os : Os) (started : os.Started) (H : Type) (enc : TypeId × Value → H) (F : Stop.Interp) :
    ReturnsInHanded {} Tryd.checked os 6 .any ((OpenSpec.ofChange Rows.spanBackSpec).preRow enc Tryd.prog Tryd.f6 Rows.spanBackRow.domain false Rows.spanBackRow.laid) (((OpenSpec.ofChange Rows.spanBackSpec).at F).post enc Tryd.prog Tryd.f6 false true false false) := by
  obtain ⟨places, hx⟩ := reads os enc
  refine returnsInHanded_of_row (C := Tryd.checked) (s := OpenSpec.ofChange Rows.spanBackSpec) ownK started (by kernel_rfl) Tryd.func6
    (witness_row_at (enc := enc) (C := Tryd.checked) false (laying (World.holding Tryd.prog os ⟨#[], #[], []⟩)) #[(.agg #[.int .u64 0, .int .u64 0, .int .u64 0, .int .u64 0, .slice none 0 0, .string ⟨#[]⟩, .string ⟨#[]⟩, .int .i64 0, .int .i64 0, .int .i64 0, .int .i64 0, .slice none 0 0, .slice none 0 0] : Value)] rfl (by kernel_rfl) (by kernel_rfl) (by kernel_rfl)
      (OpenSpec.preRow_of_cond 8 hx (by kernel_rfl) (fun k hk => by cases hk) (by kernel_rfl) (laid_met os))) ?_
  intro W base args ds gs before hval hW _ _ hsz0 hL _ _
  have hgs : gs = [] := by obtain ⟨p, q, hA0, hV, _⟩ := hW; exact (trodVars_none hV).1
  have hsz : (DataW.weightsEach Tryd.prog Tryd.f6.params.toList ds).all (· ≤ reachBytes) = true := by
    have h1 : (DataW.weightsEach Tryd.prog (Tryd.f6.params.toList ++ []) (ds ++ gs)).all (· ≤ reachBytes) = true := hsz0
    rw [hgs, List.append_nil, List.append_nil] at h1
    exact h1
  exact contract H enc W base args ds gs before hval hW hsz (tables hL)

theorem said : Rows.SpanBackSaid :=
  OpenClaim.holds_of_cond 6 Tryd.f6 rfl rfl rfl rfl rfl rfl rfl ⟨rfl, rfl, rfl, rfl, rfl⟩ rfl rfl rfl rfl rfl (by kernel_rfl) Tryd.func6 (by kernel_rfl)
    (of_decide_eq_true (by kernel_rfl)) (by unfold Func.isWrapper; first | (rw [if_pos (by decide +kernel)]; kernel_rfl) | (rw [if_neg (by decide +kernel)]; exact ⟨rfl, rfl⟩))
    (fun os started H enc _ F => by rw [OpenClaim.pre_eq_preRow]; exact lifted os started H enc F)

theorem plain (f : FuncId) (fn : Func) (hf : Tryd.pinned.checked.prog.funcNamed "spoor/spoorlaw04.SpanBack" = some f) (hfn : Tryd.pinned.checked.prog.funcs[f]? = some fn) :
    false = Tryd.pinned.checked.prog.looks [] ∧ ∀ (j : Nat) t, fn.params[j]? = some t → Tryd.pinned.checked.prog.wantsStandIn t = false := by
  obtain rfl : f = 6 := Option.some.inj ((show Tryd.prog.funcNamed "spoor/spoorlaw04.SpanBack" = some 6 by kernel_rfl).symm.trans hf) |>.symm
  obtain rfl : fn = Tryd.f6 := (Option.some.inj (Tryd.func6.symm.trans hfn)).symm
  refine ⟨by kernel_rfl, fun j t ht => ?_⟩
  rw [Tryd.params6] at ht
  have hm : t = 33 := by simpa using Array.mem_of_getElem? ht
  subst hm
  exact (show Tryd.prog.wantsStandIn 33 = false by kernel_rfl)
end Go.Proofs.YtioibllopidilaaDoor.spanBack
namespace Go.Proofs.YtioibllopidilaaDoor
theorem spanBack_holds : Rows.SpanBackCardSaid :=
  Claim7.holds_tied_plain_at .later [] _ _ _ _ spanBack.said (fun _ h => by cases h) (by kernel_rfl) (fun _ h => by cases h) spanBack_row_tie rfl ⟨rfl, rfl⟩ (by kernel_rfl) rfl spanBack.plain (by kernel_rfl)
#print axioms spanBack_holds
end Go.Proofs.YtioibllopidilaaDoor
