/-
  CallsSums.
-/
import Derived.Test.YtkpkdikogoalkaaGreatDoorCards
import Derived.Test.YtkpkdikogoalkaaGreatDoorTie
import Derived.Test.YtkpkdikogoalkaaGreatDoorXPq
import Derived.Test.YtkpkdikogoalkaaGreatDoorET
namespace Go.Proofs.YtkpkdikogoalkaaGreatDoor.callsSums
open Go.ChangeShapes Go.WideShapes Go.ChangeAt Go.RowKit Go.Deep Go.Shelf Go.Proofs.YtkpkdikogoalkaaGreatDoor.sk

set_option maxRecDepth 100000 in
set_option maxHeartbeats 1000000 in
theorem contract (H : Type) (enc : TypeId × Value → H) (W : World) (base : Nat) (args : Array Value) (ds gs : List (DataW H)) (before : List MemPlace)
    (hval : ∀ (j : Nat) t v, Tryz.f4.params[j]? = some t → args[j]? = some v → Value.okWide Tryz.prog W .any base t v)
    (hW : DataW.Whole enc Tryz.prog Tryz.f4.params.toList Rows.callsSumsSpec.vars false W args.toList ds gs before)
    (hsz : (DataW.weightsEach Tryz.prog Tryz.f4.params.toList ds).all (· ≤ reachBytes) = true) (hT : Tabs W) :
    Calls Tryz.prog 4 args W fun e W' => ∃ v, e = .returned v ∧ Rows.callsSumsSpec.post enc Tryz.prog Tryz.f4 false true false false W args v W' := by
  have hW' := hW
  obtain ⟨p, q, hA0, hV, rfl, hfz, hnd⟩ := hW
  have hA : DataW.TrodAll enc Tryz.prog W 0 (fun _ => true) true Tryz.f4.params.toList args.toList ds p := hA0
  rw [Tryz.params4] at hA hval hsz
  obtain ⟨v0, vs0, d0, ds0, p0, q0, hargs, rfl, rfl, h0, r0⟩ := trodAll_cons hA
  obtain ⟨v1, vs1, d1, ds1, p1, q1, rfl, rfl, rfl, h1, r1⟩ := trodAll_cons r0
  obtain ⟨v2, vs2, d2, ds2, p2, q2, rfl, rfl, rfl, h2, r2⟩ := trodAll_cons r1
  obtain ⟨rfl, rfl, rfl⟩ := trodAll_nil r2
  obtain rfl : args = #[v0, v1, v2] := by cases args; simp_all
  obtain ⟨rfl, rfl⟩ := trodVars_none hV
  have k0 := h0
  obtain ⟨cs0, rfl, hc0⟩ := okWide_struct Tryz.underlying32 (hval 0 32 v0 rfl rfl)
  obtain ⟨fu0, hf0⟩ := h0
  obtain ⟨c0, g0, T0⟩ := call_open (cs := cs0.toList) hf0
  obtain rfl : cs0 = (calL c0).toArray := by rw [← g0, Array.toArray_toList]
  have k1 := h1
  have hv1 := hval 1 39 v1 rfl rfl
  obtain ⟨cs1, rfl, hc1⟩ := okWide_struct Tryz.underlying39 hv1
  obtain ⟨fu1, hf1⟩ := h1
  obtain ⟨c1, e1, m1, o1, l1, t1, A1, g1, C1, E1, K1, I1⟩ := tally_open (cs := cs1.toList) hf1 (Go.Proofs.YtkpkdikogoalkaaGreatDoor.reach_of (j := 1) hsz rfl rfl) (by rw [Array.toArray_toList]; exact hv1)
  obtain rfl : cs1 = (talL (hi64 c1) (lo64 c1) (hi64 e1) (lo64 e1) (hi64 m1) (lo64 m1) o1 l1 t1).toArray := by rw [← g1, Array.toArray_toList]
  have k2 := h2
  have hv2 := hval 2 39 v2 rfl rfl
  obtain ⟨cs2, rfl, hc2⟩ := okWide_struct Tryz.underlying39 hv2
  obtain ⟨fu2, hf2⟩ := h2
  obtain ⟨c2, e2, m2, o2, l2, t2, A2, g2, C2, E2, K2, I2⟩ := tally_open (cs := cs2.toList) hf2 (Go.Proofs.YtkpkdikogoalkaaGreatDoor.reach_of (j := 2) hsz rfl rfl) (by rw [Array.toArray_toList]; exact hv2)
  obtain rfl : cs2 = (talL (hi64 c2) (lo64 c2) (hi64 e2) (lo64 e2) (hi64 m2) (lo64 m2) o2 l2 t2).toArray := by rw [← g2, Array.toArray_toList]
  have Y1 := tally_len hf1 (Go.Proofs.YtkpkdikogoalkaaGreatDoor.reach_of (j := 1) hsz rfl rfl) hv1
  have Y2 := tally_len hf2 (Go.Proofs.YtkpkdikogoalkaaGreatDoor.reach_of (j := 2) hsz rfl rfl) hv2
  clear hA0
  simp only [List.append_nil] at hW'
  have lt0 : ∀ x ∈ p0, x.block < W.heap.size := fun x hx => by simpa using hW'.lt x (by simp [hx])
  have lt1 : ∀ x ∈ p1, x.block < W.heap.size := fun x hx => by simpa using hW'.lt x (by simp [hx])
  have lt2 : ∀ x ∈ p2, x.block < W.heap.size := fun x hx => by simpa using hW'.lt x (by simp [hx])
  have walk := callsSums_any c0 T0 c1 e1 m1 c2 e2 m2 C1 E1 K1 C2 E2 K2 o1 o2 l1 l2 t1 t2 A1 A2 W hT I1 I2 Y1.1 Y2.1 Y1.2 Y2.2
  refine walk.mono fun e W' ⟨he, bel⟩ => ?_
  subst he
  exact ⟨_, rfl, _, _, _, [], _, [], hW', trodAll_mk1 (shut_bool Tryz.underlying4 _), (trodAll_cons_mk (Below.trod Go.Proofs.YtkpkdikogoalkaaGreatDoor.laidOutK (by kernel_rfl) (of_decide_eq_true (by kernel_rfl)) k0 bel lt0) (trodAll_cons_mk (Below.trod Go.Proofs.YtkpkdikogoalkaaGreatDoor.laidOutK (by kernel_rfl) (of_decide_eq_true (by kernel_rfl)) k1 bel lt1) (trodAll_cons_mk (Below.trod Go.Proofs.YtkpkdikogoalkaaGreatDoor.laidOutK (by kernel_rfl) (of_decide_eq_true (by kernel_rfl)) k2 bel lt2) trodAll_mk0))), rfl, bel.frame _, fun h => by cases h⟩

set_option maxRecDepth 100000 in
theorem laid_met (os : Os) : laidMetH Tryz.prog Rows.callsSumsRow.laid ((laying (World.holding Tryz.prog os ⟨#[], #[], []⟩)).forCall (fun _ _ => 0) ⟨#[], #[(.agg #[.int .i64 0, .string ByteArray.empty, .string ByteArray.empty, .bool false, .int .u64 0] : Value), (.agg #[.int .u64 0, .int .u64 0, .int .u64 0, .int .u64 0, .int .u64 0, .int .u64 0, .slice none 0 0] : Value), (.agg #[.int .u64 0, .int .u64 0, .int .u64 0, .int .u64 0, .int .u64 0, .int .u64 0, .slice none 0 0] : Value)], []⟩).memory :=
  laidMet_of_run' 8 (by kernel_rfl) (by kernel_rfl)
set_option maxRecDepth 100000 in
theorem reads (os : Os) {H : Type} (enc : TypeId × Value → H) : ∃ places, DataW.whole enc Tryz.prog ((laying (World.holding Tryz.prog os ⟨#[], #[], []⟩)).forCall (fun _ _ => 0) ⟨#[], #[(.agg #[.int .i64 0, .string ByteArray.empty, .string ByteArray.empty, .bool false, .int .u64 0] : Value), (.agg #[.int .u64 0, .int .u64 0, .int .u64 0, .int .u64 0, .int .u64 0, .int .u64 0, .slice none 0 0] : Value), (.agg #[.int .u64 0, .int .u64 0, .int .u64 0, .int .u64 0, .int .u64 0, .int .u64 0, .slice none 0 0] : Value)], []⟩).memory Tryz.f4.params.toList Rows.callsSumsSpec.vars false #[(.agg #[.int .i64 0, .string ByteArray.empty, .string ByteArray.empty, .bool false, .int .u64 0] : Value), (.agg #[.int .u64 0, .int .u64 0, .int .u64 0, .int .u64 0, .int .u64 0, .int .u64 0, .slice none 0 0] : Value), (.agg #[.int .u64 0, .int .u64 0, .int .u64 0, .int .u64 0, .int .u64 0, .int .u64 0, .slice none 0 0] : Value)].toList 8 = some ([.agg [.lit (.int .i64 0), .agg [.lit (.string []), .lit (.string [])], .lit (.bool false), .lit (.int .u64 0)], .agg [.agg [.lit (.int .u64 0), .lit (.int .u64 0)], .agg [.lit (.int .u64 0), .lit (.int .u64 0)], .agg [.lit (.int .u64 0), .lit (.int .u64 0)], .nil], .agg [.agg [.lit (.int .u64 0), .lit (.int .u64 0)], .agg [.lit (.int .u64 0), .lit (.int .u64 0)], .agg [.lit (.int .u64 0), .lit (.int .u64 0)], .nil]], [], places) :=
  ⟨[], by kernel_rfl⟩

set_option maxRecDepth 100000 in
theorem lifted (os : Os) (started : os.Started) (H : Type) (enc : TypeId × Value → H) (F : Stop.Interp) :
    ReturnsInHanded {} Tryz.checked os 4 .any ((OpenSpec.ofChange Rows.callsSumsSpec).preRow enc Tryz.prog Tryz.f4 Rows.callsSumsRow.domain false Rows.callsSumsRow.laid) (((OpenSpec.ofChange Rows.callsSumsSpec).at F).post enc Tryz.prog Tryz.f4 false true false false) := by
  obtain ⟨places, hx⟩ := reads os enc
  refine returnsInHanded_of_row (C := Tryz.checked) (s := OpenSpec.ofChange Rows.callsSumsSpec) Go.Proofs.YtkpkdikogoalkaaGreatDoor.ownK started (by kernel_rfl) Tryz.func4
    (witness_row_at (enc := enc) (C := Tryz.checked) false (laying (World.holding Tryz.prog os ⟨#[], #[], []⟩)) #[(.agg #[.int .i64 0, .string ByteArray.empty, .string ByteArray.empty, .bool false, .int .u64 0] : Value), (.agg #[.int .u64 0, .int .u64 0, .int .u64 0, .int .u64 0, .int .u64 0, .int .u64 0, .slice none 0 0] : Value), (.agg #[.int .u64 0, .int .u64 0, .int .u64 0, .int .u64 0, .int .u64 0, .int .u64 0, .slice none 0 0] : Value)] rfl (by kernel_rfl) (by kernel_rfl) (by kernel_rfl)
      (OpenSpec.preRow_of_cond 8 hx (by kernel_rfl) (fun k hk => by cases hk) (by kernel_rfl) (laid_met os))) ?_
  intro W base args ds gs before hval hW _ _ hsz0 hL _ _
  have hgs : gs = [] := by obtain ⟨p, q, hA0, hV, _⟩ := hW; exact (trodVars_none hV).1
  have hsz : (DataW.weightsEach Tryz.prog Tryz.f4.params.toList ds).all (· ≤ reachBytes) = true := by
    have h1 : (DataW.weightsEach Tryz.prog (Tryz.f4.params.toList ++ []) (ds ++ gs)).all (· ≤ reachBytes) = true := hsz0
    rw [hgs, List.append_nil, List.append_nil] at h1
    exact h1
  exact contract H enc W base args ds gs before hval hW hsz (tables hL)

theorem said : Rows.CallsSumsSaid :=
  OpenClaim.holds_of_cond 4 Tryz.f4 rfl rfl rfl rfl rfl rfl rfl ⟨rfl, rfl, rfl, rfl, rfl⟩ rfl rfl rfl rfl rfl (by kernel_rfl) Tryz.func4 (by kernel_rfl)
    (of_decide_eq_true (by kernel_rfl)) (by unfold Func.isWrapper; first | (rw [if_pos (by decide +kernel)]; kernel_rfl) | (rw [if_neg (by decide +kernel)]; exact ⟨rfl, rfl⟩))
    (fun os started H enc _ F => by rw [OpenClaim.pre_eq_preRow]; exact lifted os started H enc F)

theorem plain (f : FuncId) (fn : Func) (hf : Tryz.pinned.checked.prog.funcNamed "spoor/spoorlaw14.CallsSums" = some f) (hfn : Tryz.pinned.checked.prog.funcs[f]? = some fn) :
    false = Tryz.pinned.checked.prog.looks [] ∧ ∀ (j : Nat) t, fn.params[j]? = some t → Tryz.pinned.checked.prog.wantsStandIn t = false := by
  obtain rfl : f = 4 := Option.some.inj ((show Tryz.prog.funcNamed "spoor/spoorlaw14.CallsSums" = some 4 by kernel_rfl).symm.trans hf) |>.symm
  obtain rfl : fn = Tryz.f4 := (Option.some.inj (Tryz.func4.symm.trans hfn)).symm
  refine ⟨by kernel_rfl, fun j t ht => ?_⟩
  rw [Tryz.params4] at ht
  have hm : t = 32 ∨ t = 39 := by have := Array.mem_of_getElem? ht; simpa [or_assoc] using this
  rcases hm with rfl | rfl
  · exact (show Tryz.prog.wantsStandIn 32 = false by kernel_rfl)
  · exact (show Tryz.prog.wantsStandIn 39 = false by kernel_rfl)
end Go.Proofs.YtkpkdikogoalkaaGreatDoor.callsSums
namespace Go.Proofs.YtkpkdikogoalkaaGreatDoor
theorem callsSums_holds : Rows.CallsSumsCardSaid :=
  Claim7.holds_tied_plain_at .later [] _ _ _ _ callsSums.said (fun _ h => by cases h) (by kernel_rfl) (fun _ h => by cases h) callsSums_row_tie rfl ⟨rfl, rfl⟩ (by kernel_rfl) rfl callsSums.plain (by kernel_rfl)
#print axioms callsSums_holds
end Go.Proofs.YtkpkdikogoalkaaGreatDoor
