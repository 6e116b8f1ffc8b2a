/-
  WireZigs: the walk and the row.
-/
import Derived.Test.YtpbpkhbmopjdjaaAw
namespace Go.Proofs.Ytpbpkhbmopjdjaa.wireZigs
open Go.ChangeShapes Go.WideShapes Go.ChangeAt Go.RowKit

theorem own : ownKnob Try.prog.godebug = none := by kernel_rfl
theorem ret_bool {b : Bool} (h : b = true) : Ending.returned (.bool b) = .returned (.bool true) := by rw [h]
set_option maxRecDepth 100000 in
theorem walk (a0 : Int) (a1 : Int) (a2 : Int) (w0 : (Lit.int .i64 a0).wf = true) (w1 : (Lit.int .u64 a1).wf = true) (w2 : (Lit.int .i64 a2).wf = true) (w : World) :
    Calls Try.prog 5 #[.int .i64 a0, .int .u64 a1, .int .i64 a2] w fun e w' => e = .returned (.bool true) ∧ Below w.heap.size w w' := by
  have b0 := bounds_i64 w0
  have b1 := bounds_u64 w1
  have b2 := bounds_i64 w2
  obtain ⟨b00, b01⟩ := b0
  obtain ⟨b10, b11⟩ := b1
  obtain ⟨b20, b21⟩ := b2
  have P := pick_any a2 63 b20 b21 (by omega) (by omega)
  have p0 := pick_lo a2 63 (by omega)
  have p1 := pick_hi a2 63 (by omega)
  obtain ⟨q, hq⟩ : ∃ q : Nat, pickI a2 63 = (q : Int) := ⟨(pickI a2 63).toNat, by omega⟩
  rw [hq] at P p0 p1
  clear hq w0 w1 w2
  have hz1 := zag_zig a0
  have hz2 := zig_zag a1 b10
  have hl1 := zig_lo a0
  have hl2 := zig_hi a0 b00 b01
  have hl3 := zag_lo a1 b10 b11
  have hl4 := zag_hi a1 b10 b11
  obtain ⟨X, hX, x0, x1⟩ : ∃ X : Int, (2 : Int) ^ q = X ∧ 1 ≤ X ∧ X ≤ 4611686018427387904 := by
    have y0 : 1 ≤ 2 ^ q := Nat.one_le_two_pow
    have y1 : 2 ^ q ≤ 4611686018427387904 := Nat.le_trans (Nat.pow_le_pow_right (by omega) (by omega : q ≤ 62)) (by decide)
    exact ⟨((2 ^ q : Nat) : Int), by rw [Int.natCast_pow]; rfl, by omega, by omega⟩
  have hX2 : (2 : Int) ^ (q + 1) = 2 * X := by rw [Int.pow_succ, hX]; omega
  have e1 : wrap64 X = X := by unfold wrap64; omega
  have e2 : wrap64 (-X) = -X := by unfold wrap64; omega
  have e3 : IntKind.u64.wrap (2 * X) = 2 * X := by rw [IntKind.wrap_u64]; omega
  have hzig : (zigI a0 < 2 * X) ↔ (-X ≤ a0 ∧ a0 < X) := by unfold zigI; split <;> omega
  rcases (by omega : (-X ≤ a0 ∧ a0 < X ∧ zigI a0 < 2 * X) ∨ (a0 < -X ∧ 2 * X ≤ zigI a0) ∨ (-X ≤ a0 ∧ X ≤ a0 ∧ 2 * X ≤ zigI a0)) with ⟨c1, c2, c3⟩ | ⟨c1, c2⟩ | ⟨c1, c2, c3⟩
  all_goals
    clear hzig
    go_enter Try.func5, Try.ntmps5
    go_wp2_with (first
      | (go_at_call 6; refine (awake_any _).mono ?_; rintro e w' ⟨rfl, hb⟩)
      | (go_at_call 8; refine (P _).mono ?_; rintro e w' ⟨rfl, rfl⟩)
      | (go_at_call 9; refine (zig_any _ (by omega) (by omega) _).mono ?_; rintro e w' ⟨rfl, rfl⟩)
      | (go_at_call 10; refine (zag_any _ (by omega) (by omega) _).mono ?_; rintro e w' ⟨rfl, rfl⟩))
    go_ret
    exact ⟨ret_bool (by first | rfl | (simp; omega)), hb⟩

set_option maxRecDepth 100000 in
theorem lifted (os : Os) (started : os.Started) (H : Type) (enc : TypeId × Value → H) :
    ReturnsInHanded {} Try.checked os 5 .any (Rows.wireZigsSpec.pre6 enc Try.prog Try.f5 Rows.wireZigsRow.domain false) (Rows.wireZigsSpec.post enc Try.prog Try.f5 false true false false) := by
  refine returnsInHanded_of_change (C := Try.checked) own started (by kernel_rfl) Try.func5
    (ChangeSpec.witness6 (enc := enc) (C := Try.checked) false ⟨#[], #[.int .i64 0, .int .u64 0, .int .i64 0], []⟩ 8 (by kernel_rfl) (by kernel_rfl) (by kernel_rfl) (by kernel_rfl)) ?_
  intro W base args ds gs before hval0 hW hcnd _
  have hval : ∀ (j : Nat) t v, Try.f5.params[j]? = some t → args[j]? = some v → Value.okWide Try.prog W .any base t v := hval0
  have hW' := hW
  obtain ⟨p, q, hA0, hV, rfl, hfz, hnd⟩ := hW
  have hA : DataW.TrodAll enc Try.prog W 0 (fun _ => true) true Try.f5.params.toList args.toList ds p := hA0
  rw [Try.params5] at hA hval
  obtain ⟨v0, vs0, d0, ds0, p0, q0, hargs, rfl, rfl, h0, r0⟩ := trodAll_cons hA
  obtain ⟨v1, vs1, d1, ds1, p1, q1, rfl, rfl, rfl, h1, r1⟩ := trodAll_cons r0
  obtain ⟨v2, vs2, d2, ds2, p2, q2, rfl, rfl, rfl, h2, r2⟩ := trodAll_cons r1
  obtain ⟨rfl, rfl, rfl⟩ := trodAll_nil r2
  obtain rfl : args = #[v0, v1, v2] := by cases args; simp_all
  obtain ⟨rfl, rfl⟩ := trodVars_none hV
  obtain ⟨a0, rfl, rfl, rfl, w0⟩ := open_int Try.underlying2 (hval 0 2 v0 rfl rfl) h0
  obtain ⟨a1, rfl, rfl, rfl, w1⟩ := open_int Try.underlying23 (hval 1 23 v1 rfl rfl) h1
  obtain ⟨a2, rfl, rfl, rfl, w2⟩ := open_int Try.underlying3 (hval 2 3 v2 rfl rfl) h2
  clear hA0 hval0
  simp only [List.append_nil] at hW'
  refine (walk a0 a1 a2 w0 w1 w2 W).mono fun e W' ⟨he, hbel⟩ => ?_
  subst he
  exact ⟨_, rfl, _, _, _, [], [], [], hW', trodAll_mk1 (shut_bool Try.underlying4 _), (trodAll_cons_mk (shut_int Try.underlying2 w0) (trodAll_cons_mk (shut_int Try.underlying23 w1) (trodAll_cons_mk (shut_int Try.underlying3 w2) trodAll_mk0))), rfl, hbel.frame _, fun h => by cases h⟩

theorem over : Rows.wireZigsRow.holds Try.pinned (OpenSpec.ofChange Rows.wireZigsSpec) :=
  OpenClaim.holds_of_wide 5 Try.f5 rfl rfl rfl rfl rfl rfl rfl ⟨rfl, rfl, rfl, rfl, rfl⟩ rfl rfl rfl rfl rfl (by kernel_rfl) Try.func5 (by kernel_rfl)
    (of_decide_eq_true (by kernel_rfl)) (by unfold Func.isWrapper; first | (rw [if_pos (by decide +kernel)]; kernel_rfl) | (rw [if_neg (by decide +kernel)]; exact ⟨rfl, rfl⟩))
    (fun os started H enc _ => lifted os started H enc)
end Go.Proofs.Ytpbpkhbmopjdjaa.wireZigs
namespace Go.Proofs.Ytpbpkhbmopjdjaa
theorem wireZigs_holds : Rows.WireZigsSaid := wireZigs.over
#print axioms wireZigs_holds
end Go.Proofs.Ytpbpkhbmopjdjaa
