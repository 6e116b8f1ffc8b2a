/-
  WireShort: the walk and the row.
-/
import Derived.Test.YtpbpkhbmopjdjaaBo
import Derived.Test.YtpbpkhbmopjdjaaPre
import Derived.Test.YtpbpkhbmopjdjaaStr
namespace Go.Proofs.Ytpbpkhbmopjdjaa.wireShort
open Go.ChangeShapes Go.WideShapes Go.ChangeAt Go.RowKit

theorem own : ownKnob Try.prog.godebug = none := by kernel_rfl
set_option maxRecDepth 100000 in
theorem walk_ne (a b : Nat) (ha : a < 18446744073709551616) (hb : b < 18446744073709551616) (hne : a ≠ b) (w : World) :
    Calls Try.prog 4 #[.int .u64 a, .int .u64 b] w fun e w' => e = .returned (.bool true) ∧ Below w.heap.size w w' := by
  have hl1 := encN_len10 a ha
  have hl2 := encN_len10 b hb
  have hp1 := encN_pos a
  have hp2 := encN_pos b
  have BA := bytesOf_uint a 0 ByteArray.empty ha
  have BB := bytesOf_uint b 0 ByteArray.empty hb
  obtain ⟨s1, hs1⟩ : ∃ s, strI (encN a) = s := ⟨_, rfl⟩
  obtain ⟨s2, hs2⟩ : ∃ s, strI (encN b) = s := ⟨_, rfl⟩
  have hz1 : s1.size = (encN a).length := by rw [← hs1, strI_size]
  have hz2 : s2.size = (encN b).length := by rw [← hs2, strI_size]
  rw [hs1] at BA
  rw [hs2] at BB
  have HS1 : Hid (strI (encN a) = s1) := hs1
  have HS2 : Hid (strI (encN b) = s2) := hs2
  have HC : Hid ((encN a).length = 1 + cntN (a / 128)) := cnt_len a
  rw [← hz1] at hl1 hp1
  rw [← hz2] at hl2 hp2
  have HZ1 : Hid (s1.size = (encN a).length) := hz1
  have HZ2 : Hid (s2.size = (encN b).length) := hz2
  have HC1 : Hid (s2.size ≤ s1.size → ((s1.extract 0 s2.size).toList == s2.toList) = false) := by
    intro hle
    rw [← hs2, ← hs1, strI_size, strI_cut, strI_list]
    rw [← hs2, ← hs1, strI_size, strI_size] at hle
    simp only [beq_eq_false_iff_ne]
    intro e
    have e' := bytes_inj _ _ (fun x hx => encN_byte a x (List.mem_of_mem_take hx)) (encN_byte b) e
    refine hne (encN_prefix a b ?_)
    rw [Nat.min_eq_right hle, e', List.take_of_length_le (Nat.le_refl _)]
  have HC2 : Hid (s1.size ≤ s2.size → (s1.toList == (s2.extract 0 s1.size).toList) = false) := by
    intro hle
    rw [← hs2, ← hs1, strI_size, strI_cut, strI_list]
    rw [← hs2, ← hs1, strI_size, strI_size] at hle
    simp only [beq_eq_false_iff_ne]
    intro e
    have e' := bytes_inj _ _ (encN_byte a) (fun x hx => encN_byte b x (List.mem_of_mem_take hx)) e
    refine hne (encN_prefix a b ?_)
    rw [Nat.min_eq_left hle, ← e', List.take_of_length_le (Nat.le_refl _)]
  clear hs1 hs2 hz1 hz2
  have hab : ((a : Int) == (b : Int)) = false := by simpa using (by omega : (a : Int) ≠ (b : Int))
  go_enter Try.func4, Try.ntmps4
  go_wp2_with (first
    | (go_at_call 6; refine (awake_any _).mono ?_; rintro e w1 ⟨rfl, hb1⟩; have hz1 := hb1.size)
    | (go_at_call 7; refine (BB w2).mono ?_; rintro e w3 ⟨rfl, hb3⟩; have hb3' := hb2'.trans (hb3.mono (by omega)))
    | (go_at_call 7; refine (BA _).mono ?_; rintro e w2 ⟨rfl, hb2⟩; have hb2' := hb1.trans (hb2.mono hz1); have hz2 := hb2'.size))
  go_loop [10, 11] (fun nn vv => ∃ k v : Nat, nn = .int .i64 k ∧ vv = .int .u64 v ∧ v < 18446744073709551616 ∧ k + cntN v = s1.size) (fun _ vv => (intOf vv).toNat)
  case atStart => exact ⟨1, a / 128, rfl, by go_num, by omega, by rw [HZ1.out, HC.out]⟩
  case round =>
    obtain ⟨k, v, rfl, rfl, hv, hk⟩ := hrel
    by_cases h0 : 0 < v
    · have HK : Hid (k + cntN v = s1.size) := hk
      have hkl : k ≤ 10 := by omega
      clear hk
      go_wp2
      go_round
      case rel => exact ⟨k + 1, v / 128, by go_num, by go_num, by omega, by have := HK.out; rw [cnt_pos v h0] at this; omega⟩
      case measure => simp [intOf]; omega
    · have hv0 : v = 0 := by omega
      subst hv0
      rw [cnt_zero, Nat.add_zero] at hk
      subst hk
      have hmono : a < b → s1.size ≤ s2.size := by intro hlt; rw [HZ1.out, HZ2.out]; exact encN_mono a b (by omega)
      rcases (by omega : (b < a ∧ s2.size < s1.size) ∨ (b < a ∧ s1.size ≤ s2.size) ∨ (a < b ∧ s1.size ≤ s2.size)) with ⟨hlt, hle⟩ | ⟨hlt, hle⟩ | ⟨hlt, hle⟩
      · have c1 : ((s1.extract 0 s2.size).toList == s2.toList) = false := HC1.out (by omega)
        clear hmono
        go_wp2
        go_quiet (fail)
        go_wp2
        go_ret
        exact ⟨rfl, below_drewN hb3' _⟩
      · have c1 : (s1.toList == (s2.extract 0 s1.size).toList) = false := HC2.out hle
        clear hmono
        go_wp2
        go_quiet (fail)
        go_wp2
        go_ret
        exact ⟨rfl, below_drewN hb3' _⟩
      · have hd : decide (b < a) = false := by simp; omega
        have c1 : (s1.toList == (s2.extract 0 s1.size).toList) = false := HC2.out hle
        clear hmono
        go_wp2
        go_quiet (fail)
        go_wp2
        go_ret
        exact ⟨rfl, below_drewN hb3' _⟩

set_option maxRecDepth 100000 in
theorem walk_eq (a : Nat) (ha : a < 18446744073709551616) (w : World) :
    Calls Try.prog 4 #[.int .u64 a, .int .u64 a] w fun e w' => e = .returned (.bool true) ∧ Below w.heap.size w w' := by
  have hl1 := encN_len10 a ha
  have BA := bytesOf_uint a 0 ByteArray.empty ha
  obtain ⟨s1, hs1⟩ : ∃ s, strI (encN a) = s := ⟨_, rfl⟩
  have hz1 : s1.size = (encN a).length := by rw [← hs1, strI_size]
  rw [hs1] at BA
  have HC : Hid ((encN a).length = 1 + cntN (a / 128)) := cnt_len a
  rw [← hz1] at hl1
  have HZ1 : Hid (s1.size = (encN a).length) := hz1
  clear hs1 hz1
  go_enter Try.func4, Try.ntmps4
  go_wp2_with (first
    | (go_at_call 6; refine (awake_any _).mono ?_; rintro e w1 ⟨rfl, hb1⟩; have hz1 := hb1.size)
    | (go_at_call 7; refine (BA w2).mono ?_; rintro e w3 ⟨rfl, hb3⟩; have hb3' := hb2'.trans (hb3.mono (by omega)))
    | (go_at_call 7; refine (BA _).mono ?_; rintro e w2 ⟨rfl, hb2⟩; have hb2' := hb1.trans (hb2.mono hz1); have hz2 := hb2'.size))
  go_loop [10, 11] (fun nn vv => ∃ k v : Nat, nn = .int .i64 k ∧ vv = .int .u64 v ∧ v < 18446744073709551616 ∧ k + cntN v = s1.size) (fun _ vv => (intOf vv).toNat)
  case atStart => exact ⟨1, a / 128, rfl, by go_num, by omega, by rw [HZ1.out, HC.out]⟩
  case round =>
    obtain ⟨k, v, rfl, rfl, hv, hk⟩ := hrel
    by_cases h0 : 0 < v
    · have HK : Hid (k + cntN v = s1.size) := hk
      have hkl : k ≤ 10 := by omega
      clear hk
      go_wp2
      go_round
      case rel => exact ⟨k + 1, v / 128, by go_num, by go_num, by omega, by have := HK.out; rw [cnt_pos v h0] at this; omega⟩
      case measure => simp [intOf]; omega
    · have hv0 : v = 0 := by omega
      subst hv0
      rw [cnt_zero, Nat.add_zero] at hk
      subst hk
      go_wp2
      go_ret
      exact ⟨rfl, hb3'⟩

theorem walk (a0 a1 : Int) (w0 : (Lit.int .u64 a0).wf = true) (w1 : (Lit.int .u64 a1).wf = true) (w : World) :
    Calls Try.prog 4 #[.int .u64 a0, .int .u64 a1] w fun e w' => e = .returned (.bool true) ∧ Below w.heap.size w w' := by
  obtain ⟨b0, c0⟩ := bounds_u64 w0
  obtain ⟨b1, c1⟩ := bounds_u64 w1
  obtain ⟨n0, rfl⟩ := Int.eq_ofNat_of_zero_le b0
  obtain ⟨n1, rfl⟩ := Int.eq_ofNat_of_zero_le b1
  by_cases h : n0 = n1
  · subst h; exact walk_eq n0 (by omega) w
  · exact walk_ne n0 n1 (by omega) (by omega) h w

set_option maxRecDepth 100000 in
theorem lifted (os : Os) (started : os.Started) (H : Type) (enc : TypeId × Value → H) :
    ReturnsInHanded {} Try.checked os 4 .any (Rows.wireShortSpec.pre6 enc Try.prog Try.f4 Rows.wireShortRow.domain false) (Rows.wireShortSpec.post enc Try.prog Try.f4 false true false false) := by
  refine returnsInHanded_of_change (C := Try.checked) own started (by kernel_rfl) Try.func4
    (ChangeSpec.witness6 (enc := enc) (C := Try.checked) false ⟨#[], #[.int .u64 0, .int .u64 0], []⟩ 8 (by kernel_rfl) (by kernel_rfl) (by kernel_rfl) (by kernel_rfl)) ?_
  intro W base args ds gs before hval0 hW hcnd _
  have hval : ∀ (j : Nat) t v, Try.f4.params[j]? = some t → args[j]? = some v → Value.okWide Try.prog W .any base t v := hval0
  have hW' := hW
  obtain ⟨p, q, hA0, hV, rfl, hfz, hnd⟩ := hW
  have hA : DataW.TrodAll enc Try.prog W 0 (fun _ => true) true Try.f4.params.toList args.toList ds p := hA0
  rw [Try.params4] at hA hval
  obtain ⟨v0, vs0, d0, ds0, p0, q0, hargs, rfl, rfl, h0, r0⟩ := trodAll_cons hA
  obtain ⟨v1, vs1, d1, ds1, p1, q1, rfl, rfl, rfl, h1, r1⟩ := trodAll_cons r0
  obtain ⟨rfl, rfl, rfl⟩ := trodAll_nil r1
  obtain rfl : args = #[v0, v1] := by cases args; simp_all
  obtain ⟨rfl, rfl⟩ := trodVars_none hV
  obtain ⟨a0, rfl, rfl, rfl, w0⟩ := open_int Try.underlying23 (hval 0 23 v0 rfl rfl) h0
  obtain ⟨a1, rfl, rfl, rfl, w1⟩ := open_int Try.underlying23 (hval 1 23 v1 rfl rfl) h1
  clear hA0 hval0
  simp only [List.append_nil] at hW'
  refine (walk a0 a1 w0 w1 W).mono fun e W' ⟨he, hbel⟩ => ?_
  subst he
  exact ⟨_, rfl, _, _, _, [], [], [], hW', trodAll_mk1 (shut_bool Try.underlying4 _), (trodAll_cons_mk (shut_int Try.underlying23 w0) (trodAll_cons_mk (shut_int Try.underlying23 w1) trodAll_mk0)), rfl, hbel.frame _, fun h => by cases h⟩

theorem over : Rows.wireShortRow.holds Try.pinned (OpenSpec.ofChange Rows.wireShortSpec) :=
  OpenClaim.holds_of_wide 4 Try.f4 rfl rfl rfl rfl rfl rfl rfl ⟨rfl, rfl, rfl, rfl, rfl⟩ rfl rfl rfl rfl rfl (by kernel_rfl) Try.func4 (by kernel_rfl)
    (of_decide_eq_true (by kernel_rfl)) (by unfold Func.isWrapper; first | (rw [if_pos (by decide +kernel)]; kernel_rfl) | (rw [if_neg (by decide +kernel)]; exact ⟨rfl, rfl⟩))
    (fun os started H enc _ => lifted os started H enc)
end Go.Proofs.Ytpbpkhbmopjdjaa.wireShort
namespace Go.Proofs.Ytpbpkhbmopjdjaa
theorem wireShort_holds : Rows.WireShortSaid := wireShort.over
#print axioms wireShort_holds
end Go.Proofs.Ytpbpkhbmopjdjaa
