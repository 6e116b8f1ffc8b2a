/-
  Rd.
-/
import Derived.Test.YthcghpbkadlliabGreatDoorMa00
import Derived.WalkMore
namespace Go.Proofs.YthcghpbkadlliabGreatDoor
open Go.RowKit
set_option maxRecDepth 100000

/-- A block with a Fault. -/
def IsF (w : World) (p : Nat) (at_ no : Int) : Prop := w.heap[p]? = some (.cells #[.int .i64 at_, .int .i64 no] 99 (0, 0))
def errV (p : Nat) : Value := .iface 95 (.pointer (some ⟨p, 0, none⟩))

theorem fault_any (at_ no : Int) (w : World) :
    Calls Tryz.prog 60 #[.int .i64 at_, .int .i64 no] w fun e w' => e = .returned (.iface 95 (.pointer (some ⟨w.heap.size, 0, none⟩))) ∧ w' = w.alloc (.cells #[.int .i64 at_, .int .i64 no] 99) := by
  go_enter Tryz.func60, Tryz.ntmps60
  go_wp2
  go_ret
  exact ⟨rfl, rfl⟩

theorem ret3 {a a' b b' : Int} {v : Value} (ha : a = a') (hb : b = b') : Ending.returned (.tuple #[.int .u64 a, .int .i64 b, v]) = .returned (.tuple #[.int .u64 a', .int .i64 b', v]) := by rw [ha, hb]
/-- What 'number' leaves. -/
def NumPost (w : World) (t n : Nat) : NumRes → Ending → World → Prop
  | some (some (v, s)), e, w' => e = .returned (.tuple #[.int .u64 v, .int .i64 s, .nilIface]) ∧ Below w.heap.size w w'
  | some none, e, w' => ∃ p, e = .returned (.tuple #[.int .u64 0, .int .i64 0, .iface 95 (.pointer (some ⟨p, 0, none⟩))]) ∧ IsF w' p t 12 ∧ w.heap.size ≤ p ∧ Below w.heap.size w w'
  | none, e, w' => ∃ p, e = .returned (.tuple #[.int .u64 0, .int .i64 0, .iface 95 (.pointer (some ⟨p, 0, none⟩))]) ∧ IsF w' p n 11 ∧ w.heap.size ≤ p ∧ Below w.heap.size w w'

theorem number_some (R g : Nat) (K : List Int) (t : Nat) (w : World) (h : IsR w R g K t) (ht : t < K.length) :
    Calls Tryz.prog 66 #[.pointer (some ⟨R, 0, none⟩)] w fun e w' => NumPost w t K.length (scanN (K.drop t) 0 0) e w' := by
  have hc0 : w.cell? ⟨R, 0, none⟩ = some (.slice (some ⟨g, 0, none⟩) K.length K.length) := by simp [World.cell?, h.block]
  have hc1 : w.cell? ⟨R, 1, none⟩ = some (.int .i64 t) := by simp [World.cell?, h.block]
  have hsm := h.small
  go_enter Tryz.func66, Tryz.ntmps66
  go_wp2
  go_step3
  go_wp2
  go_quiet (fail)
  go_wp2
  go_step3
  go_wp2
  go_loop [2, 3] (fun a b => ∃ V s : Nat, a = .int .u64 V ∧ b = .int .i64 s ∧ NumRel K t V s) (fun _ b => 10 - (intOf b).toNat)
  case atStart => exact ⟨0, 0, rfl, rfl, NumRel.start K t⟩
  case round =>
    obtain ⟨V, s, rfl, rfl, hN⟩ := hrel
    have h10 := hN.s10
    have hsk := hN.sk
    by_cases h1 : s = 10
    · subst h1
      go_wp2_with (go_at_call 60; refine (fault_any _ _ _).mono ?_; rintro e w' ⟨rfl, rfl⟩)
      try rw [Exit.noGoto_ret]
      go_ret3
      rw [hN.eq10 rfl]
      exact ⟨w.heap.size, rfl, heap_alloc_new _ _, Nat.le_refl _, (below_drewN (Below.refl _ _) _).alloc (Nat.le_refl _) _⟩
    by_cases h2 : s = K.length - t
    · have hs9 : ((s : Int) == 10) = false := by simp; omega
      have e0 : scanN (K.drop t) 0 0 = .ended := by rw [hN.eq (by omega), List.drop_of_length_le (by omega), scanN_nil _ _ h1]
      have hs1 : (s : Int) = (K.length : Int) - (t : Int) := by omega
      have HE : Hid (scanN (K.drop t) 0 0 = .ended) := e0
      clear e0 h1
      subst h2
      go_wp2_with (go_at_call 60; refine (fault_any _ _ _).mono ?_; rintro e w' ⟨rfl, rfl⟩)
      try rw [Exit.noGoto_ret]
      go_ret3
      rw [HE.out]
      exact ⟨w.heap.size, rfl, heap_alloc_new _ _, Nat.le_refl _, (below_drewN (Below.refl _ _) _).alloc (Nat.le_refl _) _⟩
    have hlt : t + s < K.length := by omega
    obtain ⟨x, hx⟩ : ∃ x, K.getD (t + s) 0 = x := ⟨_, rfl⟩
    have hcx := h.row.cell (t + s) hlt
    rw [hx] at hcx
    have hxb : 0 ≤ x ∧ x < 256 := by
      rw [← hx, List.getD, List.getElem?_eq_getElem hlt]; exact h.byts _ (List.getElem_mem hlt)
    obtain ⟨hx0, hx1⟩ := hxb
    have hdrop : K.drop (t + s) = x :: K.drop (t + s + 1) := by
      rw [← hx, List.getD, List.getElem?_eq_getElem hlt, List.drop_eq_getElem_cons hlt]; rfl
    have HD : Hid (K.drop (t + s) = x :: K.drop (t + s + 1)) := hdrop
    clear hx hdrop
    have hs9 : s ≤ 9 := by omega
    have hsk2 : s < K.length - t := by omega
    clear h2
    by_cases h3 : x < 128
    · by_cases hb : badLast s x = true
      · have HB : Hid (scanN (K.drop t) 0 0 = .form) := num_bad hN hs9 HD.out h3 hb
        have fin : ∀ n : Nat, NumPost w t K.length (scanN (K.drop t) 0 0) (.returned (.tuple #[.int .u64 0, .int .i64 0, .iface 95 (.pointer (some ⟨w.heap.size, 0, none⟩))])) ((w.drewN n).alloc (.cells #[.int .i64 t, .int .i64 12] 99)) := by
          intro n; rw [HB.out]
          exact ⟨w.heap.size, rfl, heap_alloc_new _ _, Nat.le_refl _, (below_drewN (Below.refl _ _) _).alloc (Nat.le_refl _) _⟩
        have hb' : (0 < s ∧ x = 0) ∨ (s = 9 ∧ 1 < x) := by simpa [badLast] using hb
        have FIN : Hid (∀ n : Nat, NumPost w t K.length (scanN (K.drop t) 0 0) (.returned (.tuple #[.int .u64 0, .int .i64 0, .iface 95 (.pointer (some ⟨w.heap.size, 0, none⟩))])) ((w.drewN n).alloc (.cells #[.int .i64 t, .int .i64 12] 99))) := fin
        clear fin HB HD hb
        rcases hb' with ⟨q1, rfl⟩ | ⟨rfl, q2⟩
        all_goals
          go_wp2_with (go_at_call 60; refine (fault_any _ _ _).mono ?_; rintro e w' ⟨rfl, rfl⟩)
          try rw [Exit.noGoto_ret]
          go_ret3
          exact FIN.out _
      · obtain ⟨L1, L2⟩ := num_last hN hs9 HD.out hx0 h3 hb
        have L3 := num_last' hN hs9 HD.out hx0 h3 hb
        have H1 : Hid (bits .or .u64 (V : Int) (IntKind.u64.wrap (x * 2 ^ (7 * s))) = ((V + x.toNat * 128 ^ s : Nat) : Int)) := L1
        have H2 : Hid (scanN (K.drop t) 0 0 = .ok (V + x.toNat * 128 ^ s) (s + 1)) := L2
        have H3 : Hid (s = 0 ∨ s = 9 → bits .or .u64 (V : Int) (x * 2 ^ (7 * s)) = ((V + x.toNat * 128 ^ s : Nat) : Int)) := L3
        have hb' : (s = 0 ∨ x ≠ 0) ∧ (s ≠ 9 ∨ x ≤ 1) := by
          simp [badLast] at hb; omega
        clear L1 L2 L3 HD hb
        obtain ⟨q1, q2⟩ := hb'
        by_cases q3 : s = 0
        · subst q3
          have H4 : Hid (bits .or .u64 (V : Int) (x * 2 ^ (7 * 0)) = ((V + x.toNat * 128 ^ 0 : Nat) : Int)) := H3.out (Or.inl rfl)
          clear q1 q2 hsk2 H3
          rw [Nat.add_zero] at hcx
          have hl0 : ((0 : Int) == ((K.length - t : Nat) : Int)) = false := by simp; omega
          go_wp2
          try rw [Exit.noGoto_ret]
          go_ret3
          rw [H2.out]
          exact ⟨ret3 (by simpa using H4.out) (by omega), below_drewN (Below.refl _ _) _⟩
        · have q4 : x ≠ 0 := q1.resolve_left q3
          have q5 : 0 < s := by omega
          clear q1 q3
          by_cases q6 : s = 9
          · subst q6
            have q7 : x = 1 := by omega
            subst q7
            have H4 : Hid (bits .or .u64 (V : Int) (1 * 2 ^ (7 * 9)) = ((V + (1 : Int).toNat * 128 ^ 9 : Nat) : Int)) := H3.out (Or.inr rfl)
            clear q2 q4 H3
            go_wp2
            try rw [Exit.noGoto_ret]
            go_ret3
            rw [H2.out]
            exact ⟨ret3 (by simpa using H4.out) (by omega), below_drewN (Below.refl _ _) _⟩
          · have q7 : (x == 0) = false := by simpa using q4
            have q8 : ((s : Int) == 9) = false := by simp; omega
            clear q2 q4
            go_wp2
            try rw [Exit.noGoto_ret]
            go_ret3
            rw [H2.out]
            exact ⟨ret3 (by simpa using H1.out) (by omega), below_drewN (Below.refl _ _) _⟩
    · have e1 := and_u8_127 x hx0 hx1
      obtain ⟨V', e2, hN'⟩ := num_step hN hs9 HD.out (by omega) hx1 hsk2
      go_wp2
      go_round
      case rel => exact ⟨V', s + 1, rfl, by go_num, hN'⟩
      case measure => simp [intOf]; omega

theorem number_none (R g : Nat) (K : List Int) (w : World) (h : IsR w R g K K.length) :
    Calls Tryz.prog 66 #[.pointer (some ⟨R, 0, none⟩)] w fun e w' => NumPost w K.length K.length .ended e w' := by
  have hc0 : w.cell? ⟨R, 0, none⟩ = some (.slice (some ⟨g, 0, none⟩) K.length K.length) := by simp [World.cell?, h.block]
  have hc1 : w.cell? ⟨R, 1, none⟩ = some (.int .i64 K.length) := by simp [World.cell?, h.block]
  have hsm := h.small
  go_enter Tryz.func66, Tryz.ntmps66
  go_wp2
  go_step3
  go_wp2
  go_quiet (fail)
  go_wp2
  go_step3
  go_wp2
  go_loop [2, 3] (fun a b => a = .int .u64 0 ∧ b = .int .i64 0) (fun _ _ => 0)
  case atStart => exact ⟨rfl, rfl⟩
  case round =>
    obtain ⟨rfl, rfl⟩ := hrel
    go_wp2_with (go_at_call 60; refine (fault_any _ _ _).mono ?_; rintro e w' ⟨rfl, rfl⟩)
    try rw [Exit.noGoto_ret]
    go_ret3
    exact ⟨w.heap.size, rfl, heap_alloc_new _ _, Nat.le_refl _, (below_drewN (Below.refl _ _) _).alloc (Nat.le_refl _) _⟩

theorem number_any (R g : Nat) (K : List Int) (t : Nat) (w : World) (h : IsR w R g K t) :
    Calls Tryz.prog 66 #[.pointer (some ⟨R, 0, none⟩)] w fun e w' => NumPost w t K.length (scanN (K.drop t) 0 0) e w' := by
  by_cases ht : t < K.length
  · exact number_some R g K t w h ht
  · have e : t = K.length := by have := h.le; omega
    subst e
    have e0 : scanN (K.drop K.length) 0 0 = .ended := by rw [List.drop_length]; rfl
    rw [e0]
    exact number_none R g K w h

/-- What the Reader's Uint leaves. -/
def UintPost (w : World) (R g : Nat) (K : List Int) (t : Nat) : NumRes → Ending → World → Prop
  | some (some (v, s)), e, w' => e = .returned (.tuple #[.int .u64 v, .nilIface]) ∧ IsR w' R g K (t + s) ∧ Upd (fun k => k = R) w w'
  | some none, e, w' => ∃ p, e = .returned (.tuple #[.int .u64 0, .iface 95 (.pointer (some ⟨p, 0, none⟩))]) ∧ IsF w' p t 12 ∧ w.heap.size ≤ p ∧ Below w.heap.size w w'
  | none, e, w' => ∃ p, e = .returned (.tuple #[.int .u64 0, .iface 95 (.pointer (some ⟨p, 0, none⟩))]) ∧ IsF w' p K.length 11 ∧ w.heap.size ≤ p ∧ Below w.heap.size w w'

theorem IsR.below {w w' : World} {R g : Nat} {K : List Int} {t : Nat} (h : IsR w R g K t) (hb : Below w.heap.size w w') : IsR w' R g K t :=
  h.upd (Upd.ofBelow (S := fun _ => False) hb (fun k hk hk' => by omega)) (fun h => h) (fun h => h)

theorem IsR.take {w : World} {R g : Nat} {K : List Int} {t u : Nat} (h : IsR w R g K t) (hu : u ≤ K.length) : IsR (w.setCell ⟨R, 1, none⟩ (.int .i64 u)) R g K u := by
  have hlt := lt_of_block h.block
  refine ⟨?_, ?_, hu, h.small, h.byts⟩
  · have h' : w.heap[R] = .cells #[.slice (some ⟨g, 0, none⟩) K.length K.length, .int .i64 t] 130 (0, 0) := by simpa [Array.getElem?_eq_getElem hlt] using h.block
    show (w.heap.modify R _)[R]? = _
    rw [Array.getElem?_eq_getElem (by simpa using hlt), Array.getElem_modify_self, h']
    rfl
  · exact (Below.heap_setCell w ⟨R, 1, none⟩ _ g h.apart).trans h.row

theorem scan_size : ∀ (l : List Int) (s v v' s' : Nat), scanN l s v = .ok v' s' → s < s' ∧ s' ≤ s + l.length := by
  intro l
  induction l with
  | nil => intro s v v' s' h; unfold scanN at h; split at h <;> simp at h
  | cons x r ih =>
    intro s v v' s' h
    unfold scanN at h
    split at h
    · simp at h
    · split at h
      · split at h
        · simp at h
        · simp at h; simp; omega
      · have := ih _ _ _ _ h; simp; omega

theorem getUint_any (R g : Nat) (K : List Int) (t : Nat) (w : World) (h : IsR w R g K t) :
    Calls Tryz.prog 63 #[.pointer (some ⟨R, 0, none⟩)] w fun e w' => UintPost w R g K t (scanN (K.drop t) 0 0) e w' := by
  have N := number_any R g K t w h
  have hsm := h.small
  have hle := h.le
  have hs := scan_size (K.drop t) 0 0
  rw [List.length_drop] at hs
  generalize scanN (K.drop t) 0 0 = r at N hs
  cases r using NumRes.each with
  | ok v s =>
    obtain ⟨hs1, hs2⟩ := hs v s rfl
    clear hs
    go_enter Tryz.func63, Tryz.ntmps63
    go_wp2_with (go_at_call 66; refine N.mono ?_; rintro e w' ⟨rfl, hb⟩; have h' := h.below hb; have hc1 : w'.cell? ⟨R, 1, none⟩ = some (.int .i64 t) := (by simp [World.cell?, h'.block]); have hf1 : w'.frozen? ⟨R, 1, none⟩ = false := (by simp [World.frozen?, h'.block]))
    go_ret2
    have T := h'.take (u := t + s) (by omega)
    rw [Int.natCast_add] at T
    exact ⟨rfl, T, Upd.setCell (S := fun k => k = R) (p := ⟨R, 1, none⟩) (Upd.ofBelow hb (fun k hk hk' => by omega)) (fun _ => rfl) _⟩
  | form =>
    clear hs
    go_enter Tryz.func63, Tryz.ntmps63
    go_wp2_with (go_at_call 66; refine N.mono ?_; rintro e w' ⟨p, rfl, hF, hp, hb⟩)
    go_ret2
    exact ⟨p, rfl, hF, hp, hb⟩
  | ended =>
    clear hs
    go_enter Tryz.func63, Tryz.ntmps63
    go_wp2_with (go_at_call 66; refine N.mono ?_; rintro e w' ⟨p, rfl, hF, hp, hb⟩)
    go_ret2
    exact ⟨p, rfl, hF, hp, hb⟩
end Go.Proofs.YthcghpbkadlliabGreatDoor
