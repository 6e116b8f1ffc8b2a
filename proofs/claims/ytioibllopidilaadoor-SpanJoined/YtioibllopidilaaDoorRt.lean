/-
  Contracts: the Reader's At, Left, End, Int, Raw, Text; the Writer's Len, Raw.
-/
import Derived.Test.YtioibllopidilaaDoorWe
namespace Go.Proofs.YtioibllopidilaaDoor
open Go.Shelf Go.RowKit
set_option maxRecDepth 100000

theorem IsR.c0 {w : World} {R g : Nat} {K : List Int} {t : Nat} (h : IsR w R g K t) : w.cell? ⟨R, 0, none⟩ = some (.slice (some ⟨g, 0, none⟩) K.length K.length) := by simp [World.cell?, h.block]
theorem IsR.c1 {w : World} {R g : Nat} {K : List Int} {t : Nat} (h : IsR w R g K t) : w.cell? ⟨R, 1, none⟩ = some (.int .i64 t) := by simp [World.cell?, h.block]
theorem IsR.f1 {w : World} {R g : Nat} {K : List Int} {t : Nat} (h : IsR w R g K t) : w.frozen? ⟨R, 1, none⟩ = false := by simp [World.frozen?, h.block]

theorem at_any (R g : Nat) (K : List Int) (t : Nat) (w : World) (h : IsR w R g K t) :
    Calls Tryd.prog 96 #[.pointer (some ⟨R, 0, none⟩)] w fun e w' => e = .returned (.int .i64 t) ∧ w' = w := by
  have hc1 := h.c1
  go_enter Tryd.func96, Tryd.ntmps96
  go_wp2
  go_ret
  exact ⟨rfl, rfl⟩
theorem left_any (R g : Nat) (K : List Int) (t : Nat) (w : World) (h : IsR w R g K t) :
    Calls Tryd.prog 88 #[.pointer (some ⟨R, 0, none⟩)] w fun e w' => e = .returned (.int .i64 ((K.length - t : Nat) : Int)) ∧ ∃ n, w' = w.drewN n := by
  have hc0 := h.c0
  have hc1 := h.c1
  have hsm := h.small
  have hle := h.le
  go_enter Tryd.func88, Tryd.ntmps88
  go_wp2
  go_quiet (fail)
  go_wp2
  go_ret
  exact ⟨ret_int (by omega), _, rfl⟩
theorem end_any (R g : Nat) (K : List Int) (w : World) (h : IsR w R g K K.length) :
    Calls Tryd.prog 63 #[.pointer (some ⟨R, 0, none⟩)] w fun e w' => e = .returned .nilIface ∧ Below w.heap.size w w' := by
  have L := left_any R g K K.length w h
  rw [Nat.sub_self] at L
  go_enter Tryd.func63, Tryd.ntmps63
  go_wp2_with (go_at_call 88; refine L.mono ?_; rintro e w' ⟨rfl, n, rfl⟩)
  go_ret
  exact ⟨rfl, below_drewN (Below.refl _ _) _⟩
theorem end_left (R g : Nat) (K : List Int) (t : Nat) (w : World) (h : IsR w R g K t) (ht : t < K.length) :
    Calls Tryd.prog 63 #[.pointer (some ⟨R, 0, none⟩)] w fun e w' => ∃ p, e = .returned (.iface 87 (.pointer (some ⟨p, 0, none⟩))) ∧ IsF w' p t 15 ∧ w.heap.size ≤ p ∧ Below w.heap.size w w' := by
  have L := left_any R g K t w h
  have hc1 := h.c1
  have hpos : 0 < K.length - t := by omega
  go_enter Tryd.func63, Tryd.ntmps63
  go_wp2_with (first
    | (go_at_call 88; refine L.mono ?_; rintro e w' ⟨rfl, n, rfl⟩)
    | (go_at_call 89; refine (fault_any _ _ _).mono ?_; rintro e w' ⟨rfl, rfl⟩))
  go_ret
  exact ⟨w.heap.size, rfl, heap_alloc_new _ _, Nat.le_refl _, (below_drewN (Below.refl _ _) _).alloc (Nat.le_refl _) _⟩
/-- What the Reader's Int leaves. -/
def IntPost (w : World) (R g : Nat) (K : List Int) (t : Nat) : NumRes → Ending → World → Prop
  | some (some (v, s)), e, w' => e = .returned (.tuple #[.int .i64 (zagI v), .nilIface]) ∧ IsR w' R g K (t + s) ∧ Upd (fun k => k = R) w w'
  | some none, e, w' => ∃ p, e = .returned (.tuple #[.int .i64 0, .iface 87 (.pointer (some ⟨p, 0, none⟩))]) ∧ IsF w' p t 12 ∧ w.heap.size ≤ p ∧ Below w.heap.size w w'
  | none, e, w' => ∃ p, e = .returned (.tuple #[.int .i64 0, .iface 87 (.pointer (some ⟨p, 0, none⟩))]) ∧ IsF w' p K.length 11 ∧ w.heap.size ≤ p ∧ Below w.heap.size w w'
theorem scan_val : ∀ (l : List Int) (s v v' s' : Nat), (∀ x ∈ l, 0 ≤ x ∧ x < 256) → s ≤ 10 → (s ≤ 9 → v < 128 ^ s) → scanN l s v = .ok v' s' → v' < 18446744073709551616 := by
  intro l
  induction l with
  | nil => intro s v v' s' _ _ _ h; unfold scanN at h; split at h <;> simp at h
  | cons x r ih =>
    intro s v v' s' hl hs hv h
    unfold scanN at h
    have hx := hl x (by simp)
    split at h
    · simp at h
    · rename_i h10
      have hv' := hv (by omega)
      split at h
      · split at h
        · simp at h
        · rename_i hx128 hb
          simp at h
          obtain ⟨rfl, _⟩ := h
          by_cases h8 : s ≤ 8
          · have hp := pow_le8 s h8
            have hm : x.toNat * 128 ^ s ≤ 127 * 128 ^ s := Nat.mul_le_mul_right _ (by omega)
            omega
          · have h9 : s = 9 := by omega
            subst h9
            have hx1 : x ≤ 1 := by
              by_cases hx1 : x ≤ 1
              · exact hx1
              · exact absurd (by simp [badLast]; omega) hb
            have hm : x.toNat * 128 ^ 9 ≤ 1 * 128 ^ 9 := Nat.mul_le_mul_right _ (by omega)
            omega
      · refine ih (s + 1) _ v' s' (fun y hy => hl y (by simp [hy])) (by omega) (fun h9 => ?_) h
        have hm : (x.toNat - 128) * 128 ^ s ≤ 127 * 128 ^ s := Nat.mul_le_mul_right _ (by omega)
        rw [Nat.pow_succ]; omega
theorem getInt_any (R g : Nat) (K : List Int) (t : Nat) (w : World) (h : IsR w R g K t) :
    Calls Tryd.prog 87 #[.pointer (some ⟨R, 0, none⟩)] w fun e w' => IntPost w R g K t (scanN (K.drop t) 0 0) e w' := by
  have N := getUint_any R g K t w h
  have hv := scan_val (K.drop t) 0 0
  have hby : ∀ x ∈ K.drop t, 0 ≤ x ∧ x < 256 := fun x hx => h.byts x (List.mem_of_mem_drop hx)
  generalize scanN (K.drop t) 0 0 = r at N hv
  cases r using NumRes.each with
  | ok v s =>
    have hv2 := hv v s hby (by omega) (by simp) rfl
    clear hv
    go_enter Tryd.func87, Tryd.ntmps87
    go_wp2_with (first
      | (go_at_call 85; refine N.mono ?_; rintro e w' ⟨rfl, hR, hU⟩)
      | (go_at_call 99; refine (zag_any _ (by omega) (by omega) _).mono ?_; rintro e w'' ⟨rfl, rfl⟩))
    go_ret2
    exact ⟨rfl, hR, hU⟩
  | form =>
    clear hv
    go_enter Tryd.func87, Tryd.ntmps87
    go_wp2_with (go_at_call 85; refine N.mono ?_; rintro e w' ⟨p, rfl, hF, hp, hb⟩)
    go_ret2
    exact ⟨p, rfl, hF, hp, hb⟩
  | ended =>
    clear hv
    go_enter Tryd.func87, Tryd.ntmps87
    go_wp2_with (go_at_call 85; refine N.mono ?_; rintro e w' ⟨p, rfl, hF, hp, hb⟩)
    go_ret2
    exact ⟨p, rfl, hF, hp, hb⟩

theorem wraw_any (base B : Nat) (v : Value) (L : List Int) (ad : Option Addr) (n cap : Nat) (K : List Int) (w : World) (h : IsW base w B v L) (hb : base ≤ w.heap.size) (hK : Holds w ad n K) (hlen : L.length + n ≤ 140737488355328) :
    Calls Tryd.prog 29 #[.pointer (some ⟨B, 0, none⟩), .slice ad n cap] w fun e w' => e = .returned (.tuple #[]) ∧ ∃ v', IsW base w' B v' (L ++ K) ∧ Upd (fun k => k = B ∨ v.ownBlock = some k) w w' ∧ Moved w v v' := by
  obtain ⟨i0, hi, hz0, hz1, hz2⟩ := info_parts Tryd.info5
  have hcell := cell_of_one h.block
  have hfree := free_of_one h.block
  have hl := hK.len
  have hS : Src Tryd.prog 1 42 (.slice ad n cap) n (K.map (Value.int .u8)) w := by
    cases ad with
    | none =>
      have hK0 : K = [] := by
        cases K with
        | nil => rfl
        | cons x r => obtain ⟨a, ha, _⟩ := hK.cells 0 (.int .u8 x) (by simp); simp at ha
      subst hK0
      subst hl
      exact Src.ofNil _ Tryd.underlying42 cap
    | some a =>
      exact Src.ofSlice _ Tryd.underlying42 a n cap _ (by simpa using hl) (fun j u hj => by
        obtain ⟨a', ha, hc⟩ := hK.cells j u hj
        simp at ha; subst ha; exact hc) (u8_one K)
  go_enter Tryd.func29, Tryd.ntmps29
  go_wp2_with (at_builtin; refine wpList_app _ rfl (.tmp 8) (.tmp 9) 42 42 rfl base 5 i0 (.int .u8 0) 1 Tryd.underlying42 hi hz0 hz1 hz2 rfl _ _ _ rfl h.own _ n (K.map (Value.int .u8)) rfl hS ?c3 ?c4 ?c5 ?_)
  case c3 => unfold maxLen; omega
  case c4 => omega
  case c5 => omega
  intro v' w2 ho hg hm
  obtain ⟨ao, l, c, rfl⟩ := row_shape ho
  obtain ⟨R1, R2, R3, R4⟩ := put_step (o := none) (K := K) h rfl (by rw [hl]; exact ho) hg hm
  have hcell2 := cell_of_one R4
  have hfree2 := free_of_one R4
  clear ho hg hm hcell hfree R4
  go_wp2
  go_end0
  exact ⟨rfl, _, R1, R2, R3⟩
end Go.Proofs.YtioibllopidilaaDoor
