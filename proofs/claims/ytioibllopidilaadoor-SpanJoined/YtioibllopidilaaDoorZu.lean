/-
  Contracts: the taker's raw.
-/
import Derived.Test.YtioibllopidilaaDoorZt
namespace Go.Proofs.YtioibllopidilaaDoor
open Go.Shelf Go.RowKit
set_option maxRecDepth 100000

theorem raw_short (R g : Nat) (K : List Int) (t n : Nat) (w : World) (h : IsR w R g K t) (hn : K.length < t + n) :
    Calls Tryd.prog 79 #[.pointer (some ⟨R, 0, none⟩), .int .i64 n] w fun e w' => ∃ p, e = .returned (.tuple #[.slice none 0 0, .iface 87 (.pointer (some ⟨p, 0, none⟩))]) ∧ IsF w' p K.length 11 ∧ w.heap.size ≤ p ∧ Below w.heap.size w w' := by
  have L := left_any R g K t w h
  have hc0 := h.c0
  have hsm := h.small
  have hle := h.le
  have hne : ¬ ((n : Int) ≤ ((K.length - t : Nat) : Int)) := by omega
  have hne2 : ((K.length - t : Nat) : Int) < (n : Int) := by omega
  go_enter Tryd.func79, Tryd.ntmps79
  go_wp2_with (first | (go_at_call 88; refine L.mono ?_; rintro e w' ⟨rfl, nn, rfl⟩) | (go_at_call 89; refine (fault_any _ _ _).mono ?_; rintro e w3 ⟨rfl, rfl⟩))
  go_ret2
  exact ⟨w.heap.size, rfl, heap_alloc_new _ _, Nat.le_refl _, (below_drewN (Below.refl _ _) _).alloc (Nat.le_refl _) _⟩

theorem raw1_ok (T R g P : Nat) (K : List Int) (t : Nat) (w : World) (h : Tk w T R g K (some t)) (hn : t + 8 ≤ K.length)
    (hP : w.heap[P]? = some (.cells #[.pointer (some ⟨T, 0, none⟩)] 82 (0, 0))) :
    Calls Tryd.prog 78 #[.pointer (some ⟨P, 0, none⟩)] w fun e w' => ∃ q, e = .returned (.tuple #[.slice (some ⟨q, 0, none⟩) 8 8, .nilIface]) ∧ RowAt w' q ((K.drop t).take 8) ∧ w.heap.size ≤ q ∧ IsR w' R g K (t + 8) ∧ Upd (fun k => k = R) w w' := by
  obtain ⟨h1, h2⟩ := h
  have d0 := blk_cell h1 0 rfl
  have p0 := blk_cell hP 0 rfl
  have N := raw_ok R g K t 8 w h2 hn (by omega)
  go_enter Tryd.func78, Tryd.ntmps78
  go_wp2_with (go_at_call 79; refine N.mono ?_; rintro e w5 ⟨q, rfl, r5, q5, h5, u5⟩)
  go_ret2
  exact ⟨q, rfl, r5, q5, h5, u5⟩
theorem raw1_bad (T R g P : Nat) (K : List Int) (t : Nat) (w : World) (h : Tk w T R g K (some t)) (hn : K.length < t + 8)
    (hP : w.heap[P]? = some (.cells #[.pointer (some ⟨T, 0, none⟩)] 82 (0, 0))) :
    Calls Tryd.prog 78 #[.pointer (some ⟨P, 0, none⟩)] w fun e w' => ∃ p, e = .returned (.tuple #[.slice none 0 0, .iface 87 (.pointer (some ⟨p, 0, none⟩))]) ∧ IsF w' p K.length 11 ∧ w.heap.size ≤ p ∧ Below w.heap.size w w' := by
  obtain ⟨h1, h2⟩ := h
  have d0 := blk_cell h1 0 rfl
  have p0 := blk_cell hP 0 rfl
  have N := raw_short R g K t 8 w h2 hn
  go_enter Tryd.func78, Tryd.ntmps78
  go_wp2_with (go_at_call 79; refine N.mono ?_; rintro e w5 ⟨p5, rfl, F5, q5, b5⟩)
  go_ret2
  exact ⟨p5, rfl, F5, q5, b5⟩
theorem takeB_none (T R g P : Nat) (K : List Int) (w : World) (h : Tk w T R g K none) :
    Calls Tryd.prog 77 #[.pointer (some ⟨T, 0, none⟩), .func (.func 78) #[] #[.pointer (some ⟨P, 0, none⟩)]] w fun e w' => e = .returned (.slice none 0 0) ∧ w' = w := by
  obtain ⟨t, q, h1, h2⟩ := h
  have d1 := blk_cell h1 1 rfl
  go_enter Tryd.func77, Tryd.ntmps77
  go_wp2
  go_ret
  exact ⟨rfl, rfl⟩
theorem takeB_ok (T R g P : Nat) (K : List Int) (t : Nat) (w : World) (h : Tk w T R g K (some t)) (hn : t + 8 ≤ K.length)
    (hP : w.heap[P]? = some (.cells #[.pointer (some ⟨T, 0, none⟩)] 82 (0, 0))) :
    Calls Tryd.prog 77 #[.pointer (some ⟨T, 0, none⟩), .func (.func 78) #[] #[.pointer (some ⟨P, 0, none⟩)]] w fun e w' => ∃ q, e = .returned (.slice (some ⟨q, 0, none⟩) 8 8) ∧ RowAt w' q ((K.drop t).take 8) ∧ Tk w' T R g K (some (t + 8)) ∧ Upd (TR T R) w w' := by
  have N := raw1_ok T R g P K t w h hn hP
  obtain ⟨h1, h2⟩ := h
  have d1 := blk_cell h1 1 rfl
  have hne : T ≠ R := ne_of_types h1 h2.block (by decide)
  have hlt := lt_of_block h1
  go_enter Tryd.func77, Tryd.ntmps77
  go_wp2_with (go_at_call 78; refine N.mono ?_; rintro e w5 ⟨q, rfl, r5, q5, h5, u5⟩; have h15 := (u5.block T hlt (fun e => hne e)).trans h1; have d5 := blk_cell h15 1 rfl; have f5 := blk_free h15 1)
  go_ret
  have hqT : q ≠ T := by omega
  exact ⟨q, rfl, (Below.heap_setCell w5 ⟨T, 1, none⟩ _ q hqT).trans r5, tk_ok h15 h5, upd_ok u5⟩
theorem takeB_bad (T R g P : Nat) (K : List Int) (t : Nat) (w : World) (h : Tk w T R g K (some t)) (hn : K.length < t + 8)
    (hP : w.heap[P]? = some (.cells #[.pointer (some ⟨T, 0, none⟩)] 82 (0, 0))) :
    Calls Tryd.prog 77 #[.pointer (some ⟨T, 0, none⟩), .func (.func 78) #[] #[.pointer (some ⟨P, 0, none⟩)]] w fun e w' => e = .returned (.slice none 0 0) ∧ Tk w' T R g K none ∧ Upd (TR T R) w w' := by
  have N := raw1_bad T R g P K t w h hn hP
  obtain ⟨h1, h2⟩ := h
  have d1 := blk_cell h1 1 rfl
  have hlt := lt_of_block h1
  go_enter Tryd.func77, Tryd.ntmps77
  go_wp2_with (go_at_call 78; refine N.mono ?_; rintro e w5 ⟨p5, rfl, F5, q5, b5⟩; have h15 := (b5.block T hlt).trans h1; have d5 := blk_cell h15 1 rfl; have f5 := blk_free h15 1)
  go_ret
  exact ⟨rfl, tk_bad h15 (h2.below b5), upd_bad b5⟩

/-- Eight bytes as a number. -/
def unrawL (l : List Int) : Int := l.foldl (fun v c => v * 256 + c) 0
def rawP (K : List Int) : Option Nat → Int × Option Nat
  | none => (0, none)
  | some t => if t + 8 ≤ K.length then (unrawL ((K.drop t).take 8), some (t + 8)) else (0, none)
theorem or_low (v c : Int) (h0 : 0 ≤ v) (h1 : v < 72057594037927936) (h2 : 0 ≤ c) (h3 : c < 256) : bits .or .u64 (v * 256) c = v * 256 + c := by
  obtain ⟨a, rfl⟩ := Int.eq_ofNat_of_zero_le h0
  obtain ⟨b, rfl⟩ := Int.eq_ofNat_of_zero_le h2
  have h1' : a < 72057594037927936 := by omega
  have h3' : b < 256 := by omega
  rw [show ((a : Int) * 256) = ((a * 256 : Nat) : Int) by omega, u64_or_nat (a * 256) b (by omega) (by omega)]
  have := Nat.shiftLeft_add_eq_or_of_lt (i := 8) (b := b) (by omega) a
  rw [Nat.shiftLeft_eq] at this
  rw [← this]
  omega
theorem unraw_snoc (l : List Int) (c : Int) : unrawL (l ++ [c]) = unrawL l * 256 + c := by simp [unrawL]
theorem unraw_bound : ∀ (k : Nat) (l : List Int), l.length = k → (∀ x ∈ l, 0 ≤ x ∧ x < 256) → 0 ≤ unrawL l ∧ unrawL l < 256 ^ k := by
  intro k
  induction k with
  | zero => intro l hl _; have : l = [] := List.eq_nil_of_length_eq_zero hl; subst this; simp [unrawL]
  | succ k ih =>
    intro l hl hb
    have hne : l ≠ [] := by intro e; subst e; simp at hl
    obtain ⟨m, c, rfl⟩ : ∃ m c, l = m ++ [c] := ⟨l.dropLast, l.getLast hne, (List.dropLast_concat_getLast hne).symm⟩
    have hm := ih m (by simpa using hl) (fun x hx => hb x (by simp [hx]))
    have hc := hb c (by simp)
    rw [unraw_snoc, Int.pow_succ]
    omega

set_option maxHeartbeats 400000 in
theorem tkRaw_any (T R g : Nat) (K : List Int) (s : Option Nat) (w : World) (h : Tk w T R g K s) :
    Calls Tryd.prog 56 #[.pointer (some ⟨T, 0, none⟩)] w fun e w' => e = .returned (.int .u64 (rawP K s).1) ∧ Tk w' T R g K (rawP K s).2 ∧ Upd (TR T R) w w' := by
  have B1 : Below w.heap.size w (w.alloc (.cells #[.pointer (some ⟨T, 0, none⟩)] 82)) := (Below.refl _ _).alloc (Nat.le_refl _) _
  have hP := heap_alloc_new w (.cells #[.pointer (some ⟨T, 0, none⟩)] 82)
  have U2 : ∀ w5, Upd (TR T R) (w.alloc (.cells #[.pointer (some ⟨T, 0, none⟩)] 82)) w5 → Upd (TR T R) w w5 := fun w5 u => (Upd.ofBelow (S := TR T R) B1 (fun k hk hk' => by omega)).trans u (fun _ _ h => h)
  have h' := h.below B1
  cases s with
  | none =>
    have N := takeB_none T R g w.heap.size K _ h'
    have hfin : Tk (w.alloc (.cells #[.pointer (some ⟨T, 0, none⟩)] 82)) T R g K none := h'
    unfold rawP
    simp only
    clear h h' hP
    go_enter Tryd.func56, Tryd.ntmps56
    go_wp2_with (go_at_call 77; refine N.mono ?_; rintro e w' ⟨rfl, rfl⟩)
    go_loop [3, 10] (fun a b => a = .int .u64 0 ∧ b = .int .i64 0) (fun _ _ => 0)
    case atStart => exact ⟨rfl, rfl⟩
    case round =>
      obtain ⟨rfl, rfl⟩ := hrel
      go_wp2
      go_ret
      exact ⟨rfl, hfin, U2 _ (Upd.refl _ _)⟩
  | some t =>
    unfold rawP
    simp only
    by_cases hn : t + 8 ≤ K.length
    · rw [if_pos hn]
      have N := takeB_ok T R g w.heap.size K t _ h' hn hP
      have hby := fun x (hx : x ∈ (K.drop t).take 8) => h.byts x (List.mem_of_mem_drop (List.mem_of_mem_take hx))
      obtain ⟨X, hX⟩ : ∃ X, (K.drop t).take 8 = X := ⟨_, rfl⟩
      have hXl : X.length = 8 := by rw [← hX]; simp; omega
      rw [hX] at N hby ⊢
      clear h h' hP hX
      obtain ⟨V, hV⟩ : ∃ V, unrawL X = V := ⟨_, rfl⟩
      rw [hV]
      have HV : Hid (unrawL X = V) := hV
      clear hV
      go_enter Tryd.func56, Tryd.ntmps56
      go_wp2_with (go_at_call 77; refine N.mono ?_; rintro e w5 ⟨q, rfl, r5, h5, hu5⟩)
      clear N
      go_loop [3, 10] (fun a b => ∃ k : Nat, b = .int .i64 k ∧ k ≤ 8 ∧ a = .int .u64 (unrawL (X.take k))) (fun _ b => 8 - (intOf b).toNat)
      case atStart => exact ⟨0, rfl, by omega, by simp [unrawL]⟩
      case round =>
        obtain ⟨k, rfl, hk, rfl⟩ := hrel
        by_cases hlt : k < 8
        · have hkX : k < X.length := by omega
          have hc := r5.cell k hkX
          obtain ⟨x, hx⟩ : ∃ x, X.getD k 0 = x := ⟨_, rfl⟩
          rw [hx] at hc
          have hxk : X[k] = x := by rw [← hx, List.getD, List.getElem?_eq_getElem hkX]; rfl
          have hxb := hby X[k] (List.getElem_mem _)
          rw [hxk] at hxb
          obtain ⟨x0, x1⟩ := hxb
          have st : unrawL (X.take (k + 1)) = unrawL (X.take k) * 256 + x := by
            rw [List.take_add_one, List.getElem?_eq_getElem hkX, hxk]; exact unraw_snoc _ _
          have bd := unraw_bound k (X.take k) (by simp; omega) (fun y hy => hby y (List.mem_of_mem_take hy))
          have pk : (256 : Int) ^ k ≤ 72057594037927936 := by
            rcases (by omega : k = 0 ∨ k = 1 ∨ k = 2 ∨ k = 3 ∨ k = 4 ∨ k = 5 ∨ k = 6 ∨ k = 7) with rfl | rfl | rfl | rfl | rfl | rfl | rfl | rfl <;> decide
          obtain ⟨u, hu⟩ : ∃ u, unrawL (X.take k) = u := ⟨_, rfl⟩
          rw [hu] at st bd
          have b0 : 0 ≤ u := bd.1
          have b1 : u < 72057594037927936 := by omega
          have HO : Hid (bits .or .u64 (u * 256) x = u * 256 + x) := or_low u x b0 b1 x0 x1
          have HS : Hid (unrawL (X.take (k + 1)) = u * 256 + x) := st
          rw [hu]
          have ho := HO.out
          clear st bd pk hx hxk hu HO
          go_wp2
          go_round
          case rel => exact ⟨k + 1, by go_num, by omega, by rw [HS.out]⟩
          case measure => simp [intOf]; omega
        · have hk8 : k = 8 := by omega
          subst hk8
          rw [List.take_of_length_le (by omega), HV.out]
          clear hby
          go_wp2
          go_ret
          exact ⟨rfl, h5, U2 _ hu5⟩
    · rw [if_neg hn]
      have N := takeB_bad T R g w.heap.size K t _ h' (by omega) hP
      clear h h' hP
      go_enter Tryd.func56, Tryd.ntmps56
      go_wp2_with (go_at_call 77; refine N.mono ?_; rintro e w5 ⟨rfl, h5, hu5⟩)
      go_loop [3, 10] (fun a b => a = .int .u64 0 ∧ b = .int .i64 0) (fun _ _ => 0)
      case atStart => exact ⟨rfl, rfl⟩
      case round =>
        obtain ⟨rfl, rfl⟩ := hrel
        go_wp2
        go_ret
        exact ⟨rfl, h5, U2 _ hu5⟩
end Go.Proofs.YtioibllopidilaaDoor
