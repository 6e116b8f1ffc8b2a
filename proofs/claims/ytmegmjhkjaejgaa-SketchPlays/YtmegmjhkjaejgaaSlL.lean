/-
  The reference of layer 13: times, below.
-/
import Derived.Test.YtmegmjhkjaejgaaSlK
namespace Go.Proofs.Ytmegmjhkjaejgaa.sk
open Go.RowKit
set_option maxRecDepth 100000

def wordN (m i : Nat) : Nat := m / 4294967296 ^ i % 4294967296
def overN (m y i : Nat) : Nat := m % 4294967296 ^ i * y / 4294967296 ^ i
theorem over_zero (m y : Nat) : overN m y 0 = 0 := by unfold overN; rw [Nat.pow_zero, Nat.mod_one, Nat.zero_mul, Nat.zero_div]
theorem step_x (m y i : Nat) : wordN m i * y + overN m y i = m % 4294967296 ^ (i + 1) * y / 4294967296 ^ i := by
  unfold wordN overN
  have hp : 0 < 4294967296 ^ i := Nat.pow_pos (by omega)
  rw [Nat.pow_succ, Nat.mod_mul, Nat.add_mul, Nat.mul_assoc, Nat.add_mul_div_left _ _ hp, Nat.add_comm]
theorem step_over (m y i : Nat) : (wordN m i * y + overN m y i) / 4294967296 = overN m y (i + 1) := by
  rw [step_x]
  unfold overN
  rw [Nat.div_div_eq_div_mul, Nat.pow_succ]
theorem step_word (m y i : Nat) : (wordN m i * y + overN m y i) % 4294967296 = wordN (m * y) i := by
  rw [step_x]
  unfold wordN
  have hp : 0 < 4294967296 ^ i := Nat.pow_pos (by omega)
  have e : m * y = m % 4294967296 ^ (i + 1) * y + 4294967296 ^ i * (4294967296 * (m / 4294967296 ^ (i + 1) * y)) := by
    have := Nat.mod_add_div m (4294967296 ^ (i + 1))
    rw [← Nat.mul_assoc, ← Nat.pow_succ, ← Nat.mul_assoc, ← Nat.add_mul, this]
  rw [e, Nat.add_mul_div_left _ _ hp, Nat.add_mul_mod_self_left]
theorem word_lt (m i : Nat) : wordN m i < 4294967296 := Nat.mod_lt _ (by omega)
theorem over_lt (m i y : Nat) : overN m y i ≤ y := by
  unfold overN
  have hp : 0 < 4294967296 ^ i := Nat.pow_pos (by omega)
  have h := Nat.mod_lt m hp
  refine Nat.div_le_of_le_mul ?_
  exact Nat.mul_le_mul_right y (Nat.le_of_lt h)
def arrV (m : Nat) : Value := .agg #[.int .u64 (wordN m 0 : Int), .int .u64 (wordN m 1 : Int), .int .u64 (wordN m 2 : Int), .int .u64 (wordN m 3 : Int), .int .u64 (wordN m 4 : Int)]
theorem wlo (m : Nat) : lo64 m % 4294967296 = wordN m 0 ∧ lo64 m / 4294967296 = wordN m 1 ∧ hi64 m % 4294967296 = wordN m 2 := by
  unfold lo64 hi64 wordN
  refine ⟨?_, ?_, ?_⟩
  · simp
  · simp; omega
  · rfl
theorem whi {m : Nat} (h : m < 340282366920938463463374607431768211456) : hi64 m / 4294967296 = wordN m 3 ∧ wordN m 4 = 0 := by
  unfold hi64 wordN
  refine ⟨?_, ?_⟩
  · have e : (4294967296 : Nat) ^ 3 = 79228162514264337593543950336 := by decide
    rw [e]; omega
  · have e : (4294967296 : Nat) ^ 4 = 340282366920938463463374607431768211456 := by decide
    rw [e]; omega
/-- Five numbers in a block. -/
structure ArrAt (w : World) (g : Nat) (f : Nat → Int) : Prop where
  blk : ∃ cs : Array Value, w.heap[g]? = some (.cells cs 64 (0, 0)) ∧ cs.size = 5 ∧ ∀ j, j < 5 → cs[j]? = some (.int .u64 (f j))
theorem ArrAt.cell {w : World} {g : Nat} {f : Nat → Int} (h : ArrAt w g f) (j : Nat) (hj : j < 5) : w.cell? ⟨g, j, none⟩ = some (.int .u64 (f j)) := by
  obtain ⟨cs, h1, _, h3⟩ := h.blk
  exact blk_cell h1 j (h3 j hj)
theorem ArrAt.free {w : World} {g : Nat} {f : Nat → Int} (h : ArrAt w g f) (j : Nat) : w.frozen? ⟨g, j, none⟩ = false := by
  obtain ⟨cs, h1, _⟩ := h.blk
  exact blk_free h1 j
theorem ArrAt.set {w : World} {g : Nat} {f f' : Nat → Int} (h : ArrAt w g f) (i : Nat) (v : Int) (hi : i < 5) (hf : ∀ j, j < 5 → f' j = if j = i then v else f j) : ArrAt (w.setCell ⟨g, i, none⟩ (.int .u64 v)) g f' := by
  obtain ⟨cs, h1, h2, h3⟩ := h.blk
  refine ⟨⟨cs.setIfInBounds i (.int .u64 v), set_block h1 i _, by simpa using h2, fun j hj => ?_⟩⟩
  rw [hf j hj, Array.getElem?_setIfInBounds]
  by_cases e : j = i
  · subst e
    rw [if_pos rfl, if_pos (by omega), if_pos rfl]
  · rw [if_neg (fun h => e h.symm), if_neg e, h3 j hj]
theorem ArrAt.upd {S : Nat → Prop} {w w' : World} {g : Nat} {f : Nat → Int} (h : ArrAt w g f) (hu : Upd S w w') (hS : ¬ S g) : ArrAt w' g f := by
  obtain ⟨cs, h1, h2⟩ := h.blk
  exact ⟨⟨cs, (hu.block g (lt_of_block h1) hS).trans h1, h2⟩⟩
theorem ArrAt.new (w : World) (a b c d e : Int) (f : Nat → Int) (h : f 0 = a ∧ f 1 = b ∧ f 2 = c ∧ f 3 = d ∧ f 4 = e) : ArrAt (w.alloc (.cells #[.int .u64 a, .int .u64 b, .int .u64 c, .int .u64 d, .int .u64 e] 64)) w.heap.size f := by
  refine ⟨⟨_, heap_alloc_new w _, rfl, fun j hj => ?_⟩⟩
  obtain ⟨h0, h1, h2, h3, h4⟩ := h
  rcases j with _ | _ | _ | _ | _ | j
  · rw [h0]; rfl
  · rw [h1]; rfl
  · rw [h2]; rfl
  · rw [h3]; rfl
  · rw [h4]; rfl
  · omega
def setFive (w : World) (g : Nat) (a b c d e : Int) : World := ((((w.setCell ⟨g, 0, none⟩ (.int .u64 a)).setCell ⟨g, 1, none⟩ (.int .u64 b)).setCell ⟨g, 2, none⟩ (.int .u64 c)).setCell ⟨g, 3, none⟩ (.int .u64 d)).setCell ⟨g, 4, none⟩ (.int .u64 e)
theorem ArrAt.five {w : World} {g : Nat} {f : Nat → Int} (h : ArrAt w g f) (a b c d e : Int) : (setFive w g a b c d e).cell? ⟨g, 0, none⟩ = some (.int .u64 a) ∧ (setFive w g a b c d e).cell? ⟨g, 1, none⟩ = some (.int .u64 b) ∧ (setFive w g a b c d e).cell? ⟨g, 2, none⟩ = some (.int .u64 c) ∧ (setFive w g a b c d e).cell? ⟨g, 3, none⟩ = some (.int .u64 d) ∧ (setFive w g a b c d e).cell? ⟨g, 4, none⟩ = some (.int .u64 e) := by
  have H := ((((h.set 0 a (by omega) (fun _ _ => rfl)).set 1 b (by omega) (fun _ _ => rfl)).set 2 c (by omega) (fun _ _ => rfl)).set 3 d (by omega) (fun _ _ => rfl)).set 4 e (by omega) (fun _ _ => rfl)
  exact ⟨H.cell 0 (by omega), H.cell 1 (by omega), H.cell 2 (by omega), H.cell 3 (by omega), H.cell 4 (by omega)⟩
/-- The words while they are multiplied. -/
def midF (m y i j : Nat) : Int := if j < i then (wordN (m * y) j : Int) else (wordN m j : Int)
theorem mid_next (m y i j : Nat) : midF m y (i + 1) j = if j = i then (wordN (m * y) i : Int) else midF m y i j := by
  unfold midF
  by_cases e : j = i
  · subst e
    rw [if_pos (by omega), if_pos rfl]
  · rw [if_neg e]
    by_cases h : j < i
    · rw [if_pos h, if_pos (by omega)]
    · rw [if_neg h, if_neg (by omega)]
theorem times_eqs (m y i : Nat) (hy : y ≤ 1000000) : IntKind.u64.wrap ((wordN m i : Int) * (y : Int)) = ((wordN m i * y : Nat) : Int) ∧ IntKind.u64.wrap (((wordN m i * y : Nat) : Int) + (overN m y i : Int)) = ((wordN m i * y + overN m y i : Nat) : Int) ∧ wordN m i * y + overN m y i ≤ 18446744073709551615 := by
  have h1 := word_lt m i
  have h2 := over_lt m i y
  have h3 : wordN m i * y ≤ 4294967295 * 1000000 := Nat.mul_le_mul (by omega) hy
  have e1 : (wordN m i : Int) * (y : Int) = ((wordN m i * y : Nat) : Int) := by rw [Int.natCast_mul]
  rw [e1]
  generalize wordN m i * y = q at *
  refine ⟨by rw [IntKind.wrap_u64]; omega, by rw [IntKind.wrap_u64]; omega, by omega⟩
set_option maxHeartbeats 1000000 in
theorem times_any (m y : Nat) (hm : m < 340282366920938463463374607431768211456) (hy : y ≤ 1000000) (w : World) :
    Calls Try.prog 39 #[natV m, .int .u64 (y : Int)] w fun e w' => e = .returned (arrV (m * y)) ∧ Below w.heap.size w w' := by
  obtain ⟨l0, l1, l2⟩ := wlo m
  obtain ⟨l3, l4⟩ := whi hm
  have ha := hi64_lt hm
  have hb := lo64_lt m
  have h0 : (lo64 m : Int) % 4294967296 = (wordN m 0 : Int) := by omega
  have h1 : (lo64 m : Int) / 4294967296 = (wordN m 1 : Int) := by omega
  have h2 : (hi64 m : Int) % 4294967296 = (wordN m 2 : Int) := by omega
  have h3 : (hi64 m : Int) / 4294967296 = (wordN m 3 : Int) := by omega
  have h4 : (wordN m 4 : Int) = 0 := by omega
  have a0 : (0 : Int) ≤ (hi64 m : Int) := by omega
  have a1 : (hi64 m : Int) ≤ 18446744073709551615 := by omega
  have b0 : (0 : Int) ≤ (lo64 m : Int) := by omega
  have b1 : (lo64 m : Int) ≤ 18446744073709551615 := by omega
  have HT : Hid (∀ i, _) := fun i => times_eqs m y i hy
  have HO : Hid (overN m y 0 = 0) := over_zero m y
  have HI : Hid (midF m y 0 0 = (wordN m 0 : Int) ∧ midF m y 0 1 = (wordN m 1 : Int) ∧ midF m y 0 2 = (wordN m 2 : Int) ∧ midF m y 0 3 = (wordN m 3 : Int) ∧ midF m y 0 4 = 0) := ⟨rfl, rfl, rfl, rfl, h4⟩
  rw [natV_eq]
  generalize (lo64 m : Int) = B at *
  generalize (hi64 m : Int) = A at *
  generalize (wordN m 0 : Int) = n0 at *
  generalize (wordN m 1 : Int) = n1 at *
  generalize (wordN m 2 : Int) = n2 at *
  generalize (wordN m 3 : Int) = n3 at *
  clear l0 l1 l2 l3 l4 ha hb hm hy h4
  go_enter Try.func39, Try.ntmps39
  go_wp2
  obtain ⟨w1, hw1⟩ : ∃ W, (((w.alloc (.cells #[.int .u64 A, .int .u64 B] 42)).alloc (.cells #[.int .u64 0, .int .u64 0, .int .u64 0, .int .u64 0, .int .u64 0] 64)).alloc (.cells #[.int .u64 n0, .int .u64 n1, .int .u64 n2, .int .u64 n3, .int .u64 0] 64)) = W := ⟨_, rfl⟩
  have HB1 : Hid (Below w.heap.size w w1) := by
    have : Below w.heap.size w w1 := by rw [← hw1]; exact (((Below.refl _ w).alloc (Nat.le_refl _) _).alloc (by simp) _).alloc (by simp; omega) _
    exact this
  have HR1 : Hid (ArrAt w1 (w.heap.size + 1) (fun _ => 0)) := by
    have h := (ArrAt.new (w.alloc (.cells #[.int .u64 A, .int .u64 B] 42)) 0 0 0 0 0 (fun _ => 0) ⟨rfl, rfl, rfl, rfl, rfl⟩).upd ((Upd.refl (fun _ => False) _).alloc (.cells #[.int .u64 n0, .int .u64 n1, .int .u64 n2, .int .u64 n3, .int .u64 0] 64)) (fun h => h)
    rw [hw1] at h
    have e : (w.alloc (.cells #[.int .u64 A, .int .u64 B] 42)).heap.size = w.heap.size + 1 := by simp
    rw [e] at h
    exact h
  have HA1 : Hid (ArrAt w1 (w.heap.size + 1 + 1) (midF m y 0)) := by
    have h := ArrAt.new ((w.alloc (.cells #[.int .u64 A, .int .u64 B] 42)).alloc (.cells #[.int .u64 0, .int .u64 0, .int .u64 0, .int .u64 0, .int .u64 0] 64)) n0 n1 n2 n3 0 (midF m y 0) HI.out
    rw [hw1] at h
    have e : ((w.alloc (.cells #[.int .u64 A, .int .u64 B] 42)).alloc (.cells #[.int .u64 0, .int .u64 0, .int .u64 0, .int .u64 0, .int .u64 0] 64)).heap.size = w.heap.size + 1 + 1 := by simp
    rw [e] at h
    exact h
  rw [hw1]
  clear hw1 HI
  go_loopw [6, 7, 8] (fun o t _ wr => ∃ (i : Nat), t = .int .i64 i ∧ o = .int .u64 (overN m y i : Int) ∧ i ≤ 5 ∧ Hid (ArrAt wr (w.heap.size + 1 + 1) (midF m y i)) ∧ Hid (Upd (fun k => k = w.heap.size + 1 + 1) w1 wr)) (fun _ t _ _ => 5 - (intOf t).toNat)
  case atStart => exact ⟨0, rfl, by rw [HO.out]; rfl, by omega, HA1.out, Upd.refl _ _⟩
  case round =>
    obtain ⟨i, rfl, rfl, hi, HA, HU⟩ := hrel
    by_cases hlt : i < 5
    · obtain ⟨e1, e2, e3⟩ := HT.out i
      have HW : Hid _ := step_word m y i
      have HV : Hid _ := step_over m y i
      have c := HA.out.cell i hlt
      have f := HA.out.free i
      have hmid : midF m y i i = (wordN m i : Int) := by unfold midF; rw [if_neg (by omega)]
      rw [hmid] at c
      have g1 : ((wordN m i * y + overN m y i : Nat) : Int) % 4294967296 = (wordN (m * y) i : Int) := by rw [← HW.out]; omega
      have g2 : ((wordN m i * y + overN m y i : Nat) : Int) / 4294967296 = (overN m y (i + 1) : Int) := by rw [← HV.out]; omega
      have g3 : (0 : Int) ≤ ((wordN m i * y + overN m y i : Nat) : Int) := by omega
      have g4 : ((wordN m i * y + overN m y i : Nat) : Int) ≤ 18446744073709551615 := by omega
      have HN : Hid (∀ j, j < 5 → midF m y (i + 1) j = if j = i then (wordN (m * y) i : Int) else midF m y i j) := fun j _ => mid_next m y i j
      clear e3 HW HV hmid HT
      generalize ((wordN m i * y + overN m y i : Nat) : Int) = x at *
      generalize ((wordN m i * y : Nat) : Int) = q at *
      have HOe : Hid ((overN m y (i + 1) : Int) = (overN m y (i + 1) : Int)) := rfl
      obtain ⟨o', ho'⟩ : ∃ o', (overN m y (i + 1) : Int) = o' := ⟨_, rfl⟩
      rw [ho'] at g2
      have HOE : Hid ((overN m y (i + 1) : Int) = o') := ho'
      clear HOe ho'
      generalize (overN m y i : Int) = o at *
      generalize (wordN m i : Int) = N at *
      generalize (wordN (m * y) i : Int) = P at *
      generalize (y : Int) = Y at *
      go_wp2
      refine ⟨⟨i + 1, by go_num, by rw [HOE.out]; first | rfl | rw [g2], by omega, HA.out.set i P hlt HN.out, HU.out.setCell (p := ⟨w.heap.size + 1 + 1, i, none⟩) (fun _ => rfl) _⟩, ?_⟩
      simp [intOf]
      omega
    · obtain rfl : i = 5 := by omega
      have hR := HR1.out.upd HU.out (show ¬ w.heap.size + 1 = w.heap.size + 1 + 1 by omega)
      have c0 := HA.out.cell 0 (by omega)
      have c1 := HA.out.cell 1 (by omega)
      have c2 := HA.out.cell 2 (by omega)
      have c3 := HA.out.cell 3 (by omega)
      have c4 := HA.out.cell 4 (by omega)
      have r0 := hR.free 0
      have r1 := hR.free 1
      have r2 := hR.free 2
      have r3 := hR.free 3
      have r4 := hR.free 4
      have d0 := hR.cell 0 (by omega)
      have d1 := hR.cell 1 (by omega)
      have d2 := hR.cell 2 (by omega)
      have d3 := hR.cell 3 (by omega)
      have d4 := hR.cell 4 (by omega)
      have HR : Hid _ := hR
      have HV : Hid (arrV (m * y) = .agg #[.int .u64 (midF m y 5 0), .int .u64 (midF m y 5 1), .int .u64 (midF m y 5 2), .int .u64 (midF m y 5 3), .int .u64 (midF m y 5 4)]) := rfl
      clear hR HA HR1 HA1 HT HO
      generalize midF m y 5 0 = p0 at *
      generalize midF m y 5 1 = p1 at *
      generalize midF m y 5 2 = p2 at *
      generalize midF m y 5 3 = p3 at *
      generalize midF m y 5 4 = p4 at *
      go_wp2
      obtain ⟨x0, x1, x2, x3, x4⟩ := HR.out.five p0 p1 p2 p3 p4
      unfold setFive at x0 x1 x2 x3 x4
      have u1 := (Upd.ofBelow (S := fun k => w.heap.size ≤ k) HB1.out (fun _ _ h => h)).trans HU.out (fun i hi h => by show w.heap.size ≤ i; omega)
      have u2 := ((((u1.setCell (p := ⟨w.heap.size + 1, 0, none⟩) (fun _ => Nat.le_succ _) (.int .u64 p0)).setCell (p := ⟨w.heap.size + 1, 1, none⟩) (fun _ => Nat.le_succ _) (.int .u64 p1)).setCell (p := ⟨w.heap.size + 1, 2, none⟩) (fun _ => Nat.le_succ _) (.int .u64 p2)).setCell (p := ⟨w.heap.size + 1, 3, none⟩) (fun _ => Nat.le_succ _) (.int .u64 p3)).setCell (p := ⟨w.heap.size + 1, 4, none⟩) (fun _ => Nat.le_succ _) (.int .u64 p4)
      refine bodyPost_ret (v := .agg #[.int .u64 p0, .int .u64 p1, .int .u64 p2, .int .u64 p3, .int .u64 p4]) (by simp [results, Try.results39, go_sem, x0, x1, x2, x3, x4]; try rfl) rfl ⟨by rw [HV.out], u2.below (Nat.le_refl _) (fun k hk h => by omega)⟩
end Go.Proofs.Ytmegmjhkjaejgaa.sk
