/-
  The reference of layer 13: below.
-/
import Derived.Test.YtmegmjhkjaejgaaSlL
namespace Go.Proofs.Ytmegmjhkjaejgaa.sk
open Go.RowKit
set_option maxRecDepth 100000

theorem word_top (m j : Nat) : m / 4294967296 ^ j = m / 4294967296 ^ (j + 1) * 4294967296 + wordN m j := by
  unfold wordN
  rw [Nat.pow_succ, ← Nat.div_div_eq_div_mul]
  omega
theorem word_same {m n j : Nat} (h : m / 4294967296 ^ (j + 1) = n / 4294967296 ^ (j + 1)) (e : wordN m j = wordN n j) : m / 4294967296 ^ j = n / 4294967296 ^ j := by
  rw [word_top m j, word_top n j, h, e]
theorem div_lt {m n p : Nat} (h : m / p < n / p) : m < n := by
  rcases Nat.lt_or_ge m n with h' | h'
  · exact h'
  · have := Nat.div_le_div_right (c := p) h'
    omega
theorem word_differ {m n j : Nat} (h : m / 4294967296 ^ (j + 1) = n / 4294967296 ^ (j + 1)) (e : wordN m j ≠ wordN n j) : decide (wordN m j < wordN n j) = decide (m < n) := by
  have a := word_top m j
  have b := word_top n j
  rw [h] at a
  by_cases hlt : wordN m j < wordN n j
  · have := div_lt (m := m) (n := n) (p := 4294967296 ^ j) (by omega)
    simp [hlt, this]
  · have h1 := div_lt (m := n) (n := m) (p := 4294967296 ^ j) (by omega)
    have h2 : ¬ m < n := by omega
    simp [hlt, h2]
set_option maxHeartbeats 1000000 in
theorem refBelow_any (m n : Nat) (hm : m < 1461501637330902918203684832716283019655932542976) (hn : n < 1461501637330902918203684832716283019655932542976) (w : World) :
    Calls Try.prog 40 #[arrV m, arrV n] w fun e w' => e = .returned (.bool (decide (m < n))) ∧ Below w.heap.size w w' := by
  have HS : Hid (m / 4294967296 ^ 5 = n / 4294967296 ^ 5) := by
    have e : (4294967296 : Nat) ^ 5 = 1461501637330902918203684832716283019655932542976 := by decide
    have : m / 4294967296 ^ 5 = n / 4294967296 ^ 5 := by rw [e]; omega
    exact this
  clear hm hn
  unfold arrV
  have HA0 : Hid (∀ W : World, ArrAt (W.alloc (.cells #[.int .u64 (wordN m 0 : Int), .int .u64 (wordN m 1 : Int), .int .u64 (wordN m 2 : Int), .int .u64 (wordN m 3 : Int), .int .u64 (wordN m 4 : Int)] 64)) W.heap.size (fun j => (wordN m j : Int))) := fun W => ArrAt.new W _ _ _ _ _ _ ⟨rfl, rfl, rfl, rfl, rfl⟩
  have HB0 : Hid (∀ W : World, ArrAt (W.alloc (.cells #[.int .u64 (wordN n 0 : Int), .int .u64 (wordN n 1 : Int), .int .u64 (wordN n 2 : Int), .int .u64 (wordN n 3 : Int), .int .u64 (wordN n 4 : Int)] 64)) W.heap.size (fun j => (wordN n j : Int))) := fun W => ArrAt.new W _ _ _ _ _ _ ⟨rfl, rfl, rfl, rfl, rfl⟩
  generalize (wordN m 0 : Int) = m0 at *
  generalize (wordN m 1 : Int) = m1 at *
  generalize (wordN m 2 : Int) = m2 at *
  generalize (wordN m 3 : Int) = m3 at *
  generalize (wordN m 4 : Int) = m4 at *
  generalize (wordN n 0 : Int) = n0 at *
  generalize (wordN n 1 : Int) = n1 at *
  generalize (wordN n 2 : Int) = n2 at *
  generalize (wordN n 3 : Int) = n3 at *
  generalize (wordN n 4 : Int) = n4 at *
  go_enter Try.func40, Try.ntmps40
  go_wp2
  obtain ⟨w1, hw1⟩ : ∃ W, ((w.alloc (.cells #[.int .u64 m0, .int .u64 m1, .int .u64 m2, .int .u64 m3, .int .u64 m4] 64)).alloc (.cells #[.int .u64 n0, .int .u64 n1, .int .u64 n2, .int .u64 n3, .int .u64 n4] 64)) = W := ⟨_, rfl⟩
  have HB1 : Hid (∀ q, Below w.heap.size w (w1.drewN q)) := fun q => by
    rw [← hw1]; exact (((Upd.refl (fun _ => False) w).alloc _).alloc _ |>.drewN q).below (Nat.le_refl _) (fun _ _ h => h)
  have HA1 : Hid (ArrAt w1 w.heap.size (fun j => (wordN m j : Int))) := by
    have h := (HA0.out w).upd ((Upd.refl (fun _ => False) _).alloc (.cells #[.int .u64 n0, .int .u64 n1, .int .u64 n2, .int .u64 n3, .int .u64 n4] 64)) (fun h => h)
    rw [hw1] at h
    exact h
  have HN1 : Hid (ArrAt w1 (w.heap.size + 1) (fun j => (wordN n j : Int))) := by
    have h := HB0.out (w.alloc (.cells #[.int .u64 m0, .int .u64 m1, .int .u64 m2, .int .u64 m3, .int .u64 m4] 64))
    rw [hw1] at h
    have e : (w.alloc (.cells #[.int .u64 m0, .int .u64 m1, .int .u64 m2, .int .u64 m3, .int .u64 m4] 64)).heap.size = w.heap.size + 1 := by simp
    rw [e] at h
    exact h
  rw [hw1]
  clear hw1 HA0 HB0
  go_loopw [5] (fun t wr => ∃ (z : Int) (q : Nat), t = .int .i64 z ∧ -1 ≤ z ∧ z ≤ 4 ∧ wr = w1.drewN q ∧ Hid (m / 4294967296 ^ (z + 1).toNat = n / 4294967296 ^ (z + 1).toNat)) (fun t _ => (intOf t + 1).toNat)
  case atStart => exact ⟨4, 0, rfl, by omega, by omega, rfl, HS.out⟩
  case round =>
    obtain ⟨z, q, rfl, hz1, hz2, rfl, HM⟩ := hrel
    by_cases hlt : z < 0
    · have HR : Hid (decide (m < n) = false) := by
        obtain rfl : z = -1 := by omega
        have h := HM.out
        have e : ((-1 : Int) + 1).toNat = 0 := rfl
        rw [e, Nat.pow_zero, Nat.div_one, Nat.div_one] at h
        have : decide (m < n) = false := by rw [h]; simp
        exact this
      clear HM
      have HQ := HB1.out q
      go_wp2
      go_ret
      exact ⟨by rw [HR.out]; rfl, HQ⟩
    · obtain ⟨j, rfl⟩ := Int.eq_ofNat_of_zero_le (show 0 ≤ z by omega)
      have hj : j < 5 := by omega
      have e : ((j : Int) + 1).toNat = j + 1 := by omega
      rw [e] at HM
      have cm := HA1.out.cell j hj
      have cn := HN1.out.cell j hj
      have HSame : Hid _ := word_same HM.out
      have HDif : Hid _ := word_differ HM.out
      have HQ : Hid (∀ k, Below w.heap.size w (w1.drewN k)) := HB1.out
      by_cases he : wordN m j = wordN n j
      · have HE : Hid _ := HSame.out he
        have t1 : ((wordN m j : Int) != (wordN n j : Int)) = false := by rw [he]; simp
        clear HSame HDif HM he e
        generalize (wordN m j : Int) = a at *
        generalize (wordN n j : Int) = b at *
        go_wp2
        go_quiet (fail)
        go_wp2
        go_roundw
        case rel => exact ⟨(j : Int) - 1, q + nq, by go_num, by omega, by omega, by first | rfl | rw [World.drewN_drewN], by rw [show ((j : Int) - 1 + 1).toNat = j by omega]; exact HE.out⟩
        case measure => simp [intOf]
      · have t1 : ((wordN m j : Int) != (wordN n j : Int)) = true := by simp; omega
        have HE : Hid (decide ((wordN m j : Int) < (wordN n j : Int)) = decide (m < n)) := by
          have h := HDif.out he
          have : decide ((wordN m j : Int) < (wordN n j : Int)) = decide (m < n) := by rw [← h]; simp
          exact this
        clear HSame HDif HM he e
        generalize (wordN m j : Int) = a at *
        generalize (wordN n j : Int) = b at *
        go_wp2
        go_quiet (fail)
        obtain ⟨q2, hq2⟩ : ∃ q2, (w1.drewN q).drewN nq = w1.drewN q2 := ⟨q + nq, by rw [World.drewN_drewN]⟩
        rw [hq2]
        clear hq2
        go_wp2
        go_quiet (fail)
        go_wp2
        go_ret
        refine ⟨by rw [← HE.out]; rfl, ?_⟩
        first | exact HQ.out _ | (rw [World.drewN_drewN]; exact HQ.out _)
end Go.Proofs.Ytmegmjhkjaejgaa.sk
