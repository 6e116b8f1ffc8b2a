/-
  Contracts of layer 13: plus, below, Count.
-/
import Derived.Test.YtmegmjhkjaejgaaSkH
namespace Go.Proofs.Ytmegmjhkjaejgaa.sk
open Go.RowKit
set_option maxRecDepth 100000

def hi64 (n : Nat) : Nat := n / 18446744073709551616
def lo64 (n : Nat) : Nat := n % 18446744073709551616
theorem lo64_lt (n : Nat) : lo64 n < 18446744073709551616 := Nat.mod_lt _ (by omega)
theorem hi64_lt {n : Nat} (h : n < 340282366920938463463374607431768211456) : hi64 n < 18446744073709551616 := by unfold hi64; omega
theorem hilo (n : Nat) : n = hi64 n * 18446744073709551616 + lo64 n := by unfold hi64 lo64; omega
theorem plus_lo (n m : Nat) : (lo64 n + m) % 18446744073709551616 = lo64 (n + m) := by unfold lo64; omega
theorem plus_hi (n m : Nat) : hi64 n + (lo64 n + m) / 18446744073709551616 = hi64 (n + m) := by unfold hi64 lo64; omega
/-- A number of 128 bits. -/
def natV (n : Nat) : Value := .agg #[.int .u64 (hi64 n : Int), .int .u64 (lo64 n : Int)]
theorem ret_nat {a b c d : Int} (h1 : a = c) (h2 : b = d) : Ending.returned (.agg #[.int .u64 a, .int .u64 b]) = .returned (.agg #[.int .u64 c, .int .u64 d]) := by rw [h1, h2]
set_option maxHeartbeats 400000 in
theorem plus_any (n m : Nat) (hm : m < 18446744073709551616) (h : n + m < 340282366920938463463374607431768211456) (w : World) :
    Calls Try.prog 33 #[natV n, .int .u64 (m : Int)] w fun e w' => e = .returned (natV (n + m)) ∧ Below w.heap.size w w' := by
  have e1 := plus_lo n m
  have e2 := plus_hi n m
  have b1 := hi64_lt h
  have b2 := lo64_lt n
  have b3 := hi64_lt (n := n) (by omega)
  unfold natV
  have A := add64_run (lo64 n) m
  rw [e1] at A
  obtain ⟨o, ho⟩ : ∃ o, (lo64 n + m) / 18446744073709551616 = o := ⟨_, rfl⟩
  rw [ho] at A e2
  obtain ⟨x, hx⟩ : ∃ x : Int, (lo64 n : Int) = x := ⟨_, rfl⟩
  obtain ⟨y, hy⟩ : ∃ y : Int, (hi64 n : Int) = y := ⟨_, rfl⟩
  obtain ⟨p, hp⟩ : ∃ p : Int, (lo64 (n + m) : Int) = p := ⟨_, rfl⟩
  obtain ⟨q, hq⟩ : ∃ q : Int, (hi64 (n + m) : Int) = q := ⟨_, rfl⟩
  obtain ⟨z, hz⟩ : ∃ z : Int, (o : Int) = z := ⟨_, rfl⟩
  rw [hx, hp, hz] at A
  rw [hx, hy, hp, hq]
  have HQ : Hid (y + z = q) := by show y + z = q; omega
  have y0 : 0 ≤ y := by omega
  have z0 : 0 ≤ z := by omega
  have yz : y + z < 18446744073709551616 := by have := HQ.out; omega
  clear e1 e2 b1 b2 b3 ho hx hy hp hq hz
  go_enter Try.func33, Try.ntmps33
  go_wp2_with (simp only [A])
  go_returns
  exact ⟨ret_nat HQ.out rfl, ((Below.refl _ _).alloc (Nat.le_refl _) _).alloc (by simp) _⟩
theorem below_iff (n m : Nat) : decide (n < m) = (decide ((hi64 n : Int) < (hi64 m : Int)) || (decide ((hi64 n : Int) = (hi64 m : Int)) && decide ((lo64 n : Int) < (lo64 m : Int)))) := by
  have a := hilo n
  have b := hilo m
  have c := lo64_lt n
  have d := lo64_lt m
  rw [Bool.eq_iff_iff]
  simp only [decide_eq_true_eq, Bool.or_eq_true, Bool.and_eq_true]
  omega
def belB (n m : Nat) : Bool := decide (n < m)
set_option maxHeartbeats 400000 in
theorem below_any (n m : Nat) (w : World) :
    Calls Try.prog 42 #[natV n, natV m] w fun e w' => e = .returned (.bool (belB n m)) ∧ Below w.heap.size w w' := by
  have E := below_iff n m
  unfold natV
  obtain ⟨x, hx⟩ : ∃ x : Int, (lo64 n : Int) = x := ⟨_, rfl⟩
  obtain ⟨y, hy⟩ : ∃ y : Int, (hi64 n : Int) = y := ⟨_, rfl⟩
  obtain ⟨p, hp⟩ : ∃ p : Int, (lo64 m : Int) = p := ⟨_, rfl⟩
  obtain ⟨q, hq⟩ : ∃ q : Int, (hi64 m : Int) = q := ⟨_, rfl⟩
  rw [hx, hy, hp, hq] at E
  rw [hx, hy, hp, hq]
  have HE : Hid (belB n m = _) := E
  clear E hx hy hp hq
  go_enter Try.func42, Try.ntmps42
  go_wp2
  all_goals go_ret
  all_goals refine ⟨congrArg (fun b => Ending.returned (.bool b)) ?_, ((Below.refl _ _).alloc (Nat.le_refl _) _).alloc (by simp) _⟩
  · rename_i h1 h2
    rw [HE.out, h2]
    simp
  · rename_i h1 h2
    rw [HE.out]
    have e : decide (y = q) = false := by simpa using h2
    rw [e]
    simp
  · rename_i h1
    rw [HE.out]
    have e : decide (y < q) = true := by simpa using h1
    rw [e]
    simp
theorem sum_lt {l : List (Int × Int)} (h : chkF (-1) l = true) (hi : Bin l) : sumB l < 340282366920938463463374607431768211456 := by
  have a := sumB_le (fun b hb => (hi b hb).2.2.2)
  have b := chk_len (by omega) h
  have c : l.length ≤ 1920 := by omega
  have d := Nat.mul_le_mul_right 18446744073709551615 c
  omega
theorem sumB_mono (l : List (Int × Int)) (k : Nat) : sumB (l.take k) ≤ sumB l := by
  have h : sumB l = sumB (l.take k) + sumB (l.drop k) := by
    unfold sumB
    rw [← List.sum_append, ← List.map_append, List.take_append_drop]
  omega
def CountP (l : List (Int × Int)) (w : World) (e : Ending) (w' : World) : Prop := e = .returned (.tuple #[natV (sumB l), .int .i64 0]) ∧ Below w.heap.size w w'
/-- A number of 128 bits lies here. -/
structure NatAt (w : World) (b : Nat) (x y : Int) : Prop where
  blk : w.heap[b]? = some (.cells #[.int .u64 x, .int .u64 y] 42 (0, 0))
theorem NatAt.set {w : World} {b : Nat} {x y : Int} (h : NatAt w b x y) (p q : Int) : NatAt ((w.setCell ⟨b, 0, none⟩ (.int .u64 p)).setCell ⟨b, 1, none⟩ (.int .u64 q)) b p q := by
  have := set_block (set_block h.blk 0 (.int .u64 p)) 1 (.int .u64 q)
  exact ⟨by simpa using this⟩
theorem NatAt.upd {S : Nat → Prop} {w w' : World} {b : Nat} {x y : Int} (h : NatAt w b x y) (hu : Upd S w w') (hS : ¬ S b) : NatAt w' b x y := ⟨(hu.block b (lt_of_block h.blk) hS).trans h.blk⟩
theorem NatAt.below {w w' : World} {b : Nat} {x y : Int} (h : NatAt w b x y) (hb : Below w.heap.size w w') : NatAt w' b x y := ⟨(hb.block b (lt_of_block h.blk)).trans h.blk⟩
theorem NatAt.c0 {w : World} {b : Nat} {x y : Int} (h : NatAt w b x y) : w.cell? ⟨b, 0, none⟩ = some (.int .u64 x) := blk_cell h.blk 0 rfl
theorem NatAt.c1 {w : World} {b : Nat} {x y : Int} (h : NatAt w b x y) : w.cell? ⟨b, 1, none⟩ = some (.int .u64 y) := blk_cell h.blk 1 rfl
theorem NatAt.free {w : World} {b : Nat} {x y : Int} (h : NatAt w b x y) (j : Nat) : w.frozen? ⟨b, j, none⟩ = false := blk_free h.blk j
theorem NatAt.new (w : World) (x y : Int) : NatAt (w.alloc (.cells #[.int .u64 x, .int .u64 y] 42)) w.heap.size x y := ⟨heap_alloc_new w _⟩
theorem NatAt.zero (w : World) (l : List (Int × Int)) : NatAt (w.alloc (.cells #[.int .u64 0, .int .u64 0] 42)) w.heap.size (hi64 (sumB (l.take 0)) : Int) (lo64 (sumB (l.take 0)) : Int) := by
  rw [List.take_zero]
  exact NatAt.new w 0 0
set_option maxHeartbeats 400000 in
theorem count_no (ad : Option Addr) (n c : Nat) (l : List (Int × Int)) (w : World) (hI : InAt w ad n l) (hc : chkF (-1) l = false) :
    Calls Try.prog 12 #[.slice ad n c] w fun e w' => e = .returned (.tuple #[natV 0, .int .i64 131]) ∧ Below w.heap.size w w' := by
  have b0 := (Below.refl w.heap.size w).alloc (Nat.le_refl _) (.cells #[.int .u64 0, .int .u64 0] 42)
  have hI1 := hI.below b0
  have K := check_any ad n c l _ hI1.at_ hI1.len hI1.bin
  rw [chkE_no hc] at K
  have HB0 : Hid _ := b0
  clear b0 hI1
  go_enter Try.func12, Try.ntmps12
  go_wp2_with (go_at_call 17; (with_reducible refine K.mono ?_); clear K; rintro e w1 ⟨rfl, b1⟩; have N1 := (NatAt.new w 0 0).below b1; have c0 := N1.c0; have c1 := N1.c1; have f0 := N1.free 0; have f1 := N1.free 1; have HN1 : Hid _ := N1; clear N1)
  have N2 := HN1.out.set 0 0
  have u2 := ((Upd.ofBelow (S := fun k => w.heap.size ≤ k) (HB0.out.trans (b1.mono (by simp))) (fun _ _ h => h)).setCell (p := ⟨w.heap.size, 0, none⟩) (fun _ => Nat.le_refl _) (.int .u64 0)).setCell (p := ⟨w.heap.size, 1, none⟩) (fun _ => Nat.le_refl _) (.int .u64 0)
  have d0 := N2.c0
  have d1 := N2.c1
  refine bodyPost_ret (v := .tuple #[natV 0, .int .i64 131]) (by simp [results, Try.results12, go_sem, d0, d1]; try rfl) rfl ⟨rfl, u2.below (Nat.le_refl _) (fun k hk h => by omega)⟩
set_option maxHeartbeats 1000000 in
theorem count_ok (ad : Option Addr) (n c : Nat) (l : List (Int × Int)) (w : World) (hI : InAt w ad n l) (hc : chkF (-1) l = true) :
    Calls Try.prog 12 #[.slice ad n c] w (CountP l w) := by
  have b0 := (Below.refl w.heap.size w).alloc (Nat.le_refl _) (.cells #[.int .u64 0, .int .u64 0] 42)
  have hI1 := hI.below b0
  have K := check_any ad n c l _ hI1.at_ hI1.len hI1.bin
  rw [chkE_ok hc] at K
  have hn := hI.len
  unfold maxLen at hn
  have HL : Hid (l.length = n) := hI.at_.len
  have HS : Hid _ := sum_lt hc hI.bin
  have HB0 : Hid _ := b0
  have HI : Hid _ := hI
  clear b0 hI1 hI hc
  go_enter Try.func12, Try.ntmps12
  go_wp2_with (go_at_call 17; (with_reducible refine K.mono ?_); clear K; rintro e w1 ⟨rfl, b1⟩)
  have hw1 : w.heap.size + 1 ≤ w1.heap.size := by have := b1.size; simpa using this
  have HN1 : Hid _ := (NatAt.new w 0 0).below b1
  have HI1 : Hid _ := HI.out.below (HB0.out.trans (b1.mono (by simp)))
  have HB1 : Hid _ := HB0.out.trans (b1.mono (by simp))
  clear b1
  go_loopw [16] (fun t wr => ∃ (k : Nat), t = .int .i64 k ∧ k ≤ n ∧ Hid (NatAt wr w1.heap.size (hi64 (sumB (l.take k)) : Int) (lo64 (sumB (l.take k)) : Int)) ∧ Hid (Upd (fun i => i = w1.heap.size) (w1.alloc (.cells #[.int .u64 0, .int .u64 0] 42)) wr)) (fun t _ => n - (intOf t).toNat)
  case atStart => exact ⟨0, rfl, by omega, NatAt.zero w1 l, Upd.refl _ _⟩
  case round =>
    obtain ⟨k, rfl, hk, HN, HU⟩ := hrel
    have hsz : w1.heap.size + 1 ≤ wr.heap.size := by have := HU.out.size; simpa using this
    by_cases hlt : k < n
    · have hIr : InAt wr ad n l := (HI1.out.upd ((Upd.refl (fun _ => False) w1).alloc _) (fun _ _ h => h)).updN HU.out (fun a ha hp => Nat.ne_of_lt (HI1.out.lt a ha hp))
      obtain ⟨b, off, rfl, hc⟩ := hIr.at_.lies (by omega)
      have hkl : k < l.length := by rw [HL.out]; exact hlt
      obtain ⟨c0, c1⟩ := hc k hkl
      clear hc
      have hik := HI.out.bin l[k] (List.getElem_mem hkl)
      have HT : Hid _ := sumB_take l k hkl
      have hle := sumB_mono l (k + 1)
      rw [HT.out] at hle
      obtain ⟨x, hx⟩ : ∃ x, l[k] = x := ⟨_, rfl⟩
      rw [hx] at c0 c1 hik HT hle
      obtain ⟨i, m⟩ := x
      simp only at c0 c1 hik HT hle
      obtain ⟨i1, i2, m1, m2⟩ := hik
      obtain ⟨q, rfl⟩ := Int.eq_ofNat_of_zero_le m1
      rw [Int.toNat_natCast] at HT hle
      obtain ⟨s, hs⟩ : ∃ s, sumB (l.take k) = s := ⟨_, rfl⟩
      rw [hs] at HT hle HN
      have P := plus_any s q (by omega) (by have := HS.out; omega)
      clear hx hkl hle hs m1 m2 i1 i2 hIr
      have uw : Upd (fun _ => False) wr (wr.alloc (.cells #[.int .i64 i, .int .u64 (q : Int)] 46)) := (Upd.refl _ wr).alloc _
      have HNW : Hid _ := HN.out.upd uw (fun h => h)
      have n0 := HNW.out.c0
      have n1 := HNW.out.c1
      unfold natV at P
      generalize (hi64 s : Int) = X at P n0 HN HNW
      generalize (lo64 s : Int) = Y at P n1 HN HNW
      go_wp2_with (go_at_call 33; (with_reducible refine (P _).mono ?_); clear P; rintro e w2 ⟨rfl, b2⟩
                   have N2 := HNW.out.below b2
                   have f0 := N2.free 0
                   have f1 := N2.free 1
                   have m0 := N2.c0
                   have m1 := N2.c1
                   have HN2 : Hid _ := N2
                   clear N2)
      go_roundw
      case rel =>
        refine ⟨k + 1, by go_num, by omega, ?_, ?_⟩
        · show NatAt _ _ _ _
          rw [HT.out]
          exact HN2.out.set _ _
        · exact ((((HU.out.alloc _).trans (Upd.ofBelow (S := fun _ => False) b2 (fun i h1 h2 => by omega)) (fun _ _ h => h.elim)).setCell (p := ⟨w1.heap.size, 0, none⟩) (fun _ => rfl) _).setCell (p := ⟨w1.heap.size, 1, none⟩) (fun _ => rfl) _)
      case measure => simp [intOf]; omega
    · have hT : sumB (l.take k) = sumB l := by rw [List.take_of_length_le (by rw [HL.out]; omega)]
      have hN := HN.out
      rw [hT] at hN
      have ua : Upd (fun _ => False) w1 (w1.alloc (.cells #[.int .u64 0, .int .u64 0] 42)) := (Upd.refl _ w1).alloc _
      have hR := (HN1.out.upd ua (fun h => h)).upd HU.out (show ¬ w.heap.size = w1.heap.size by omega)
      have n0 := hN.c0
      have n1 := hN.c1
      have r0 := hR.c0
      have r1 := hR.c1
      have g0 := hR.free 0
      have g1 := hR.free 1
      have HR : Hid _ := hR
      have HV : Hid (natV (sumB l) = .agg #[.int .u64 (hi64 (sumB l) : Int), .int .u64 (lo64 (sumB l) : Int)]) := rfl
      clear hN hR HN hT ua HN1
      unfold CountP
      generalize (hi64 (sumB l) : Int) = X at n0 HV
      generalize (lo64 (sumB l) : Int) = Y at n1 HV
      have hsz' : w.heap.size + 2 ≤ wr.heap.size := by omega
      go_wp2
      have N2 := HR.out.set X Y
      have d0 := N2.c0
      have d1 := N2.c1
      have u1 := (Upd.ofBelow (S := fun k => w.heap.size ≤ k) HB1.out (fun _ _ h => h)).alloc (.cells #[.int .u64 0, .int .u64 0] 42)
      have u2 := ((u1.trans HU.out (fun i hi h => by show w.heap.size ≤ i; omega)).setCell (p := ⟨w.heap.size, 0, none⟩) (fun _ => Nat.le_refl _) (.int .u64 X)).setCell (p := ⟨w.heap.size, 1, none⟩) (fun _ => Nat.le_refl _) (.int .u64 Y)
      refine bodyPost_ret (v := .tuple #[.agg #[.int .u64 X, .int .u64 Y], .int .i64 0]) (by simp [results, Try.results12, go_sem, d0, d1]; try rfl) rfl ⟨by rw [HV.out], u2.below (Nat.le_refl _) (fun k hk h => by omega)⟩
end Go.Proofs.Ytmegmjhkjaejgaa.sk
