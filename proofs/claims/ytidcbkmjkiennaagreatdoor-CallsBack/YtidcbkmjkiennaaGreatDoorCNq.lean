/-
  Merged: CN, CQ.
-/
import Derived.Test.YtidcbkmjkiennaaGreatDoorCKq
import Derived.Test.YtidcbkmjkiennaaGreatDoorCEq
import Derived.Test.YtidcbkmjkiennaaGreatDoorSlAq
namespace Go.Proofs.YtidcbkmjkiennaaGreatDoor.sk
open Go Go.RowKit
set_option maxRecDepth 100000

theorem chkE_zero (l : List (Int × Int)) : (chkE l == 0) = chkF (-1) l := by
  cases h : chkF (-1) l
  · rw [chkE_no h]; rfl
  · rw [chkE_ok h]; rfl
set_option maxHeartbeats 1000000 in
theorem may_any (ad : Option Addr) (n cp : Nat) (l : List (Int × Int)) (c e k : Nat) (w : World) (h : InAt w ad n l) :
    Calls Tryz.prog 29 #[talV c e k ad n cp] w fun x w' => x = .returned (.bool (chkF (-1) l)) ∧ Below w.heap.size w w' := by
  have B1 : ∀ o, Below w.heap.size w (w.alloc o) := fun o => (Below.refl _ _).alloc (Nat.le_refl _) _
  have CK := fun W (hW : Below w.heap.size w W) => refCheck_any ad n cp l W (h.below hW).at_ h.len h.bin
  have HZ : Hid _ := chkE_zero l
  unfold talV talL
  clear h
  generalize chkE l = E at *
  generalize (hi64 c : Int) = x0 at *
  generalize (lo64 c : Int) = x1 at *
  generalize (hi64 e : Int) = x2 at *
  generalize (lo64 e : Int) = x3 at *
  generalize (hi64 k : Int) = x4 at *
  generalize (lo64 k : Int) = x5 at *
  go_enter Tryz.func29, Tryz.ntmps29
  go_wp2_with (go_at_call 48; (with_reducible refine (CK _ (B1 _)).mono ?_); clear CK; rintro x w' ⟨rfl, q, rfl⟩)
  go_ret
  exact ⟨by rw [← HZ.out]; rfl, below_drewN (B1 _) (B1 _).size q⟩
end Go.Proofs.YtidcbkmjkiennaaGreatDoor.sk

namespace Go.Proofs.YtidcbkmjkiennaaGreatDoor.sk
open Go Go.RowKit
set_option maxRecDepth 100000

/-- What is known where no number is the greatest. -/
def Few (c e k : Nat) (l : List (Int × Int)) : Prop := (∀ b ∈ l, b.2 ≠ 18446744073709551615) ∧ c ≠ top128 ∧ e ≠ top128 ∧ k ≠ top128
theorem top_iff (n : Nat) : decide ((hi64 n : Int) = 18446744073709551615 ∧ (lo64 n : Int) = 18446744073709551615) = decide (n = top128) := by
  have a := hilo n
  have b := lo64_lt n
  rw [Bool.eq_iff_iff]
  simp only [decide_eq_true_eq]
  rw [top128_eq] at *
  omega
theorem eq_top (n : Nat) (W : World) : (binOp .eql 38 (.agg #[.int .u64 (hi64 n : Int), .int .u64 (lo64 n : Int)]) (.agg #[.int .u64 18446744073709551615, .int .u64 18446744073709551615])).run Tryz.prog W = .ok (.bool (decide (n = top128))) W := by
  rw [run_eqlS (eqI_nat 9998 _ _ _ _ W), top_iff n]
/-- What most tells. -/
def MostP (c e k : Nat) (l : List (Int × Int)) (w : World) (x : Ending) (w' : World) : Prop := ∃ b, x = .returned (.bool b) ∧ Hid (b = false → Few c e k l) ∧ Below w.heap.size w w'
set_option maxHeartbeats 2000000 in
theorem most_any (ao : Option Addr) (N cp : Nat) (f : Nat → Nat) (c e k : Nat) (w : World) (h : SkAt w ao N f) :
    Calls Tryz.prog 30 #[talV c e k ao N cp] w (MostP c e k (barsF f) w) := by
  have Q1 := eq_top c
  have Q2 := eq_top e
  have Q3 := eq_top k
  have hN := h.few
  have hN' : (N : Int) ≤ 1920 := by omega
  have HLN : Hid _ := h.len
  have HI : Hid _ := h
  obtain ⟨p1, h1⟩ : ∃ p, decide (c = top128) = p := ⟨_, rfl⟩
  obtain ⟨p2, h2⟩ : ∃ p, decide (e = top128) = p := ⟨_, rfl⟩
  obtain ⟨p3, h3⟩ : ∃ p, decide (k = top128) = p := ⟨_, rfl⟩
  simp only [h1] at Q1
  simp only [h2] at Q2
  simp only [h3] at Q3
  have H123 : Hid (p1 = false → p2 = false → p3 = false → c ≠ top128 ∧ e ≠ top128 ∧ k ≠ top128) := fun e1 e2 e3 => by
    rw [e1] at h1; rw [e2] at h2; rw [e3] at h3
    simp at h1 h2 h3
    exact ⟨h1, h2, h3⟩
  have B2 : Hid (∀ o1 o2 : Obj, Below w.heap.size w ((w.alloc o1).alloc o2)) := fun o1 o2 => (((Below.refl _ _).alloc (Nat.le_refl _) _).alloc (by simp) _)
  have HR : Hid (∀ b V, (b = false → Few c e k (barsF f)) → Below w.heap.size w V → MostP c e k (barsF f) w (.returned (.bool b)) V) := fun b V h1 h2 => ⟨b, rfl, h1, h2⟩
  unfold talV talL
  generalize MostP c e k (barsF f) w = R at *
  clear h1 h2 h3 h hN
  generalize (hi64 c : Int) = x0 at *
  generalize (lo64 c : Int) = x1 at *
  generalize (hi64 e : Int) = x2 at *
  generalize (lo64 e : Int) = x3 at *
  generalize (hi64 k : Int) = x4 at *
  generalize (lo64 k : Int) = x5 at *
  obtain ⟨V, hV⟩ : ∃ V, (w.alloc (.cells #[.int .u64 x0, .int .u64 x1, .int .u64 x2, .int .u64 x3, .int .u64 x4, .int .u64 x5, .slice ao N cp] 41)).alloc (.cells #[.int .u64 18446744073709551615, .int .u64 18446744073709551615] 38) = V := ⟨_, rfl⟩
  have HBV : Hid (Below w.heap.size w V) := by rw [← hV]; exact B2.out _ _
  have v0 : V.cell? ⟨w.heap.size, 0, none⟩ = some (.int .u64 x0) := by rw [← hV]; simp [go_sem, World.cell?_alloc_past]
  have v1 : V.cell? ⟨w.heap.size, 1, none⟩ = some (.int .u64 x1) := by rw [← hV]; simp [go_sem, World.cell?_alloc_past]
  have v2 : V.cell? ⟨w.heap.size, 2, none⟩ = some (.int .u64 x2) := by rw [← hV]; simp [go_sem, World.cell?_alloc_past]
  have v3 : V.cell? ⟨w.heap.size, 3, none⟩ = some (.int .u64 x3) := by rw [← hV]; simp [go_sem, World.cell?_alloc_past]
  have v4 : V.cell? ⟨w.heap.size, 4, none⟩ = some (.int .u64 x4) := by rw [← hV]; simp [go_sem, World.cell?_alloc_past]
  have v5 : V.cell? ⟨w.heap.size, 5, none⟩ = some (.int .u64 x5) := by rw [← hV]; simp [go_sem, World.cell?_alloc_past]
  have v6 : V.cell? ⟨w.heap.size, 6, none⟩ = some (.slice ao N cp) := by rw [← hV]; simp [go_sem, World.cell?_alloc_past]
  have y0 : V.cell? ⟨w.heap.size + 1, 0, none⟩ = some (.int .u64 18446744073709551615) := by rw [← hV]; simp [go_sem]
  have y1 : V.cell? ⟨w.heap.size + 1, 1, none⟩ = some (.int .u64 18446744073709551615) := by rw [← hV]; simp [go_sem]
  go_enter Tryz.func30, Tryz.ntmps30
  go_wp2
  clear hV
  go_loop [4] (fun t => ∃ (j : Nat), t = .int .i64 j ∧ j ≤ N ∧ Hid (∀ i (h : i < (barsF f).length), i < j → (barsF f)[i].2 ≠ 18446744073709551615)) (fun t => N - (intOf t).toNat)
  case atStart => exact ⟨0, rfl, by omega, fun i h h0 => by omega⟩
  case round =>
    obtain ⟨j, rfl, hj, HJ⟩ := hrel
    by_cases hlt : j < N
    · obtain ⟨b, off, hao, hc⟩ := (HI.out.below HBV.out).at_.at_.lies (by omega)
      have hjl : j < (barsF f).length := by rw [← HLN.out]; exact hlt
      obtain ⟨c0, c1⟩ := hc j hjl
      have HX : Hid ((barsF f)[j].2 ≠ 18446744073709551615 → ∀ i (h : i < (barsF f).length), i < j + 1 → (barsF f)[i].2 ≠ 18446744073709551615) := fun h0 i h hi => by
        by_cases e : i = j
        · subst e; exact h0
        · exact HJ.out i h (by omega)
      generalize (barsF f)[j] = x at c0 c1 HX
      obtain ⟨z1, z2⟩ := x
      simp only at c0 c1 HX
      subst hao
      clear hc HJ hjl
      by_cases h0 : z2 = 18446744073709551615
      · subst h0
        clear HX
        go_wp2
        exact HR.out true _ (fun h => by cases h) HBV.out
      · have h0' : (z2 == 18446744073709551615) = false := by simpa using h0
        have HN : Hid _ := HX.out h0
        clear HX h0
        go_wp2
        go_round
        case rel => exact ⟨j + 1, by go_num, by omega, HN⟩
        case measure => simp [intOf]; omega
    · have HF : Hid (∀ b ∈ barsF f, b.2 ≠ 18446744073709551615) := fun b hb => by
        obtain ⟨i, hi, rfl⟩ := List.mem_iff_getElem.mp hb
        exact HJ.out i hi (by have := HLN.out; omega)
      clear HJ
      cases p1
      · cases p2
        · cases p3
          · go_wp2
            exact HR.out false _ (fun _ => ⟨HF.out, H123.out (by simp) (by simp) (by simp)⟩) HBV.out
          · go_wp2
            exact HR.out true _ (fun h => by cases h) HBV.out
        · go_wp2
          exact HR.out true _ (fun h => by cases h) HBV.out
      · go_wp2
        exact HR.out true _ (fun h => by cases h) HBV.out
end Go.Proofs.YtidcbkmjkiennaaGreatDoor.sk
