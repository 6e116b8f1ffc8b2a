/-
  Contracts of layer 13: takeAll.
-/
import Derived.Test.YtmegmjhkjaejgaaSkF
namespace Go.Proofs.Ytmegmjhkjaejgaa.sk
open Go.RowKit
set_option maxRecDepth 100000

theorem take_drop {f h : Nat → Nat} {l : List (Int × Int)} {k : Nat} (hk : k < l.length) (e : takeL f l = takeL h (l.drop k)) : takeL f l = if h l[k].1.toNat < l[k].2.toNat then none else takeL (setF h l[k].1.toNat (h l[k].1.toNat - l[k].2.toNat)) (l.drop (k + 1)) := by
  rw [e, List.drop_eq_getElem_cons hk, takeL_cons]
def TakeP (g : Nat) (f : Nat → Nat) (l : List (Int × Int)) (w : World) (e : Ending) (w' : World) : Prop :=
  Upd (fun k => k = g) w w' ∧ ((e = .returned (.bool false) ∧ Hid (takeL f l = none)) ∨ ∃ h, e = .returned (.bool true) ∧ Hid (takeL f l = some h ∧ CntAt w' g h (numF h) ∧ ∀ j, h j ≤ topC))
def MidT (g : Nat) (f : Nat → Nat) (l : List (Int × Int)) (k : Nat) (w wr : World) : Prop := ∃ h, takeL f l = takeL h (l.drop k) ∧ (∀ j, h j ≤ topC) ∧ CntAt wr g h (numF h) ∧ Upd (fun k => k = g) w wr
theorem num_keep {f : Nat → Nat} {i x : Nat} (hi : i < 1920) (h0 : f i ≠ 0) (h1 : x ≠ 0) : numF (setF f i x) = numF f := by
  have := numF_set (f := f) (i := i) (x := x) hi
  rw [if_neg h0, if_neg h1] at this
  omega
theorem num_less {f : Nat → Nat} {i : Nat} (hi : i < 1920) (h0 : f i ≠ 0) : numF (setF f i 0) + 1 = numF f := by
  have := numF_set (f := f) (i := i) (x := 0) hi
  rw [if_neg h0, if_pos rfl] at this
  omega
set_option maxHeartbeats 1000000 in
theorem takeAll_any (g : Nat) (f : Nat → Nat) (ad : Option Addr) (n c : Nat) (l : List (Int × Int)) (w : World) (hA : BarAt w ad n l) (hn : n ≤ maxLen) (hi : Bin l) (hx : ∀ b ∈ l, 0 ≤ b.1 ∧ b.1 < 1920 ∧ b.2 ≠ 0) (hg : ∀ a, ad = some a → 0 < n → a.block ≠ g) (hf : ∀ j, f j ≤ topC) (h : CntAt w g f (numF f)) :
    Calls Try.prog 37 #[.pointer (some ⟨g, 0, none⟩), .slice ad n c] w (TakeP g f l w) := by
  unfold maxLen at hn
  have HL : Hid (l.length = n) := hA.len
  have hlt0 := h.lt
  have HM : Hid (MidT g f l 0 w w) := ⟨f, rfl, hf, h, Upd.refl _ _⟩
  clear h hf
  go_enter Try.func37, Try.ntmps37
  go_wp2
  go_loopw [9] (fun t wr => ∃ (k : Nat), t = .int .i64 k ∧ k ≤ n ∧ Hid (MidT g f l k w wr)) (fun t _ => n - (intOf t).toNat)
  case atStart => exact ⟨0, rfl, by omega, HM⟩
  case round =>
    obtain ⟨k, rfl, hk, HK⟩ := hrel
    by_cases hlt : k < n
    · obtain ⟨h, hd, hb, hC, hu⟩ := HK.out
      have hsz := hu.size
      obtain ⟨b, off, rfl, hc⟩ := (hA.updN hu (fun a ha hp => hg a ha hp)).lies (by omega)
      have hkl : k < l.length := by rw [HL.out]; exact hlt
      obtain ⟨c0, c1⟩ := hc k hkl
      clear hc
      have hik := hi l[k] (List.getElem_mem hkl)
      have hxk := hx l[k] (List.getElem_mem hkl)
      have HD : Hid _ := take_drop hkl hd
      have hbg := hg ⟨b, off, none⟩ rfl (by omega)
      obtain ⟨x, hx⟩ : ∃ x, l[k] = x := ⟨_, rfl⟩
      rw [hx] at c0 c1 hik HD hxk
      obtain ⟨i, m⟩ := x
      simp only at c0 c1 hik HD hxk hbg
      obtain ⟨i1, i2, m1, m2⟩ := hik
      obtain ⟨x1, x2, x3⟩ := hxk
      clear hx hkl hd
      obtain ⟨p, rfl⟩ := Int.eq_ofNat_of_zero_le x1
      have hp : p < 1920 := by omega
      have hp' : (p : Int) < 1920 := by omega
      have hgw := hC.lt
      have d0 := hC.of_ p hp
      have fz := hC.free p
      have fzu := hC.free 1920
      have du := hC.used
      have hbp := hb p
      have hnh := numF_le h
      have HNK : Hid (∀ x, h p ≠ 0 → x ≠ 0 → numF (setF h p x) = numF h) := fun x => num_keep hp
      have HNL : Hid (h p ≠ 0 → numF (setF h p 0) + 1 = numF h) := num_less hp
      rw [Int.toNat_natCast] at HD
      obtain ⟨u, hu'⟩ : ∃ u, numF h = u := ⟨_, rfl⟩
      rw [hu'] at du hnh HNK HNL hC
      obtain ⟨y, hy⟩ : ∃ y, h p = y := ⟨_, rfl⟩
      rw [hy] at d0 HD hbp HNK HNL
      obtain ⟨Y, hY⟩ : ∃ Y : Int, (y : Int) = Y := ⟨_, rfl⟩
      rw [hY] at d0
      rw [topC_eq] at hbp
      have HC : Hid _ := hC
      have HU : Hid _ := hu
      have HY0 : Hid (h p = y) := hy
      have HHB : Hid _ := hb
      have y0 : 0 ≤ Y := by omega
      have y1 : Y ≤ 18446744073709551615 := by omega
      have hun : (u : Int) ≤ 1920 := by omega
      clear hu hu' hy hb hC hbp hnh
      by_cases hless : Y < m
      · have HE : Hid (takeL f l = none) := by
          have := HD.out
          rw [if_pos (by omega)] at this
          exact this
        clear hY HD HNK HNL
        go_wp2
        go_quiet (fail)
        go_wp2
        go_ret
        exact ⟨(HU.out.alloc _).drewN _, Or.inl ⟨rfl, HE.out⟩⟩
      · have hless' : ¬ Y < m := hless
        go_wp2
        go_quiet (fail)
        obtain ⟨w5, hw5⟩ : ∃ W, (wr.alloc (.cells #[.int .i64 (p : Int), .int .u64 m] 46)).drewN nq = W := ⟨_, rfl⟩
        rw [hw5]
        have u5 : Upd (fun _ => False) wr w5 := by rw [← hw5]; exact ((Upd.refl _ wr).alloc _).drewN _
        have e0 : w5.cell? ⟨wr.heap.size, 0, none⟩ = some (.int .i64 (p : Int)) := by rw [← hw5]; simp
        have e1 : w5.cell? ⟨wr.heap.size, 1, none⟩ = some (.int .u64 m) := by rw [← hw5]; simp
        have C5 := HC.out.upd u5 (fun h => h)
        have d5 := C5.of_ p hp
        rw [HY0.out, hY] at d5
        have f5 := C5.free p
        have hz5 := u5.size
        clear hw5
        go_wp2
        go_region
        obtain ⟨w6, hw6⟩ : ∃ W, (w5.setCell ⟨g, p, none⟩ (.int .u64 (Y - m))).drew = W := ⟨_, rfl⟩
        rw [hw6]
        obtain ⟨z, hz⟩ : ∃ z : Nat, y - m.toNat = z := ⟨_, rfl⟩
        have hzY : Y - m = (z : Int) := by omega
        have C6 : CntAt w6 g (setF h p z) u := by
          rw [← hw6, hzY]
          exact (C5.set hp z).upd ((Upd.refl (fun _ => False) _).drew) (fun h => h)
        have u6 : Upd (fun k => k = g) w5 w6 := by rw [← hw6]; exact (upd_one w5 g p _).drew
        have e6 : w6.cell? ⟨wr.heap.size, 0, none⟩ = some (.int .i64 (p : Int)) := cell_upd u6 e0 (by show ¬ wr.heap.size = g; omega)
        have d6 := C6.of_ p hp
        rw [setF_same] at d6
        obtain ⟨Z, hZ⟩ : ∃ Z : Int, (z : Int) = Z := ⟨_, rfl⟩
        rw [hZ] at d6
        have c6 := C6.used
        have f6 := C6.free 1920
        have hz6 := u6.size
        have HB6 : Hid (∀ j, setF h p z j ≤ topC) := by
          intro j
          by_cases hj : j = p
          · subst hj
            rw [setF_same]
            have := HHB.out j
            rw [HY0.out] at this
            omega
          · rw [setF_other hj]; exact HHB.out j
        have HT : Hid (takeL f l = takeL (setF h p z) (l.drop (k + 1))) := by
          have := HD.out
          rw [if_neg (by omega), hz] at this
          exact this
        have HU6 : Hid (Upd (fun k => k = g) w w6) := (HU.out.trans u5 (fun _ _ h => h.elim)).trans u6 (fun _ _ h => h)
        have hy0 : y ≠ 0 := by omega
        have hu1 : z = 0 → 1 ≤ u := fun h0 => by have := HNL.out hy0; omega
        have HN0 : Hid (z = 0 → numF (setF h p z) = u - 1) := fun h0 => by have := HNL.out hy0; rw [h0]; omega
        have HN1 : Hid (z ≠ 0 → numF (setF h p z) = u) := fun h0 => HNK.out z hy0 h0
        have HC6 : Hid _ := C6
        clear hw6 C5 C6 u5 u6 d5 f5 e0 e1 HD HNL HNK hY hzY hz hy0 hless hless' HHB HC HU HY0 d0 du fz fzu c0 c1
        by_cases hZ0 : Z = 0
        · subst hZ0
          have hz0 : z = 0 := by omega
          have hu1' : (1 : Int) ≤ (u : Int) := by have := hu1 hz0; omega
          have HN : Hid _ := HN0.out hz0
          clear hZ hz0 hu1 HN0 HN1
          go_wp2
          go_quiet (fail)
          go_wp2
          go_roundw
          case rel =>
            refine ⟨k + 1, by go_num, by omega, ?_⟩
            refine ⟨setF h p z, HT.out, HB6.out, ?_, ?_⟩
            · have := (HC6.out.upd ((Upd.refl (fun _ => False) _).drewN nq) (fun h => h)).setU (u - 1)
              rw [HN.out]
              rw [show ((u - 1 : Nat) : Int) = (u : Int) - 1 by omega] at this
              exact this
            · exact (HU6.out.drewN _).setCell (p := ⟨g, 1920, none⟩) (fun _ => rfl) _
          case measure => simp [intOf]; omega
        · have hz0 : z ≠ 0 := by omega
          have HN : Hid _ := HN1.out hz0
          have hq : (Z == 0) = false := by simpa using hZ0
          have hq' : decide (Z = 0) = false := by simpa using hZ0
          clear hZ hz0 hu1 HN0 HN1 hZ0
          go_wp2
          go_quiet (fail)
          go_wp2
          go_roundw
          case rel =>
            refine ⟨k + 1, by go_num, by omega, ?_⟩
            refine ⟨setF h p z, HT.out, HB6.out, ?_, ?_⟩
            · have := HC6.out.upd ((Upd.refl (fun _ => False) _).drewN nq) (fun h => h)
              rw [HN.out]
              exact this
            · exact HU6.out.drewN _
          case measure => simp [intOf]; omega
    · have HE : Hid (TakeP g f l w (.returned (.bool true)) wr) := by
        obtain ⟨h, hd, hb, hC, hu⟩ := HK.out
        rw [List.drop_eq_nil_of_le (by rw [HL.out]; omega)] at hd
        exact ⟨hu, Or.inr ⟨h, rfl, hd, hC, hb⟩⟩
      go_wp2
      go_ret
      exact HE.out
end Go.Proofs.Ytmegmjhkjaejgaa.sk
