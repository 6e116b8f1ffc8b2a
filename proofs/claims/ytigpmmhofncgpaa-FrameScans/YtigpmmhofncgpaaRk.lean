/-
  Contracts: the reference's Head, the long case.
-/
import Derived.Test.YtigpmmhofncgpaaRj
import Derived.Deep.RegionHeld3
import Derived.Deep.RegionWith
import Derived.BigQuiet
import Derived.Deep.CutBlock
namespace Go.Proofs.Ytigpmmhofncgpaa
open Go.RowKit
set_option maxRecDepth 100000

theorem sumI_four (a b c d : Int) (ha : 0 ≤ a ∧ a < 256) (hb : 0 ≤ b ∧ b < 256) (hc : 0 ≤ c ∧ c < 256) (hd : 0 ≤ d ∧ d < 256) : (sumI [a, b, c, d] : Int) = a + b * 256 + c * 65536 + d * 16777216 := by
  have e : numI [a, b, c, d] = d.toNat + 256 * c.toNat + 65536 * b.toNat + 16777216 * a.toNat := by
    unfold numI
    simp only [List.foldl_cons, List.foldl_nil]
    omega
  unfold sumI
  rw [e, rev4 _ _ _ _ (by omega) (by omega) (by omega)]
  omega
theorem part_four (K : List Int) (i : Nat) (h : i + 4 ≤ K.length) : part K i 4 = [K.getD i 0, K.getD (i + 1) 0, K.getD (i + 2) 0, K.getD (i + 3) 0] := by
  unfold part
  refine List.ext_getElem (by simp; omega) fun j h1 h2 => ?_
  simp only [List.length_cons, List.length_nil] at h2
  match j, h2 with
  | 0, _ => simp [List.getD, List.getElem?_eq_getElem (show i < K.length by omega)]
  | 1, _ => simp [List.getD, List.getElem?_eq_getElem (show i + 1 < K.length by omega)]
  | 2, _ => simp [List.getD, List.getElem?_eq_getElem (show i + 2 < K.length by omega)]
  | 3, _ => simp [List.getD, List.getElem?_eq_getElem (show i + 3 < K.length by omega)]
theorem byte_at {K : List Int} (hK : ByteL K) (i : Nat) (h : i < K.length) : 0 ≤ K.getD i 0 ∧ K.getD i 0 < 256 :=
  hK _ (by rw [List.getD, List.getElem?_eq_getElem h]; exact List.getElem_mem h)

set_option maxHeartbeats 2000000 in
theorem refHead_long (b o n cap : Nat) (K : List Int) (w : World) (h : Holds w (some ⟨b, o, none⟩) n K) (hK : ByteL K) (hn : 24 ≤ n) (hcap : n ≤ cap) (r : Value) (hr : headR K r) :
    Calls Try.prog 14 #[.slice (some ⟨b, o, none⟩) n cap] w fun e w' => e = .returned r ∧ Below w.heap.size w w' := by
  have hz : ¬ ((n : Int) < 24) := by omega
  have hl := h.len
  have hz24 : (24 : Int) ≤ (n : Int) := by omega
  have hc24 : (24 : Int) ≤ (cap : Int) := by omega
  have hc12 : (12 : Int) ≤ (cap : Int) := by omega
  have hc16 : (16 : Int) ≤ (cap : Int) := by omega
  have hn3 : (3 : Int) < (n : Int) := by omega
  have hc4n : ¬ cap = 4 := by omega
  have hc12n : ¬ cap = 12 := by omega
  have hb1 : Below w.heap.size w (w.alloc (.cells #[Value.int IntKind.i64 0, Value.int IntKind.u64 0, Value.int IntKind.i64 0, Value.int IntKind.u32 0] 40)) := (Below.refl _ _).alloc (Nat.le_refl _) _
  have hB := heap_alloc_new w (.cells #[Value.int IntKind.i64 0, Value.int IntKind.u64 0, Value.int IntKind.i64 0, Value.int IntKind.u32 0] 40)
  have h1 := h.below hb1
  obtain ⟨k, hk⟩ : ∃ k, K.getD 3 0 = k := ⟨_, rfl⟩
  have hck := h1.at 3 (by omega)
  rw [hk, Addr.add_lit] at hck
  have hk3 : 3 < K.length := by omega
  obtain ⟨hk0, hk1⟩ := hK k (by rw [← hk, List.getD, List.getElem?_eq_getElem hk3]; exact List.getElem_mem hk3)
  have hP1 := h1.part 4 8 (by omega)
  have hP2 := h1.part 12 4 (by omega)
  have hPb1 := hK.part 4 8
  have hPb2 := hK.part 12 4
  have hq := numI_lt 8 (part K 4 8) (part_len (by omega)) hPb1
  have hL := numI_lt 4 (part K 12 4) (part_len (by omega)) hPb2
  obtain ⟨QQ, hQe⟩ : ∃ QQ, numI (part K 4 8) = QQ := ⟨_, rfl⟩
  obtain ⟨LL, hLe⟩ : ∃ LL, numI (part K 12 4) = LL := ⟨_, rfl⟩
  have HPQ : Hid (K.getD 3 0 = k ∧ numI (part K 4 8) = QQ ∧ numI (part K 12 4) = LL) := ⟨hk, hQe, hLe⟩
  rw [hQe] at hq
  rw [hLe] at hL
  generalize part K 4 8 = P1 at hP1 hPb1 hQe
  generalize part K 12 4 = P2 at hP2 hPb2 hLe
  have HR : Hid (headR K r) := hr
  clear hr hk
  have hLs : LL < 4294967296 := by omega
  have eL : wrap64 (LL : Int) = LL := by unfold wrap64; omega
  go_enter Try.func14, Try.ntmps14
  go_upto_region 3 with fail
  generalize hw1 : w.alloc (.cells #[Value.int IntKind.i64 0, Value.int IntKind.u64 0, Value.int IntKind.i64 0, Value.int IntKind.u32 0] 40) = w1 at *
  have TD1 : ∀ ww : World, Holds ww (some ⟨b, o + 4, none⟩) 8 P1 → Calls Try.prog 30 #[.slice (some ⟨b, o + 4, none⟩) 8 (cap - 4)] ww fun e w' => e = .returned (.int .u64 (QQ : Int)) ∧ w' = ww := fun ww hh => by rw [← hQe]; exact told_any b (o + 4) 8 (cap - 4) P1 ww hh hPb1 (by omega)
  have TD2 : ∀ ww : World, Holds ww (some ⟨b, o + 12, none⟩) 4 P2 → Calls Try.prog 30 #[.slice (some ⟨b, o + 12, none⟩) 4 (cap - 12)] ww fun e w' => e = .returned (.int .u64 (LL : Int)) ∧ w' = ww := fun ww hh => by rw [← hLe]; exact told_any b (o + 12) 4 (cap - 12) P2 ww hh hPb2 (by omega)
  have U1 := TD1 _ hP1.drew
  have U2 := TD2 _ hP2.drew
  have V1 := TD1 _ (hP1.alloc (.cells #[Value.int IntKind.i64 0, Value.int IntKind.u64 0, Value.int IntKind.i64 0, Value.int IntKind.u32 0] 40)).drew
  have V2 := TD2 _ (hP2.alloc (.cells #[Value.int IntKind.i64 0, Value.int IntKind.u64 0, Value.int IntKind.i64 0, Value.int IntKind.u32 0] 40)).drew
  clear hQe hLe
  have ekk : IntKind.i64.wrap k = k := by rw [IntKind.wrap_i64]; omega
  have ell : IntKind.i64.wrap (LL : Int) = LL := by rw [IntKind.wrap_i64]; omega
  go_cut [4] from 5 (fun s4 wx => s4 = .pointer (some ⟨w1.heap.size, 0, none⟩) ∧ wx.heap[w1.heap.size]? = some (.cells #[Value.int IntKind.i64 k, Value.int IntKind.u64 (QQ : Int), Value.int IntKind.i64 (LL : Int), Value.int IntKind.u32 0] 40 (0, 0)) ∧ Below w1.heap.size w1 wx)
  case first =>
    go_region_held3 (fun w' => w'.cell? ⟨b, o + 3, none⟩ = some (.int .u8 k)) (go_keep) (first | (go_at_call 30; refine U1.mono ?_; clear U1 V1; rintro e w' ⟨rfl, rfl⟩) | (go_at_call 30; refine V1.mono ?_; clear U1 V1; rintro e w' ⟨rfl, rfl⟩) | (go_at_call 30; refine U2.mono ?_; clear U2 V2; rintro e w' ⟨rfl, rfl⟩) | (go_at_call 30; refine V2.mono ?_; clear U2 V2; rintro e w' ⟨rfl, rfl⟩))
    all_goals (go_wp2_with fail; go_meet; exact ⟨rfl, heap_alloc_new w1 _, below_drewN ((Below.refl _ _).alloc (Nat.le_refl _) _) 1⟩)
  case rest =>
    obtain ⟨rfl, hB2', hb21⟩ := hcut
    generalize wc = w2 at *
    have h2 := h1.below hb21
    clear TD1 TD2 hP1 hP2 hck U1 U2 V1 V2
    obtain ⟨s0, es0⟩ : ∃ s0, K.getD 16 0 = s0 := ⟨_, rfl⟩
    obtain ⟨s1, es1⟩ : ∃ s1, K.getD 17 0 = s1 := ⟨_, rfl⟩
    obtain ⟨s2, es2⟩ : ∃ s2, K.getD 18 0 = s2 := ⟨_, rfl⟩
    obtain ⟨s3, es3⟩ : ∃ s3, K.getD 19 0 = s3 := ⟨_, rfl⟩
    have r0 := byte_at hK 16 (by omega)
    have r1 := byte_at hK 17 (by omega)
    have r2 := byte_at hK 18 (by omega)
    have r3 := byte_at hK 19 (by omega)
    have hSm := sumI_four _ _ _ _ r0 r1 r2 r3
    rw [← part_four K 16 (by omega), es0, es1, es2, es3] at hSm
    rw [es0] at r0
    rw [es1] at r1
    rw [es2] at r2
    rw [es3] at r3
    generalize hSe : sumI (part K 16 4) = SS at hSm
    have hSl : SS < 4294967296 := by omega
    have c0 := h2.at 16 (by omega)
    have c1 := h2.at 17 (by omega)
    have c2 := h2.at 18 (by omega)
    have c3 := h2.at 19 (by omega)
    rw [es0, Addr.add_lit] at c0
    rw [es1, Addr.add_lit] at c1
    rw [es2, Addr.add_lit] at c2
    rw [es3, Addr.add_lit] at c3
    have n16 : (16 : Int) < (n : Int) := by omega
    have n17 : (17 : Int) < (n : Int) := by omega
    have n18 : (18 : Int) < (n : Int) := by omega
    have n19 : (19 : Int) < (n : Int) := by omega
    have z1 := hb1.size
    have hb2 : Below w.heap.size w w2 := hb1.trans (hb21.mono z1)
    have e0 : w2.cell? ⟨w1.heap.size, 0, none⟩ = some (.int .i64 k) := cell_of_row _ _ 0 _ _ _ hB2'
    have e1 : w2.cell? ⟨w1.heap.size, 1, none⟩ = some (.int .u64 QQ) := cell_of_row _ _ 1 _ _ _ hB2'
    have e2 : w2.cell? ⟨w1.heap.size, 2, none⟩ = some (.int .i64 LL) := cell_of_row _ _ 2 _ _ _ hB2'
    have e3 : w2.cell? ⟨w1.heap.size, 3, none⟩ = some (.int .u32 0) := cell_of_row _ _ 3 _ _ _ hB2'
    have f3 : w2.frozen? ⟨w1.heap.size, 3, none⟩ = false := by simp [World.frozen?, hB2']
    have hne : w1.heap.size ≠ b := by have := World.block_lt_of_cell? w1 _ (h1.at 0 (by omega)); simp [Addr.add] at this; omega
    have x0 : IntKind.u32.wrap s0 = s0 := by rw [IntKind.wrap_u32]; omega
    have x1 : IntKind.u32.wrap s1 = s1 := by rw [IntKind.wrap_u32]; omega
    have x2 : IntKind.u32.wrap s2 = s2 := by rw [IntKind.wrap_u32]; omega
    have x3 : IntKind.u32.wrap s3 = s3 := by rw [IntKind.wrap_u32]; omega
    have y1 : IntKind.u32.wrap (s1 * 256) = s1 * 256 := by rw [IntKind.wrap_u32]; omega
    have y2 : IntKind.u32.wrap (s2 * 65536) = s2 * 65536 := by rw [IntKind.wrap_u32]; omega
    have y3 : IntKind.u32.wrap (s3 * 16777216) = s3 * 16777216 := by rw [IntKind.wrap_u32]; omega
    have u1 : IntKind.u32.wrap (s0 + s1 * 256) = s0 + s1 * 256 := by rw [IntKind.wrap_u32]; omega
    have u2 : IntKind.u32.wrap (s0 + s1 * 256 + s2 * 65536) = s0 + s1 * 256 + s2 * 65536 := by rw [IntKind.wrap_u32]; omega
    have u3 : IntKind.u32.wrap (s0 + s1 * 256 + s2 * 65536 + s3 * 16777216) = SS := by rw [IntKind.wrap_u32, hSm]; omega
    go_wp2
    go_region_held3 (fun w' => w'.cell? ⟨b, o + 16, none⟩ = some (.int .u8 s0) ∧ w'.cell? ⟨b, o + 17, none⟩ = some (.int .u8 s1) ∧ w'.cell? ⟨b, o + 18, none⟩ = some (.int .u8 s2) ∧ w'.cell? ⟨b, o + 19, none⟩ = some (.int .u8 s3)) (go_keep) (fail)
    rw [← hSm]
    have hB3 : (w2.setCell ⟨w1.heap.size, 3, none⟩ (.int .u32 SS)).drew.heap[w1.heap.size]? = some (.cells #[Value.int IntKind.i64 k, Value.int IntKind.u64 (QQ : Int), Value.int IntKind.i64 (LL : Int), Value.int IntKind.u32 SS] 40 (0, 0)) := set_block hB2' 3 (.int .u32 SS)
    have h3 : Holds (w2.setCell ⟨w1.heap.size, 3, none⟩ (.int .u32 SS)).drew (some ⟨b, o, none⟩) n K := h2.upd (S := fun j => j = w1.heap.size) ((Upd.refl (fun j => j = w1.heap.size) w2).setCell (p := ⟨w1.heap.size, 3, none⟩) (fun _ => rfl) _).drew (fun a ha e => by cases ha; exact hne e.symm)
    have hb3 : Below w.heap.size w (w2.setCell ⟨w1.heap.size, 3, none⟩ (.int .u32 SS)).drew := below_drewN (hb2.setCell z1 _) 1
    have hb31 : Below w1.heap.size w1 (w2.setCell ⟨w1.heap.size, 3, none⟩ (.int .u32 SS)).drew := below_drewN (hb21.setCell (Nat.le_refl _) _) 1
    clear x0 x1 x2 x3 y1 y2 y3 u1 u2 u3 c0 c1 c2 c3 e0 e1 e2 e3 f3 hB2' h2 es0 es1 es2 es3 r0 r1 r2 r3 hSm
    generalize (w2.setCell ⟨w1.heap.size, 3, none⟩ (.int .u32 SS)).drew = w3 at *
    have e0 : w3.cell? ⟨w1.heap.size, 0, none⟩ = some (.int .i64 k) := cell_of_row _ _ 0 _ _ _ hB3
    have e1 : w3.cell? ⟨w1.heap.size, 1, none⟩ = some (.int .u64 QQ) := cell_of_row _ _ 1 _ _ _ hB3
    have e2 : w3.cell? ⟨w1.heap.size, 2, none⟩ = some (.int .i64 LL) := cell_of_row _ _ 2 _ _ _ hB3
    have e3 : w3.cell? ⟨w1.heap.size, 3, none⟩ = some (.int .u32 SS) := cell_of_row _ _ 3 _ _ _ hB3
    have hrb : Hid (¬ RightH K → r = .tuple #[headV 0 0 0 0, .int .i64 24]) := fun hn => by
      rcases HR.out with hh | hh | hh
      · omega
      · exact hh.2.2
      · exact absurd hh.2.1 hn
    have hB0 : w3.heap[w.heap.size]? = some (.cells #[Value.int IntKind.i64 0, Value.int IntKind.u64 0, Value.int IntKind.i64 0, Value.int IntKind.u32 0] 40 (0, 0)) := (hb31.block w.heap.size (lt_of_block hB)).trans hB
    have e0f : w3.cell? ⟨w.heap.size, 0, none⟩ = some (.int .i64 0) := cell_of_row _ _ 0 _ _ _ hB0
    have e1f : w3.cell? ⟨w.heap.size, 1, none⟩ = some (.int .u64 0) := cell_of_row _ _ 1 _ _ _ hB0
    have e2f : w3.cell? ⟨w.heap.size, 2, none⟩ = some (.int .i64 0) := cell_of_row _ _ 2 _ _ _ hB0
    have e3f : w3.cell? ⟨w.heap.size, 3, none⟩ = some (.int .u32 0) := cell_of_row _ _ 3 _ _ _ hB0
    have z0f : w3.frozen? ⟨w.heap.size, 0, none⟩ = false := by simp [World.frozen?, hB0]
    have z1f : w3.frozen? ⟨w.heap.size, 1, none⟩ = false := by simp [World.frozen?, hB0]
    have z2f : w3.frozen? ⟨w.heap.size, 2, none⟩ = false := by simp [World.frozen?, hB0]
    have z3f : w3.frozen? ⟨w.heap.size, 3, none⟩ = false := by simp [World.frozen?, hB0]
    go_upto_region 5 with fail
    go_cut [65] from 5 (fun s65 wx => ((RightH K ∧ s65 = .bool false) ∨ (¬ RightH K ∧ s65 = .bool true)) ∧ Below w3.heap.size w3 wx)
    case first =>
      by_cases g1 : k < 1
      · go_quiet (fail)
        go_wp2_with fail
        go_meet
        case rel => exact ⟨Or.inr ⟨fun hR => by have h1 := hR.2.1.1; have h2 := HPQ.out.1; omega, rfl⟩, below_drewN (Below.refl _ _) _⟩
      · have g1' : decide (k < 1) = false := by simpa using g1
        by_cases g2 : 9 < k
        · go_quiet (fail)
          go_wp2_with fail
          go_meet
          case rel => exact ⟨Or.inr ⟨fun hR => by have h1 := hR.2.1.2; have h2 := HPQ.out.1; omega, rfl⟩, below_drewN (Below.refl _ _) _⟩
        · have g2' : decide (9 < k) = false := by simpa using g2
          by_cases g3 : (1048576 : Int) < (LL : Int)
          · go_quiet (fail)
            go_wp2_with fail
            go_meet
            case rel => exact ⟨Or.inr ⟨fun hR => by have h1 := hR.2.2.1; have h2 := HPQ.out.2.2; omega, rfl⟩, below_drewN (Below.refl _ _) _⟩
          · have g3' : decide ((1048576 : Int) < (LL : Int)) = false := by simpa using g3
            have HB : ∀ ww, Calls Try.prog 25 #[.agg #[.int .i64 k, .int .u64 QQ, .int .i64 LL, .int .u32 SS]] ww fun e w' => ∃ v', e = .returned v' ∧ w'.ownsRow ww.heap.size 5 1 v' 24 ((headL k QQ LL SS).map (Value.int .u8)) ∧ Below ww.heap.size ww w' := fun ww => refHeadB_any k QQ LL SS (by omega) (by omega) (by omega) hSl ww
            have hH24 : Holds w3 (some ⟨b, o, none⟩) 24 (part K 0 24) := h3.part 0 24 (by omega)
            obtain ⟨SB, hSB⟩ : ∃ SB, strI (part K 0 24) = SB := ⟨_, rfl⟩
            obtain ⟨SH, hSH⟩ : ∃ SH, strI (headL k QQ LL SS) = SH := ⟨_, rfl⟩
            have CB : (convert 23 9 (.slice (some ⟨b, o, none⟩) 24 cap)).run Try.prog w3 = .ok (.string SB) w3 := by rw [← hSB]; exact conv_holds hH24 cap
            have CBd : (convert 23 9 (.slice (some ⟨b, o, none⟩) 24 cap)).run Try.prog w3.drew = .ok (.string SB) w3.drew := by rw [← hSB]; exact conv_holds hH24.drew cap
            have hHb : ByteL (headL k QQ LL SS) := headL_bytes k QQ LL SS (by omega)
            have hb35 : ∀ {w5 : World}, Below w3.drew.heap.size w3.drew w5 → Below w3.heap.size w3 w5 := fun b5 => ⟨b5.os, b5.tape, b5.output, b5.size, b5.block⟩
            by_cases hR : RightH K
            · have hback := head_back K (by omega) hK hR
              rw [HPQ.out.1, HPQ.out.2.1, HPQ.out.2.2, hSe] at hback
              have hSS : (SH.toList == SB.toList) = true := by
                have e : SH = SB := by rw [← hSH, ← hSB, ← hback]; rfl
                rw [e]; simp
              have HRI : Hid (RightH K) := hR
              clear hR hback hHb
              go_region_with (first | (go_at_call 25; refine (HB _).mono ?_; rintro e w5 ⟨v5, rfl, o5, b5⟩; obtain ⟨ao5, l5, c5, rfl⟩ := row_shape o5; have u5 := Upd.ofBelow (S := fun _ => False) b5 (fun k hk hk' => (by omega)); have f0 := cell_upd u5 (a := ⟨w1.heap.size, 0, none⟩) (v := .int .i64 k) e0 (fun h => h); have f1 := cell_upd u5 (a := ⟨w1.heap.size, 1, none⟩) (v := .int .u64 QQ) e1 (fun h => h); have f2 := cell_upd u5 (a := ⟨w1.heap.size, 2, none⟩) (v := .int .i64 LL) e2 (fun h => h); have f3 := cell_upd u5 (a := ⟨w1.heap.size, 3, none⟩) (v := .int .u32 SS) e3 (fun h => h); have H5 := Holds.ofRow o5; have CH : (convert 23 9 (.slice ao5 l5 c5)).run Try.prog w5 = .ok (.string SH) w5 := (by rw [← hSH]; exact conv_holds H5 c5); have CB5 : (convert 23 9 (.slice (some ⟨b, o, none⟩) 24 cap)).run Try.prog w5 = .ok (.string SB) w5 := (by rw [← hSB]; exact conv_holds ((hH24.drew).below b5) cap)))
              all_goals (go_wp2_with fail; go_meet; exact ⟨Or.inl ⟨HRI, rfl⟩, hb35 b5⟩)
            · have hSS : (SH.toList == SB.toList) = false := by
                rw [← hSH, ← hSB]
                refine str_ne hHb (hK.part 0 24) (fun e => hR ?_)
                have hcut : K = headL k QQ LL SS ++ K.drop 24 := by rw [e]; exact (List.take_append_drop 24 K).symm
                rw [hcut]
                exact right_head k QQ LL SS _ (by omega) (by omega)
              have HRI : Hid (¬ RightH K) := hR
              clear hR hHb
              go_region_with (first | (go_at_call 25; refine (HB _).mono ?_; rintro e w5 ⟨v5, rfl, o5, b5⟩; obtain ⟨ao5, l5, c5, rfl⟩ := row_shape o5; have u5 := Upd.ofBelow (S := fun _ => False) b5 (fun k hk hk' => (by omega)); have f0 := cell_upd u5 (a := ⟨w1.heap.size, 0, none⟩) (v := .int .i64 k) e0 (fun h => h); have f1 := cell_upd u5 (a := ⟨w1.heap.size, 1, none⟩) (v := .int .u64 QQ) e1 (fun h => h); have f2 := cell_upd u5 (a := ⟨w1.heap.size, 2, none⟩) (v := .int .i64 LL) e2 (fun h => h); have f3 := cell_upd u5 (a := ⟨w1.heap.size, 3, none⟩) (v := .int .u32 SS) e3 (fun h => h); have H5 := Holds.ofRow o5; have CH : (convert 23 9 (.slice ao5 l5 c5)).run Try.prog w5 = .ok (.string SH) w5 := (by rw [← hSH]; exact conv_holds H5 c5); have CB5 : (convert 23 9 (.slice (some ⟨b, o, none⟩) 24 cap)).run Try.prog w5 = .ok (.string SB) w5 := (by rw [← hSB]; exact conv_holds ((hH24.drew).below b5) cap)))
              all_goals (go_wp2_with fail; go_meet; exact ⟨Or.inr ⟨HRI, rfl⟩, hb35 b5⟩)
    case rest =>
      obtain ⟨hcase, b5⟩ := hcut
      generalize wc = w5 at *
      have B05 : w5.heap[w.heap.size]? = some (.cells #[Value.int IntKind.i64 0, Value.int IntKind.u64 0, Value.int IntKind.i64 0, Value.int IntKind.u32 0] 40 (0, 0)) := (b5.block w.heap.size (lt_of_block hB0)).trans hB0
      have B15 : w5.heap[w1.heap.size]? = some (.cells #[Value.int IntKind.i64 k, Value.int IntKind.u64 (QQ : Int), Value.int IntKind.i64 (LL : Int), Value.int IntKind.u32 SS] 40 (0, 0)) := (b5.block w1.heap.size (lt_of_block hB3)).trans hB3
      have hb5 : Below w.heap.size w w5 := hb3.trans (b5.mono hb3.size)
      have q0 : w5.cell? ⟨w.heap.size, 0, none⟩ = some (.int .i64 0) := cell_of_row _ _ 0 _ _ _ B05
      have q1 : w5.cell? ⟨w.heap.size, 1, none⟩ = some (.int .u64 0) := cell_of_row _ _ 1 _ _ _ B05
      have q2 : w5.cell? ⟨w.heap.size, 2, none⟩ = some (.int .i64 0) := cell_of_row _ _ 2 _ _ _ B05
      have q3 : w5.cell? ⟨w.heap.size, 3, none⟩ = some (.int .u32 0) := cell_of_row _ _ 3 _ _ _ B05
      have p0 : w5.cell? ⟨w1.heap.size, 0, none⟩ = some (.int .i64 k) := cell_of_row _ _ 0 _ _ _ B15
      have p1 : w5.cell? ⟨w1.heap.size, 1, none⟩ = some (.int .u64 QQ) := cell_of_row _ _ 1 _ _ _ B15
      have p2 : w5.cell? ⟨w1.heap.size, 2, none⟩ = some (.int .i64 LL) := cell_of_row _ _ 2 _ _ _ B15
      have p3 : w5.cell? ⟨w1.heap.size, 3, none⟩ = some (.int .u32 SS) := cell_of_row _ _ 3 _ _ _ B15
      have y0 : w5.frozen? ⟨w.heap.size, 0, none⟩ = false := by simp [World.frozen?, B05]
      have y1 : w5.frozen? ⟨w.heap.size, 1, none⟩ = false := by simp [World.frozen?, B05]
      have y2 : w5.frozen? ⟨w.heap.size, 2, none⟩ = false := by simp [World.frozen?, B05]
      have y3 : w5.frozen? ⟨w.heap.size, 3, none⟩ = false := by simp [World.frozen?, B05]
      rcases hcase with ⟨hR, rfl⟩ | ⟨hR, rfl⟩
      · obtain rfl : r = .tuple #[headV k QQ LL SS, .int .i64 0] := by
          rcases HR.out with hh | hh | hh
          · omega
          · exact absurd hR hh.2.1
          · rw [hh.2.2, headOf, HPQ.out.1, HPQ.out.2.1, HPQ.out.2.2, hSe]
        have f1' := head_set4 B05 (.int .i64 k) (.int .u64 QQ) (.int .i64 LL) (.int .u32 SS)
        clear hR
        go_wp2
        refine bodyPost_ret (v := .tuple #[headV k QQ LL SS, .int .i64 0]) ?_ rfl ⟨rfl, (((hb5.setCell (Nat.le_refl _) _).setCell (Nat.le_refl _) _).setCell (Nat.le_refl _) _).setCell (Nat.le_refl _) _⟩
        rw [results_cell_tmp rfl]
        simp [asAddr, Result.andThen, f1', headV]
      · obtain rfl := hrb.out hR
        have f1' := head_set4 B05 (.int .i64 0) (.int .u64 0) (.int .i64 0) (.int .u32 0)
        clear hR
        go_wp2
        refine bodyPost_ret (v := .tuple #[headV 0 0 0 0, .int .i64 24]) ?_ rfl ⟨rfl, (((hb5.setCell (Nat.le_refl _) _).setCell (Nat.le_refl _) _).setCell (Nat.le_refl _) _).setCell (Nat.le_refl _) _⟩
        rw [results_cell_tmp rfl]
        simp [asAddr, Result.andThen, f1', headV]
end Go.Proofs.Ytigpmmhofncgpaa
