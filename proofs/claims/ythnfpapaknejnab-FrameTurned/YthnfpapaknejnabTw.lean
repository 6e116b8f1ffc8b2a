/-
  FrameTurned: the walk.
-/
import Derived.Test.YthnfpapaknejnabTv
import Derived.RegionTactic
import Derived.ChangeAlike
namespace Go.Proofs.Ythnfpapaknejnab
open Go.RowKit
set_option maxRecDepth 100000

theorem own_set {base : Nat} {w : World} {g n c : Nat} {L : List Int} (h : w.ownsRow base 5 1 (.slice (some ⟨g, 0, none⟩) n c) n (L.map (Value.int .u8))) (i : Nat) (x : Int) : (w.setCell ⟨g, i, none⟩ (.int .u8 x)).ownsRow base 5 1 (.slice (some ⟨g, 0, none⟩) n c) n ((L.set i x).map (Value.int .u8)) := by
  obtain ⟨h1, h2⟩ := h
  refine ⟨by simpa using h1, ?_⟩
  rcases h2 with ⟨e, _⟩ | ⟨g', cap, cur, e, hb, hg, k1, k2, k3, k4⟩
  · simp at e
  · simp at e
    obtain ⟨rfl, rfl⟩ := e
    refine Or.inr ⟨g, c, _, rfl, hb, set_block hg i _, k1, k2, by simpa using k3, ?_⟩
    rw [Array.toList_setIfInBounds, List.take_set, k4, List.map_set]
theorem own_cell {base : Nat} {w : World} {g n c : Nat} {L : List Int} (h : w.ownsRow base 5 1 (.slice (some ⟨g, 0, none⟩) n c) n (L.map (Value.int .u8))) (i : Nat) (hi : i < n) : w.cell? ⟨g, i, none⟩ = some (.int .u8 (L.getD i 0)) ∧ w.frozen? ⟨g, i, none⟩ = false := by
  have hl : L.length = n := by have := h.1; simpa using this
  constructor
  · have := h.cells (g := g) rfl i (.int .u8 (L.getD i 0)) (by simp [List.getD, hl, hi])
    rw [Addr.add_lit, Nat.zero_add] at this
    exact this
  · rcases h.2 with ⟨e, _⟩ | ⟨g', cap, cur, e, hb, hg, _⟩
    · simp at e
    · simp at e
      obtain ⟨rfl, rfl⟩ := e
      simp [World.frozen?, hg]

theorem test_num (x i : Nat) : x / 2 ^ i % 2 = (x.testBit i).toNat := by
  rw [Nat.testBit_eq_decide_div_mod_eq]
  rcases Nat.mod_two_eq_zero_or_one (x / 2 ^ i) with h | h <;> simp [h]
theorem wrapI_small (d : Nat) (h : d < 1000000000000) : IntKind.i64.wrap (d : Int) = d := by rw [IntKind.wrap_i64]; omega
theorem pow_eight (r : Nat) (hr : r < 8) : ∃ p : Nat, 2 ^ r = p ∧ (2 : Int) ^ r = (p : Int) ∧ p ≤ 128 := by
  rcases (by omega : r = 0 ∨ r = 1 ∨ r = 2 ∨ r = 3 ∨ r = 4 ∨ r = 5 ∨ r = 6 ∨ r = 7) with rfl | rfl | rfl | rfl | rfl | rfl | rfl | rfl
  · exact ⟨1, rfl, rfl, by omega⟩
  · exact ⟨2, rfl, rfl, by omega⟩
  · exact ⟨4, rfl, rfl, by omega⟩
  · exact ⟨8, rfl, rfl, by omega⟩
  · exact ⟨16, rfl, rfl, by omega⟩
  · exact ⟨32, rfl, rfl, by omega⟩
  · exact ⟨64, rfl, rfl, by omega⟩
  · exact ⟨128, rfl, rfl, by omega⟩
theorem turn_at (T : List Int) (p run j e r : Nat) (hb : run.testBit j = true) (he : (p + j) / 8 = e) (hr : (p + j) % 8 = r) (pw : Nat) (hp : 2 ^ r = pw) (x : Int) (hx : (turnL T p run j).getD e 0 = x) (h0 : 0 ≤ x) (h1 : x < 256) (hpw : pw ≤ 128) :
    ∃ y : Int, bits .xor .u8 x (pw : Int) = y ∧ turnL T p run (j + 1) = (turnL T p run j).set e y := by
  refine ⟨((x.toNat ^^^ pw : Nat) : Int), ?_, ?_⟩
  · rw [u8_xor _ _ h0 h1 (by omega) (by omega)]
    simp
  · simp only [turnL]
    rw [if_pos hb]
    unfold flipL
    rw [he, hr, hx, hp]
/-- The loop's state. -/
structure Tm (w wr : World) (bx : Obj) (base gb lb cb : Nat) (T : List Int) (ao : Option Addr) (lw : Nat) (ws : List Pc) : Prop where
  below : Below w.heap.size w wr
  box : wr.heap[w.heap.size]? = some bx
  lo : w.heap.size < gb
  own : wr.ownsRow base 5 1 (.slice (some ⟨gb, 0, none⟩) lb cb) lb (T.map (Value.int .u8))
  want : PHolds wr ao lw ws
  ne : ∀ a, ao = some a → a.block ≠ gb
theorem Tm.set {w wr : World} {bx : Obj} {base gb lb cb : Nat} {T : List Int} {ao : Option Addr} {lw : Nat} {ws : List Pc} (h : Tm w wr bx base gb lb cb T ao lw ws) (i : Nat) (x : Int) : Tm w (wr.setCell ⟨gb, i, none⟩ (.int .u8 x)).drew bx base gb lb cb (T.set i x) ao lw ws := by
  have hlo := h.lo
  have u : Upd (fun k => k = gb) wr (wr.setCell ⟨gb, i, none⟩ (.int .u8 x)).drew := (Upd.setCell (S := fun k => k = gb) (p := ⟨gb, i, none⟩) (Upd.refl _ wr) (fun _ => rfl) _).drew
  have hb := h.below.setCell (p := ⟨gb, i, none⟩) (by show w.heap.size ≤ gb; omega) (.int .u8 x)
  refine ⟨⟨hb.os, hb.tape, hb.output, hb.size, hb.block⟩, (u.block _ (lt_of_block h.box) (by omega)).trans h.box, hlo, ?_, h.want.upd u (fun a ha => h.ne a ha), h.ne⟩
  have h2 := own_set h.own i x
  exact own_below h2 ⟨rfl, rfl, rfl, Nat.le_refl _, fun _ _ => rfl⟩

set_option maxHeartbeats 400000 in
theorem turned_any (ad : Option Addr) (n cap : Nat) (wh at_ : Int) (run : Nat) (w : World) (h : ParcAt w ad n) (hn : n ≤ 140737488355328) (hw0 : -9223372036854775808 ≤ wh) (hw1 : wh ≤ 9223372036854775807) (ha0 : -9223372036854775808 ≤ at_) (ha1 : at_ ≤ 9223372036854775807) (hrun : run < 4294967296) :
    Calls Try.prog 5 #[.slice ad n cap, .agg #[.int .i64 wh, .int .i64 at_, .int .u32 (run : Int)]] w fun e w' => e = .returned (.bool true) ∧ Below w.heap.size w w' := by
  have hB0 := heap_alloc_new w (.cells #[.int .i64 wh, .int .i64 at_, .int .u32 (run : Int)] 40)
  have b0 : Below w.heap.size w (w.alloc (.cells #[.int .i64 wh, .int .i64 at_, .int .u32 (run : Int)] 40)) := (Below.refl _ _).alloc (Nat.le_refl _) _
  go_enter Try.func5, Try.ntmps5
  go_wp2_with (go_at_call 7; refine (shown_any _).mono ?_; rintro e w1 ⟨rfl, b1⟩; have LA := laid_any ad n cap w1 ((h.below b0).below b1) hn)
  refine LA.mono ?_
  rintro e w2 ⟨vb, vw, fs, rfl, M⟩
  obtain ⟨aob, lb, cb, rfl⟩ := row_shape M.ownB
  obtain ⟨aow, lw, cw, rfl⟩ := row_shape M.ownW
  have HLB : Hid (lb = (catL fs).length ∧ (catL fs).length ≤ cb ∧ cb ≤ maxLen) := own_cap M.ownB
  have HLW : Hid (lw = (pcsL 0 fs).length ∧ (pcsL 0 fs).length ≤ cw ∧ cw ≤ maxLen) := own_cap M.ownW
  have hfew : lb ≤ 2147483647 := by rw [HLB.out.1]; exact M.few
  have HM : Hid (Lm w1 w2 (.slice aob lb cb) (.slice aow lw cw) fs) := M
  have z1 := b1.size
  have z2 := M.below.size
  have z0 : w.heap.size + 1 ≤ w1.heap.size := by simpa using z1
  have hB2 : w2.heap[w.heap.size]? = some (.cells #[.int .i64 wh, .int .i64 at_, .int .u32 (run : Int)] 40 (0, 0)) :=
    (M.below.block _ (by omega)).trans ((b1.block _ (by simp)).trans hB0)
  have B2 : Below w.heap.size w w2 := (b0.trans (b1.mono (by simp))).trans (M.below.mono (by omega))
  have hlwl : lw ≤ 2147483647 := by have := catL_len fs; have := HLB.out.1; have := HLW.out.1; rw [pcsL_len] at this; omega
  clear M LA
  by_cases h0 : lw = 0
  · have t0 : ((lw : Int) == 0) = true := by simp; omega
    go_wp2
    go_ret
    exact ⟨rfl, B2⟩
  · have t0 : ((lw : Int) == 0) = false := by apply beq_eq_false_iff_ne.2; omega
    have c0 : w2.cell? ⟨w.heap.size, 0, none⟩ = some (.int .i64 wh) := cell_of_row _ _ 0 _ _ _ hB2
    have c1 : w2.cell? ⟨w.heap.size, 1, none⟩ = some (.int .i64 at_) := cell_of_row _ _ 1 _ _ _ hB2
    have PK := pick_any wh (lw : Int) hw0 hw1 (by omega) (by omega)
    have p0 := pick_lo wh (lw : Int) (by omega)
    have p1 := pick_hi wh (lw : Int) (by omega)
    generalize pickI wh (lw : Int) = pk at PK p0 p1
    obtain ⟨k, rfl⟩ : ∃ k : Nat, pk = (k : Int) := ⟨pk.toNat, by omega⟩
    have hkl : k < lw := by omega
    have hkf : k < fs.length := by have := HLW.out.1; rw [pcsL_len] at this; omega
    obtain ⟨g, o, rfl, hc⟩ := (OwnP.holds HM.out.ownW).cells k (by rw [pcsL_len]; exact hkf)
    rw [pcsL_get fs 0 k hkf] at hc
    have c2 := hc 2 _ rfl
    have c3 := hc 3 _ rfl
    have hend := endAt_succ fs k hkf
    have hle := endAt_le fs (k + 1)
    have hsz := (HM.out.ok fs[k] (List.getElem_mem hkf)).2.2.1
    rw [← HLB.out.1] at hle
    obtain ⟨E, hE⟩ : ∃ E, endAt fs k = E := ⟨_, rfl⟩
    obtain ⟨L, hL⟩ : ∃ L, fs[k].2.2.length = L := ⟨_, rfl⟩
    have HST : Hid (∀ f m, m ≤ 32 → f + m ≤ 8 * (24 + L) → scanL (turnL (catL fs) (8 * E + f) run m) = if whyN f run m = 0 then (pcsL 0 fs, (catL fs).length, 0) else ((pcsL 0 fs).take k, E, whyN f run m)) := by
      intro f m h1 h2
      have := scan_turned fs HM.out.ok k hkf f run m h1 (by rw [hL]; exact h2)
      rw [hE] at this
      exact this
    rw [hE, hL] at hend
    rw [hE] at c2
    rw [hL] at c3 hsz
    simp only [Nat.zero_add] at c2
    have hEL : E + 24 + L ≤ lb := by omega
    have c2' : w2.cell? ⟨g, o + k * 4 + 2, none⟩ = some (.int .i64 ((E : Int) + 24)) := by rw [c2]; simp
    have PA := pick_any at_ (8 * (24 + (L : Int))) ha0 ha1 (by omega) (by omega)
    have q0 := pick_lo at_ (8 * (24 + (L : Int))) (by omega)
    have q1 := pick_hi at_ (8 * (24 + (L : Int))) (by omega)
    generalize pickI at_ (8 * (24 + (L : Int))) = pa at PA q0 q1
    obtain ⟨F, rfl⟩ : ∃ F : Nat, pa = (F : Int) := ⟨pa.toNat, by omega⟩
    clear hc hend c2 hE hL hle p0 p1
    go_wp2_with (first
      | (go_at_call 11; refine (PK _).mono ?_; rintro e w' ⟨rfl, hw⟩; obtain rfl := hw.symm; clear PK)
      | (go_at_call 11; refine (PA _).mono ?_; rintro e w' ⟨rfl, hw⟩; obtain rfl := hw.symm))
    obtain ⟨gb, cb', e1, e2, e3, e4, e5⟩ := own_some HM.out.ownB (by have := HLB.out.1; omega)
    simp only [Value.slice.injEq] at e1
    obtain ⟨rfl, -, rfl⟩ := e1
    have hT0 : Tm w w2 (.cells #[.int .i64 wh, .int .i64 at_, .int .u32 (run : Int)] 40 (0, 0)) w1.heap.size gb lb cb (catL fs) (some ⟨g, o, none⟩) lw (pcsL 0 fs) := by
      refine ⟨B2, hB2, by omega, by have := HM.out.ownB; rw [← HLB.out.1] at this; exact this, OwnP.holds HM.out.ownW, ?_⟩
      intro a ha e
      simp at ha
      have hne := HM.out.ne gb rfl
      apply hne
      rcases HM.out.ownW.2 with ⟨e', _⟩ | ⟨g', c', cur, e', _⟩
      · simp at e'
      · simp at e'
        rw [← ha] at e
        simp at e
        obtain ⟨⟨r1, _⟩, _⟩ := e'
        simp [Value.ownBlock, e]
    have HT0 : Hid (Tm w w2 (.cells #[.int .i64 wh, .int .i64 at_, .int .u32 (run : Int)] 40 (0, 0)) w1.heap.size gb lb cb (catL fs) (some ⟨g, o, none⟩) lw (pcsL 0 fs)) := hT0
    have hlc : (catL fs).length = lb := HLB.out.1.symm
    have HLC : Hid ((catL fs).length = lb) := hlc
    have hcb : lb ≤ cb := by omega
    have hcm : cb ≤ maxLen := e3
    have hcw : (k : Int) ≤ (cw : Int) := by have := HLW.out; omega
    have hFq : F < 8 * (24 + L) := by omega
    have HCB : Hid (ByteL (catL fs)) := catL_bytes fs HM.out.ok
    clear hT0 hlc e2 e3 e4 e5 hB2 c0 c1 c2' c3 q0 q1 PA hB0 b0 b1
    go_loopw [13, 14] (fun a b wr => ∃ j : Nat, a = .int .i64 (whyN F run j) ∧ b = .int .i64 j ∧ j ≤ 32 ∧ F + j ≤ 8 * (24 + L) ∧ Tm w wr (.cells #[.int .i64 wh, .int .i64 at_, .int .u32 (run : Int)] 40 (0, 0)) w1.heap.size gb lb cb (turnL (catL fs) (8 * E + F) run j) (some ⟨g, o, none⟩) lw (pcsL 0 fs)) (fun _ b _ => 32 - (intOf b).toNat)
    case atStart => exact ⟨0, rfl, rfl, by omega, by omega, HT0.out⟩
    case round =>
      obtain ⟨j, rfl, rfl, hj, hFj, TM⟩ := hrel
      by_cases hgo : j < 32 ∧ F + j < 8 * (24 + L)
      · obtain ⟨g1, g2⟩ := hgo
        have t1 : (j : Int) < 32 := by omega
        have t2 : (F : Int) + (j : Int) < 8 * (24 + (L : Int)) := by omega
        have c2 : wr.cell? ⟨w.heap.size, 2, none⟩ = some (.int .u32 (run : Int)) := cell_of_row _ _ 2 _ _ _ TM.box
        have hb := test_num run j
        have HT : Hid (Tm w wr (.cells #[.int .i64 wh, .int .i64 at_, .int .u32 (run : Int)] 40 (0, 0)) w1.heap.size gb lb cb (turnL (catL fs) (8 * E + F) run j) (some ⟨g, o, none⟩) lw (pcsL 0 fs)) := TM
        cases hbit : run.testBit j
        · have e0 : ((run : Int) / 2 ^ j).tmod 2 = 0 := by
            rw [hbit] at hb
            rw [Int.tmod_eq_emod_of_nonneg (Int.ediv_nonneg (by omega) (Int.pow_nonneg (by omega))), show (2 : Int) ^ j = ((2 ^ j : Nat) : Int) by rw [Int.natCast_pow]; rfl]
            simp at hb
            omega
          have hs1 : turnL (catL fs) (8 * E + F) run (j + 1) = turnL (catL fs) (8 * E + F) run j := by simp only [turnL]; rw [if_neg (by rw [hbit]; simp)]
          have hs2 : whyN F run (j + 1) = whyN F run j := by simp only [whyN]; rw [if_neg (by rw [hbit]; simp)]
          have HS1 : Hid (turnL (catL fs) (8 * E + F) run (j + 1) = turnL (catL fs) (8 * E + F) run j) := hs1
          have HS2 : Hid (whyN F run (j + 1) = whyN F run j) := hs2
          clear TM hb hbit hs1 hs2
          go_wp2
          go_roundw
          case rel => exact ⟨j + 1, by rw [HS2.out], by go_num, by omega, by omega, by rw [HS1.out]; exact HT.out⟩
          case measure => simp [intOf]; omega
        · have e0 : ((run : Int) / 2 ^ j).tmod 2 = 1 := by
            rw [hbit] at hb
            rw [Int.tmod_eq_emod_of_nonneg (Int.ediv_nonneg (by omega) (Int.pow_nonneg (by omega))), show (2 : Int) ^ j = ((2 ^ j : Nat) : Int) by rw [Int.natCast_pow]; rfl]
            simp at hb
            omega
          obtain ⟨N, hN⟩ : ∃ N, F + j = N := ⟨_, rfl⟩
          have eN : (F : Int) + (j : Int) = (N : Int) := by omega
          obtain ⟨d, hd⟩ : ∃ d, N / 8 = d := ⟨_, rfl⟩
          obtain ⟨r, hr⟩ : ∃ r, N % 8 = r := ⟨_, rfl⟩
          have f1 : (N : Int).tdiv 8 = (d : Int) := by rw [Int.tdiv_eq_ediv_of_nonneg (by omega)]; omega
          have f2 : (N : Int).tmod 8 = (r : Int) := by rw [Int.tmod_eq_emod_of_nonneg (by omega)]; omega
          have hdl : E + d < lb := by omega
          have hr8 : r < 8 := by omega
          obtain ⟨x, hx⟩ : ∃ x, (turnL (catL fs) (8 * E + F) run j).getD (E + d) 0 = x := ⟨_, rfl⟩
          obtain ⟨cc, fr⟩ := own_cell TM.own (E + d) hdl
          rw [hx] at cc
          have hTbyte := turnL_bytes (catL fs) HCB.out (8 * E + F) run j
          have hTlen := turnL_len (catL fs) (8 * E + F) run j
          have hxb : 0 ≤ x ∧ x < 256 := by
            have hlt : E + d < (turnL (catL fs) (8 * E + F) run j).length := by rw [hTlen, HLC.out]; exact hdl
            rw [← hx, List.getD, List.getElem?_eq_getElem hlt]
            exact hTbyte _ (List.getElem_mem hlt)
          have a1 : IntKind.i64.wrap ((E : Int) + (d : Int)) = (E : Int) + (d : Int) := by rw [IntKind.wrap_i64]; omega
          have a2 : (E : Int) + (d : Int) < (lb : Int) := by omega
          have a3 : ((E : Int) + (d : Int)).toNat = E + d := by omega
          have a8 : (0 : Int) ≤ (E : Int) + (d : Int) := by omega
          have a9 : (r : Int) < 8 := by omega
          have hd12 : d < 1000000000000 := by omega
          have hr12 : r < 1000000000000 := by omega
          obtain ⟨pw, hp1, hp2, hp3⟩ := pow_eight r hr8
          obtain ⟨y, exy, hs1⟩ := turn_at (catL fs) (8 * E + F) run j (E + d) r hbit (by omega) (by omega) pw hp1 x hx hxb.1 hxb.2 hp3
          have hs2 : whyN F run (j + 1) = (if N < 192 then 24 else if whyN F run j = 0 then 25 else whyN F run j) := by simp only [whyN]; rw [if_pos hbit, hN]
          have HS1 : Hid (turnL (catL fs) (8 * E + F) run (j + 1) = (turnL (catL fs) (8 * E + F) run j).set (E + d) y) := hs1
          have HS2 : Hid (whyN F run (j + 1) = (if N < 192 then 24 else if whyN F run j = 0 then 25 else whyN F run j)) := hs2
          obtain ⟨wy, hwy⟩ : ∃ wy, whyN F run j = wy := ⟨_, rfl⟩
          have HWY : Hid (whyN F run j = wy) := hwy
          rw [hwy]
          have HXY : Hid (bits .xor .u8 x (pw : Int) = y) := exy
          have HPW : Hid ((2 : Int) ^ r = (pw : Int)) := hp2
          clear hbit hb hx hxb hTbyte hTlen hs1 hs2 hwy TM hd hr hN hp1 hp2 exy
          have a6 := wrapI_small d hd12
          have a7 := wrapI_small r hr12
          clear hd12 hr12
          go_wp2
          go_region
          have hp256 : (2 : Int) ^ r % 256 = (pw : Int) := by rw [HPW.out]; omega
          rw [hp256, HXY.out]
          have hTS := HT.out.set (E + d) y
          rw [← HS1.out] at hTS
          have HTS : Hid (Tm w (wr.setCell ⟨gb, E + d, none⟩ (.int .u8 y)).drew (.cells #[.int .i64 wh, .int .i64 at_, .int .u32 (run : Int)] 40 (0, 0)) w1.heap.size gb lb cb (turnL (catL fs) (8 * E + F) run (j + 1)) (some ⟨g, o, none⟩) lw (pcsL 0 fs)) := hTS
          have HJ : Hid (j + 1 ≤ 32 ∧ F + (j + 1) ≤ 8 * (24 + L)) := ⟨by omega, by omega⟩
          clear hTS hp256 a1 a2 a3 a6 a7 a8 a9 cc fr f1 f2 e0
          by_cases h192 : N < 192
          · have tN : (N : Int) < 192 := by omega
            have HW : Hid (whyN F run (j + 1) = 24) := by rw [HS2.out, if_pos h192]; exact rfl
            go_wp2
            go_roundw
            case rel => exact ⟨j + 1, by rw [HW.out], by go_num, HJ.out.1, HJ.out.2, HTS.out⟩
            case measure => simp [intOf]; omega
          · have tN : ¬ ((N : Int) < 192) := by omega
            have tN' : decide ((N : Int) < 192) = false := by simpa using tN
            by_cases hwz : wy = 0
            · have tw : (wy == 0) = true := by simp [hwz]
              have HW : Hid (whyN F run (j + 1) = 25) := by rw [HS2.out, if_neg h192, HWY.out, if_pos hwz]; exact rfl
              go_wp2
              go_roundw
              case rel => exact ⟨j + 1, by rw [HW.out], by go_num, HJ.out.1, HJ.out.2, HTS.out⟩
              case measure => simp [intOf]; omega
            · have tw : (wy == 0) = false := by apply beq_eq_false_iff_ne.2; exact hwz
              have HW : Hid (whyN F run (j + 1) = wy) := by rw [HS2.out, if_neg h192, HWY.out, if_neg hwz]; exact rfl
              go_wp2
              go_roundw
              case rel => exact ⟨j + 1, by rw [HW.out], by go_num, HJ.out.1, HJ.out.2, HTS.out⟩
              case measure => simp [intOf]; omega
      · have HT : Hid (Tm w wr (.cells #[.int .i64 wh, .int .i64 at_, .int .u32 (run : Int)] 40 (0, 0)) w1.heap.size gb lb cb (turnL (catL fs) (8 * E + F) run j) (some ⟨g, o, none⟩) lw (pcsL 0 fs)) := TM
        have hsc := HST.out F j hj hFj
        have hbr := TM.below
        have hTl : (turnL (catL fs) (8 * E + F) run j).length = lb := by rw [turnL_len, HLC.out]
        have hH : Holds wr (some ⟨gb, 0, none⟩) lb (turnL (catL fs) (8 * E + F) run j) := Holds.ofRow (by rw [hTl]; exact TM.own)
        have S := scan_any (some ⟨gb, 0, none⟩) lb cb _ wr hH (turnL_bytes _ HCB.out _ _ _) hcb (by omega)
        obtain ⟨wy, hwy⟩ : ∃ wy, whyN F run j = wy := ⟨_, rfl⟩
        rw [hwy] at hsc ⊢
        generalize turnL (catL fs) (8 * E + F) run j = TT at hsc S hTl hH
        clear hwy hH hTl TM
        by_cases hj32 : j < 32
        · have t1 : (j : Int) < 32 := by omega
          have t2 : ¬ ((F : Int) + (j : Int) < 8 * (24 + (L : Int))) := by omega
          have t2' : decide ((F : Int) + (j : Int) < 8 * (24 + (L : Int))) = false := by simpa using t2
          by_cases hwz : wy = 0
          · rw [if_pos hwz] at hsc
            subst hwz
            rw [hsc] at S
            clear hsc
            go_wp2_with (go_at_call 9; fail)
            refine S.mono ?_
            rintro e w6 ⟨v6, rfl, o6, b6⟩
            obtain ⟨ao6, l6, c6, rfl⟩ := row_shape o6
            have PH6 := o6.holds
            have hl6 : l6 = lw := by rw [(own_cap o6).1, HLW.out.1]
            subst hl6
            have SP := samePieces_eq ao6 _ l6 c6 cw _ w6 PH6 (HT.out.want.below b6) (by omega)
            have hB6 := hbr.trans (b6.mono hbr.size)
            have hll : ((catL fs).length : Int) = (lb : Int) := by rw [HLC.out]
            rw [hll]
            clear o6 b6 S
            go_wp2_with (go_at_call 10; refine SP.mono ?_; rintro e w7 ⟨rfl, b7⟩)
            go_ret
            exact ⟨rfl, hB6.trans (b7.mono hB6.size)⟩
          · rw [if_neg hwz] at hsc
            rw [hsc] at S
            have tw : (wy == 0) = false := by apply beq_eq_false_iff_ne.2; exact hwz
            clear hsc
            go_wp2_with (go_at_call 9; fail)
            refine S.mono ?_
            rintro e w6 ⟨v6, rfl, o6, b6⟩
            obtain ⟨ao6, l6, c6, rfl⟩ := row_shape o6
            have PH6 := o6.holds
            have hl6 : l6 = k := by rw [(own_cap o6).1, List.length_take, pcsL_len]; omega
            subst hl6
            have SP := samePieces_eq ao6 _ l6 c6 cw _ w6 PH6 ((HT.out.want.take l6 (by omega)).below b6) (by omega)
            have hB6 := hbr.trans (b6.mono hbr.size)
            clear o6 b6 S
            go_wp2_with (go_at_call 10; refine SP.mono ?_; rintro e w7 ⟨rfl, b7⟩)
            go_ret
            exact ⟨rfl, hB6.trans (b7.mono hB6.size)⟩
        · have t1 : ¬ ((j : Int) < 32) := by omega
          have t1' : decide ((j : Int) < 32) = false := by simpa using t1
          by_cases hwz : wy = 0
          · rw [if_pos hwz] at hsc
            subst hwz
            rw [hsc] at S
            clear hsc
            go_wp2_with (go_at_call 9; fail)
            refine S.mono ?_
            rintro e w6 ⟨v6, rfl, o6, b6⟩
            obtain ⟨ao6, l6, c6, rfl⟩ := row_shape o6
            have PH6 := o6.holds
            have hl6 : l6 = lw := by rw [(own_cap o6).1, HLW.out.1]
            subst hl6
            have SP := samePieces_eq ao6 _ l6 c6 cw _ w6 PH6 (HT.out.want.below b6) (by omega)
            have hB6 := hbr.trans (b6.mono hbr.size)
            have hll : ((catL fs).length : Int) = (lb : Int) := by rw [HLC.out]
            rw [hll]
            clear o6 b6 S
            go_wp2_with (go_at_call 10; refine SP.mono ?_; rintro e w7 ⟨rfl, b7⟩)
            go_ret
            exact ⟨rfl, hB6.trans (b7.mono hB6.size)⟩
          · rw [if_neg hwz] at hsc
            rw [hsc] at S
            have tw : (wy == 0) = false := by apply beq_eq_false_iff_ne.2; exact hwz
            clear hsc
            go_wp2_with (go_at_call 9; fail)
            refine S.mono ?_
            rintro e w6 ⟨v6, rfl, o6, b6⟩
            obtain ⟨ao6, l6, c6, rfl⟩ := row_shape o6
            have PH6 := o6.holds
            have hl6 : l6 = k := by rw [(own_cap o6).1, List.length_take, pcsL_len]; omega
            subst hl6
            have SP := samePieces_eq ao6 _ l6 c6 cw _ w6 PH6 ((HT.out.want.take l6 (by omega)).below b6) (by omega)
            have hB6 := hbr.trans (b6.mono hbr.size)
            clear o6 b6 S
            go_wp2_with (go_at_call 10; refine SP.mono ?_; rintro e w7 ⟨rfl, b7⟩)
            go_ret
            exact ⟨rfl, hB6.trans (b7.mono hB6.size)⟩
end Go.Proofs.Ythnfpapaknejnab
