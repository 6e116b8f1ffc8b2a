/-
  SdL.
-/
import Derived.Test.YtffdgpplgkmhiaaGreatDoorSdDq
import Derived.Test.YtffdgpplgkmhiaaGreatDoorSaNq
import Derived.Test.YtffdgpplgkmhiaaGreatDoorSdK
namespace Go.Proofs.YtffdgpplgkmhiaaGreatDoor
open Go Go.RowKit
set_option maxRecDepth 100000

structure DeR (w W : World) (la : Option Addr) (n1 : Nat) (L : List Pol) (ad : Option Addr) (n : Nat) (X : List Sp) (P : Nat → Pl) : Prop where
  pol : PolAt W la n1 L
  sps : SpsAt W ad n X P
  res : Blk W w.heap.size #[.bool false, .int .i64 0, .int .u64 0, .int .u64 0] 40
  tab : Tabs W
  low : Below w.heap.size w W
theorem DeR.below {w W W' : World} {la : Option Addr} {n1 : Nat} {L : List Pol} {ad : Option Addr} {n : Nat} {X : List Sp} {P : Nat → Pl} (h : DeR w W la n1 L ad n X P) (hb : Below W.heap.size W W') : DeR w W' la n1 L ad n X P :=
  ⟨h.pol.below hb, h.sps.below hb, h.res.below hb h.res.lt, h.tab.below hb, h.low.trans (hb.mono h.low.size)⟩
/-- The first policy that holds, so far. -/
def FirstK (L : List Pol) (X : List Sp) (k : Nat) (kb : Bool) (q : Int) : Prop := (kb = false ∧ q = -1 ∧ ∀ i (h : i < L.length), i < k → holdsB L[i] X = false) ∨ (kb = true ∧ ∃ i, ∃ h : i < L.length, i < k ∧ q = (i : Int) ∧ holdsB L[i] X = true ∧ ∀ j (hj : j < L.length), j < i → holdsB L[j] X = false)
theorem FirstK.skip {L : List Pol} {X : List Sp} {k : Nat} {kb : Bool} {q : Int} (h : FirstK L X k kb q) (hk : k < L.length) (hh : holdsB L[k] X = false) : FirstK L X (k + 1) kb q := by
  rcases h with ⟨h1, h2, h3⟩ | ⟨h1, i, hi, h2, h3, h4, h5⟩
  · refine Or.inl ⟨h1, h2, fun i hi hik => ?_⟩
    by_cases e : i = k
    · subst e; exact hh
    · exact h3 i hi (by omega)
  · exact Or.inr ⟨h1, i, hi, by omega, h3, h4, h5⟩
theorem FirstK.keep {L : List Pol} {X : List Sp} {k : Nat} {q : Int} (h : FirstK L X k true q) : FirstK L X (k + 1) true q := by
  rcases h with ⟨h1, _⟩ | ⟨h1, i, hi, h2, h3, h4, h5⟩
  · cases h1
  · exact Or.inr ⟨h1, i, hi, by omega, h3, h4, h5⟩
theorem FirstK.new {L : List Pol} {X : List Sp} {k : Nat} {q : Int} (h : FirstK L X k false q) (hk : k < L.length) (hh : holdsB L[k] X = true) : FirstK L X (k + 1) true (k : Int) := by
  rcases h with ⟨h1, h2, h3⟩ | ⟨h1, _⟩
  · exact Or.inr ⟨rfl, k, hk, by omega, rfl, hh, fun j hj hjk => h3 j hj hjk⟩
  · cases h1
theorem FirstK.none {L : List Pol} {X : List Sp} {q : Int} (h : FirstK L X L.length false q) : q = -1 ∧ FirstR L X (-1) := by
  rcases h with ⟨h1, h2, h3⟩ | ⟨h1, _⟩
  · refine ⟨h2, Or.inl ⟨rfl, ?_⟩⟩
    rw [List.any_eq_false]
    intro x hx
    obtain ⟨i, hi, rfl⟩ := List.mem_iff_getElem.1 hx
    rw [h3 i hi hi]
    decide
  · cases h1
theorem FirstK.some {L : List Pol} {X : List Sp} {k : Nat} {q : Int} (h : FirstK L X k true q) : 0 ≤ q ∧ FirstR L X q := by
  rcases h with ⟨h1, _⟩ | ⟨h1, i, hi, h2, h3, h4, h5⟩
  · cases h1
  · exact ⟨by omega, Or.inr ⟨i, hi, h3, h4, h5⟩⟩
theorem sure_next (L : List Pol) (X : List Sp) (k : Nat) (hk : k < L.length) : (L.take (k + 1)).any (fun p => sureB p X) = ((L.take k).any (fun p => sureB p X) || sureB L[k] X) := by
  rw [List.take_succ_eq_append_getElem hk, List.any_append]
  simp
/-- Where a round stands. -/
structure LoR (w wr : World) (L : List Pol) (X : List Sp) (b7 k : Nat) (sb : Bool) (m : Int) (kb : Bool) (q : Int) : Prop where
  low : Below w.heap.size w wr
  res : Blk wr w.heap.size #[.bool false, .int .i64 0, .int .u64 0, .int .u64 0] 40
  ver : Blk wr b7 #[.bool kb, .int .i64 q, .int .u64 0, .int .u64 0] 40
  part : maxPart (L.take k) = m
  sure : (L.take k).any (fun p => sureB p X) = sb
  first : FirstK L X k kb q
theorem chk_times {a : Sp} (h : chkS a = 0) : a.start ≤ 9223372036854775807 ∧ 0 ≤ a.fin := by
  unfold chkS at h
  split at h
  · cases h
  · split at h
    · cases h
    · rename_i h1 h2
      simp only [momB, Bool.or_eq_true, Bool.not_eq_true', Bool.and_eq_false_iff, decide_eq_false_iff_not, decide_eq_true_eq, not_or, Classical.not_not] at h2
      omega
set_option maxHeartbeats 4000000 in
theorem rDecide_any (la : Option Addr) (n1 c1 : Nat) (L : List Pol) (ad : Option Addr) (n cap : Nat) (X : List Sp) (P : Nat → Pl) (w : World) (hL : PolAt w la n1 L) (hs : ∀ p ∈ L, p.name.size ≤ 140737488355328) (hz : n1 ≤ 140737488355328) (hX : SpsAt w ad n X P) (hF : ∀ a ∈ X, a.Fits) (hS : ∀ a ∈ X, a.Small) (hnz : n ≤ 140737488355328) (hT : Tabs w) :
    Calls Tryz.prog 8 #[.slice la n1 c1, .slice ad n cap] w fun e w' => ∃ (k : Bool) (q g er : Int), e = .returned (.tuple #[.agg #[.bool k, .int .i64 q, .int .u64 0, .int .u64 g], .int .i64 er]) ∧ DecR L X k q g er ∧ Below w.heap.size w w' := by
  have E0 : DeR w (w.alloc (.cells #[.bool false, .int .i64 0, .int .u64 0, .int .u64 0] 40)) la n1 L ad n X P := by
    have b1 : Below w.heap.size w (w.alloc (.cells #[.bool false, .int .i64 0, .int .u64 0, .int .u64 0] 40)) := (Below.refl _ _).alloc (Nat.le_refl _) _
    exact ⟨hL.below b1, hX.below b1, Blk.new _ _ _, hT.below b1, b1⟩
  have CK := rCheckP_any la n1 c1 L _ E0.pol hs hz
  have HE0 : Hid (DeR w _ la n1 L ad n X P) := E0
  have HPO : Hid (PolAt w la n1 L) := hL
  have HSP : Hid (SpsAt w ad n X P) := hX
  have HF : Hid (∀ a ∈ X, a.Fits) := hF
  have HS : Hid (∀ a ∈ X, a.Small) := hS
  have HLL : Hid (L.length = n1) := hL.1
  have HXL : Hid (X.length = n) := hX.len
  clear hL hX hT hs hF hS E0
  obtain ⟨ck, hck⟩ : ∃ c, chkP L = c := ⟨_, rfl⟩
  have HCK : Hid (chkP L = ck) := hck
  have hcc := chkP_cases L
  rw [hck] at CK hcc
  clear hck
  have hcr : ck = 211 ∨ ck = 0 := by omega
  clear hcc
  rcases hcr with rfl | rfl
  · go_enter Tryz.func8, Tryz.ntmps8
    go_wp2_with (go_at_call 20; (with_reducible refine CK.mono ?_); clear CK; rintro e w1 ⟨rfl, hb1⟩; have E1 := HE0.out.below hb1; have HE1 : Hid (DeR w w1 la n1 L ad n X P) := E1; have o0 := E1.res.cell 0 rfl; have g0 := E1.res.frozen 0; have o1 := E1.res.cell 1 rfl; have g1 := E1.res.frozen 1; have o2 := E1.res.cell 2 rfl; have g2 := E1.res.frozen 2; have o3 := E1.res.cell 3 rfl; have g3 := E1.res.frozen 3; clear hb1 E1 HE0)
    (try simp only [Exit.inBlock, Exit.then])
    have hrow := (((HE1.out.res.set 0 (.bool false)).set 1 (.int .i64 0)).set 2 (.int .u64 0)).set 3 (.int .u64 0)
    have hld := run_loadVar_row (P := Tryz.prog) _ w.heap.size 40 40 #[.bool false, .int .i64 0, .int .u64 0, .int .u64 0] (0, 0) _ hrow Tryz.underlying40 rfl veSizeD
    have hs : w.heap.size ≤ w.heap.size := Nat.le_refl _
    refine bodyPost_ret (v := .tuple #[.agg #[.bool false, .int .i64 0, .int .u64 0, .int .u64 0], .int .i64 211]) ?_ rfl ⟨_, _, _, _, rfl, Or.inl ⟨by rw [HCK.out]; decide, rfl, rfl, rfl, HCK.out.symm⟩, (((HE1.out.low.setCell (p := ⟨w.heap.size, 0, none⟩) hs _).setCell (p := ⟨w.heap.size, 1, none⟩) hs _).setCell (p := ⟨w.heap.size, 2, none⟩) hs _).setCell (p := ⟨w.heap.size, 3, none⟩) hs _⟩
    rw [results_cell_tmp rfl]
    simp [asAddr, Result.andThen, hld]
  · have HM : Hid (L.length ≤ 20 ∧ ∀ p ∈ L, mayP p = true) := chkP_may HCK.out
    by_cases hO : OneT X
    · have HO : Hid (OneT X) := hO
      have HNS : Hid (n ≤ 1000) := by have := hO.len; rw [HXL.out] at this; exact this
      have HMO : Hid (∀ a ∈ X, a.start ≤ 9223372036854775807 ∧ 0 ≤ a.fin) := fun a ha => chk_times (hO.chk a ha)
      clear hO
      go_enter Tryz.func8, Tryz.ntmps8
      go_upto_region 9 with (first
        | (go_at_call 20; (with_reducible refine CK.mono ?_); clear CK; rintro e w1 ⟨rfl, hb1⟩; have E1 := HE0.out.below hb1; have HE1 : Hid (DeR w w1 la n1 L ad n X P) := E1; have OT := rTrace_any ad n cap X P w1 E1.sps HF.out HS.out hnz; clear hb1 E1 HE0)
        | (go_at_call 21; (with_reducible refine OT.mono ?_); clear OT; rintro e w2 ⟨t, rfl, ht, hb2⟩; obtain rfl : t = true := ht.2 HO.out; have E2 := HE1.out.below hb2; have HE2 : Hid (DeR w w2 la n1 L ad n X P) := E2; skip; clear hb2 E2 HE1 ht))
      obtain ⟨b7, hb7⟩ : ∃ y, w2.heap.size = y := ⟨_, rfl⟩
      obtain ⟨w3, hw3⟩ : ∃ W, w2.alloc (.cells #[.bool false, .int .i64 (-1), .int .u64 0, .int .u64 0] 40) = W := ⟨_, rfl⟩
      have HI0 : Hid (LoR w w3 L X b7 0 false 0 false (-1)) := by
        have hb : Below w2.heap.size w2 w3 := by rw [← hw3]; exact (Below.refl _ _).alloc (Nat.le_refl _) _
        have h2 := HE2.out.below hb
        exact ⟨h2.low, h2.res, by rw [← hw3, ← hb7]; exact Blk.new _ _ _, rfl, rfl, Or.inl ⟨rfl, rfl, fun i _ h => by omega⟩⟩
      have HB7 : Hid (w.heap.size < b7) := by show w.heap.size < b7; rw [← hb7]; exact HE2.out.res.lt
      (try rw [hw3])
      rw [hb7]
      clear hw3 hb7 HE2
      go_wp2
      go_loopw [8, 9, 10] (fun z8 z9 z10 wr => ∃ (k : Nat) (sb : Bool) (m : Int) (kb : Bool) (q : Int), z8 = .bool sb ∧ z9 = .int .i64 m ∧ z10 = .int .i64 k ∧ k ≤ n1 ∧ (n = 0 → k = 0) ∧ Hid (LoR w wr L X b7 k sb m kb q)) (fun _ _ z _ => n1 - (intOf z).toNat)
      case atStart => exact ⟨0, false, 0, false, -1, rfl, rfl, rfl, by omega, (fun _ => rfl), HI0⟩
      case round =>
        obtain ⟨k, sb, m, kb, q, rfl, rfl, rfl, hkn, hk0, HI⟩ := hrel
        clear HI0
        by_cases hgo : k < n1 ∧ 0 < n
        · obtain ⟨hlt, hn0⟩ := hgo
          clear hk0
          have hltd : decide ((k : Int) < (n1 : Int)) = true := decide_eq_true (by omega)
          have hltn : decide (k < n1) = true := decide_eq_true hlt
          have hn0d : decide ((0 : Int) < (n : Int)) = true := decide_eq_true (by omega)
          have hn0n : decide (0 < n) = true := decide_eq_true hn0
          have hkL : k < L.length := by rw [HLL.out]; exact hlt
          obtain ⟨b, o, rfl, hbl, hc⟩ := HPO.out.2 (by omega)
          have hci : ∀ j v, (polC L[k])[j]? = some v → wr.cell? ⟨b, o + k * 4 + j, none⟩ = some v := fun j v hv => (HI.out.low.cell (p := ⟨b, o + k * 4 + j, none⟩) hbl).trans (hc k hkL j v hv)
          have hbb : b ≠ b7 := by have := HB7.out; omega
          have HPN : Hid (maxPart (L.take (k + 1)) = (if (L[k]'hkL).kind = 4 then max m (L[k]'hkL).part else m) ∧ (L.take (k + 1)).any (fun p => sureB p X) = (sb || sureB (L[k]'hkL) X)) := by
            have h1 := maxPart_next L k hkL
            have h2 := sure_next L X k hkL
            rw [HI.out.part] at h1
            rw [HI.out.sure] at h2
            exact ⟨h1, h2⟩
          obtain ⟨y, hy⟩ : ∃ y, L[k]'hkL = y := ⟨_, rfl⟩
          rw [hy] at hci HPN
          have HY : Hid (∃ h : k < L.length, L[k] = y) := ⟨hkL, hy⟩
          have FA := rHolds_any y ad n cap X P wr (HSP.out.below HI.out.low) HF.out HNS.out hn0 HMO.out
          have c0 := hci 0 _ rfl
          have c1 := hci 1 _ rfl
          have c2 := hci 2 _ rfl
          have c3 := hci 3 _ rfl
          rw [Nat.add_zero] at c0
          unfold polV at FA
          clear hc hci hy hbl
          obtain ⟨hb, hhb⟩ : ∃ t, holdsB y X = t := ⟨_, rfl⟩
          have HHB : Hid (holdsB y X = hb) := hhb
          rw [hhb] at FA
          clear hhb
          obtain ⟨kd, hkd⟩ : ∃ t, y.kind = t := ⟨_, rfl⟩
          have HKD : Hid (y.kind = kd) := hkd
          rw [hkd] at c0 FA HPN
          clear hkd
          obtain ⟨k4, hk4⟩ : ∃ t, decide (kd = 4) = t := ⟨_, rfl⟩
          have hk4b : (kd == 4) = k4 := by rw [← hk4]; by_cases h : kd = 4 <;> simp [h]
          have hk4c : (kd != 4) = !k4 := by rw [← hk4]; by_cases h : kd = 4 <;> simp [h]
          have HSU : Hid (sureB y X = (!k4 && hb)) := by
            show sureB y X = (!k4 && hb)
            unfold sureB
            rw [HKD.out, HHB.out, hk4]
          have HPT : Hid ((if kd = 4 then max m y.part else m) = if k4 = true then max m y.part else m) := by
            show (if kd = 4 then max m y.part else m) = if k4 = true then max m y.part else m
            rw [← hk4]
            by_cases h : kd = 4 <;> simp [h]
          clear hk4
          rcases k4 with _ | _
          · have hk4d : ¬ kd = 4 := by simpa using hk4b
            rcases hb with _ | _
            · have NXF : Hid (∀ w4, Below wr.heap.size wr w4 → LoR w w4 L X b7 (k + 1) sb (m) kb q) := fun w4 hb4 => by
                refine ⟨HI.out.low.trans (hb4.mono HI.out.low.size), HI.out.res.below hb4 HI.out.res.lt, HI.out.ver.below hb4 HI.out.ver.lt, ?_, ?_, HI.out.first.skip HY.out.1 (by rw [HY.out.2]; exact HHB.out)⟩
                · rw [HPN.out.1, HPT.out]; rfl
                · rw [HPN.out.2, HSU.out]; simp
              go_wp2_with (go_at_call 22; (with_reducible refine FA.mono ?_); clear FA; rintro e w4 ⟨rfl, hb4⟩; have HI4 : Hid (LoR w w4 L X b7 (k + 1) sb (m) kb q) := NXF.out w4 hb4; clear hb4)
              go_roundw
              case rel => exact ⟨k + 1, _, _, _, _, rfl, rfl, by simp, by omega, (fun h => absurd h (by omega)), HI4⟩
              case measure => (simp [intOf]; omega)
            · rcases kb with _ | _
              · rcases sb with _ | _
                · have NXF : Hid (∀ w4, Below wr.heap.size wr w4 → LoR w ((w4.setCell ⟨b7, 0, none⟩ (.bool true)).setCell ⟨b7, 1, none⟩ (.int .i64 (k : Int))) L X b7 (k + 1) true (m) true (k : Int)) := fun w4 hb4 => by
                    have LL := HI.out.low.trans (hb4.mono HI.out.low.size)
                    have RR := HI.out.res.below hb4 HI.out.res.lt
                    have VV := HI.out.ver.below hb4 HI.out.ver.lt
                    have hl7 := HB7.out
                    have hu : Upd (fun j => j = b7) w4 ((w4.setCell ⟨b7, 0, none⟩ (.bool true)).setCell ⟨b7, 1, none⟩ (.int .i64 (k : Int))) := ((Upd.refl (fun j => j = b7) w4).setCell (p := ⟨b7, 0, none⟩) (fun _ => rfl) _).setCell (p := ⟨b7, 1, none⟩) (fun _ => rfl) _
                    have VV2 := (VV.set 0 (.bool true)).set 1 (.int .i64 (k : Int))
                    refine ⟨LL.trans (hu.below LL.size (fun j hj e => by omega)), RR.upd hu (fun e => by omega), VV2, ?_, ?_, HI.out.first.new HY.out.1 (by rw [HY.out.2]; exact HHB.out)⟩
                    · rw [HPN.out.1, HPT.out]; rfl
                    · rw [HPN.out.2, HSU.out]; rfl
                  have V7 : Hid (∀ w4, Below wr.heap.size wr w4 → Blk w4 b7 #[.bool false, .int .i64 q, .int .u64 0, .int .u64 0] 40 ∧ w4.cell? ⟨b, o + k * 4, none⟩ = some (.int .i64 kd)) := fun w4 hb4 => ⟨HI.out.ver.below hb4 HI.out.ver.lt, (hb4.cell (p := ⟨b, o + k * 4, none⟩) (World.block_lt_of_cell? wr _ c0)).trans c0⟩
                  go_wp2_with (go_at_call 22; (with_reducible refine FA.mono ?_); clear FA; rintro e w4 ⟨rfl, hb4⟩; obtain ⟨vv, e0⟩ := V7.out w4 hb4; have o0 := vv.cell 0 rfl; have o1 := vv.cell 1 rfl; have f0 := vv.frozen 0; have f1 := vv.frozen 1; have HI4 := NXF.out w4 hb4; have HI5 : Hid _ := HI4; clear hb4 HI4 vv)
                  go_roundw
                  case rel => exact ⟨k + 1, _, _, _, _, rfl, rfl, by simp, by omega, (fun h => absurd h (by omega)), HI5⟩
                  case measure => (simp [intOf]; omega)
                · have NXF : Hid (∀ w4, Below wr.heap.size wr w4 → LoR w ((w4.setCell ⟨b7, 0, none⟩ (.bool true)).setCell ⟨b7, 1, none⟩ (.int .i64 (k : Int))) L X b7 (k + 1) true (m) true (k : Int)) := fun w4 hb4 => by
                    have LL := HI.out.low.trans (hb4.mono HI.out.low.size)
                    have RR := HI.out.res.below hb4 HI.out.res.lt
                    have VV := HI.out.ver.below hb4 HI.out.ver.lt
                    have hl7 := HB7.out
                    have hu : Upd (fun j => j = b7) w4 ((w4.setCell ⟨b7, 0, none⟩ (.bool true)).setCell ⟨b7, 1, none⟩ (.int .i64 (k : Int))) := ((Upd.refl (fun j => j = b7) w4).setCell (p := ⟨b7, 0, none⟩) (fun _ => rfl) _).setCell (p := ⟨b7, 1, none⟩) (fun _ => rfl) _
                    have VV2 := (VV.set 0 (.bool true)).set 1 (.int .i64 (k : Int))
                    refine ⟨LL.trans (hu.below LL.size (fun j hj e => by omega)), RR.upd hu (fun e => by omega), VV2, ?_, ?_, HI.out.first.new HY.out.1 (by rw [HY.out.2]; exact HHB.out)⟩
                    · rw [HPN.out.1, HPT.out]; rfl
                    · rw [HPN.out.2, HSU.out]; rfl
                  have V7 : Hid (∀ w4, Below wr.heap.size wr w4 → Blk w4 b7 #[.bool false, .int .i64 q, .int .u64 0, .int .u64 0] 40 ∧ w4.cell? ⟨b, o + k * 4, none⟩ = some (.int .i64 kd)) := fun w4 hb4 => ⟨HI.out.ver.below hb4 HI.out.ver.lt, (hb4.cell (p := ⟨b, o + k * 4, none⟩) (World.block_lt_of_cell? wr _ c0)).trans c0⟩
                  go_wp2_with (go_at_call 22; (with_reducible refine FA.mono ?_); clear FA; rintro e w4 ⟨rfl, hb4⟩; obtain ⟨vv, e0⟩ := V7.out w4 hb4; have o0 := vv.cell 0 rfl; have o1 := vv.cell 1 rfl; have f0 := vv.frozen 0; have f1 := vv.frozen 1; have HI4 := NXF.out w4 hb4; have HI5 : Hid _ := HI4; clear hb4 HI4 vv)
                  go_roundw
                  case rel => exact ⟨k + 1, _, _, _, _, rfl, rfl, by simp, by omega, (fun h => absurd h (by omega)), HI5⟩
                  case measure => (simp [intOf]; omega)
              · rcases sb with _ | _
                · have NXF : Hid (∀ w4, Below wr.heap.size wr w4 → LoR w w4 L X b7 (k + 1) true (m) true q) := fun w4 hb4 => by
                    have LL := HI.out.low.trans (hb4.mono HI.out.low.size)
                    have RR := HI.out.res.below hb4 HI.out.res.lt
                    have VV := HI.out.ver.below hb4 HI.out.ver.lt
                    refine ⟨LL, RR, VV, ?_, ?_, HI.out.first.keep⟩
                    · rw [HPN.out.1, HPT.out]; rfl
                    · rw [HPN.out.2, HSU.out]; rfl
                  have V7 : Hid (∀ w4, Below wr.heap.size wr w4 → Blk w4 b7 #[.bool true, .int .i64 q, .int .u64 0, .int .u64 0] 40 ∧ w4.cell? ⟨b, o + k * 4, none⟩ = some (.int .i64 kd)) := fun w4 hb4 => ⟨HI.out.ver.below hb4 HI.out.ver.lt, (hb4.cell (p := ⟨b, o + k * 4, none⟩) (World.block_lt_of_cell? wr _ c0)).trans c0⟩
                  go_wp2_with (go_at_call 22; (with_reducible refine FA.mono ?_); clear FA; rintro e w4 ⟨rfl, hb4⟩; obtain ⟨vv, e0⟩ := V7.out w4 hb4; have o0 := vv.cell 0 rfl; have o1 := vv.cell 1 rfl; have f0 := vv.frozen 0; have f1 := vv.frozen 1; have HI4 := NXF.out w4 hb4; have HI5 : Hid _ := HI4; clear hb4 HI4 vv)
                  go_roundw
                  case rel => exact ⟨k + 1, _, _, _, _, rfl, rfl, by simp, by omega, (fun h => absurd h (by omega)), HI5⟩
                  case measure => (simp [intOf]; omega)
                · have NXF : Hid (∀ w4, Below wr.heap.size wr w4 → LoR w w4 L X b7 (k + 1) true (m) true q) := fun w4 hb4 => by
                    have LL := HI.out.low.trans (hb4.mono HI.out.low.size)
                    have RR := HI.out.res.below hb4 HI.out.res.lt
                    have VV := HI.out.ver.below hb4 HI.out.ver.lt
                    refine ⟨LL, RR, VV, ?_, ?_, HI.out.first.keep⟩
                    · rw [HPN.out.1, HPT.out]; rfl
                    · rw [HPN.out.2, HSU.out]; rfl
                  have V7 : Hid (∀ w4, Below wr.heap.size wr w4 → Blk w4 b7 #[.bool true, .int .i64 q, .int .u64 0, .int .u64 0] 40 ∧ w4.cell? ⟨b, o + k * 4, none⟩ = some (.int .i64 kd)) := fun w4 hb4 => ⟨HI.out.ver.below hb4 HI.out.ver.lt, (hb4.cell (p := ⟨b, o + k * 4, none⟩) (World.block_lt_of_cell? wr _ c0)).trans c0⟩
                  go_wp2_with (go_at_call 22; (with_reducible refine FA.mono ?_); clear FA; rintro e w4 ⟨rfl, hb4⟩; obtain ⟨vv, e0⟩ := V7.out w4 hb4; have o0 := vv.cell 0 rfl; have o1 := vv.cell 1 rfl; have f0 := vv.frozen 0; have f1 := vv.frozen 1; have HI4 := NXF.out w4 hb4; have HI5 : Hid _ := HI4; clear hb4 HI4 vv)
                  go_roundw
                  case rel => exact ⟨k + 1, _, _, _, _, rfl, rfl, by simp, by omega, (fun h => absurd h (by omega)), HI5⟩
                  case measure => (simp [intOf]; omega)
          · have hk4d : kd = 4 := by simpa using hk4b
            subst hk4d
            rcases hb with _ | _
            · have NXF : Hid (∀ w4, Below wr.heap.size wr w4 → LoR w w4 L X b7 (k + 1) sb (max m y.part) kb q) := fun w4 hb4 => by
                refine ⟨HI.out.low.trans (hb4.mono HI.out.low.size), HI.out.res.below hb4 HI.out.res.lt, HI.out.ver.below hb4 HI.out.ver.lt, ?_, ?_, HI.out.first.skip HY.out.1 (by rw [HY.out.2]; exact HHB.out)⟩
                · rw [HPN.out.1, HPT.out]; rfl
                · rw [HPN.out.2, HSU.out]; simp
              go_wp2_with (go_at_call 22; (with_reducible refine FA.mono ?_); clear FA; rintro e w4 ⟨rfl, hb4⟩; have HI4 : Hid (LoR w w4 L X b7 (k + 1) sb (max m y.part) kb q) := NXF.out w4 hb4; clear hb4)
              go_roundw
              case rel => exact ⟨k + 1, _, _, _, _, rfl, rfl, by simp, by omega, (fun h => absurd h (by omega)), HI4⟩
              case measure => (simp [intOf]; omega)
            · rcases kb with _ | _
              · rcases sb with _ | _
                · have NXF : Hid (∀ w4, Below wr.heap.size wr w4 → LoR w ((w4.setCell ⟨b7, 0, none⟩ (.bool true)).setCell ⟨b7, 1, none⟩ (.int .i64 (k : Int))) L X b7 (k + 1) false (max m y.part) true (k : Int)) := fun w4 hb4 => by
                    have LL := HI.out.low.trans (hb4.mono HI.out.low.size)
                    have RR := HI.out.res.below hb4 HI.out.res.lt
                    have VV := HI.out.ver.below hb4 HI.out.ver.lt
                    have hl7 := HB7.out
                    have hu : Upd (fun j => j = b7) w4 ((w4.setCell ⟨b7, 0, none⟩ (.bool true)).setCell ⟨b7, 1, none⟩ (.int .i64 (k : Int))) := ((Upd.refl (fun j => j = b7) w4).setCell (p := ⟨b7, 0, none⟩) (fun _ => rfl) _).setCell (p := ⟨b7, 1, none⟩) (fun _ => rfl) _
                    have VV2 := (VV.set 0 (.bool true)).set 1 (.int .i64 (k : Int))
                    refine ⟨LL.trans (hu.below LL.size (fun j hj e => by omega)), RR.upd hu (fun e => by omega), VV2, ?_, ?_, HI.out.first.new HY.out.1 (by rw [HY.out.2]; exact HHB.out)⟩
                    · rw [HPN.out.1, HPT.out]; rfl
                    · rw [HPN.out.2, HSU.out]; rfl
                  have V7 : Hid (∀ w4, Below wr.heap.size wr w4 → Blk w4 b7 #[.bool false, .int .i64 q, .int .u64 0, .int .u64 0] 40 ∧ w4.cell? ⟨b, o + k * 4, none⟩ = some (.int .i64 4)) := fun w4 hb4 => ⟨HI.out.ver.below hb4 HI.out.ver.lt, (hb4.cell (p := ⟨b, o + k * 4, none⟩) (World.block_lt_of_cell? wr _ c0)).trans c0⟩
                  go_wp2_with (go_at_call 22; (with_reducible refine FA.mono ?_); clear FA; rintro e w4 ⟨rfl, hb4⟩; obtain ⟨vv, e0⟩ := V7.out w4 hb4; have o0 := vv.cell 0 rfl; have o1 := vv.cell 1 rfl; have f0 := vv.frozen 0; have f1 := vv.frozen 1; have HI4 := NXF.out w4 hb4; have HI5 : Hid _ := HI4; clear hb4 HI4 vv)
                  go_roundw
                  case rel => exact ⟨k + 1, _, _, _, _, rfl, rfl, by simp, by omega, (fun h => absurd h (by omega)), HI5⟩
                  case measure => (simp [intOf]; omega)
                · have NXF : Hid (∀ w4, Below wr.heap.size wr w4 → LoR w ((w4.setCell ⟨b7, 0, none⟩ (.bool true)).setCell ⟨b7, 1, none⟩ (.int .i64 (k : Int))) L X b7 (k + 1) true (max m y.part) true (k : Int)) := fun w4 hb4 => by
                    have LL := HI.out.low.trans (hb4.mono HI.out.low.size)
                    have RR := HI.out.res.below hb4 HI.out.res.lt
                    have VV := HI.out.ver.below hb4 HI.out.ver.lt
                    have hl7 := HB7.out
                    have hu : Upd (fun j => j = b7) w4 ((w4.setCell ⟨b7, 0, none⟩ (.bool true)).setCell ⟨b7, 1, none⟩ (.int .i64 (k : Int))) := ((Upd.refl (fun j => j = b7) w4).setCell (p := ⟨b7, 0, none⟩) (fun _ => rfl) _).setCell (p := ⟨b7, 1, none⟩) (fun _ => rfl) _
                    have VV2 := (VV.set 0 (.bool true)).set 1 (.int .i64 (k : Int))
                    refine ⟨LL.trans (hu.below LL.size (fun j hj e => by omega)), RR.upd hu (fun e => by omega), VV2, ?_, ?_, HI.out.first.new HY.out.1 (by rw [HY.out.2]; exact HHB.out)⟩
                    · rw [HPN.out.1, HPT.out]; rfl
                    · rw [HPN.out.2, HSU.out]; rfl
                  have V7 : Hid (∀ w4, Below wr.heap.size wr w4 → Blk w4 b7 #[.bool false, .int .i64 q, .int .u64 0, .int .u64 0] 40 ∧ w4.cell? ⟨b, o + k * 4, none⟩ = some (.int .i64 4)) := fun w4 hb4 => ⟨HI.out.ver.below hb4 HI.out.ver.lt, (hb4.cell (p := ⟨b, o + k * 4, none⟩) (World.block_lt_of_cell? wr _ c0)).trans c0⟩
                  go_wp2_with (go_at_call 22; (with_reducible refine FA.mono ?_); clear FA; rintro e w4 ⟨rfl, hb4⟩; obtain ⟨vv, e0⟩ := V7.out w4 hb4; have o0 := vv.cell 0 rfl; have o1 := vv.cell 1 rfl; have f0 := vv.frozen 0; have f1 := vv.frozen 1; have HI4 := NXF.out w4 hb4; have HI5 : Hid _ := HI4; clear hb4 HI4 vv)
                  go_roundw
                  case rel => exact ⟨k + 1, _, _, _, _, rfl, rfl, by simp, by omega, (fun h => absurd h (by omega)), HI5⟩
                  case measure => (simp [intOf]; omega)
              · rcases sb with _ | _
                · have NXF : Hid (∀ w4, Below wr.heap.size wr w4 → LoR w w4 L X b7 (k + 1) false (max m y.part) true q) := fun w4 hb4 => by
                    have LL := HI.out.low.trans (hb4.mono HI.out.low.size)
                    have RR := HI.out.res.below hb4 HI.out.res.lt
                    have VV := HI.out.ver.below hb4 HI.out.ver.lt
                    refine ⟨LL, RR, VV, ?_, ?_, HI.out.first.keep⟩
                    · rw [HPN.out.1, HPT.out]; rfl
                    · rw [HPN.out.2, HSU.out]; rfl
                  have V7 : Hid (∀ w4, Below wr.heap.size wr w4 → Blk w4 b7 #[.bool true, .int .i64 q, .int .u64 0, .int .u64 0] 40 ∧ w4.cell? ⟨b, o + k * 4, none⟩ = some (.int .i64 4)) := fun w4 hb4 => ⟨HI.out.ver.below hb4 HI.out.ver.lt, (hb4.cell (p := ⟨b, o + k * 4, none⟩) (World.block_lt_of_cell? wr _ c0)).trans c0⟩
                  go_wp2_with (go_at_call 22; (with_reducible refine FA.mono ?_); clear FA; rintro e w4 ⟨rfl, hb4⟩; obtain ⟨vv, e0⟩ := V7.out w4 hb4; have o0 := vv.cell 0 rfl; have o1 := vv.cell 1 rfl; have f0 := vv.frozen 0; have f1 := vv.frozen 1; have HI4 := NXF.out w4 hb4; have HI5 : Hid _ := HI4; clear hb4 HI4 vv)
                  go_roundw
                  case rel => exact ⟨k + 1, _, _, _, _, rfl, rfl, by simp, by omega, (fun h => absurd h (by omega)), HI5⟩
                  case measure => (simp [intOf]; omega)
                · have NXF : Hid (∀ w4, Below wr.heap.size wr w4 → LoR w w4 L X b7 (k + 1) true (max m y.part) true q) := fun w4 hb4 => by
                    have LL := HI.out.low.trans (hb4.mono HI.out.low.size)
                    have RR := HI.out.res.below hb4 HI.out.res.lt
                    have VV := HI.out.ver.below hb4 HI.out.ver.lt
                    refine ⟨LL, RR, VV, ?_, ?_, HI.out.first.keep⟩
                    · rw [HPN.out.1, HPT.out]; rfl
                    · rw [HPN.out.2, HSU.out]; rfl
                  have V7 : Hid (∀ w4, Below wr.heap.size wr w4 → Blk w4 b7 #[.bool true, .int .i64 q, .int .u64 0, .int .u64 0] 40 ∧ w4.cell? ⟨b, o + k * 4, none⟩ = some (.int .i64 4)) := fun w4 hb4 => ⟨HI.out.ver.below hb4 HI.out.ver.lt, (hb4.cell (p := ⟨b, o + k * 4, none⟩) (World.block_lt_of_cell? wr _ c0)).trans c0⟩
                  go_wp2_with (go_at_call 22; (with_reducible refine FA.mono ?_); clear FA; rintro e w4 ⟨rfl, hb4⟩; obtain ⟨vv, e0⟩ := V7.out w4 hb4; have o0 := vv.cell 0 rfl; have o1 := vv.cell 1 rfl; have f0 := vv.frozen 0; have f1 := vv.frozen 1; have HI4 := NXF.out w4 hb4; have HI5 : Hid _ := HI4; clear hb4 HI4 vv)
                  go_roundw
                  case rel => exact ⟨k + 1, _, _, _, _, rfl, rfl, by simp, by omega, (fun h => absurd h (by omega)), HI5⟩
                  case measure => (simp [intOf]; omega)
        · by_cases hn0 : n = 0
          · have hk := hk0 hn0
            subst hk
            have hX0 : X = [] := List.eq_nil_of_length_eq_zero (by rw [HXL.out]; exact hn0)
            have hn0d : decide ((0 : Int) < (n : Int)) = false := decide_eq_false (by omega)
            have hn0n : decide (0 < n) = false := decide_eq_false (by omega)
            have hfk : kb = false ∧ q = -1 := by
              rcases HI.out.first with ⟨h1, h2, _⟩ | ⟨_, i, _, h, _⟩
              · exact ⟨h1, h2⟩
              · omega
            obtain ⟨hkb, hq⟩ := hfk
            subst hkb
            have hsb : sb = false := by rw [← HI.out.sure]; rfl
            subst hsb
            have hfk : q = -1 ∧ (X = [] ∨ FirstR L X (-1)) := ⟨hq, Or.inl hX0⟩
            clear hq hX0 hn0 hgo hk0
            by_cases hnp : 0 < n1
            · obtain ⟨hq, hfr⟩ := hfk
              subst hq
              have RB := HI.out.res
              have LB : Hid (Below w.heap.size w wr) := HI.out.low
              have VB := HI.out.ver
              have HRB : Hid (Blk wr w.heap.size #[.bool false, .int .i64 0, .int .u64 0, .int .u64 0] 40) := RB
              have HFR : Hid (X = [] ∨ FirstR L X (-1)) := hfr
              have o0 : wr.cell? ⟨b7, 0, none⟩ = _ := VB.cell 0 rfl
              have o1 : wr.cell? ⟨b7, 1, none⟩ = _ := VB.cell 1 rfl
              have o2 : wr.cell? ⟨b7, 2, none⟩ = _ := VB.cell 2 rfl
              have o3 : wr.cell? ⟨b7, 3, none⟩ = _ := VB.cell 3 rfl
              have r0 : wr.cell? ⟨w.heap.size, 0, none⟩ = _ := RB.cell 0 rfl
              have h0 : wr.frozen? ⟨w.heap.size, 0, none⟩ = false := RB.frozen 0
              have r1 : wr.cell? ⟨w.heap.size, 1, none⟩ = _ := RB.cell 1 rfl
              have h1 : wr.frozen? ⟨w.heap.size, 1, none⟩ = false := RB.frozen 1
              have r2 : wr.cell? ⟨w.heap.size, 2, none⟩ = _ := RB.cell 2 rfl
              have h2 : wr.frozen? ⟨w.heap.size, 2, none⟩ = false := RB.frozen 2
              have r3 : wr.cell? ⟨w.heap.size, 3, none⟩ = _ := RB.cell 3 rfl
              have h3 : wr.frozen? ⟨w.heap.size, 3, none⟩ = false := RB.frozen 3
              clear RB VB HI hfr
              have hkd : decide ((0 : Int) < (n1 : Int)) = true := decide_eq_true (by omega)
              have hkn2 : decide (0 < n1) = true := decide_eq_true hnp
              clear hnp
              go_wp2
              (try simp only [Exit.inBlock, Exit.then])
              have hrow := (((HRB.out.set 0 (.bool false)).set 1 (.int .i64 (-1))).set 2 (.int .u64 0)).set 3 (.int .u64 0)
              have hld := run_loadVar_row (P := Tryz.prog) _ w.heap.size 40 40 #[.bool false, .int .i64 (-1), .int .u64 0, .int .u64 0] (0, 0) _ hrow Tryz.underlying40 rfl veSizeD
              have hs : w.heap.size ≤ w.heap.size := Nat.le_refl _
              refine bodyPost_ret (v := .tuple #[.agg #[.bool false, .int .i64 (-1), .int .u64 0, .int .u64 0], .int .i64 0]) ?_ rfl ⟨_, _, _, _, rfl, Or.inr (Or.inr (Or.inl ⟨HCK.out, HO.out, HFR.out, rfl, rfl, rfl, rfl⟩)), (((LB.out.setCell (p := ⟨w.heap.size, 0, none⟩) hs _).setCell (p := ⟨w.heap.size, 1, none⟩) hs _).setCell (p := ⟨w.heap.size, 2, none⟩) hs _).setCell (p := ⟨w.heap.size, 3, none⟩) hs _⟩
              rw [results_cell_tmp rfl]
              simp [asAddr, Result.andThen, hld]
            · obtain ⟨hq, hfr⟩ := hfk
              subst hq
              have RB := HI.out.res
              have LB : Hid (Below w.heap.size w wr) := HI.out.low
              have VB := HI.out.ver
              have HRB : Hid (Blk wr w.heap.size #[.bool false, .int .i64 0, .int .u64 0, .int .u64 0] 40) := RB
              have HFR : Hid (X = [] ∨ FirstR L X (-1)) := hfr
              have o0 : wr.cell? ⟨b7, 0, none⟩ = _ := VB.cell 0 rfl
              have o1 : wr.cell? ⟨b7, 1, none⟩ = _ := VB.cell 1 rfl
              have o2 : wr.cell? ⟨b7, 2, none⟩ = _ := VB.cell 2 rfl
              have o3 : wr.cell? ⟨b7, 3, none⟩ = _ := VB.cell 3 rfl
              have r0 : wr.cell? ⟨w.heap.size, 0, none⟩ = _ := RB.cell 0 rfl
              have h0 : wr.frozen? ⟨w.heap.size, 0, none⟩ = false := RB.frozen 0
              have r1 : wr.cell? ⟨w.heap.size, 1, none⟩ = _ := RB.cell 1 rfl
              have h1 : wr.frozen? ⟨w.heap.size, 1, none⟩ = false := RB.frozen 1
              have r2 : wr.cell? ⟨w.heap.size, 2, none⟩ = _ := RB.cell 2 rfl
              have h2 : wr.frozen? ⟨w.heap.size, 2, none⟩ = false := RB.frozen 2
              have r3 : wr.cell? ⟨w.heap.size, 3, none⟩ = _ := RB.cell 3 rfl
              have h3 : wr.frozen? ⟨w.heap.size, 3, none⟩ = false := RB.frozen 3
              clear RB VB HI hfr
              have hkd : decide ((0 : Int) < (n1 : Int)) = false := decide_eq_false (by omega)
              have hkn2 : decide (0 < n1) = false := decide_eq_false hnp
              clear hnp
              go_wp2
              (try simp only [Exit.inBlock, Exit.then])
              have hrow := (((HRB.out.set 0 (.bool false)).set 1 (.int .i64 (-1))).set 2 (.int .u64 0)).set 3 (.int .u64 0)
              have hld := run_loadVar_row (P := Tryz.prog) _ w.heap.size 40 40 #[.bool false, .int .i64 (-1), .int .u64 0, .int .u64 0] (0, 0) _ hrow Tryz.underlying40 rfl veSizeD
              have hs : w.heap.size ≤ w.heap.size := Nat.le_refl _
              refine bodyPost_ret (v := .tuple #[.agg #[.bool false, .int .i64 (-1), .int .u64 0, .int .u64 0], .int .i64 0]) ?_ rfl ⟨_, _, _, _, rfl, Or.inr (Or.inr (Or.inl ⟨HCK.out, HO.out, HFR.out, rfl, rfl, rfl, rfl⟩)), (((LB.out.setCell (p := ⟨w.heap.size, 0, none⟩) hs _).setCell (p := ⟨w.heap.size, 1, none⟩) hs _).setCell (p := ⟨w.heap.size, 2, none⟩) hs _).setCell (p := ⟨w.heap.size, 3, none⟩) hs _⟩
              rw [results_cell_tmp rfl]
              simp [asAddr, Result.andThen, hld]
          · have hk : k = n1 := by omega
            have hkL : k = L.length := by rw [HLL.out]; exact hk
            have HNX : Hid (X ≠ []) := fun e => by have := HXL.out; rw [e] at this; exact hn0 this.symm
            have hpt := HI.out.part
            have hsu := HI.out.sure
            rw [List.take_of_length_le (by omega)] at hpt hsu
            have hfi := HI.out.first
            rcases kb with _ | _
            · have hsb : sb = false := by
                rw [← hsu, List.any_eq_false]
                intro x hx
                have h3 := (show FirstK L X L.length false q by rw [← hkL]; exact hfi).none.2
                rcases h3 with ⟨_, h4⟩ | ⟨i, hi, h4, _⟩
                · rw [List.any_eq_false] at h4
                  have := h4 x hx
                  unfold sureB
                  simp only [Bool.and_eq_true, not_and]
                  exact fun _ => this
                · omega
              subst hsb
              have hfk : q = -1 ∧ (X = [] ∨ FirstR L X (-1)) := by
                have h3 := (show FirstK L X L.length false q by rw [← hkL]; exact hfi).none
                exact ⟨h3.1, Or.inr h3.2⟩
              clear hfi hsu hpt hkL hk0 hgo hn0
              obtain ⟨hq, hfr⟩ := hfk
              subst hq
              have RB := HI.out.res
              have LB : Hid (Below w.heap.size w wr) := HI.out.low
              have VB := HI.out.ver
              have HRB : Hid (Blk wr w.heap.size #[.bool false, .int .i64 0, .int .u64 0, .int .u64 0] 40) := RB
              have HFR : Hid (X = [] ∨ FirstR L X (-1)) := hfr
              have o0 : wr.cell? ⟨b7, 0, none⟩ = _ := VB.cell 0 rfl
              have o1 : wr.cell? ⟨b7, 1, none⟩ = _ := VB.cell 1 rfl
              have o2 : wr.cell? ⟨b7, 2, none⟩ = _ := VB.cell 2 rfl
              have o3 : wr.cell? ⟨b7, 3, none⟩ = _ := VB.cell 3 rfl
              have r0 : wr.cell? ⟨w.heap.size, 0, none⟩ = _ := RB.cell 0 rfl
              have h0 : wr.frozen? ⟨w.heap.size, 0, none⟩ = false := RB.frozen 0
              have r1 : wr.cell? ⟨w.heap.size, 1, none⟩ = _ := RB.cell 1 rfl
              have h1 : wr.frozen? ⟨w.heap.size, 1, none⟩ = false := RB.frozen 1
              have r2 : wr.cell? ⟨w.heap.size, 2, none⟩ = _ := RB.cell 2 rfl
              have h2 : wr.frozen? ⟨w.heap.size, 2, none⟩ = false := RB.frozen 2
              have r3 : wr.cell? ⟨w.heap.size, 3, none⟩ = _ := RB.cell 3 rfl
              have h3 : wr.frozen? ⟨w.heap.size, 3, none⟩ = false := RB.frozen 3
              clear RB VB HI hfr
              have hkd : decide ((k : Int) < (n1 : Int)) = false := decide_eq_false (by omega)
              have hkn2 : decide (k < n1) = false := decide_eq_false (by omega)
              clear hk
              go_wp2
              (try simp only [Exit.inBlock, Exit.then])
              have hrow := (((HRB.out.set 0 (.bool false)).set 1 (.int .i64 (-1))).set 2 (.int .u64 0)).set 3 (.int .u64 0)
              have hld := run_loadVar_row (P := Tryz.prog) _ w.heap.size 40 40 #[.bool false, .int .i64 (-1), .int .u64 0, .int .u64 0] (0, 0) _ hrow Tryz.underlying40 rfl veSizeD
              have hs : w.heap.size ≤ w.heap.size := Nat.le_refl _
              refine bodyPost_ret (v := .tuple #[.agg #[.bool false, .int .i64 (-1), .int .u64 0, .int .u64 0], .int .i64 0]) ?_ rfl ⟨_, _, _, _, rfl, Or.inr (Or.inr (Or.inl ⟨HCK.out, HO.out, HFR.out, rfl, rfl, rfl, rfl⟩)), (((LB.out.setCell (p := ⟨w.heap.size, 0, none⟩) hs _).setCell (p := ⟨w.heap.size, 1, none⟩) hs _).setCell (p := ⟨w.heap.size, 2, none⟩) hs _).setCell (p := ⟨w.heap.size, 3, none⟩) hs _⟩
              rw [results_cell_tmp rfl]
              simp [asAddr, Result.andThen, hld]
            · have hfk : True := trivial
              have hle := maxPart_le L HM.out.2
              have hwe := first_weighs HM.out.2 HNX.out HF.out hfi.some.2 hfi.some.1
              rcases sb with _ | _
              · have hmp : 0 < m := by
                  rcases hwe with h | h
                  · rw [hsu] at h; cases h
                  · rw [← hpt]; exact h
                have HMP : Hid (0 < m) := hmp
                obtain ⟨gg, hgg⟩ : ∃ x, 4294967296 / m = x := ⟨_, rfl⟩
                have HWE : Hid (gg = weightN L X) := by
                  show gg = weightN L X
                  unfold weightN
                  rw [hsu, hpt, ← hgg]
                  simp
                rw [hpt] at hle
                have wq : IntKind.u64.wrap (Int.tdiv 4294967296 m) = gg := by
                  have h1 : 0 ≤ 4294967296 / m := Int.ediv_nonneg (by omega) (by omega)
                  have h2 : 4294967296 / m ≤ 4294967296 := Int.ediv_le_self m (by omega)
                  rw [Int.tdiv_eq_ediv_of_nonneg (by omega), IntKind.wrap_u64]
                  omega
                have wm : IntKind.u64.wrap m = m := by rw [IntKind.wrap_u64]; omega
                clear hfi hsu hpt hkL hk0 hgo hn0 hwe hle hmp hgg
                have hfs := HI.out.first.some
                have HFS : Hid (0 ≤ q ∧ FirstR L X q) := hfs
                have RB0 := HI.out.res
                have VB := HI.out.ver.set 3 (.int .u64 gg)
                have f3 : wr.frozen? ⟨b7, 3, none⟩ = false := HI.out.ver.frozen 3
                have y0 : wr.cell? ⟨b7, 0, none⟩ = some (.bool true) := HI.out.ver.cell 0 rfl
                have y3 : wr.cell? ⟨b7, 3, none⟩ = some (.int .u64 0) := HI.out.ver.cell 3 rfl
                have hu : Upd (fun j => j = b7) wr (wr.setCell ⟨b7, 3, none⟩ (.int .u64 gg)) := (Upd.refl (fun j => j = b7) wr).setCell (p := ⟨b7, 3, none⟩) (fun _ => rfl) _
                have hb7 := HB7.out
                have RB := RB0.upd hu (fun e => by omega)
                have hlow := HI.out.low
                have LB : Hid (Below w.heap.size w (wr.setCell ⟨b7, 3, none⟩ (.int .u64 gg))) := hlow.trans (hu.below hlow.size (fun j hj e => by omega))
                have HRB : Hid (Blk (wr.setCell ⟨b7, 3, none⟩ (.int .u64 gg)) w.heap.size #[.bool false, .int .i64 0, .int .u64 0, .int .u64 0] 40) := RB
                have o0 : (wr.setCell ⟨b7, 3, none⟩ (.int .u64 gg)).cell? ⟨b7, 0, none⟩ = _ := VB.cell 0 rfl
                have o1 : (wr.setCell ⟨b7, 3, none⟩ (.int .u64 gg)).cell? ⟨b7, 1, none⟩ = _ := VB.cell 1 rfl
                have o2 : (wr.setCell ⟨b7, 3, none⟩ (.int .u64 gg)).cell? ⟨b7, 2, none⟩ = _ := VB.cell 2 rfl
                have o3 : (wr.setCell ⟨b7, 3, none⟩ (.int .u64 gg)).cell? ⟨b7, 3, none⟩ = _ := VB.cell 3 rfl
                have r0 : (wr.setCell ⟨b7, 3, none⟩ (.int .u64 gg)).cell? ⟨w.heap.size, 0, none⟩ = _ := RB.cell 0 rfl
                have h0 : (wr.setCell ⟨b7, 3, none⟩ (.int .u64 gg)).frozen? ⟨w.heap.size, 0, none⟩ = false := RB.frozen 0
                have r1 : (wr.setCell ⟨b7, 3, none⟩ (.int .u64 gg)).cell? ⟨w.heap.size, 1, none⟩ = _ := RB.cell 1 rfl
                have h1 : (wr.setCell ⟨b7, 3, none⟩ (.int .u64 gg)).frozen? ⟨w.heap.size, 1, none⟩ = false := RB.frozen 1
                have r2 : (wr.setCell ⟨b7, 3, none⟩ (.int .u64 gg)).cell? ⟨w.heap.size, 2, none⟩ = _ := RB.cell 2 rfl
                have h2 : (wr.setCell ⟨b7, 3, none⟩ (.int .u64 gg)).frozen? ⟨w.heap.size, 2, none⟩ = false := RB.frozen 2
                have r3 : (wr.setCell ⟨b7, 3, none⟩ (.int .u64 gg)).cell? ⟨w.heap.size, 3, none⟩ = _ := RB.cell 3 rfl
                have h3 : (wr.setCell ⟨b7, 3, none⟩ (.int .u64 gg)).frozen? ⟨w.heap.size, 3, none⟩ = false := RB.frozen 3
                clear RB RB0 VB HI hfs hu hb7 hlow hfk
                have hkd : decide ((k : Int) < (n1 : Int)) = false := decide_eq_false (by omega)
                have hkn2 : decide (k < n1) = false := decide_eq_false (by omega)
                clear hk
                go_wp2
                · exact absurd HMP.out (by omega)
                · (try simp only [Exit.inBlock, Exit.then])
                  have hrow := (((HRB.out.set 0 (.bool true)).set 1 (.int .i64 q)).set 2 (.int .u64 0)).set 3 (.int .u64 gg)
                  have hld := run_loadVar_row (P := Tryz.prog) _ w.heap.size 40 40 #[.bool true, .int .i64 q, .int .u64 0, .int .u64 gg] (0, 0) _ hrow Tryz.underlying40 rfl veSizeD
                  have hs : w.heap.size ≤ w.heap.size := Nat.le_refl _
                  refine bodyPost_ret (v := .tuple #[.agg #[.bool true, .int .i64 q, .int .u64 0, .int .u64 gg], .int .i64 0]) ?_ rfl ⟨_, _, _, _, rfl, Or.inr (Or.inr (Or.inr ⟨HCK.out, HO.out, HNX.out, HFS.out.1, HFS.out.2, rfl, HWE.out, rfl⟩)), (((LB.out.setCell (p := ⟨w.heap.size, 0, none⟩) hs _).setCell (p := ⟨w.heap.size, 1, none⟩) hs _).setCell (p := ⟨w.heap.size, 2, none⟩) hs _).setCell (p := ⟨w.heap.size, 3, none⟩) hs _⟩
                  rw [results_cell_tmp rfl]
                  simp [asAddr, Result.andThen, hld]
              · have HWE : Hid (65536 = weightN L X) := by
                  show 65536 = weightN L X
                  unfold weightN
                  rw [hsu]
                  simp
                clear hfi hsu hpt hkL hk0 hgo hn0 hwe hle
                have hfs := HI.out.first.some
                have HFS : Hid (0 ≤ q ∧ FirstR L X q) := hfs
                have RB0 := HI.out.res
                have VB := HI.out.ver.set 3 (.int .u64 65536)
                have f3 : wr.frozen? ⟨b7, 3, none⟩ = false := HI.out.ver.frozen 3
                have y0 : wr.cell? ⟨b7, 0, none⟩ = some (.bool true) := HI.out.ver.cell 0 rfl
                have y3 : wr.cell? ⟨b7, 3, none⟩ = some (.int .u64 0) := HI.out.ver.cell 3 rfl
                have hu : Upd (fun j => j = b7) wr (wr.setCell ⟨b7, 3, none⟩ (.int .u64 65536)) := (Upd.refl (fun j => j = b7) wr).setCell (p := ⟨b7, 3, none⟩) (fun _ => rfl) _
                have hb7 := HB7.out
                have RB := RB0.upd hu (fun e => by omega)
                have hlow := HI.out.low
                have LB : Hid (Below w.heap.size w (wr.setCell ⟨b7, 3, none⟩ (.int .u64 65536))) := hlow.trans (hu.below hlow.size (fun j hj e => by omega))
                have HRB : Hid (Blk (wr.setCell ⟨b7, 3, none⟩ (.int .u64 65536)) w.heap.size #[.bool false, .int .i64 0, .int .u64 0, .int .u64 0] 40) := RB
                have o0 : (wr.setCell ⟨b7, 3, none⟩ (.int .u64 65536)).cell? ⟨b7, 0, none⟩ = _ := VB.cell 0 rfl
                have o1 : (wr.setCell ⟨b7, 3, none⟩ (.int .u64 65536)).cell? ⟨b7, 1, none⟩ = _ := VB.cell 1 rfl
                have o2 : (wr.setCell ⟨b7, 3, none⟩ (.int .u64 65536)).cell? ⟨b7, 2, none⟩ = _ := VB.cell 2 rfl
                have o3 : (wr.setCell ⟨b7, 3, none⟩ (.int .u64 65536)).cell? ⟨b7, 3, none⟩ = _ := VB.cell 3 rfl
                have r0 : (wr.setCell ⟨b7, 3, none⟩ (.int .u64 65536)).cell? ⟨w.heap.size, 0, none⟩ = _ := RB.cell 0 rfl
                have h0 : (wr.setCell ⟨b7, 3, none⟩ (.int .u64 65536)).frozen? ⟨w.heap.size, 0, none⟩ = false := RB.frozen 0
                have r1 : (wr.setCell ⟨b7, 3, none⟩ (.int .u64 65536)).cell? ⟨w.heap.size, 1, none⟩ = _ := RB.cell 1 rfl
                have h1 : (wr.setCell ⟨b7, 3, none⟩ (.int .u64 65536)).frozen? ⟨w.heap.size, 1, none⟩ = false := RB.frozen 1
                have r2 : (wr.setCell ⟨b7, 3, none⟩ (.int .u64 65536)).cell? ⟨w.heap.size, 2, none⟩ = _ := RB.cell 2 rfl
                have h2 : (wr.setCell ⟨b7, 3, none⟩ (.int .u64 65536)).frozen? ⟨w.heap.size, 2, none⟩ = false := RB.frozen 2
                have r3 : (wr.setCell ⟨b7, 3, none⟩ (.int .u64 65536)).cell? ⟨w.heap.size, 3, none⟩ = _ := RB.cell 3 rfl
                have h3 : (wr.setCell ⟨b7, 3, none⟩ (.int .u64 65536)).frozen? ⟨w.heap.size, 3, none⟩ = false := RB.frozen 3
                clear RB RB0 VB HI hfs hu hb7 hlow hfk
                have hkd : decide ((k : Int) < (n1 : Int)) = false := decide_eq_false (by omega)
                have hkn2 : decide (k < n1) = false := decide_eq_false (by omega)
                clear hk
                go_wp2
                (try simp only [Exit.inBlock, Exit.then])
                have hrow := (((HRB.out.set 0 (.bool true)).set 1 (.int .i64 q)).set 2 (.int .u64 0)).set 3 (.int .u64 65536)
                have hld := run_loadVar_row (P := Tryz.prog) _ w.heap.size 40 40 #[.bool true, .int .i64 q, .int .u64 0, .int .u64 65536] (0, 0) _ hrow Tryz.underlying40 rfl veSizeD
                have hs : w.heap.size ≤ w.heap.size := Nat.le_refl _
                refine bodyPost_ret (v := .tuple #[.agg #[.bool true, .int .i64 q, .int .u64 0, .int .u64 65536], .int .i64 0]) ?_ rfl ⟨_, _, _, _, rfl, Or.inr (Or.inr (Or.inr ⟨HCK.out, HO.out, HNX.out, HFS.out.1, HFS.out.2, rfl, HWE.out, rfl⟩)), (((LB.out.setCell (p := ⟨w.heap.size, 0, none⟩) hs _).setCell (p := ⟨w.heap.size, 1, none⟩) hs _).setCell (p := ⟨w.heap.size, 2, none⟩) hs _).setCell (p := ⟨w.heap.size, 3, none⟩) hs _⟩
                rw [results_cell_tmp rfl]
                simp [asAddr, Result.andThen, hld]
    · have HO : Hid (¬ OneT X) := hO
      clear hO
      go_enter Tryz.func8, Tryz.ntmps8
      go_wp2_with (first
        | (go_at_call 20; (with_reducible refine CK.mono ?_); clear CK; rintro e w1 ⟨rfl, hb1⟩; have E1 := HE0.out.below hb1; have HE1 : Hid (DeR w w1 la n1 L ad n X P) := E1; have OT := rTrace_any ad n cap X P w1 E1.sps HF.out HS.out hnz; clear hb1 E1 HE0)
        | (go_at_call 21; (with_reducible refine OT.mono ?_); clear OT; rintro e w2 ⟨t, rfl, ht, hb2⟩; obtain rfl : t = false := (Bool.eq_false_iff.2 (fun h => HO.out (ht.1 h))); have E2 := HE1.out.below hb2; have HE2 : Hid (DeR w w2 la n1 L ad n X P) := E2; have o0 := E2.res.cell 0 rfl; have g0 := E2.res.frozen 0; have o1 := E2.res.cell 1 rfl; have g1 := E2.res.frozen 1; have o2 := E2.res.cell 2 rfl; have g2 := E2.res.frozen 2; have o3 := E2.res.cell 3 rfl; have g3 := E2.res.frozen 3; clear hb2 E2 HE1 ht))
      (try simp only [Exit.inBlock, Exit.then])
      have hrow := (((HE2.out.res.set 0 (.bool false)).set 1 (.int .i64 0)).set 2 (.int .u64 0)).set 3 (.int .u64 0)
      have hld := run_loadVar_row (P := Tryz.prog) _ w.heap.size 40 40 #[.bool false, .int .i64 0, .int .u64 0, .int .u64 0] (0, 0) _ hrow Tryz.underlying40 rfl veSizeD
      have hs : w.heap.size ≤ w.heap.size := Nat.le_refl _
      refine bodyPost_ret (v := .tuple #[.agg #[.bool false, .int .i64 0, .int .u64 0, .int .u64 0], .int .i64 101]) ?_ rfl ⟨_, _, _, _, rfl, Or.inr (Or.inl ⟨HCK.out, HO.out, rfl, rfl, rfl, rfl⟩), (((HE2.out.low.setCell (p := ⟨w.heap.size, 0, none⟩) hs _).setCell (p := ⟨w.heap.size, 1, none⟩) hs _).setCell (p := ⟨w.heap.size, 2, none⟩) hs _).setCell (p := ⟨w.heap.size, 3, none⟩) hs _⟩
      rw [results_cell_tmp rfl]
      simp [asAddr, Result.andThen, hld]
end Go.Proofs.YtffdgpplgkmhiaaGreatDoor
