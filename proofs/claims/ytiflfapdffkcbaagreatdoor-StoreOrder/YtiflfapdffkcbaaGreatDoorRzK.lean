/-
  RzK.
-/
import Derived.Test.YtiflfapdffkcbaaGreatDoorRzJ
import Derived.Test.YtiflfapdffkcbaaGreatDoorSK
import Derived.Test.YtiflfapdffkcbaaGreatDoorSVq
namespace Go.Proofs.YtiflfapdffkcbaaGreatDoor
open Go Go.RowKit Go.Maps Go.WideMaps
set_option maxRecDepth 100000

/-- A store within a law: all that is its own was laid since. -/
structure ChE (w W : World) (s : Nat) (S : Nat → Prop) (L : List Sp) : Prop where
  st : StQ W s S L
  base : ∀ k, S k → w.heap.size ≤ k
  low : Below w.heap.size w W
theorem ChE.below {w W W' : World} {s : Nat} {S : Nat → Prop} {L : List Sp} (h : ChE w W s S L) (hb : Below W.heap.size W W') : ChE w W' s S L :=
  ⟨h.st.below hb, h.base, h.low.trans (hb.mono h.low.size)⟩
theorem ChE.args {w W : World} {s : Nat} {S : Nat → Prop} {L : List Sp} (h : ChE w W s S L) {ad : Option Addr} {n : Nat} {Y : List Sp} {P : Nat → Pl} (hY : SpsAt w ad n Y P) : ∀ W', Upd S W W' → SpsAt W' ad n Y P := fun W' hu =>
  hY.below (h.low.trans (hu.below h.low.size (fun k hk hs => by have := h.base k hs; omega)))
theorem ChE.put {w W W' : World} {s : Nat} {S : Nat → Prop} {L Y : List Sp} {n : Nat} {e : Ending} (h : ChE w W s S L) (hp : PutP9 W s S L Y n e W') : ∃ S3 L3 v1 v2, e = .returned (.tuple #[v1, v2]) ∧ ChE w W' s S3 L3 := by
  rcases hp with ⟨_, rfl, h2, h3⟩ | ⟨_, r, rfl, h2, _, _, h5⟩
  · exact ⟨S, L, _, _, rfl, h2, h.base, h.low.trans (h3.mono h.low.size)⟩
  · refine ⟨_, _, _, _, rfl, h2, fun k hk => ?_, h.low.trans (h5.below h.low.size (fun k hk hs => by have := h.base k hs; omega))⟩
    rcases hk with q | q
    · exact h.base k q
    · exact Nat.le_trans h.low.size q.1
theorem ChE.putOk {w W W' : World} {s : Nat} {S : Nat → Prop} {L Y : List Sp} (h : ChE w W s S L) (h2 : StQ W' s (fun k => S k ∨ (W.heap.size ≤ k ∧ k < W'.heap.size)) (runP L Y).1) (h5 : Upd S W W') : ChE w W' s (fun k => S k ∨ (W.heap.size ≤ k ∧ k < W'.heap.size)) (runP L Y).1 := by
  refine ⟨h2, fun k hk => ?_, h.low.trans (h5.below h.low.size (fun k hk hs => by have := h.base k hs; omega))⟩
  rcases hk with q | q
  · exact h.base k q
  · exact Nat.le_trans h.low.size q.1
/-- Once more, the same list fits. -/
theorem fits_again {L Y : List Sp} (hL : Names L) (h : fitsL L Y = 0) : fitsL (runP L Y).1 Y = 0 := by
  have hlen := fits_few h
  have hnew : newL (runP L Y).1 Y = [] := by
    have hall : ∀ a ∈ Y, (findL (runP L Y).1 (nmS a)).isSome = true := fun a ha => by
      rw [run_eq]
      obtain ⟨z, hz, ez, _⟩ := fold_dom Y hL a (Or.inr ha)
      unfold findL
      rw [List.find?_isSome]
      exact ⟨z, hz, by rw [ez]; exact decide_eq_true rfl⟩
    have : ∀ (K L : List Sp), (∀ a ∈ K, (findL L (nmS a)).isSome = true) → K.foldl (newLS L) [] = [] := by
      intro K
      induction K with
      | nil => exact fun _ _ => rfl
      | cons a r ih =>
        intro L hk
        rw [List.foldl_cons]
        have h1 : newLS L [] a = [] := by
          unfold newLS
          rw [if_pos (hk a (by simp))]
        rw [h1]
        exact ih L (fun b hb => hk b (by simp [hb]))
    exact this Y _ hall
  unfold fitsL at h ⊢
  cases hf : Y.find? (fun a => decide (chkS a ≠ 0)) with
  | some a =>
    rw [hf] at h
    exact h
  | none =>
    show roomL _ (newL (runP L Y).1 Y) = 0
    rw [hnew]
    unfold roomL
    simp
    omega
theorem fresh_next (cs : List Int) (k : Nat) (hk : k < cs.length) : (cs.take (k + 1)).countP (fun c => decide (c = 0)) = (cs.take k).countP (fun c => decide (c = 0)) + if cs[k] = 0 then 1 else 0 := by
  rw [List.take_succ_eq_append_getElem hk, List.countP_append]
  by_cases h : cs[k] = 0 <;> simp [h]
theorem chC_get (cs : List Int) (k : Nat) (hk : k < cs.length) : (chC cs 0)[k]? = some (.int .i64 cs[k]) := by
  unfold chC
  simp [hk]
set_option maxHeartbeats 8000000 in
theorem storeChanges_any (ad : Option Addr) (n cp : Nat) (L : List Sp) (P : Nat → Pl) (bd : Option Addr) (m dp : Nat) (K : List Sp) (Q : Nat → Pl) (w : World) (hX : SpsAt w ad n L P) (hF : ∀ a ∈ L, a.Fits) (hS : ∀ a ∈ L, a.Small) (hn : n ≤ 900000000000) (hY : SpsAt w bd m K Q) (hF2 : ∀ a ∈ K, a.Fits) (hS2 : ∀ a ∈ K, a.Small) (hm : m ≤ 900000000000) (hT : Tabs w) :
    Calls Tryz.prog 5 #[.slice ad n cp, .slice bd m dp] w fun e w' => e = .returned (.bool true) ∧ Below w.heap.size w w' := by
  have HX : Hid (SpsAt w ad n L P ∧ (∀ a ∈ L, a.Fits) ∧ ∀ a ∈ L, a.Small) := ⟨hX, hF, hS⟩
  have HY : Hid (SpsAt w bd m K Q ∧ (∀ a ∈ K, a.Fits) ∧ ∀ a ∈ K, a.Small) := ⟨hY, hF2, hS2⟩
  have HT : Hid (∀ W, Below w.heap.size w W → Tabs W) := fun W hb => hT.below hb
  have HKL : Hid (K.length = m) := hY.len
  have AL := alive_any w hT
  clear hX hF hS hY hF2 hS2 hT
  go_enter Tryz.func5, Tryz.ntmps5
  go_upto_region 8 with (first
    | (go_at_call 6; (with_reducible refine AL.mono ?_); clear AL; rintro e w1 ⟨rfl, hb1⟩; have H1 : Hid (Below w.heap.size w w1) := hb1; have NW := new9 w1; clear hb1)
    | (go_at_call 7; (with_reducible refine NW.mono ?_); clear NW; rintro e w2 ⟨s, rfl, hst, hb⟩; have H2 : Hid (ChE w w2 s (fun k => w1.heap.size ≤ k ∧ k < w2.heap.size) []) := ⟨hst, fun k hk => Nat.le_trans H1.out.size hk.1, H1.out.trans (hb.mono H1.out.size)⟩; have PT := put9 H2.out.st ad n cp L P (H2.out.args HX.out.1) HX.out.2.1 HX.out.2.2 (HT.out _ H2.out.low) hn; clear hst hb H1)
    | (go_at_call 8; (with_reducible refine PT.mono ?_); clear PT; rintro e w3 hp; obtain ⟨S3, L3, v1, v2, rfl, h3⟩ := H2.out.put hp; have H3 : Hid (ChE w w3 s S3 L3) := h3; have CT := count9 h3.st; clear hp h3 H2)
    | (go_at_call 9; (with_reducible refine CT.mono ?_); clear CT; rintro e w4 ⟨rfl, hw⟩; obtain rfl := hw.symm; have TD := told9 H3.out.st)
    | (go_at_call 10; (with_reducible refine TD.mono ?_); clear TD; rintro e w5 ⟨ta, tc, Y5, P5, rfl, hr, hm5, hs, hb⟩; have H5 : Hid (ChE w w5 s S3 L3 ∧ (Rise Y5 ∧ ∀ y, y ∈ Y5 ↔ y ∈ L3) ∧ SpsAt w5 ta Y5.length Y5 P5) := ⟨H3.out.below hb, ⟨hr, hm5⟩, hs _ (Nat.le_refl _) (fun _ _ _ => rfl)⟩; clear hr hm5 hs hb H3))
  have HN3 : Hid (Names L3 ∧ L3.length ≤ 100000) := ⟨H5.out.1.st.names, H5.out.1.st.few⟩
  obtain ⟨n3, hn3⟩ : ∃ x, L3.length = x := ⟨_, rfl⟩
  have HL3 : Hid (L3.length = n3) := hn3
  rw [hn3]
  clear hn3
  have hn3z : n3 ≤ 100000 := by rw [← HL3.out]; exact HN3.out.2
  obtain ⟨y5, hy5⟩ : ∃ x, Y5.length = x := ⟨_, rfl⟩
  have HY5 : Hid (Y5.length = y5) := hy5
  rw [hy5]
  clear hy5
  have hy5z : y5 ≤ 100000 := by rw [← HY5.out, told_len HN3.out.1 H5.out.2.1, HL3.out]; exact hn3z
  obtain ⟨f, hf⟩ : ∃ x, fitsL L3 K = x := ⟨_, rfl⟩
  have HF : Hid (fitsL L3 K = f) := hf
  have FT9 := fits9 H5.out.1.st bd m dp K Q (HY.out.1.below H5.out.1.low) HY.out.2.1 HY.out.2.2 (HT.out _ H5.out.1.low) hm
  rw [hf] at FT9
  clear hf
  by_cases hf0 : f = 0
  · subst hf0
    obtain ⟨L7, hL7⟩ : ∃ x, (runP L3 K).1 = x := ⟨_, rfl⟩
    obtain ⟨cs, hcs⟩ : ∃ x, (runP L3 K).2 = x := ⟨_, rfl⟩
    have HR : Hid ((runP L3 K).1 = L7 ∧ (runP L3 K).2 = cs ∧ cs.length = m ∧ fitsL L7 K = 0 ∧ runP L7 K = (L7, List.replicate m 2) ∧ L7.length = n3 + cs.countP (fun c => decide (c = 0))) := by
      have h1 := run_len L3 K K.length (Nat.le_refl _)
      rw [List.take_of_length_le (Nat.le_refl _), hcs, HKL.out] at h1
      have h2 := fits_again HN3.out.1 HF.out
      rw [hL7] at h2
      have h3 := run_again (L := L3) (Y := K) HN3.out.1
      rw [hL7, HKL.out] at h3
      have h4 := run_count K L3 []
      have h5 : K.foldl stP (L3, []) = (L7, cs) := Prod.ext hL7 hcs
      rw [h5, HL3.out] at h4
      exact ⟨hL7, hcs, h1, h2, h3, by simpa using h4⟩
    clear hL7 hcs
    go_upto_region 14 with (first
      | (go_at_call 16; (with_reducible refine FT9.mono ?_); clear FT9; rintro e w6 ⟨rfl, hb⟩; have H6 : Hid (ChE w w6 s S3 L3 ∧ SpsAt w6 ta y5 Y5 P5) := ⟨H5.out.1.below hb, (by rw [← HY5.out]; exact H5.out.2.2.below hb)⟩; have PT := put9 H6.out.1.st bd m dp K Q (H6.out.1.args HY.out.1) HY.out.2.1 HY.out.2.2 (HT.out _ H6.out.1.low) hm; clear hb)
      | (go_at_call 8; (with_reducible refine PT.mono ?_); clear PT; rintro e w7 hp; rcases hp with ⟨hne, _⟩ | ⟨_, r, rfl, h2, hB, _, h5⟩; exact absurd HF.out hne; have h7 := H6.out.1.putOk h2 h5; rw [HR.out.1] at h7; rw [HR.out.2.1] at hB; obtain ⟨S7, hS7⟩ : ∃ x, (fun k => S3 k ∨ (w6.heap.size ≤ k ∧ k < w7.heap.size)) = x := ⟨_, rfl⟩; rw [hS7] at h7; have H7 : Hid (ChE w w7 s S7 L7 ∧ Blk w7 r (chC cs 0) 51) := ⟨h7, hB⟩; clear h2 hB h5 h7 hS7 H6 H5))
    go_wp2
    go_loopw [12, 13] (fun z12 z13 wr => ∃ k c : Nat, z13 = .int .i64 k ∧ z12 = .int .i64 c ∧ k ≤ m ∧ c ≤ k ∧ Hid ((cs.take k).countP (fun c => decide (c = 0)) = c ∧ Below w7.heap.size w7 wr)) (fun _ z _ => m - (intOf z).toNat)
    case atStart => exact ⟨0, 0, rfl, rfl, by omega, by omega, rfl, Below.refl _ _⟩
    case round =>
      obtain ⟨k, c, rfl, rfl, hkm, hck, HI⟩ := hrel
      by_cases hlt : k < m
      · have hltd : (k : Int) < (m : Int) := by omega
        have hkc : k < cs.length := by rw [HR.out.2.2.1]; exact hlt
        have hnx := fresh_next cs k hkc
        rw [HI.out.1] at hnx
        have c0 : wr.cell? ⟨r, k, none⟩ = some (.int .i64 cs[k]) := (H7.out.2.below HI.out.2 H7.out.2.lt).cell k (chC_get cs k hkc)
        obtain ⟨x, hx⟩ : ∃ x, cs[k]'hkc = x := ⟨_, rfl⟩
        rw [hx] at c0 hnx
        clear hx hkc
        by_cases hx0 : x = 0
        · subst hx0
          rw [if_pos rfl] at hnx
          have HN : Hid ((cs.take (k + 1)).countP (fun c => decide (c = 0)) = c + 1 ∧ Below w7.heap.size w7 wr) := ⟨hnx, HI.out.2⟩
          clear hnx HI
          go_wp2
          go_roundw
          case rel => exact ⟨k + 1, c + 1, by go_num, by go_num, by omega, by omega, HN⟩
          case measure => (simp [intOf]; omega)
        · rw [if_neg hx0] at hnx
          have hxb : (x == 0) = false := by simpa using hx0
          have HN : Hid ((cs.take (k + 1)).countP (fun c => decide (c = 0)) = c ∧ Below w7.heap.size w7 wr) := ⟨hnx, HI.out.2⟩
          clear hnx HI hx0
          go_wp2
          go_roundw
          case rel => exact ⟨k + 1, c, by go_num, rfl, by omega, by omega, HN⟩
          case measure => (simp [intOf]; omega)
      · have hltd : ¬ (k : Int) < (m : Int) := by omega
        have hcc := HI.out.1
        rw [List.take_of_length_le (by rw [HR.out.2.2.1]; omega)] at hcc
        have H8 : Hid (ChE w wr s S7 L7 ∧ L7.length = n3 + c) := ⟨H7.out.1.below HI.out.2, by rw [HR.out.2.2.2.2.2, hcc]⟩
        have TD := told9 H8.out.1.st
        clear hcc HI H7
        generalize wr = w8 at *
        go_upto_region 22 with (first
          | (go_at_call 10; (with_reducible refine TD.mono ?_); clear TD; rintro e w9 ⟨ta9, tc9, Y9, P9, rfl, hr, hm9, hs, hb⟩; have H9 : Hid (ChE w w9 s S7 L7 ∧ (Rise Y9 ∧ ∀ y, y ∈ Y9 ↔ y ∈ L7) ∧ ∀ V, Upd S7 w9 V → SpsAt V ta9 Y9.length Y9 P9) := ⟨H8.out.1.below hb, ⟨hr, hm9⟩, fun V hu => hs V hu.size (fun k k1 k2 => hu.block k k2 (fun h7 => by have := H8.out.1.st.lt k h7; omega))⟩; have PT := put9 H9.out.1.st bd m dp K Q (H9.out.1.args HY.out.1) HY.out.2.1 HY.out.2.2 (HT.out _ H9.out.1.low) hm; clear hr hm9 hs hb)
          | (go_at_call 8; (with_reducible refine PT.mono ?_); clear PT; rintro e wa hp; rcases hp with ⟨hne, _⟩ | ⟨_, r2, rfl, h2, hB, _, h5⟩; exact absurd HR.out.2.2.2.1 hne; have ha := H9.out.1.putOk h2 h5; rw [HR.out.2.2.2.2.1] at ha hB; obtain ⟨Sa, hSa⟩ : ∃ x, (fun k => S7 k ∨ (w9.heap.size ≤ k ∧ k < wa.heap.size)) = x := ⟨_, rfl⟩; rw [hSa] at ha; have HA : Hid (ChE w wa s Sa L7 ∧ Blk wa r2 (chC (List.replicate m 2) 0) 51 ∧ SpsAt wa ta9 Y9.length Y9 P9) := ⟨ha, hB, H9.out.2.2 wa h5⟩; clear h2 hB h5 ha hSa))
        have hY9 := told_len H9.out.1.st.names H9.out.2.1
        have hL7z := H9.out.1.st.few
        obtain ⟨y9, hy9⟩ : ∃ x, Y9.length = x := ⟨_, rfl⟩
        have hy9z : y9 ≤ 100000 := by omega
        have HQ9 : Hid ((Rise Y9 ∧ ∀ y, y ∈ Y9 ↔ y ∈ L7) ∧ L7.length = n3 + c ∧ Y9.length = y9) := ⟨H9.out.2.1, H8.out.2, hy9⟩
        have HA2 : Hid (ChE w wa s Sa L7 ∧ Blk wa r2 (chC (List.replicate m 2) 0) 51 ∧ SpsAt wa ta9 y9 Y9 P9) := by rw [← hy9]; exact HA.out
        rw [hy9]
        clear hY9 hL7z hy9 HA H9 H8
        go_wp2
        go_loopw [17] (fun z wr => ∃ k : Nat, z = .int .i64 k ∧ k ≤ m ∧ Hid (Below wa.heap.size wa wr)) (fun z _ => m - (intOf z).toNat)
        case atStart => exact ⟨0, rfl, by omega, Below.refl _ _⟩
        case round =>
          obtain ⟨k2, rfl, hkm2, HB⟩ := hrel
          by_cases hlt2 : k2 < m
          · have hltd2 : (k2 : Int) < (m : Int) := by omega
            have c0 : wr.cell? ⟨r2, k2, none⟩ = some (.int .i64 2) := by
              have h1 := chC_get (List.replicate m (2 : Int)) k2 (by simpa using hlt2)
              rw [List.getElem_replicate] at h1
              exact (HA2.out.2.1.below HB.out HA2.out.2.1.lt).cell k2 h1
            go_wp2
            go_roundw
            case rel => exact ⟨k2 + 1, by go_num, by omega, HB⟩
            case measure => (simp [intOf]; omega)
          · have hltd2 : ¬ (k2 : Int) < (m : Int) := by omega
            have hb2 := HB.out
            have HC : Hid (ChE w wr s Sa L7 ∧ SpsAt wr ta9 y9 Y9 P9) := ⟨HA2.out.1.below hb2, HA2.out.2.2.below hb2⟩
            have CT := count9 HC.out.1.st
            have TD := told9 HC.out.1.st
            rw [HQ9.out.2.1] at CT
            have hcast : ((n3 + c : Nat) : Int) = (n3 : Int) + (c : Int) := by omega
            rw [hcast] at CT
            have hme : ((m : Int) == (m : Int)) = true := by simp
            have hne : (((n3 : Int) + (c : Int)) == ((n3 : Int) + (c : Int))) = true := by simp
            have wnc : IntKind.i64.wrap ((n3 : Int) + (c : Int)) = (n3 : Int) + (c : Int) := by rw [IntKind.wrap_i64]; omega
            clear hb2 HB HA2 hcast
            generalize wr = wb at *
            go_wp2_with (first
              | (go_at_call 9; (with_reducible refine CT.mono ?_); clear CT; rintro e wc ⟨rfl, hw⟩; obtain rfl := hw.symm)
              | (go_at_call 10; (with_reducible refine TD.mono ?_); clear TD; rintro e wd ⟨tad, tcd, Yd, Pd, rfl, hr, hmd, hs, hb⟩; have hed : Yd = Y9 := told_one ⟨hr, hmd⟩ HQ9.out.1 (fun y => Iff.rfl); subst hed; have HD : Hid (ChE w wd s Sa L7) := HC.out.1.below hb; have SM := same_any tad ta9 Yd.length y9 tcd tc9 Yd Yd Pd P9 wd (hs _ (Nat.le_refl _) (fun _ _ _ => rfl)) (HC.out.2.below hb) (by rw [HQ9.out.2.2]; omega) (by omega); clear hr hmd hs hb)
              | (go_at_call 11; (with_reducible refine SM.mono ?_); clear SM; rintro e we ⟨⟨re, rfl, hr⟩, hb⟩; obtain rfl := hr.2 rfl; have HE : Hid (Below w.heap.size w we) := HD.out.low.trans (hb.mono HD.out.low.size); clear hr hb))
            go_ret
            exact ⟨rfl, HE.out⟩
  · have hfn : (f != 0) = true := by simpa using hf0
    have hff : (f != f) = false := by simp
    have HFN : Hid (f ≠ 0) := hf0
    clear hf0
    have HQ5 : Hid (Rise Y5 ∧ ∀ y, y ∈ Y5 ↔ y ∈ L3) := H5.out.2.1
    go_upto_region 10 with (first
      | (go_at_call 16; (with_reducible refine FT9.mono ?_); clear FT9; rintro e w6 ⟨rfl, hb⟩; have H6 : Hid (ChE w w6 s S3 L3 ∧ SpsAt w6 ta y5 Y5 P5) := ⟨H5.out.1.below hb, (by rw [← HY5.out]; exact H5.out.2.2.below hb)⟩; have PT := put9 H6.out.1.st bd m dp K Q (H6.out.1.args HY.out.1) HY.out.2.1 HY.out.2.2 (HT.out _ H6.out.1.low) hm; clear hb)
      | (go_at_call 8; (with_reducible refine PT.mono ?_); clear PT; rintro e w7 hp; rcases hp with ⟨hne, rfl, h2, h3⟩ | ⟨he, _⟩; rotate_left; exact absurd (HF.out.symm.trans he) HFN.out; rw [HF.out]; have H7 : Hid (ChE w w7 s S3 L3 ∧ SpsAt w7 ta y5 Y5 P5) := ⟨H6.out.1.below h3, H6.out.2.below h3⟩; have CT := count9 H7.out.1.st; have TD := told9 H7.out.1.st; rw [HL3.out] at CT; clear hne h2 h3 H6 H5))
    have hnn : ((n3 : Int) != (n3 : Int)) = false := by simp
    go_upto_region 12 with (first
      | (go_at_call 9; (with_reducible refine CT.mono ?_); clear CT; rintro e w8 ⟨rfl, hw⟩; obtain rfl := hw.symm)
      | (go_at_call 10; (with_reducible refine TD.mono ?_); clear TD; rintro e w8 ⟨tb, te, Y8, P8, rfl, hr, hm8, hs, hb⟩; have he8 : Y8 = Y5 := told_one ⟨hr, hm8⟩ HQ5.out (fun y => Iff.rfl); subst he8; have H8 : Hid (ChE w w8 s S3 L3) := H7.out.1.below hb; have SM := same_any tb ta Y8.length y5 te tc Y8 Y8 P8 P5 w8 (hs _ (Nat.le_refl _) (fun _ _ _ => rfl)) (H7.out.2.below hb) (by rw [HY5.out]; omega) (by omega); clear hr hm8 hs hb)
      | (go_at_call 11; (with_reducible refine SM.mono ?_); clear SM; rintro e w9 ⟨⟨r9, rfl, hr⟩, hb⟩; obtain rfl := hr.2 rfl; have H9 : Hid (Below w.heap.size w w9) := H8.out.low.trans (hb.mono H8.out.low.size); clear hr hb))
    go_wp2
    go_ret
    exact ⟨rfl, H9.out⟩
end Go.Proofs.YtiflfapdffkcbaaGreatDoor
