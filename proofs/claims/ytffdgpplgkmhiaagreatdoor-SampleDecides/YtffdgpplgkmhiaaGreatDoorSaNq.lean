/-
  Merged: SaN, SdJ.
-/
import Derived.Test.YtffdgpplgkmhiaaGreatDoorSaBq
import Derived.Test.YtffdgpplgkmhiaaGreatDoorAwq
import Derived.Test.YtffdgpplgkmhiaaGreatDoorSdDq
namespace Go.Proofs.YtffdgpplgkmhiaaGreatDoor
open Go Go.RowKit
set_option maxRecDepth 100000

theorem emptyL (s : ByteArray) : s.toList.isEmpty = decide (s = emptyB) := by
  have e0 : emptyB.toList = [] := by decide +kernel
  by_cases h : s = emptyB
  · subst h; rw [e0]; simp
  · have : s.toList ≠ [] := fun e => h (bytes_ext _ _ (e.trans e0.symm))
    simp [h, this]
set_option maxHeartbeats 4000000 in
theorem rMay_any (p : Pol) (hs : p.name.size ≤ 140737488355328) (w : World) :
    Calls Tryz.prog 42 #[polV p] w fun e w' => e = .returned (.bool (mayP p)) ∧ Below w.heap.size w w' := by
  obtain ⟨k, n, s, q⟩ := p
  have BB : Hid (∀ o, Below w.heap.size w (w.alloc o)) := fun o => (Below.refl _ _).alloc (Nat.le_refl _) _
  have PL : Hid (∀ W, Calls Tryz.prog 60 #[.string s, .int .i64 60, .int .u8 33] W fun e w' => e = .returned (.bool (plainB s 60 33)) ∧ w' = W) := fun W => rPlain_any s 60 33 W hs
  unfold polV
  clear hs
  go_enter Tryz.func42, Tryz.ntmps42
  by_cases k0 : k < 0
  · go_wp2
    go_ret
    refine ⟨congrArg (fun z => Ending.returned (.bool z)) (?_ : false = mayP ⟨k, n, s, q⟩), BB.out _⟩
    unfold mayP
    rw [if_neg (by simp only; omega), if_neg (by simp only; omega), if_neg (by simp only; omega), if_neg (by simp only; omega)]
  by_cases k5 : 4 < k
  · go_wp2
    go_ret
    refine ⟨congrArg (fun z => Ending.returned (.bool z)) (?_ : false = mayP ⟨k, n, s, q⟩), BB.out _⟩
    unfold mayP
    rw [if_neg (by simp only; omega), if_neg (by simp only; omega), if_neg (by simp only; omega), if_neg (by simp only; omega)]
  have hk : k = 0 ∨ k = 1 ∨ k = 2 ∨ k = 3 ∨ k = 4 := by omega
  clear k0 k5
  rcases hk with rfl | rfl | rfl | rfl | rfl
  · go_wp2
    all_goals go_ret
    all_goals refine ⟨?_, BB.out _⟩
    all_goals simp_all [mayP, emptyL]
  · go_wp2
    all_goals go_ret
    all_goals refine ⟨?_, BB.out _⟩
    all_goals simp_all [mayP, emptyL]
  · go_wp2
    all_goals go_ret
    all_goals refine ⟨?_, BB.out _⟩
    all_goals simp_all [mayP, emptyL]
  · go_wp2_with (go_at_call 60; (with_reducible refine (PL.out _).mono ?_); clear PL; rintro e w1 ⟨rfl, rfl⟩)
    all_goals go_ret
    all_goals refine ⟨?_, BB.out _⟩
    all_goals simp_all [mayP, emptyL]
  · by_cases q1 : 0 < q
    · by_cases q2 : q ≤ 65536
      · go_wp2
        all_goals go_ret
        all_goals refine ⟨?_, BB.out _⟩
        all_goals simp_all [mayP, emptyL]
        all_goals (intros; omega)
      · go_wp2
        all_goals go_ret
        all_goals refine ⟨?_, BB.out _⟩
        all_goals simp_all [mayP, emptyL]
    · go_wp2
      all_goals go_ret
      all_goals refine ⟨?_, BB.out _⟩
      all_goals simp_all [mayP, emptyL]
      all_goals (intros; omega)
set_option maxHeartbeats 4000000 in
theorem rCheckP_any (ad : Option Addr) (n cap : Nat) (L : List Pol) (w : World) (hL : PolAt w ad n L) (hs : ∀ p ∈ L, p.name.size ≤ 140737488355328) (hn : n ≤ 140737488355328) :
    Calls Tryz.prog 20 #[.slice ad n cap] w fun e w' => e = .returned (.int .i64 (chkP L)) ∧ Below w.heap.size w w' := by
  have HL : Hid (PolAt w ad n L) := hL
  have MB : Hid (∀ i (hi : i < L.length) W, Below w.heap.size w W → Calls Tryz.prog 42 #[polV L[i]] W fun e w' => e = .returned (.bool (mayP L[i])) ∧ Below W.heap.size W w') := fun i hi W hb => rMay_any L[i] (hs _ (List.getElem_mem hi)) W
  clear hL
  go_enter Tryz.func20, Tryz.ntmps20
  by_cases h20 : (20 : Int) < (n : Int)
  · have HE : Hid (chkP L = 211) := chkP_many (by rw [HL.out.1]; omega)
    have B0 : Hid (Below w.heap.size w w) := Below.refl _ _
    go_wp2
    go_ret
    rw [HE.out]
    exact ⟨rfl, B0.out⟩
  · go_wp2
    go_loopw [3] (fun z wr => ∃ i : Nat, z = .int .i64 i ∧ i ≤ n ∧ Hid (Below w.heap.size w wr) ∧ Hid (∀ j (hj : j < L.length), j < i → mayP L[j] = true)) (fun z _ => n - (intOf z).toNat)
    case atStart => exact ⟨0, rfl, by omega, Below.refl _ _, fun j hj h => absurd h (Nat.not_lt_zero _)⟩
    case round =>
      obtain ⟨i, rfl, hin, HB, HA⟩ := hrel
      by_cases hlt : i < n
      · have hlt' : (i : Int) < (n : Int) := by omega
        have hiL : i < L.length := by rw [HL.out.1]; exact hlt
        obtain ⟨b, o, rfl, hbl, hc⟩ := (HL.out.below HB.out).2 (by omega)
        have hci := hc i hiL
        obtain ⟨y, hy⟩ : ∃ y, L[i] = y := ⟨_, rfl⟩
        have M1 : Hid (∀ W, Below w.heap.size w W → Calls Tryz.prog 42 #[polV y] W fun e w' => e = .returned (.bool (mayP y)) ∧ Below W.heap.size W w') := fun W hb => by rw [← hy]; exact MB.out i hiL W hb
        rw [hy] at hci
        have HY : Hid (∃ h : i < L.length, L[i] = y) := ⟨hiL, hy⟩
        have c0 := hci 0 _ rfl
        have c1 := hci 1 _ rfl
        have c2 := hci 2 _ rfl
        have c3 := hci 3 _ rfl
        rw [Nat.add_zero] at c0
        unfold polV at M1
        clear hc hci hy MB
        cases hm : mayP y with
        | true =>
          rw [hm] at M1
          go_wp2_with (go_at_call 42; (with_reducible refine (M1.out _ HB.out).mono ?_); rintro e w1 ⟨rfl, hb1⟩; have HB1 : Hid (Below w.heap.size w w1) := HB.out.trans (hb1.mono HB.out.size); clear hb1)
          go_roundw
          case rel => exact ⟨i + 1, by go_num, by omega, HB1, all_take_next HY.out.1 HA.out (by rw [HY.out.2]; exact hm)⟩
          case measure => (simp [intOf]; omega)
        | false =>
          rw [hm] at M1
          go_wp2_with (go_at_call 42; (with_reducible refine (M1.out _ HB.out).mono ?_); rintro e w1 ⟨rfl, hb1⟩; have HB1 : Hid (Below w.heap.size w w1) := HB.out.trans (hb1.mono HB.out.size); clear hb1)
          go_ret
          rw [chkP_no HY.out.1 (by rw [HY.out.2]; exact hm)]
          exact ⟨rfl, HB1.out⟩
      · obtain rfl : n = i := by omega
        have HE : Hid (chkP L = 0) := chkP_ok (by rw [HL.out.1]; omega) (fun j hj => HA.out j hj (by rw [← HL.out.1]; exact hj))
        clear HL MB HA
        go_wp2
        go_ret
        rw [HE.out]
        exact ⟨rfl, HB.out⟩
end Go.Proofs.YtffdgpplgkmhiaaGreatDoor

namespace Go.Proofs.YtffdgpplgkmhiaaGreatDoor
open Go Go.RowKit
set_option maxRecDepth 100000

/-- As the reference counts. -/
def startR (s0 : Int) (X : List Sp) : Int := X.foldl (fun m a => min m a.start) s0
def finR (f0 : Int) (X : List Sp) : Int := X.foldl (fun m a => max m a.fin) f0
theorem startR_next (s0 : Int) (X : List Sp) (k : Nat) (hk : k < X.length) : startR s0 (X.take (k + 1)) = min (startR s0 (X.take k)) X[k].start := by
  unfold startR
  rw [List.take_succ_eq_append_getElem hk, List.foldl_append]
  rfl
theorem finR_next (f0 : Int) (X : List Sp) (k : Nat) (hk : k < X.length) : finR f0 (X.take (k + 1)) = max (finR f0 (X.take k)) X[k].fin := by
  unfold finR
  rw [List.take_succ_eq_append_getElem hk, List.foldl_append]
  rfl
theorem any_next (p : Sp → Bool) (X : List Sp) (k : Nat) (hk : k < X.length) : (X.take (k + 1)).any p = ((X.take k).any p || p X[k]) := by
  rw [List.take_succ_eq_append_getElem hk, List.any_append]
  simp
theorem startR_eq (a : Sp) (r : List Sp) (h : a.start ≤ 9223372036854775807) : startR a.start (a :: r) = startM (a :: r) := by
  unfold startR startM
  rw [List.foldl_cons, List.foldl_cons, show min a.start a.start = a.start by omega, show min (9223372036854775807 : Int) a.start = a.start by omega]
theorem finR_eq (a : Sp) (r : List Sp) (h : 0 ≤ a.fin) : finR a.fin (a :: r) = finM (a :: r) := by
  unfold finR finM
  rw [List.foldl_cons, List.foldl_cons, show max a.fin a.fin = a.fin by omega, show max (0 : Int) a.fin = a.fin by omega]
theorem bvI_shr48' (a : BitVec 64) : bvI a / (281474976710656 : Int) = bvI (a >>> 48) := bvI_shr a 48
set_option maxHeartbeats 8000000 in
theorem rHolds_any (l : Pol) (ad : Option Addr) (n cap : Nat) (X : List Sp) (P : Nat → Pl) (w : World) (hX : SpsAt w ad n X P) (hF : ∀ a ∈ X, a.Fits) (hn : n ≤ 1000) (h0 : 0 < n) (hmo : ∀ a ∈ X, a.start ≤ 9223372036854775807 ∧ 0 ≤ a.fin) :
    Calls Tryz.prog 22 #[polV l, .slice ad n cap] w fun e w' => e = .returned (.bool (holdsB l X)) ∧ Below w.heap.size w w' := by
  have hl : X.length = n := hX.len
  have HL : Hid (X.length = n) := hl
  obtain ⟨W, hW⟩ : ∃ W, w.alloc (.cells #[.int .i64 l.kind, .int .u64 l.nanos, .string l.name, .int .i64 l.part] 46) = W := ⟨_, rfl⟩
  have hbW : Hid (Below w.heap.size w W) := by rw [← hW]; exact (Below.refl _ _).alloc (Nat.le_refl _) _
  have hK : Blk W w.heap.size (polC l).toArray 46 := by rw [← hW]; exact Blk.new _ _ _
  have HK : Hid (Blk W w.heap.size (polC l).toArray 46) := hK
  have XW := hX.below hbW.out
  have HX : Hid (SpsAt W ad n X P) := XW
  have h0X : 0 < X.length := by omega
  obtain ⟨b1, o1, rfl, hcl⟩ := XW.lies h0
  have R0 := XW.range 0 h0X
  obtain ⟨a0, ha0⟩ : ∃ a, X[0]'h0X = a := ⟨_, rfl⟩
  rw [ha0] at R0
  have z0 : W.cell? ⟨b1, o1, none⟩ = some (.int .u64 a0.hi) := by have := R0 0 _ rfl; simpa using this
  have z1 : W.cell? ⟨b1, o1 + 1, none⟩ = some (.int .u64 a0.lo) := by have := R0 1 _ rfl; simpa using this
  have z9 : W.cell? ⟨b1, o1 + 9, none⟩ = some (.int .i64 a0.start) := by have := R0 9 _ rfl; simpa using this
  have z10 : W.cell? ⟨b1, o1 + 10, none⟩ = some (.int .i64 a0.fin) := by have := R0 10 _ rfl; simpa using this
  have hf := hF a0 (by rw [← ha0]; exact List.getElem_mem h0X)
  have hmm := hmo a0 (by rw [← ha0]; exact List.getElem_mem h0X)
  have ehi : bvI (BitVec.ofInt 64 a0.hi) = a0.hi := bvI_of _ hf.hi.1 hf.hi.2
  have elo : bvI (BitVec.ofInt 64 a0.lo) = a0.lo := bvI_of _ hf.lo.1 hf.lo.2
  have MX : Hid (∀ V, Calls Tryz.prog 44 #[.agg #[.int .u64 a0.hi, .int .u64 a0.lo]] V fun e w' => e = .returned (.int .u64 (bvI (mixB (BitVec.ofInt 64 a0.hi) (BitVec.ofInt 64 a0.lo)))) ∧ Below V.heap.size V w') := fun V => by
    have := rMix_any (BitVec.ofInt 64 a0.hi) (BitVec.ofInt 64 a0.lo) V
    rwa [ehi, elo] at this
  have hfm : Hid (firstMix X = mix48 a0) := by
    show firstMix X = mix48 a0
    match X, h0X, ha0 with
    | x :: r, _, ha0 => simp at ha0; subst ha0; rfl
  have HSF : Hid (startR a0.start X = startM X ∧ finR a0.fin X = finM X) := by
    show startR a0.start X = startM X ∧ finR a0.fin X = finM X
    match X, h0X, ha0 with
    | x :: r, _, ha0 => simp at ha0; subst ha0; exact ⟨startR_eq _ _ hmm.1, finR_eq _ _ hmm.2⟩
  obtain ⟨mv, hmv⟩ : ∃ v, bvI (mixB (BitVec.ofInt 64 a0.hi) (BitVec.ofInt 64 a0.lo)) = v := ⟨_, rfl⟩
  have HMV : Hid (mix48 a0 = mv / 281474976710656) := by
    show mix48 a0 = mv / 281474976710656
    rw [← hmv]
    rfl
  rw [hmv] at MX
  obtain ⟨pw, hpw⟩ : ∃ v, IntKind.u64.wrap l.part = v := ⟨_, rfl⟩
  have HPW : Hid (IntKind.u64.wrap l.part = pw) := hpw
  obtain ⟨s0, hs0⟩ : ∃ v, a0.start = v := ⟨_, rfl⟩
  obtain ⟨f0, hf0⟩ : ∃ v, a0.fin = v := ⟨_, rfl⟩
  rw [hs0] at z9 HSF
  rw [hf0] at z10 HSF
  have hn1 : (0 : Int) < (n : Int) := by omega
  obtain ⟨hb, hhb⟩ : ∃ b, holdsB l X = b := ⟨_, rfl⟩
  have HHB : Hid (holdsB l X = hb) := hhb
  rw [hhb]
  clear hhb hK XW R0 hX hF ehi elo hf hmm ha0 hmv hcl hl hs0 hf0 hmo
  unfold polV
  go_enter Tryz.func22, Tryz.ntmps22
  go_wp2
  (try rw [hW])
  clear hW z9 z10
  go_loopw [5, 6, 7, 8, 9] (fun z5 z6 z7 z8 z9 wr => ∃ (k : Nat) (s f : Int) (fb nb : Bool), z5 = .int .i64 s ∧ z6 = .int .i64 f ∧ z7 = .bool fb ∧ z8 = .bool nb ∧ z9 = .int .i64 k ∧ k ≤ n ∧ Hid (Below W.heap.size W wr) ∧ Hid (startR s0 (X.take k) = s ∧ finR f0 (X.take k) = f ∧ (X.take k).any (fun a => decide (a.status = 2)) = fb ∧ (X.take k).any (fun a => decide (a.svc = l.name)) = nb)) (fun _ _ _ _ z _ => n - (intOf z).toNat)
  case atStart => exact ⟨0, _, _, _, _, rfl, rfl, rfl, rfl, rfl, by omega, Below.refl _ _, rfl, rfl, rfl, rfl⟩
  case round =>
    obtain ⟨k, s, f, fb, nb, rfl, rfl, rfl, rfl, rfl, hkn, HB, HD⟩ := hrel
    by_cases hlt : k < n
    · have hkX : k < X.length := by rw [HL.out]; exact hlt
      have hltd : (k : Int) < (n : Int) := by omega
      have RG : Hid (wr.rangeAt b1 (o1 + k * 13) (spC X[k] (P k)).toList) := (HX.out.below HB.out).range k hkX
      have HN : Hid (startR s0 (X.take (k + 1)) = min s (X[k]'hkX).start ∧ finR f0 (X.take (k + 1)) = max f (X[k]'hkX).fin ∧ (X.take (k + 1)).any (fun a => decide (a.status = 2)) = (fb || decide ((X[k]'hkX).status = 2)) ∧ (X.take (k + 1)).any (fun a => decide (a.svc = l.name)) = (nb || decide ((X[k]'hkX).svc = l.name))) := by
        have h1 := startR_next s0 X k hkX
        have h2 := finR_next f0 X k hkX
        have h3 := any_next (fun a => decide (a.status = 2)) X k hkX
        have h4 := any_next (fun a => decide (a.svc = l.name)) X k hkX
        rw [HD.out.1] at h1
        rw [HD.out.2.1] at h2
        rw [HD.out.2.2.1] at h3
        rw [HD.out.2.2.2] at h4
        exact ⟨h1, h2, h3, h4⟩
      obtain ⟨a, ha⟩ : ∃ a, X[k]'hkX = a := ⟨_, rfl⟩
      obtain ⟨p, hp⟩ : ∃ p, P k = p := ⟨_, rfl⟩
      rw [ha, hp] at RG
      rw [ha] at HN
      have y5 : wr.cell? ⟨b1, o1 + k * 13 + 5, none⟩ = some (.string a.svc) := RG.out 5 _ rfl
      have y8 : wr.cell? ⟨b1, o1 + k * 13 + 8, none⟩ = some (.int .i64 a.status) := RG.out 8 _ rfl
      have y9 : wr.cell? ⟨b1, o1 + k * 13 + 9, none⟩ = some (.int .i64 a.start) := RG.out 9 _ rfl
      have y10 : wr.cell? ⟨b1, o1 + k * 13 + 10, none⟩ = some (.int .i64 a.fin) := RG.out 10 _ rfl
      have ynm : wr.cell? ⟨w.heap.size, 2, none⟩ = some (.string l.name) := (HK.out.below HB.out HK.out.lt).cell 2 rfl
      obtain ⟨st, hst⟩ : ∃ t, decide (a.status = 2) = t := ⟨_, rfl⟩
      have hst2 : (a.status == 2) = st := by rw [← hst]; by_cases h : a.status = 2 <;> simp [h]
      obtain ⟨sn, hsn⟩ : ∃ t, decide (a.svc = l.name) = t := ⟨_, rfl⟩
      have hsn2 : (a.svc.toList == l.name.toList) = sn := by rw [← hsn]; exact strB_eq _ _
      have hsn3 : decide (a.svc.toList = l.name.toList) = sn := by rw [← hsn2]; by_cases h : a.svc.toList = l.name.toList <;> simp [h]
      rw [hst, hsn] at HN
      clear ha hp HD hst hsn
      rcases fb with _ | _
      · rcases nb with _ | _
        · have KB : wr.drew.cell? ⟨b1, o1 + k * 13 + 5, none⟩ = some (.string a.svc) ∧ wr.drew.cell? ⟨w.heap.size, 2, none⟩ = some (.string l.name) := ⟨y5, ynm⟩
          have HB2 : Hid (Below W.heap.size W wr.drew) := HB.out.drew
          go_upto_region 11 with fail
          go_region_held3 (fun V => V.cell? ⟨b1, o1 + k * 13 + 5, none⟩ = some (.string a.svc) ∧ V.cell? ⟨w.heap.size, 2, none⟩ = some (.string l.name)) (first | exact KB | fail) (first | fail | fail)
          all_goals go_wp2
          all_goals go_roundw
          case rel => exact ⟨k + 1, _, _, _, _, rfl, rfl, rfl, rfl, by simp, by omega, HB2, HN.out.1, HN.out.2.1, HN.out.2.2.1, HN.out.2.2.2⟩
          case measure => (simp [intOf]; omega)
        · go_upto_region 11 with fail
          go_quiet (fail)
          go_wp2
          have HB2 : Hid (Below W.heap.size W (wr.drewN nq)) := HB.out.trans ⟨rfl, rfl, rfl, Nat.le_refl _, fun _ _ => rfl⟩
          go_roundw
          case rel => exact ⟨k + 1, _, _, _, _, rfl, rfl, rfl, rfl, by simp, by omega, HB2, HN.out.1, HN.out.2.1, HN.out.2.2.1, HN.out.2.2.2⟩
          case measure => (simp [intOf]; omega)
      · rcases nb with _ | _
        · have KB : wr.drew.cell? ⟨b1, o1 + k * 13 + 5, none⟩ = some (.string a.svc) ∧ wr.drew.cell? ⟨w.heap.size, 2, none⟩ = some (.string l.name) := ⟨y5, ynm⟩
          have HB2 : Hid (Below W.heap.size W wr.drew) := HB.out.drew
          go_upto_region 11 with fail
          go_region_held3 (fun V => V.cell? ⟨b1, o1 + k * 13 + 5, none⟩ = some (.string a.svc) ∧ V.cell? ⟨w.heap.size, 2, none⟩ = some (.string l.name)) (first | exact KB | fail) (first | fail | fail)
          all_goals go_wp2
          all_goals go_roundw
          case rel => exact ⟨k + 1, _, _, _, _, rfl, rfl, rfl, rfl, by simp, by omega, HB2, HN.out.1, HN.out.2.1, HN.out.2.2.1, HN.out.2.2.2⟩
          case measure => (simp [intOf]; omega)
        · go_upto_region 11 with fail
          go_quiet (fail)
          go_wp2
          have HB2 : Hid (Below W.heap.size W (wr.drewN nq)) := HB.out.trans ⟨rfl, rfl, rfl, Nat.le_refl _, fun _ _ => rfl⟩
          go_roundw
          case rel => exact ⟨k + 1, _, _, _, _, rfl, rfl, rfl, rfl, by simp, by omega, HB2, HN.out.1, HN.out.2.1, HN.out.2.2.1, HN.out.2.2.2⟩
          case measure => (simp [intOf]; omega)
    · obtain rfl : k = n := by omega
      have hk0 : (X.take k) = X := List.take_of_length_le (by rw [HL.out]; exact Nat.le_refl _)
      have HE : Hid (startM X = s ∧ finM X = f ∧ X.any (fun a => decide (a.status = 2)) = fb ∧ X.any (fun a => decide (a.svc = l.name)) = nb) := by
        have h := HD.out
        rw [hk0, HSF.out.1, HSF.out.2] at h
        exact h
      clear HD hk0
      obtain ⟨kd, hkd⟩ : ∃ k, l.kind = k := ⟨_, rfl⟩
      have HKD : Hid (l.kind = kd) := hkd
      obtain ⟨tk, htk⟩ : ∃ v, IntKind.u64.wrap (wrap64 (f - s)) = v := ⟨_, rfl⟩
      have HV : Hid (hb = if kd = 1 then fb else if kd = 2 then decide (l.nanos ≤ tk) else if kd = 3 then nb else if kd = 4 then decide (mv / 281474976710656 < pw) else true) := by
        show hb = if kd = 1 then fb else if kd = 2 then decide (l.nanos ≤ tk) else if kd = 3 then nb else if kd = 4 then decide (mv / 281474976710656 < pw) else true
        rw [← HHB.out]
        unfold holdsB tookN
        rw [HKD.out, HE.out.1, HE.out.2.1, HE.out.2.2.1, HE.out.2.2.2, hfm.out, HMV.out, HPW.out, htk]
      clear HHB
      have KW := HK.out.below HB.out HK.out.lt
      have c0 : wr.cell? ⟨w.heap.size, 0, none⟩ = some (.int .i64 kd) := by rw [← hkd]; exact KW.cell 0 rfl
      have c1 : wr.cell? ⟨w.heap.size, 1, none⟩ = some (.int .u64 l.nanos) := KW.cell 1 rfl
      have c3 : wr.cell? ⟨w.heap.size, 3, none⟩ = some (.int .i64 l.part) := KW.cell 3 rfl
      have q0 : wr.cell? ⟨b1, o1, none⟩ = some (.int .u64 a0.hi) := (HB.out.cell (p := ⟨b1, o1, none⟩) (World.block_lt_of_cell? W _ z0)).trans z0
      have q1 : wr.cell? ⟨b1, o1 + 1, none⟩ = some (.int .u64 a0.lo) := (HB.out.cell (p := ⟨b1, o1 + 1, none⟩) (World.block_lt_of_cell? W _ z1)).trans z1
      have KM : ∀ V, Below wr.heap.size wr V → V.cell? ⟨w.heap.size, 3, none⟩ = some (.int .i64 l.part) ∧ V.cell? ⟨b1, o1, none⟩ = some (.int .u64 a0.hi) ∧ V.cell? ⟨b1, o1 + 1, none⟩ = some (.int .u64 a0.lo) := fun V hV =>
        ⟨(hV.cell (p := ⟨w.heap.size, 3, none⟩) (World.block_lt_of_cell? wr _ c3)).trans c3, (hV.cell (p := ⟨b1, o1, none⟩) (World.block_lt_of_cell? wr _ q0)).trans q0, (hV.cell (p := ⟨b1, o1 + 1, none⟩) (World.block_lt_of_cell? wr _ q1)).trans q1⟩
      have B0 : Below wr.heap.size wr wr.drew := (Below.refl _ _).drew
      have HF : Hid (∀ V, Below wr.heap.size wr V → Below w.heap.size w V) := fun V hV => (hbW.out.trans (HB.out.mono hbW.out.size)).trans (hV.mono (Nat.le_trans hbW.out.size HB.out.size))
      clear KW hkd q0 q1 z0 z1 HX HL HE
      by_cases k1 : kd = 1
      · subst k1
        clear MX KM B0 hpw
        go_wp2
        go_ret
        exact ⟨by rw [HV.out]; rfl, HF.out _ (Below.refl _ _)⟩
      · have HV1 := HV.out
        rw [if_neg k1] at HV1
        have HV : Hid _ := HV1
        clear HV1
        have k1b : (kd == 1) = false := by simpa using k1
        by_cases k2 : kd = 2
        · subst k2
          clear MX KM B0 hpw k1 k1b
          go_wp2
          go_ret
          refine ⟨?_, HF.out _ (Below.refl _ _)⟩
          rw [HV.out]
          first
            | rfl
            | simp
        · have HV1 := HV.out
          rw [if_neg k2] at HV1
          have HV : Hid _ := HV1
          clear HV1
          have k2b : (kd == 2) = false := by simpa using k2
          by_cases k3 : kd = 3
          · subst k3
            clear MX KM B0 hpw k1 k1b k2 k2b
            go_wp2
            go_ret
            exact ⟨by rw [HV.out]; rfl, HF.out _ (Below.refl _ _)⟩
          · have HV1 := HV.out
            rw [if_neg k3] at HV1
            have HV : Hid _ := HV1
            clear HV1
            have k3b : (kd == 3) = false := by simpa using k3
            by_cases k4 : kd = 4
            · subst k4
              clear k1 k1b k2 k2b k3 k3b htk
              go_upto_region 20 with fail
              go_region_held3 (fun V => V.cell? ⟨w.heap.size, 3, none⟩ = some (.int .i64 l.part) ∧ V.cell? ⟨b1, o1, none⟩ = some (.int .u64 a0.hi) ∧ V.cell? ⟨b1, o1 + 1, none⟩ = some (.int .u64 a0.lo)) (first | exact KM _ B0 | exact KM _ B1) (first
                | (go_at_call 44; (with_reducible refine (MX.out _).mono ?_); clear MX; rintro e w1 ⟨rfl, hb1⟩; have B1 : Below wr.heap.size wr w1 := B0.trans (hb1.mono B0.size); clear hb1)
                | fail)
              go_wp2
              go_ret
              exact ⟨by rw [HV.out]; simp, HF.out _ B1⟩
            · have HV1 := HV.out
              rw [if_neg k4] at HV1
              have HV : Hid _ := HV1
              clear HV1
              have k4b : (kd == 4) = false := by simpa using k4
              clear MX KM B0 hpw
              go_wp2
              go_ret
              exact ⟨by rw [HV.out]; rfl, HF.out _ (Below.refl _ _)⟩
end Go.Proofs.YtffdgpplgkmhiaaGreatDoor
