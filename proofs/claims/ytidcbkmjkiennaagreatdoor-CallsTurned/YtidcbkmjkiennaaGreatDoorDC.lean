/-
  DC.
-/
import Derived.Test.YtidcbkmjkiennaaGreatDoorDAq
namespace Go.Proofs.YtidcbkmjkiennaaGreatDoor.sk
open Go Go.RowKit
set_option maxRecDepth 100000

/-- What stays when the tally changes. -/
structure TRest (w W : World) (tb wb : Nat) (lb : List Cal) (oT oP : Option Addr) (nT nP : Nat) (T P : List Cal) : Prop where
  low : Below w.heap.size w W
  want : SumL W wb (tb + 1) lb
  tk : CalAt W oT nT T
  pt : CalAt W oP nP P
  ft : ∀ a, oT = some a → tb < a.block
  fp : ∀ a, oP = some a → tb < a.block
  wt : tb < wb
  tw : w.heap.size ≤ tb
theorem TRest.upd {w W W' : World} {tb wb : Nat} {lb : List Cal} {oT oP : Option Addr} {nT nP : Nat} {T P : List Cal} (h : TRest w W tb wb lb oT oP nT nP T P) (hu : Upd (fun j => j = tb) W W') : TRest w W' tb wb lb oT oP nT nP T P :=
  ⟨h.low.trans (hu.below h.low.size (fun j hj e => by have := h.tw; omega)), SumAt.upd h.want hu (by have := h.wt; omega) (fun j hj e => by omega), h.tk.upd hu (fun a ha e => by have := h.ft a ha; omega), h.pt.upd hu (fun a ha e => by have := h.fp a ha; omega), h.ft, h.fp, h.wt, h.tw⟩
theorem OwnCal.far {base : Nat} {w : World} {ao : Option Addr} {n c : Nat} {L : List Cal} (h : OwnCal base w (.slice ao n c) L) : ∀ a, ao = some a → base ≤ a.block := fun a ha => (h.row.low a ha).2
set_option maxHeartbeats 16000000 in
theorem callsTurned_any (aa ba oa : Option Addr) (na nb no ca cb co : Nat) (a b : List Cal) (r : List Int) (w : World) (hT : Tabs w) (hA : CalAt w aa na a) (hB : CalAt w ba nb b) (hO : NumAt .i64 w oa no r)
    (xa : ∀ c ∈ a, 0 ≤ c.2.2.2.2 ∧ c.2.2.2.2 < 18446744073709551616) (xb : ∀ c ∈ b, 0 ≤ c.2.2.2.2 ∧ c.2.2.2.2 < 18446744073709551616) (pa : ∀ x, aa = some x → x.spot = none) (pb : ∀ x, ba = some x → x.spot = none) (za : na * 56 ≤ 140737488351232) (zb : nb * 56 ≤ 140737488351232) :
    Calls Tryz.prog 8 #[.slice aa na ca, .slice ba nb cb, .slice oa no co] w fun e w' => e = .returned (.bool true) ∧ Below w.heap.size w w' := by
  have SH := shown_any w hT
  have SP : Hid (∀ W, Below w.heap.size w W → Calls Tryz.prog 31 #[.slice aa na ca] W fun e w' => ∃ ta tn tc, e = .returned (.tuple #[.agg (talL (hi64 a.length) (lo64 a.length) (hi64 (sumC failN a)) (lo64 (sumC failN a)) (hi64 (sumC tookN a)) (lo64 (sumC tookN a)) ta tn tc).toArray, .bool true]) ∧ Hid (SkAt w' ta tn (histF a) ∧ ∀ x, ta = some x → W.heap.size ≤ x.block) ∧ Below W.heap.size W w') := fun W h => summed_any aa na ca a W (hA.below h) xa za
  have SQ : Hid (∀ W, Below w.heap.size w W → Calls Tryz.prog 31 #[.slice ba nb cb] W fun e w' => ∃ ta tn tc, e = .returned (.tuple #[.agg (talL (hi64 b.length) (lo64 b.length) (hi64 (sumC failN b)) (lo64 (sumC failN b)) (hi64 (sumC tookN b)) (lo64 (sumC tookN b)) ta tn tc).toArray, .bool true]) ∧ Hid (SkAt w' ta tn (histF b) ∧ ∀ x, ta = some x → W.heap.size ≤ x.block) ∧ Below W.heap.size W w') := fun W h => summed_any ba nb cb b W (hB.below h) xb zb
  obtain ⟨p0, hp0⟩ : ∃ z : Int, (hi64 a.length : Int) = z := ⟨_, rfl⟩
  rw [hp0] at SP
  have HP0 : Hid ((hi64 a.length : Int) = p0) := hp0
  clear hp0
  obtain ⟨p1, hp1⟩ : ∃ z : Int, (lo64 a.length : Int) = z := ⟨_, rfl⟩
  rw [hp1] at SP
  have HP1 : Hid ((lo64 a.length : Int) = p1) := hp1
  clear hp1
  obtain ⟨p2, hp2⟩ : ∃ z : Int, (hi64 (sumC failN a) : Int) = z := ⟨_, rfl⟩
  rw [hp2] at SP
  have HP2 : Hid ((hi64 (sumC failN a) : Int) = p2) := hp2
  clear hp2
  obtain ⟨p3, hp3⟩ : ∃ z : Int, (lo64 (sumC failN a) : Int) = z := ⟨_, rfl⟩
  rw [hp3] at SP
  have HP3 : Hid ((lo64 (sumC failN a) : Int) = p3) := hp3
  clear hp3
  obtain ⟨p4, hp4⟩ : ∃ z : Int, (hi64 (sumC tookN a) : Int) = z := ⟨_, rfl⟩
  rw [hp4] at SP
  have HP4 : Hid ((hi64 (sumC tookN a) : Int) = p4) := hp4
  clear hp4
  obtain ⟨p5, hp5⟩ : ∃ z : Int, (lo64 (sumC tookN a) : Int) = z := ⟨_, rfl⟩
  rw [hp5] at SP
  have HP5 : Hid ((lo64 (sumC tookN a) : Int) = p5) := hp5
  clear hp5
  obtain ⟨q0, hq0⟩ : ∃ z : Int, (hi64 b.length : Int) = z := ⟨_, rfl⟩
  rw [hq0] at SQ
  have HQ0 : Hid ((hi64 b.length : Int) = q0) := hq0
  clear hq0
  obtain ⟨q1, hq1⟩ : ∃ z : Int, (lo64 b.length : Int) = z := ⟨_, rfl⟩
  rw [hq1] at SQ
  have HQ1 : Hid ((lo64 b.length : Int) = q1) := hq1
  clear hq1
  obtain ⟨q2, hq2⟩ : ∃ z : Int, (hi64 (sumC failN b) : Int) = z := ⟨_, rfl⟩
  rw [hq2] at SQ
  have HQ2 : Hid ((hi64 (sumC failN b) : Int) = q2) := hq2
  clear hq2
  obtain ⟨q3, hq3⟩ : ∃ z : Int, (lo64 (sumC failN b) : Int) = z := ⟨_, rfl⟩
  rw [hq3] at SQ
  have HQ3 : Hid ((lo64 (sumC failN b) : Int) = q3) := hq3
  clear hq3
  obtain ⟨q4, hq4⟩ : ∃ z : Int, (hi64 (sumC tookN b) : Int) = z := ⟨_, rfl⟩
  rw [hq4] at SQ
  have HQ4 : Hid ((hi64 (sumC tookN b) : Int) = q4) := hq4
  clear hq4
  obtain ⟨q5, hq5⟩ : ∃ z : Int, (lo64 (sumC tookN b) : Int) = z := ⟨_, rfl⟩
  rw [hq5] at SQ
  have HQ5 : Hid ((lo64 (sumC tookN b) : Int) = q5) := hq5
  clear hq5
  have DL : Hid (∀ W, Below w.heap.size w W → Calls Tryz.prog 12 #[.slice aa na ca, .slice ba nb cb] W (DelP a b W)) := fun W h => delta_any aa ba na nb ca cb a b W (hA.below h) (hB.below h) pa pb za zb
  have HA : Hid _ := hA
  have HLN : Hid (a.length = na ∧ b.length = nb) := ⟨hA.len, hB.len⟩
  have HO : Hid _ := hO
  have HX : Hid ((∀ c ∈ a, 0 ≤ c.2.2.2.2 ∧ c.2.2.2.2 < 18446744073709551616) ∧ (∀ c ∈ b, 0 ≤ c.2.2.2.2 ∧ c.2.2.2.2 < 18446744073709551616)) := ⟨xa, xb⟩
  have HPL : Hid (∀ x, aa = some x → x.spot = none) := pa
  have hno := hO.size
  clear hT hA hB hO xa xb pa pb
  go_enter Tryz.func8, Tryz.ntmps8
  go_wp2_with (first
    | (go_at_call 9; (with_reducible refine (SH).mono ?_); clear SH; rintro e w1 ⟨rfl, b1⟩; have HB1 : Hid (Below w.heap.size w w1) := b1; clear b1)
    | (go_at_call 31; (with_reducible refine (SP.out _ HB1.out).mono ?_); clear SP; rintro e w2 ⟨ta, tn, tc, rfl, HK2, b2⟩; have HB2 : Hid (Below w.heap.size w w2) := HB1.out.trans (b2.mono HB1.out.size); clear b2)
    | (refine wpList_stW rfl 41 _ _ rfl w2.heap.size [.int .u64 0, .int .u64 0, .int .u64 0, .int .u64 0, .int .u64 0, .int .u64 0, .slice none 0 0] (talL p0 p1 p2 p3 p4 p5 ta tn tc) 41 (Blk.new _ _ _) rfl rfl rfl (by kernel_rfl) talL_one ?_; intro w3 n3 u3; obtain ⟨s3, b3⟩ := SumAt.put (B := 0) HP0.out HP1.out HP2.out HP3.out HP4.out HP5.out ⟨HK2.out.1, fun _ _ => Nat.zero_le _⟩ n3 u3; have HS3 : Hid (SumL w3 w2.heap.size 0 a) := s3; have HB3 : Hid (Below w.heap.size w w3 ∧ w.heap.size ≤ w2.heap.size) := ⟨HB2.out.trans (b3.mono HB2.out.size), HB2.out.size⟩; clear s3 b3 n3 u3 HK2 HB2 HB1)
    | (go_at_call 31; (with_reducible refine (SQ.out _ HB3.out.1).mono ?_); clear SQ; rintro e w4 ⟨va, vn, vc, rfl, HK4, b4⟩; have HB4 : Hid (Below w.heap.size w w4) := HB3.out.1.trans (b4.mono HB3.out.1.size); have HS4 : Hid (SumL w4 w2.heap.size 0 a) := SumAt.below HS3.out b4; have HF4 : Hid (w2.heap.size < w3.heap.size ∧ w3.heap.size ≤ w4.heap.size) := ⟨by obtain ⟨_, _, _, h, _⟩ := HS3.out.ex; exact Blk.lt h, b4.size⟩; clear b4 HS3)
    | (refine wpList_stW rfl 41 _ _ rfl w4.heap.size [.int .u64 0, .int .u64 0, .int .u64 0, .int .u64 0, .int .u64 0, .int .u64 0, .slice none 0 0] (talL q0 q1 q2 q3 q4 q5 va vn vc) 41 (Blk.new _ _ _) rfl rfl rfl (by kernel_rfl) talL_one ?_; intro w5 n5 u5; obtain ⟨s5, b5⟩ := SumAt.put (B := w3.heap.size) HQ0.out HQ1.out HQ2.out HQ3.out HQ4.out HQ5.out HK4.out n5 u5; have HW5 : Hid (SumL w5 w4.heap.size w3.heap.size b) := s5; have HB5 : Hid (Below w.heap.size w w5) := HB4.out.trans (b5.mono HB4.out.size); have HS5 : Hid (SumL w5 w2.heap.size 0 a) := SumAt.below HS4.out b5; clear s5 b5 n5 u5 HK4 HB4 HS4)
    | (go_at_call 12; (with_reducible refine (DL.out _ HB5.out).mono ?_); clear DL; rintro e w6 ⟨v, u, A, B, rfl, HPM, HOv, HOu, b6⟩; have HB6 : Hid (Below w5.heap.size w5 w6) := b6; clear b6; obtain ⟨oT, nT, cT, rfl⟩ := row_shape HOv.out; obtain ⟨oP, nP, cP, rfl⟩ := row_shape HOu.out))
  obtain ⟨m, hm1, hm2⟩ := woL_common HPM.out.2.1 HPM.out.2.2.2
  obtain ⟨tb, htb⟩ : ∃ tb, w2.heap.size = tb := ⟨_, rfl⟩
  obtain ⟨wb, hwb⟩ : ∃ wb, w4.heap.size = wb := ⟨_, rfl⟩
  have HPA : Hid (a.Perm (woL A B ++ m)) := HPM.out.1.trans hm1.symm
  have HPB : Hid ((m ++ woL B A).Perm b) := (List.perm_append_comm.trans hm2).trans HPM.out.2.2.1.symm
  have HS6 : Hid (SumL w6 tb 0 (woL A B ++ m)) := by rw [← htb]; exact SumL.perm (SumAt.below HS5.out HB6.out) HPA.out
  have hs5 : w4.heap.size < w5.heap.size := by obtain ⟨_, _, _, h, _⟩ := HW5.out.ex; exact Blk.lt h
  have HR6 : Hid (TRest w w6 tb wb b oT oP nT nP (woL A B) (woL B A)) := by
    rw [← htb, ← hwb]
    have h1 := HF4.out
    exact ⟨HB5.out.trans (HB6.out.mono HB5.out.size), (SumAt.below HW5.out HB6.out).weak (by omega), HOv.out.at, HOu.out.at, fun x hx => by have := HOv.out.far x hx; omega, fun x hx => by have := HOu.out.far x hx; omega, by omega, HB3.out.2⟩
  have HCL : Hid ((nT ≤ cT ∧ cT ≤ maxLen) ∧ (nP ≤ cP ∧ cP ≤ maxLen)) := ⟨(own_calL HOv.out).2, (own_calL HOu.out).2⟩
  rw [htb, hwb]
  generalize woL A B = T at *
  generalize woL B A = P at *
  clear hm1 hm2 HPM HOv HOu HB5 HB6 HS5 HW5 HF4 HB3 htb hwb hs5
  have HXT : Hid ((∀ c ∈ T ++ m, 0 ≤ c.2.2.2.2 ∧ c.2.2.2.2 < 18446744073709551616) ∧ (∀ c ∈ m ++ P, 0 ≤ c.2.2.2.2 ∧ c.2.2.2.2 < 18446744073709551616)) := ⟨fun c hc => HX.out.1 c (HPA.out.mem_iff.2 hc), fun c hc => HX.out.2 c (HPB.out.mem_iff.1 hc)⟩
  have HLT : Hid (nT = T.length ∧ nP = P.length ∧ na = T.length + m.length ∧ nb = m.length + P.length) := by
    have h1 := HPA.out.length_eq
    have h2 := HPB.out.length_eq
    have h3 := HLN.out
    have h4 := HR6.out.tk.len
    have h5 := HR6.out.pt.len
    simp at h1 h2
    exact ⟨by omega, by omega, by omega, by omega⟩
  have hnT : nT ≤ na := by have := HLT.out; omega
  have hnP : nP ≤ nb := by have := HLT.out; omega
  clear HX HP0 HP1 HP2 HP3 HP4 HP5 HQ0 HQ1 HQ2 HQ3 HQ4 HQ5
  (try simp only [Act.put])
  go_loopw [14] (fun t wr => ∃ k0 : Nat, t = .int .i64 k0 ∧ k0 ≤ nT ∧ Hid (SumL wr tb 0 (T.drop k0 ++ m)) ∧ Hid (TRest w wr tb wb b oT oP nT nP T P)) (fun t _ => nT - (intOf t).toNat)
  case atStart => exact ⟨0, rfl, Nat.zero_le _, HS6, HR6⟩
  case round =>
    obtain ⟨k0, rfl, hk, HSUM, HR⟩ := hrel
    by_cases hlt : k0 < nT
    · have hkA : k0 < T.length := by have := HLT.out.1; omega
      obtain ⟨ab, aoff, rfl, hra⟩ := HR.out.tk.lies (by omega)
      have RG : Hid (wr.rangeAt ab (aoff + k0 * 5) (calL T[k0])) := hra k0 hkA
      have HTk : Hid (T.drop k0 = T[k0] :: T.drop (k0 + 1)) := List.drop_eq_getElem_cons hkA
      have hx := HXT.out.1 T[k0] (List.mem_append_left _ (List.getElem_mem _))
      obtain ⟨x, ex⟩ : ∃ x, T[k0] = x := ⟨_, rfl⟩
      rw [ex] at RG HTk hx
      clear ex hra
      have HBD : Hid ((T.drop k0 ++ m).length ≤ top128 ∧ sumC failN (T.drop k0 ++ m) ≤ top128 ∧ sumC tookN (T.drop k0 ++ m) ≤ top128) := sum_bd (fun c hc => HXT.out.1 c (by rcases List.mem_append.1 hc with h | h; exact List.mem_append_left _ (List.mem_of_mem_drop h); exact List.mem_append_right _ h)) (by have := HLT.out; rw [List.length_append, List.length_drop]; omega)
      have HLm : Hid ((T.drop (k0 + 1) ++ m).length < 9000000000000000000) := by have := HLT.out; show _ < _; rw [List.length_append, List.length_drop]; omega
      unfold SumL at HSUM
      rw [HTk.out, List.cons_append] at HSUM HBD
      have HLE : Hid (1 ≤ (x :: (T.drop (k0 + 1) ++ m)).length ∧ failN x ≤ sumC failN (x :: (T.drop (k0 + 1) ++ m)) ∧ tookN x ≤ sumC tookN (x :: (T.drop (k0 + 1) ++ m)) ∧ ∀ i, i < 1920 → oneC x i ≤ histF (x :: (T.drop (k0 + 1) ++ m)) i) := ⟨by simp, by rw [sumC_cons]; omega, by rw [sumC_cons]; omega, fun i _ => by rw [histF_cons]; omega⟩
      have HNEXT : Hid (∀ W, SumAt W tb wr.heap.size ((x :: (T.drop (k0 + 1) ++ m)).length - 1) (sumC failN (x :: (T.drop (k0 + 1) ++ m)) - failN x) (sumC tookN (x :: (T.drop (k0 + 1) ++ m)) - tookN x) (fun i => histF (x :: (T.drop (k0 + 1) ++ m)) i - oneC x i) → SumL W tb 0 (T.drop (k0 + 1) ++ m)) := fun W h => SumAt.weak (SumL.less HLm.out h) (Nat.zero_le _)
      have HREST : Hid (∀ W, Upd (fun j => j = tb) wr W → Hid (TRest w W tb wb b (some ⟨ab, aoff, none⟩) oP nT nP T P)) := fun W h => HR.out.upd h
      have hcT := HCL.out.1
      unfold maxLen at hcT
      clear HLm HTk HXT HR6 HS6 HLT HPA HPB HLN HO HPL HA HCL HR
      generalize (x :: (T.drop (k0 + 1) ++ m)).length = n at *
      generalize sumC failN (x :: (T.drop (k0 + 1) ++ m)) = e at *
      generalize sumC tookN (x :: (T.drop (k0 + 1) ++ m)) = k at *
      generalize histF (x :: (T.drop (k0 + 1) ++ m)) = f at *
      obtain ⟨ta, tn, tc, hTb, hTs, -⟩ := HSUM.out.ex
      have HTB : Hid (Blk wr tb (talL (hi64 n) (lo64 n) (hi64 e) (lo64 e) (hi64 k) (lo64 k) ta tn tc).toArray 41) := hTb
      have HTS : Hid (SkAt wr ta tn f) := hTs
      clear hTb hTs
      have ON := fun W => cOne_any x hx W
      have PL := fun W ao cp (h1 : SkAt W ta tn f) (h2 : SkAt W ao 1 (oneC x)) => cMinus_ok ta ao tn 1 tc cp f (oneC x) n e k 1 (failN x) (tookN x) W h1 h2 HBD.out.1 HBD.out.2.1 HBD.out.2.2 HLE.out.1 HLE.out.2.1 HLE.out.2.2.1 HLE.out.2.2.2
      unfold OneP talV calV at ON
      unfold TalP talV at PL
      obtain ⟨z0, hz0⟩ : ∃ z : Int, (hi64 (n - 1) : Int) = z := ⟨_, rfl⟩
      rw [hz0] at PL
      have HZ0 : Hid _ := hz0
      clear hz0
      obtain ⟨z1, hz1⟩ : ∃ z : Int, (lo64 (n - 1) : Int) = z := ⟨_, rfl⟩
      rw [hz1] at PL
      have HZ1 : Hid _ := hz1
      clear hz1
      obtain ⟨z2, hz2⟩ : ∃ z : Int, (hi64 (e - failN x) : Int) = z := ⟨_, rfl⟩
      rw [hz2] at PL
      have HZ2 : Hid _ := hz2
      clear hz2
      obtain ⟨z3, hz3⟩ : ∃ z : Int, (lo64 (e - failN x) : Int) = z := ⟨_, rfl⟩
      rw [hz3] at PL
      have HZ3 : Hid _ := hz3
      clear hz3
      obtain ⟨z4, hz4⟩ : ∃ z : Int, (hi64 (k - tookN x) : Int) = z := ⟨_, rfl⟩
      rw [hz4] at PL
      have HZ4 : Hid _ := hz4
      clear hz4
      obtain ⟨z5, hz5⟩ : ∃ z : Int, (lo64 (k - tookN x) : Int) = z := ⟨_, rfl⟩
      rw [hz5] at PL
      have HZ5 : Hid _ := hz5
      clear hz5
      generalize (hi64 1 : Int) = q0 at ON PL
      generalize (lo64 1 : Int) = q1 at ON PL
      generalize (hi64 (failN x) : Int) = q2 at ON PL
      generalize (lo64 (failN x) : Int) = q3 at ON PL
      generalize (hi64 (tookN x) : Int) = q4 at ON PL
      generalize (lo64 (tookN x) : Int) = q5 at ON PL
      generalize (hi64 n : Int) = t0 at PL HTB
      generalize (lo64 n : Int) = t1 at PL HTB
      generalize (hi64 e : Int) = t2 at PL HTB
      generalize (lo64 e : Int) = t3 at PL HTB
      generalize (hi64 k : Int) = t4 at PL HTB
      generalize (lo64 k : Int) = t5 at PL HTB
      have HWd : Hid (Below wr.heap.size wr wr.drew) := (Below.refl _ _).drew
      go_wp2
      refine wp_region_held (S := fun W => W.rangeAt ab (aoff + k0 * 5) (calL x) ∧ Blk W tb (talL t0 t1 t2 t3 t4 t5 ta tn tc).toArray 41) (by kernel_rfl) ?_
      change wpAnyH _ _ _ _ _ _ _ _ (World.drew _)
      obtain ⟨wd, hwd⟩ : ∃ V, wr.drew = V := ⟨_, rfl⟩
      rw [hwd] at HWd ⊢
      clear hwd
      have HSd : Hid (wd.rangeAt ab (aoff + k0 * 5) (calL x) ∧ Blk wd tb (talL t0 t1 t2 t3 t4 t5 ta tn tc).toArray 41) := ⟨range_bel RG.out HWd.out, Blk.below HTB.out HWd.out (Blk.lt HTB.out)⟩
      have HTd : Hid (SkAt wd ta tn f) := SkAt.below HTS.out HWd.out
      have HBd : Hid (Below wr.heap.size wr wd) := HWd.out
      have HLE0 : Hid (wr.heap.size ≤ wd.heap.size) := HWd.out.size
      have HTL : Hid (tb < wr.heap.size) := Blk.lt HTB.out
      have HGL : Hid (ab < wr.heap.size) := range_lt RG.out
      refine takeC (i := 0) (v := .agg (talL t0 t1 t2 t3 t4 t5 ta tn tc).toArray) rfl (by kernel_rfl) (by kernel_rfl) (by kernel_rfl) (fun _ _ _ h => h) (yieldsIf_load_mid (by rfl) 41 _ rfl tb 0 rfl (talL t0 t1 t2 t3 t4 t5 ta tn tc) _ (fun W hW => range13C hW.2) Tryz.underlying41 rfl (by kernel_rfl)) (HSd.out) ?_
      simp only [Act.put, List.setIfInBounds_toArray, List.set_cons_zero, List.set_cons_succ]
      refine takeC (i := 1) (v := .slice (some ⟨ab, aoff, none⟩) nT cT) rfl (by kernel_rfl) (by kernel_rfl) (by kernel_rfl) (fun _ _ _ h => h) (Or.inl ⟨by rfl, fun W hW => by go_simp⟩) (HSd.out) ?_
      simp only [Act.put, List.setIfInBounds_toArray, List.set_cons_zero, List.set_cons_succ]
      refine takeC (i := 2) (v := .int .i64 ((k0 : Nat) : Int)) rfl (by kernel_rfl) (by kernel_rfl) (by kernel_rfl) (fun _ _ _ h => h) (Or.inl ⟨by rfl, fun W hW => by go_simp⟩) (HSd.out) ?_
      simp only [Act.put, List.setIfInBounds_toArray, List.set_cons_zero, List.set_cons_succ]
      refine takeC (i := 3) (v := .pointer (some ⟨ab, aoff + k0 * 5, none⟩)) rfl (by kernel_rfl) (by kernel_rfl) (by kernel_rfl) (fun _ _ _ h => h) (Or.inl ⟨by rfl, fun W hW => by go_simp⟩) (HSd.out) ?_
      simp only [Act.put, List.setIfInBounds_toArray, List.set_cons_zero, List.set_cons_succ]
      refine takeC (i := 4) (v := .agg (calL x).toArray) rfl (by kernel_rfl) (by kernel_rfl) (by kernel_rfl) (fun _ _ _ h => h) (yieldsIf_load_mid (by rfl) 34 _ rfl ab (aoff + k0 * 5) rfl (calL x) _ (fun W hW => hW.1) Tryz.underlying34 rfl (by kernel_rfl)) (HSd.out) ?_
      simp only [Act.put, List.setIfInBounds_toArray, List.set_cons_zero, List.set_cons_succ]
      refine twoC (i := 5) (j := 10) rfl rfl (by kernel_rfl) (fun K hK => ?_) (fun K hK => ?_)
      · go_simp
        go_at_call 18
        (with_reducible refine (ON wd).mono ?_)
        rintro e w_1 ⟨ao, ca1, rfl, HQ0, b_1, -⟩
        have HS1 : Hid _ := And.intro (range_bel (HSd.out).1 b_1) (Blk.below (HSd.out).2 b_1 (Blk.lt (HSd.out).2))
        have HTS1 : Hid _ := SkAt.below HTd.out b_1
        have HB1 : Hid _ := Below.trans HBd.out (Below.mono b_1 (Below.size HBd.out))
        have HL1 : Hid _ := Nat.le_trans HLE0.out (Below.size b_1)
        refine hK _ _ ⟨HS1.out, ?_⟩
        clear hK K
        refine twoC (i := 6) (j := 10) rfl rfl (by kernel_rfl) (fun K hK => ?_) (fun K hK => ?_)
        · go_simp
          go_at_call 20
          (with_reducible refine (PL w_1 ao ca1 HTS1.out HQ0.out).mono ?_)
          rintro e w_2 ⟨mo, N, cm, rfl, HM, b_2, HO⟩
          have HS2 : Hid _ := And.intro (range_bel (HS1.out).1 b_2) (Blk.below (HS1.out).2 b_2 (Blk.lt (HS1.out).2))
          have HTS2 : Hid _ := SkAt.below HTS1.out b_2
          have HB2 : Hid _ := Below.trans HB1.out (Below.mono b_2 (Below.size HB1.out))
          have HL2 : Hid _ := Nat.le_trans HL1.out (Below.size b_2)
          have HQ2 : Hid _ := SkAt.below HQ0.out b_2
          refine hK _ _ ⟨HS2.out, ?_⟩
          clear hK K
          refine takeC (i := 7) (v := .tuple #[.agg (talL z0 z1 z2 z3 z4 z5 mo N cm).toArray, .int .i64 0]) rfl (by kernel_rfl) (by kernel_rfl) (by kernel_rfl) (fun _ _ _ h => h) (Or.inl ⟨by rfl, fun W hW => by go_simp⟩) (HS2.out) ?_
          simp only [Act.put, List.setIfInBounds_toArray, List.set_cons_zero, List.set_cons_succ]
          refine takeC (i := 8) (v := .agg (talL z0 z1 z2 z3 z4 z5 mo N cm).toArray) rfl (by kernel_rfl) (by kernel_rfl) (by kernel_rfl) (fun _ _ _ h => h) (Or.inl ⟨by rfl, fun W hW => by go_simp⟩) (HS2.out) ?_
          simp only [Act.put, List.setIfInBounds_toArray, List.set_cons_zero, List.set_cons_succ]
          refine takeC (i := 9) (v := .int .i64 0) rfl (by kernel_rfl) (by kernel_rfl) (by kernel_rfl) (fun _ _ _ h => h) (Or.inl ⟨by rfl, fun W hW => by go_simp⟩) (HS2.out) ?_
          simp only [Act.put, List.setIfInBounds_toArray, List.set_cons_zero, List.set_cons_succ]
          refine onlyC (i := 10) rfl (by kernel_rfl) (fun K hK => ?_)
          go_simp
          generalize hw_3 : w_2.alloc (.cells [.int .u64 0, .int .u64 0, .int .u64 0, .int .u64 0, .int .u64 0, .int .u64 0, .slice none 0 0].toArray 41) = w_3
          have b_3 : Below w_2.heap.size w_2 w_3 := by rw [← hw_3]; exact (Below.refl _ _).alloc (Nat.le_refl _) _
          have HA_3 : Blk w_3 w_2.heap.size [.int .u64 0, .int .u64 0, .int .u64 0, .int .u64 0, .int .u64 0, .int .u64 0, .slice none 0 0].toArray 41 := by rw [← hw_3]; exact Blk.new _ _ _
          clear hw_3
          have HS3 : Hid _ := And.intro (range_bel (HS2.out).1 b_3) (Blk.below (HS2.out).2 b_3 (Blk.lt (HS2.out).2))
          have HTS3 : Hid _ := SkAt.below HTS2.out b_3
          have HB3 : Hid _ := Below.trans HB2.out (Below.mono b_3 (Below.size HB2.out))
          have HL3 : Hid _ := Nat.le_trans HL2.out (Below.size b_3)
          have HQ3 : Hid _ := SkAt.below HQ2.out b_3
          have HM3 : Hid _ := SkAt.below HM.out b_3
          have HO3 : Hid _ := OwnBar.below HO.out b_3
          have HF3 : Hid _ := (fun a ha => Nat.le_trans HL1.out (own_fresh HO.out a ha) : ∀ a : Addr, mo = some a → wr.heap.size ≤ a.block)
          have HSB3 : Hid _ := HL2.out
          have HLL3 : Hid _ := (HM.out).at_.lt
          refine hK _ _ ⟨HS3.out, ?_⟩
          clear hK K
          refine onlyC (i := 11) rfl (by kernel_rfl) (fun K hK => ?_)
          refine step_stW (by rfl) 41 _ _ (by rfl) (w_2.heap.size) [.int .u64 0, .int .u64 0, .int .u64 0, .int .u64 0, .int .u64 0, .int .u64 0, .slice none 0 0] ((talL z0 z1 z2 z3 z4 z5 mo N cm)) 41 (HA_3) (by rfl) (by rfl) (by rfl) (by kernel_rfl) talL_one ?_
          intro w_4 n_4 u_4
          have hn1 : ¬ ab = w_2.heap.size := by have h2 := HSB3.out; have h3 := HGL.out; omega
          have hn2 : ¬ tb = w_2.heap.size := by have h2 := HSB3.out; have h3 := HTL.out; omega
          have HSx : w_4.rangeAt ab (aoff + k0 * 5) (calL x) ∧ Blk w_4 tb (talL t0 t1 t2 t3 t4 t5 ta tn tc).toArray 41 := ⟨range_updS HS3.out.1 u_4 hn1, Blk.upd HS3.out.2 u_4 hn2⟩
          have hnm : ∀ a, mo = some a → ¬ a.block = w_2.heap.size := fun a ha e => by have h1 := HLL3.out a ha; omega
          refine hK _ _ ⟨HSx, ?_⟩
          clear hK K
          refine takeC (i := 12) (v := .int .i64 0) rfl (by kernel_rfl) (by kernel_rfl) (by kernel_rfl) (fun _ _ _ h => h) (Or.inl ⟨by rfl, fun W hW => by go_simp⟩) HSx ?_
          simp only [Act.put, List.setIfInBounds_toArray, List.set_cons_zero, List.set_cons_succ]
          refine wpAnyH_done (by kernel_rfl) ?_ _
          have HMx : Hid (SkAt w_4 mo N (fun i => f i - oneC x i)) := (HM3.out).upd u_4 (fun a ha => hnm a ha)
          have HBx : Hid (Below wr.heap.size wr w_4) := (HB3.out).trans (u_4.below (Below.size HB3.out) (fun k hk e => by have h2 := HSB3.out; omega))
          have HGx : Hid (∀ a, mo = some a → wr.heap.size ≤ a.block) := HF3.out
          have HFx : Hid (∀ a, mo = some a → ¬ a.block = tb) := fun a ha e => by have h2 := HF3.out a ha; have h3 := HTL.out; omega
          have HNx : Hid (Blk w_4 (w_2.heap.size) (talL z0 z1 z2 z3 z4 z5 mo N cm).toArray 41) := n_4
          have HTx : Hid (Blk w_4 tb (talL t0 t1 t2 t3 t4 t5 ta tn tc).toArray 41) := HSx.2
          clear hnm HSx n_4 u_4 hn1 hn2
          obtain ⟨wv, hwv⟩ : ∃ V, w_4 = V := ⟨_, rfl⟩
          rw [hwv] at HMx HBx HNx HTx ⊢
          clear hwv
          go_wp2_with (first | (refine wpList_load_mid rfl 41 _ rfl (w_2.heap.size) 0 rfl (talL z0 z1 z2 z3 z4 z5 mo N cm) _ (range13C HNx.out) Tryz.underlying41 rfl (by kernel_rfl) ?_) | (refine wpList_stW rfl 41 _ _ rfl tb (talL t0 t1 t2 t3 t4 t5 ta tn tc) (talL z0 z1 z2 z3 z4 z5 mo N cm) 41 HTx.out rfl rfl rfl (by kernel_rfl) talL_one ?_; intro w9 n9 u9; have HT9 : Hid (Blk w9 tb (talL z0 z1 z2 z3 z4 z5 mo N cm).toArray 41) := n9; have HU9 : Hid (Upd (fun j => j = tb) wv w9) := u9; clear n9 u9))
          (try simp only [Act.put])
          have HU : Hid (Upd (fun j => j = tb) wr w9) := (Upd.ofBelow (S := fun j => j = tb) HBx.out (fun k hk hk2 => by omega)).trans HU9.out (fun _ _ h => h)
          have HK9 : Hid (SumAt w9 tb wr.heap.size (n - 1) (e - failN x) (k - tookN x) (fun i => f i - oneC x i)) := SumAt.of HZ0.out HZ1.out HZ2.out HZ3.out HZ4.out HZ5.out HT9.out (SkAt.upd HMx.out HU9.out (fun a ha e => HFx.out a ha e)) HGx.out
          clear HU9 HT9 HMx HBx HNx HTx HFx HGx
          go_roundw
          case rel =>
            refine ⟨k0 + 1, by go_num, by omega, HNEXT.out _ HK9.out, HREST.out _ HU.out⟩
          case measure => simp [intOf]; omega
        · go_simp
          generalize hw_2 : w_1.alloc (.cells [.int .u64 0, .int .u64 0, .int .u64 0, .int .u64 0, .int .u64 0, .int .u64 0, .slice none 0 0].toArray 41) = w_2
          have b_2 : Below w_1.heap.size w_1 w_2 := by rw [← hw_2]; exact (Below.refl _ _).alloc (Nat.le_refl _) _
          have HA_2 : Blk w_2 w_1.heap.size [.int .u64 0, .int .u64 0, .int .u64 0, .int .u64 0, .int .u64 0, .int .u64 0, .slice none 0 0].toArray 41 := by rw [← hw_2]; exact Blk.new _ _ _
          clear hw_2
          have HS2 : Hid _ := And.intro (range_bel (HS1.out).1 b_2) (Blk.below (HS1.out).2 b_2 (Blk.lt (HS1.out).2))
          have HTS2 : Hid _ := SkAt.below HTS1.out b_2
          have HB2 : Hid _ := Below.trans HB1.out (Below.mono b_2 (Below.size HB1.out))
          have HL2 : Hid _ := Nat.le_trans HL1.out (Below.size b_2)
          have HQ2 : Hid _ := SkAt.below HQ0.out b_2
          have HSB2 : Hid _ := HL1.out
          refine hK _ _ ⟨HS2.out, ?_⟩
          clear hK K
          refine onlyC (i := 6) rfl (by kernel_rfl) (fun K hK => ?_)
          go_simp
          go_at_call 20
          (with_reducible refine (PL w_2 ao ca1 HTS2.out HQ2.out).mono ?_)
          rintro e w_3 ⟨mo, N, cm, rfl, HM, b_3, HO⟩
          have HS3 : Hid _ := And.intro (range_bel (HS2.out).1 b_3) (Blk.below (HS2.out).2 b_3 (Blk.lt (HS2.out).2))
          have HTS3 : Hid _ := SkAt.below HTS2.out b_3
          have HB3 : Hid _ := Below.trans HB2.out (Below.mono b_3 (Below.size HB2.out))
          have HL3 : Hid _ := Nat.le_trans HL2.out (Below.size b_3)
          have HQ3 : Hid _ := SkAt.below HQ2.out b_3
          have HSB3 : Hid _ := HSB2.out
          have HA3 : Hid _ := Blk.below HA_2 b_3 (Blk.lt HA_2)
          refine hK _ _ ⟨HS3.out, ?_⟩
          clear hK K
          refine takeC (i := 7) (v := .tuple #[.agg (talL z0 z1 z2 z3 z4 z5 mo N cm).toArray, .int .i64 0]) rfl (by kernel_rfl) (by kernel_rfl) (by kernel_rfl) (fun _ _ _ h => h) (Or.inl ⟨by rfl, fun W hW => by go_simp⟩) (HS3.out) ?_
          simp only [Act.put, List.setIfInBounds_toArray, List.set_cons_zero, List.set_cons_succ]
          refine takeC (i := 8) (v := .agg (talL z0 z1 z2 z3 z4 z5 mo N cm).toArray) rfl (by kernel_rfl) (by kernel_rfl) (by kernel_rfl) (fun _ _ _ h => h) (Or.inl ⟨by rfl, fun W hW => by go_simp⟩) (HS3.out) ?_
          simp only [Act.put, List.setIfInBounds_toArray, List.set_cons_zero, List.set_cons_succ]
          refine takeC (i := 9) (v := .int .i64 0) rfl (by kernel_rfl) (by kernel_rfl) (by kernel_rfl) (fun _ _ _ h => h) (Or.inl ⟨by rfl, fun W hW => by go_simp⟩) (HS3.out) ?_
          simp only [Act.put, List.setIfInBounds_toArray, List.set_cons_zero, List.set_cons_succ]
          refine onlyC (i := 11) rfl (by kernel_rfl) (fun K hK => ?_)
          refine step_stW (by rfl) 41 _ _ (by rfl) (w_1.heap.size) [.int .u64 0, .int .u64 0, .int .u64 0, .int .u64 0, .int .u64 0, .int .u64 0, .slice none 0 0] ((talL z0 z1 z2 z3 z4 z5 mo N cm)) 41 (HA3.out) (by rfl) (by rfl) (by rfl) (by kernel_rfl) talL_one ?_
          intro w_4 n_4 u_4
          have hn1 : ¬ ab = w_1.heap.size := by have h2 := HSB3.out; have h3 := HGL.out; omega
          have hn2 : ¬ tb = w_1.heap.size := by have h2 := HSB3.out; have h3 := HTL.out; omega
          have HSx : w_4.rangeAt ab (aoff + k0 * 5) (calL x) ∧ Blk w_4 tb (talL t0 t1 t2 t3 t4 t5 ta tn tc).toArray 41 := ⟨range_updS HS3.out.1 u_4 hn1, Blk.upd HS3.out.2 u_4 hn2⟩
          have hnm : ∀ a, mo = some a → ¬ a.block = w_1.heap.size := fun a ha e => by have h1 := own_fresh HO.out a ha; have h2 := Blk.lt HA_2; omega
          refine hK _ _ ⟨HSx, ?_⟩
          clear hK K
          refine takeC (i := 12) (v := .int .i64 0) rfl (by kernel_rfl) (by kernel_rfl) (by kernel_rfl) (fun _ _ _ h => h) (Or.inl ⟨by rfl, fun W hW => by go_simp⟩) HSx ?_
          simp only [Act.put, List.setIfInBounds_toArray, List.set_cons_zero, List.set_cons_succ]
          refine wpAnyH_done (by kernel_rfl) ?_ _
          have HMx : Hid (SkAt w_4 mo N (fun i => f i - oneC x i)) := (HM.out).upd u_4 (fun a ha => hnm a ha)
          have HBx : Hid (Below wr.heap.size wr w_4) := (HB3.out).trans (u_4.below (Below.size HB3.out) (fun k hk e => by have h2 := HSB3.out; omega))
          have HGx : Hid (∀ a, mo = some a → wr.heap.size ≤ a.block) := (fun a ha => Nat.le_trans HL2.out (own_fresh HO.out a ha) : ∀ a : Addr, mo = some a → wr.heap.size ≤ a.block)
          have HFx : Hid (∀ a, mo = some a → ¬ a.block = tb) := fun a ha e => by have h2 := (fun a ha => Nat.le_trans HL2.out (own_fresh HO.out a ha) : ∀ a : Addr, mo = some a → wr.heap.size ≤ a.block) a ha; have h3 := HTL.out; omega
          have HNx : Hid (Blk w_4 (w_1.heap.size) (talL z0 z1 z2 z3 z4 z5 mo N cm).toArray 41) := n_4
          have HTx : Hid (Blk w_4 tb (talL t0 t1 t2 t3 t4 t5 ta tn tc).toArray 41) := HSx.2
          clear hnm HSx n_4 u_4 hn1 hn2
          obtain ⟨wv, hwv⟩ : ∃ V, w_4 = V := ⟨_, rfl⟩
          rw [hwv] at HMx HBx HNx HTx ⊢
          clear hwv
          go_wp2_with (first | (refine wpList_load_mid rfl 41 _ rfl (w_1.heap.size) 0 rfl (talL z0 z1 z2 z3 z4 z5 mo N cm) _ (range13C HNx.out) Tryz.underlying41 rfl (by kernel_rfl) ?_) | (refine wpList_stW rfl 41 _ _ rfl tb (talL t0 t1 t2 t3 t4 t5 ta tn tc) (talL z0 z1 z2 z3 z4 z5 mo N cm) 41 HTx.out rfl rfl rfl (by kernel_rfl) talL_one ?_; intro w9 n9 u9; have HT9 : Hid (Blk w9 tb (talL z0 z1 z2 z3 z4 z5 mo N cm).toArray 41) := n9; have HU9 : Hid (Upd (fun j => j = tb) wv w9) := u9; clear n9 u9))
          (try simp only [Act.put])
          have HU : Hid (Upd (fun j => j = tb) wr w9) := (Upd.ofBelow (S := fun j => j = tb) HBx.out (fun k hk hk2 => by omega)).trans HU9.out (fun _ _ h => h)
          have HK9 : Hid (SumAt w9 tb wr.heap.size (n - 1) (e - failN x) (k - tookN x) (fun i => f i - oneC x i)) := SumAt.of HZ0.out HZ1.out HZ2.out HZ3.out HZ4.out HZ5.out HT9.out (SkAt.upd HMx.out HU9.out (fun a ha e => HFx.out a ha e)) HGx.out
          clear HU9 HT9 HMx HBx HNx HTx HFx HGx
          go_roundw
          case rel =>
            refine ⟨k0 + 1, by go_num, by omega, HNEXT.out _ HK9.out, HREST.out _ HU.out⟩
          case measure => simp [intOf]; omega
      · go_simp
        generalize hw_1 : wd.alloc (.cells [.int .u64 0, .int .u64 0, .int .u64 0, .int .u64 0, .int .u64 0, .int .u64 0, .slice none 0 0].toArray 41) = w_1
        have b_1 : Below wd.heap.size wd w_1 := by rw [← hw_1]; exact (Below.refl _ _).alloc (Nat.le_refl _) _
        have HA_1 : Blk w_1 wd.heap.size [.int .u64 0, .int .u64 0, .int .u64 0, .int .u64 0, .int .u64 0, .int .u64 0, .slice none 0 0].toArray 41 := by rw [← hw_1]; exact Blk.new _ _ _
        clear hw_1
        have HS1 : Hid _ := And.intro (range_bel (HSd.out).1 b_1) (Blk.below (HSd.out).2 b_1 (Blk.lt (HSd.out).2))
        have HTS1 : Hid _ := SkAt.below HTd.out b_1
        have HB1 : Hid _ := Below.trans HBd.out (Below.mono b_1 (Below.size HBd.out))
        have HL1 : Hid _ := Nat.le_trans HLE0.out (Below.size b_1)
        have HSB1 : Hid _ := HLE0.out
        refine hK _ _ ⟨HS1.out, ?_⟩
        clear hK K
        refine onlyC (i := 5) rfl (by kernel_rfl) (fun K hK => ?_)
        go_simp
        go_at_call 18
        (with_reducible refine (ON w_1).mono ?_)
        rintro e w_2 ⟨ao, ca1, rfl, HQ0, b_2, -⟩
        have HS2 : Hid _ := And.intro (range_bel (HS1.out).1 b_2) (Blk.below (HS1.out).2 b_2 (Blk.lt (HS1.out).2))
        have HTS2 : Hid _ := SkAt.below HTS1.out b_2
        have HB2 : Hid _ := Below.trans HB1.out (Below.mono b_2 (Below.size HB1.out))
        have HL2 : Hid _ := Nat.le_trans HL1.out (Below.size b_2)
        have HSB2 : Hid _ := HSB1.out
        have HA2 : Hid _ := Blk.below HA_1 b_2 (Blk.lt HA_1)
        refine hK _ _ ⟨HS2.out, ?_⟩
        clear hK K
        refine onlyC (i := 6) rfl (by kernel_rfl) (fun K hK => ?_)
        go_simp
        go_at_call 20
        (with_reducible refine (PL w_2 ao ca1 HTS2.out HQ0.out).mono ?_)
        rintro e w_3 ⟨mo, N, cm, rfl, HM, b_3, HO⟩
        have HS3 : Hid _ := And.intro (range_bel (HS2.out).1 b_3) (Blk.below (HS2.out).2 b_3 (Blk.lt (HS2.out).2))
        have HTS3 : Hid _ := SkAt.below HTS2.out b_3
        have HB3 : Hid _ := Below.trans HB2.out (Below.mono b_3 (Below.size HB2.out))
        have HL3 : Hid _ := Nat.le_trans HL2.out (Below.size b_3)
        have HSB3 : Hid _ := HSB2.out
        have HA3 : Hid _ := Blk.below HA2.out b_3 (Blk.lt HA2.out)
        have HQ3 : Hid _ := SkAt.below HQ0.out b_3
        refine hK _ _ ⟨HS3.out, ?_⟩
        clear hK K
        refine takeC (i := 7) (v := .tuple #[.agg (talL z0 z1 z2 z3 z4 z5 mo N cm).toArray, .int .i64 0]) rfl (by kernel_rfl) (by kernel_rfl) (by kernel_rfl) (fun _ _ _ h => h) (Or.inl ⟨by rfl, fun W hW => by go_simp⟩) (HS3.out) ?_
        simp only [Act.put, List.setIfInBounds_toArray, List.set_cons_zero, List.set_cons_succ]
        refine takeC (i := 8) (v := .agg (talL z0 z1 z2 z3 z4 z5 mo N cm).toArray) rfl (by kernel_rfl) (by kernel_rfl) (by kernel_rfl) (fun _ _ _ h => h) (Or.inl ⟨by rfl, fun W hW => by go_simp⟩) (HS3.out) ?_
        simp only [Act.put, List.setIfInBounds_toArray, List.set_cons_zero, List.set_cons_succ]
        refine takeC (i := 9) (v := .int .i64 0) rfl (by kernel_rfl) (by kernel_rfl) (by kernel_rfl) (fun _ _ _ h => h) (Or.inl ⟨by rfl, fun W hW => by go_simp⟩) (HS3.out) ?_
        simp only [Act.put, List.setIfInBounds_toArray, List.set_cons_zero, List.set_cons_succ]
        refine onlyC (i := 11) rfl (by kernel_rfl) (fun K hK => ?_)
        refine step_stW (by rfl) 41 _ _ (by rfl) (wd.heap.size) [.int .u64 0, .int .u64 0, .int .u64 0, .int .u64 0, .int .u64 0, .int .u64 0, .slice none 0 0] ((talL z0 z1 z2 z3 z4 z5 mo N cm)) 41 (HA3.out) (by rfl) (by rfl) (by rfl) (by kernel_rfl) talL_one ?_
        intro w_4 n_4 u_4
        have hn1 : ¬ ab = wd.heap.size := by have h2 := HSB3.out; have h3 := HGL.out; omega
        have hn2 : ¬ tb = wd.heap.size := by have h2 := HSB3.out; have h3 := HTL.out; omega
        have HSx : w_4.rangeAt ab (aoff + k0 * 5) (calL x) ∧ Blk w_4 tb (talL t0 t1 t2 t3 t4 t5 ta tn tc).toArray 41 := ⟨range_updS HS3.out.1 u_4 hn1, Blk.upd HS3.out.2 u_4 hn2⟩
        have hnm : ∀ a, mo = some a → ¬ a.block = wd.heap.size := fun a ha e => by have h1 := own_fresh HO.out a ha; have h2 := Blk.lt HA2.out; omega
        refine hK _ _ ⟨HSx, ?_⟩
        clear hK K
        refine takeC (i := 12) (v := .int .i64 0) rfl (by kernel_rfl) (by kernel_rfl) (by kernel_rfl) (fun _ _ _ h => h) (Or.inl ⟨by rfl, fun W hW => by go_simp⟩) HSx ?_
        simp only [Act.put, List.setIfInBounds_toArray, List.set_cons_zero, List.set_cons_succ]
        refine wpAnyH_done (by kernel_rfl) ?_ _
        have HMx : Hid (SkAt w_4 mo N (fun i => f i - oneC x i)) := (HM.out).upd u_4 (fun a ha => hnm a ha)
        have HBx : Hid (Below wr.heap.size wr w_4) := (HB3.out).trans (u_4.below (Below.size HB3.out) (fun k hk e => by have h2 := HSB3.out; omega))
        have HGx : Hid (∀ a, mo = some a → wr.heap.size ≤ a.block) := (fun a ha => Nat.le_trans HL2.out (own_fresh HO.out a ha) : ∀ a : Addr, mo = some a → wr.heap.size ≤ a.block)
        have HFx : Hid (∀ a, mo = some a → ¬ a.block = tb) := fun a ha e => by have h2 := (fun a ha => Nat.le_trans HL2.out (own_fresh HO.out a ha) : ∀ a : Addr, mo = some a → wr.heap.size ≤ a.block) a ha; have h3 := HTL.out; omega
        have HNx : Hid (Blk w_4 (wd.heap.size) (talL z0 z1 z2 z3 z4 z5 mo N cm).toArray 41) := n_4
        have HTx : Hid (Blk w_4 tb (talL t0 t1 t2 t3 t4 t5 ta tn tc).toArray 41) := HSx.2
        clear hnm HSx n_4 u_4 hn1 hn2
        obtain ⟨wv, hwv⟩ : ∃ V, w_4 = V := ⟨_, rfl⟩
        rw [hwv] at HMx HBx HNx HTx ⊢
        clear hwv
        go_wp2_with (first | (refine wpList_load_mid rfl 41 _ rfl (wd.heap.size) 0 rfl (talL z0 z1 z2 z3 z4 z5 mo N cm) _ (range13C HNx.out) Tryz.underlying41 rfl (by kernel_rfl) ?_) | (refine wpList_stW rfl 41 _ _ rfl tb (talL t0 t1 t2 t3 t4 t5 ta tn tc) (talL z0 z1 z2 z3 z4 z5 mo N cm) 41 HTx.out rfl rfl rfl (by kernel_rfl) talL_one ?_; intro w9 n9 u9; have HT9 : Hid (Blk w9 tb (talL z0 z1 z2 z3 z4 z5 mo N cm).toArray 41) := n9; have HU9 : Hid (Upd (fun j => j = tb) wv w9) := u9; clear n9 u9))
        (try simp only [Act.put])
        have HU : Hid (Upd (fun j => j = tb) wr w9) := (Upd.ofBelow (S := fun j => j = tb) HBx.out (fun k hk hk2 => by omega)).trans HU9.out (fun _ _ h => h)
        have HK9 : Hid (SumAt w9 tb wr.heap.size (n - 1) (e - failN x) (k - tookN x) (fun i => f i - oneC x i)) := SumAt.of HZ0.out HZ1.out HZ2.out HZ3.out HZ4.out HZ5.out HT9.out (SkAt.upd HMx.out HU9.out (fun a ha e => HFx.out a ha e)) HGx.out
        clear HU9 HT9 HMx HBx HNx HTx HFx HGx
        go_roundw
        case rel =>
          refine ⟨k0 + 1, by go_num, by omega, HNEXT.out _ HK9.out, HREST.out _ HU.out⟩
        case measure => simp [intOf]; omega
    · obtain rfl : nT = k0 := by omega
      have HS7 : Hid (SumL wr tb 0 (m ++ P.take 0)) := by
        have h := HSUM.out
        rw [List.drop_eq_nil_of_le (by have := HLT.out.1; omega)] at h
        show SumL wr tb 0 (m ++ P.take 0)
        simpa using h
      have HR7 : Hid _ := HR.out
      clear HSUM HR HS6 HR6
      obtain ⟨wz, hwz⟩ : ∃ wz, wr = wz := ⟨_, rfl⟩
      rw [hwz] at HS7 HR7 ⊢
      clear hwz
      go_wp2
      go_loopw [17] (fun t wr => ∃ k0 : Nat, t = .int .i64 k0 ∧ k0 ≤ nP ∧ Hid (SumL wr tb 0 (m ++ P.take k0)) ∧ Hid (TRest w wr tb wb b oT oP nT nP T P)) (fun t _ => nP - (intOf t).toNat)
      case atStart => exact ⟨0, rfl, Nat.zero_le _, HS7, HR7⟩
      case round =>
        obtain ⟨k0, rfl, hk2, HSUM, HR⟩ := hrel
        by_cases hlt2 : k0 < nP
        · have hkA : k0 < P.length := by have := HLT.out.2.1; omega
          obtain ⟨ab, aoff, rfl, hra⟩ := HR.out.pt.lies (by omega)
          have RG : Hid (wr.rangeAt ab (aoff + k0 * 5) (calL P[k0])) := hra k0 hkA
          have HTk : Hid (P.take (k0 + 1) = P.take k0 ++ [P[k0]]) := List.take_succ_eq_append_getElem hkA
          have hx := HXT.out.2 P[k0] (List.mem_append_right _ (List.getElem_mem _))
          obtain ⟨x, ex⟩ : ∃ x, P[k0] = x := ⟨_, rfl⟩
          rw [ex] at RG HTk hx
          clear ex hra
          have HLm : Hid ((m ++ P.take k0).length < 9000000000000000000) := by have := HLT.out; show _ < _; rw [List.length_append, List.length_take]; omega
          have HXk : Hid (∀ c ∈ (m ++ P.take k0) ++ [x], 0 ≤ c.2.2.2.2 ∧ c.2.2.2.2 < 18446744073709551616) := fun c hc => by
            rcases List.mem_append.1 hc with h | h
            · exact HXT.out.2 c (by rcases List.mem_append.1 h with h | h; exact List.mem_append_left _ h; exact List.mem_append_right _ (List.mem_of_mem_take h))
            · simp at h
              subst h
              exact hx
          have HBD : Hid ((m ++ P.take k0).length ≤ top128 ∧ sumC failN (m ++ P.take k0) ≤ top128 ∧ sumC tookN (m ++ P.take k0) ≤ top128) := sum_bd (fun c hc => HXk.out c (List.mem_append_left _ hc)) (Nat.le_of_lt HLm.out)
          unfold SumL at HSUM
          have HNEXT : Hid (∀ W, SumAt W tb wr.heap.size (addT (m ++ P.take k0).length 1) (addT (sumC failN (m ++ P.take k0)) (failN x)) (addT (sumC tookN (m ++ P.take k0)) (tookN x)) (minF (histF (m ++ P.take k0)) (oneC x)) → SumL W tb 0 (m ++ P.take (k0 + 1))) := fun W h => by
            rw [HTk.out, ← List.append_assoc]
            exact SumAt.more (Nat.zero_le _) HXk.out HLm.out h
          have HREST : Hid (∀ W, Upd (fun j => j = tb) wr W → Hid (TRest w W tb wb b oT (some ⟨ab, aoff, none⟩) nT nP T P)) := fun W h => HR.out.upd h
          have hcP := HCL.out.2
          unfold maxLen at hcP
          clear HLm HTk HXT HXk HR7 HS7 HLT HPA HPB HLN HO HPL HA HCL HR
          generalize (m ++ P.take k0).length = n at *
          generalize sumC failN (m ++ P.take k0) = e at *
          generalize sumC tookN (m ++ P.take k0) = k at *
          generalize histF (m ++ P.take k0) = f at *
          obtain ⟨ta, tn, tc, hTb, hTs, -⟩ := HSUM.out.ex
          have HTB : Hid (Blk wr tb (talL (hi64 n) (lo64 n) (hi64 e) (lo64 e) (hi64 k) (lo64 k) ta tn tc).toArray 41) := hTb
          have HTS : Hid (SkAt wr ta tn f) := hTs
          clear hTb hTs
          have ON := fun W => cOne_any x hx W
          have PL := fun W ao cp (h1 : SkAt W ta tn f) (h2 : SkAt W ao 1 (oneC x)) => cPlus_ok ta ao tn 1 tc cp f (oneC x) n e k 1 (failN x) (tookN x) W h1 h2 HBD.out.1 HBD.out.2.1 HBD.out.2.2 (by decide) (Nat.le_trans (failN_le x) (by decide)) (took_top hx)
          unfold OneP talV calV at ON
          unfold TalP talV at PL
          obtain ⟨z0, hz0⟩ : ∃ z : Int, (hi64 (addT n 1) : Int) = z := ⟨_, rfl⟩
          rw [hz0] at PL
          have HZ0 : Hid _ := hz0
          clear hz0
          obtain ⟨z1, hz1⟩ : ∃ z : Int, (lo64 (addT n 1) : Int) = z := ⟨_, rfl⟩
          rw [hz1] at PL
          have HZ1 : Hid _ := hz1
          clear hz1
          obtain ⟨z2, hz2⟩ : ∃ z : Int, (hi64 (addT e (failN x)) : Int) = z := ⟨_, rfl⟩
          rw [hz2] at PL
          have HZ2 : Hid _ := hz2
          clear hz2
          obtain ⟨z3, hz3⟩ : ∃ z : Int, (lo64 (addT e (failN x)) : Int) = z := ⟨_, rfl⟩
          rw [hz3] at PL
          have HZ3 : Hid _ := hz3
          clear hz3
          obtain ⟨z4, hz4⟩ : ∃ z : Int, (hi64 (addT k (tookN x)) : Int) = z := ⟨_, rfl⟩
          rw [hz4] at PL
          have HZ4 : Hid _ := hz4
          clear hz4
          obtain ⟨z5, hz5⟩ : ∃ z : Int, (lo64 (addT k (tookN x)) : Int) = z := ⟨_, rfl⟩
          rw [hz5] at PL
          have HZ5 : Hid _ := hz5
          clear hz5
          generalize (hi64 1 : Int) = q0 at ON PL
          generalize (lo64 1 : Int) = q1 at ON PL
          generalize (hi64 (failN x) : Int) = q2 at ON PL
          generalize (lo64 (failN x) : Int) = q3 at ON PL
          generalize (hi64 (tookN x) : Int) = q4 at ON PL
          generalize (lo64 (tookN x) : Int) = q5 at ON PL
          generalize (hi64 n : Int) = t0 at PL HTB
          generalize (lo64 n : Int) = t1 at PL HTB
          generalize (hi64 e : Int) = t2 at PL HTB
          generalize (lo64 e : Int) = t3 at PL HTB
          generalize (hi64 k : Int) = t4 at PL HTB
          generalize (lo64 k : Int) = t5 at PL HTB
          have HWd : Hid (Below wr.heap.size wr wr.drew) := (Below.refl _ _).drew
          go_wp2
          refine wp_region_held (S := fun W => W.rangeAt ab (aoff + k0 * 5) (calL x) ∧ Blk W tb (talL t0 t1 t2 t3 t4 t5 ta tn tc).toArray 41) (by kernel_rfl) ?_
          change wpAnyH _ _ _ _ _ _ _ _ (World.drew _)
          obtain ⟨wd, hwd⟩ : ∃ V, wr.drew = V := ⟨_, rfl⟩
          rw [hwd] at HWd ⊢
          clear hwd
          have HSd : Hid (wd.rangeAt ab (aoff + k0 * 5) (calL x) ∧ Blk wd tb (talL t0 t1 t2 t3 t4 t5 ta tn tc).toArray 41) := ⟨range_bel RG.out HWd.out, Blk.below HTB.out HWd.out (Blk.lt HTB.out)⟩
          have HTd : Hid (SkAt wd ta tn f) := SkAt.below HTS.out HWd.out
          have HBd : Hid (Below wr.heap.size wr wd) := HWd.out
          have HLE0 : Hid (wr.heap.size ≤ wd.heap.size) := HWd.out.size
          have HTL : Hid (tb < wr.heap.size) := Blk.lt HTB.out
          have HGL : Hid (ab < wr.heap.size) := range_lt RG.out
          refine takeC (i := 0) (v := .agg (talL t0 t1 t2 t3 t4 t5 ta tn tc).toArray) rfl (by kernel_rfl) (by kernel_rfl) (by kernel_rfl) (fun _ _ _ h => h) (yieldsIf_load_mid (by rfl) 41 _ rfl tb 0 rfl (talL t0 t1 t2 t3 t4 t5 ta tn tc) _ (fun W hW => range13C hW.2) Tryz.underlying41 rfl (by kernel_rfl)) (HSd.out) ?_
          simp only [Act.put, List.setIfInBounds_toArray, List.set_cons_zero, List.set_cons_succ]
          refine takeC (i := 1) (v := .slice (some ⟨ab, aoff, none⟩) nP cP) rfl (by kernel_rfl) (by kernel_rfl) (by kernel_rfl) (fun _ _ _ h => h) (Or.inl ⟨by rfl, fun W hW => by go_simp⟩) (HSd.out) ?_
          simp only [Act.put, List.setIfInBounds_toArray, List.set_cons_zero, List.set_cons_succ]
          refine takeC (i := 2) (v := .int .i64 ((k0 : Nat) : Int)) rfl (by kernel_rfl) (by kernel_rfl) (by kernel_rfl) (fun _ _ _ h => h) (Or.inl ⟨by rfl, fun W hW => by go_simp⟩) (HSd.out) ?_
          simp only [Act.put, List.setIfInBounds_toArray, List.set_cons_zero, List.set_cons_succ]
          refine takeC (i := 3) (v := .pointer (some ⟨ab, aoff + k0 * 5, none⟩)) rfl (by kernel_rfl) (by kernel_rfl) (by kernel_rfl) (fun _ _ _ h => h) (Or.inl ⟨by rfl, fun W hW => by go_simp⟩) (HSd.out) ?_
          simp only [Act.put, List.setIfInBounds_toArray, List.set_cons_zero, List.set_cons_succ]
          refine takeC (i := 4) (v := .agg (calL x).toArray) rfl (by kernel_rfl) (by kernel_rfl) (by kernel_rfl) (fun _ _ _ h => h) (yieldsIf_load_mid (by rfl) 34 _ rfl ab (aoff + k0 * 5) rfl (calL x) _ (fun W hW => hW.1) Tryz.underlying34 rfl (by kernel_rfl)) (HSd.out) ?_
          simp only [Act.put, List.setIfInBounds_toArray, List.set_cons_zero, List.set_cons_succ]
          refine twoC (i := 5) (j := 10) rfl rfl (by kernel_rfl) (fun K hK => ?_) (fun K hK => ?_)
          · go_simp
            go_at_call 18
            (with_reducible refine (ON wd).mono ?_)
            rintro e w_1 ⟨ao, ca1, rfl, HQ0, b_1, -⟩
            have HS1 : Hid _ := And.intro (range_bel (HSd.out).1 b_1) (Blk.below (HSd.out).2 b_1 (Blk.lt (HSd.out).2))
            have HTS1 : Hid _ := SkAt.below HTd.out b_1
            have HB1 : Hid _ := Below.trans HBd.out (Below.mono b_1 (Below.size HBd.out))
            have HL1 : Hid _ := Nat.le_trans HLE0.out (Below.size b_1)
            refine hK _ _ ⟨HS1.out, ?_⟩
            clear hK K
            refine twoC (i := 6) (j := 10) rfl rfl (by kernel_rfl) (fun K hK => ?_) (fun K hK => ?_)
            · go_simp
              go_at_call 19
              (with_reducible refine (PL w_1 ao ca1 HTS1.out HQ0.out).mono ?_)
              rintro e w_2 ⟨mo, N, cm, rfl, HM, b_2, HO⟩
              have HS2 : Hid _ := And.intro (range_bel (HS1.out).1 b_2) (Blk.below (HS1.out).2 b_2 (Blk.lt (HS1.out).2))
              have HTS2 : Hid _ := SkAt.below HTS1.out b_2
              have HB2 : Hid _ := Below.trans HB1.out (Below.mono b_2 (Below.size HB1.out))
              have HL2 : Hid _ := Nat.le_trans HL1.out (Below.size b_2)
              have HQ2 : Hid _ := SkAt.below HQ0.out b_2
              refine hK _ _ ⟨HS2.out, ?_⟩
              clear hK K
              refine takeC (i := 7) (v := .tuple #[.agg (talL z0 z1 z2 z3 z4 z5 mo N cm).toArray, .int .i64 0]) rfl (by kernel_rfl) (by kernel_rfl) (by kernel_rfl) (fun _ _ _ h => h) (Or.inl ⟨by rfl, fun W hW => by go_simp⟩) (HS2.out) ?_
              simp only [Act.put, List.setIfInBounds_toArray, List.set_cons_zero, List.set_cons_succ]
              refine takeC (i := 8) (v := .agg (talL z0 z1 z2 z3 z4 z5 mo N cm).toArray) rfl (by kernel_rfl) (by kernel_rfl) (by kernel_rfl) (fun _ _ _ h => h) (Or.inl ⟨by rfl, fun W hW => by go_simp⟩) (HS2.out) ?_
              simp only [Act.put, List.setIfInBounds_toArray, List.set_cons_zero, List.set_cons_succ]
              refine takeC (i := 9) (v := .int .i64 0) rfl (by kernel_rfl) (by kernel_rfl) (by kernel_rfl) (fun _ _ _ h => h) (Or.inl ⟨by rfl, fun W hW => by go_simp⟩) (HS2.out) ?_
              simp only [Act.put, List.setIfInBounds_toArray, List.set_cons_zero, List.set_cons_succ]
              refine onlyC (i := 10) rfl (by kernel_rfl) (fun K hK => ?_)
              go_simp
              generalize hw_3 : w_2.alloc (.cells [.int .u64 0, .int .u64 0, .int .u64 0, .int .u64 0, .int .u64 0, .int .u64 0, .slice none 0 0].toArray 41) = w_3
              have b_3 : Below w_2.heap.size w_2 w_3 := by rw [← hw_3]; exact (Below.refl _ _).alloc (Nat.le_refl _) _
              have HA_3 : Blk w_3 w_2.heap.size [.int .u64 0, .int .u64 0, .int .u64 0, .int .u64 0, .int .u64 0, .int .u64 0, .slice none 0 0].toArray 41 := by rw [← hw_3]; exact Blk.new _ _ _
              clear hw_3
              have HS3 : Hid _ := And.intro (range_bel (HS2.out).1 b_3) (Blk.below (HS2.out).2 b_3 (Blk.lt (HS2.out).2))
              have HTS3 : Hid _ := SkAt.below HTS2.out b_3
              have HB3 : Hid _ := Below.trans HB2.out (Below.mono b_3 (Below.size HB2.out))
              have HL3 : Hid _ := Nat.le_trans HL2.out (Below.size b_3)
              have HQ3 : Hid _ := SkAt.below HQ2.out b_3
              have HM3 : Hid _ := SkAt.below HM.out b_3
              have HO3 : Hid _ := OwnBar.below HO.out b_3
              have HF3 : Hid _ := (fun a ha => Nat.le_trans HL1.out (own_fresh HO.out a ha) : ∀ a : Addr, mo = some a → wr.heap.size ≤ a.block)
              have HSB3 : Hid _ := HL2.out
              have HLL3 : Hid _ := (HM.out).at_.lt
              refine hK _ _ ⟨HS3.out, ?_⟩
              clear hK K
              refine onlyC (i := 11) rfl (by kernel_rfl) (fun K hK => ?_)
              refine step_stW (by rfl) 41 _ _ (by rfl) (w_2.heap.size) [.int .u64 0, .int .u64 0, .int .u64 0, .int .u64 0, .int .u64 0, .int .u64 0, .slice none 0 0] ((talL z0 z1 z2 z3 z4 z5 mo N cm)) 41 (HA_3) (by rfl) (by rfl) (by rfl) (by kernel_rfl) talL_one ?_
              intro w_4 n_4 u_4
              have hn1 : ¬ ab = w_2.heap.size := by have h2 := HSB3.out; have h3 := HGL.out; omega
              have hn2 : ¬ tb = w_2.heap.size := by have h2 := HSB3.out; have h3 := HTL.out; omega
              have HSx : w_4.rangeAt ab (aoff + k0 * 5) (calL x) ∧ Blk w_4 tb (talL t0 t1 t2 t3 t4 t5 ta tn tc).toArray 41 := ⟨range_updS HS3.out.1 u_4 hn1, Blk.upd HS3.out.2 u_4 hn2⟩
              have hnm : ∀ a, mo = some a → ¬ a.block = w_2.heap.size := fun a ha e => by have h1 := HLL3.out a ha; omega
              refine hK _ _ ⟨HSx, ?_⟩
              clear hK K
              refine takeC (i := 12) (v := .int .i64 0) rfl (by kernel_rfl) (by kernel_rfl) (by kernel_rfl) (fun _ _ _ h => h) (Or.inl ⟨by rfl, fun W hW => by go_simp⟩) HSx ?_
              simp only [Act.put, List.setIfInBounds_toArray, List.set_cons_zero, List.set_cons_succ]
              refine wpAnyH_done (by kernel_rfl) ?_ _
              have HMx : Hid (SkAt w_4 mo N (minF f (oneC x))) := (HM3.out).upd u_4 (fun a ha => hnm a ha)
              have HBx : Hid (Below wr.heap.size wr w_4) := (HB3.out).trans (u_4.below (Below.size HB3.out) (fun k hk e => by have h2 := HSB3.out; omega))
              have HGx : Hid (∀ a, mo = some a → wr.heap.size ≤ a.block) := HF3.out
              have HFx : Hid (∀ a, mo = some a → ¬ a.block = tb) := fun a ha e => by have h2 := HF3.out a ha; have h3 := HTL.out; omega
              have HNx : Hid (Blk w_4 (w_2.heap.size) (talL z0 z1 z2 z3 z4 z5 mo N cm).toArray 41) := n_4
              have HTx : Hid (Blk w_4 tb (talL t0 t1 t2 t3 t4 t5 ta tn tc).toArray 41) := HSx.2
              clear hnm HSx n_4 u_4 hn1 hn2
              obtain ⟨wv, hwv⟩ : ∃ V, w_4 = V := ⟨_, rfl⟩
              rw [hwv] at HMx HBx HNx HTx ⊢
              clear hwv
              go_wp2_with (first | (refine wpList_load_mid rfl 41 _ rfl (w_2.heap.size) 0 rfl (talL z0 z1 z2 z3 z4 z5 mo N cm) _ (range13C HNx.out) Tryz.underlying41 rfl (by kernel_rfl) ?_) | (refine wpList_stW rfl 41 _ _ rfl tb (talL t0 t1 t2 t3 t4 t5 ta tn tc) (talL z0 z1 z2 z3 z4 z5 mo N cm) 41 HTx.out rfl rfl rfl (by kernel_rfl) talL_one ?_; intro w9 n9 u9; have HT9 : Hid (Blk w9 tb (talL z0 z1 z2 z3 z4 z5 mo N cm).toArray 41) := n9; have HU9 : Hid (Upd (fun j => j = tb) wv w9) := u9; clear n9 u9))
              (try simp only [Act.put])
              have HU : Hid (Upd (fun j => j = tb) wr w9) := (Upd.ofBelow (S := fun j => j = tb) HBx.out (fun k hk hk2 => by omega)).trans HU9.out (fun _ _ h => h)
              have HK9 : Hid (SumAt w9 tb wr.heap.size (addT n 1) (addT e (failN x)) (addT k (tookN x)) (minF f (oneC x))) := SumAt.of HZ0.out HZ1.out HZ2.out HZ3.out HZ4.out HZ5.out HT9.out (SkAt.upd HMx.out HU9.out (fun a ha e => HFx.out a ha e)) HGx.out
              clear HU9 HT9 HMx HBx HNx HTx HFx HGx
              go_roundw
              case rel =>
                refine ⟨k0 + 1, by go_num, by omega, HNEXT.out _ HK9.out, HREST.out _ HU.out⟩
              case measure => simp [intOf]; omega
            · go_simp
              generalize hw_2 : w_1.alloc (.cells [.int .u64 0, .int .u64 0, .int .u64 0, .int .u64 0, .int .u64 0, .int .u64 0, .slice none 0 0].toArray 41) = w_2
              have b_2 : Below w_1.heap.size w_1 w_2 := by rw [← hw_2]; exact (Below.refl _ _).alloc (Nat.le_refl _) _
              have HA_2 : Blk w_2 w_1.heap.size [.int .u64 0, .int .u64 0, .int .u64 0, .int .u64 0, .int .u64 0, .int .u64 0, .slice none 0 0].toArray 41 := by rw [← hw_2]; exact Blk.new _ _ _
              clear hw_2
              have HS2 : Hid _ := And.intro (range_bel (HS1.out).1 b_2) (Blk.below (HS1.out).2 b_2 (Blk.lt (HS1.out).2))
              have HTS2 : Hid _ := SkAt.below HTS1.out b_2
              have HB2 : Hid _ := Below.trans HB1.out (Below.mono b_2 (Below.size HB1.out))
              have HL2 : Hid _ := Nat.le_trans HL1.out (Below.size b_2)
              have HQ2 : Hid _ := SkAt.below HQ0.out b_2
              have HSB2 : Hid _ := HL1.out
              refine hK _ _ ⟨HS2.out, ?_⟩
              clear hK K
              refine onlyC (i := 6) rfl (by kernel_rfl) (fun K hK => ?_)
              go_simp
              go_at_call 19
              (with_reducible refine (PL w_2 ao ca1 HTS2.out HQ2.out).mono ?_)
              rintro e w_3 ⟨mo, N, cm, rfl, HM, b_3, HO⟩
              have HS3 : Hid _ := And.intro (range_bel (HS2.out).1 b_3) (Blk.below (HS2.out).2 b_3 (Blk.lt (HS2.out).2))
              have HTS3 : Hid _ := SkAt.below HTS2.out b_3
              have HB3 : Hid _ := Below.trans HB2.out (Below.mono b_3 (Below.size HB2.out))
              have HL3 : Hid _ := Nat.le_trans HL2.out (Below.size b_3)
              have HQ3 : Hid _ := SkAt.below HQ2.out b_3
              have HSB3 : Hid _ := HSB2.out
              have HA3 : Hid _ := Blk.below HA_2 b_3 (Blk.lt HA_2)
              refine hK _ _ ⟨HS3.out, ?_⟩
              clear hK K
              refine takeC (i := 7) (v := .tuple #[.agg (talL z0 z1 z2 z3 z4 z5 mo N cm).toArray, .int .i64 0]) rfl (by kernel_rfl) (by kernel_rfl) (by kernel_rfl) (fun _ _ _ h => h) (Or.inl ⟨by rfl, fun W hW => by go_simp⟩) (HS3.out) ?_
              simp only [Act.put, List.setIfInBounds_toArray, List.set_cons_zero, List.set_cons_succ]
              refine takeC (i := 8) (v := .agg (talL z0 z1 z2 z3 z4 z5 mo N cm).toArray) rfl (by kernel_rfl) (by kernel_rfl) (by kernel_rfl) (fun _ _ _ h => h) (Or.inl ⟨by rfl, fun W hW => by go_simp⟩) (HS3.out) ?_
              simp only [Act.put, List.setIfInBounds_toArray, List.set_cons_zero, List.set_cons_succ]
              refine takeC (i := 9) (v := .int .i64 0) rfl (by kernel_rfl) (by kernel_rfl) (by kernel_rfl) (fun _ _ _ h => h) (Or.inl ⟨by rfl, fun W hW => by go_simp⟩) (HS3.out) ?_
              simp only [Act.put, List.setIfInBounds_toArray, List.set_cons_zero, List.set_cons_succ]
              refine onlyC (i := 11) rfl (by kernel_rfl) (fun K hK => ?_)
              refine step_stW (by rfl) 41 _ _ (by rfl) (w_1.heap.size) [.int .u64 0, .int .u64 0, .int .u64 0, .int .u64 0, .int .u64 0, .int .u64 0, .slice none 0 0] ((talL z0 z1 z2 z3 z4 z5 mo N cm)) 41 (HA3.out) (by rfl) (by rfl) (by rfl) (by kernel_rfl) talL_one ?_
              intro w_4 n_4 u_4
              have hn1 : ¬ ab = w_1.heap.size := by have h2 := HSB3.out; have h3 := HGL.out; omega
              have hn2 : ¬ tb = w_1.heap.size := by have h2 := HSB3.out; have h3 := HTL.out; omega
              have HSx : w_4.rangeAt ab (aoff + k0 * 5) (calL x) ∧ Blk w_4 tb (talL t0 t1 t2 t3 t4 t5 ta tn tc).toArray 41 := ⟨range_updS HS3.out.1 u_4 hn1, Blk.upd HS3.out.2 u_4 hn2⟩
              have hnm : ∀ a, mo = some a → ¬ a.block = w_1.heap.size := fun a ha e => by have h1 := own_fresh HO.out a ha; have h2 := Blk.lt HA_2; omega
              refine hK _ _ ⟨HSx, ?_⟩
              clear hK K
              refine takeC (i := 12) (v := .int .i64 0) rfl (by kernel_rfl) (by kernel_rfl) (by kernel_rfl) (fun _ _ _ h => h) (Or.inl ⟨by rfl, fun W hW => by go_simp⟩) HSx ?_
              simp only [Act.put, List.setIfInBounds_toArray, List.set_cons_zero, List.set_cons_succ]
              refine wpAnyH_done (by kernel_rfl) ?_ _
              have HMx : Hid (SkAt w_4 mo N (minF f (oneC x))) := (HM.out).upd u_4 (fun a ha => hnm a ha)
              have HBx : Hid (Below wr.heap.size wr w_4) := (HB3.out).trans (u_4.below (Below.size HB3.out) (fun k hk e => by have h2 := HSB3.out; omega))
              have HGx : Hid (∀ a, mo = some a → wr.heap.size ≤ a.block) := (fun a ha => Nat.le_trans HL2.out (own_fresh HO.out a ha) : ∀ a : Addr, mo = some a → wr.heap.size ≤ a.block)
              have HFx : Hid (∀ a, mo = some a → ¬ a.block = tb) := fun a ha e => by have h2 := (fun a ha => Nat.le_trans HL2.out (own_fresh HO.out a ha) : ∀ a : Addr, mo = some a → wr.heap.size ≤ a.block) a ha; have h3 := HTL.out; omega
              have HNx : Hid (Blk w_4 (w_1.heap.size) (talL z0 z1 z2 z3 z4 z5 mo N cm).toArray 41) := n_4
              have HTx : Hid (Blk w_4 tb (talL t0 t1 t2 t3 t4 t5 ta tn tc).toArray 41) := HSx.2
              clear hnm HSx n_4 u_4 hn1 hn2
              obtain ⟨wv, hwv⟩ : ∃ V, w_4 = V := ⟨_, rfl⟩
              rw [hwv] at HMx HBx HNx HTx ⊢
              clear hwv
              go_wp2_with (first | (refine wpList_load_mid rfl 41 _ rfl (w_1.heap.size) 0 rfl (talL z0 z1 z2 z3 z4 z5 mo N cm) _ (range13C HNx.out) Tryz.underlying41 rfl (by kernel_rfl) ?_) | (refine wpList_stW rfl 41 _ _ rfl tb (talL t0 t1 t2 t3 t4 t5 ta tn tc) (talL z0 z1 z2 z3 z4 z5 mo N cm) 41 HTx.out rfl rfl rfl (by kernel_rfl) talL_one ?_; intro w9 n9 u9; have HT9 : Hid (Blk w9 tb (talL z0 z1 z2 z3 z4 z5 mo N cm).toArray 41) := n9; have HU9 : Hid (Upd (fun j => j = tb) wv w9) := u9; clear n9 u9))
              (try simp only [Act.put])
              have HU : Hid (Upd (fun j => j = tb) wr w9) := (Upd.ofBelow (S := fun j => j = tb) HBx.out (fun k hk hk2 => by omega)).trans HU9.out (fun _ _ h => h)
              have HK9 : Hid (SumAt w9 tb wr.heap.size (addT n 1) (addT e (failN x)) (addT k (tookN x)) (minF f (oneC x))) := SumAt.of HZ0.out HZ1.out HZ2.out HZ3.out HZ4.out HZ5.out HT9.out (SkAt.upd HMx.out HU9.out (fun a ha e => HFx.out a ha e)) HGx.out
              clear HU9 HT9 HMx HBx HNx HTx HFx HGx
              go_roundw
              case rel =>
                refine ⟨k0 + 1, by go_num, by omega, HNEXT.out _ HK9.out, HREST.out _ HU.out⟩
              case measure => simp [intOf]; omega
          · go_simp
            generalize hw_1 : wd.alloc (.cells [.int .u64 0, .int .u64 0, .int .u64 0, .int .u64 0, .int .u64 0, .int .u64 0, .slice none 0 0].toArray 41) = w_1
            have b_1 : Below wd.heap.size wd w_1 := by rw [← hw_1]; exact (Below.refl _ _).alloc (Nat.le_refl _) _
            have HA_1 : Blk w_1 wd.heap.size [.int .u64 0, .int .u64 0, .int .u64 0, .int .u64 0, .int .u64 0, .int .u64 0, .slice none 0 0].toArray 41 := by rw [← hw_1]; exact Blk.new _ _ _
            clear hw_1
            have HS1 : Hid _ := And.intro (range_bel (HSd.out).1 b_1) (Blk.below (HSd.out).2 b_1 (Blk.lt (HSd.out).2))
            have HTS1 : Hid _ := SkAt.below HTd.out b_1
            have HB1 : Hid _ := Below.trans HBd.out (Below.mono b_1 (Below.size HBd.out))
            have HL1 : Hid _ := Nat.le_trans HLE0.out (Below.size b_1)
            have HSB1 : Hid _ := HLE0.out
            refine hK _ _ ⟨HS1.out, ?_⟩
            clear hK K
            refine onlyC (i := 5) rfl (by kernel_rfl) (fun K hK => ?_)
            go_simp
            go_at_call 18
            (with_reducible refine (ON w_1).mono ?_)
            rintro e w_2 ⟨ao, ca1, rfl, HQ0, b_2, -⟩
            have HS2 : Hid _ := And.intro (range_bel (HS1.out).1 b_2) (Blk.below (HS1.out).2 b_2 (Blk.lt (HS1.out).2))
            have HTS2 : Hid _ := SkAt.below HTS1.out b_2
            have HB2 : Hid _ := Below.trans HB1.out (Below.mono b_2 (Below.size HB1.out))
            have HL2 : Hid _ := Nat.le_trans HL1.out (Below.size b_2)
            have HSB2 : Hid _ := HSB1.out
            have HA2 : Hid _ := Blk.below HA_1 b_2 (Blk.lt HA_1)
            refine hK _ _ ⟨HS2.out, ?_⟩
            clear hK K
            refine onlyC (i := 6) rfl (by kernel_rfl) (fun K hK => ?_)
            go_simp
            go_at_call 19
            (with_reducible refine (PL w_2 ao ca1 HTS2.out HQ0.out).mono ?_)
            rintro e w_3 ⟨mo, N, cm, rfl, HM, b_3, HO⟩
            have HS3 : Hid _ := And.intro (range_bel (HS2.out).1 b_3) (Blk.below (HS2.out).2 b_3 (Blk.lt (HS2.out).2))
            have HTS3 : Hid _ := SkAt.below HTS2.out b_3
            have HB3 : Hid _ := Below.trans HB2.out (Below.mono b_3 (Below.size HB2.out))
            have HL3 : Hid _ := Nat.le_trans HL2.out (Below.size b_3)
            have HSB3 : Hid _ := HSB2.out
            have HA3 : Hid _ := Blk.below HA2.out b_3 (Blk.lt HA2.out)
            have HQ3 : Hid _ := SkAt.below HQ0.out b_3
            refine hK _ _ ⟨HS3.out, ?_⟩
            clear hK K
            refine takeC (i := 7) (v := .tuple #[.agg (talL z0 z1 z2 z3 z4 z5 mo N cm).toArray, .int .i64 0]) rfl (by kernel_rfl) (by kernel_rfl) (by kernel_rfl) (fun _ _ _ h => h) (Or.inl ⟨by rfl, fun W hW => by go_simp⟩) (HS3.out) ?_
            simp only [Act.put, List.setIfInBounds_toArray, List.set_cons_zero, List.set_cons_succ]
            refine takeC (i := 8) (v := .agg (talL z0 z1 z2 z3 z4 z5 mo N cm).toArray) rfl (by kernel_rfl) (by kernel_rfl) (by kernel_rfl) (fun _ _ _ h => h) (Or.inl ⟨by rfl, fun W hW => by go_simp⟩) (HS3.out) ?_
            simp only [Act.put, List.setIfInBounds_toArray, List.set_cons_zero, List.set_cons_succ]
            refine takeC (i := 9) (v := .int .i64 0) rfl (by kernel_rfl) (by kernel_rfl) (by kernel_rfl) (fun _ _ _ h => h) (Or.inl ⟨by rfl, fun W hW => by go_simp⟩) (HS3.out) ?_
            simp only [Act.put, List.setIfInBounds_toArray, List.set_cons_zero, List.set_cons_succ]
            refine onlyC (i := 11) rfl (by kernel_rfl) (fun K hK => ?_)
            refine step_stW (by rfl) 41 _ _ (by rfl) (wd.heap.size) [.int .u64 0, .int .u64 0, .int .u64 0, .int .u64 0, .int .u64 0, .int .u64 0, .slice none 0 0] ((talL z0 z1 z2 z3 z4 z5 mo N cm)) 41 (HA3.out) (by rfl) (by rfl) (by rfl) (by kernel_rfl) talL_one ?_
            intro w_4 n_4 u_4
            have hn1 : ¬ ab = wd.heap.size := by have h2 := HSB3.out; have h3 := HGL.out; omega
            have hn2 : ¬ tb = wd.heap.size := by have h2 := HSB3.out; have h3 := HTL.out; omega
            have HSx : w_4.rangeAt ab (aoff + k0 * 5) (calL x) ∧ Blk w_4 tb (talL t0 t1 t2 t3 t4 t5 ta tn tc).toArray 41 := ⟨range_updS HS3.out.1 u_4 hn1, Blk.upd HS3.out.2 u_4 hn2⟩
            have hnm : ∀ a, mo = some a → ¬ a.block = wd.heap.size := fun a ha e => by have h1 := own_fresh HO.out a ha; have h2 := Blk.lt HA2.out; omega
            refine hK _ _ ⟨HSx, ?_⟩
            clear hK K
            refine takeC (i := 12) (v := .int .i64 0) rfl (by kernel_rfl) (by kernel_rfl) (by kernel_rfl) (fun _ _ _ h => h) (Or.inl ⟨by rfl, fun W hW => by go_simp⟩) HSx ?_
            simp only [Act.put, List.setIfInBounds_toArray, List.set_cons_zero, List.set_cons_succ]
            refine wpAnyH_done (by kernel_rfl) ?_ _
            have HMx : Hid (SkAt w_4 mo N (minF f (oneC x))) := (HM.out).upd u_4 (fun a ha => hnm a ha)
            have HBx : Hid (Below wr.heap.size wr w_4) := (HB3.out).trans (u_4.below (Below.size HB3.out) (fun k hk e => by have h2 := HSB3.out; omega))
            have HGx : Hid (∀ a, mo = some a → wr.heap.size ≤ a.block) := (fun a ha => Nat.le_trans HL2.out (own_fresh HO.out a ha) : ∀ a : Addr, mo = some a → wr.heap.size ≤ a.block)
            have HFx : Hid (∀ a, mo = some a → ¬ a.block = tb) := fun a ha e => by have h2 := (fun a ha => Nat.le_trans HL2.out (own_fresh HO.out a ha) : ∀ a : Addr, mo = some a → wr.heap.size ≤ a.block) a ha; have h3 := HTL.out; omega
            have HNx : Hid (Blk w_4 (wd.heap.size) (talL z0 z1 z2 z3 z4 z5 mo N cm).toArray 41) := n_4
            have HTx : Hid (Blk w_4 tb (talL t0 t1 t2 t3 t4 t5 ta tn tc).toArray 41) := HSx.2
            clear hnm HSx n_4 u_4 hn1 hn2
            obtain ⟨wv, hwv⟩ : ∃ V, w_4 = V := ⟨_, rfl⟩
            rw [hwv] at HMx HBx HNx HTx ⊢
            clear hwv
            go_wp2_with (first | (refine wpList_load_mid rfl 41 _ rfl (wd.heap.size) 0 rfl (talL z0 z1 z2 z3 z4 z5 mo N cm) _ (range13C HNx.out) Tryz.underlying41 rfl (by kernel_rfl) ?_) | (refine wpList_stW rfl 41 _ _ rfl tb (talL t0 t1 t2 t3 t4 t5 ta tn tc) (talL z0 z1 z2 z3 z4 z5 mo N cm) 41 HTx.out rfl rfl rfl (by kernel_rfl) talL_one ?_; intro w9 n9 u9; have HT9 : Hid (Blk w9 tb (talL z0 z1 z2 z3 z4 z5 mo N cm).toArray 41) := n9; have HU9 : Hid (Upd (fun j => j = tb) wv w9) := u9; clear n9 u9))
            (try simp only [Act.put])
            have HU : Hid (Upd (fun j => j = tb) wr w9) := (Upd.ofBelow (S := fun j => j = tb) HBx.out (fun k hk hk2 => by omega)).trans HU9.out (fun _ _ h => h)
            have HK9 : Hid (SumAt w9 tb wr.heap.size (addT n 1) (addT e (failN x)) (addT k (tookN x)) (minF f (oneC x))) := SumAt.of HZ0.out HZ1.out HZ2.out HZ3.out HZ4.out HZ5.out HT9.out (SkAt.upd HMx.out HU9.out (fun a ha e => HFx.out a ha e)) HGx.out
            clear HU9 HT9 HMx HBx HNx HTx HFx HGx
            go_roundw
            case rel =>
              refine ⟨k0 + 1, by go_num, by omega, HNEXT.out _ HK9.out, HREST.out _ HU.out⟩
            case measure => simp [intOf]; omega
        · obtain rfl : nP = k0 := by omega
          have HS8 : Hid (SumL wr tb 0 b) := by
            have h := HSUM.out
            rw [List.take_of_length_le (by have := HLT.out.2.1; omega)] at h
            exact h.perm HPB.out
          obtain ⟨ta, tn, tc, hTb, hTs, -⟩ := HS8.out.ex
          obtain ⟨va, vn, vc, hVb, hVs, -⟩ := HR.out.want.ex
          have ST := sameT_sk ta va tn vn tc vc (histF b) (histF b) b.length (sumC failN b) (sumC tookN b) wr hTs hVs (fun _ _ => rfl)
          have HTb : Hid _ := hTb
          have HVb : Hid _ := hVb
          unfold talV at ST
          have HB8 : Hid (Below w.heap.size w wr) := HR.out.low
          clear hTb hTs hVb hVs HS8 HSUM HR HS7 HR7 HXT HPA HPB HCL
          generalize (hi64 b.length : Int) = y0 at *
          generalize (lo64 b.length : Int) = y1 at *
          generalize (hi64 (sumC failN b) : Int) = y2 at *
          generalize (lo64 (sumC failN b) : Int) = y3 at *
          generalize (hi64 (sumC tookN b) : Int) = y4 at *
          generalize (lo64 (sumC tookN b) : Int) = y5 at *
          go_wp2_with (first
            | (refine wpList_load_mid rfl 41 _ rfl tb 0 rfl (talL y0 y1 y2 y3 y4 y5 ta tn tc) _ (range13C HTb.out) Tryz.underlying41 rfl (by kernel_rfl) ?_)
            | (refine wpList_load_mid rfl 41 _ rfl wb 0 rfl (talL y0 y1 y2 y3 y4 y5 va vn vc) _ (range13C HVb.out) Tryz.underlying41 rfl (by kernel_rfl) ?_)
            | (go_at_call 24; (with_reducible refine (ST).mono ?_); clear ST; rintro e w7 ⟨rfl, b7⟩; have HB7 : Hid (Below w.heap.size w w7) := HB8.out.trans (b7.mono HB8.out.size); clear b7 HTb HVb HB8)
            | (at_builtin; refine wpList_app0 w7 rfl _ _ rfl aa na ca a rfl rfl (HA.out.below HB7.out) za ?_; go_loud ( intro v8 w8 o8 b8; obtain ⟨ao, la, lc, rfl⟩ := row_shape o8; have HC8 : Hid (na = la ∧ la ≤ lc ∧ lc ≤ maxLen) := ⟨by have := own_calL o8; have := HLN.out; omega, (own_calL o8).2⟩; have HW8 : Hid (RowC w.heap.size w8 ao la a) := OwnCal.row (show OwnCal w.heap.size w8 (.slice ao la lc) a from own_base o8 HB7.out.size); have HB9 : Hid (Below w.heap.size w w8) := HB7.out.trans (b8.mono HB7.out.size); clear o8 b8)))
          obtain ⟨rfl, hlc⟩ := HC8.out
          unfold maxLen at hlc
          clear HC8 HB7
          go_loopw [22] (fun t wr => ∃ (i0 : Nat) (L : List Cal), t = .int .i64 i0 ∧ i0 ≤ no ∧ Hid (RowC w.heap.size wr ao na L ∧ a.Perm L) ∧ Hid (Below w.heap.size w wr)) (fun t _ => no - (intOf t).toNat)
          case atStart => exact ⟨0, a, rfl, Nat.zero_le _, ⟨HW8.out, List.Perm.refl _⟩, HB9⟩
          case round =>
            obtain ⟨i0, L, rfl, hi0, HRC, HBL⟩ := hrel
            clear HW8 HB9
            have HLL : Hid (L.length = na) := HRC.out.1.at_.len
            by_cases hgo : i0 < no ∧ 0 < na
            · obtain ⟨hgo1, hgo2⟩ := hgo
              obtain ⟨bo, oo, rfl, hcs⟩ := (HO.out.below HBL.out).lies (by omega)
              have hir : i0 < r.length := by rw [HO.out.len]; exact hgo1
              have q0 := hcs i0 hir
              have qb := bounds_i64 (HO.out.bin r[i0] (List.getElem_mem hir))
              have PK := pick14_any r[i0] na qb.1 qb.2 hgo2
              generalize r[i0] = ri at q0 PK
              have ha : i0 % na < na := Nat.mod_lt _ hgo2
              have hat : (i0 : Int).tmod (na : Int) = ((i0 % na : Nat) : Int) := by rw [Int.tmod_eq_emod_of_nonneg (by omega), Int.natCast_emod]
              generalize i0 % na = j at ha hat
              obtain ⟨g, eg, -⟩ := HRC.out.1.room hgo2
              subst eg
              have HG : Hid (g < wr.heap.size ∧ w.heap.size ≤ g) := ⟨HRC.out.1.at_.lt _ rfl, (HRC.out.1.low _ rfl).2⟩
              have hlt' : (i0 : Int) < (no : Int) := by omega
              have hna' : (0 : Int) < (na : Int) := by omega
              have hja : (j : Int) < (na : Int) := by omega
              have hjl : j < L.length := by rw [HLL.out]; exact ha
              have RJ : Hid (wr.rangeAt g (j * 5) (calL L[j])) := HRC.out.1.range j hjl
              obtain ⟨y, ey⟩ : ∃ y, L[j] = y := ⟨_, rfl⟩
              have HY : Hid (L[j] = y) := ey
              rw [ey] at RJ
              clear ey hcs hir qb
              go_wp2_with (first
                | (go_at_call 32; (with_reducible refine (PK _).mono ?_); clear PK; rintro e w' ⟨k, hk9, rfl, hw⟩; obtain rfl := hw.symm; have hka : (k : Int) < (na : Int) := by omega)
                | (refine wpList_load_mid rfl 34 _ rfl g (j * 5) rfl (calL y) _ RJ.out Tryz.underlying34 rfl (by kernel_rfl) ?_)
                | (refine wpList_stW rfl 34 _ _ rfl wr.heap.size zCal (calL y) 34 (Blk.new _ _ _) rfl rfl rfl (by kernel_rfl) (calL_one y) ?_; intro w9 n9 u9; have HX9 : Hid (Blk w9 wr.heap.size (calL y).toArray 34) := n9; have b9 : Below wr.heap.size wr w9 := ((Below.refl _ wr).alloc (Nat.le_refl _) _).trans (u9.below (by simp) (fun q hq e => by omega)); have HR9 : Hid (RowC w.heap.size w9 (some ⟨g, 0, none⟩) na L) := HRC.out.1.below b9; have HB9 : Hid (Below w.heap.size w w9) := HBL.out.trans (b9.mono HBL.out.size); clear n9 u9 b9; have hkl : k < L.length := Nat.lt_of_lt_of_eq hk9 HLL.out.symm; have RK : Hid (w9.rangeAt g (k * 5) (calL L[k])) := HR9.out.range k hkl; obtain ⟨z, ez⟩ : ∃ z, L[k] = z := ⟨_, rfl⟩; have HZ : Hid (L[k] = z) := ez; rw [ez] at RK; clear ez)
                | (refine wpList_load_mid rfl 34 _ rfl g (k * 5) rfl (calL z) _ RK.out Tryz.underlying34 rfl (by kernel_rfl) ?_)
                | (refine wpList_stC rfl _ _ rfl w.heap.size g j na L z HR9.out hjl rfl rfl ?_; intro w10 r10 u10; have HR10 : Hid (RowC w.heap.size w10 (some ⟨g, 0, none⟩) na (L.set j z)) := r10; have HX10 : Hid (Blk w10 wr.heap.size (calL y).toArray 34) := HX9.out.upd u10 (by have := HG.out; omega); have HB10 : Hid (Below w.heap.size w w10) := HB9.out.trans (u10.below HB9.out.size (fun q hq e => by have := HG.out; omega)); clear r10 u10 HX9 HR9 HB9 RK)
                | (refine wpList_load_mid rfl 34 _ rfl wr.heap.size 0 rfl (calL y) _ (range13C HX10.out) Tryz.underlying34 rfl (by kernel_rfl) ?_)
                | (refine wpList_stC rfl _ _ rfl w.heap.size g k na (L.set j z) y HR10.out (by rw [List.length_set]; exact hkl) rfl rfl ?_; intro w11 r11 u11; have HR11 : Hid (RowC w.heap.size w11 (some ⟨g, 0, none⟩) na ((L.set j z).set k y)) := r11; have HB11 : Hid (Below w.heap.size w w11) := HB10.out.trans (u11.below HB10.out.size (fun q hq e => by have := HG.out; omega)); clear r11 u11 HR10 HX10 HB10))
              (try simp only [Act.put])
              go_roundw
              case rel =>
                refine ⟨i0 + 1, _, by go_num, by omega, ⟨HR11.out, HRC.out.2.trans ?_⟩, HB11⟩
                rw [← HY.out, ← HZ.out]
                exact swap_perm L j k hjl hkl
              case measure => simp [intOf]; omega
            · have DD := delta_any aa ao na na ca lc a L wr (HA.out.below HBL.out) HRC.out.1.at_ HPL.out (fun x hx => (HRC.out.1.low x hx).1) za za
              have hq : (nT : Int) - (nP : Int) = (na : Int) - (nb : Int) := by have := HLT.out; omega
              clear HLT HLN HA HO HPL
              by_cases h1 : i0 < no
              · have h0 : na = 0 := by omega
                subst h0
                have hlt' : (i0 : Int) < (no : Int) := by omega
                go_wp2_with (first
                  | (go_at_call 12; (with_reducible refine (DD).mono ?_); clear DD; rintro e w9 ⟨v, u, A2, B2, rfl, HPM, HOv, HOu, b9⟩; have HB9 : Hid (Below w.heap.size w w9) := HBL.out.trans (b9.mono HBL.out.size); clear b9; obtain ⟨o3, n3, c3, rfl⟩ := row_shape HOv.out; obtain ⟨o4, n4, c4, rfl⟩ := row_shape HOu.out; obtain rfl : n3 = 0 := (own_calL HOv.out).1.trans (congrArg List.length (woL_same HPM.out.2.1 HPM.out.2.2.2 ((HPM.out.1.symm.trans HRC.out.2).trans HPM.out.2.2.1))); obtain rfl : n4 = 0 := (own_calL HOu.out).1.trans (congrArg List.length (woL_same HPM.out.2.2.2 HPM.out.2.1 ((HPM.out.2.2.1.symm.trans HRC.out.2.symm).trans HPM.out.1))); clear HOv HOu HPM))
                go_ret
                exact ⟨rfl, HB9.out⟩
              · obtain rfl : no = i0 := by omega
                go_wp2_with (first
                  | (go_at_call 12; (with_reducible refine (DD).mono ?_); clear DD; rintro e w9 ⟨v, u, A2, B2, rfl, HPM, HOv, HOu, b9⟩; have HB9 : Hid (Below w.heap.size w w9) := HBL.out.trans (b9.mono HBL.out.size); clear b9; obtain ⟨o3, n3, c3, rfl⟩ := row_shape HOv.out; obtain ⟨o4, n4, c4, rfl⟩ := row_shape HOu.out; obtain rfl : n3 = 0 := (own_calL HOv.out).1.trans (congrArg List.length (woL_same HPM.out.2.1 HPM.out.2.2.2 ((HPM.out.1.symm.trans HRC.out.2).trans HPM.out.2.2.1))); obtain rfl : n4 = 0 := (own_calL HOu.out).1.trans (congrArg List.length (woL_same HPM.out.2.2.2 HPM.out.2.1 ((HPM.out.2.2.1.symm.trans HRC.out.2.symm).trans HPM.out.1))); clear HOv HOu HPM))
                go_ret
                exact ⟨rfl, HB9.out⟩
end Go.Proofs.YtidcbkmjkiennaaGreatDoor.sk
