/-
  Contracts: laid.
-/
import Derived.Test.YthnfpapaknejnabPk
import Derived.Deep.RegionHeld3
namespace Go.Proofs.Ythnfpapaknejnab
open Go.RowKit
set_option maxRecDepth 100000

/-- Frames: kind, seq, payload. -/
abbrev Fr := Int × Nat × List Int
def catL (fs : List Fr) : List Int := fs.flatMap fun f => makeL f.1 f.2.1 f.2.2
def pcsL : Nat → List Fr → List Pc
  | _, [] => []
  | p, f :: r => (f.1, f.2.1, p + 24, f.2.2.length) :: pcsL (p + 24 + f.2.2.length) r
def okF (f : Fr) : Prop := (1 ≤ f.1 ∧ f.1 ≤ 9) ∧ f.2.1 < 18446744073709551616 ∧ f.2.2.length ≤ 1048576 ∧ ByteL f.2.2
theorem catL_snoc (fs : List Fr) (f : Fr) : catL (fs ++ [f]) = catL fs ++ makeL f.1 f.2.1 f.2.2 := by simp [catL]
theorem pcsL_snoc (fs : List Fr) (f : Fr) : ∀ p, pcsL p (fs ++ [f]) = pcsL p fs ++ [(f.1, f.2.1, p + (catL fs).length + 24, f.2.2.length)] := by
  induction fs with
  | nil => intro p; simp [pcsL, catL]
  | cons g r ih =>
    intro p
    simp only [List.cons_append, pcsL, ih]
    have : p + 24 + g.2.2.length + (catL r).length = p + (catL (g :: r)).length := by simp [catL, makeL_len]; omega
    rw [this]
theorem pcsL_len (fs : List Fr) : ∀ p, (pcsL p fs).length = fs.length := by
  induction fs with
  | nil => intro p; rfl
  | cons g r ih => intro p; simp [pcsL, ih]
theorem catL_len (fs : List Fr) : 24 * fs.length ≤ (catL fs).length := by
  induction fs with
  | nil => simp [catL]
  | cons g r ih => simp [catL, makeL_len] at ih ⊢; omega
theorem catL_bytes (fs : List Fr) (h : ∀ f ∈ fs, okF f) : ByteL (catL fs) := by
  intro x hx
  simp only [catL, List.mem_flatMap] at hx
  obtain ⟨f, hf, hx⟩ := hx
  obtain ⟨h1, _, _, h4⟩ := h f hf
  exact makeL_bytes _ _ _ (by omega) h4 x hx

/-- A list of parcels as it lies in memory. -/
structure ParcAt (w : World) (ad : Option Addr) (n : Nat) : Prop where
  cells : ∀ i, i < n → ∃ b o k q ap np cp P, ad = some ⟨b, o, none⟩ ∧ w.cell? ⟨b, o + i * 3, none⟩ = some (.int .i64 k) ∧ w.cell? ⟨b, o + i * 3 + 1, none⟩ = some (.int .u64 q) ∧ w.cell? ⟨b, o + i * 3 + 2, none⟩ = some (.slice ap np cp) ∧
    Holds w ap np P ∧ ByteL P ∧ np ≤ cp ∧ cp ≤ maxLen ∧ (-9223372036854775808 ≤ k ∧ k ≤ 9223372036854775807) ∧ 0 ≤ q ∧ q < 18446744073709551616
theorem ParcAt.below {w w' : World} {ad : Option Addr} {n : Nat} (h : ParcAt w ad n) (hb : Below w.heap.size w w') : ParcAt w' ad n :=
  ⟨fun i hi => by
    obtain ⟨b, o, k, q, ap, np, cp, P, h1, h2, h3, h4, h5, r⟩ := h.cells i hi
    have u := Upd.ofBelow (S := fun _ => False) hb (fun k hk hk' => by omega)
    exact ⟨b, o, k, q, ap, np, cp, P, h1, cell_upd u h2 (fun h => h), cell_upd u h3 (fun h => h), cell_upd u h4 (fun h => h), h5.below hb, r⟩⟩

theorem make_tail (k : Int) (q : Nat) (P : List Int) : part (makeL k q P) 24 P.length = P := by
  unfold part makeL
  rw [List.drop_append, List.drop_of_length_le (by rw [headL_len]; omega), headL_len]
  simp
/-- Midway in laid. -/
structure Lm (w : World) (wk : World) (vb vw : Value) (fs : List Fr) : Prop where
  below : Below w.heap.size w wk
  ok : ∀ f ∈ fs, okF f
  few : (catL fs).length ≤ 2147483647
  ownB : wk.ownsRow w.heap.size 5 1 vb (catL fs).length ((catL fs).map (Value.int .u8))
  ownW : OwnP w.heap.size wk vw (pcsL 0 fs)
  ne : ∀ j, vb.ownBlock = some j → vw.ownBlock = some j → False

set_option maxHeartbeats 1000000 in
theorem laid_any (ad : Option Addr) (n cap : Nat) (w : World) (h : ParcAt w ad n) (hn : n ≤ 140737488355328) :
    Calls Try.prog 8 #[.slice ad n cap] w fun e w' => ∃ vb vw fs, e = .returned (.tuple #[vb, vw, .bool true]) ∧ Lm w w' vb vw fs := by
  obtain ⟨i0, hiu, hz0, hz1, hz2⟩ := info_parts Try.info5
  obtain ⟨i1, hip, hp0, hp1, hp2⟩ := info_parts Try.info33
  go_enter Try.func8, Try.ntmps8
  go_wp2
  go_loopw [5, 6, 7] (fun a b c wr => ∃ (j : Nat) (fs : List Fr), c = .int .i64 j ∧ j ≤ n ∧ Lm w wr a b fs) (fun _ _ c _ => n - (intOf c).toNat)
  case atStart =>
    refine ⟨0, [], rfl, by omega, Below.refl _ _, (fun f hf => by cases hf), by simp [catL], World.ownsRow_nil _ _ _ _, World.ownsRow_nil _ _ _ _, ?_⟩
    intro j hj; simp [Value.ownBlock] at hj
  case round =>
    obtain ⟨j, fs, rfl, hj, M⟩ := hrel
    obtain ⟨aob, lb, cb, rfl⟩ := row_shape M.ownB
    obtain ⟨aow, lw, cw, rfl⟩ := row_shape M.ownW
    by_cases hlt : j < n
    · have hz : (j : Int) < (n : Int) := by omega
      obtain ⟨b, o, k, q, ap, np, cp, P, rfl, d0, d1, d2, hP, hPb, hnp, hcp, hk, hq0, hq1⟩ := (h.below M.below).cells j hlt
      have hPl := hP.len
      have PK := pick_any k 9 hk.1 hk.2 (by omega) (by omega)
      have p0 := pick_lo k 9 (by omega)
      have p1 := pick_hi k 9 (by omega)
      generalize pickI k 9 = pk at PK p0 p1
      have hlb : lb = (catL fs).length := (own_cap M.ownB).1
      obtain ⟨Q, rfl⟩ : ∃ Q : Nat, q = (Q : Int) := ⟨q.toNat, by omega⟩
      have hQ : Q < 18446744073709551616 := by omega
      have hfew := M.few
      have A0 := M.ownB
      have W0 := M.ownW
      have hB0 := M.below
      have hB0s := hB0.size
      have HM : Hid (Lm w wr (.slice aob lb cb) (.slice aow lw cw) fs) := M
      have HLB : Hid (lb = (catL fs).length) := hlb
      have hlbs : lb ≤ 2147483647 := by omega
      have hwf : (pcsL 0 fs).length ≤ 2147483647 := by have := catL_len fs; rw [pcsL_len]; omega
      clear M hlb hfew
      by_cases hbig : 1048576 < np
      · have t1 : (1048576 : Int) < (np : Int) := by omega
        have t2 : (1048576 : Int) ≤ (cp : Int) := by omega
        obtain ⟨P', hpay, hPb'⟩ : ∃ P', Holds wr ap 1048576 P' ∧ ByteL P' := by
          obtain ⟨b', o', rfl⟩ := hP.some_of (by omega)
          exact ⟨part P 0 1048576, hP.part 0 1048576 (by omega), hPb.part _ _⟩
        obtain ⟨X, hX⟩ : ∃ X : Nat, 1048576 = X := ⟨_, rfl⟩
        rw [hX] at hpay
        have hPl' := hpay.len
        have HX : Hid (1048576 = X) := hX
        have HXl : Hid (X ≤ 1048576) := (by omega : X ≤ 1048576)
        have hXi : (X : Int) ≤ 1048576 := by omega
        have hlbi : (lb : Int) ≤ 2147483647 := by omega
        by_cases hbrk : 2146435047 < lb
        · have t3 : (2146435047 : Int) < (lb : Int) := by omega
          clear hpay hPl' hPb' hP hPl hPb hbrk hbig hlbs hX
          go_wp2
          (try rw [Exit.noGoto_ret])
          go_ret3
          first | exact ⟨_, _, fs, rfl, HM.out⟩ | exact ⟨_, _, rfl, fs, HM.out⟩
        · have t3 : ¬ ((2146435047 : Int) < (lb : Int)) := by omega
          have HBK : Hid (lb + X ≤ 2147483623) := (by omega : lb + X ≤ 2147483623)
          have ek : 1 ≤ 1 + pk ∧ 1 + pk ≤ 9 := by omega
          have MK := make_any (1 + pk) Q ap X cp P' wr ek HXl.out hpay hPb'
          obtain ⟨ML, hMLe⟩ : ∃ ML, makeL (1 + pk) Q P' = ML := ⟨_, rfl⟩
          have HML : Hid (makeL (1 + pk) Q P' = ML) := hMLe
          have hMl := makeL_len (1 + pk) Q P'
          have hMt := make_tail (1 + pk) Q P'
          rw [hMLe, hPl'] at hMl hMt
          rw [hMLe, hMl] at MK
          have HMl : Hid (ML.length = 24 + X) := hMl
          have HPAY : Hid (Holds wr ap X P') := hpay
          have HPL : Hid (P'.length = X) := hPl'
          have HMt : Hid (part ML 24 X = P') := hMt
          clear hpay hPl' hP hPl hPb hbrk hbig hlbs hMLe hMl hMt hX
          go_wp2_with (first
            | (go_at_call 11; refine (PK _).mono ?_; rintro e w' ⟨rfl, hw⟩; obtain rfl := hw.symm; rw [HX.out])
            | (go_at_call 12; refine MK.mono ?_; rintro e w5 ⟨v5, rfl, o5, b5⟩; obtain ⟨g5, c5, rfl, r1, r2, r3, r4⟩ := own_some o5 (by omega)))
          have H5 : Holds w5 (some ⟨g5, 0, none⟩) (24 + X) ML := by
            have := Holds.ofRow (K := ML) (by rw [HMl.out]; exact o5)
            exact this
          obtain ⟨Ad, hAd, hAh⟩ : ∃ Ad, (if c5 = 24 then some (⟨g5, 0, none⟩ : Addr) else some ⟨g5, 24, none⟩) = Ad ∧ Holds w5 Ad X P' := by
            refine ⟨_, rfl, ?_⟩
            by_cases hce : c5 = 24
            · have hx0 : X = 0 := by omega
              rw [if_pos hce]
              have hp0 : P' = [] := List.eq_nil_of_length_eq_zero (by rw [HPL.out]; exact hx0)
              rw [hp0]
              exact ⟨hx0.symm, fun j u hj => by simp at hj⟩
            · rw [if_neg hce]
              have := H5.part 24 X (by omega)
              rw [HMt.out, Nat.zero_add] at this
              exact this
          obtain ⟨S, hS⟩ : ∃ S, strI P' = S := ⟨_, rfl⟩
          have HC1 : ∀ m, (convert 23 9 (.slice Ad X (c5 - 24))).run Try.prog (w5.drewN m) = .ok (.string S) (w5.drewN m) := fun m => by rw [← hS]; exact conv_holds (hAh.drewN m) _
          have HC2 : ∀ m, (convert 23 9 (.slice ap X cp)).run Try.prog (w5.drewN m) = .ok (.string S) (w5.drewN m) := fun m => by rw [← hS]; exact conv_holds ((HPAY.out.below b5).drewN m) _
          have hSS : (S.toList == S.toList) = true := by simp
          have q1 : (24 : Int) ≤ (24 : Int) + (X : Int) := by omega
          have HO5 : Hid (w5.ownsRow wr.heap.size 5 1 (.slice (some ⟨g5, 0, none⟩) (24 + X) c5) (24 + X) (ML.map (Value.int .u8))) := o5
          clear o5 r4 hS H5 hAh
          go_quiet (fail)
          have f1 := cell_upd (Upd.ofBelow (S := fun _ => False) b5 (fun k hk hk' => by omega)) d1 (fun h => h)
          have b5' := below_drewN b5 nq
          have z5 := b5.size
          have W3 := own_below W0 b5'
          have A3 := own_below A0 b5'
          (try rw [hAd])
          clear r1 r2 q1 HC1 HC2 hSS t3
          go_wp2_with (at_builtin; refine wpList_appW _ rfl (.tmp 70) (.tmp 83) 25 25 rfl w.heap.size 33 i1 _ 4 32 Try.underlying25 hip hp0 hp1 hp2 rfl _ _ _ rfl (W3.alloc _) _ 1 [.int .i64 (1 + pk), .int .u64 Q, .int .i64 ((lb : Int) + 24), .int .i64 X] rfl (Src.ofSlice _ Try.underlying25 ⟨w5.heap.size, 0, none⟩ 1 1 _ rfl ?c1 ?c2) ?c3 ?c4 ?c5 ?_)
          case c1 =>
            have hnb := heap_alloc_new (w5.drewN nq) (.cells #[Value.int .i64 (1 + pk), Value.int .u64 Q, Value.int .i64 ((lb : Int) + 24), Value.int .i64 X] 33)
            intro jj u hj
            rw [Addr.add_lit, Nat.zero_add]
            refine (cell_of_row _ w5.heap.size jj _ _ _ hnb).trans ?_
            match jj, hj with
            | 0, hj => simpa using hj
            | 1, hj => simpa using hj
            | 2, hj => simpa using hj
            | 3, hj => simpa using hj
          case c2 => intro u hu; simp at hu; rcases hu with rfl | rfl | rfl | rfl <;> rfl
          case c3 => unfold maxLen; omega
          case c4 => omega
          case c5 => simp; omega
          intro vw' w6 ho6 hg6 hm6
          have u6 := grown_upd' hg6
          have m6 := (Moved.refl (w5.drewN nq) (Value.slice aow lw cw)).trans (by simp) hm6
          have hW : ∀ k, (Value.slice aow lw cw).ownBlock = some k → k < wr.heap.size ∧ w.heap.size ≤ k := fun k e => own_lt W0 e
          have hA : ∀ k, (Value.slice aob lb cb).ownBlock = some k → k < wr.heap.size ∧ w.heap.size ≤ k := fun k e => own_lt A0 e
          have A6 := ownsRow_upd A3 u6 (fun k hk e => HM.out.ne k hk e)
          have H6 : Holds w6 (some ⟨g5, 0, none⟩) (24 + X) ML := by
            have h5 : Holds w5 (some ⟨g5, 0, none⟩) (24 + X) ML := Holds.ofRow (K := ML) (by rw [HMl.out]; exact HO5.out)
            refine (h5.drewN nq).upd u6 (fun a ha e => ?_)
            simp at ha
            have := (hW _ e).1
            rw [← ha] at this
            simp at this
            omega
          obtain ⟨aow', lw', cw', rfl⟩ := row_shape ho6
          have z6 := u6.size
          have hclen : (catL fs).length = lb := HLB.out.symm
          clear hg6 hm6 W3 A3 f1
          go_wp2_with (at_builtin; refine wpList_app _ rfl (.tmp 85) (.tmp 86) 23 23 rfl w.heap.size 5 i0 (.int .u8 0) 1 Try.underlying23 hiu hz0 hz1 hz2 rfl _ _ _ rfl A6 _ (24 + X) (ML.map (Value.int .u8)) rfl (H6.src c5) ?e1 ?e2 ?e3 ?_)
          case e1 => have := HBK.out; unfold maxLen; omega
          case e2 => have := HBK.out; omega
          case e3 => simp at z6; omega
          intro vb' w7 ho7 hg7 hm7
          have u7 := grown_upd hg7
          have z6' : w5.heap.size ≤ w6.heap.size := by simpa using z6
          have hLm : Lm w w7 vb' (.slice aow' lw' cw') (fs ++ [(1 + pk, Q, P')]) := by
            have hb6 : Below w.heap.size w w6 := (hB0.trans (b5'.mono hB0s)).trans (u6.below (by simp; omega) (fun k hk e => by have := (hW _ e).2; omega))
            have hok : okF (1 + pk, Q, P') := ⟨ek, hQ, by show P'.length ≤ _; rw [HPL.out]; exact HXl.out, hPb'⟩
            have hcs : catL (fs ++ [(1 + pk, Q, P')]) = catL fs ++ ML := by rw [catL_snoc]; show _ ++ makeL (1 + pk) Q P' = _; rw [HML.out]
            have hcl2 : (catL (fs ++ [(1 + pk, Q, P')])).length = (catL fs).length + (24 + X) := by rw [hcs, List.length_append, HMl.out]
            refine ⟨hb6.trans (u7.below hb6.size (fun k hk e => by have := (hA _ e).2; omega)), ?_, ?_, ?_, ?_, ?_⟩
            · intro f hf
              rcases List.mem_append.1 hf with e | e
              · exact HM.out.ok f e
              · simp at e; rw [e]; exact hok
            · have := HBK.out; rw [hcl2]; omega
            · rw [hcl2, hcs, List.map_append, hclen]; exact ho7
            · have hps : pcsL 0 (fs ++ [(1 + pk, Q, P')]) = pcsL 0 fs ++ [(1 + pk, Q, lb + 24, X)] := by
                rw [pcsL_snoc]
                show _ ++ [(1 + pk, Q, 0 + (catL fs).length + 24, P'.length)] = _
                rw [HPL.out, hclen, Nat.zero_add]
              have hW6 : OwnP w.heap.size w6 (.slice aow' lw' cw') (pcsL 0 (fs ++ [(1 + pk, Q, P')])) := by
                unfold OwnP
                rw [hps]
                simpa [pcCells] using ho6
              refine ownsRow_upd hW6 u7 (fun k hk e => ?_)
              rcases m6 with m | ⟨i, m, hi⟩
              · exact HM.out.ne k e (m ▸ hk)
              · rw [hk] at m; simp at m
                have := (hA _ e).1
                simp at hi
                omega
            · intro k hk hk'
              have hk6 : k < w6.heap.size := (own_lt ho6 hk').1
              rcases hm7 with m7 | ⟨i7, m7, hi7⟩
              · rcases m6 with m | ⟨i, m, hi⟩
                · exact HM.out.ne k (m7 ▸ hk) (m ▸ hk')
                · rw [hk'] at m; simp at m
                  have := (hA k (m7 ▸ hk)).1
                  simp at hi
                  omega
              · rw [hk] at m7; simp at m7; omega
          have HLm : Hid (Lm w w7 vb' (.slice aow' lw' cw') (fs ++ [(1 + pk, Q, P')])) := hLm
          obtain ⟨aob', lb', cb', rfl⟩ := row_shape ho7
          clear hLm ho7 hg7 hm7 ho6 u6 u7 m6 A6 H6 hW hA
          go_wp2
          go_roundw
          case rel => exact ⟨j + 1, _, by go_num, by omega, HLm.out⟩
          case measure => simp [intOf]; omega
      · have t1 : ¬ ((1048576 : Int) < (np : Int)) := by omega
        obtain ⟨P', hpay, hPb'⟩ : ∃ P', Holds wr ap np P' ∧ ByteL P' := ⟨P, hP, hPb⟩
        have hPl' := hpay.len
        by_cases hbrk : 2147483623 - np < lb
        · have t3 : (2147483623 : Int) - (np : Int) < (lb : Int) := by omega
          go_wp2
          (try rw [Exit.noGoto_ret])
          go_ret3
          first | exact ⟨_, _, fs, rfl, HM.out⟩ | exact ⟨_, _, rfl, fs, HM.out⟩
        · have t3 : ¬ ((2147483623 : Int) - (np : Int) < (lb : Int)) := by omega
          have HBK : Hid (lb + np ≤ 2147483623) := (by omega : lb + np ≤ 2147483623)
          have ek : 1 ≤ 1 + pk ∧ 1 + pk ≤ 9 := by omega
          have MK := make_any (1 + pk) Q ap np cp P' wr ek (by omega) hpay hPb'
          obtain ⟨ML, hMLe⟩ : ∃ ML, makeL (1 + pk) Q P' = ML := ⟨_, rfl⟩
          have HML : Hid (makeL (1 + pk) Q P' = ML) := hMLe
          have hMl := makeL_len (1 + pk) Q P'
          have hMt := make_tail (1 + pk) Q P'
          rw [hMLe, hPl'] at hMl hMt
          rw [hMLe, hMl] at MK
          have HMl : Hid (ML.length = 24 + np) := hMl
          have HPAY : Hid (Holds wr ap np P') := hpay
          have HPL : Hid (P'.length = np) := hPl'
          have HMt : Hid (part ML 24 np = P') := hMt
          clear hpay hPl' hP hPl hMLe hMl hMt
          go_wp2_with (first
            | (go_at_call 11; refine (PK _).mono ?_; rintro e w' ⟨rfl, hw⟩; obtain rfl := hw.symm)
            | (go_at_call 12; refine MK.mono ?_; rintro e w5 ⟨v5, rfl, o5, b5⟩; obtain ⟨g5, c5, rfl, r1, r2, r3, r4⟩ := own_some o5 (by omega)))
          have H5 : Holds w5 (some ⟨g5, 0, none⟩) (24 + np) ML := by
            have := Holds.ofRow (K := ML) (by rw [HMl.out]; exact o5)
            exact this
          obtain ⟨Ad, hAd, hAh⟩ : ∃ Ad, (if c5 = 24 then some (⟨g5, 0, none⟩ : Addr) else some ⟨g5, 24, none⟩) = Ad ∧ Holds w5 Ad np P' := by
            refine ⟨_, rfl, ?_⟩
            by_cases hce : c5 = 24
            · have hx0 : np = 0 := by omega
              rw [if_pos hce]
              have hp0 : P' = [] := List.eq_nil_of_length_eq_zero (by rw [HPL.out]; exact hx0)
              rw [hp0]
              exact ⟨hx0.symm, fun j u hj => by simp at hj⟩
            · rw [if_neg hce]
              have := H5.part 24 np (by omega)
              rw [HMt.out, Nat.zero_add] at this
              exact this
          obtain ⟨S, hS⟩ : ∃ S, strI P' = S := ⟨_, rfl⟩
          have HC1 : ∀ m, (convert 23 9 (.slice Ad np (c5 - 24))).run Try.prog (w5.drewN m) = .ok (.string S) (w5.drewN m) := fun m => by rw [← hS]; exact conv_holds (hAh.drewN m) _
          have HC2 : ∀ m, (convert 23 9 (.slice ap np cp)).run Try.prog (w5.drewN m) = .ok (.string S) (w5.drewN m) := fun m => by rw [← hS]; exact conv_holds ((HPAY.out.below b5).drewN m) _
          have hSS : (S.toList == S.toList) = true := by simp
          have q1 : (24 : Int) ≤ (24 : Int) + (np : Int) := by omega
          have HO5 : Hid (w5.ownsRow wr.heap.size 5 1 (.slice (some ⟨g5, 0, none⟩) (24 + np) c5) (24 + np) (ML.map (Value.int .u8))) := o5
          clear o5 r4 hS H5 hAh
          go_quiet (fail)
          have f1 := cell_upd (Upd.ofBelow (S := fun _ => False) b5 (fun k hk hk' => by omega)) d1 (fun h => h)
          have b5' := below_drewN b5 nq
          have z5 := b5.size
          have W3 := own_below W0 b5'
          have A3 := own_below A0 b5'
          (try rw [hAd])
          clear r1 r2 q1 HC1 HC2 hSS t3
          go_wp2_with (at_builtin; refine wpList_appW _ rfl (.tmp 70) (.tmp 83) 25 25 rfl w.heap.size 33 i1 _ 4 32 Try.underlying25 hip hp0 hp1 hp2 rfl _ _ _ rfl (W3.alloc _) _ 1 [.int .i64 (1 + pk), .int .u64 Q, .int .i64 ((lb : Int) + 24), .int .i64 np] rfl (Src.ofSlice _ Try.underlying25 ⟨w5.heap.size, 0, none⟩ 1 1 _ rfl ?c1 ?c2) ?c3 ?c4 ?c5 ?_)
          case c1 =>
            have hnb := heap_alloc_new (w5.drewN nq) (.cells #[Value.int .i64 (1 + pk), Value.int .u64 Q, Value.int .i64 ((lb : Int) + 24), Value.int .i64 np] 33)
            intro jj u hj
            rw [Addr.add_lit, Nat.zero_add]
            refine (cell_of_row _ w5.heap.size jj _ _ _ hnb).trans ?_
            match jj, hj with
            | 0, hj => simpa using hj
            | 1, hj => simpa using hj
            | 2, hj => simpa using hj
            | 3, hj => simpa using hj
          case c2 => intro u hu; simp at hu; rcases hu with rfl | rfl | rfl | rfl <;> rfl
          case c3 => unfold maxLen; omega
          case c4 => omega
          case c5 => simp; omega
          intro vw' w6 ho6 hg6 hm6
          have u6 := grown_upd' hg6
          have m6 := (Moved.refl (w5.drewN nq) (Value.slice aow lw cw)).trans (by simp) hm6
          have hW : ∀ k, (Value.slice aow lw cw).ownBlock = some k → k < wr.heap.size ∧ w.heap.size ≤ k := fun k e => own_lt W0 e
          have hA : ∀ k, (Value.slice aob lb cb).ownBlock = some k → k < wr.heap.size ∧ w.heap.size ≤ k := fun k e => own_lt A0 e
          have A6 := ownsRow_upd A3 u6 (fun k hk e => HM.out.ne k hk e)
          have H6 : Holds w6 (some ⟨g5, 0, none⟩) (24 + np) ML := by
            have h5 : Holds w5 (some ⟨g5, 0, none⟩) (24 + np) ML := Holds.ofRow (K := ML) (by rw [HMl.out]; exact HO5.out)
            refine (h5.drewN nq).upd u6 (fun a ha e => ?_)
            simp at ha
            have := (hW _ e).1
            rw [← ha] at this
            simp at this
            omega
          obtain ⟨aow', lw', cw', rfl⟩ := row_shape ho6
          have z6 := u6.size
          have hclen : (catL fs).length = lb := HLB.out.symm
          clear hg6 hm6 W3 A3 f1
          go_wp2_with (at_builtin; refine wpList_app _ rfl (.tmp 85) (.tmp 86) 23 23 rfl w.heap.size 5 i0 (.int .u8 0) 1 Try.underlying23 hiu hz0 hz1 hz2 rfl _ _ _ rfl A6 _ (24 + np) (ML.map (Value.int .u8)) rfl (H6.src c5) ?e1 ?e2 ?e3 ?_)
          case e1 => have := HBK.out; unfold maxLen; omega
          case e2 => have := HBK.out; omega
          case e3 => simp at z6; omega
          intro vb' w7 ho7 hg7 hm7
          have u7 := grown_upd hg7
          have z6' : w5.heap.size ≤ w6.heap.size := by simpa using z6
          have hLm : Lm w w7 vb' (.slice aow' lw' cw') (fs ++ [(1 + pk, Q, P')]) := by
            have hb6 : Below w.heap.size w w6 := (hB0.trans (b5'.mono hB0s)).trans (u6.below (by simp; omega) (fun k hk e => by have := (hW _ e).2; omega))
            have hok : okF (1 + pk, Q, P') := ⟨ek, hQ, by show P'.length ≤ _; rw [HPL.out]; omega, hPb'⟩
            have hcs : catL (fs ++ [(1 + pk, Q, P')]) = catL fs ++ ML := by rw [catL_snoc]; show _ ++ makeL (1 + pk) Q P' = _; rw [HML.out]
            have hcl2 : (catL (fs ++ [(1 + pk, Q, P')])).length = (catL fs).length + (24 + np) := by rw [hcs, List.length_append, HMl.out]
            refine ⟨hb6.trans (u7.below hb6.size (fun k hk e => by have := (hA _ e).2; omega)), ?_, ?_, ?_, ?_, ?_⟩
            · intro f hf
              rcases List.mem_append.1 hf with e | e
              · exact HM.out.ok f e
              · simp at e; rw [e]; exact hok
            · have := HBK.out; rw [hcl2]; omega
            · rw [hcl2, hcs, List.map_append, hclen]; exact ho7
            · have hps : pcsL 0 (fs ++ [(1 + pk, Q, P')]) = pcsL 0 fs ++ [(1 + pk, Q, lb + 24, np)] := by
                rw [pcsL_snoc]
                show _ ++ [(1 + pk, Q, 0 + (catL fs).length + 24, P'.length)] = _
                rw [HPL.out, hclen, Nat.zero_add]
              have hW6 : OwnP w.heap.size w6 (.slice aow' lw' cw') (pcsL 0 (fs ++ [(1 + pk, Q, P')])) := by
                unfold OwnP
                rw [hps]
                simpa [pcCells] using ho6
              refine ownsRow_upd hW6 u7 (fun k hk e => ?_)
              rcases m6 with m | ⟨i, m, hi⟩
              · exact HM.out.ne k e (m ▸ hk)
              · rw [hk] at m; simp at m
                have := (hA _ e).1
                simp at hi
                omega
            · intro k hk hk'
              have hk6 : k < w6.heap.size := (own_lt ho6 hk').1
              rcases hm7 with m7 | ⟨i7, m7, hi7⟩
              · rcases m6 with m | ⟨i, m, hi⟩
                · exact HM.out.ne k (m7 ▸ hk) (m ▸ hk')
                · rw [hk'] at m; simp at m
                  have := (hA k (m7 ▸ hk)).1
                  simp at hi
                  omega
              · rw [hk] at m7; simp at m7; omega
          have HLm : Hid (Lm w w7 vb' (.slice aow' lw' cw') (fs ++ [(1 + pk, Q, P')])) := hLm
          obtain ⟨aob', lb', cb', rfl⟩ := row_shape ho7
          clear hLm ho7 hg7 hm7 ho6 u6 u7 m6 A6 H6 hW hA
          go_wp2
          go_roundw
          case rel => exact ⟨j + 1, _, by go_num, by omega, HLm.out⟩
          case measure => simp [intOf]; omega
    · obtain rfl : j = n := by omega
      go_wp2
      go_ret3
      exact ⟨_, _, fs, rfl, M⟩
end Go.Proofs.Ythnfpapaknejnab
