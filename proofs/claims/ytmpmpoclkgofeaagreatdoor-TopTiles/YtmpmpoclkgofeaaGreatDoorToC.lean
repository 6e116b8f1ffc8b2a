/-
  ToC.
-/
import Derived.Test.YtmpmpoclkgofeaaGreatDoorRUq
namespace Go.Proofs.YtmpmpoclkgofeaaGreatDoor
open Go Go.RowKit
set_option maxRecDepth 100000

def bstI (fin : Nat → Nod) : Option Nat → Int
  | none => 0
  | some c => (fin c).id
def bstE (fin : Nat → Nod) (tt : Int) : Option Nat → Int
  | none => 0
  | some c => untM (fin c) tt
def awK (fin : Nat → Nod) (tt : Int) (kn : List Nat) (i : Nat) : Option Nat := awaitM fin tt ((kn.take i).filter (fun c => decide ((fin c).fr < (fin c).til)))
theorem awK_next {fin : Nat → Nod} {tt : Int} {kn : List Nat} {i : Nat} (hi : i < kn.length) : awK fin tt kn (i + 1) = if (fin kn[i]).fr < (fin kn[i]).til then pickA fin tt (awK fin tt kn i) kn[i] else awK fin tt kn i := by
  unfold awK awaitM
  rw [List.take_add_one, List.getElem?_eq_getElem hi, List.filter_append, List.foldl_append]
  by_cases h : (fin kn[i]).fr < (fin kn[i]).til
  · simp [h]
  · simp [h]
theorem awK_mem {fin : Nat → Nod} {tt : Int} {kn : List Nat} {i c : Nat} (h : awK fin tt kn i = some c) : c ∈ kn := List.mem_of_mem_take (List.mem_filter.1 (awaitM_some h).1).1
theorem awK_step {fin : Nat → Nod} {tt : Int} {kn : List Nat} {i : Nat} (hi : i < kn.length) (hid : ∀ c ∈ kn, (fin c).id ≠ 0) {d : Nod} (hd : fin kn[i] = d) {b : Option Nat} (hb : awK fin tt kn i = b) :
    ((d.til ≤ d.fr ∨ tt ≤ d.fr) → awK fin tt kn (i + 1) = b) ∧
    (d.fr < d.til → d.fr < tt → (bstI fin b = 0 ∨ bstE fin tt b < min d.til tt ∨ (min d.til tt = bstE fin tt b ∧ d.id < bstI fin b)) → awK fin tt kn (i + 1) = some kn[i]) ∧
    (d.fr < d.til → d.fr < tt → bstI fin b ≠ 0 → ¬ bstE fin tt b < min d.til tt → ¬ (min d.til tt = bstE fin tt b ∧ d.id < bstI fin b) → awK fin tt kn (i + 1) = b) := by
  have hn := awK_next (fin := fin) (tt := tt) hi
  rw [hd, hb] at hn
  refine ⟨fun h => ?_, fun h1 h2 h3 => ?_, fun h1 h2 h3 h4 h5 => ?_⟩
  · rw [hn]
    rcases h with h | h
    · rw [if_neg (by omega)]
    · split
      · unfold pickA; rw [hd, if_neg (by omega)]
      · rfl
  · rw [hn, if_pos h1]
    unfold pickA
    rw [hd, if_pos h2]
    cases b with
    | none => rfl
    | some c =>
      have hc := hid c (awK_mem hb)
      simp only [bstI, bstE] at h3
      have : outM d (fin c) tt = true := by
        unfold outM untM
        unfold untM at h3
        simp only [Bool.or_eq_true, Bool.and_eq_true, decide_eq_true_eq]
        rcases h3 with h3 | h3 | h3
        · exact absurd h3 hc
        · exact Or.inl h3
        · exact Or.inr h3
      simp only [this, if_true]
  · rw [hn, if_pos h1]
    unfold pickA
    rw [hd, if_pos h2]
    cases b with
    | none => exact absurd rfl h3
    | some c =>
      simp only [bstI, bstE] at h4 h5
      have : outM d (fin c) tt = false := by
        unfold outM untM
        unfold untM at h4 h5
        simp only [Bool.or_eq_false_iff, Bool.and_eq_false_iff, decide_eq_false_iff_not]
        refine ⟨h4, ?_⟩
        by_cases e : min d.til tt = min (fin c).til tt
        · exact Or.inr (fun h => h5 ⟨e, h⟩)
        · exact Or.inl e
      simp only [this]
      rfl
theorem FoB.idPos {Y : List Sp} {C : List Int} {dp : Nat → Nat} {fin : Nat → Nod} {X : List Spot} {K : Nat → List Int} {R : List Int} (h : FoB Y C dp fin X K R) {c : Nat} (hc : c < Y.length) : (fin c).id ≠ 0 := fun e => by
  have h1 := h.one.chk Y[c] (List.getElem_mem hc)
  have h2 := h.ids c hc
  have e2 : spAt Y c = Y[c] := by simp [spAt, List.getD, hc]
  rw [e2, e] at h2
  unfold chkS at h1
  simp [h2] at h1
theorem lenI_zero {a b : Int} : (lenI (a, b) == 0) = decide (b ≤ a) := by
  unfold lenI
  by_cases h : b ≤ a
  · simp [h]
  · simp [h]; omega
theorem ivF0 (a b : Int) (w : World) : (Instr.field 30 (.agg #[.int .i64 a, .int .i64 b]) 0).run Tryz.prog w = .ok (.int .i64 a) w := by kernel_rfl
theorem ivF1 (a b : Int) (w : World) : (Instr.field 30 (.agg #[.int .i64 a, .int .i64 b]) 1).run Tryz.prog w = .ok (.int .i64 b) w := by kernel_rfl
set_option maxHeartbeats 8000000 in
theorem hangs_any (f sb : Nat) (X : List Spot) (K : Nat → List Int) (rv : Value) (R : List Int) (Y : List Sp) (C : List Int) (dp : Nat → Nat) (fin : Nat → Nod) (W : World) (hF : ForestAt W f sb X K rv R) (hB : FoB Y C dp fin X K R) (x : Nat) (hx : x < Y.length) (L : List LegN) (hP : PathR fin (cnK fin K) x (fin x).til L) (hL : L.length ≤ 2000) (m : Int) (h1 : (fin x).fr ≤ m) (h2 : m < (fin x).til) :
    Calls Tryz.prog 11 #[.pointer (some ⟨f, 0, none⟩), .int .u64 (fin x).id, .int .i64 m] W fun e w' => ∃ l ∈ L, e = .returned (.int .u64 (fin l.1).id) ∧ l.2.1 ≤ m ∧ m < l.2.2 ∧ Below W.heap.size W w' := by
  have hl := hB.fo.len
  obtain ⟨l, hl1, hl2, hl3, hg⟩ := hB.hang hx hP hL h1 h2 4000 (by omega)
  have HLG : Hid (∀ w', Below W.heap.size W w' → ∃ l ∈ L, (.returned (.int .u64 (fin l.1).id) : Ending) = .returned (.int .u64 (fin l.1).id) ∧ l.2.1 ≤ m ∧ m < l.2.2 ∧ Below W.heap.size W w') := fun w' hb => ⟨l, hl1, rfl, hl2, hl3, hb⟩
  have HEND : Hid (∀ o w', o = l.1 → Below W.heap.size W w' → ∃ l ∈ L, (.returned (.int .u64 (fin o).id) : Ending) = .returned (.int .u64 (fin l.1).id) ∧ l.2.1 ≤ m ∧ m < l.2.2 ∧ Below W.heap.size W w') := fun o w' e hb => ⟨l, hl1, by rw [e], hl2, hl3, hb⟩
  have EA : ∀ y, y < Y.length → ∃ hy : y < X.length, X[y].nd = fin y := fun y hy => ⟨by omega, (hB.fo.each y hy (by omega)).2⟩
  have CL : Hid (∀ y, y < Y.length → ∀ W1, Below W.heap.size W W1 → Calls Tryz.prog 7 #[.pointer (some ⟨f, 0, none⟩), .int .u64 (fin y).id] W1 fun e w' => e = .returned (.agg #[.int .i64 (fin y).fr, .int .i64 (fin y).til]) ∧ Below W1.heap.size W1 w') := fun y hy W1 hb => by
    obtain ⟨h, e⟩ := EA y hy
    exact clipT_any f sb X K rv R W1 (hF.below hb) y h (fin y) e
  have BND : Hid (∀ y, y < Y.length → 0 ≤ (fin y).fr ∧ (fin y).fr ≤ 4611686018427387904 ∧ 0 ≤ (fin y).til ∧ (fin y).til ≤ 4611686018427387904) := fun y hy => by
    have := hB.inn (dp y) y rfl hy
    omega
  have LO : Hid (∀ y, y < Y.length → ∀ W1, Calls Tryz.prog 21 #[.agg #[.int .i64 (fin y).fr, .int .i64 (fin y).til]] W1 fun e w' => e = .returned (.int .u64 (lenI ((fin y).fr, (fin y).til))) ∧ Below W1.heap.size W1 w') := fun y hy W1 => long_any _ _ (BND.out y hy) W1
  have KL : Hid (∀ y, y < Y.length → (∀ c ∈ knK K y, c < Y.length) ∧ (knK K y).length ≤ 1000) := fun y hy => by
    have T := hB.senv y hy
    exact ⟨fun c hc => by have := (T.kn y T.xX).2.1 c hc; omega, (T.kn y T.xX).2.2⟩
  have CH : Hid (∀ y, y < Y.length → ∀ W1, Below W.heap.size W W1 → Calls Tryz.prog 22 #[.pointer (some ⟨f, 0, none⟩), .int .u64 (fin y).id] W1 fun e w' => ∃ r n, e = .returned (.slice (some ⟨r, 0, none⟩) n n) ∧ Hid ((knK K y).length = n ∧ Blk w' r (fillC .u64 ((knK K y).map (fun c => (fin c).id)) 0) 33) ∧ Below W1.heap.size W1 w') := fun y hy W1 hb => by
    have T := hB.senv y hy
    refine (children_at f sb X K rv R fin (knK K) W1 (hF.below hb) T.nd y T.xX (T.kn y T.xX).1 (T.kn y T.xX).2.1).mono ?_
    rintro e w' ⟨r, rfl, h1, _, h2⟩
    exact ⟨r, _, rfl, ⟨rfl, h1⟩, h2⟩
  have IDP : Hid (∀ c, c < Y.length → (fin c).id ≠ 0) := fun c hc => hB.idPos hc
  have HINJ : Hid (∀ a b, a < Y.length → b < Y.length → (fin a).id = (fin b).id → a = b) := fun a b ha hb e => hB.idInj ha hb e
  have HG0 : Hid (x < Y.length ∧ hgF fin (cnK fin K) m 4000 x (fin x).til = some l.1) := ⟨hx, hg⟩
  have C0 := CL.out x hx W (Below.refl _ _)
  obtain ⟨o, ho⟩ : ∃ o, l.1 = o := ⟨_, rfl⟩
  have HO : Hid (l.1 = o) := ho
  rw [ho] at HG0
  clear hF hB hx hP hL h1 h2 hl hl1 hl2 hl3 hg EA ho
  have F0 := ivF0
  have F1 := ivF1
  go_enter Tryz.func11, Tryz.ntmps11
  go_wp2_with (go_at_call 7; (with_reducible refine C0.mono ?_); clear C0; rintro e w1 ⟨rfl, hb1⟩; have HB1 : Hid (Below W.heap.size W w1) := hb1; clear hb1)
  go_loopw [7, 8, 9] (fun z7 z8 z9 wr => ∃ (s : Nat) (tt : Int) (k : Nat), z7 = .int .u64 (fin s).id ∧ z8 = .int .i64 tt ∧ z9 = .int .i64 k ∧ k ≤ 4000 ∧ Hid (s < Y.length ∧ hgF fin (cnK fin K) m (4000 - k) s tt = some o) ∧ Hid (Below W.heap.size W wr)) (fun _ _ z9 _ => 4000 - (intOf z9).toNat)
  case atStart => exact ⟨x, _, 0, rfl, rfl, rfl, by omega, HG0, HB1⟩
  case round =>
    clear HG0 HB1
    obtain ⟨s, tt, k, rfl, rfl, rfl, hk, HG, HB⟩ := hrel
    by_cases hlt : k < 4000
    · have hkn : (k : Int) < 4000 := by omega
      obtain ⟨n', hn'⟩ : ∃ n', 4000 - k = n' + 1 := ⟨4000 - k - 1, by omega⟩
      have HN' : Hid (4000 - k = n' + 1 ∧ 4000 - (k + 1) = n') := ⟨hn', by omega⟩
      have HGN : Hid (s < Y.length ∧ hgF fin (cnK fin K) m (n' + 1) s tt = some o) := by rw [← hn']; exact HG.out
      clear hn' HG
      have C1 := CH.out s HGN.out.1 wr HB.out
      have hkl := (KL.out s HGN.out.1).2
      go_upto_region 9 with (go_at_call 22; (with_reducible refine C1.mono ?_); clear C1; rintro e w4 ⟨r, n, rfl, HR, hb4⟩; have HB4 : Hid (Below W.heap.size W w4) := HB.out.trans (hb4.mono HB.out.size); clear hb4)
      have HKN : Hid ((knK K s).length = n ∧ ∀ c ∈ knK K s, c < Y.length) := ⟨HR.out.1, (KL.out s HGN.out.1).1⟩
      have hn1 : n ≤ 1000 := by rw [← HR.out.1]; exact hkl
      have HRB : Hid (∀ i (hi : i < (knK K s).length) V, Below w4.heap.size w4 V → V.cell? ⟨r, i, none⟩ = some (.int .u64 (fin (knK K s)[i]).id)) := fun i hi V hV => (HR.out.2.below hV HR.out.2.lt).cell i (by simp [fillC]; exact ⟨_, List.getElem?_eq_getElem (by simpa [knK] using hi), rfl⟩)
      have HAW : Hid (awaitM fin tt (cnK fin K s) = awK fin tt (knK K s) n) := by
        show _ = _
        unfold awK cnK
        rw [List.take_of_length_le (by rw [HR.out.1]; exact Nat.le_refl _)]
      clear HR HB hkl
      generalize hkn' : knK K s = kn at *
      clear hkn'
      have e0 : awK fin tt kn 0 = none := rfl
      go_wp2
      go_loopw [10, 11, 13] (fun z10 z11 z13 wq => ∃ (i : Nat) (b : Option Nat), z10 = .int .u64 (bstI fin b) ∧ z11 = .int .i64 (bstE fin tt b) ∧ z13 = .int .i64 i ∧ i ≤ n ∧ Hid (awK fin tt kn i = b) ∧ Hid (Below w4.heap.size w4 wq)) (fun _ _ z13 _ => n - (intOf z13).toNat)
      case atStart => exact ⟨0, none, rfl, rfl, rfl, by omega, e0, Below.refl _ _⟩
      case round =>
        clear e0
        obtain ⟨i, b, rfl, rfl, rfl, hi, HBT, HBQ⟩ := hrel
        by_cases hin : i < n
        · have hinn : (i : Int) < (n : Int) := by omega
          have hik : i < kn.length := by rw [HKN.out.1]; exact hin
          have hcY := HKN.out.2 _ (List.getElem_mem hik)
          have c0 := HRB.out i hik wr HBQ.out
          have CC := CL.out kn[i] hcY wr (HB4.out.trans (HBQ.out.mono HB4.out.size))
          have LL : Hid (∀ W1, Calls Tryz.prog 21 #[.agg #[.int .i64 (fin kn[i]).fr, .int .i64 (fin kn[i]).til]] W1 fun e w' => e = .returned (.int .u64 (lenI ((fin kn[i]).fr, (fin kn[i]).til))) ∧ Below W1.heap.size W1 w') := LO.out kn[i] hcY
          have ST := awK_step hik (fun c hc => IDP.out c (HKN.out.2 c hc)) (d := fin kn[i]) rfl HBT.out
          have HSC : Hid (bstI fin (some kn[i]) = (fin kn[i]).id ∧ bstE fin tt (some kn[i]) = min (fin kn[i]).til tt) := ⟨rfl, rfl⟩
          have HCR : Hid (∀ V, Below w4.heap.size w4 V → V.cell? ⟨r, i, none⟩ = some (.int .u64 (fin kn[i]).id)) := fun V hV => HRB.out i hik V hV
          have HST : Hid _ := ST
          have lz : (lenI ((fin kn[i]).fr, (fin kn[i]).til) == 0) = decide ((fin kn[i]).til ≤ (fin kn[i]).fr) := lenI_zero
          clear ST
          obtain ⟨cn, hcn⟩ : ∃ cn, kn[i] = cn := ⟨_, rfl⟩
          rw [hcn] at c0 CC LL HSC HCR HST lz
          generalize fin cn = d at *
          obtain ⟨did, dpar, dorg, dtree, ddep, dfr, dtil⟩ := d
          simp only at c0 CC LL HSC HCR HST lz
          go_upto_region 13 with (go_at_call 7; (with_reducible refine CC.mono ?_); clear CC; rintro e w5 ⟨rfl, hb5⟩; have HB5 : Hid (Below wr.heap.size wr w5) := hb5; clear hb5 c0)
          obtain ⟨V5, hV5⟩ : ∃ V, w5.alloc (.cells #[.int .i64 dfr, .int .i64 dtil] 30) = V := ⟨_, rfl⟩
          have bk : Blk V5 w5.heap.size #[.int .i64 dfr, .int .i64 dtil] 30 := by rw [← hV5]; exact Blk.new _ _ _
          have BV : Hid (Below w4.heap.size w4 V5) := by rw [← hV5]; exact (HBQ.out.trans (HB5.out.mono HBQ.out.size)).alloc (Nat.le_trans HBQ.out.size HB5.out.size) _
          have k0 : V5.cell? ⟨w5.heap.size, 0, none⟩ = some (.int .i64 dfr) := bk.cell 0 rfl
          have k1 : V5.cell? ⟨w5.heap.size, 1, none⟩ = some (.int .i64 dtil) := bk.cell 1 rfl
          have HBK : Hid (Blk V5 w5.heap.size #[.int .i64 dfr, .int .i64 dtil] 30) := bk
          rw [hV5]
          clear hV5 HB5 HBQ bk
          have L1 := LL.out V5
          have AFT : Hid (∀ V, Below V5.heap.size V5 V → (V.cell? ⟨w5.heap.size, 0, none⟩ = some (.int .i64 dfr) ∧ V.cell? ⟨w5.heap.size, 1, none⟩ = some (.int .i64 dtil) ∧ V.cell? ⟨r, i, none⟩ = some (.int .u64 did)) ∧ Below w4.heap.size w4 V) := fun V hV => by
            have b := HBK.out.below hV HBK.out.lt
            have bb := BV.out.trans (hV.mono BV.out.size)
            exact ⟨⟨b.cell 0 rfl, b.cell 1 rfl, HCR.out V bb⟩, bb⟩
          clear LL HBK BV HCR
          by_cases hcd : dfr < dtil ∧ dfr < tt
          · have ez : (lenI (dfr, dtil) == 0) = false := by rw [lz]; exact decide_eq_false (by omega)
            have d2 : decide (tt ≤ dfr) = false := decide_eq_false (by omega)
            generalize lenI (dfr, dtil) = ll at *
            clear lz
            go_upto_region 14 with (go_at_call 21; (with_reducible refine L1.mono ?_); clear L1; rintro e w6 ⟨rfl, hb6⟩; obtain ⟨⟨j0, j1, jr⟩, jb⟩ := AFT.out w6 hb6; have HB6 : Hid (Below w4.heap.size w4 w6) := jb; clear hb6 jb AFT k0 k1)
            have HTK : Hid ((bstI fin b = 0 ∨ bstE fin tt b < min dtil tt ∨ (min dtil tt = bstE fin tt b ∧ did < bstI fin b)) → awK fin tt kn (i + 1) = some cn) := HST.out.2.1 hcd.1 hcd.2
            have HKE : Hid (bstI fin b ≠ 0 → ¬ bstE fin tt b < min dtil tt → ¬ (min dtil tt = bstE fin tt b ∧ did < bstI fin b) → awK fin tt kn (i + 1) = b) := fun q1 q2 q3 => HST.out.2.2 hcd.1 hcd.2 q1 (by omega) q3
            clear HST hcd d2 ez
            go_upto_region 15 with fail
            obtain ⟨u, hu⟩ : ∃ u, min dtil tt = u := ⟨_, rfl⟩
            rw [hu] at HTK HKE HSC ⊢
            clear hu
            generalize hbi : bstI fin b = bi at *
            generalize hbe : bstE fin tt b = be at *
            have HBI : Hid (bstI fin b = bi ∧ bstE fin tt b = be) := ⟨hbi, hbe⟩
            clear hbi hbe
            by_cases hb0 : bi = 0
            · have z0 : (bi == 0) = true := by simp [hb0]
              have HX : Hid (awK fin tt kn (i + 1) = some cn) := HTK.out (Or.inl hb0)
              clear HTK HKE hb0
              go_wp2
              go_roundw
              case rel => exact ⟨i + 1, some cn, by rw [HSC.out.1], by rw [HSC.out.2], by go_num, by omega, HX, HB6⟩
              case measure => (simp [intOf]; omega)
            · have z0 : (bi == 0) = false := by simp [hb0]
              by_cases hb1 : be < u
              · have z1 : decide (be < u) = true := decide_eq_true hb1
                have HX : Hid (awK fin tt kn (i + 1) = some cn) := HTK.out (Or.inr (Or.inl hb1))
                clear HTK HKE hb0 hb1
                go_wp2
                go_roundw
                case rel => exact ⟨i + 1, some cn, by rw [HSC.out.1], by rw [HSC.out.2], by go_num, by omega, HX, HB6⟩
                case measure => (simp [intOf]; omega)
              · have z1 : decide (be < u) = false := decide_eq_false hb1
                by_cases hb2 : u = be
                · have z2 : (u == be) = true := by simp [hb2]
                  by_cases hb3 : did < bi
                  · have z3 : decide (did < bi) = true := decide_eq_true hb3
                    have HX : Hid (awK fin tt kn (i + 1) = some cn) := HTK.out (Or.inr (Or.inr ⟨hb2, hb3⟩))
                    clear HTK HKE hb0 hb1 hb2 hb3
                    go_wp2
                    go_roundw
                    case rel => exact ⟨i + 1, some cn, by rw [HSC.out.1], by rw [HSC.out.2], by go_num, by omega, HX, HB6⟩
                    case measure => (simp [intOf]; omega)
                  · have z3 : decide (did < bi) = false := decide_eq_false hb3
                    have HX : Hid (awK fin tt kn (i + 1) = b) := HKE.out hb0 hb1 (fun h => hb3 h.2)
                    clear HTK HKE hb0 hb1 hb2 hb3
                    go_wp2
                    go_roundw
                    case rel => exact ⟨i + 1, b, by rw [HBI.out.1], by rw [HBI.out.2], by go_num, by omega, HX, HB6⟩
                    case measure => (simp [intOf]; omega)
                · have z2 : (u == be) = false := by simp [hb2]
                  have HX : Hid (awK fin tt kn (i + 1) = b) := HKE.out hb0 hb1 (fun h => hb2 h.1)
                  clear HTK HKE hb0 hb1 hb2
                  go_wp2
                  go_roundw
                  case rel => exact ⟨i + 1, b, by rw [HBI.out.1], by rw [HBI.out.2], by go_num, by omega, HX, HB6⟩
                  case measure => (simp [intOf]; omega)
          · have HX : Hid (awK fin tt kn (i + 1) = b) := HST.out.1 (by omega)
            clear HST
            by_cases hz : dtil ≤ dfr
            · have ez : (lenI (dfr, dtil) == 0) = true := by rw [lz]; exact decide_eq_true hz
              generalize lenI (dfr, dtil) = ll at *
              clear lz hcd hz
              go_wp2_with (go_at_call 21; (with_reducible refine L1.mono ?_); clear L1; rintro e w6 ⟨rfl, hb6⟩; have HB6 : Hid (Below w4.heap.size w4 w6) := (AFT.out w6 hb6).2; clear hb6 AFT k0 k1)
              go_roundw
              case rel => exact ⟨i + 1, b, rfl, rfl, by go_num, by omega, HX, HB6⟩
              case measure => (simp [intOf]; omega)
            · have ez : (lenI (dfr, dtil) == 0) = false := by rw [lz]; exact decide_eq_false hz
              have d2 : decide (tt ≤ dfr) = true := decide_eq_true (by omega)
              generalize lenI (dfr, dtil) = ll at *
              clear lz hcd hz
              go_wp2_with (go_at_call 21; (with_reducible refine L1.mono ?_); clear L1; rintro e w6 ⟨rfl, hb6⟩; obtain ⟨⟨j0, j1, jr⟩, jb⟩ := AFT.out w6 hb6; have HB6 : Hid (Below w4.heap.size w4 w6) := jb; clear hb6 jb AFT k0 k1)
              go_roundw
              case rel => exact ⟨i + 1, b, rfl, rfl, by go_num, by omega, HX, HB6⟩
              case measure => (simp [intOf]; omega)
        · obtain rfl : n = i := by omega
          have hgn := HGN.out.2
          have haw := HAW.out
          rw [HBT.out] at haw
          have HBW : Hid (Below W.heap.size W wr) := HB4.out.trans (HBQ.out.mono HB4.out.size)
          cases b with
          | none =>
            rw [hgF_none haw] at hgn
            have HSO : Hid (s = o) := Option.some.inj hgn
            have HFIN : Hid (∃ l ∈ L, (.returned (.int .u64 (fin s).id) : Ending) = .returned (.int .u64 (fin l.1).id) ∧ l.2.1 ≤ m ∧ m < l.2.2 ∧ Below W.heap.size W wr) := HEND.out s wr (by rw [HSO.out, HO.out]) HBW.out
            clear hgn haw HAW HGN HBT
            simp only [bstI, bstE]
            go_wp2
            go_ret
            exact HFIN.out
          | some c =>
            rw [hgF_some haw] at hgn
            have hcm := awK_mem HBT.out
            have hcY := HKN.out.2 c hcm
            have hne := IDP.out c hcY
            have z0 : ((fin c).id == 0) = false := by simp [hne]
            have CC := CL.out c hcY wr HBW.out
            simp only [bstI, bstE]
            have HBW' : Hid (∀ V, Below wr.heap.size wr V → Below W.heap.size W V) := fun V hV => HBW.out.trans (hV.mono HBW.out.size)
            have HCY : Hid (c < Y.length) := hcY
            have HSY : Hid (s < Y.length) := HGN.out.1
            have HLS : Hid (untM (fin c) tt ≤ m → s = o) := fun h => by rw [if_pos h] at hgn; exact Option.some.inj hgn
            have HIN : Hid (¬ untM (fin c) tt ≤ m → (fin c).fr ≤ m → hgF fin (cnK fin K) m (4000 - (k + 1)) c (untM (fin c) tt) = some o) := fun h h' => by rw [if_neg h, if_pos h'] at hgn; rw [HN'.out.2]; exact hgn
            have HLE : Hid (¬ untM (fin c) tt ≤ m → ¬ (fin c).fr ≤ m → hgF fin (cnK fin K) m (4000 - (k + 1)) s (fin c).fr = some o) := fun h h' => by rw [if_neg h, if_neg h'] at hgn; rw [HN'.out.2]; exact hgn
            clear hgn haw HAW HGN HBT hcm hcY hne HKN HRB
            obtain ⟨u, hu⟩ : ∃ u, untM (fin c) tt = u := ⟨_, rfl⟩
            rw [hu] at HLS HIN HLE ⊢
            clear hu
            by_cases hq : u ≤ m
            · have z1 : decide (u ≤ m) = true := decide_eq_true hq
              have HFIN : Hid (∃ l ∈ L, (.returned (.int .u64 (fin s).id) : Ending) = .returned (.int .u64 (fin l.1).id) ∧ l.2.1 ≤ m ∧ m < l.2.2 ∧ Below W.heap.size W wr) := HEND.out s wr (by rw [HLS.out hq, HO.out]) HBW.out
              clear HLS HIN HLE hq CC
              go_wp2
              go_ret
              exact HFIN.out
            · have z1 : decide (u ≤ m) = false := decide_eq_false hq
              by_cases hf : (fin c).fr ≤ m
              · have z2 : decide ((fin c).fr ≤ m) = true := decide_eq_true hf
                have HX : Hid (c < Y.length ∧ hgF fin (cnK fin K) m (4000 - (k + 1)) c u = some o) := ⟨HCY.out, HIN.out hq hf⟩
                clear HLS HIN HLE hq hf
                go_wp2_with (go_at_call 7; (with_reducible refine CC.mono ?_); clear CC; rintro e w6 ⟨rfl, hb6⟩; have HB6 : Hid (Below W.heap.size W w6) := HBW'.out w6 hb6; clear hb6)
                go_roundw
                case rel => exact ⟨c, u, k + 1, rfl, rfl, by go_num, by omega, HX, HB6⟩
                case measure => (simp [intOf]; omega)
              · have z2 : decide ((fin c).fr ≤ m) = false := decide_eq_false hf
                have HX : Hid (s < Y.length ∧ hgF fin (cnK fin K) m (4000 - (k + 1)) s (fin c).fr = some o) := ⟨HSY.out, HLE.out hq hf⟩
                clear HLS HIN HLE hq hf
                go_wp2_with (go_at_call 7; (with_reducible refine CC.mono ?_); clear CC; rintro e w6 ⟨rfl, hb6⟩; have HB6 : Hid (Below W.heap.size W w6) := HBW'.out w6 hb6; clear hb6)
                go_roundw
                case rel => exact ⟨s, (fin c).fr, k + 1, rfl, rfl, by go_num, by omega, HX, HB6⟩
                case measure => (simp [intOf]; omega)
    · exfalso
      have hk4 : 4000 - k = 0 := by omega
      have := HG.out.2
      rw [hk4] at this
      simp [hgF] at this
end Go.Proofs.YtmpmpoclkgofeaaGreatDoor
