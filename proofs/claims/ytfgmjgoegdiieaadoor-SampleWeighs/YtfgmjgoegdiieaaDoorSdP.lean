/-
  SdP.
-/
import Derived.Test.YtfgmjgoegdiieaaDoorSdNq
namespace Go.Proofs.YtfgmjgoegdiieaaDoor
open Go Go.RowKit
set_option maxRecDepth 100000

theorem run_eqlT3 {T : TypeId} {xs ys : Array Value} {b : Bool} {W : World} (h : (Op.equalIn 10000 T (.agg xs) (.agg ys)).run Tryd.prog W = .ok b W) : (binOp .eql T (.agg xs) (.agg ys)).run Tryd.prog W = .ok (.bool b) W := by
  rw [run_eql_struct, h]; rfl
theorem overR3 (r : Nat) : (decide ((2147483647 : Int) < (r : Int)) = true ∧ decide (2147483647 < r) = true ∧ True) ∨ (decide ((2147483647 : Int) < (r : Int)) = false ∧ decide (2147483647 < r) = false ∧ r ≤ 2147483647) := by
  by_cases h : 2147483647 < r
  · exact Or.inl ⟨decide_eq_true (by omega), decide_eq_true h, trivial⟩
  · exact Or.inr ⟨decide_eq_false (by omega), decide_eq_false h, by omega⟩
theorem belowAl3 {W : World} (o : Obj) : Below W.heap.size W (W.alloc o) := (Below.refl _ _).alloc (Nat.le_refl _) _
/-- Where the gathering of the sure ones stands. -/
structure LpI (w3 wr : World) (L : List Pol) (v : Value) (k : Nat) (m : Int) : Prop where
  own : OwnPol w3.heap.size wr v (sureL (L.take k))
  part : maxPart (L.take k) = m
  low : Below w3.heap.size w3 wr
theorem LpI.skip {w3 wr : World} {L : List Pol} {v : Value} {k : Nat} {m : Int} (h : LpI w3 wr L v k m) (hk : k < L.length) {y : Pol} (hy : L[k] = y) (h4 : y.kind = 4) : LpI w3 wr L v (k + 1) (max m y.part) := by
  refine ⟨?_, ?_, h.low⟩
  · rw [sureL_next L k hk, hy, if_pos h4, List.append_nil]; exact h.own
  · rw [maxPart_next L k hk, hy, if_pos h4, h.part]
theorem LpI.put {w3 wr wn : World} {L : List Pol} {v v' : Value} {k : Nat} {m : Int} (h : LpI w3 wr L v k m) (hk : k < L.length) {y : Pol} (hy : L[k] = y) (h4 : y.kind ≠ 4) (ho : OwnPol w3.heap.size wn v' (sureL (L.take k) ++ [y])) (hu : Upd (fun j => w3.heap.size ≤ j) wr wn) : LpI w3 wn L v' (k + 1) m := by
  refine ⟨?_, ?_, h.low.trans (hu.below h.low.size (fun j hj e => by omega))⟩
  · rw [sureL_next L k hk, hy, if_neg h4]; exact ho
  · rw [maxPart_next L k hk, hy, if_neg h4]; exact h.part
theorem LpI.len {w3 wr : World} {L : List Pol} {v : Value} {k : Nat} {m : Int} (_ : LpI w3 wr L v k m) (hc : L.length ≤ 20) : (sureL (L.take k)).length ≤ 20 := by
  refine Nat.le_trans (List.length_filter_le _ _) ?_
  rw [List.length_take]
  omega
/-- Places: the list that the law makes. -/
structure PlI (w5 wr : World) (v : Value) (Q : List Int) (i : Nat) : Prop where
  own : OwnQ w5.heap.size wr v Q
  len : Q.length = 4 + i
  bin : ∀ q ∈ Q, 0 ≤ q ∧ q ≤ 65535
  low : Below w5.heap.size w5 wr
theorem PlI.put {w5 wr wn : World} {v v' : Value} {Q : List Int} {i : Nat} {q : Int} (h : PlI w5 wr v Q i) (h0 : 0 ≤ q) (h1 : q ≤ 65535) (ho : OwnQ w5.heap.size wn v' (Q ++ [q])) (hu : Upd (fun j => w5.heap.size ≤ j) wr wn) : PlI w5 wn v' (Q ++ [q]) (i + 1) := by
  refine ⟨ho, by rw [List.length_append, h.len]; rfl, fun x hx => ?_, h.low.trans (hu.below h.low.size (fun j hj e => by omega))⟩
  rcases List.mem_append.1 hx with hx | hx
  · exact h.bin x hx
  · rw [List.mem_singleton.1 hx]; exact ⟨h0, h1⟩
/-- What stays while the verdicts are asked. -/
structure WgE (w W : World) (la : Option Addr) (n1 : Nat) (L : List Pol) (ad : Option Addr) (n : Nat) (X : List Sp) (P : Nat → Pl) (sa : Option Addr) (pg : Nat) (Q : List Int) : Prop where
  low : Below w.heap.size w W
  pol : PolAt W la n1 L
  sur : PolAt W sa (sureL L).length (sureL L)
  sps : SpsAt W ad n X P
  tab : Tabs W
  plc : ∀ i (_ : i < Q.length), W.cell? ⟨pg, i, none⟩ = some (.int .u64 Q[i])
theorem WgE.below {w W W' : World} {la : Option Addr} {n1 : Nat} {L : List Pol} {ad : Option Addr} {n : Nat} {X : List Sp} {P : Nat → Pl} {sa : Option Addr} {pg : Nat} {Q : List Int} (h : WgE w W la n1 L ad n X P sa pg Q) (hb : Below W.heap.size W W') : WgE w W' la n1 L ad n X P sa pg Q :=
  ⟨h.low.trans (hb.mono h.low.size), h.pol.below hb, h.sur.below hb, h.sps.below hb, h.tab.below hb, fun i hi => (hb.cell (p := ⟨pg, i, none⟩) (World.block_lt_of_cell? W _ (h.plc i hi))).trans (h.plc i hi)⟩
theorem sure_names {L : List Pol} {b : Nat} (h : ∀ p ∈ L, p.name.size ≤ b) : ∀ p ∈ sureL L, p.name.size ≤ b := fun p hp => h p (List.mem_filter.1 hp).1
theorem ofInt_add (lo : BitVec 64) (i : Nat) : IntKind.u64.wrap (bvI lo + (i : Int)) = bvI (lo + BitVec.ofNat 64 i) := by
  rw [IntKind.wrap_u64]
  unfold bvI
  rw [BitVec.toNat_add, BitVec.toNat_ofNat]
  have := lo.isLt
  omega
set_option maxHeartbeats 8000000 in
theorem sampleWeighs_any (la : Option Addr) (n1 c1 : Nat) (L : List Pol) (ad : Option Addr) (n cap : Nat) (X : List Sp) (P : Nat → Pl) (lo : BitVec 64) (li : Int) (hli : li = bvI lo) (ta : Option Addr) (n2 c2 : Nat) (A : List Int) (w : World) (hL : PolAt w la n1 L) (hs : ∀ p ∈ L, p.name.size ≤ 140737488355328) (hz : n1 * 40 ≤ 140737488351232) (hX : SpsAt w ad n X P) (hF : ∀ a ∈ X, a.Fits) (hS : ∀ a ∈ X, a.Small) (hn : n ≤ 140737488355328) (hA : IntQ w ta n2 A) (hT : Tabs w) :
    Calls Tryd.prog 3 #[.slice la n1 c1, .slice ad n cap, .int .u64 li, .slice ta n2 c2] w fun e w' => e = .returned (.bool true) ∧ Below w.heap.size w w' := by
  have HF : Hid (∀ a ∈ X, a.Fits) := hF
  have HS : Hid (∀ a ∈ X, a.Small) := hS
  have HN : Hid (∀ p ∈ L, p.name.size ≤ 140737488355328) := hs
  have HXL : Hid (X.length = n) := hX.len
  have HLL : Hid (L.length = n1) := hL.1
  have HAL : Hid (A.length = n2) := hA.1
  have HLI : Hid (li = bvI lo) := hli
  have HP : Hid (PolAt w la n1 L ∧ SpsAt w ad n X P ∧ Tabs w ∧ IntQ w ta n2 A) := ⟨hL, hX, hT, hA⟩
  have AL := aliveP_any w hT
  have hn1z : n1 ≤ 140737488355328 := by omega
  clear hL hX hF hS hs hT hA hli
  go_enter Tryd.func3, Tryd.ntmps3
  rcases chkP_cases L with hc0 | hc0
  · by_cases hn0 : n = 0
    · have n0 : ((n : Int) == 0) = true := by rw [hn0]; rfl
      clear hn0
      go_wp2_with (first
        | (go_at_call 4; (with_reducible refine AL.mono ?_); clear AL; rintro e w1 ⟨rfl, hb1⟩; have H1 : Hid (Below w.heap.size w w1) := hb1; have CK := checkP_any la n1 c1 L w1 (HP.out.1.below hb1) HN.out hn1z (HP.out.2.2.1.below hb1); rw [hc0] at CK; clear hb1)
        | (go_at_call 5; (with_reducible refine CK.mono ?_); clear CK; rintro e w2 ⟨rfl, hb2⟩; have H2 : Hid (Below w.heap.size w w2) := H1.out.trans (hb2.mono H1.out.size); clear hb2))
      go_ret
      exact ⟨rfl, H2.out⟩
    · have n0 : ((n : Int) == 0) = false := by simp; omega
      go_upto_region 4 with (first
        | (go_at_call 4; (with_reducible refine AL.mono ?_); clear AL; rintro e w1 ⟨rfl, hb1⟩; have H1 : Hid (Below w.heap.size w w1) := hb1; have CK := checkP_any la n1 c1 L w1 (HP.out.1.below hb1) HN.out hn1z (HP.out.2.2.1.below hb1); rw [hc0] at CK; clear hb1)
        | (go_at_call 5; (with_reducible refine CK.mono ?_); clear CK; rintro e w2 ⟨rfl, hb2⟩; have H2 : Hid (Below w.heap.size w w2) := H1.out.trans (hb2.mono H1.out.size); have WT := lawWeight_any ad n cap X P w2 (HP.out.2.1.below H2.out) hn; clear hb2)
        | (go_at_call 6; (with_reducible refine WT.mono ?_); clear WT; rintro e w3 ⟨r, rfl, hr, hb3⟩; have HR : Hid (r ≤ 2147483647 → WeightOk X) := hr; have H3 : Hid (Below w.heap.size w w3) := H2.out.trans (hb3.mono H2.out.size); clear hr hb3 H2; rcases overR3 r with ⟨hrd, hrn, hrk⟩ | ⟨hrd, hrn, hrk⟩))
      · (try go_wp2)
        go_ret
        exact ⟨rfl, H3.out⟩
      · have HOK : Hid (WeightOk X) := HR.out hrk
        have HMY : Hid (L.length ≤ 20 ∧ ∀ p ∈ L, mayP p = true) := chkP_may hc0
        have HC0 : Hid (chkP L = 0) := hc0
        clear HR hrd hrn hrk hc0
        have I0 : Hid (LpI w3 w3 L (.slice none 0 0) 0 0) := ⟨World.ownsRow_nil _ _ _ _, rfl, Below.refl _ _⟩
        go_wp2
        go_loopw [10, 11, 12] (fun z10 z11 z12 wr => ∃ (k : Nat) (m : Int), z12 = .int .i64 k ∧ z10 = .int .u64 m ∧ k ≤ n1 ∧ Hid (LpI w3 wr L z11 k m)) (fun _ _ z _ => n1 - (intOf z).toNat)
        case atStart => exact ⟨0, 0, rfl, rfl, by omega, I0⟩
        case round =>
          obtain ⟨k, m, rfl, rfl, hkn, HI⟩ := hrel
          clear I0
          by_cases hlt : k < n1
          · have hltd : (k : Int) < (n1 : Int) := by omega
            have hkL : k < L.length := by rw [HLL.out]; exact hlt
            have hlow := H3.out.trans (HI.out.low.mono H3.out.size)
            have PW := HP.out.1.below hlow
            obtain ⟨b, o, rfl, _, hcl⟩ := PW.2 (by omega)
            have hci := hcl k hkL
            obtain ⟨y, hy⟩ : ∃ y, L[k]'hkL = y := ⟨_, rfl⟩
            rw [hy] at hci
            have HY : Hid (∃ h : k < L.length, L[k] = y) := ⟨hkL, hy⟩
            have hmp := mayP_part (HMY.out.2 y (by rw [← hy]; exact List.getElem_mem hkL))
            have wyp : IntKind.u64.wrap y.part = y.part := by rw [IntKind.wrap_u64]; omega
            have c0 := hci 0 _ rfl
            have c1 := hci 1 _ rfl
            have c2 := hci 2 _ rfl
            have c3 := hci 3 _ rfl
            rw [Nat.add_zero] at c0
            obtain ⟨ao, al, ac, hv0⟩ := row_shape HI.out.own
            subst hv0
            have hal := (own_cap HI.out.own).1
            subst hal
            have hsl := HI.out.len (k := k) HMY.out.1
            have HSL : Hid ((sureL (L.take k)).length ≤ 3518437208783 ∧ w3.heap.size ≤ wr.heap.size) := ⟨by omega, HI.out.low.size⟩
            clear hcl hci hy hlow PW hsl hmp
            by_cases hk4 : y.kind = 4
            · have HI2 : Hid (LpI w3 wr L (.slice ao (sureL (L.take k)).length ac) (k + 1) (max m y.part)) := HI.out.skip HY.out.1 HY.out.2 hk4
              have c0' := c0
              rw [hk4] at c0'
              clear c0 hk4
              go_wp2
              go_roundw
              case rel => exact ⟨k + 1, _, by simp, rfl, by omega, HI2⟩
              case measure => (simp [intOf]; omega)
            · have hk4b : (y.kind == 4) = false := by simpa using hk4
              have HK4 : Hid (y.kind ≠ 4) := hk4
              clear hk4
              go_wp2_with (at_builtin; refine wpList_appP wr rfl (.tmp 63) (.tmp 68) rfl w3.heap.size (.slice ao (sureL (L.take k)).length ac) (sureL (L.take k)) y rfl HI.out.own rfl HSL.out.1 HSL.out.2 ?_; intro v' w6 ho6 hu6; have HI2 : Hid (LpI w3 w6 L v' (k + 1) m) := HI.out.put HY.out.1 HY.out.2 HK4.out ho6 hu6; clear ho6 hu6)
              go_roundw
              case rel => exact ⟨k + 1, _, by simp, rfl, by omega, HI2⟩
              case measure => (simp [intOf]; omega)
          · obtain rfl : n1 = k := by omega
            have hown := HI.out.own
            have hmx := HI.out.part
            rw [List.take_of_length_le (by rw [HLL.out]; exact Nat.le_refl _)] at hown hmx
            obtain ⟨sa, al, sc, hv0⟩ := row_shape hown
            subst hv0
            have hal := (own_cap hown).1
            subst hal
            have HPM : Hid (maxPart L = m ∧ 0 ≤ m ∧ m ≤ 65536) := ⟨hmx, by have := maxPart_le L HMY.out.2; rw [hmx] at this; exact this⟩
            have hml := HPM.out.2
            have HSU : Hid (PolAt wr sa (sureL L).length (sureL L) ∧ Below w.heap.size w wr) := ⟨OwnPol.at hown, H3.out.trans (HI.out.low.mono H3.out.size)⟩
            obtain ⟨p3, hp3⟩ : ∃ p, max m 1 - 1 = p := ⟨_, rfl⟩
            obtain ⟨p4, hp4⟩ : ∃ p, min m 65535 = p := ⟨_, rfl⟩
            have hp3b : 0 ≤ p3 ∧ p3 ≤ 65535 := by omega
            have hp4b : 0 ≤ p4 ∧ p4 ≤ 65535 := by omega
            have wp3 : IntKind.u64.wrap (max m 1 - 1) = p3 := by rw [IntKind.wrap_u64]; omega
            have HB34 : Hid ((0 ≤ p3 ∧ p3 ≤ 65535) ∧ (0 ≤ p4 ∧ p4 ≤ 65535)) := ⟨hp3b, hp4b⟩
            clear hown hmx HI H3 hml hp3b hp4b hp3
            go_upto_region 13 with fail
            have I5 : Hid (PlI wr (wr.alloc (.cells #[.int .u64 0, .int .u64 65535, .int .u64 p3, .int .u64 p4] 24)) (.slice (some ⟨wr.heap.size, 0, none⟩) 4 4) [0, 65535, p3, p4] 0) := ⟨OwnQ.lit wr 0 65535 p3 p4, rfl, fun q hq => by
              have := HB34.out
              simp at hq
              omega, belowAl3 _⟩
            generalize wr = w4 at *
            go_wp2
            go_loopw [13, 14] (fun z13 z14 wr => ∃ (i : Nat) (Q : List Int), z14 = .int .i64 i ∧ i ≤ 4 ∧ i ≤ n2 ∧ Hid (PlI w4 wr z13 Q i)) (fun _ z _ => 4 - (intOf z).toNat)
            case atStart => exact ⟨0, _, rfl, by omega, by omega, I5⟩
            case round =>
              obtain ⟨i, Q, rfl, hi4, hin, HI⟩ := hrel
              clear I5
              by_cases hlt : i < n2 ∧ i < 4
              · have hl1 : (i : Int) < (n2 : Int) := by omega
                have hl2 : (i : Int) < 4 := by omega
                have hiA : i < A.length := by rw [HAL.out]; exact hlt.1
                have AW := HP.out.2.2.2.below (HSU.out.2.trans (HI.out.low.mono HSU.out.2.size))
                obtain ⟨ba, oa, rfl, hca⟩ := AW.2 (by omega)
                have hcx := hca i hiA
                obtain ⟨x, hx⟩ : ∃ x, A[i]'hiA = x := ⟨_, rfl⟩
                rw [hx] at hcx
                obtain ⟨x1, hx1⟩ : ∃ y, IntKind.u64.wrap x = y := ⟨_, rfl⟩
                have hx1b : 0 ≤ x1 := by rw [← hx1, IntKind.wrap_u64]; omega
                obtain ⟨q, hq⟩ : ∃ q, Int.tmod x1 65536 = q := ⟨_, rfl⟩
                have hqb : 0 ≤ q ∧ q ≤ 65535 := by
                  rw [← hq, Int.tmod_eq_emod_of_nonneg hx1b]
                  omega
                have wq : IntKind.u64.wrap q = q := by rw [IntKind.wrap_u64]; omega
                have wq2 : IntKind.u64.wrap (Int.tmod x1 65536) = q := by rw [hq]; exact wq
                have HQB : Hid (0 ≤ q ∧ q ≤ 65535) := hqb
                have HSL : Hid (Q.length ≤ 1000 ∧ w4.heap.size ≤ wr.heap.size) := ⟨by have := HI.out.len; omega, HI.out.low.size⟩
                obtain ⟨ao, al, ac, hv0⟩ := row_shape HI.out.own
                subst hv0
                have hal := (own_cap HI.out.own).1
                subst hal
                clear hca hx AW hqb hx1b wq
                go_wp2_with (at_builtin; refine wpList_appQn wr rfl (.tmp 86) (.tmp 93) rfl w4.heap.size (.slice ao Q.length ac) Q q rfl HI.out.own rfl HSL.out.1 HSL.out.2 ?_; intro v' w6 ho6 hu6; have HI2 : Hid (PlI w4 w6 v' (Q ++ [q]) (i + 1)) := HI.out.put HQB.out.1 HQB.out.2 ho6 hu6; clear ho6 hu6)
                go_roundw
                case rel => exact ⟨i + 1, _, by simp, by omega, by omega, HI2⟩
                case measure => (simp [intOf]; omega)
              · by_cases hxx : i < n2
                · have hl1 : (i : Int) < (n2 : Int) := by omega
                  have hl2 : ¬ (i : Int) < 4 := by omega
                  clear hlt
                  obtain ⟨pa, al, pc, hv0⟩ := row_shape HI.out.own
                  subst hv0
                  have hql := HI.out.len
                  obtain ⟨hal, _, pg, hpa, hpg, hpc⟩ := HI.out.own.cell (by omega)
                  subst hal
                  subst hpa
                  have hlow := HSU.out.2.trans (HI.out.low.mono HSU.out.2.size)
                  have HE : Hid (WgE w wr la n1 L ad n X P sa pg Q) := ⟨hlow, HP.out.1.below hlow, HSU.out.1.below (HI.out.low.mono (Nat.le_refl _)), HP.out.2.1.below hlow, HP.out.2.2.1.below hlow, hpc⟩
                  have HQB : Hid (∀ q ∈ Q, 0 ≤ q ∧ q ≤ 65535) := HI.out.bin
                  obtain ⟨mq, hmq⟩ : ∃ z, Q.length = z := ⟨_, rfl⟩
                  have HQL : Hid (Q.length = mq) := hmq
                  have hmqb : mq ≤ 8 := by omega
                  rw [hmq]
                  clear hql hpc hlow HI hpg hmq HB34 HSU HP
                  generalize wr = w7 at *
                  go_wp2
                  go_loopw [15] (fun z wr => ∃ i : Nat, z = .int .i64 i ∧ i ≤ mq ∧ Hid (Below w7.heap.size w7 wr)) (fun z _ => mq - (intOf z).toNat)
                  case atStart => exact ⟨0, rfl, by omega, Below.refl _ _⟩
                  case round =>
                    obtain ⟨j, rfl, hjm, HB⟩ := hrel
                    by_cases hlt3 : j < mq
                    · have hl3 : (j : Int) < (mq : Int) := by omega
                      have hjQ : j < Q.length := by rw [HQL.out]; exact hlt3
                      obtain ⟨q, hq⟩ : ∃ q, Q[j]'hjQ = q := ⟨_, rfl⟩
                      have HJQ : Hid (∃ h : j < Q.length, Q[j] = q) := ⟨hjQ, hq⟩
                      have HQ1 : Hid (0 ≤ q ∧ q ≤ 65535) := by have := HQB.out _ (List.getElem_mem hjQ); rw [hq] at this; exact this
                      clear hq hjQ
                      have HE8 : Hid (WgE w wr la n1 L ad n X P sa pg Q) := HE.out.below HB.out
                      have HB8 : Hid (Below w7.heap.size w7 wr) := HB
                      clear HB
                      generalize wr = w8 at *
                      go_wp2
                      go_loopw [16] (fun z wr => ∃ k : Nat, z = .int .u64 k ∧ k ≤ 2 ∧ Hid (Below w8.heap.size w8 wr)) (fun z _ => 2 - (intOf z).toNat)
                      case atStart => exact ⟨0, rfl, by omega, Below.refl _ _⟩
                      case round =>
                        obtain ⟨k, rfl, hk2, HB⟩ := hrel
                        by_cases hlt4 : k < 2
                        · have hl4 : (k : Int) < 2 := by omega
                          have HE9 : Hid (WgE w wr la n1 L ad n X P sa pg Q) := HE8.out.below HB.out
                          have hcq : wr.cell? ⟨pg, j, none⟩ = some (.int .u64 q) := by have := HE9.out.plc j HJQ.out.1; rw [HJQ.out.2] at this; exact this
                          obtain ⟨s1, hs1⟩ : ∃ x, q * 281474976710656 = x := ⟨_, rfl⟩
                          obtain ⟨s2, hs2⟩ : ∃ x, (k : Int) * 281474976710655 = x := ⟨_, rfl⟩
                          obtain ⟨M, hM⟩ : ∃ x, s1 + s2 = x := ⟨_, rfl⟩
                          have hqb := HQ1.out
                          have hMb : 0 ≤ M ∧ M < 18446744073709551616 ∧ M / 281474976710656 = q := by omega
                          have ws1 : IntKind.u64.wrap (q * 281474976710656) = s1 := by rw [IntKind.wrap_u64]; omega
                          have ws2 : IntKind.u64.wrap ((k : Int) * 281474976710655) = s2 := by rw [IntKind.wrap_u64]; omega
                          have wM : IntKind.u64.wrap (s1 + s2) = M := by rw [IntKind.wrap_u64]; omega
                          have wj : IntKind.u64.wrap (j : Int) = (j : Int) := by rw [IntKind.wrap_u64]; omega
                          obtain ⟨lb, hlb⟩ : ∃ x, lo + BitVec.ofNat 64 j = x := ⟨_, rfl⟩
                          obtain ⟨tl, htl⟩ : ∃ x, bvI lb = x := ⟨_, rfl⟩
                          have wtl : IntKind.u64.wrap (li + (j : Int)) = tl := by rw [HLI.out, ofInt_add, hlb, htl]
                          have hMM := bvI_of M hMb.1 hMb.2.1
                          obtain ⟨mb, hmb⟩ : ∃ x, BitVec.ofInt 64 M = x := ⟨_, rfl⟩
                          rw [hmb] at hMM
                          obtain ⟨t0, ht0⟩ : ∃ x, unblend mb - blend lb = x := ⟨_, rfl⟩
                          have HM1 : Hid (bvI (mixB t0 lb) / 281474976710656 = q) := by
                            show bvI (mixB t0 lb) / 281474976710656 = q
                            rw [← ht0, mix_named, hMM]
                            exact hMb.2.2
                          obtain ⟨th, hth⟩ : ∃ x, bvI t0 = x := ⟨_, rfl⟩
                          have HTL : Hid (tl = bvI lb ∧ th = bvI t0) := ⟨htl.symm, hth.symm⟩
                          have N1 : Hid (∀ W, Calls Tryd.prog 7 #[.int .u64 M, .int .u64 tl] W fun e w' => e = .returned (.agg #[.int .u64 th, .int .u64 tl]) ∧ Below W.heap.size W w') := fun W => by
                            have := named_any mb lb W
                            rw [ht0, hth, hMM, htl] at this
                            exact this
                          clear hs1 hs2 hM hqb hMb hlb htl hMM hmb ht0 hth
                          obtain ⟨tz, htz⟩ : ∃ z, decide (th = 0 ∧ tl = 0) = z := ⟨_, rfl⟩
                          have HTZ : Hid (decide (th = 0 ∧ tl = 0) = tz) := htz
                          have hqt1 : ∀ W, (binOp .eql 35 (.agg #[.int .u64 th, .int .u64 tl]) (.agg #[.int .u64 0, .int .u64 0])).run Tryd.prog W = .ok (.bool tz) W := fun W => by rw [← htz]; exact run_eqlT3 (eqI_trace 9998 th tl 0 0 W)
                          have hgt := guard_trace
                          clear htz
                          go_upto_region 24 with (go_at_call 7; (with_reducible refine (N1.out _).mono ?_); clear N1; rintro e w9 ⟨rfl, hb9⟩; have H9 : Hid (WgE w w9 la n1 L ad n X P sa pg Q ∧ Below w8.heap.size w8 w9) := ⟨HE9.out.below hb9, HB.out.trans (hb9.mono HB.out.size)⟩; clear hb9 HE9 HB hcq)
                          obtain ⟨wr4, hw4⟩ : ∃ W, w9.alloc (.cells #[.int .u64 th, .int .u64 tl] 35) = W := ⟨_, rfl⟩
                          obtain ⟨b1, hb1⟩ : ∃ y, w9.heap.size = y := ⟨_, rfl⟩
                          have HE4 : Hid (WgE w wr4 la n1 L ad n X P sa pg Q ∧ Below w8.heap.size w8 wr4 ∧ Blk wr4 b1 #[.int .u64 th, .int .u64 tl] 35) := by
                            rw [← hw4, ← hb1]
                            exact ⟨H9.out.1.below (belowAl3 _), H9.out.2.trans ((belowAl3 _).mono H9.out.2.size), Blk.new _ _ _⟩
                          (try rw [hw4])
                          simp only [hb1]
                          clear hw4 hb1 H9
                          have xa : wr4.cell? ⟨b1, 0, none⟩ = some (.int .u64 th) := HE4.out.2.2.cell 0 rfl
                          have xb : wr4.cell? ⟨b1, 1, none⟩ = some (.int .u64 tl) := HE4.out.2.2.cell 1 rfl
                          rcases tz with _ | _
                          · have HZ : Hid (¬ (bvI t0 = 0 ∧ bvI lb = 0)) := by have := of_decide_eq_false HTZ.out; rw [HTL.out.1, HTL.out.2] at this; exact this
                            have RN : Hid (Calls Tryd.prog 8 #[.slice ad n cap, .agg #[.int .u64 th, .int .u64 tl]] wr4 fun e w' => ∃ ad' c' P', e = .returned (.slice ad' n c') ∧ SpsAt w' ad' n (X.map (renS th tl)) P' ∧ Below wr4.heap.size wr4 w') := renamed_any ad n cap X P th tl _ HE4.out.1.sps HOK.out
                            go_upto_region 28 with (first
                              | (go_at_call 8; (with_reducible refine RN.out.mono ?_); clear RN xa xb; rintro e wa ⟨ad', c', P', rfl, hsp, hb⟩; have HEa : Hid (WgE w wa la n1 L ad n X P sa pg Q ∧ Below w8.heap.size w8 wa) := ⟨HE4.out.1.below hb, HE4.out.2.1.trans (hb.mono HE4.out.2.1.size)⟩; rw [HTL.out.1, HTL.out.2] at hsp; have HSP : Hid (SpsAt wa ad' n (X.map (renS (bvI t0) (bvI lb))) P') := hsp; have DD := decideP_any la n1 c1 L ad' n c' (X.map (renS (bvI t0) (bvI lb))) P' wa HEa.out.1.pol HN.out hn1z hsp (fits_ren ⟨bvI_lo t0, bvI_hi t0⟩ ⟨bvI_lo lb, bvI_hi lb⟩ HF.out) (small_ren HS.out) HEa.out.1.tab; clear hsp hb HE4)
                              | (go_at_call 9; (with_reducible refine DD.mono ?_); clear DD; rintro e wb ⟨k1, v1, g1, e1, rfl, hd, hb⟩; have HD1 : Hid (DecR L (X.map (renS (bvI t0) (bvI lb))) k1 v1 g1 e1) := hd; have HEb : Hid (WgE w wb la n1 L ad n X P sa pg Q ∧ Below w8.heap.size w8 wb) := ⟨HEa.out.1.below hb, HEa.out.2.trans (hb.mono HEa.out.2.size)⟩; have D2 : Hid (∀ o, Calls Tryd.prog 9 #[.slice sa (sureL L).length sc, .slice ad' n c'] (wb.alloc o) fun e w' => ∃ (kk : Bool) (qq gg er : Int), e = .returned (.tuple #[.agg #[.bool kk, .int .i64 qq, .int .u64 0, .int .u64 gg], .int .i64 er]) ∧ DecR (sureL L) (X.map (renS (bvI t0) (bvI lb))) kk qq gg er ∧ Below (wb.alloc o).heap.size (wb.alloc o) w') := (fun o => decideP_any sa (sureL L).length sc (sureL L) ad' n c' (X.map (renS (bvI t0) (bvI lb))) P' _ (HEb.out.1.below (belowAl3 o)).sur (sure_names HN.out) (Nat.le_trans (List.length_filter_le _ _) (by rw [HLL.out]; exact hn1z)) ((HSP.out.below hb).below (belowAl3 o)) (fits_ren ⟨bvI_lo t0, bvI_hi t0⟩ ⟨bvI_lo lb, bvI_hi lb⟩ HF.out) (small_ren HS.out) (HEb.out.1.below (belowAl3 o)).tab); clear hd hb HEa)
                              | (go_at_call 9; (with_reducible refine (D2.out _).mono ?_); clear D2; rintro e wd ⟨k2, v2, g2, e2, rfl, hd2, hb2⟩; have HD2 : Hid (DecR (sureL L) (X.map (renS (bvI t0) (bvI lb))) k2 v2 g2 e2) := hd2; have HVd : Hid (Below (wb.alloc (.cells #[.bool k1, .int .i64 v1, .int .u64 0, .int .u64 g1] 41)).heap.size (wb.alloc (.cells #[.bool k1, .int .i64 v1, .int .u64 0, .int .u64 g1] 41)) wd) := hb2; clear hd2 hb2))
                            obtain ⟨we, hwe⟩ : ∃ W, wd.alloc (.cells #[.bool k2, .int .i64 v2, .int .u64 0, .int .u64 g2] 41) = W := ⟨_, rfl⟩
                            obtain ⟨b2, hb2⟩ : ∃ y, wb.heap.size = y := ⟨_, rfl⟩
                            obtain ⟨b3, hb3⟩ : ∃ y, wd.heap.size = y := ⟨_, rfl⟩
                            have HE5 : Hid (WgE w we la n1 L ad n X P sa pg Q ∧ Below w8.heap.size w8 we ∧ Blk we b2 #[.bool k1, .int .i64 v1, .int .u64 0, .int .u64 g1] 41 ∧ Blk we b3 #[.bool k2, .int .i64 v2, .int .u64 0, .int .u64 g2] 41) := by
                              have k1' := Blk.new wb #[.bool k1, .int .i64 v1, .int .u64 0, .int .u64 g1] 41
                              have k2' := k1'.below HVd.out k1'.lt
                              have e8 := (HEb.out.1.below (belowAl3 _)).below HVd.out
                              have hl := HEb.out.2.trans ((belowAl3 (.cells #[.bool k1, .int .i64 v1, .int .u64 0, .int .u64 g1] 41)).mono HEb.out.2.size)
                              have hl2 := hl.trans (HVd.out.mono hl.size)
                              rw [← hwe, ← hb2, ← hb3]
                              exact ⟨e8.below (belowAl3 _), hl2.trans ((belowAl3 _).mono hl2.size), k2'.alloc _, Blk.new _ _ _⟩
                            (try rw [hwe])
                            (try rw [hb2])
                            (try rw [hb3])
                            clear hwe hb2 hb3 HEb HVd
                            have a0 : we.cell? ⟨b2, 0, none⟩ = some (.bool k1) := HE5.out.2.2.1.cell 0 rfl
                            have a1 : we.cell? ⟨b2, 1, none⟩ = some (.int .i64 v1) := HE5.out.2.2.1.cell 1 rfl
                            have a2 : we.cell? ⟨b2, 2, none⟩ = some (.int .u64 0) := HE5.out.2.2.1.cell 2 rfl
                            have a3 : we.cell? ⟨b2, 3, none⟩ = some (.int .u64 g1) := HE5.out.2.2.1.cell 3 rfl
                            have d0 : we.cell? ⟨b3, 0, none⟩ = some (.bool k2) := HE5.out.2.2.2.cell 0 rfl
                            have hcq : we.cell? ⟨pg, j, none⟩ = some (.int .u64 q) := by have := HE5.out.1.plc j HJQ.out.1; rw [HJQ.out.2] at this; exact this
                            have HB5 : Hid (Below w8.heap.size w8 we) := HE5.out.2.1
                            have hXne : X ≠ [] := fun h => by have := HXL.out; rw [h] at this; simp at this; omega
                            have W2 := weigh2 HC0.out hXne HD1.out HD2.out
                            rw [HM1.out, HPM.out.1] at W2
                            have hmb := HPM.out.2
                            clear HE5 HD1 HD2 hXne HM1 HSP
                            rcases W2 with ⟨rfl, rfl⟩ | ⟨rfl, rfl, rfl, rfl, rfl, hv⟩ | ⟨rfl, rfl, rfl, rfl, hqm, rfl, hv⟩ | ⟨rfl, rfl, rfl, rfl, hqm, rfl, rfl⟩
                            · go_wp2
                              go_roundw
                              case rel => exact ⟨k + 1, by simp, by omega, HB5⟩
                              case measure => (simp [intOf]; omega)
                            · have HN2 : Hid (∀ q, Below w8.heap.size w8 (we.drewN q)) := fun q => HB5.out.trans ⟨rfl, rfl, rfl, Nat.le_refl _, fun _ _ => rfl⟩
                              have hv1 : (v1 == -1) = false := by simp; omega
                              clear hv hmb
                              go_upto_region 34 with fail
                              go_quiet (fail)
                              go_wp2
                              go_roundw
                              case rel => exact ⟨k + 1, by simp, by omega, HN2.out _⟩
                              case measure => (simp [intOf]; omega)
                            · have HN2 : Hid (∀ q, Below w8.heap.size w8 (we.drewN q)) := fun q => HB5.out.trans ⟨rfl, rfl, rfl, Nat.le_refl _, fun _ _ => rfl⟩
                              have WP := weight_part (q := m) (by have := HQ1.out; omega) hmb.2
                              obtain ⟨gg, hgg⟩ : ∃ x, 4294967296 / m = x := ⟨_, rfl⟩
                              rw [hgg] at WP a3
                              obtain ⟨r1, hr1⟩ : ∃ x, m * gg = x := ⟨_, rfl⟩
                              obtain ⟨g1, hg1⟩ : ∃ x, gg + 1 = x := ⟨_, rfl⟩
                              obtain ⟨r2, hr2⟩ : ∃ x, m * g1 = x := ⟨_, rfl⟩
                              rw [hg1, hr2, hr1] at WP
                              have hggm : gg ≤ 4294967296 := by rw [← hgg]; exact Int.ediv_le_self m (by omega)
                              have hrr : r2 = r1 + m := by rw [← hr2, ← hr1, ← hg1, Int.mul_add, Int.mul_one]
                              have hr0 : 0 ≤ r1 := by rw [← hr1]; exact Int.mul_nonneg hmb.1 WP.2.2
                              have wr1 : IntKind.u64.wrap (m * gg) = r1 := by rw [IntKind.wrap_u64, hr1]; omega
                              have wg1 : IntKind.u64.wrap (gg + 1) = g1 := by rw [IntKind.wrap_u64]; omega
                              have wr2 : IntKind.u64.wrap (m * g1) = r2 := by rw [IntKind.wrap_u64, hr2]; omega
                              have lr1 : decide ((4294967296 : Int) < r1) = false := decide_eq_false (by omega)
                              have lr2 : decide (r2 ≤ (4294967296 : Int)) = false := decide_eq_false (by omega)
                              have nr1 : ¬ (4294967296 : Int) < r1 := by omega
                              have nr2 : ¬ r2 ≤ (4294967296 : Int) := by omega
                              have hqd : decide (q < m) = true := decide_eq_true hqm
                              clear hv hmb WP hgg hr1 hg1 hr2 hggm hrr hr0
                              go_upto_region 34 with fail
                              go_quiet (fail)
                              go_wp2
                              go_roundw
                              case rel => exact ⟨k + 1, by simp, by omega, HN2.out _⟩
                              case measure => (simp [intOf]; omega)
                            · have HN2 : Hid (∀ q, Below w8.heap.size w8 (we.drewN q)) := fun q => HB5.out.trans ⟨rfl, rfl, rfl, Nat.le_refl _, fun _ _ => rfl⟩
                              have hqd : decide (q < m) = false := decide_eq_false hqm
                              clear hmb
                              go_upto_region 34 with fail
                              go_quiet (fail)
                              go_wp2
                              go_roundw
                              case rel => exact ⟨k + 1, by simp, by omega, HN2.out _⟩
                              case measure => (simp [intOf]; omega)
                          · have HB5 : Hid (Below w8.heap.size w8 wr4) := HE4.out.2.1
                            clear HE4
                            go_wp2
                            go_roundw
                            case rel => exact ⟨k + 1, by simp, by omega, HB5⟩
                            case measure => (simp [intOf]; omega)
                        · have hl4 : ¬ (k : Int) < 2 := by omega
                          have HB9 : Hid (Below w7.heap.size w7 wr) := HB8.out.trans (HB.out.mono HB8.out.size)
                          go_wp2
                          go_roundw
                          case rel => exact ⟨j + 1, by simp, by omega, HB9⟩
                          case measure => (simp [intOf]; omega)
                    · have hl3 : ¬ (j : Int) < (mq : Int) := by omega
                      have HB9 : Hid (Below w.heap.size w wr) := HE.out.low.trans (HB.out.mono HE.out.low.size)
                      go_wp2
                      go_ret
                      exact ⟨rfl, HB9.out⟩
                · have hl1 : ¬ (i : Int) < (n2 : Int) := by omega
                  clear hlt
                  obtain ⟨pa, al, pc, hv0⟩ := row_shape HI.out.own
                  subst hv0
                  have hql := HI.out.len
                  obtain ⟨hal, _, pg, hpa, hpg, hpc⟩ := HI.out.own.cell (by omega)
                  subst hal
                  subst hpa
                  have hlow := HSU.out.2.trans (HI.out.low.mono HSU.out.2.size)
                  have HE : Hid (WgE w wr la n1 L ad n X P sa pg Q) := ⟨hlow, HP.out.1.below hlow, HSU.out.1.below (HI.out.low.mono (Nat.le_refl _)), HP.out.2.1.below hlow, HP.out.2.2.1.below hlow, hpc⟩
                  have HQB : Hid (∀ q ∈ Q, 0 ≤ q ∧ q ≤ 65535) := HI.out.bin
                  obtain ⟨mq, hmq⟩ : ∃ z, Q.length = z := ⟨_, rfl⟩
                  have HQL : Hid (Q.length = mq) := hmq
                  have hmqb : mq ≤ 8 := by omega
                  rw [hmq]
                  clear hql hpc hlow HI hpg hmq HB34 HSU HP
                  generalize wr = w7 at *
                  go_wp2
                  go_loopw [15] (fun z wr => ∃ i : Nat, z = .int .i64 i ∧ i ≤ mq ∧ Hid (Below w7.heap.size w7 wr)) (fun z _ => mq - (intOf z).toNat)
                  case atStart => exact ⟨0, rfl, by omega, Below.refl _ _⟩
                  case round =>
                    obtain ⟨j, rfl, hjm, HB⟩ := hrel
                    by_cases hlt3 : j < mq
                    · have hl3 : (j : Int) < (mq : Int) := by omega
                      have hjQ : j < Q.length := by rw [HQL.out]; exact hlt3
                      obtain ⟨q, hq⟩ : ∃ q, Q[j]'hjQ = q := ⟨_, rfl⟩
                      have HJQ : Hid (∃ h : j < Q.length, Q[j] = q) := ⟨hjQ, hq⟩
                      have HQ1 : Hid (0 ≤ q ∧ q ≤ 65535) := by have := HQB.out _ (List.getElem_mem hjQ); rw [hq] at this; exact this
                      clear hq hjQ
                      have HE8 : Hid (WgE w wr la n1 L ad n X P sa pg Q) := HE.out.below HB.out
                      have HB8 : Hid (Below w7.heap.size w7 wr) := HB
                      clear HB
                      generalize wr = w8 at *
                      go_wp2
                      go_loopw [16] (fun z wr => ∃ k : Nat, z = .int .u64 k ∧ k ≤ 2 ∧ Hid (Below w8.heap.size w8 wr)) (fun z _ => 2 - (intOf z).toNat)
                      case atStart => exact ⟨0, rfl, by omega, Below.refl _ _⟩
                      case round =>
                        obtain ⟨k, rfl, hk2, HB⟩ := hrel
                        by_cases hlt4 : k < 2
                        · have hl4 : (k : Int) < 2 := by omega
                          have HE9 : Hid (WgE w wr la n1 L ad n X P sa pg Q) := HE8.out.below HB.out
                          have hcq : wr.cell? ⟨pg, j, none⟩ = some (.int .u64 q) := by have := HE9.out.plc j HJQ.out.1; rw [HJQ.out.2] at this; exact this
                          obtain ⟨s1, hs1⟩ : ∃ x, q * 281474976710656 = x := ⟨_, rfl⟩
                          obtain ⟨s2, hs2⟩ : ∃ x, (k : Int) * 281474976710655 = x := ⟨_, rfl⟩
                          obtain ⟨M, hM⟩ : ∃ x, s1 + s2 = x := ⟨_, rfl⟩
                          have hqb := HQ1.out
                          have hMb : 0 ≤ M ∧ M < 18446744073709551616 ∧ M / 281474976710656 = q := by omega
                          have ws1 : IntKind.u64.wrap (q * 281474976710656) = s1 := by rw [IntKind.wrap_u64]; omega
                          have ws2 : IntKind.u64.wrap ((k : Int) * 281474976710655) = s2 := by rw [IntKind.wrap_u64]; omega
                          have wM : IntKind.u64.wrap (s1 + s2) = M := by rw [IntKind.wrap_u64]; omega
                          have wj : IntKind.u64.wrap (j : Int) = (j : Int) := by rw [IntKind.wrap_u64]; omega
                          obtain ⟨lb, hlb⟩ : ∃ x, lo + BitVec.ofNat 64 j = x := ⟨_, rfl⟩
                          obtain ⟨tl, htl⟩ : ∃ x, bvI lb = x := ⟨_, rfl⟩
                          have wtl : IntKind.u64.wrap (li + (j : Int)) = tl := by rw [HLI.out, ofInt_add, hlb, htl]
                          have hMM := bvI_of M hMb.1 hMb.2.1
                          obtain ⟨mb, hmb⟩ : ∃ x, BitVec.ofInt 64 M = x := ⟨_, rfl⟩
                          rw [hmb] at hMM
                          obtain ⟨t0, ht0⟩ : ∃ x, unblend mb - blend lb = x := ⟨_, rfl⟩
                          have HM1 : Hid (bvI (mixB t0 lb) / 281474976710656 = q) := by
                            show bvI (mixB t0 lb) / 281474976710656 = q
                            rw [← ht0, mix_named, hMM]
                            exact hMb.2.2
                          obtain ⟨th, hth⟩ : ∃ x, bvI t0 = x := ⟨_, rfl⟩
                          have HTL : Hid (tl = bvI lb ∧ th = bvI t0) := ⟨htl.symm, hth.symm⟩
                          have N1 : Hid (∀ W, Calls Tryd.prog 7 #[.int .u64 M, .int .u64 tl] W fun e w' => e = .returned (.agg #[.int .u64 th, .int .u64 tl]) ∧ Below W.heap.size W w') := fun W => by
                            have := named_any mb lb W
                            rw [ht0, hth, hMM, htl] at this
                            exact this
                          clear hs1 hs2 hM hqb hMb hlb htl hMM hmb ht0 hth
                          obtain ⟨tz, htz⟩ : ∃ z, decide (th = 0 ∧ tl = 0) = z := ⟨_, rfl⟩
                          have HTZ : Hid (decide (th = 0 ∧ tl = 0) = tz) := htz
                          have hqt1 : ∀ W, (binOp .eql 35 (.agg #[.int .u64 th, .int .u64 tl]) (.agg #[.int .u64 0, .int .u64 0])).run Tryd.prog W = .ok (.bool tz) W := fun W => by rw [← htz]; exact run_eqlT3 (eqI_trace 9998 th tl 0 0 W)
                          have hgt := guard_trace
                          clear htz
                          go_upto_region 24 with (go_at_call 7; (with_reducible refine (N1.out _).mono ?_); clear N1; rintro e w9 ⟨rfl, hb9⟩; have H9 : Hid (WgE w w9 la n1 L ad n X P sa pg Q ∧ Below w8.heap.size w8 w9) := ⟨HE9.out.below hb9, HB.out.trans (hb9.mono HB.out.size)⟩; clear hb9 HE9 HB hcq)
                          obtain ⟨wr4, hw4⟩ : ∃ W, w9.alloc (.cells #[.int .u64 th, .int .u64 tl] 35) = W := ⟨_, rfl⟩
                          obtain ⟨b1, hb1⟩ : ∃ y, w9.heap.size = y := ⟨_, rfl⟩
                          have HE4 : Hid (WgE w wr4 la n1 L ad n X P sa pg Q ∧ Below w8.heap.size w8 wr4 ∧ Blk wr4 b1 #[.int .u64 th, .int .u64 tl] 35) := by
                            rw [← hw4, ← hb1]
                            exact ⟨H9.out.1.below (belowAl3 _), H9.out.2.trans ((belowAl3 _).mono H9.out.2.size), Blk.new _ _ _⟩
                          (try rw [hw4])
                          simp only [hb1]
                          clear hw4 hb1 H9
                          have xa : wr4.cell? ⟨b1, 0, none⟩ = some (.int .u64 th) := HE4.out.2.2.cell 0 rfl
                          have xb : wr4.cell? ⟨b1, 1, none⟩ = some (.int .u64 tl) := HE4.out.2.2.cell 1 rfl
                          rcases tz with _ | _
                          · have HZ : Hid (¬ (bvI t0 = 0 ∧ bvI lb = 0)) := by have := of_decide_eq_false HTZ.out; rw [HTL.out.1, HTL.out.2] at this; exact this
                            have RN : Hid (Calls Tryd.prog 8 #[.slice ad n cap, .agg #[.int .u64 th, .int .u64 tl]] wr4 fun e w' => ∃ ad' c' P', e = .returned (.slice ad' n c') ∧ SpsAt w' ad' n (X.map (renS th tl)) P' ∧ Below wr4.heap.size wr4 w') := renamed_any ad n cap X P th tl _ HE4.out.1.sps HOK.out
                            go_upto_region 28 with (first
                              | (go_at_call 8; (with_reducible refine RN.out.mono ?_); clear RN xa xb; rintro e wa ⟨ad', c', P', rfl, hsp, hb⟩; have HEa : Hid (WgE w wa la n1 L ad n X P sa pg Q ∧ Below w8.heap.size w8 wa) := ⟨HE4.out.1.below hb, HE4.out.2.1.trans (hb.mono HE4.out.2.1.size)⟩; rw [HTL.out.1, HTL.out.2] at hsp; have HSP : Hid (SpsAt wa ad' n (X.map (renS (bvI t0) (bvI lb))) P') := hsp; have DD := decideP_any la n1 c1 L ad' n c' (X.map (renS (bvI t0) (bvI lb))) P' wa HEa.out.1.pol HN.out hn1z hsp (fits_ren ⟨bvI_lo t0, bvI_hi t0⟩ ⟨bvI_lo lb, bvI_hi lb⟩ HF.out) (small_ren HS.out) HEa.out.1.tab; clear hsp hb HE4)
                              | (go_at_call 9; (with_reducible refine DD.mono ?_); clear DD; rintro e wb ⟨k1, v1, g1, e1, rfl, hd, hb⟩; have HD1 : Hid (DecR L (X.map (renS (bvI t0) (bvI lb))) k1 v1 g1 e1) := hd; have HEb : Hid (WgE w wb la n1 L ad n X P sa pg Q ∧ Below w8.heap.size w8 wb) := ⟨HEa.out.1.below hb, HEa.out.2.trans (hb.mono HEa.out.2.size)⟩; have D2 : Hid (∀ o, Calls Tryd.prog 9 #[.slice sa (sureL L).length sc, .slice ad' n c'] (wb.alloc o) fun e w' => ∃ (kk : Bool) (qq gg er : Int), e = .returned (.tuple #[.agg #[.bool kk, .int .i64 qq, .int .u64 0, .int .u64 gg], .int .i64 er]) ∧ DecR (sureL L) (X.map (renS (bvI t0) (bvI lb))) kk qq gg er ∧ Below (wb.alloc o).heap.size (wb.alloc o) w') := (fun o => decideP_any sa (sureL L).length sc (sureL L) ad' n c' (X.map (renS (bvI t0) (bvI lb))) P' _ (HEb.out.1.below (belowAl3 o)).sur (sure_names HN.out) (Nat.le_trans (List.length_filter_le _ _) (by rw [HLL.out]; exact hn1z)) ((HSP.out.below hb).below (belowAl3 o)) (fits_ren ⟨bvI_lo t0, bvI_hi t0⟩ ⟨bvI_lo lb, bvI_hi lb⟩ HF.out) (small_ren HS.out) (HEb.out.1.below (belowAl3 o)).tab); clear hd hb HEa)
                              | (go_at_call 9; (with_reducible refine (D2.out _).mono ?_); clear D2; rintro e wd ⟨k2, v2, g2, e2, rfl, hd2, hb2⟩; have HD2 : Hid (DecR (sureL L) (X.map (renS (bvI t0) (bvI lb))) k2 v2 g2 e2) := hd2; have HVd : Hid (Below (wb.alloc (.cells #[.bool k1, .int .i64 v1, .int .u64 0, .int .u64 g1] 41)).heap.size (wb.alloc (.cells #[.bool k1, .int .i64 v1, .int .u64 0, .int .u64 g1] 41)) wd) := hb2; clear hd2 hb2))
                            obtain ⟨we, hwe⟩ : ∃ W, wd.alloc (.cells #[.bool k2, .int .i64 v2, .int .u64 0, .int .u64 g2] 41) = W := ⟨_, rfl⟩
                            obtain ⟨b2, hb2⟩ : ∃ y, wb.heap.size = y := ⟨_, rfl⟩
                            obtain ⟨b3, hb3⟩ : ∃ y, wd.heap.size = y := ⟨_, rfl⟩
                            have HE5 : Hid (WgE w we la n1 L ad n X P sa pg Q ∧ Below w8.heap.size w8 we ∧ Blk we b2 #[.bool k1, .int .i64 v1, .int .u64 0, .int .u64 g1] 41 ∧ Blk we b3 #[.bool k2, .int .i64 v2, .int .u64 0, .int .u64 g2] 41) := by
                              have k1' := Blk.new wb #[.bool k1, .int .i64 v1, .int .u64 0, .int .u64 g1] 41
                              have k2' := k1'.below HVd.out k1'.lt
                              have e8 := (HEb.out.1.below (belowAl3 _)).below HVd.out
                              have hl := HEb.out.2.trans ((belowAl3 (.cells #[.bool k1, .int .i64 v1, .int .u64 0, .int .u64 g1] 41)).mono HEb.out.2.size)
                              have hl2 := hl.trans (HVd.out.mono hl.size)
                              rw [← hwe, ← hb2, ← hb3]
                              exact ⟨e8.below (belowAl3 _), hl2.trans ((belowAl3 _).mono hl2.size), k2'.alloc _, Blk.new _ _ _⟩
                            (try rw [hwe])
                            (try rw [hb2])
                            (try rw [hb3])
                            clear hwe hb2 hb3 HEb HVd
                            have a0 : we.cell? ⟨b2, 0, none⟩ = some (.bool k1) := HE5.out.2.2.1.cell 0 rfl
                            have a1 : we.cell? ⟨b2, 1, none⟩ = some (.int .i64 v1) := HE5.out.2.2.1.cell 1 rfl
                            have a2 : we.cell? ⟨b2, 2, none⟩ = some (.int .u64 0) := HE5.out.2.2.1.cell 2 rfl
                            have a3 : we.cell? ⟨b2, 3, none⟩ = some (.int .u64 g1) := HE5.out.2.2.1.cell 3 rfl
                            have d0 : we.cell? ⟨b3, 0, none⟩ = some (.bool k2) := HE5.out.2.2.2.cell 0 rfl
                            have hcq : we.cell? ⟨pg, j, none⟩ = some (.int .u64 q) := by have := HE5.out.1.plc j HJQ.out.1; rw [HJQ.out.2] at this; exact this
                            have HB5 : Hid (Below w8.heap.size w8 we) := HE5.out.2.1
                            have hXne : X ≠ [] := fun h => by have := HXL.out; rw [h] at this; simp at this; omega
                            have W2 := weigh2 HC0.out hXne HD1.out HD2.out
                            rw [HM1.out, HPM.out.1] at W2
                            have hmb := HPM.out.2
                            clear HE5 HD1 HD2 hXne HM1 HSP
                            rcases W2 with ⟨rfl, rfl⟩ | ⟨rfl, rfl, rfl, rfl, rfl, hv⟩ | ⟨rfl, rfl, rfl, rfl, hqm, rfl, hv⟩ | ⟨rfl, rfl, rfl, rfl, hqm, rfl, rfl⟩
                            · go_wp2
                              go_roundw
                              case rel => exact ⟨k + 1, by simp, by omega, HB5⟩
                              case measure => (simp [intOf]; omega)
                            · have HN2 : Hid (∀ q, Below w8.heap.size w8 (we.drewN q)) := fun q => HB5.out.trans ⟨rfl, rfl, rfl, Nat.le_refl _, fun _ _ => rfl⟩
                              have hv1 : (v1 == -1) = false := by simp; omega
                              clear hv hmb
                              go_upto_region 34 with fail
                              go_quiet (fail)
                              go_wp2
                              go_roundw
                              case rel => exact ⟨k + 1, by simp, by omega, HN2.out _⟩
                              case measure => (simp [intOf]; omega)
                            · have HN2 : Hid (∀ q, Below w8.heap.size w8 (we.drewN q)) := fun q => HB5.out.trans ⟨rfl, rfl, rfl, Nat.le_refl _, fun _ _ => rfl⟩
                              have WP := weight_part (q := m) (by have := HQ1.out; omega) hmb.2
                              obtain ⟨gg, hgg⟩ : ∃ x, 4294967296 / m = x := ⟨_, rfl⟩
                              rw [hgg] at WP a3
                              obtain ⟨r1, hr1⟩ : ∃ x, m * gg = x := ⟨_, rfl⟩
                              obtain ⟨g1, hg1⟩ : ∃ x, gg + 1 = x := ⟨_, rfl⟩
                              obtain ⟨r2, hr2⟩ : ∃ x, m * g1 = x := ⟨_, rfl⟩
                              rw [hg1, hr2, hr1] at WP
                              have hggm : gg ≤ 4294967296 := by rw [← hgg]; exact Int.ediv_le_self m (by omega)
                              have hrr : r2 = r1 + m := by rw [← hr2, ← hr1, ← hg1, Int.mul_add, Int.mul_one]
                              have hr0 : 0 ≤ r1 := by rw [← hr1]; exact Int.mul_nonneg hmb.1 WP.2.2
                              have wr1 : IntKind.u64.wrap (m * gg) = r1 := by rw [IntKind.wrap_u64, hr1]; omega
                              have wg1 : IntKind.u64.wrap (gg + 1) = g1 := by rw [IntKind.wrap_u64]; omega
                              have wr2 : IntKind.u64.wrap (m * g1) = r2 := by rw [IntKind.wrap_u64, hr2]; omega
                              have lr1 : decide ((4294967296 : Int) < r1) = false := decide_eq_false (by omega)
                              have lr2 : decide (r2 ≤ (4294967296 : Int)) = false := decide_eq_false (by omega)
                              have nr1 : ¬ (4294967296 : Int) < r1 := by omega
                              have nr2 : ¬ r2 ≤ (4294967296 : Int) := by omega
                              have hqd : decide (q < m) = true := decide_eq_true hqm
                              clear hv hmb WP hgg hr1 hg1 hr2 hggm hrr hr0
                              go_upto_region 34 with fail
                              go_quiet (fail)
                              go_wp2
                              go_roundw
                              case rel => exact ⟨k + 1, by simp, by omega, HN2.out _⟩
                              case measure => (simp [intOf]; omega)
                            · have HN2 : Hid (∀ q, Below w8.heap.size w8 (we.drewN q)) := fun q => HB5.out.trans ⟨rfl, rfl, rfl, Nat.le_refl _, fun _ _ => rfl⟩
                              have hqd : decide (q < m) = false := decide_eq_false hqm
                              clear hmb
                              go_upto_region 34 with fail
                              go_quiet (fail)
                              go_wp2
                              go_roundw
                              case rel => exact ⟨k + 1, by simp, by omega, HN2.out _⟩
                              case measure => (simp [intOf]; omega)
                          · have HB5 : Hid (Below w8.heap.size w8 wr4) := HE4.out.2.1
                            clear HE4
                            go_wp2
                            go_roundw
                            case rel => exact ⟨k + 1, by simp, by omega, HB5⟩
                            case measure => (simp [intOf]; omega)
                        · have hl4 : ¬ (k : Int) < 2 := by omega
                          have HB9 : Hid (Below w7.heap.size w7 wr) := HB8.out.trans (HB.out.mono HB8.out.size)
                          go_wp2
                          go_roundw
                          case rel => exact ⟨j + 1, by simp, by omega, HB9⟩
                          case measure => (simp [intOf]; omega)
                    · have hl3 : ¬ (j : Int) < (mq : Int) := by omega
                      have HB9 : Hid (Below w.heap.size w wr) := HE.out.low.trans (HB.out.mono HE.out.low.size)
                      go_wp2
                      go_ret
                      exact ⟨rfl, HB9.out⟩
  · go_wp2_with (first
      | (go_at_call 4; (with_reducible refine AL.mono ?_); clear AL; rintro e w1 ⟨rfl, hb1⟩; have H1 : Hid (Below w.heap.size w w1) := hb1; have CK := checkP_any la n1 c1 L w1 (HP.out.1.below hb1) HN.out hn1z (HP.out.2.2.1.below hb1); rw [hc0] at CK; clear hb1)
      | (go_at_call 5; (with_reducible refine CK.mono ?_); clear CK; rintro e w2 ⟨rfl, hb2⟩; have H2 : Hid (Below w.heap.size w w2) := H1.out.trans (hb2.mono H1.out.size); clear hb2))
    go_ret
    exact ⟨rfl, H2.out⟩
end Go.Proofs.YtfgmjgoegdiieaaDoor
