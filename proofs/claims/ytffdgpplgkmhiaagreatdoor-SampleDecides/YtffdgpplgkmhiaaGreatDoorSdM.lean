/-
  SdM.
-/
import Derived.Test.YtffdgpplgkmhiaaGreatDoorSdL
import Derived.Test.YtffdgpplgkmhiaaGreatDoorSdF
import Derived.Test.YtffdgpplgkmhiaaGreatDoorSaK
import Derived.Test.YtffdgpplgkmhiaaGreatDoorSV
namespace Go.Proofs.YtffdgpplgkmhiaaGreatDoor
open Go Go.RowKit
set_option maxRecDepth 100000

abbrev spareS : Sp := ⟨0, 0, 0, 0, [], ⟨#[115, 112, 97, 114, 101]⟩, ⟨#[]⟩, 0, 0, 0, 0, [], []⟩
theorem spareS_at (w : World) : SpAt w spareS plQ :=
  ⟨⟨rfl, fun j u hj => by simp [intsV] at hj⟩, ⟨rfl, fun h => by cases h⟩, ⟨rfl, fun h => by cases h⟩, by simp, by simp, by simp⟩
theorem spareS_kept (w : World) (v : Value) : KeptSp w v (spareS, plQ) := ⟨0, 0, Nat.zero_le _, fun g _ h => by omega, fun w5 _ => spareS_at w5⟩
theorem overR2 (r : Nat) : (decide ((2147483647 : Int) < (r : Int)) = true ∧ decide (2147483647 < r) = true ∧ True) ∨ (decide ((2147483647 : Int) < (r : Int)) = false ∧ decide (2147483647 < r) = false ∧ r ≤ 2147483647) := by
  by_cases h : 2147483647 < r
  · exact Or.inl ⟨decide_eq_true (by omega), decide_eq_true h, trivial⟩
  · exact Or.inr ⟨decide_eq_false (by omega), decide_eq_false h, by omega⟩
/-- Where a round of the copying stands. -/
structure CopI (w1 wr : World) (X : List Sp) (v : Value) (k : Nat) (L : List Sq) : Prop where
  own : OwnSq w1.heap.size wr v L
  same : L.map (·.1) = X.take k
  low : Below w1.heap.size w1 wr
theorem CopI.len {w1 wr : World} {X : List Sp} {v : Value} {k : Nat} {L : List Sq} (h : CopI w1 wr X v k L) (hk : k ≤ X.length) : L.length = k := by
  have := congrArg List.length h.same
  simp at this
  omega
theorem cop_kept {w1 wr w2 : World} {X : List Sp} {v : Value} {k : Nat} {L : List Sq} {a : Sp} {p' : Pl} (HI : CopI w1 wr X v k L) (hst : ∀ w5 : World, (∀ j, wr.heap.size ≤ j → j < w2.heap.size → w5.heap[j]? = w2.heap[j]?) → SpAt w5 a p') (hb : Below wr.heap.size wr w2) : OwnSq w1.heap.size w2 v L ∧ KeptSp w2 v (a, p') :=
  ⟨HI.own.below hb, wr.heap.size, w2.heap.size, Nat.le_refl _, fun g hg hl => by have := (HI.own.block hg).2; omega, hst⟩
theorem CopI.next {w1 wr w2 w4 : World} {X : List Sp} {v v' : Value} {k : Nat} {L : List Sq} {a : Sp} {p' : Pl} (HI : CopI w1 wr X v k L) (hk : k < X.length) (ha : X[k] = a) (hb : Below wr.heap.size wr w2) (ho : OwnSq w1.heap.size w4 v' (L ++ [((a, p') : Sq)])) (hu : Upd (fun q => v.ownBlock = some q) w2 w4) : CopI w1 w4 X v' (k + 1) (L ++ [((a, p') : Sq)]) := by
  have hs := HI.low.size
  have hs2 := hb.size
  refine ⟨ho, ?_, (HI.low.trans (hb.mono hs)).trans (hu.below (by omega) (fun j hj e => by have := (HI.own.block e).1; omega))⟩
  rw [List.map_append, HI.same, List.take_succ_eq_append_getElem hk, ha]
  rfl
/-- A list of spans without what stands behind it. -/
theorem SpsAt.front {w : World} {g m : Nat} {X : List Sp} {c : Sp} {P : Nat → Pl} (h : SpsAt w (some ⟨g, 0, none⟩) m (X ++ [c]) P) : SpsAt w (some ⟨g, 0, none⟩) X.length X P := by
  refine ⟨rfl, fun hp => ?_, fun i hi => ?_⟩
  · obtain ⟨b, o, e, hc⟩ := h.lies (by have := h.len; simp at this; omega)
    refine ⟨b, o, e, fun i hi j u hu => hc i (by simp; omega) j u ?_⟩
    rw [List.getElem_append_left hi]
    exact hu
  · have := h.each i (by simp; omega)
    rwa [List.getElem_append_left hi] at this
theorem run_neqP2 (p : Pol) (W : World) : (binOp .neq 46 (.agg #[.int .i64 p.kind, .int .u64 p.nanos, .string p.name, .int .i64 p.part]) (.agg #[.int .i64 p.kind, .int .u64 p.nanos, .string p.name, .int .i64 p.part])).run Tryz.prog W = .ok (.bool false) W := by
  have h := run_neqT (eqI_pol 9998 p.kind p.nanos p.part p.kind p.nanos p.part p.name p.name W)
  simpa using h
theorem run_eqlT2 {T : TypeId} {xs ys : Array Value} {b : Bool} {W : World} (h : (Op.equalIn 10000 T (.agg xs) (.agg ys)).run Tryz.prog W = .ok b W) : (binOp .eql T (.agg xs) (.agg ys)).run Tryz.prog W = .ok (.bool b) W := by
  rw [run_eql_struct, h]; rfl
theorem belowAl2 {W : World} (o : Obj) : Below W.heap.size W (W.alloc o) := (Below.refl _ _).alloc (Nat.le_refl _) _
/-- What stays behind the copying. -/
structure DcE (w W : World) (la : Option Addr) (n1 : Nat) (L : List Pol) (ad : Option Addr) (n : Nat) (X : List Sp) (P : Nat → Pl) (pa : Option Addr) (g : Nat) (P6 : Nat → Pl) : Prop where
  low : Below w.heap.size w W
  own : PolAt W pa L.length L
  pol : PolAt W la n1 L
  sps : SpsAt W ad n X P
  by_ : SpsAt W (some ⟨g, 0, none⟩) (n + 1) (X ++ [spareS]) P6
  tab : Tabs W
theorem DcE.below {w W W' : World} {la : Option Addr} {n1 : Nat} {L : List Pol} {ad : Option Addr} {n : Nat} {X : List Sp} {P : Nat → Pl} {pa : Option Addr} {g : Nat} {P6 : Nat → Pl} (h : DcE w W la n1 L ad n X P pa g P6) (hb : Below W.heap.size W W') : DcE w W' la n1 L ad n X P pa g P6 :=
  ⟨h.low.trans (hb.mono h.low.size), h.own.below hb, h.pol.below hb, h.sps.below hb, h.by_.below hb, h.tab.below hb⟩
set_option maxHeartbeats 4000000 in
theorem sampleDecides_any (la : Option Addr) (n1 c1 : Nat) (L : List Pol) (ad : Option Addr) (n cap : Nat) (X : List Sp) (P : Nat → Pl) (w : World) (hL : PolAt w la n1 L) (hs : ∀ p ∈ L, p.name.size ≤ 140737488355328) (hz : n1 * 40 ≤ 140737488351232) (hX : SpsAt w ad n X P) (hF : ∀ a ∈ X, a.Fits) (hS : ∀ a ∈ X, a.Small) (hn : n ≤ 140737488355328) (hT : Tabs w) :
    Calls Tryz.prog 3 #[.slice la n1 c1, .slice ad n cap] w fun e w' => e = .returned (.bool true) ∧ Below w.heap.size w w' := by
  have HF : Hid (∀ a ∈ X, a.Fits) := hF
  have HS : Hid (∀ a ∈ X, a.Small) := hS
  have HN : Hid (∀ p ∈ L, p.name.size ≤ 140737488355328) := hs
  have HXL : Hid (X.length = n) := hX.len
  have HLL : Hid (L.length = n1) := hL.1
  have HP : Hid (PolAt w la n1 L ∧ SpsAt w ad n X P ∧ Tabs w) := ⟨hL, hX, hT⟩
  have AL := aliveP_any w hT
  clear hL hX hF hS hs hT
  go_enter Tryz.func3, Tryz.ntmps3
  go_upto_region 4 with (first
    | (go_at_call 4; (with_reducible refine AL.mono ?_); clear AL; rintro e w1 ⟨rfl, hb1⟩; have H1 : Hid (Below w.heap.size w w1) := hb1; have WT := lawWeight_any ad n cap X P w1 (HP.out.2.1.below hb1) hn; clear hb1)
    | (go_at_call 5; (with_reducible refine WT.mono ?_); clear WT; rintro e w2 ⟨r, rfl, hr, hb2⟩; have HR : Hid (r ≤ 2147483647 → WeightOk X) := hr; have H2 : Hid (Below w.heap.size w w2) := H1.out.trans (hb2.mono H1.out.size); clear hr hb2 H1; rcases overR2 r with ⟨hrd, hrn, hrk⟩ | ⟨hrd, hrn, hrk⟩))
  · (try go_wp2)
    go_ret
    exact ⟨rfl, H2.out⟩
  · have HOK : Hid (WeightOk X) := HR.out hrk
    have hnb : n ≤ 2147483647 := by rw [← HXL.out]; exact HOK.out.1
    clear HR hrd hrn hrk
    have hp2 := HP.out.1.below H2.out
    go_upto_region 6 with (at_builtin; refine wpList_appN w2 rfl (.tmp 20) (.tmp 21) rfl la n1 c1 L rfl rfl hp2 hz ?_; intro v3 w3 o3 b3; have HO3 : Hid (OwnPol w2.heap.size w3 v3 L) := o3; have H3 : Hid (Below w.heap.size w w3) := H2.out.trans (b3.mono H2.out.size); clear o3 b3 hp2)
    obtain ⟨pa, pl, pc, rfl⟩ := row_shape HO3.out
    obtain ⟨hpl, hpc, _⟩ := own_cap HO3.out
    subst hpl
    have HPA : Hid (PolAt w3 pa L.length L) := OwnPol.at HO3.out
    clear HO3
    have I0 : Hid (CopI w3 w3 X (.slice none 0 0) 0 []) := ⟨OwnSq.nil _ _, rfl, Below.refl _ _⟩
    go_wp2
    go_loopw [7, 8] (fun z7 z8 wr => ∃ (k : Nat) (K : List Sq), z8 = .int .i64 k ∧ k ≤ n ∧ Hid (CopI w3 wr X z7 k K)) (fun _ z _ => n - (intOf z).toNat)
    case atStart => exact ⟨0, [], rfl, by omega, I0⟩
    case round =>
      obtain ⟨k, K, rfl, hkn, HI⟩ := hrel
      clear I0
      by_cases hlt : k < n
      · obtain ⟨av, cv, hv0, _, _⟩ := HI.out.own.sps
        subst hv0
        have hltd : (k : Int) < (n : Int) := by omega
        have hkX : k < X.length := by rw [HXL.out]; exact hlt
        have hlow := H3.out.trans (HI.out.low.mono H3.out.size)
        have SX := HP.out.2.1.below hlow
        obtain ⟨b1, o1, rfl, _⟩ := SX.lies (by omega)
        have RG := SX.range k hkX
        have HAT := SX.each k hkX
        have hwa := HOK.out.2 _ (List.getElem_mem hkX)
        have hLk := HI.out.len (by omega)
        obtain ⟨a, ha⟩ : ∃ a, X[k]'hkX = a := ⟨_, rfl⟩
        obtain ⟨p, hp⟩ : ∃ p, P k = p := ⟨_, rfl⟩
        rw [ha, hp] at RG HAT
        rw [ha] at hwa
        have CL := rCloneL_any a p wr HAT hwa.1 hwa.2.1 hwa.2.2
        unfold spV spC at CL
        have HRG : Hid (wr.rangeAt b1 (o1 + k * 13) [.int .u64 a.hi, .int .u64 a.lo, .int .u64 a.id, .int .u64 a.par, .slice p.la a.links.length p.lc, .string a.svc, .string a.op, .int .i64 a.kind, .int .i64 a.status, .int .i64 a.start, .int .i64 a.fin, .slice p.aa a.attrs.length p.ac, .slice p.ea a.events.length p.ec]) := RG
        have HA : Hid (∃ h : k < X.length, X[k] = a) := ⟨hkX, ha⟩
        have HLB : Hid (K.length ≤ 2147483647) := by show K.length ≤ 2147483647; rw [hLk]; omega
        clear ha hp SX HAT hwa hLk RG hlow
        go_wp2_with (first
          | (refine wpList_load_mid rfl 36 _ rfl b1 (o1 + k * 13) rfl [.int .u64 a.hi, .int .u64 a.lo, .int .u64 a.id, .int .u64 a.par, .slice p.la a.links.length p.lc, .string a.svc, .string a.op, .int .i64 a.kind, .int .i64 a.status, .int .i64 a.start, .int .i64 a.fin, .slice p.aa a.attrs.length p.ac, .slice p.ea a.events.length p.ec] _ HRG.out Tryz.underlying36 rfl (by kernel_rfl) ?_)
          | (go_at_call 6; (with_reducible refine CL.mono ?_); clear CL; rintro e w5 ⟨p', rfl, hst, hb5⟩; have HK5 : Hid (OwnSq w3.heap.size w5 (.slice av K.length cv) K ∧ KeptSp w5 (.slice av K.length cv) (a, p')) := cop_kept HI.out hst hb5; have HB5 : Hid (Below wr.heap.size wr w5) := hb5; have HZ5 : Hid (w3.heap.size ≤ w5.heap.size) := Nat.le_trans HI.out.low.size hb5.size; clear hst hb5)
          | (at_builtin; refine wpList_appS w5 rfl (.tmp 29) (.tmp 35) rfl w3.heap.size (.slice av K.length cv) K (a, p') _ rfl w5.heap.size rfl rfl HK5.out.1 HK5.out.2 rfl HLB.out HZ5.out ?_; intro v' w6 ho6 hu6; have HI6 : Hid (CopI w3 w6 X v' (k + 1) (K ++ [((a, p') : Sq)])) := HI.out.next HA.out.1 HA.out.2 HB5.out ho6 hu6; clear ho6 hu6))
        go_roundw
        case rel => exact ⟨k + 1, _, by simp, by omega, HI6⟩
        case measure => (simp [intOf]; omega)
      · obtain rfl : k = n := by omega
        have hKk := HI.out.len (by rw [HXL.out]; exact Nat.le_refl _)
        have hsm := HI.out.same
        rw [List.take_of_length_le (by rw [HXL.out]; exact Nat.le_refl _)] at hsm
        obtain ⟨av, cv, hv0, _, _⟩ := HI.out.own.sps
        subst hv0
        have HW : Hid (OwnSq w3.heap.size wr (.slice av K.length cv) K ∧ K.map (·.1) = X ∧ Below w3.heap.size w3 wr ∧ K.length = k) := ⟨HI.out.own, hsm, HI.out.low, hKk⟩
        have HLB : Hid (K.length ≤ 2147483647) := by show K.length ≤ 2147483647; omega
        clear hKk hsm HI
        go_upto_region 12 with (at_builtin; refine wpList_appS wr rfl (.tmp 37) (.tmp 39) rfl w3.heap.size (.slice av K.length cv) K (spareS, plQ) _ rfl wr.heap.size rfl rfl HW.out.1 (spareS_kept _ _) rfl HLB.out HW.out.2.2.1.size ?_; intro v' w6 ho6 hu6; have HO6 : Hid (OwnSq w3.heap.size w6 v' (K ++ [((spareS, plQ) : Sq)])) := ho6; have HU6 : Hid (Below w3.heap.size w3 w6) := HW.out.2.2.1.trans (hu6.below HW.out.2.2.1.size (fun j hj e => by have := (HW.out.1.block e).1; omega)); clear ho6 hu6)
        have hne : 0 < (K ++ [((spareS, plQ) : Sq)]).length := by simp
        have hlen7 : (K ++ [((spareS, plQ) : Sq)]).length = k + 1 := by simp; exact HW.out.2.2.2
        obtain ⟨g, c7, hv7, hc7, _, hg7, _⟩ := own_some HO6.out.row hne
        obtain ⟨ad6, c6', hv6, _, hsp6⟩ := HO6.out.sps
        rw [hv7] at hv6
        simp only [Value.slice.injEq] at hv6
        obtain ⟨rfl, _, rfl⟩ := hv6
        obtain ⟨P6, hP6⟩ : ∃ P6, (fun i => ((K ++ [((spareS, plQ) : Sq)]).map (·.2)).getD i plQ) = P6 := ⟨_, rfl⟩
        have hby := hsp6 (X ++ [spareS]) (by rw [List.map_append, HW.out.2.1]; rfl)
        rw [hP6, hlen7] at hby
        rw [hlen7] at hv7 hc7
        subst hv7
        have hl0 := H3.out
        have hl6 := hl0.trans (HU6.out.mono hl0.size)
        have HE6 : Hid (DcE w w6 la n1 L ad k X P pa g P6) := ⟨hl6, HPA.out.below HU6.out, HP.out.1.below hl6, HP.out.2.1.below hl6, hby, HP.out.2.2.below hl6⟩
        have hnc : (k : Int) ≤ (c7 : Int) := by omega
        have hn0 : (0 : Int) ≤ (k : Int) := by omega
        have hlz : L.length ≤ 140737488355328 := by rw [HLL.out]; omega
        have hn1z : n1 ≤ 140737488355328 := by omega
        have DP := decideP_any pa L.length pc L (some ⟨g, 0, none⟩) k c7 X P6 w6 HE6.out.own HN.out hlz (by have := HE6.out.by_.front; rwa [HXL.out] at this) HF.out HS.out HE6.out.tab
        clear hne hlen7 hc7 hg7 hsp6 hP6 hby hl0 hl6 HO6 HU6 HW HLB HPA H2 H3 HP
        go_upto_region 14 with (first
          | (go_at_call 7; (with_reducible refine DP.mono ?_); clear DP; rintro e w7 ⟨k1, q1, g1, e1, rfl, hd, hb⟩; have HD1 : Hid (DecR L X k1 q1 g1 e1) := hd; have HE7 : Hid (DcE w w7 la n1 L ad k X P pa g P6) := HE6.out.below hb; have RD : Hid (∀ o, Calls Tryz.prog 8 #[.slice la n1 c1, .slice ad k cap] (w7.alloc o) fun e w' => ∃ (kk : Bool) (qq gg er : Int), e = .returned (.tuple #[.agg #[.bool kk, .int .i64 qq, .int .u64 0, .int .u64 gg], .int .i64 er]) ∧ DecR L X kk qq gg er ∧ Below (w7.alloc o).heap.size (w7.alloc o) w') := (fun o => rDecide_any la n1 c1 L ad k cap X P _ (HE7.out.below (belowAl2 o)).pol HN.out hn1z (HE7.out.below (belowAl2 o)).sps HF.out HS.out hn (HE7.out.below (belowAl2 o)).tab); clear hd hb HE6)
          | (go_at_call 8; (with_reducible refine (RD.out _).mono ?_); clear RD; rintro e w8 ⟨k2, q2, g2, e2, rfl, hd2, hb2⟩; obtain ⟨rfl, rfl, rfl, rfl⟩ := HD1.out.one hd2; have HV8 : Hid (Below (w7.alloc (.cells #[.bool k1, .int .i64 q1, .int .u64 0, .int .u64 g1] 40)).heap.size (w7.alloc (.cells #[.bool k1, .int .i64 q1, .int .u64 0, .int .u64 g1] 40)) w8) := hb2; clear hd2 hb2))
        obtain ⟨wr9, hw9⟩ : ∃ W, w8.alloc (.cells #[.bool k1, .int .i64 q1, .int .u64 0, .int .u64 g1] 40) = W := ⟨_, rfl⟩
        obtain ⟨b3, hb3⟩ : ∃ y, w7.heap.size = y := ⟨_, rfl⟩
        obtain ⟨b4, hb4⟩ : ∃ y, w8.heap.size = y := ⟨_, rfl⟩
        have HE9 : Hid (DcE w wr9 la n1 L ad k X P pa g P6 ∧ Blk wr9 b3 #[.bool k1, .int .i64 q1, .int .u64 0, .int .u64 g1] 40 ∧ Blk wr9 b4 #[.bool k1, .int .i64 q1, .int .u64 0, .int .u64 g1] 40) := by
          have k1' := Blk.new w7 #[.bool k1, .int .i64 q1, .int .u64 0, .int .u64 g1] 40
          have k2' := k1'.below HV8.out k1'.lt
          have e8 := (HE7.out.below (belowAl2 _)).below HV8.out
          rw [← hw9, ← hb3, ← hb4]
          exact ⟨e8.below (belowAl2 _), k2'.alloc _, Blk.new _ _ _⟩
        (try rw [hw9])
        (try rw [hb3])
        (try rw [hb4])
        clear hw9 hb3 hb4 HE7 HV8 HD1
        go_wp2
        go_loopw [13] (fun z wr => ∃ i : Nat, z = .int .i64 i ∧ i ≤ n1 ∧ Hid (Below wr9.heap.size wr9 wr)) (fun z _ => n1 - (intOf z).toNat)
        case atStart => exact ⟨0, rfl, by omega, Below.refl _ _⟩
        case round =>
          obtain ⟨i, rfl, hin, HB⟩ := hrel
          by_cases hlt : i < n1
          · have hlt' : (i : Int) < (n1 : Int) := by omega
            have hiL : i < L.length := by rw [HLL.out]; exact hlt
            have hltL : (i : Int) < (L.length : Int) := by omega
            have EE := HE9.out.1.below HB.out
            obtain ⟨b, o, rfl, _, hcl⟩ := EE.pol.2 (by omega)
            obtain ⟨b', o', rfl, _, hcg⟩ := EE.own.2 (by omega)
            have hl' := hcl i hiL
            have hg' := hcg i hiL
            obtain ⟨y, hy⟩ : ∃ y, L[i]'hiL = y := ⟨_, rfl⟩
            rw [hy] at hl' hg'
            have c0 := hl' 0 _ rfl
            have c1 := hl' 1 _ rfl
            have c2 := hl' 2 _ rfl
            have c3 := hl' 3 _ rfl
            have d0 := hg' 0 _ rfl
            have d1 := hg' 1 _ rfl
            have d2 := hg' 2 _ rfl
            have d3 := hg' 3 _ rfl
            rw [Nat.add_zero] at c0 d0
            have hq := run_neqP2 y
            have hgd := polGuard
            have HN2 : Hid (∀ q, Below wr9.heap.size wr9 (wr.drewN q)) := fun q => HB.out.trans ⟨rfl, rfl, rfl, Nat.le_refl _, fun _ _ => rfl⟩
            clear hcl hcg hl' hg' hy EE
            go_upto_region 17 with fail
            go_quiet (fail)
            go_wp2
            go_roundw
            case rel => exact ⟨i + 1, by go_num, by omega, HN2.out _⟩
            case measure => (simp [intOf]; omega)
          · obtain rfl : n1 = i := by omega
            have HC : Hid (DcE w wr la n1 L ad k X P pa g P6 ∧ Blk wr b3 #[.bool k1, .int .i64 q1, .int .u64 0, .int .u64 g1] 40 ∧ Blk wr b4 #[.bool k1, .int .i64 q1, .int .u64 0, .int .u64 g1] 40) := ⟨HE9.out.1.below HB.out, HE9.out.2.1.below HB.out HE9.out.2.1.lt, HE9.out.2.2.below HB.out HE9.out.2.2.lt⟩
            clear HE9 HB
            generalize wr = wc at *
            go_wp2
            go_loopw [14] (fun z wr => ∃ i : Nat, z = .int .i64 i ∧ i ≤ k ∧ Hid (Below wc.heap.size wc wr)) (fun z _ => k - (intOf z).toNat)
            case atStart => exact ⟨0, rfl, by omega, Below.refl _ _⟩
            case round =>
              obtain ⟨i, rfl, hin2, HB⟩ := hrel
              by_cases hlt : i < k
              · have hlt' : (i : Int) < (k : Int) := by omega
                have hlt2 : (i : Int) < ((k + 1 : Nat) : Int) := by omega
                have hlt3 : (i : Int) < (k : Int) + 1 := by omega
                have hiX : i < X.length := by rw [HXL.out]; exact hlt
                have EE := HC.out.1.below HB.out
                obtain ⟨b1, o1, rfl, _⟩ := EE.sps.lies (by omega)
                have RG := EE.sps.range i hiX
                have RB := (show SpsAt wr (some ⟨g, 0, none⟩) X.length X P6 from EE.by_.front).range i hiX
                have A1 := EE.sps.each i hiX
                have A2 := EE.by_.front.each i hiX
                obtain ⟨y, hy⟩ : ∃ y, X[i]'hiX = y := ⟨_, rfl⟩
                obtain ⟨yp, hyp⟩ : ∃ p, P6 i = p := ⟨_, rfl⟩
                obtain ⟨yq, hyq⟩ : ∃ p, P i = p := ⟨_, rfl⟩
                rw [hy, hyq] at RG A1
                rw [hy, hyp, Nat.zero_add] at RB
                rw [hy, hyp] at A2
                have KB : ∀ V, Below wr.heap.size wr V → V.cell? ⟨g, i * 13, none⟩ = some (.int .u64 y.hi) ∧ V.cell? ⟨g, i * 13 + 1, none⟩ = some (.int .u64 y.lo) ∧ V.cell? ⟨g, i * 13 + 2, none⟩ = some (.int .u64 y.id) ∧ V.cell? ⟨g, i * 13 + 3, none⟩ = some (.int .u64 y.par) ∧ V.cell? ⟨g, i * 13 + 4, none⟩ = some (.slice yp.la y.links.length yp.lc) ∧ V.cell? ⟨g, i * 13 + 5, none⟩ = some (.string y.svc) ∧ V.cell? ⟨g, i * 13 + 6, none⟩ = some (.string y.op) ∧ V.cell? ⟨g, i * 13 + 7, none⟩ = some (.int .i64 y.kind) ∧ V.cell? ⟨g, i * 13 + 8, none⟩ = some (.int .i64 y.status) ∧ V.cell? ⟨g, i * 13 + 9, none⟩ = some (.int .i64 y.start) ∧ V.cell? ⟨g, i * 13 + 10, none⟩ = some (.int .i64 y.fin) ∧ V.cell? ⟨g, i * 13 + 11, none⟩ = some (.slice yp.aa y.attrs.length yp.ac) ∧ V.cell? ⟨g, i * 13 + 12, none⟩ = some (.slice yp.ea y.events.length yp.ec) ∧ V.cell? ⟨b1, o1 + i * 13, none⟩ = some (.int .u64 y.hi) ∧ V.cell? ⟨b1, o1 + i * 13 + 1, none⟩ = some (.int .u64 y.lo) ∧ V.cell? ⟨b1, o1 + i * 13 + 2, none⟩ = some (.int .u64 y.id) ∧ V.cell? ⟨b1, o1 + i * 13 + 3, none⟩ = some (.int .u64 y.par) ∧ V.cell? ⟨b1, o1 + i * 13 + 4, none⟩ = some (.slice yq.la y.links.length yq.lc) ∧ V.cell? ⟨b1, o1 + i * 13 + 5, none⟩ = some (.string y.svc) ∧ V.cell? ⟨b1, o1 + i * 13 + 6, none⟩ = some (.string y.op) ∧ V.cell? ⟨b1, o1 + i * 13 + 7, none⟩ = some (.int .i64 y.kind) ∧ V.cell? ⟨b1, o1 + i * 13 + 8, none⟩ = some (.int .i64 y.status) ∧ V.cell? ⟨b1, o1 + i * 13 + 9, none⟩ = some (.int .i64 y.start) ∧ V.cell? ⟨b1, o1 + i * 13 + 10, none⟩ = some (.int .i64 y.fin) ∧ V.cell? ⟨b1, o1 + i * 13 + 11, none⟩ = some (.slice yq.aa y.attrs.length yq.ac) ∧ V.cell? ⟨b1, o1 + i * 13 + 12, none⟩ = some (.slice yq.ea y.events.length yq.ec) := fun V hV => by
                  have m : ∀ (q o : Nat) u, wr.cell? ⟨q, o, none⟩ = some u → V.cell? ⟨q, o, none⟩ = some u := fun q o u h => (hV.cell (p := ⟨q, o, none⟩) (World.block_lt_of_cell? wr _ h)).trans h
                  exact ⟨m _ _ _ (by have := RB 0 _ rfl; simpa using this), m _ _ _ (RB 1 _ rfl), m _ _ _ (RB 2 _ rfl), m _ _ _ (RB 3 _ rfl), m _ _ _ (RB 4 _ rfl), m _ _ _ (RB 5 _ rfl), m _ _ _ (RB 6 _ rfl), m _ _ _ (RB 7 _ rfl), m _ _ _ (RB 8 _ rfl), m _ _ _ (RB 9 _ rfl), m _ _ _ (RB 10 _ rfl), m _ _ _ (RB 11 _ rfl), m _ _ _ (RB 12 _ rfl), m _ _ _ (by have := RG 0 _ rfl; simpa using this), m _ _ _ (RG 1 _ rfl), m _ _ _ (RG 2 _ rfl), m _ _ _ (RG 3 _ rfl), m _ _ _ (RG 4 _ rfl), m _ _ _ (RG 5 _ rfl), m _ _ _ (RG 6 _ rfl), m _ _ _ (RG 7 _ rfl), m _ _ _ (RG 8 _ rfl), m _ _ _ (RG 9 _ rfl), m _ _ _ (RG 10 _ rfl), m _ _ _ (RG 11 _ rfl), m _ _ _ (RG 12 _ rfl)⟩
                have B0 : Below wr.heap.size wr wr.drew := (Below.refl _ _).drew
                have CM := refCompare_any y y yp yq wr.drew (A2.below B0) (A1.below B0)
                rw [(good_cmpP.eq y y).2 rfl] at CM
                unfold spV spC at CM
                clear RG RB A1 A2 hy hyp hyq EE
                go_upto_region 22 with fail
                go_region_held3 (fun V => V.cell? ⟨g, i * 13, none⟩ = some (.int .u64 y.hi) ∧ V.cell? ⟨g, i * 13 + 1, none⟩ = some (.int .u64 y.lo) ∧ V.cell? ⟨g, i * 13 + 2, none⟩ = some (.int .u64 y.id) ∧ V.cell? ⟨g, i * 13 + 3, none⟩ = some (.int .u64 y.par) ∧ V.cell? ⟨g, i * 13 + 4, none⟩ = some (.slice yp.la y.links.length yp.lc) ∧ V.cell? ⟨g, i * 13 + 5, none⟩ = some (.string y.svc) ∧ V.cell? ⟨g, i * 13 + 6, none⟩ = some (.string y.op) ∧ V.cell? ⟨g, i * 13 + 7, none⟩ = some (.int .i64 y.kind) ∧ V.cell? ⟨g, i * 13 + 8, none⟩ = some (.int .i64 y.status) ∧ V.cell? ⟨g, i * 13 + 9, none⟩ = some (.int .i64 y.start) ∧ V.cell? ⟨g, i * 13 + 10, none⟩ = some (.int .i64 y.fin) ∧ V.cell? ⟨g, i * 13 + 11, none⟩ = some (.slice yp.aa y.attrs.length yp.ac) ∧ V.cell? ⟨g, i * 13 + 12, none⟩ = some (.slice yp.ea y.events.length yp.ec) ∧ V.cell? ⟨b1, o1 + i * 13, none⟩ = some (.int .u64 y.hi) ∧ V.cell? ⟨b1, o1 + i * 13 + 1, none⟩ = some (.int .u64 y.lo) ∧ V.cell? ⟨b1, o1 + i * 13 + 2, none⟩ = some (.int .u64 y.id) ∧ V.cell? ⟨b1, o1 + i * 13 + 3, none⟩ = some (.int .u64 y.par) ∧ V.cell? ⟨b1, o1 + i * 13 + 4, none⟩ = some (.slice yq.la y.links.length yq.lc) ∧ V.cell? ⟨b1, o1 + i * 13 + 5, none⟩ = some (.string y.svc) ∧ V.cell? ⟨b1, o1 + i * 13 + 6, none⟩ = some (.string y.op) ∧ V.cell? ⟨b1, o1 + i * 13 + 7, none⟩ = some (.int .i64 y.kind) ∧ V.cell? ⟨b1, o1 + i * 13 + 8, none⟩ = some (.int .i64 y.status) ∧ V.cell? ⟨b1, o1 + i * 13 + 9, none⟩ = some (.int .i64 y.start) ∧ V.cell? ⟨b1, o1 + i * 13 + 10, none⟩ = some (.int .i64 y.fin) ∧ V.cell? ⟨b1, o1 + i * 13 + 11, none⟩ = some (.slice yq.aa y.attrs.length yq.ac) ∧ V.cell? ⟨b1, o1 + i * 13 + 12, none⟩ = some (.slice yq.ea y.events.length yq.ec)) (first | exact KB _ B0 | exact KB _ B1) (first
                  | (go_at_call 9; (with_reducible refine CM.mono ?_); clear CM; rintro e w5 ⟨rfl, hb5⟩; have B1 : Below wr.heap.size wr w5 := B0.trans (hb5.mono B0.size); clear hb5)
                  | fail)
                all_goals
                  have HB5 : Hid (Below wc.heap.size wc w5) := HB.out.trans (B1.mono HB.out.size)
                  clear KB B0 B1
                  go_wp2
                  go_roundw
                case rel => exact ⟨i + 1, by go_num, by omega, HB5⟩
                case measure => (simp [intOf]; omega)
              · obtain rfl : k = i := by omega
                have EE := HC.out.1.below HB.out
                have V3 := HC.out.2.1.below HB.out HC.out.2.1.lt
                have V4 := HC.out.2.2.below HB.out HC.out.2.2.lt
                have a0 : wr.cell? ⟨b3, 0, none⟩ = some (.bool k1) := V3.cell 0 rfl
                have a1 : wr.cell? ⟨b3, 1, none⟩ = some (.int .i64 q1) := V3.cell 1 rfl
                have a2 : wr.cell? ⟨b3, 2, none⟩ = some (.int .u64 0) := V3.cell 2 rfl
                have a3 : wr.cell? ⟨b3, 3, none⟩ = some (.int .u64 g1) := V3.cell 3 rfl
                have d0 : wr.cell? ⟨b4, 0, none⟩ = some (.bool k1) := V4.cell 0 rfl
                have d1 : wr.cell? ⟨b4, 1, none⟩ = some (.int .i64 q1) := V4.cell 1 rfl
                have d2 : wr.cell? ⟨b4, 2, none⟩ = some (.int .u64 0) := V4.cell 2 rfl
                have d3 : wr.cell? ⟨b4, 3, none⟩ = some (.int .u64 g1) := V4.cell 3 rfl
                have hq1 : ∀ W, (binOp .eql 40 (.agg #[.bool k1, .int .i64 q1, .int .u64 0, .int .u64 g1]) (.agg #[.bool k1, .int .i64 q1, .int .u64 0, .int .u64 g1])).run Tryz.prog W = .ok (.bool true) W := fun W => by
                  have := run_eqlT2 (eqI_ver 9996 k1 k1 q1 g1 g1 q1 0 0 W)
                  simpa using this
                have hvg := verGuard
                have he1 : (e1 == e1) = true := by simp
                have hkX : k < (X ++ [spareS]).length := by simp; have := HXL.out; omega
                have RS := EE.by_.range k hkX
                have hxs : (X ++ [spareS])[k] = spareS := by
                  have := HXL.out
                  rw [List.getElem_append_right (by omega)]
                  simp
                have s5 : wr.cell? ⟨g, k * 13 + 5, none⟩ = some (.string ⟨#[115, 112, 97, 114, 101]⟩) := by
                  have := RS 5 (.string (X ++ [spareS])[k].svc) rfl
                  rw [hxs, Nat.zero_add] at this
                  exact this
                have hlt2 : (k : Int) < ((k + 1 : Nat) : Int) := by omega
                have hlt3 : (k : Int) < (k : Int) + 1 := by omega
                have HB9 : Hid (Below w.heap.size w wr) := EE.low
                clear EE V3 V4 RS hxs hkX HC HB
                go_wp2
                go_ret
                exact ⟨rfl, HB9.out⟩
end Go.Proofs.YtffdgpplgkmhiaaGreatDoor
