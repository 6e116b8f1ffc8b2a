/-
  Layer 21 (sample): SampleMixes, walked.
-/
import Derived.Test.YtdagoabapchniaaDoorSaL
import Derived.Test.YtdagoabapchniaaDoorSaN
import Derived.Test.YtdagoabapchniaaDoorSaO
namespace Go.Proofs.YtdagoabapchniaaDoor
open Go Go.RowKit
set_option maxRecDepth 100000

abbrev spareP : Pol := ⟨0, 0, ⟨#[115, 112, 97, 114, 101]⟩, 0⟩
theorem PolAt.front {w : World} {g n : Nat} {L : List Pol} {c : Pol} (h : PolAt w (some ⟨g, 0, none⟩) (n + 1) (L ++ [c])) : PolAt w (some ⟨g, 0, none⟩) n L := by
  have hl : L.length = n := by have := h.1; simp at this; omega
  refine ⟨hl, fun hn => ?_⟩
  obtain ⟨b, o, e, hb, hc⟩ := h.2 (by omega)
  refine ⟨b, o, e, hb, fun i hi j v hv => hc i (by simp; omega) j v ?_⟩
  rw [List.getElem_append_left hi]
  exact hv
theorem PolAt.last {w : World} {g n : Nat} {L : List Pol} {c : Pol} (h : PolAt w (some ⟨g, 0, none⟩) (n + 1) (L ++ [c])) : w.cell? ⟨g, n * 4 + 2, none⟩ = some (.string c.name) ∧ g < w.heap.size := by
  have hl : L.length = n := by have := h.1; simp at this; omega
  obtain ⟨b, o, e, hb, hc⟩ := h.2 (by omega)
  injection e with e
  injection e with e1 e2
  subst e1 e2
  have := hc n (by simp; omega) 2 (.string c.name) (by simp [← hl, polC])
  rw [Nat.zero_add] at this
  exact ⟨this, hb⟩
/-- What lies behind the copy. -/
def MixE (w W : World) (g n : Nat) (ad : Option Addr) (hi lo : BitVec 64) (L : List Pol) : Prop :=
  Below w.heap.size w W ∧ PolAt W (some ⟨g, 0, none⟩) (n + 1) (L ++ [spareP]) ∧ PolAt W ad n L ∧ Blk W w.heap.size #[.int .u64 (bvI hi), .int .u64 (bvI lo)] 26
theorem MixE.below {w W W' : World} {g n : Nat} {ad : Option Addr} {hi lo : BitVec 64} {L : List Pol} (h : MixE w W g n ad hi lo L) (hb : Below W.heap.size W W') : MixE w W' g n ad hi lo L :=
  ⟨h.1.trans (hb.mono h.1.size), h.2.1.below hb, h.2.2.1.below hb, h.2.2.2.below hb h.2.2.2.lt⟩
theorem run_neqP (p : Pol) (W : World) : (binOp .neq 30 (.agg #[.int .i64 p.kind, .int .u64 p.nanos, .string p.name, .int .i64 p.part]) (.agg #[.int .i64 p.kind, .int .u64 p.nanos, .string p.name, .int .i64 p.part])).run Tryd.prog W = .ok (.bool false) W := by
  have h := run_neqT (eqI_pol 9998 p.kind p.nanos p.part p.kind p.nanos p.part p.name p.name W)
  simpa using h
set_option maxHeartbeats 4000000 in
theorem sampleMixes_any (hi lo : BitVec 64) (ad : Option Addr) (n cap : Nat) (L : List Pol) (w : World) (hL : PolAt w ad n L) (hs : ∀ p ∈ L, p.name.size ≤ 140737488355328) (hz : n * 40 ≤ 140737488351232) (hT : Tabs w) :
    Calls Tryd.prog 4 #[.agg #[.int .u64 (bvI hi), .int .u64 (bvI lo)], .slice ad n cap] w fun e w' => e = .returned (.bool true) ∧ Below w.heap.size w w' := by
  have b0 : Below w.heap.size w (w.alloc (.cells #[.int .u64 (bvI hi), .int .u64 (bvI lo)] 26)) := (Below.refl _ _).alloc (Nat.le_refl _) _
  have AL := aliveP_any (w.alloc (.cells #[.int .u64 (bvI hi), .int .u64 (bvI lo)] 26)) (hT.below b0)
  have H0 : Hid (∀ w1, Below (w.alloc (.cells #[.int .u64 (bvI hi), .int .u64 (bvI lo)] 26)).heap.size (w.alloc (.cells #[.int .u64 (bvI hi), .int .u64 (bvI lo)] 26)) w1 → Below w.heap.size w w1 ∧ PolAt w1 ad n L ∧ Blk w1 w.heap.size #[.int .u64 (bvI hi), .int .u64 (bvI lo)] 26 ∧ w.heap.size < w1.heap.size) := fun w1 hb => ⟨b0.trans (hb.mono b0.size), (hL.below b0).below hb, (Blk.new _ _ _).below hb (by rw [World.size_alloc]; omega), by have := hb.size; rw [World.size_alloc] at this; omega⟩
  have HT : Hid (∀ W, Below w.heap.size w W → Tabs W) := fun W hb => hT.below hb
  have HS : Hid (∀ p ∈ L, p.name.size ≤ 140737488355328) := hs
  have hl := hL.1
  clear hT b0 hL hs
  go_enter Tryd.func4, Tryd.ntmps4
  go_upto_region 5 with (first
    | (go_at_call 6; (with_reducible refine AL.mono ?_); clear AL; rintro e w1 ⟨rfl, hb1⟩; have H1 := H0.out w1 hb1; have hp1 := H1.2.1; have HH1 : Hid (Below w.heap.size w w1 ∧ PolAt w1 ad n L ∧ Blk w1 w.heap.size #[.int .u64 (bvI hi), .int .u64 (bvI lo)] 26 ∧ w.heap.size < w1.heap.size) := H1; clear hb1 H1 H0)
    | (at_builtin; refine wpList_appN w1 rfl (.tmp 10) (.tmp 11) rfl ad n cap L rfl rfl hp1 hz ?_; intro v2 w2 o2 b2; have hlb : w1.heap.size ≤ w2.heap.size := b2.size)
    | (at_builtin; refine wpList_appP w2 rfl (.tmp 13) (.tmp 15) rfl w1.heap.size v2 L spareP rfl o2 rfl (by omega) hlb ?_; intro v3 w3 o3 u3))
  obtain ⟨g, c, e3, hc1, hc2, hg, hx⟩ := own_some o3 (by simp)
  subst e3
  have hll : (L ++ [spareP]).length = n + 1 := by simp [hl]
  rw [hll] at hc1
  have o3 := o3.at
  rw [hll] at o3 ⊢
  have b3 : Below w1.heap.size w1 w3 := b2.trans (u3.below b2.size (fun k h1 h2 => by omega))
  have E3 : MixE w w3 g n ad hi lo L := ⟨HH1.out.1.trans (b3.mono HH1.out.1.size), o3, HH1.out.2.1.below b3, HH1.out.2.2.1.below b3 HH1.out.2.2.2⟩
  have CK := checkP_any (some ⟨g, 0, none⟩) n c L w3 o3.front HS.out (by omega) (HT.out _ E3.1)
  have HE3 : Hid (MixE w w3 g n ad hi lo L) := E3
  have hnc : (n : Int) ≤ (c : Int) := by omega
  have hn0 : (0 : Int) ≤ (n : Int) := by omega
  clear E3 o3 b3 hx b2 u3 hp1 o2 HH1 hll hlb
  go_upto_region 6 with (go_at_call 8; (with_reducible refine CK.mono ?_); clear CK; rintro e w4 ⟨rfl, hb4⟩; have HE4 : Hid (MixE w w4 g n ad hi lo L) := HE3.out.below hb4; clear hb4 HE3)
  go_wp2
  go_loopw [8] (fun z wr => ∃ i : Nat, z = .int .i64 i ∧ i ≤ n ∧ Hid (MixE w wr g n ad hi lo L)) (fun z _ => n - (intOf z).toNat)
  case atStart => exact ⟨0, rfl, by omega, HE4⟩
  case round =>
    obtain ⟨i, rfl, hin, HE⟩ := hrel
    by_cases hlt : i < n
    · have hlt' : (i : Int) < (n : Int) := by omega
      have hlt2 : (i : Int) < ((n + 1 : Nat) : Int) := by omega
      have hiL : i < L.length := by omega
      obtain ⟨b, o, rfl, hbl, hcl⟩ := HE.out.2.2.1.2 (by omega)
      obtain ⟨b', o', e', _, hcg⟩ := HE.out.2.1.front.2 (by omega)
      injection e' with e'
      injection e' with e1 e2
      subst e1 e2
      have hl' := hcl i hiL
      have hg' := hcg i hiL
      obtain ⟨y, hy⟩ : ∃ y, L[i] = y := ⟨_, rfl⟩
      rw [hy] at hl' hg'
      have c0 := hl' 0 _ rfl
      have c1 := hl' 1 _ rfl
      have c2 := hl' 2 _ rfl
      have c3 := hl' 3 _ rfl
      have d0 := hg' 0 _ rfl
      have d1 := hg' 1 _ rfl
      have d2 := hg' 2 _ rfl
      have d3 := hg' 3 _ rfl
      rw [Nat.add_zero] at c0
      rw [Nat.zero_add, Nat.add_zero] at d0
      rw [Nat.zero_add] at d1 d2 d3
      have hq := run_neqP y
      have hgd := polGuard
      have HN : Hid (∀ q, MixE w (wr.drewN q) g n (some ⟨b, o, none⟩) hi lo L) := fun q => HE.out.below ⟨rfl, rfl, rfl, Nat.le_refl _, fun _ _ => rfl⟩
      clear hcl hcg hl' hg' hy HE4 HT HS
      go_upto_region 9 with fail
      go_quiet (fail)
      go_wp2
      go_roundw
      case rel => exact ⟨i + 1, by go_num, by omega, HN.out _⟩
      case measure => (simp [intOf]; omega)
    · obtain rfl : n = i := by omega
      have M1 := mix_any hi lo wr.drew
      have M2 : Hid (∀ W, Calls Tryd.prog 9 #[.agg #[.int .u64 (bvI hi), .int .u64 (bvI lo)]] W fun e w' => e = .returned (.int .u64 (bvI (mixB hi lo))) ∧ Below W.heap.size W w') := fun W => rMix_any hi lo W
      have R1 : Hid (∀ W, Below wr.heap.size wr W → Calls Tryd.prog 10 #[.slice ad n cap] W fun e w' => e = .returned (.int .i64 (chkP L)) ∧ Below W.heap.size W w') := fun W hW => rCheckP_any ad n cap L W (HE.out.2.2.1.below hW) HS.out (by omega)
      have KB0 : ∀ W, Below wr.heap.size wr W → W.cell? ⟨w.heap.size, 0, none⟩ = some (.int .u64 (bvI hi)) ∧ W.cell? ⟨w.heap.size, 1, none⟩ = some (.int .u64 (bvI lo)) ∧ W.cell? ⟨g, n * 4 + 2, none⟩ = some (.string ⟨#[115, 112, 97, 114, 101]⟩) := fun W hW => by
        have E := HE.out.below hW
        exact ⟨E.2.2.2.cell 0 rfl, E.2.2.2.cell 1 rfl, E.2.1.last.1⟩
      have HW : Hid (Below w.heap.size w wr) := HE.out.1
      have hlt2 : (n : Int) < ((n + 1 : Nat) : Int) := by omega
      have hlt3 : (n : Int) < (n : Int) + 1 := by omega
      clear HE4 HT HS HE hl
      generalize chkP L = kc at *
      generalize bvI (mixB hi lo) = mm at *
      generalize bvI hi = x at *
      generalize bvI lo = y at *
      have em : (mm == mm) = true := by simp
      have ec : (kc == kc) = true := by simp
      have B0 : Below wr.heap.size wr wr.drew := (Below.refl _ _).drew
      go_upto_region 11 with fail
      go_region_held3 (fun W => W.cell? ⟨w.heap.size, 0, none⟩ = some (.int .u64 x) ∧ W.cell? ⟨w.heap.size, 1, none⟩ = some (.int .u64 y) ∧ W.cell? ⟨g, n * 4 + 2, none⟩ = some (.string ⟨#[115, 112, 97, 114, 101]⟩)) (first | exact KB0 _ B0 | exact KB0 _ B1 | exact KB0 _ B2 | exact KB0 _ B3) (first
        | (go_at_call 7; (with_reducible refine M1.mono ?_); clear M1; rintro e w5 ⟨rfl, hb5⟩; have B1 : Below wr.heap.size wr w5 := B0.trans (hb5.mono B0.size); have N2 := M2.out w5; clear hb5)
        | (go_at_call 9; (with_reducible refine N2.mono ?_); clear N2; rintro e w6 ⟨rfl, hb6⟩; have B2 : Below wr.heap.size wr w6 := B1.trans (hb6.mono B1.size); have N3 := R1.out w6 B2; clear hb6)
        | (go_at_call 10; (with_reducible refine N3.mono ?_); clear N3; rintro e w7 ⟨rfl, hb7⟩; have B3 : Below wr.heap.size wr w7 := B2.trans (hb7.mono B2.size); clear hb7))
      all_goals go_wp2
      all_goals go_ret
      all_goals exact ⟨rfl, HW.out.trans (B3.mono HW.out.size)⟩
end Go.Proofs.YtdagoabapchniaaDoor
