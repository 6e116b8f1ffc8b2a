/-
  QF.
-/
import Derived.Test.YtbbonnbcenhkeaaGreatDoorQAq
import Derived.Test.YtbbonnbcenhkeaaGreatDoorGH
namespace Go.Proofs.YtbbonnbcenhkeaaGreatDoor
open Go Go.RowKit
set_option maxRecDepth 100000

/-- The least one so far. -/
def LstB (X : List Sp) (U : List Int) (k j : Nat) (id : Int) (B : Bool) : Prop := B = true ↔ ∀ t, t < j → ∀ b, X[(upN U t k).toNat]? = some b → id ≤ b.id
theorem LstB.step {X : List Sp} {U : List Int} {k j : Nat} {id : Int} {B : Bool} {b : Sp} (h : LstB X U k j id B) (hb : X[(upN U j k).toNat]? = some b) : LstB X U k (j + 1) id (B && decide (b.id ≥ id)) := by
  unfold LstB at h ⊢
  rw [Bool.and_eq_true, h, decide_eq_true_iff]
  constructor
  · rintro ⟨h1, h2⟩ t ht b' hb'
    by_cases e : t = j
    · subst e
      obtain rfl := Option.some.inj (hb.symm.trans hb')
      exact h2
    · exact h1 t (by omega) b' hb'
  · exact fun hh => ⟨fun t ht => hh t (by omega), hh j (by omega) b hb⟩
theorem Ring.uniq {nm : List Int} {n : Nat} {c : Int} {p q : Nat} (h : Ring nm n c p) (h' : Ring nm n c q) : p = q := by
  rcases Nat.lt_trichotomy p q with g | g | g
  · exact absurd h.back (h'.first p h.pos g)
  · exact g
  · exact absurd h'.back (h.first q h'.pos g)
set_option maxHeartbeats 8000000 in
theorem forestRings_any (ad : Option Addr) (n cap : Nat) (X : List Sp) (P : Nat → Pl) (w : World) (hX : SpsAt w ad n X P) (hF : ∀ a ∈ X, a.Fits) (hS : ∀ a ∈ X, a.Small) (hT : Tabs w) :
    Calls Tryz.prog 4 #[.slice ad n cap] w fun e w' => e = .returned (.bool true) ∧ Below w.heap.size w w' := by
  have SH := awake_any w hT
  have BD : Hid (∀ w1, Below w.heap.size w w1 → Calls Tryz.prog 9 #[.slice ad n cap] w1 fun e w' => (∃ f, e = .returned (.tuple #[.pointer (some ⟨f, 0, none⟩), .int .i64 0]) ∧ OneT X ∧ AskN X n f w' ∧ Below w.heap.size w w') ∨ (e = .returned (.tuple #[.pointer none, .int .i64 101]) ∧ ¬ OneT X ∧ Below w.heap.size w w')) := fun w1 hb => buildA ad n cap X P w w1 hb hX hF hS hT
  have HXS : Hid (SpsAt w ad n X P) := hX
  clear hX hF hS hT
  go_enter Tryz.func4, Tryz.ntmps4
  go_wp2_with (first
    | (go_at_call 8; refine SH.mono ?_; clear SH; rintro e w1 ⟨rfl, hb⟩; have B1 := BD.out w1 hb; clear hb BD)
    | (go_at_call 9; refine B1.mono ?_; clear B1; rintro e w2 (⟨f, rfl, h1, h2, h3⟩ | ⟨rfl, h1, h3⟩))
    | (go_at_call 20; refine (parents_any ad n cap X P w2 (HXS.out.below h3) (by have := h1.len; have := HXS.out.len; omega)).mono ?_; rintro e w3 ⟨uv, U, rfl, hUl, hUp, hUr, hb3⟩; obtain ⟨au, cu, rfl⟩ := owns_slice hUr))
  · have hn1 : (n : Int) ≤ 1000 := by have := h1.len; have := HXS.out.len; omega
    have hb3' := h3.trans (hb3.mono h3.size)
    have HS : Hid (OneT X ∧ ParU X U ∧ AskN X n f w2 ∧ w3.ownsRow w2.heap.size 3 1 (.slice au n cu) n (U.map (Value.int .i64)) ∧ Below w2.heap.size w2 w3 ∧ Below w.heap.size w w3) := ⟨h1, parU_of HXS.out.len hUl hUp, h2, hUr, hb3, hb3'⟩
    clear h1 h2 h3 hUl hUp hUr hb3 hb3'
    go_loopw [7] (fun z wr => ∃ k : Nat, z = .int .i64 k ∧ k ≤ n ∧ Below w3.heap.size w3 wr) (fun z _ => n - (intOf z).toNat)
    case atStart => exact ⟨0, rfl, by omega, Below.refl _ _⟩
    case round =>
      obtain ⟨k, rfl, hkn, hbr⟩ := hrel
      obtain ⟨h1, hPU, hAS, hUr, hb23, hbw⟩ := HS.out
      by_cases hlt : k < n
      · obtain ⟨d, a, ha, hO, hN⟩ := hAS k hlt
        have hin' : (k : Int) < (n : Int) := by omega
        obtain ⟨gu, rfl⟩ : ∃ gu, au = some ⟨gu, 0, none⟩ := by
          obtain ⟨n', rfl⟩ : ∃ n', n = n' + 1 := ⟨n - 1, by omega⟩
          exact owns_some hUr
        have UC : ∀ q, q < n → w3.cell? ⟨gu, q, none⟩ = some (.int .i64 (U.getD q 0)) := fun q hq => owns_cellU hUr (by
          have hq' : q < U.length := by rw [hPU.len, HXS.out.len]; exact hq
          simp [List.getD, hq'])
        have SX : ∀ W, Below w3.heap.size w3 W → SpsAt W ad n X P := fun W hb => HXS.out.below (hbw.trans (hb.mono hbw.size))
        obtain ⟨b, off, a', rfl, ha', _, _⟩ := (SX wr hbr).idpar k hlt
        obtain rfl := Option.some.inj (ha.symm.trans ha')
        have HC : Hid (∀ W, Below w3.heap.size w3 W → W.cell? ⟨b, off + k * 13 + 2, none⟩ = some (.int .u64 a.id) ∧ W.cell? ⟨b, off + k * 13 + 3, none⟩ = some (.int .u64 a.par) ∧ W.cell? ⟨gu, k, none⟩ = some (.int .i64 (U.getD k 0))) := fun W hb => by
          obtain ⟨b', off', a', e, g1, g2, g3⟩ := (SX W hb).idpar k hlt
          injection e with e
          injection e with e1 e2
          subst e1 e2
          obtain rfl := Option.some.inj (ha.symm.trans g1)
          exact ⟨g2, g3, (hb.cell (p := ⟨gu, k, none⟩) (World.block_lt_of_cell? w3 _ (UC k hlt))).trans (UC k hlt)⟩
        have HN : Hid (∀ W, Below w3.heap.size w3 W → Calls Tryz.prog 14 #[.pointer (some ⟨f, 0, none⟩), .int .u64 a.id] W fun e W' => e = .returned (.tuple #[ndV d, .bool true]) ∧ Below W.heap.size W W') := fun W hb => hN W (hb23.trans (hb.mono hb23.size))
        have HRG : Hid (∀ W, Below w3.heap.size w3 W → Calls Tryz.prog 21 #[.slice (some ⟨b, off, none⟩) n cap, .slice (some ⟨gu, 0, none⟩) n cu, .int .i64 k] W fun e w' => ∃ v, e = .returned v ∧ RingT X U n k w' v ∧ Below W.heap.size W w') := fun W hb => ring_any _ n cap X P gu cu k U W (SX W hb) (by omega) (by rw [hPU.len, HXS.out.len]) (fun q hq => by have := hPU.range q (by rw [HXS.out.len]; exact hq); rwa [HXS.out.len] at this) (fun q hq => (hb.cell (p := ⟨gu, q, none⟩) (World.block_lt_of_cell? w3 _ (UC q hq))).trans (UC q hq)) hlt
        have HO : Hid (X[k]? = some a ∧ OrgX X a k d ∧ ParU X U ∧ X.length = n) := ⟨ha, hO, hPU, HXS.out.len⟩
        have HBR : Hid (Below w3.heap.size w3 wr) := hbr
        obtain ⟨u, hu⟩ : ∃ u, U.getD k 0 = u := ⟨_, rfl⟩
        obtain ⟨og, hog⟩ : ∃ og, d.org = og := ⟨_, rfl⟩
        have HTL : Hid ((a.par = 0 → og = 1) ∧ (a.par ≠ 0 → u < 0 → og = 2) ∧ (a.par ≠ 0 → ¬ u < 0 → LeastX X U k → og = 3) ∧ (a.par ≠ 0 → ¬ u < 0 → ¬ LeastX X U k → og = 0)) := by
          subst hu hog
          exact ⟨hO.born, hO.orphan U hPU, fun g1 g2 => hO.looped U hPU g1 (by omega), fun g1 g2 => hO.inner U hPU g1 (by omega)⟩
        rw [hu] at HC
        obtain ⟨c2, c3, cu3⟩ := HC.out wr hbr
        have N1 := HN.out wr hbr
        unfold ndV at N1
        rw [hog] at N1
        clear h1 hPU hAS hUr hb23 hbw ha hO hN UC SX ha' hbr hu hog
        go_wp2_with (first
          | (go_at_call 14; refine N1.mono ?_; clear N1; rintro e w4 ⟨rfl, hb4⟩; have H4 : Hid (∀ o, Below w3.heap.size w3 (w4.alloc o)) := (fun o => (HBR.out.trans (hb4.mono HBR.out.size)).alloc (by have := HBR.out.size; have := hb4.size; omega) o); clear hb4)
          | (go_at_call 21; refine (HRG.out _ (H4.out _)).mono ?_; clear HRG; rintro e w5 ⟨rv, rfl, hRT, hb5⟩; have HR5 : Hid (∀ wq, Below w5.heap.size w5 wq → wq.cell? ⟨w4.heap.size, 2, none⟩ = some (.int .i64 og) ∧ Below w3.heap.size w3 wq) := (fun wq hb => ⟨(Blk.below (Blk.below (Blk.new _ _ _) hb5 (by rw [World.size_alloc]; omega)) hb (Blk.lt (Blk.below (Blk.new _ _ _) hb5 (by rw [World.size_alloc]; omega)))).cell 2 rfl, ((H4.out _).trans (hb5.mono (H4.out _).size)).trans (hb.mono (Nat.le_trans (H4.out _).size hb5.size))⟩); have HRT : Hid (RingT X U n k w5 rv) := hRT; clear hb5; rcases hRT with ⟨rfl, -⟩ | ⟨p, g, capg, -, hpn, rfl, -, -⟩))
        · have HNL : Hid (¬ LeastX X U k) := fun ⟨p, hp, _⟩ => by
            rw [HO.out.2.2.2] at hp
            rcases HRT.out with ⟨_, h⟩ | ⟨_, _, _, _, _, h, _⟩
            · exact h ⟨p, hp⟩
            · cases h
          have HBQ0 : Hid (Below w5.heap.size w5 w5) := Below.refl _ _
          clear c2 c3 cu3 HRT
          go_loopw [11, 12] (fun z11 z12 wq => z11 = .bool false ∧ z12 = .int .i64 0 ∧ Below w5.heap.size w5 wq) (fun _ _ _ => 0)
          case atStart => exact ⟨rfl, rfl, Below.refl _ _⟩
          case round =>
            obtain ⟨rfl, rfl, hbq⟩ := hrel
            have HBQ : Hid (Below w5.heap.size w5 wr) := hbq
            clear hbq
            have HBW : Hid (Below w3.heap.size w3 wr) := (HR5.out wr HBQ.out).2
            obtain ⟨_, c3, cu3⟩ := HC.out wr HBW.out
            have cog := (HR5.out wr HBQ.out).1
            by_cases hp0 : a.par = 0
            · have e1 : (a.par == 0) = true := by simp [hp0]
              obtain rfl : og = 1 := HTL.out.1 hp0
              clear hp0
              go_wp2
              go_roundw
              case rel => exact ⟨k + 1, by simp, by omega, HBW.out⟩
              case measure => (simp [intOf]; try omega)
            · have e1 : (a.par == 0) = false := by simp [hp0]
              by_cases hu0 : u < 0
              · obtain rfl : og = 2 := HTL.out.2.1 hp0 hu0
                go_wp2
                go_roundw
                case rel => exact ⟨k + 1, by simp, by omega, HBW.out⟩
                case measure => (simp [intOf]; try omega)
              · obtain rfl : og = 0 := HTL.out.2.2.2 hp0 (by omega) HNL.out
                go_wp2
                go_roundw
                case rel => exact ⟨k + 1, by simp, by omega, HBW.out⟩
                case measure => (simp [intOf]; try omega)
        · obtain ⟨hR, hg⟩ : Ring U n k p ∧ ∀ wq, Below w5.heap.size w5 wq → ∀ j, j < p → ∃ b, X[(upN U j k).toNat]? = some b ∧ wq.cell? ⟨g, j, none⟩ = some (.int .u64 b.id) := by
            rcases HRT.out with ⟨h, _⟩ | ⟨p', g', cap', h1, _, h2, h3, h4⟩
            · cases h
            · simp only [Value.slice.injEq, Option.some.injEq, Addr.mk.injEq] at h2
              obtain ⟨⟨rfl, _⟩, rfl, _⟩ := h2
              exact ⟨h1, fun wq hb j hj => by
                obtain ⟨b, g1, g2⟩ := h4 j hj
                exact ⟨b, g1, (hb.cell (p := ⟨g, j, none⟩) h3).trans g2⟩⟩
          have HG : Hid (∀ wq, Below w5.heap.size w5 wq → ∀ j, j < p → ∃ b, X[(upN U j k).toNat]? = some b ∧ wq.cell? ⟨g, j, none⟩ = some (.int .u64 b.id)) := hg
          have HRI : Hid (Ring U n k p) := hR
          have hp1 : (0 : Int) < (p : Int) := by have := hR.pos; omega
          have hp2 : (p : Int) ≤ 1000 := by omega
          clear c2 c3 cu3 HRT hR hg
          go_loopw [11, 12] (fun z11 z12 wq => ∃ (j : Nat) (B : Bool), z11 = .bool B ∧ z12 = .int .i64 j ∧ j ≤ p ∧ LstB X U k j a.id B ∧ Below w5.heap.size w5 wq) (fun _ z12 _ => p - (intOf z12).toNat)
          case atStart => exact ⟨0, true, by (simp; omega), rfl, by omega, ⟨fun _ t ht => by omega, fun _ => rfl⟩, Below.refl _ _⟩
          case round =>
            obtain ⟨j, B, rfl, rfl, hjp, hL, hbq⟩ := hrel
            have HBQ : Hid (Below w5.heap.size w5 wr) := hbq
            have HL : Hid (LstB X U k j a.id B) := hL
            clear hbq hL
            by_cases hlt2 : j < p
            · obtain ⟨b', hb', cj⟩ := HG.out wr HBQ.out j hlt2
              have hin2 : (j : Int) < (p : Int) := by omega
              have HB' : Hid (X[(upN U j k).toNat]? = some b') := hb'
              obtain ⟨c2, -, -⟩ := HC.out wr (HR5.out wr HBQ.out).2
              clear hb' HG
              cases B with
              | false =>
                go_wp2
                go_quiet (fail)
                go_wp2
                go_roundw
                case rel => exact ⟨j + 1, false, rfl, by simp, by omega, by have := HL.out.step HB'.out; simpa using this, HBQ.out.trans ⟨rfl, rfl, rfl, Nat.le_refl _, fun _ _ => rfl⟩⟩
                case measure => (simp [intOf]; try omega)
              | true =>
                by_cases hge : a.id ≤ b'.id
                · have dge : decide (a.id ≤ b'.id) = true := decide_eq_true hge
                  go_wp2
                  go_region
                  go_wp2
                  go_roundw
                  case rel => exact ⟨j + 1, true, rfl, by simp, by omega, by have := HL.out.step HB'.out; simpa [hge] using this, HBQ.out.drew⟩
                  case measure => (simp [intOf]; try omega)
                · have dge : decide (a.id ≤ b'.id) = false := decide_eq_false hge
                  go_wp2
                  go_region
                  go_wp2
                  go_roundw
                  case rel => exact ⟨j + 1, false, rfl, by simp, by omega, by have h5 := HL.out.step HB'.out; rw [show (true && decide (b'.id ≥ a.id)) = false from (by rw [Bool.true_and]; exact decide_eq_false (by omega))] at h5; exact h5, HBQ.out.drew⟩
                  case measure => (simp [intOf]; try omega)
            · have hni2 : ¬ (j : Int) < (p : Int) := by omega
              have HLX : Hid (B = true ↔ LeastX X U k) := by
                obtain rfl : j = p := by omega
                refine ⟨fun hB => ⟨j, by rw [HO.out.2.2.2]; exact HRI.out, fun t ht a' b' ha' hb' => ?_⟩, fun ⟨p', hp', hm⟩ => HL.out.2 fun t ht b' hb' => ?_⟩
                · obtain rfl := Option.some.inj (HO.out.1.symm.trans ha')
                  exact HL.out.1 hB t ht b' hb'
                · rw [HO.out.2.2.2] at hp'
                  obtain rfl := hp'.uniq HRI.out
                  exact hm t ht a b' HO.out.1 hb'
              clear HL HG HRI
              have HBW : Hid (Below w3.heap.size w3 wr) := (HR5.out wr HBQ.out).2
              obtain ⟨_, c3, cu3⟩ := HC.out wr HBW.out
              have cog := (HR5.out wr HBQ.out).1
              by_cases hp0 : a.par = 0
              · have e1 : (a.par == 0) = true := by simp [hp0]
                obtain rfl : og = 1 := HTL.out.1 hp0
                clear hp0
                go_wp2
                go_roundw
                case rel => exact ⟨k + 1, by simp, by omega, HBW.out⟩
                case measure => (simp [intOf]; try omega)
              · have e1 : (a.par == 0) = false := by simp [hp0]
                by_cases hu0 : u < 0
                · obtain rfl : og = 2 := HTL.out.2.1 hp0 hu0
                  go_wp2
                  go_roundw
                  case rel => exact ⟨k + 1, by simp, by omega, HBW.out⟩
                  case measure => (simp [intOf]; try omega)
                · cases B with
                  | true =>
                    obtain rfl : og = 3 := HTL.out.2.2.1 hp0 (by omega) (HLX.out.1 rfl)
                    go_wp2
                    go_roundw
                    case rel => exact ⟨k + 1, by simp, by omega, HBW.out⟩
                    case measure => (simp [intOf]; try omega)
                  | false =>
                    obtain rfl : og = 0 := HTL.out.2.2.2 hp0 (by omega) (fun h => by have := HLX.out.2 h; cases this)
                    go_wp2
                    go_roundw
                    case rel => exact ⟨k + 1, by simp, by omega, HBW.out⟩
                    case measure => (simp [intOf]; try omega)
      · have hni : ¬ (k : Int) < (n : Int) := by omega
        have HB : Hid (Below w.heap.size w wr) := hbw.trans (hbr.mono hbw.size)
        clear h1 hPU hAS hUr hb23 hbw hbr hlt hkn HS
        go_wp2
        go_ret
        exact ⟨rfl, HB.out⟩
  · go_ret
    exact ⟨rfl, h3⟩
end Go.Proofs.YtbbonnbcenhkeaaGreatDoor
