/-
  SbF.
-/
import Derived.Test.YtdodempnkkkbmaaDoorSbC
namespace Go.Proofs.YtdodempnkkkbmaaDoor
open Go Go.RowKit
set_option maxRecDepth 100000

/-- Traces that lie in memory, anywhere in a block. -/
def TrO (w : World) (ad : Option Addr) (T : List Tr) : Prop :=
  0 < T.length → ∃ b o, ad = some ⟨b, o, none⟩ ∧ b < w.heap.size ∧ ∀ i (hi : i < T.length), w.cell? ⟨b, o + i * 2, none⟩ = some (.int .u64 (bvI T[i].1)) ∧ w.cell? ⟨b, o + i * 2 + 1, none⟩ = some (.int .u64 (bvI T[i].2))
theorem TrO.below {w w' : World} {ad : Option Addr} {T : List Tr} (h : TrO w ad T) (hb : Below w.heap.size w w') : TrO w' ad T := fun hn => by
  obtain ⟨b, o, e, hl, hc⟩ := h hn
  exact ⟨b, o, e, Nat.lt_of_lt_of_le hl hb.size, fun i hi => ⟨(hb.cell (p := ⟨b, o + i * 2, none⟩) hl).trans (hc i hi).1, (hb.cell (p := ⟨b, o + i * 2 + 1, none⟩) hl).trans (hc i hi).2⟩⟩
theorem run_eqTr (a b : Tr) (W : World) : (binOp .eql 32 (.agg #[.int .u64 (bvI a.1), .int .u64 (bvI a.2)]) (.agg #[.int .u64 (bvI b.1), .int .u64 (bvI b.2)])).run Tryd.prog W = .ok (.bool (decide (a = b))) W := by
  have h := run_eql_of (eqI_trace 9998 (bvI a.1) (bvI a.2) (bvI b.1) (bvI b.2) W)
  rw [h]
  congr 2
  by_cases e : a = b
  · subst e; simp
  · have : ¬ (bvI a.1 = bvI b.1 ∧ bvI a.2 = bvI b.2) := fun ⟨h1, h2⟩ => e (Prod.ext (bvI_inj h1) (bvI_inj h2))
    simp [e, this]
/-- What chosen looks at. -/
def ChoE (w W : World) (ba la : Option Addr) (T L : List Tr) : Prop := Below w.heap.size w W ∧ TrAt W ba T ∧ TrO W la L
theorem ChoE.below {w W W' : World} {ba la : Option Addr} {T L : List Tr} (h : ChoE w W ba la T L) (hb : Below W.heap.size W W') : ChoE w W' ba la T L := ⟨h.1.trans (hb.mono h.1.size), h.2.1.below hb, h.2.2.below hb⟩
theorem ChoE.drewN {w W : World} {ba la : Option Addr} {T L : List Tr} (h : ChoE w W ba la T L) (n : Nat) : ChoE w (W.drewN n) ba la T L := h.below ⟨rfl, rfl, rfl, Nat.le_refl _, fun _ _ => rfl⟩
set_option maxHeartbeats 8000000 in
theorem chosen_any (ba la : Option Addr) (n m ca cl most : Nat) (T L : List Tr) (w : World) (hA : TrAt w ba T) (hB : TrO w la L) (ea : T.length = n) (eb : L.length = m) (hT : TopF most L T) (hm : m ≤ 70368744177664) (hmost : 2 ≤ most ∧ most ≤ 1000) :
    Calls Tryd.prog 11 #[.slice ba n ca, .slice la m cl, .int .i64 most] w fun e w' => e = .returned (.bool true) ∧ Below w.heap.size w w' := by
  have E0 : Hid (ChoE w w ba la T L) := ⟨Below.refl _ _, hA, hB⟩
  have hn : n ≤ most := by rw [← ea]; exact hT.len
  have hni : (n : Int) ≤ 1000 := by omega
  have hmi : (m : Int) ≤ 70368744177664 := by omega
  have hnm : ¬ (most : Int) < (n : Int) := by omega
  have HT : Hid (TopF most L T ∧ T.length = n ∧ L.length = m) := ⟨hT, ea, eb⟩
  clear hA hB ea eb hT
  have hmo : (most : Int) ≤ 1000 := by omega
  go_enter Tryd.func11, Tryd.ntmps11
  go_wp2
  go_loopw [7] (fun z wr => ∃ i : Nat, z = .int .i64 i ∧ 1 ≤ i ∧ Hid (i ≤ 1000) ∧ Hid (ChoE w wr ba la T L)) (fun z _ => n - (intOf z).toNat)
  case atStart => exact ⟨1, rfl, by omega, (by decide : (1 : Nat) ≤ 1000), E0⟩
  case round =>
    obtain ⟨i, rfl, hi1, hin, HE⟩ := hrel
    clear E0
    by_cases hlt : i < n
    · have hlt' : (i : Int) < (n : Int) := by omega
      obtain ⟨k, hk⟩ : ∃ k, i = k + 1 := ⟨i - 1, by omega⟩
      have hwk : IntKind.i64.wrap ((i : Int) - 1) = (k : Int) := by simp [IntKind.wrap, IntKind.bits, IntKind.signed]; omega
      have hk0 : (0 : Int) ≤ (k : Int) := by omega
      have hkn : (k : Int) < (n : Int) := by omega
      have hiT : i < T.length := by rw [HT.out.2.1]; exact hlt
      have hkT : k < T.length := by omega
      obtain ⟨g, e, hg, hc⟩ := HE.out.2.1 (by omega)
      have hci := hc i hiT
      have hck := hc k hkT
      have hord : ltF T[k] T[i] := List.pairwise_iff_getElem.1 HT.out.1.pw k i hkT hiT (by omega)
      obtain ⟨x, hx⟩ : ∃ x, T[i] = x := ⟨_, rfl⟩
      obtain ⟨y, hy⟩ : ∃ y, T[k] = y := ⟨_, rfl⟩
      rw [hx] at hci hord
      rw [hy] at hck hord
      subst e
      have LS : Hid (∀ W, Calls Tryd.prog 20 #[.agg #[.int .u64 (bvI y.1), .int .u64 (bvI y.2)], .agg #[.int .u64 (bvI x.1), .int .u64 (bvI x.2)]] W fun e w' => e = .returned (.bool true) ∧ Below W.heap.size W w') := fun W => by
        have := rLess_any y x W
        rw [show decide (cmpF y x < 0) = true from decide_eq_true hord] at this
        exact this
      have KB : ∀ W, Below wr.heap.size wr W → W.cell? ⟨g, k * 2, none⟩ = some (.int .u64 (bvI y.1)) ∧ W.cell? ⟨g, k * 2 + 1, none⟩ = some (.int .u64 (bvI y.2)) ∧ W.cell? ⟨g, i * 2, none⟩ = some (.int .u64 (bvI x.1)) ∧ W.cell? ⟨g, i * 2 + 1, none⟩ = some (.int .u64 (bvI x.2)) := fun W hW =>
        ⟨(hW.cell (p := ⟨g, k * 2, none⟩) hg).trans hck.1, (hW.cell (p := ⟨g, k * 2 + 1, none⟩) hg).trans hck.2, (hW.cell (p := ⟨g, i * 2, none⟩) hg).trans hci.1, (hW.cell (p := ⟨g, i * 2 + 1, none⟩) hg).trans hci.2⟩
      have B0 : Below wr.heap.size wr wr.drew := (Below.refl _ _).drew
      have hin' : i + 1 ≤ 1000 := by omega
      clear hc hci hck hord hx hy hk hiT hkT hg hin
      go_upto_region 4 with fail
      go_region_held3 (fun W => W.cell? ⟨g, k * 2, none⟩ = some (.int .u64 (bvI y.1)) ∧ W.cell? ⟨g, k * 2 + 1, none⟩ = some (.int .u64 (bvI y.2)) ∧ W.cell? ⟨g, i * 2, none⟩ = some (.int .u64 (bvI x.1)) ∧ W.cell? ⟨g, i * 2 + 1, none⟩ = some (.int .u64 (bvI x.2))) (first | exact KB _ B0 | exact KB _ B1) (first
        | (go_at_call 20; (with_reducible refine (LS.out _).mono ?_); clear LS; rintro e w1 ⟨rfl, hb1⟩; have B1 : Below wr.heap.size wr w1 := B0.trans (hb1.mono B0.size); clear hb1)
        | fail)
      all_goals
        have HN : Hid (ChoE w w1 (some ⟨g, 0, none⟩) la T L) := HE.out.below B1
        clear KB B0 B1 HE
        go_wp2
        go_roundw
        case rel => exact ⟨i + 1, by go_num, by omega, hin', HN⟩
        case measure => (simp [intOf]; omega)
    · have hlt' : ¬ (i : Int) < (n : Int) := by omega
      clear hin
      go_wp2
      go_loopw [8, 9] (fun f z wr => ∃ i : Nat, f = .int .i64 i ∧ z = .int .i64 i ∧ i ≤ n ∧ Hid (ChoE w wr ba la T L)) (fun _ z _ => n - (intOf z).toNat)
      case atStart => exact ⟨0, rfl, rfl, by omega, HE⟩
      case round =>
        obtain ⟨i2, rfl, rfl, hi2, HE⟩ := hrel
        by_cases h2 : i2 < n
        · have h2' : (i2 : Int) < (n : Int) := by omega
          have hiT : i2 < T.length := by rw [HT.out.2.1]; exact h2
          obtain ⟨x, hx⟩ : ∃ x, T[i2] = x := ⟨_, rfl⟩
          have HX : Hid (∃ h : i2 < T.length, T[i2] = x) := ⟨hiT, hx⟩
          have HM : Hid (x ∈ L) := HT.out.1.sub x (hx ▸ List.getElem_mem hiT)
          clear hx hiT
          go_wp2
          go_loopw [8, 10] (fun f z wr => ∃ k : Nat, f = .int .i64 i2 ∧ z = .int .i64 k ∧ k ≤ m ∧ Hid (x ∉ L.take k) ∧ Hid (ChoE w wr ba la T L)) (fun _ z _ => m - (intOf z).toNat)
          case atStart => exact ⟨0, rfl, rfl, by omega, (by simp : x ∉ L.take 0), HE⟩
          case round =>
            obtain ⟨k, rfl, rfl, hk, HK, HE⟩ := hrel
            by_cases h3 : k < m
            · have h3' : (k : Int) < (m : Int) := by omega
              have hkL : k < L.length := by rw [HT.out.2.2]; exact h3
              obtain ⟨hiT, hx⟩ := HX.out
              obtain ⟨g, e, hg, hc⟩ := HE.out.2.1 (by omega)
              obtain ⟨b, o, e', hb, hd⟩ := HE.out.2.2 (by omega)
              have hci := hc i2 hiT
              have hdk := hd k hkL
              rw [hx] at hci
              obtain ⟨y, hy⟩ : ∃ y, L[k] = y := ⟨_, rfl⟩
              rw [hy] at hdk
              subst e e'
              have a0 := hci.1
              have a1 := hci.2
              have b0 := hdk.1
              have b1 := hdk.2
              have hq := run_eqTr y x
              have hgd := guard_trace
              have HN : Hid (∀ q, ChoE w (wr.drewN q) (some ⟨g, 0, none⟩) (some ⟨b, o, none⟩) T L) := fun q => HE.out.drewN q
              by_cases he : y = x
              · have hde : decide (y = x) = true := decide_eq_true he
                rw [hde] at hq
                clear hc hd hci hdk hx hy hiT hkL HE he hde hg hb
                go_upto_region 15 with fail
                go_quiet (fail)
                go_wp2
                go_roundw
                case rel => exact ⟨i2 + 1, by go_num, by go_num, by omega, HN.out _⟩
                case measure => (simp [intOf]; omega)
              · have hde : decide (y = x) = false := decide_eq_false he
                rw [hde] at hq
                have HK' : Hid (x ∉ L.take (k + 1)) := fun hm => by
                  rw [List.take_add_one, List.getElem?_eq_getElem hkL, hy] at hm
                  rcases List.mem_append.1 hm with h | h
                  · exact HK.out h
                  · simp at h
                    exact he h.symm
                clear hc hd hci hdk hx hy hiT hkL HE he hde hg hb HK
                go_upto_region 15 with fail
                go_quiet (fail)
                go_wp2
                go_roundw
                case rel => exact ⟨k + 1, rfl, by go_num, by omega, HK', HN.out _⟩
                case measure => (simp [intOf]; omega)
            · exact absurd HM.out (by
                have := HK.out
                rwa [List.take_of_length_le (by rw [HT.out.2.2]; omega)] at this)
        · obtain rfl : n = i2 := by omega
          clear hi2 h2 hlt hlt' hi1
          go_wp2
          go_loopw [11] (fun z wr => ∃ k : Nat, z = .int .i64 k ∧ k ≤ m ∧ Hid (ChoE w wr ba la T L)) (fun z _ => m - (intOf z).toNat)
          case atStart => exact ⟨0, rfl, by omega, HE⟩
          case round =>
            obtain ⟨k, rfl, hk, HE⟩ := hrel
            by_cases h3 : k < m
            · have h3' : (k : Int) < (m : Int) := by omega
              have hkL : k < L.length := by rw [HT.out.2.2]; exact h3
              obtain ⟨y, hy⟩ : ∃ y, L[k] = y := ⟨_, rfl⟩
              have HY : Hid (∃ h : k < L.length, L[k] = y) := ⟨hkL, hy⟩
              clear hy hkL
              go_wp2
              go_loopw [12, 13] (fun c z wr => ∃ (i : Nat) (cb : Bool), c = .bool cb ∧ z = .int .i64 i ∧ i ≤ n ∧ Hid (cb = true → y ∈ T) ∧ Hid (cb = false → y ∉ T.take i) ∧ Hid (ChoE w wr ba la T L)) (fun _ z _ => n - (intOf z).toNat)
              case atStart => exact ⟨0, false, rfl, rfl, by omega, (show false = true → y ∈ T from fun h => Bool.noConfusion h), (show false = false → y ∉ T.take 0 from fun _ => by simp), HE⟩
              case round =>
                obtain ⟨i, cb, rfl, rfl, hi, HC1, HC2, HE⟩ := hrel
                cases cb with
                | true =>
                  have HN : Hid (∀ q, ChoE w (wr.drewN q) ba la T L) := fun q => HE.out.drewN q
                  clear HC1 HC2 HE
                  by_cases h4 : i < n
                  · have h4' : (i : Int) < (n : Int) := by omega
                    go_wp2
                    go_upto_region 25 with fail
                    go_quiet (fail)
                    go_wp2
                    go_roundw
                    case rel => exact ⟨k + 1, by go_num, by omega, HN.out _⟩
                    case measure => (simp [intOf]; omega)
                  · have h4' : ¬ (i : Int) < (n : Int) := by omega
                    go_wp2
                    go_upto_region 25 with fail
                    go_quiet (fail)
                    go_wp2
                    go_roundw
                    case rel => exact ⟨k + 1, by go_num, by omega, HN.out _⟩
                    case measure => (simp [intOf]; omega)
                | false =>
                  by_cases h4 : i < n
                  · have h4' : (i : Int) < (n : Int) := by omega
                    have hiT : i < T.length := by rw [HT.out.2.1]; exact h4
                    obtain ⟨hkL, hy⟩ := HY.out
                    obtain ⟨g, e, hg, hc⟩ := HE.out.2.1 (by omega)
                    obtain ⟨b, o, e', hb, hd⟩ := HE.out.2.2 (by omega)
                    have hci := hc i hiT
                    have hdk := hd k hkL
                    rw [hy] at hdk
                    obtain ⟨x, hx⟩ : ∃ x, T[i] = x := ⟨_, rfl⟩
                    rw [hx] at hci
                    subst e e'
                    have a0 := hci.1
                    have a1 := hci.2
                    have b0 := hdk.1
                    have b1 := hdk.2
                    have hq := run_eqTr x y
                    have hgd := guard_trace
                    have HN : Hid (∀ q, ChoE w (wr.drewN q) (some ⟨g, 0, none⟩) (some ⟨b, o, none⟩) T L) := fun q => HE.out.drewN q
                    have HD1 : Hid (decide (x = y) = true → y ∈ T) := fun h => by
                      have := of_decide_eq_true h
                      rw [← this, ← hx]
                      exact List.getElem_mem hiT
                    have HD2 : Hid (decide (x = y) = false → y ∉ T.take (i + 1)) := fun h hm => by
                      rw [List.take_add_one, List.getElem?_eq_getElem hiT, hx] at hm
                      rcases List.mem_append.1 hm with h5 | h5
                      · exact HC2.out rfl h5
                      · simp at h5
                        exact (of_decide_eq_false h) h5.symm
                    generalize decide (x = y) = cb at *
                    clear hc hd hci hdk hx hy hiT hkL HE hg hb HC1 HC2
                    go_upto_region 24 with fail
                    go_quiet (fail)
                    go_wp2
                    go_roundw
                    case rel => exact ⟨i + 1, cb, rfl, by go_num, by omega, HD1, HD2, HN.out _⟩
                    case measure => (simp [intOf]; omega)
                  · have h4' : ¬ (i : Int) < (n : Int) := by omega
                    have hyT : y ∉ T := by
                      have := HC2.out rfl
                      rwa [List.take_of_length_le (by rw [HT.out.2.1]; omega)] at this
                    obtain ⟨hkL, hy⟩ := HY.out
                    obtain ⟨hfull, hall⟩ := HT.out.1.rest y (hy ▸ List.getElem_mem hkL) hyT
                    have hnl : T.length = n := HT.out.2.1
                    obtain ⟨p, hp⟩ : ∃ p, n = p + 1 := ⟨n - 1, by omega⟩
                    have hpT : p < T.length := by omega
                    obtain ⟨g, e, hg, hc⟩ := HE.out.2.1 (by omega)
                    obtain ⟨b, o, e', hb, hd⟩ := HE.out.2.2 (by omega)
                    have hci := hc p hpT
                    have hdk := hd k hkL
                    rw [hy] at hdk
                    obtain ⟨x, hx⟩ : ∃ x, T[p] = x := ⟨_, rfl⟩
                    rw [hx] at hci
                    have hlo : ltF x y := hall x (hx ▸ List.getElem_mem hpT)
                    have hnlt : ¬ cmpF y x < 0 := fun h => ltF_irr x (ltF_trans hlo h)
                    subst e e'
                    have LS : Hid (∀ W, Calls Tryd.prog 20 #[.agg #[.int .u64 (bvI y.1), .int .u64 (bvI y.2)], .agg #[.int .u64 (bvI x.1), .int .u64 (bvI x.2)]] W fun e w' => e = .returned (.bool false) ∧ Below W.heap.size W w') := fun W => by
                      have := rLess_any y x W
                      rw [show decide (cmpF y x < 0) = false from decide_eq_false hnlt] at this
                      exact this
                    have KB : ∀ W, Below wr.heap.size wr W → W.cell? ⟨b, o + k * 2, none⟩ = some (.int .u64 (bvI y.1)) ∧ W.cell? ⟨b, o + k * 2 + 1, none⟩ = some (.int .u64 (bvI y.2)) ∧ W.cell? ⟨g, p * 2, none⟩ = some (.int .u64 (bvI x.1)) ∧ W.cell? ⟨g, p * 2 + 1, none⟩ = some (.int .u64 (bvI x.2)) := fun W hW =>
                      ⟨(hW.cell (p := ⟨b, o + k * 2, none⟩) hb).trans hdk.1, (hW.cell (p := ⟨b, o + k * 2 + 1, none⟩) hb).trans hdk.2, (hW.cell (p := ⟨g, p * 2, none⟩) hg).trans hci.1, (hW.cell (p := ⟨g, p * 2 + 1, none⟩) hg).trans hci.2⟩
                    have B0 : Below wr.heap.size wr wr.drew := (Below.refl _ _).drew
                    have hwp : IntKind.i64.wrap ((n : Int) - 1) = (p : Int) := by simp [IntKind.wrap, IntKind.bits, IntKind.signed]; omega
                    have hp0 : (0 : Int) ≤ (p : Int) := by omega
                    have hpn : (p : Int) < (n : Int) := by omega
                    have hnm1 : decide ((n : Int) < (most : Int)) = false := by simp; omega
                    have hnm2 : ¬ (n : Int) < (most : Int) := by omega
                    clear hc hd hci hdk hx hy hkL hg hb HC1 HC2 hyT hfull hall hnl hp hpT hlo hnlt
                    go_upto_region 25 with fail
                    go_region_held3 (fun W => W.cell? ⟨b, o + k * 2, none⟩ = some (.int .u64 (bvI y.1)) ∧ W.cell? ⟨b, o + k * 2 + 1, none⟩ = some (.int .u64 (bvI y.2)) ∧ W.cell? ⟨g, p * 2, none⟩ = some (.int .u64 (bvI x.1)) ∧ W.cell? ⟨g, p * 2 + 1, none⟩ = some (.int .u64 (bvI x.2))) (first | exact KB _ B0 | exact KB _ B1) (first
                      | (go_at_call 20; (with_reducible refine (LS.out _).mono ?_); clear LS; rintro e w1 ⟨rfl, hb1⟩; have B1 : Below wr.heap.size wr w1 := B0.trans (hb1.mono B0.size); clear hb1)
                      | fail)
                    all_goals
                      have HN : Hid (ChoE w w1 (some ⟨g, 0, none⟩) (some ⟨b, o, none⟩) T L) := HE.out.below B1
                      clear KB B0 B1 HE
                      go_wp2
                      go_roundw
                      case rel => exact ⟨k + 1, by go_num, by omega, HN⟩
                      case measure => (simp [intOf]; omega)
            · obtain rfl : m = k := by omega
              have HW : Hid (Below w.heap.size w wr) := HE.out.1
              have enn : ((n : Int) == (n : Int)) = true := by simp
              clear HE h3 hk
              go_wp2
              go_ret
              exact ⟨rfl, HW.out⟩
end Go.Proofs.YtdodempnkkkbmaaDoor
