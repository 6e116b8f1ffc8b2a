/-
  Merged: SaQ, SaR.
-/
import Derived.Test.YtpcfchbiohbcoaaDoorSaK
namespace Go.Proofs.YtpcfchbiohbcoaaDoor
open Go Go.RowKit
set_option maxRecDepth 100000

/-- A trace's name. -/
abbrev Tr : Type := BitVec 64 × BitVec 64
def trC (a : Tr) : List Value := [.int .u64 (bvI a.1), .int .u64 (bvI a.2)]
def mixT (a : Tr) : Int := bvI (mixB a.1 a.2)
def keyT (a : Tr) : Int × Int × Int := (mixT a, bvI a.1, bvI a.2)
theorem keyT_inj (a b : Tr) (h : keyT a = keyT b) : a = b := by
  unfold keyT at h
  simp only [Prod.mk.injEq] at h
  exact Prod.ext (bvI_inj h.2.1) (bvI_inj h.2.2)
/-- The order. -/
def cmpF (a b : Tr) : Int := orI (cmpI (mixT a) (mixT b)) (orI (cmpI (bvI a.1) (bvI b.1)) (cmpI (bvI a.2) (bvI b.2)))
theorem good_cmpF : Good cmpF := (good_cmpI.lex (good_cmpI.lex good_cmpI)).comap keyT keyT_inj
theorem orL3 (x y z : Int) : orL [x, y, z] = orI x (orI y z) := by
  show orI x (orI y (orI z 0)) = _
  have : orI z 0 = z := by unfold orI; split <;> omega
  rw [this]
set_option maxHeartbeats 2000000 in
theorem order_any (a b : Tr) (w : World) :
    Calls Tryd.prog 32 #[.agg #[.int .u64 (bvI a.1), .int .u64 (bvI a.2)], .agg #[.int .u64 (bvI b.1), .int .u64 (bvI b.2)]] w fun e w' => e = .returned (.int .i64 (cmpF a b)) ∧ Below w.heap.size w w' := by
  have MA : Hid (∀ W, Calls Tryd.prog 22 #[.agg #[.int .u64 (bvI a.1), .int .u64 (bvI a.2)]] W fun e w' => e = .returned (.int .u64 (mixT a)) ∧ Below W.heap.size W w') := fun W => mix_any a.1 a.2 W
  have MB : Hid (∀ W, Calls Tryd.prog 22 #[.agg #[.int .u64 (bvI b.1), .int .u64 (bvI b.2)]] W fun e w' => e = .returned (.int .u64 (mixT b)) ∧ Below W.heap.size W w') := fun W => mix_any b.1 b.2 W
  have HR : Hid (cmpF a b = orL [cmpI (mixT a) (mixT b), cmpI (bvI a.1) (bvI b.1), cmpI (bvI a.2) (bvI b.2)]) := by rw [orL3]; rfl
  generalize cmpF a b = r at *
  generalize mixT a = ma at *
  generalize mixT b = mb at *
  generalize bvI a.1 = x at *
  generalize bvI a.2 = y at *
  generalize bvI b.1 = u at *
  generalize bvI b.2 = v at *
  go_enter Tryd.func32, Tryd.ntmps32
  go_upto_region 1 with fail
  obtain ⟨w0, hw0⟩ : ∃ w0, (w.alloc (.cells #[.int .u64 x, .int .u64 y] 33)).alloc (.cells #[.int .u64 u, .int .u64 v] 33) = w0 := ⟨_, rfl⟩
  have H0 : Hid (Below w.heap.size w w0) := by rw [← hw0]; exact belowAllocs (Below.refl _ _) (Nat.le_refl _) _ _
  have KB : ∀ W, Below w0.heap.size w0 W → W.cell? ⟨w.heap.size, 0, none⟩ = some (.int .u64 x) ∧ W.cell? ⟨w.heap.size, 1, none⟩ = some (.int .u64 y) ∧ W.cell? ⟨w.heap.size + 1, 0, none⟩ = some (.int .u64 u) ∧ W.cell? ⟨w.heap.size + 1, 1, none⟩ = some (.int .u64 v) := fun W hW => by
    subst hw0
    have k1 : Blk ((w.alloc (.cells #[.int .u64 x, .int .u64 y] 33)).alloc (.cells #[.int .u64 u, .int .u64 v] 33)) w.heap.size #[.int .u64 x, .int .u64 y] 33 := (Blk.new _ _ _).alloc _
    have k2 : Blk ((w.alloc (.cells #[.int .u64 x, .int .u64 y] 33)).alloc (.cells #[.int .u64 u, .int .u64 v] 33)) (w.heap.size + 1) #[.int .u64 u, .int .u64 v] 33 := Blk.new2 _ _ _ _
    have k1 := k1.below hW k1.lt
    have k2 := k2.below hW k2.lt
    exact ⟨k1.cell 0 rfl, k1.cell 1 rfl, k2.cell 0 rfl, k2.cell 1 rfl⟩
  rw [hw0]
  have B0 : Below w0.heap.size w0 w0.drew := (Below.refl _ _).drew
  have M1 := MA.out w0.drew
  have C1 := cmp_u64 ma mb
  have C2 := cmp_u64 x u
  have C3 := cmp_u64 y v
  generalize cmpI ma mb = k1 at *
  generalize cmpI x u = k2 at *
  generalize cmpI y v = k3 at *
  clear hw0 MA
  go_region_held3 (fun W => W.cell? ⟨w.heap.size, 0, none⟩ = some (.int .u64 x) ∧ W.cell? ⟨w.heap.size, 1, none⟩ = some (.int .u64 y) ∧ W.cell? ⟨w.heap.size + 1, 0, none⟩ = some (.int .u64 u) ∧ W.cell? ⟨w.heap.size + 1, 1, none⟩ = some (.int .u64 v)) (first | exact KB _ B0 | exact KB _ B1 | exact KB _ B2 | exact KB _ (B2.alloc B2.size _)) (first
    | (go_at_call 22; (with_reducible refine M1.mono ?_); clear M1; rintro e w1 ⟨rfl, hb1⟩; have B1 : Below w0.heap.size w0 w1 := B0.trans (hb1.mono B0.size); have M2 := MB.out w1; clear hb1)
    | (go_at_call 22; (with_reducible refine M2.mono ?_); clear M2; rintro e w2 ⟨rfl, hb2⟩; have B2 : Below w0.heap.size w0 w2 := B1.trans (hb2.mono B1.size); have D1 := C1 w2; have D2 := C2 w2; have D3 := C3 w2; have OR := or_plain w2 w2.heap.size [k1, k2, k3] rfl (by simp); clear hb2 C1 C2 C3)
    | (go_at_call 50; (with_reducible refine D1.mono ?_); clear D1; rintro e w' ⟨rfl, rfl⟩)
    | (go_at_call 50; (with_reducible refine D2.mono ?_); clear D2; rintro e w' ⟨rfl, rfl⟩)
    | (go_at_call 50; (with_reducible refine D3.mono ?_); clear D3; rintro e w' ⟨rfl, rfl⟩)
    | (go_at_call 49; refine OR.mono ?_; clear OR; rintro e w' ⟨rfl, rfl⟩))
  have HE : Hid (∀ o, Below w.heap.size w (w'.alloc o)) := fun o => H0.out.trans ((B2.alloc B2.size o).mono H0.out.size)
  go_wp2
  go_ret
  refine ⟨congrArg (fun z => Ending.returned (.int .i64 z)) (?_ : orL [k1, k2, k3] = r), HE.out _⟩
  exact HR.out.symm
end Go.Proofs.YtpcfchbiohbcoaaDoor

namespace Go.Proofs.YtpcfchbiohbcoaaDoor
open Go Go.RowKit
set_option maxRecDepth 100000

/-- Traces in memory. -/
def TrAt (w : World) (ad : Option Addr) (T : List Tr) : Prop :=
  0 < T.length → ∃ b, ad = some ⟨b, 0, none⟩ ∧ b < w.heap.size ∧ ∀ i (hi : i < T.length), w.cell? ⟨b, i * 2, none⟩ = some (.int .u64 (bvI T[i].1)) ∧ w.cell? ⟨b, i * 2 + 1, none⟩ = some (.int .u64 (bvI T[i].2))
theorem TrAt.below {w w' : World} {ad : Option Addr} {T : List Tr} (h : TrAt w ad T) (hb : Below w.heap.size w w') : TrAt w' ad T := fun hn => by
  obtain ⟨b, e, hl, hc⟩ := h hn
  exact ⟨b, e, Nat.lt_of_lt_of_le hl hb.size, fun i hi => ⟨(hb.cell (p := ⟨b, i * 2, none⟩) hl).trans (hc i hi).1, (hb.cell (p := ⟨b, i * 2 + 1, none⟩) hl).trans (hc i hi).2⟩⟩
/-- In their order, each once. -/
def RiseF (T : List Tr) : Prop := ∀ i j (hi : i < T.length) (hj : j < T.length), i < j → cmpF T[i] T[j] = -1
/-- How many come ahead. -/
def SpotF (T : List Tr) (t : Tr) (p : Nat) : Prop := p ≤ T.length ∧ (∀ i (hi : i < T.length), i < p → cmpF T[i] t < 0) ∧ (∀ i (hi : i < T.length), p ≤ i → 0 ≤ cmpF T[i] t)
theorem RiseF.low {T : List Tr} (h : RiseF T) {t : Tr} {i j : Nat} (hi : i < T.length) (hj : j < T.length) (hij : i ≤ j) (hlt : cmpF T[j] t < 0) : cmpF T[i] t < 0 := by
  rcases Nat.lt_or_eq_of_le hij with h1 | rfl
  · have h2 := h i j hi hj h1
    have h3 := good_cmpF.trans T[i] T[j] t (by omega) (by omega)
    rcases Int.lt_or_eq_of_le h3 with h4 | h4
    · exact h4
    · have e := (good_cmpF.eq _ _).1 h4
      have a := good_cmpF.anti T[i] T[j]
      rw [← e] at hlt
      omega
  · exact hlt
theorem RiseF.high {T : List Tr} (h : RiseF T) {t : Tr} {i j : Nat} (hi : i < T.length) (hj : j < T.length) (hij : i ≤ j) (hge : 0 ≤ cmpF T[i] t) : 0 ≤ cmpF T[j] t := by
  rcases Int.lt_or_le (cmpF T[j] t) 0 with h1 | h1
  · have := h.low hi hj hij h1
    omega
  · exact h1
theorem search_any (ad : Option Addr) (n cap : Nat) (T : List Tr) (t : Tr) (w : World) (hA : TrAt w ad T) (hl : T.length = n) (hR : RiseF T) (hn : n ≤ 1000) :
    Calls Tryd.prog 47 #[.slice ad n cap, .agg #[.int .u64 (bvI t.1), .int .u64 (bvI t.2)], .func (.func 32) #[] #[]] w fun e w' => ∃ p f, e = .returned (.tuple #[.int .i64 (p : Nat), .bool f]) ∧ SpotF T t p ∧ (f = true ↔ ∃ h : p < T.length, T[p] = t) ∧ Below w.heap.size w w' := by
  have N0 : Hid (Below w.heap.size w (w.alloc (.cells #[.int .u64 (bvI t.1), .int .u64 (bvI t.2)] 33)) ∧ Blk (w.alloc (.cells #[.int .u64 (bvI t.1), .int .u64 (bvI t.2)] 33)) w.heap.size #[.int .u64 (bvI t.1), .int .u64 (bvI t.2)] 33) := ⟨(Below.refl _ _).alloc (Nat.le_refl _) _, Blk.new _ _ _⟩
  have HA : Hid (TrAt w ad T ∧ RiseF T) := ⟨hA, hR⟩
  have hn0 : (n : Int) ≤ 1000 := by omega
  clear hA hR
  go_enter Tryd.func47, Tryd.ntmps47
  go_wp2
  go_loopw [9, 10] (fun z y wr => ∃ i j : Nat, z = .int .i64 i ∧ y = .int .i64 j ∧ i ≤ j ∧ j ≤ n ∧ Hid ((∀ k (hk : k < T.length), k < i → cmpF T[k] t < 0) ∧ (∀ k (hk : k < T.length), j ≤ k → 0 ≤ cmpF T[k] t) ∧ Below w.heap.size w wr ∧ Blk wr w.heap.size #[.int .u64 (bvI t.1), .int .u64 (bvI t.2)] 33)) (fun z y _ => (intOf y).toNat - (intOf z).toNat)
  case atStart => exact ⟨0, n, rfl, rfl, by omega, by omega, fun k hk h => absurd h (Nat.not_lt_zero _), fun k hk h => absurd hk (by omega), N0.out.1, N0.out.2⟩
  case round =>
    obtain ⟨i, j, rfl, rfl, hij, hjn, HI⟩ := hrel
    clear N0
    by_cases hlt : i < j
    · have hlt' : (i : Int) < (j : Int) := by omega
      obtain ⟨h, hh⟩ : ∃ h, (i + j) / 2 = h := ⟨_, rfl⟩
      have hhT : h < T.length := by omega
      have e0 : IntKind.i64.wrap ((i : Int) + (j : Int)) = (i : Int) + (j : Int) := by simp [IntKind.wrap, IntKind.bits, IntKind.signed]; omega
      have e1 : IntKind.u64.wrap ((i : Int) + (j : Int)) = (i : Int) + (j : Int) := by rw [IntKind.wrap_u64]; omega
      have e2 : ((i : Int) + (j : Int)) / 2 = (h : Int) := by omega
      have e3 : IntKind.i64.wrap (h : Int) = (h : Int) := by simp [IntKind.wrap, IntKind.bits, IntKind.signed]; omega
      have hh0 : (0 : Int) ≤ (h : Int) := by omega
      have hh1 : (h : Int) < (n : Int) := by omega
      obtain ⟨b, rfl, hb, hc⟩ := HA.out.1 (by omega)
      obtain ⟨q, hq⟩ : ∃ q, T[h] = q := ⟨_, rfl⟩
      have hcq := hc h hhT
      rw [hq] at hcq
      have KB : ∀ W, Below wr.heap.size wr W → W.cell? ⟨b, h * 2, none⟩ = some (.int .u64 (bvI q.1)) ∧ W.cell? ⟨b, h * 2 + 1, none⟩ = some (.int .u64 (bvI q.2)) ∧ W.cell? ⟨w.heap.size, 0, none⟩ = some (.int .u64 (bvI t.1)) ∧ W.cell? ⟨w.heap.size, 1, none⟩ = some (.int .u64 (bvI t.2)) := fun W hW => by
        have bw := HI.out.2.2.1.trans (hW.mono HI.out.2.2.1.size)
        have k2 := HI.out.2.2.2.below hW HI.out.2.2.2.lt
        exact ⟨(bw.cell (p := ⟨b, h * 2, none⟩) hb).trans hcq.1, (bw.cell (p := ⟨b, h * 2 + 1, none⟩) hb).trans hcq.2, k2.cell 0 rfl, k2.cell 1 rfl⟩
      have OD := order_any q t wr.drew
      have B0 : Below wr.heap.size wr wr.drew := (Below.refl _ _).drew
      have HQ : Hid (∃ h' : h < T.length, T[h] = q) := ⟨hhT, hq⟩
      obtain ⟨r, hr⟩ : ∃ r, cmpF q t = r := ⟨_, rfl⟩
      have HRR : Hid (cmpF q t = r) := hr
      rw [hr] at OD
      have CELLS : Hid (Blk wr w.heap.size #[.int .u64 (bvI t.1), .int .u64 (bvI t.2)] 33) := HI.out.2.2.2
      have c2 := CELLS.out.cell 0 rfl
      have c3 := CELLS.out.cell 1 rfl
      clear hc hcq hq hr
      by_cases hneg : r < 0
      · go_upto_region 5 with fail
        go_region_held3 (fun W => W.cell? ⟨b, h * 2, none⟩ = some (.int .u64 (bvI q.1)) ∧ W.cell? ⟨b, h * 2 + 1, none⟩ = some (.int .u64 (bvI q.2)) ∧ W.cell? ⟨w.heap.size, 0, none⟩ = some (.int .u64 (bvI t.1)) ∧ W.cell? ⟨w.heap.size, 1, none⟩ = some (.int .u64 (bvI t.2))) (first | exact KB _ B0 | exact KB _ B1) (first
          | (go_at_call 32; refine OD.mono ?_; clear OD; rintro e w1 ⟨rfl, hb1⟩; have B1 : Below wr.heap.size wr w1 := B0.trans (hb1.mono B0.size); clear hb1)
          | fail)
        have HN : Hid ((∀ k (hk : k < T.length), k < h + 1 → cmpF T[k] t < 0) ∧ (∀ k (hk : k < T.length), j ≤ k → 0 ≤ cmpF T[k] t) ∧ Below w.heap.size w w1 ∧ Blk w1 w.heap.size #[.int .u64 (bvI t.1), .int .u64 (bvI t.2)] 33) := ⟨fun k hk hki => by
          obtain ⟨h1, h2⟩ := HQ.out
          exact HA.out.2.low hk h1 (by omega) (by rw [h2, HRR.out]; exact hneg), HI.out.2.1, HI.out.2.2.1.trans (B1.mono HI.out.2.2.1.size), HI.out.2.2.2.below B1 HI.out.2.2.2.lt⟩
        clear KB B0 B1 HI HQ HRR CELLS c2 c3
        go_wp2
        go_roundw
        case rel => exact ⟨h + 1, j, by go_num, rfl, by omega, by omega, HN⟩
        case measure => (simp [intOf]; omega)
      · have hneg2 : 0 ≤ r := by omega
        go_upto_region 5 with fail
        go_region_held3 (fun W => W.cell? ⟨b, h * 2, none⟩ = some (.int .u64 (bvI q.1)) ∧ W.cell? ⟨b, h * 2 + 1, none⟩ = some (.int .u64 (bvI q.2)) ∧ W.cell? ⟨w.heap.size, 0, none⟩ = some (.int .u64 (bvI t.1)) ∧ W.cell? ⟨w.heap.size, 1, none⟩ = some (.int .u64 (bvI t.2))) (first | exact KB _ B0 | exact KB _ B1) (first
          | (go_at_call 32; refine OD.mono ?_; clear OD; rintro e w1 ⟨rfl, hb1⟩; have B1 : Below wr.heap.size wr w1 := B0.trans (hb1.mono B0.size); clear hb1)
          | fail)
        have HN : Hid ((∀ k (hk : k < T.length), k < i → cmpF T[k] t < 0) ∧ (∀ k (hk : k < T.length), h ≤ k → 0 ≤ cmpF T[k] t) ∧ Below w.heap.size w w1 ∧ Blk w1 w.heap.size #[.int .u64 (bvI t.1), .int .u64 (bvI t.2)] 33) := ⟨HI.out.1, fun k hk hki => by
          obtain ⟨h1, h2⟩ := HQ.out
          exact HA.out.2.high h1 hk hki (by rw [h2, HRR.out]; omega), HI.out.2.2.1.trans (B1.mono HI.out.2.2.1.size), HI.out.2.2.2.below B1 HI.out.2.2.2.lt⟩
        clear KB B0 B1 HI HQ HRR CELLS c2 c3
        go_wp2
        go_roundw
        case rel => exact ⟨i, h, rfl, by go_num, by omega, by omega, HN⟩
        case measure => (simp [intOf]; omega)
    · obtain rfl : i = j := by omega
      have HP : Hid (SpotF T t i) := ⟨by omega, fun k hk h => HI.out.1 k hk h, fun k hk h => HI.out.2.1 k hk h⟩
      by_cases hin : i < n
      · have hin1 : (i : Int) < (n : Int) := by omega
        have hi0 : (0 : Int) ≤ (i : Int) := by omega
        have hiT : i < T.length := by omega
        obtain ⟨b, rfl, hb, hc⟩ := HA.out.1 (by omega)
        obtain ⟨q, hq⟩ : ∃ q, T[i] = q := ⟨_, rfl⟩
        have hcq := hc i hiT
        rw [hq] at hcq
        have KB : ∀ W, Below wr.heap.size wr W → W.cell? ⟨b, i * 2, none⟩ = some (.int .u64 (bvI q.1)) ∧ W.cell? ⟨b, i * 2 + 1, none⟩ = some (.int .u64 (bvI q.2)) ∧ W.cell? ⟨w.heap.size, 0, none⟩ = some (.int .u64 (bvI t.1)) ∧ W.cell? ⟨w.heap.size, 1, none⟩ = some (.int .u64 (bvI t.2)) := fun W hW => by
          have bw := HI.out.2.2.1.trans (hW.mono HI.out.2.2.1.size)
          have k2 := HI.out.2.2.2.below hW HI.out.2.2.2.lt
          exact ⟨(bw.cell (p := ⟨b, i * 2, none⟩) hb).trans hcq.1, (bw.cell (p := ⟨b, i * 2 + 1, none⟩) hb).trans hcq.2, k2.cell 0 rfl, k2.cell 1 rfl⟩
        have OD := order_any q t wr.drew
        have B0 : Below wr.heap.size wr wr.drew := (Below.refl _ _).drew
        obtain ⟨r, hr⟩ : ∃ r, cmpF q t = r := ⟨_, rfl⟩
        have HF : Hid ((r == 0) = true ↔ ∃ h : i < T.length, T[i] = t) := by
          have g := good_cmpF.eq q t
          rw [hr] at g
          constructor
          · intro h
            exact ⟨hiT, hq.trans (g.1 (by simpa using h))⟩
          · rintro ⟨h1, h2⟩
            have := g.2 (hq.symm.trans h2)
            simp [this]
        rw [hr] at OD
        have HW : Hid (Below w.heap.size w wr) := HI.out.2.2.1
        clear hc hcq hq hr HI HA
        go_upto_region 8 with fail
        go_region_held3 (fun W => W.cell? ⟨b, i * 2, none⟩ = some (.int .u64 (bvI q.1)) ∧ W.cell? ⟨b, i * 2 + 1, none⟩ = some (.int .u64 (bvI q.2)) ∧ W.cell? ⟨w.heap.size, 0, none⟩ = some (.int .u64 (bvI t.1)) ∧ W.cell? ⟨w.heap.size, 1, none⟩ = some (.int .u64 (bvI t.2))) (first | exact KB _ B0 | exact KB _ B1) (first
          | (go_at_call 32; refine OD.mono ?_; clear OD; rintro e w1 ⟨rfl, hb1⟩; have B1 : Below wr.heap.size wr w1 := B0.trans (hb1.mono B0.size); clear hb1)
          | fail)
        all_goals go_wp2
        all_goals go_ret2
        all_goals exact ⟨i, r == 0, rfl, HP.out, HF.out, HW.out.trans (B1.mono HW.out.size)⟩
      · obtain rfl : n = i := by omega
        have HF : Hid (false = true ↔ ∃ h : n < T.length, T[n] = t) := ⟨fun h => (by cases h), fun h => absurd h.1 (by omega)⟩
        have HW : Hid (∀ k, Below w.heap.size w (wr.drewN k)) := fun k => ⟨HI.out.2.2.1.os, HI.out.2.2.1.tape, HI.out.2.2.1.output, HI.out.2.2.1.size, HI.out.2.2.1.block⟩
        clear HI HA
        go_upto_region 8 with fail
        go_quiet (fail)
        all_goals go_wp2
        all_goals go_ret2
        all_goals exact ⟨n, false, rfl, HP.out, HF.out, HW.out _⟩
end Go.Proofs.YtpcfchbiohbcoaaDoor
