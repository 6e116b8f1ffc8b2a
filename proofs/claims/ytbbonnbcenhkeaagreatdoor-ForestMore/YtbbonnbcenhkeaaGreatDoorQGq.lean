/-
  Merged: QG, QI.
-/
import Derived.Test.YtbbonnbcenhkeaaGreatDoorQAq
import Derived.Test.YtbbonnbcenhkeaaGreatDoorGH
namespace Go.Proofs.YtbbonnbcenhkeaaGreatDoor
open Go Go.RowKit
set_option maxRecDepth 100000

theorem one_take {X : List Sp} (h : OneT X) (n : Nat) : OneT (X.take n) :=
  ⟨by have := h.len; rw [List.length_take]; omega, fun a ha => h.chk a (List.mem_of_mem_take ha), fun a ha => h.fits a (List.mem_of_mem_take ha), fun a ha => h.small a (List.mem_of_mem_take ha), fun a ha b hb => h.tr a (List.mem_of_mem_take ha) b (List.mem_of_mem_take hb), by rw [List.map_take]; exact h.ids.sublist (List.take_sublist _ _)⟩
theorem SpsAt.take {w : World} {ad : Option Addr} {m : Nat} {X : List Sp} {P : Nat → Pl} (h : SpsAt w ad m X P) (n : Nat) (hn : n ≤ m) : SpsAt w ad n (X.take n) P := by
  have hl := h.len
  refine ⟨by rw [List.length_take]; omega, fun h0 => ?_, fun i hi => ?_⟩
  · obtain ⟨b, off, e, hc⟩ := h.lies (by omega)
    refine ⟨b, off, e, fun i hi j u hu => ?_⟩
    rw [List.length_take] at hi
    rw [List.getElem_take] at hu
    exact hc i (by omega) j u hu
  · rw [List.length_take] at hi
    rw [List.getElem_take]
    exact h.each i (by omega)
/-- Of each span but the last the place of the one that it names, among these. -/
def cutU (U : List Int) (n : Nat) : List Int := (List.range n).map (fun k => if U.getD k 0 = (n : Int) then -1 else U.getD k 0)
theorem cutU_get (U : List Int) (n k : Nat) (hk : k < n) : (cutU U n).getD k 0 = if U.getD k 0 = (n : Int) then -1 else U.getD k 0 := by
  unfold cutU
  rw [List.getD_eq_getElem?_getD, List.getElem?_map, List.getElem?_range hk]
  rfl
theorem cutU_par {X : List Sp} {U : List Int} {n : Nat} (h1 : OneT X) (hn : X.length = n + 1) (h : ParU X U) : ParU (X.take n) (cutU U n) := by
  have hl : (X.take n).length = n := by rw [List.length_take]; omega
  refine ⟨by simp [cutU, hl], fun k hk => ?_⟩
  rw [hl] at hk
  rw [cutU_get U n k hk]
  have hkX : k < X.length := by omega
  rcases h.at_ k hkX with ⟨u1, u2⟩ | ⟨i, hi, u1, u2, u3⟩
  · rw [if_neg (by omega)]
    refine Or.inl ⟨u1, ?_⟩
    rcases u2 with u2 | u2
    · exact Or.inl (by rw [List.getElem_take]; exact u2)
    · refine Or.inr fun i hi => ?_
      rw [hl] at hi
      rw [List.getElem_take, List.getElem_take]
      exact u2 i (by omega)
  · by_cases e : i = n
    · subst e
      rw [if_pos u1]
      refine Or.inl ⟨rfl, Or.inr fun j hj e => ?_⟩
      rw [hl] at hj
      rw [List.getElem_take, List.getElem_take, ← u3] at e
      have := ids_inj h1.ids (by omega) hi e
      omega
    · rw [if_neg (by omega)]
      refine Or.inr ⟨i, by rw [hl]; omega, u1, ?_, ?_⟩
      · rw [List.getElem_take]; exact u2
      · rw [List.getElem_take, List.getElem_take]; exact u3
/-- Who is not in the ring of the last one is in the same ring without it. -/
theorem least_cut {X : List Sp} {U : List Int} {n k : Nat} (hn : X.length = n + 1) (hk : k < n) (hno : ∀ p, Ring U (n + 1) n p → ∀ t, upN U t n ≠ (k : Int)) : LeastX X U k ↔ LeastX (X.take n) (cutU U n) k := by
  have hl : (X.take n).length = n := by rw [List.length_take]; omega
  have gt : ∀ q, q < n → (X.take n)[q]? = X[q]? := fun q hq => by rw [List.getElem?_take, if_pos hq]
  constructor
  · rintro ⟨p, hR, hm⟩
    rw [hn] at hR
    have notn : ∀ t, upN U t k ≠ (n : Int) := fun t e => by
      obtain ⟨p', hp'⟩ := ring_shift hR t
      obtain ⟨s, hs⟩ := ring_home hR t
      rw [e] at hp' hs
      exact hno p' hp' s hs
    have inn : ∀ t, 0 ≤ upN U t k ∧ upN U t k < n := fun t => by
      have h1 := hR.inn (q := upN U t k) ⟨t, rfl⟩
      have h2 := notn t
      omega
    have same : ∀ t, upN (cutU U n) t k = upN U t k := by
      intro t
      induction t with
      | zero => rfl
      | succ t ih =>
        have a1 := inn t
        rw [upN_succ, upN_succ, ih, cutU_get U n _ (by omega), if_neg]
        rw [← upN_succ]
        exact notn (t + 1)
    refine ⟨p, ?_, fun t ht a b ha hb => ?_⟩
    · rw [hl]
      exact ⟨hR.pos, by rw [same]; exact hR.back, fun j _ => by rw [same]; exact inn j, fun j j1 j2 => by rw [same]; exact hR.first j j1 j2⟩
    · rw [same] at hb
      have a1 := inn t
      rw [gt _ (by omega)] at hb
      rw [gt k hk] at ha
      exact hm t ht a b ha hb
  · rintro ⟨p, hR, hm⟩
    rw [hl] at hR
    have inn : ∀ t, 0 ≤ upN (cutU U n) t k ∧ upN (cutU U n) t k < n := fun t => hR.inn ⟨t, rfl⟩
    have same : ∀ t, upN U t k = upN (cutU U n) t k := by
      intro t
      induction t with
      | zero => rfl
      | succ t ih =>
        have a1 := inn t
        have a2 := inn (t + 1)
        rw [upN_succ, cutU_get U n _ (by omega)] at a2
        rw [upN_succ, upN_succ, ih, cutU_get U n _ (by omega)]
        by_cases e : U.getD (upN (cutU U n) t k).toNat 0 = (n : Int)
        · rw [if_pos e] at a2
          omega
        · rw [if_neg e]
    refine ⟨p, ?_, fun t ht a b ha hb => ?_⟩
    · rw [hn]
      exact ⟨hR.pos, by rw [same]; exact hR.back, fun j _ => by rw [same]; have := inn j; omega, fun j j1 j2 => by rw [same]; exact hR.first j j1 j2⟩
    · rw [same] at hb
      have a1 := inn t
      rw [← gt _ (by omega)] at hb
      rw [← gt k hk] at ha
      exact hm t ht a b ha hb
/-- No other one's parent changes. -/
theorem par_more {X : List Sp} {U : List Int} {n k : Nat} {a l : Sp} {x y : Nod} (h1 : OneT X) (hn : X.length = n + 1) (hU : ParU X U) (hk : k < n) (ha : X[k]? = some a) (hl : X[n]? = some l) (hx : OrgX (X.take n) a k x) (hy : OrgX X a k y) (hpar : a.par ≠ l.id) (hno : ∀ p, Ring U (n + 1) n p → ∀ t, upN U t n ≠ (k : Int)) : x.par = y.par := by
  have hU0 := cutU_par h1 hn hU
  have hLL := least_cut hn hk hno
  have same : ∀ c, x.org = c → y.org = c → x.par = y.par := fun c e1 e2 => by
    by_cases h0 : c = 0
    · rw [hx.par.1 (by omega), hy.par.1 (by omega)]
    · rw [hx.par.2 (by omega), hy.par.2 (by omega)]
  by_cases hp : a.par = 0
  · exact same 1 (hx.born hp) (hy.born hp)
  · have hkX : k < X.length := by omega
    have hnX : n < X.length := by omega
    rw [List.getElem?_eq_getElem hkX] at ha
    rw [List.getElem?_eq_getElem hnX] at hl
    obtain rfl := Option.some.inj ha
    obtain rfl := Option.some.inj hl
    have hc := cutU_get U n k hk
    rcases hU.at_ k hkX with ⟨u1, _⟩ | ⟨i, hi, u1, u2, u3⟩
    · rw [if_neg (by omega)] at hc
      exact same 2 (hx.orphan _ hU0 hp (by omega)) (hy.orphan _ hU hp (by omega))
    · have hin : i ≠ n := fun e => by subst e; exact hpar u3.symm
      rw [if_neg (by omega)] at hc
      by_cases hL : LeastX X U k
      · exact same 3 (hx.looped _ hU0 hp (by omega) (hLL.1 hL)) (hy.looped _ hU hp (by omega) hL)
      · exact same 0 (hx.inner _ hU0 hp (by omega) (fun h => hL (hLL.2 h))) (hy.inner _ hU hp (by omega) hL)
/-- A span's place in the ring that was told: it is found where it is in it. -/
def FoundR (X : List Sp) (U : List Int) (n k : Nat) (id v : Int) : Prop := -1 ≤ v ∧ (v = -1 → ∀ p, Ring U n k p → ∀ t, ∀ a, X[(upN U t k).toNat]? = some a → a.id ≠ id)
set_option maxHeartbeats 4000000 in
theorem find_ring (X : List Sp) (U : List Int) (n k : Nat) (v : Value) (id : Int) (w : World) (hR : RingT X U n k w v) (hn : n ≤ 1001) :
    Calls Tryz.prog 16 #[v, .int .u64 id] w fun e w' => ∃ r, e = .returned (.int .i64 r) ∧ FoundR X U n k id r ∧ w' = w := by
  rcases hR with ⟨rfl, hno⟩ | ⟨p, g, cap, hp, hpn, rfl, hg, hc⟩
  · have HN : Hid (¬ ∃ p, Ring U n k p) := hno
    clear hno
    go_enter Tryz.func16, Tryz.ntmps16
    go_wp2
    go_loopw [5] (fun z wr => z = .int .i64 0 ∧ wr = w) (fun _ _ => 0)
    case atStart => exact ⟨rfl, rfl⟩
    case round =>
      obtain ⟨rfl, rfl⟩ := hrel
      go_wp2
      go_ret
      exact ⟨-1, rfl, ⟨by omega, fun _ p hp => absurd ⟨p, hp⟩ HN.out⟩, rfl⟩
  · have HC : Hid (∀ j, j < p → ∃ a, X[(upN U j k).toNat]? = some a ∧ w.cell? ⟨g, j, none⟩ = some (.int .u64 a.id)) := hc
    have HP : Hid (Ring U n k p) := hp
    have hp1 : (p : Int) ≤ 1001 := by omega
    clear hc hp hg
    go_enter Tryz.func16, Tryz.ntmps16
    go_wp2
    go_loopw [5] (fun z wr => ∃ j : Nat, z = .int .i64 j ∧ j ≤ p ∧ (∀ t, t < j → ∀ a, X[(upN U t k).toNat]? = some a → a.id ≠ id) ∧ wr = w) (fun z _ => p - (intOf z).toNat)
    case atStart => exact ⟨0, rfl, by omega, fun t ht => by omega, rfl⟩
    case round =>
      obtain ⟨j, rfl, hj, hno, rfl⟩ := hrel
      have HNO : Hid (∀ t, t < j → ∀ a, X[(upN U t k).toNat]? = some a → a.id ≠ id) := hno
      clear hno
      by_cases hlt : j < p
      · obtain ⟨a, ha, ca⟩ := HC.out j hlt
        have HA : Hid (X[(upN U j k).toNat]? = some a) := ha
        have hin : (j : Int) < (p : Int) := by omega
        clear ha HC
        by_cases he : a.id = id
        · have e1 : (a.id == id) = true := by simp [he]
          clear he
          go_wp2
          go_ret
          exact ⟨(j : Int), rfl, ⟨by omega, fun h => by omega⟩, rfl⟩
        · have e1 : (a.id == id) = false := by simp [he]
          have HE : Hid (¬ a.id = id) := he
          clear he
          go_wp2
          go_roundw
          case rel =>
            refine ⟨j + 1, by simp, by omega, fun t ht b hb => ?_, by first | rfl | trivial⟩
            by_cases e : t = j
            · subst e
              obtain rfl := Option.some.inj (HA.out.symm.trans hb)
              exact HE.out
            · exact HNO.out t (by omega) b hb
          case measure => (simp [intOf]; try omega)
      · have hni : ¬ (j : Int) < (p : Int) := by omega
        have HF : Hid (∀ q, Ring U n k q → ∀ t, ∀ a, X[(upN U t k).toNat]? = some a → a.id ≠ id) := fun q hq t a ha => by
          obtain ⟨s, s1, s2⟩ := HP.out.in_ t
          rw [s2] at ha
          exact HNO.out s (by omega) a ha
        clear HNO HC HP
        go_wp2
        go_ret
        exact ⟨-1, rfl, ⟨by omega, fun _ => HF.out⟩, rfl⟩
end Go.Proofs.YtbbonnbcenhkeaaGreatDoor

namespace Go.Proofs.YtbbonnbcenhkeaaGreatDoor
open Go Go.RowKit
set_option maxRecDepth 100000

theorem RingT.below {X : List Sp} {U : List Int} {n k : Nat} {w w' : World} {v : Value} (h : RingT X U n k w v) (hb : Below w.heap.size w w') : RingT X U n k w' v := by
  rcases h with h | ⟨p, g, cap, h1, h2, h3, h4, h5⟩
  · exact Or.inl h
  · refine Or.inr ⟨p, g, cap, h1, h2, h3, Nat.lt_of_lt_of_le h4 hb.size, fun j hj => ?_⟩
    obtain ⟨a, a1, a2⟩ := h5 j hj
    exact ⟨a, a1, (hb.cell (p := ⟨g, j, none⟩) h4).trans a2⟩
set_option maxHeartbeats 8000000 in
theorem forestMore_any (ad : Option Addr) (n cap : Nat) (X : List Sp) (P : Nat → Pl) (w : World) (hX : SpsAt w ad n X P) (hF : ∀ a ∈ X, a.Fits) (hS : ∀ a ∈ X, a.Small) (hT : Tabs w) (hcap : n ≤ cap) :
    Calls Tryz.prog 5 #[.slice ad n cap] w fun e w' => e = .returned (.bool true) ∧ Below w.heap.size w w' := by
  have SH := awake_any w hT
  have BD : Hid (∀ w1, Below w.heap.size w w1 → Calls Tryz.prog 9 #[.slice ad n cap] w1 fun e w' => (∃ f, e = .returned (.tuple #[.pointer (some ⟨f, 0, none⟩), .int .i64 0]) ∧ OneT X ∧ AskN X n f w' ∧ Below w.heap.size w w') ∨ (e = .returned (.tuple #[.pointer none, .int .i64 101]) ∧ ¬ OneT X ∧ Below w.heap.size w w')) := fun w1 hb => buildA ad n cap X P w w1 hb hX hF hS hT
  cases n with
  | zero =>
    clear hX hF hS hT
    go_enter Tryz.func5, Tryz.ntmps5
    go_wp2_with (first
      | (go_at_call 8; refine SH.mono ?_; clear SH; rintro e w1 ⟨rfl, hb⟩; have B1 := BD.out w1 hb; clear hb BD)
      | (go_at_call 9; refine B1.mono ?_; clear B1; rintro e w2 (⟨f, rfl, h1, h2, h3⟩ | ⟨rfl, h1, h3⟩)))
    · go_ret
      exact ⟨rfl, h3⟩
    · go_ret
      exact ⟨rfl, h3⟩
  | succ m =>
    have BM : Hid (OneT X → ∀ w1, Below w.heap.size w w1 → Calls Tryz.prog 9 #[.slice ad m cap] w1 fun e w' => ∃ f, e = .returned (.tuple #[.pointer (some ⟨f, 0, none⟩), .int .i64 0]) ∧ AskN (X.take m) m f w' ∧ Below w1.heap.size w1 w') := fun h1 w1 hb => by
      refine (buildA ad m cap (X.take m) P w1 w1 (Below.refl _ _) ((hX.below hb).take m (by omega)) (fun a ha => hF a (List.mem_of_mem_take ha)) (fun a ha => hS a (List.mem_of_mem_take ha)) (hT.below hb)).mono ?_
      rintro e w' (⟨f, rfl, _, g1, g2⟩ | ⟨_, hn, _⟩)
      · exact ⟨f, rfl, g1, g2⟩
      · exact absurd (one_take h1 m) hn
    have HXS : Hid (SpsAt w ad (m + 1) X P) := hX
    have BE : Hid (∀ w1, Below w.heap.size w w1 → Calls Tryz.prog 9 #[.slice ad (m + 1) cap] w1 fun e w' => (∃ f, e = .returned (.tuple #[.pointer (some ⟨f, 0, none⟩), .int .i64 0]) ∧ (m : Int) ≤ 1000 ∧ OneT X ∧ AskN X (m + 1) f w' ∧ Below w.heap.size w w') ∨ (e = .returned (.tuple #[.pointer none, .int .i64 101]) ∧ ¬ OneT X ∧ Below w.heap.size w w')) := fun w1 hb => by
      refine (BD.out w1 hb).mono ?_
      rintro e w' (⟨f, rfl, g1, g2, g3⟩ | h)
      · exact Or.inl ⟨f, rfl, by have := g1.len; have := HXS.out.len; omega, g1, g2, g3⟩
      · exact Or.inr h
    obtain ⟨b, off, l, rfl, hl, -⟩ := hX.idpar m (by omega)
    have HLX : Hid (X[m]? = some l) := hl
    have hcm : (m : Int) ≤ (cap : Int) := by omega
    have e0 : ((m : Int) + 1 == 0) = false := by
      simp
      omega
    clear hX hF hS hT hl
    go_enter Tryz.func5, Tryz.ntmps5
    go_wp2_with (first
      | (go_at_call 8; refine SH.mono ?_; clear SH; rintro e w1 ⟨rfl, hb⟩; have B1 := BE.out w1 hb; clear hb BE BD)
      | (go_at_call 9; refine B1.mono ?_; clear B1; rintro e w2 (⟨fg, rfl, hm1, h1, h2, h3⟩ | ⟨rfl, h1, h3⟩))
      | (go_at_call 9; refine (BM.out h1 w2 h3).mono ?_; clear BM; rintro e w3 ⟨f, rfl, h4, h45⟩; have h5 := h3.trans (h45.mono h3.size))
      | (go_at_call 20; refine (parents_any _ (m + 1) cap X P w3 (HXS.out.below h5) (by have := h1.len; have := HXS.out.len; omega)).mono ?_; rintro e w4 ⟨uv, U, rfl, hUl, hUp, hUr, hb4⟩; obtain ⟨au, cu, rfl⟩ := owns_slice hUr; obtain ⟨gu, rfl⟩ := owns_some hUr)
      | (go_at_call 21; refine (ring_any _ (m + 1) cap X P gu cu m U w4 (HXS.out.below (h5.trans (hb4.mono h5.size))) (by have := h1.len; have := HXS.out.len; omega) hUl (fun q hq => by have := (parU_of HXS.out.len hUl hUp).range q (by rw [HXS.out.len]; exact hq); rwa [HXS.out.len] at this) (fun q hq => owns_cellU hUr (by have hq' : q < U.length := (by omega); simp [List.getD, hq'])) (by omega)).mono ?_; rintro e w5 ⟨rv, rfl, hRT, hb5⟩))
    · have hPU := parU_of HXS.out.len hUl hUp
      have b45 := hb4.trans (hb5.mono hb4.size)
      have b35 := h45.trans (b45.mono h45.size)
      have HS : Hid (OneT X ∧ ParU X U ∧ AskN X (m + 1) fg w2 ∧ AskN (X.take m) m f w3 ∧ RingT X U (m + 1) m w5 rv ∧ Below w2.heap.size w2 w5 ∧ Below w3.heap.size w3 w5 ∧ Below w.heap.size w w5) := ⟨h1, hPU, h2, h4, hRT, b35, b45, h3.trans (b35.mono h3.size)⟩
      clear h1 hPU h2 h4 hRT hb5 hb4 h45 h5 h3 b45 b35 hUl hUp hUr
      go_loopw [10] (fun z wr => ∃ k : Nat, z = .int .i64 k ∧ k ≤ m ∧ Below w5.heap.size w5 wr) (fun z _ => m - (intOf z).toNat)
      case atStart => exact ⟨0, rfl, by omega, Below.refl _ _⟩
      case round =>
        obtain ⟨k, rfl, hkm, hbr⟩ := hrel
        obtain ⟨h1, hPU, hAG, hAF, hRT, b25, b35, bw5⟩ := HS.out
        by_cases hlt : k < m
        · obtain ⟨dx, a, ha0, hOx, hNx⟩ := hAF k hlt
          obtain ⟨dy, a', ha', hOy, hNy⟩ := hAG k (by omega)
          have ha : X[k]? = some a := by rwa [List.getElem?_take, if_pos hlt] at ha0
          obtain rfl := Option.some.inj (ha.symm.trans ha')
          have hin : (k : Int) < (m : Int) := by omega
          have HC : Hid (∀ W, Below w5.heap.size w5 W → W.cell? ⟨b, off + k * 13 + 2, none⟩ = some (.int .u64 a.id) ∧ W.cell? ⟨b, off + k * 13 + 3, none⟩ = some (.int .u64 a.par) ∧ W.cell? ⟨b, off + m * 13 + 2, none⟩ = some (.int .u64 l.id)) := fun W hb => by
            have hS := HXS.out.below (bw5.trans (hb.mono bw5.size))
            obtain ⟨b', off', a1, e, g1, g2, g3⟩ := hS.idpar k (by omega)
            injection e with e
            injection e with e1 e2
            subst e1 e2
            obtain rfl := Option.some.inj (ha.symm.trans g1)
            obtain ⟨b', off', a2, e, f1, f2, _⟩ := hS.idpar m (by omega)
            injection e with e
            injection e with e1 e2
            subst e1 e2
            obtain rfl := Option.some.inj (HLX.out.symm.trans f1)
            exact ⟨g2, g3, f2⟩
          have N1 := hNx wr (b35.trans (hbr.mono b35.size))
          have N2 : Hid (∀ W, Below w5.heap.size w5 W → Calls Tryz.prog 14 #[.pointer (some ⟨fg, 0, none⟩), .int .u64 a.id] W fun e W' => e = .returned (.tuple #[ndV dy, .bool true]) ∧ Below W.heap.size W W') := fun W hb => hNy W (b25.trans (hb.mono b25.size))
          have HFI : Hid (dx.par ≠ dy.par → a.par ≠ l.id → ∀ W, Below w5.heap.size w5 W → Calls Tryz.prog 16 #[rv, .int .u64 a.id] W fun e w' => ∃ r, e = .returned (.int .i64 r) ∧ 0 ≤ r ∧ w' = W) := fun q1 q2 W hb => by
            refine (find_ring X U (m + 1) m rv a.id W (hRT.below hb) (by have := h1.len; have := HXS.out.len; omega)).mono ?_
            rintro e w' ⟨r, rfl, ⟨r1, r2⟩, rfl⟩
            refine ⟨r, rfl, ?_, rfl⟩
            rcases Int.lt_or_le r 0 with hr0 | hr0
            · refine absurd (par_more h1 (by rw [HXS.out.len]) hPU hlt ha HLX.out hOx hOy q2 (fun p hp t e => ?_)) q1
              exact r2 (by omega) p hp t a (by rw [e, Int.toNat_natCast]; exact ha) rfl
            · exact hr0
          have HBR : Hid (Below w5.heap.size w5 wr) := hbr
          obtain ⟨c2, -, -⟩ := HC.out wr hbr
          unfold ndV at N1 N2
          clear h1 hPU hAG hAF hRT b25 b35 bw5 ha0 hOx hNx ha' hOy hNy ha hbr
          go_upto_region 17 with (first
            | (go_at_call 14; refine N1.mono ?_; clear N1; rintro e w6 ⟨rfl, hb6⟩; have H6 : Hid (∀ o, Below w5.heap.size w5 (w6.alloc o)) := (fun o => (HBR.out.trans (hb6.mono HBR.out.size)).alloc (by have := HBR.out.size; have := hb6.size; omega) o); have c26 := fun (o : Obj) => (HC.out _ (H6.out o)).1; clear hb6)
            | (go_at_call 14; refine (N2.out _ (H6.out _)).mono ?_; clear N2; rintro e w7 ⟨rfl, hb7⟩; have H7 : Hid (∀ V, Below w7.heap.size w7 V → Below w5.heap.size w5 V ∧ V.cell? ⟨w6.heap.size, 1, none⟩ = some (.int .u64 dx.par)) := (fun V hb => ⟨((H6.out _).trans (hb7.mono (H6.out _).size)).trans (hb.mono (Nat.le_trans (H6.out _).size hb7.size)), (Blk.below (Blk.below (Blk.new _ _ _) hb7 (by rw [World.size_alloc]; omega)) hb (Blk.lt (Blk.below (Blk.new _ _ _) hb7 (by rw [World.size_alloc]; omega)))).cell 1 rfl⟩); clear hb7))
          obtain ⟨V, hV⟩ : ∃ V, w7.alloc (.cells #[.int .u64 dy.id, .int .u64 dy.par, .int .i64 dy.org, .int .u64 dy.tree, .int .i64 dy.dep, .int .i64 dy.fr, .int .i64 dy.til] 48) = V := ⟨_, rfl⟩
          have hbV : Below w7.heap.size w7 V := by rw [← hV]; exact (Below.refl _ _).alloc (Nat.le_refl _) _
          have nV : V.cell? ⟨w7.heap.size, 1, none⟩ = some (.int .u64 dy.par) := by rw [← hV]; exact (Blk.new _ _ _).cell 1 rfl
          obtain ⟨hb5V, xV⟩ := H7.out V hbV
          obtain ⟨v2, v3, vm⟩ := HC.out V hb5V
          have HBF : Hid (Below w5.heap.size w5 V) := hb5V
          rw [hV]
          clear hV hbV hb5V c2 c26 H7 H6
          by_cases q1 : dx.par = dy.par
          · have e1 : (dx.par != dy.par) = false := by simp [q1]
            clear q1 HFI
            go_quiet (fail)
            go_wp2
            go_roundw
            case rel => exact ⟨k + 1, by simp, by omega, HBF.out.trans ⟨rfl, rfl, rfl, Nat.le_refl _, fun _ _ => rfl⟩⟩
            case measure => (simp [intOf]; try omega)
          · have e1 : (dx.par != dy.par) = true := by simp [q1]
            by_cases q2 : a.par = l.id
            · have e2 : (a.par != l.id) = false := by simp [q2]
              clear q1 q2 HFI
              go_quiet (fail)
              go_wp2
              go_roundw
              case rel => exact ⟨k + 1, by simp, by omega, HBF.out.trans ⟨rfl, rfl, rfl, Nat.le_refl _, fun _ _ => rfl⟩⟩
              case measure => (simp [intOf]; try omega)
            · have e2 : (a.par != l.id) = true := by simp [q2]
              have FI := HFI.out q1 q2 V.drew HBF.out.drew
              have hk1 : (k : Int) < (m : Int) + 1 := by omega
              have hk0 : (0 : Int) ≤ (k : Int) := by omega
              have hm1' : (m : Int) < (m : Int) + 1 := by omega
              have hm0 : (0 : Int) ≤ (m : Int) := by omega
              clear q1 q2 HFI
              go_region_held3 (fun W => W.cell? ⟨w6.heap.size, 1, none⟩ = some (.int .u64 dx.par) ∧ W.cell? ⟨w7.heap.size, 1, none⟩ = some (.int .u64 dy.par) ∧ W.cell? ⟨b, off + k * 13 + 2, none⟩ = some (.int .u64 a.id) ∧ W.cell? ⟨b, off + k * 13 + 3, none⟩ = some (.int .u64 a.par) ∧ W.cell? ⟨b, off + m * 13 + 2, none⟩ = some (.int .u64 l.id)) (exact ⟨xV, nV, v2, v3, vm⟩)
                (first
                  | (go_at_call 16; refine FI.mono ?_; clear FI; rintro e w8 ⟨r, rfl, hr, rfl⟩))
              go_wp2
              go_roundw
              case rel => exact ⟨k + 1, by simp, by omega, HBF.out.trans ⟨rfl, rfl, rfl, Nat.le_refl _, fun _ _ => rfl⟩⟩
              case measure => (simp [intOf]; try omega)
        · have hni : ¬ (k : Int) < (m : Int) := by omega
          have HB : Hid (Below w.heap.size w wr) := bw5.trans (hbr.mono bw5.size)
          clear h1 hPU hAG hAF hRT b25 b35 bw5 hbr hlt hkm HS
          go_wp2
          go_ret
          exact ⟨rfl, HB.out⟩
    · go_ret
      exact ⟨rfl, h3⟩
end Go.Proofs.YtbbonnbcenhkeaaGreatDoor
