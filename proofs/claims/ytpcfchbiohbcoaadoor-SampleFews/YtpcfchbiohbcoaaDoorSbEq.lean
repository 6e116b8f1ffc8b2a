/-
  Merged: SbE, SbJ.
-/
import Derived.Test.YtpcfchbiohbcoaaDoorSbD
import Derived.Test.YtpcfchbiohbcoaaDoorSbA
namespace Go.Proofs.YtpcfchbiohbcoaaDoor
open Go Go.RowKit
set_option maxRecDepth 100000

/-- What is guessed of a full Few whose last mix is m. -/
def gsM (most m : Nat) : Nat := if m = 18446744073709551615 then most - 1 else if m < most - 1 then 18446744073709551615 else (most - 1) * 18446744073709551616 / (m + 1)
/-- What is guessed. -/
def gsN (most : Nat) (T : List Tr) : Nat := if T.length < most then T.length else gsM most (mixT (T[most - 1]?.getD (0#64, 0#64))).toNat
theorem mixT_nat (t : Tr) : ∃ m : Nat, mixT t = (m : Int) ∧ m < 18446744073709551616 := ⟨(mixB t.1 t.2).toNat, rfl, (mixB t.1 t.2).isLt⟩
set_option maxHeartbeats 4000000 in
theorem guessF_any (f base most : Nat) (T : List Tr) (w : World) (hF : FewAt w f base most T) :
    Calls Tryd.prog 10 #[.pointer (some ⟨f, 0, none⟩)] w fun e w' => e = .returned (.int .u64 ((gsN most T : Nat) : Int)) ∧ Below w.heap.size w w' := by
  obtain ⟨ao, c, hf, hO⟩ := hF.row
  have c0 : w.cell? ⟨f, 0, none⟩ = some (.int .i64 most) := hf.cell 0 rfl
  have c1 : w.cell? ⟨f, 1, none⟩ = some (.slice ao T.length c) := hf.cell 1 rfl
  have BB : Hid (Below w.heap.size w w) := Below.refl _ _
  have hlen := hF.len
  have hmost := hF.most
  by_cases hl : T.length < most
  · have HG : Hid (gsN most T = T.length) := if_pos hl
    obtain ⟨n, hn⟩ : ∃ n, T.length = n := ⟨_, rfl⟩
    rw [hn] at c1 hl HG
    have hl1 : (n : Int) < (most : Int) := by omega
    have hw : IntKind.u64.wrap (n : Int) = (n : Int) := wrapF rfl (by omega)
    clear hf hO hF hlen hn
    go_enter Tryd.func10, Tryd.ntmps10
    go_upto_region 1 with fail
    go_quiet (fail)
    go_wp2
    go_ret
    rw [HG.out]
    exact ⟨rfl, ⟨BB.out.os, BB.out.tape, BB.out.output, BB.out.size, BB.out.block⟩⟩
  · have hlm : T.length = most := by omega
    have hi : most - 1 < T.length := by omega
    obtain ⟨t, ht⟩ : ∃ t, T[most - 1] = t := ⟨_, rfl⟩
    obtain ⟨m, hm, hm2⟩ := mixT_nat t
    have HG : Hid (gsN most T = gsM most m) := by
      show gsN most T = gsM most m
      unfold gsN
      rw [if_neg hl, List.getElem?_eq_getElem hi, Option.getD_some, ht, hm, Int.toNat_natCast]
    obtain ⟨g, e, _, hc⟩ := hO.at (by omega)
    subst e
    have hci := hc (most - 1) hi
    rw [ht] at hci
    rw [hlm] at c1
    obtain ⟨k, hk⟩ : ∃ k, most = k + 1 := ⟨most - 1, by omega⟩
    have ek : most - 1 = k := by omega
    rw [ek] at hci
    have hwk : IntKind.i64.wrap ((most : Int) - 1) = (k : Int) := by simp [IntKind.wrap, IntKind.bits, IntKind.signed]; omega
    have hwk2 : IntKind.u64.wrap (k : Int) = (k : Int) := wrapF rfl (by omega)
    have hk0 : (0 : Int) ≤ (k : Int) := by omega
    have hkm : (k : Int) < (most : Int) := by omega
    have hnl : ¬ (most : Int) < (most : Int) := by omega
    have MX : Hid (∀ W, Calls Tryd.prog 22 #[.agg #[.int .u64 (bvI t.1), .int .u64 (bvI t.2)]] W fun e w' => e = .returned (.int .u64 (m : Int)) ∧ Below W.heap.size W w') := fun W => by
      have := mix_any t.1 t.2 W
      have e : bvI (mixB t.1 t.2) = (m : Int) := hm
      rw [e] at this
      exact this
    have KB : ∀ W, Below w.heap.size w W → W.cell? ⟨f, 0, none⟩ = some (.int .i64 most) ∧ W.cell? ⟨f, 1, none⟩ = some (.slice (some ⟨g, 0, none⟩) most c) ∧ W.cell? ⟨g, k * 2, none⟩ = some (.int .u64 (bvI t.1)) ∧ W.cell? ⟨g, k * 2 + 1, none⟩ = some (.int .u64 (bvI t.2)) := fun W hW => by
      have h1 := hf.below hW hf.lt
      have hg := World.block_lt_of_cell? w _ hci.1
      refine ⟨h1.cell 0 rfl, ?_, (hW.cell (p := ⟨g, k * 2, none⟩) hg).trans hci.1, (hW.cell (p := ⟨g, k * 2 + 1, none⟩) hg).trans hci.2⟩
      have := h1.cell 1 rfl
      rw [hlm] at this
      exact this
    have HM : Hid (most = k + 1 ∧ 2 ≤ most ∧ most ≤ 1000 ∧ m < 18446744073709551616) := ⟨hk, hmost.1, hmost.2, hm2⟩
    have HD : Hid (k ≤ m → m < 18446744073709551615 → ∀ W, Calls Tryd.prog 23 #[.int .u64 (k : Int), .int .u64 0, .int .u64 ((m : Int) + 1)] W fun e w' => ∃ R : Int, e = .returned (.tuple #[.int .u64 ((k * 18446744073709551616 / (m + 1) : Nat) : Int), .int .u64 R]) ∧ w' = W) := fun h1 h2 W => div64F_any k (m + 1) (by omega) (by omega) (by omega) W
    have HE : Hid (gsM most m = if m = 18446744073709551615 then k else if m < k then 18446744073709551615 else k * 18446744073709551616 / (m + 1)) := by
      show gsM most m = _
      unfold gsM
      rw [ek]
    clear hf hO hF hlen hlm hi hc hci hm hl ht hk ek hm2 hmost
    go_enter Tryd.func10, Tryd.ntmps10
    go_upto_region 1 with fail
    go_quiet (fail)
    go_upto_region 3 with fail
    obtain ⟨w1, hw1⟩ : ∃ w1, w.drewN nq = w1 := ⟨_, rfl⟩
    have BN : Below w.heap.size w w1 := by rw [← hw1]; exact ⟨BB.out.os, BB.out.tape, BB.out.output, BB.out.size, BB.out.block⟩
    have B0 : Below w.heap.size w w1.drew := BN.drew
    rw [hw1]
    clear hw1 c0 c1 BN
    go_region_held3 (fun W => W.cell? ⟨f, 0, none⟩ = some (.int .i64 most) ∧ W.cell? ⟨f, 1, none⟩ = some (.slice (some ⟨g, 0, none⟩) most c) ∧ W.cell? ⟨g, k * 2, none⟩ = some (.int .u64 (bvI t.1)) ∧ W.cell? ⟨g, k * 2 + 1, none⟩ = some (.int .u64 (bvI t.2))) (first | exact KB _ B0 | exact KB _ B1) (first
      | (go_at_call 22; (with_reducible refine (MX.out _).mono ?_); clear MX; rintro e w2 ⟨rfl, hb2⟩; have B1 : Below w.heap.size w w2 := B0.trans (hb2.mono B0.size); clear hb2)
      | fail)
    all_goals
      have HB : Hid (Below w.heap.size w w2) := B1
      clear KB B0 B1
      by_cases h1 : m = 18446744073709551615
      · have e1 : ((m : Int) == 18446744073709551615) = true := by simp; omega
        have HV : Hid (gsN most T = k) := by rw [HG.out, HE.out, if_pos h1]; exact rfl
        clear HG HE HD h1
        go_wp2
        go_ret
        rw [HV.out]
        exact ⟨rfl, HB.out⟩
      · have e1 : ((m : Int) == 18446744073709551615) = false := by simp; omega
        by_cases h2 : m < k
        · have e2 : (m : Int) < (k : Int) := by omega
          have HV : Hid (gsN most T = 18446744073709551615) := by rw [HG.out, HE.out, if_neg h1, if_pos h2]; exact rfl
          clear HG HE HD h1
          go_wp2
          go_ret
          rw [HV.out]
          exact ⟨rfl, HB.out⟩
        · have e2 : ¬ (m : Int) < (k : Int) := by omega
          have HV : Hid (gsN most T = k * 18446744073709551616 / (m + 1)) := by rw [HG.out, HE.out, if_neg h1, if_neg h2]; exact rfl
          have DV := HD.out (by omega) (by have := HM.out; omega)
          have ew : IntKind.u64.wrap ((m : Int) + 1) = (m : Int) + 1 := by rw [IntKind.wrap_u64]; have := HM.out; omega
          obtain ⟨Q, hQ⟩ : ∃ Q, k * 18446744073709551616 / (m + 1) = Q := ⟨_, rfl⟩
          rw [hQ] at DV HV
          clear HG HE HD h1 HM hQ
          go_wp2_with (go_at_call 23; (with_reducible refine (DV _).mono ?_); clear DV; rintro e w3 ⟨R, rfl, hw⟩; obtain rfl := hw.symm)
          go_ret
          rw [HV.out]
          exact ⟨rfl, HB.out⟩
end Go.Proofs.YtpcfchbiohbcoaaDoor

namespace Go.Proofs.YtpcfchbiohbcoaaDoor
open Go Go.RowKit
set_option maxRecDepth 100000

/-- A Few in memory, of a kind. -/
structure FewG (K : TypeId) (w : World) (f base most : Nat) (T : List Tr) : Prop where
  row : ∃ ao c, Blk w f #[.int .i64 most, .slice ao T.length c] K ∧ OwnTr base w (.slice ao T.length c) T
  rise : RiseF T
  len : T.length ≤ most
  most : 2 ≤ most ∧ most ≤ 1000
  low : base ≤ w.heap.size
theorem FewAt.gen {w : World} {f base most : Nat} {T : List Tr} (h : FewAt w f base most T) : FewG 64 w f base most T := ⟨h.row, h.rise, h.len, h.most, h.low⟩
theorem FewG.at {w : World} {f base most : Nat} {T : List Tr} (h : FewG 64 w f base most T) : FewAt w f base most T := ⟨h.row, h.rise, h.len, h.most, h.low⟩
theorem few_uniqT {w : World} {f most : Nat} {K : TypeId} {a b : Value} (h : Blk w f #[.int .i64 most, a] K) (k : Blk w f #[.int .i64 most, b] K) : a = b := by
  have h1 : w.heap[f]? = some (.cells _ _ (0, 0)) := h
  have h2 : w.heap[f]? = some (.cells _ _ (0, 0)) := k
  rw [h1] at h2
  simp at h2
  exact h2
/-- What a turn of one of them may write. -/
abbrev TurnS (K : TypeId) (W : World) (f most n : Nat) : Nat → Prop := fun k => k = f ∨ ∃ ao c, Blk W f #[.int .i64 most, .slice ao n c] K ∧ ∃ a, ao = some a ∧ a.block = k
/-- Where its row lies behind a turn. -/
def TurnR (K : TypeId) (base : Nat) (W W' : World) (f most n : Nat) (T' : List Tr) : Prop :=
  ∃ ao c, Blk W' f #[.int .i64 most, .slice ao T'.length c] K ∧ OwnTr base W' (.slice ao T'.length c) T' ∧ ∀ a, ao = some a → (∃ ao0 c0 a0, Blk W f #[.int .i64 most, .slice ao0 n c0] K ∧ ao0 = some a0 ∧ a0.block = a.block) ∨ W.heap.size ≤ a.block
structure FamG (w W : World) (K M F : Nat → Nat) (TT : Nat → List Tr) (m : Nat) : Prop where
  knd : ∀ i, i < m → K i ≠ 33
  few : ∀ i, i < m → FewG (K i) W (F i) w.heap.size (M i) (TT i)
  ge : ∀ i, i < m → w.heap.size ≤ F i
  ne : ∀ i j, i < m → j < m → i ≠ j → F i ≠ F j
  ap : ∀ i j, i < m → j < m → i ≠ j → ∀ ai ci aj cj, Blk W (F i) #[.int .i64 (M i), .slice ai (TT i).length ci] (K i) → Blk W (F j) #[.int .i64 (M j), .slice aj (TT j).length cj] (K j) → ∀ a b, ai = some a → aj = some b → a.block ≠ b.block
  bel : Below w.heap.size w W
def upG (TT : Nat → List Tr) (i : Nat) (T : List Tr) : Nat → List Tr := fun j => if j = i then T else TT j
theorem upG_at (TT : Nat → List Tr) (i : Nat) (T : List Tr) : upG TT i T i = T := if_pos rfl
theorem upG_ne (TT : Nat → List Tr) {i j : Nat} (T : List Tr) (h : j ≠ i) : upG TT i T j = TT j := if_neg h
theorem FamG.turn {w W W' : World} {m i : Nat} {K M F : Nat → Nat} {TT : Nat → List Tr} {T' : List Tr} (h : FamG w W K M F TT m) (hi : i < m)
    (hrow : TurnR (K i) w.heap.size W W' (F i) (M i) (TT i).length T') (hu : Upd (TurnS (K i) W (F i) (M i) (TT i).length) W W')
    (hr : RiseF T') (hl : T'.length ≤ M i) : FamG w W' K M F (upG TT i T') m := by
  obtain ⟨af, cf, kf, of, hmv⟩ := hrow
  obtain ⟨ar, cr, kr, orr⟩ := (h.few i hi).row
  have hS : ∀ k, TurnS (K i) W (F i) (M i) (TT i).length k → k = F i ∨ ∃ a, ar = some a ∧ a.block = k := fun k hk => by
    rcases hk with e | ⟨ao, c, hb, a, e, ha⟩
    · exact Or.inl e
    · have := few_uniqT hb kr
      simp only [Value.slice.injEq] at this
      obtain ⟨rfl, -, rfl⟩ := this
      exact Or.inr ⟨a, e, ha⟩
  have hfew : ∀ {b : Nat} {cs : Array Value} {T : TypeId}, Blk W b cs T → T ≠ 33 → b ≠ F i → ¬ TurnS (K i) W (F i) (M i) (TT i).length b := fun {b cs T} hb hT hne hs => by
    rcases hS b hs with e | ⟨a, e, ha⟩
    · exact hne e
    · obtain ⟨_, cs', hh⟩ := row_lt orr e
      rw [ha] at hh
      have h1 : W.heap[b]? = some (.cells cs T (0, 0)) := hb
      rw [h1] at hh
      simp at hh
      exact hT hh.2
  have hrowk : ∀ {j : Nat}, j < m → j ≠ i → ∀ {aj : Option Addr} {cj : Nat}, Blk W (F j) #[.int .i64 (M j), .slice aj (TT j).length cj] (K j) → OwnTr w.heap.size W (.slice aj (TT j).length cj) (TT j) → ∀ k, (Value.slice aj (TT j).length cj).ownBlock = some k → ¬ TurnS (K i) W (F i) (M i) (TT i).length k := fun {j} hj hji {aj cj} kj oj k hk hs => by
    obtain ⟨b, eb, hb⟩ := ownB hk
    rcases hS k hs with e | ⟨a, e, ha⟩
    · obtain ⟨_, cs', hh⟩ := row_lt oj eb
      rw [hb, e] at hh
      have h1 : W.heap[F i]? = some (.cells _ (K i) (0, 0)) := kr
      rw [h1] at hh
      simp at hh
      exact h.knd i hi hh.2
    · exact h.ap i j hi hj (Ne.symm hji) ar cr aj cj kr kj a b e eb (ha.trans hb.symm)
  have hne : ∀ j, j < m → j ≠ i → F j ≠ F i := fun j hj hji => h.ne j i hj hi hji
  have hkeep : ∀ j, j < m → j ≠ i → ∀ aj cj, Blk W' (F j) #[.int .i64 (M j), .slice aj (TT j).length cj] (K j) → ∃ aj' cj', aj = aj' ∧ cj = cj' ∧ Blk W (F j) #[.int .i64 (M j), .slice aj' (TT j).length cj'] (K j) := fun j hj hji aj cj kj => by
    obtain ⟨a', c', k', o'⟩ := (h.few j hj).row
    have k2 := k'.upd hu (hfew k' (h.knd j hj) (hne j hj hji))
    have := few_uniqT kj k2
    simp only [Value.slice.injEq] at this
    exact ⟨a', c', this.1, this.2.2, k'⟩
  have hlow : W.heap.size ≤ W'.heap.size := hu.size
  refine ⟨h.knd, fun j hj => ?_, h.ge, h.ne, fun j k hj hk hjk aj cj ak ck bj bk a b ea eb hab => ?_, h.bel.trans (hu.below h.bel.size (fun k hk hs => ?_))⟩
  · by_cases hji : j = i
    · subst hji
      rw [upG_at]
      exact ⟨⟨af, cf, kf, of⟩, hr, hl, (h.few j hj).most, Nat.le_trans (h.few j hj).low hlow⟩
    · rw [upG_ne _ _ hji]
      have F0 := h.few j hj
      obtain ⟨a', c', k', o'⟩ := F0.row
      exact ⟨⟨a', c', k'.upd hu (hfew k' (h.knd j hj) (hne j hj hji)), ownsRow_upd o' hu (hrowk hj hji k' o')⟩, F0.rise, F0.len, F0.most, Nat.le_trans F0.low hlow⟩
  · have old : ∀ (x : Nat), x < m → x ≠ i → ∀ ax cx, Blk W' (F x) #[.int .i64 (M x), .slice ax (TT x).length cx] (K x) → ∀ p q, ax = some p → af = some q → p.block ≠ q.block := fun x hx hxi ax cx bx p q ep eq hpq => by
      obtain ⟨ax', cx', rfl, rfl, kx⟩ := hkeep x hx hxi ax cx bx
      rcases hmv q eq with ⟨ao0, c0, a0, k0, e0, h0⟩ | h0
      · exact h.ap i x hi hx (Ne.symm hxi) ao0 c0 ax cx k0 kx a0 p e0 ep (h0.trans hpq.symm)
      · obtain ⟨a', c', k', o'⟩ := (h.few x hx).row
        have := few_uniqT kx k'
        simp only [Value.slice.injEq] at this
        obtain ⟨rfl, -, rfl⟩ := this
        have := (row_lt o' ep).1
        omega
    by_cases hji : j = i
    · subst hji
      have hki : k ≠ j := Ne.symm hjk
      rw [upG_at] at bj
      rw [upG_ne _ _ hki] at bk
      have := few_uniqT bj kf
      simp only [Value.slice.injEq] at this
      obtain ⟨rfl, -, rfl⟩ := this
      exact old k hk hki ak ck bk b a eb ea hab.symm
    · rw [upG_ne _ _ hji] at bj
      by_cases hki : k = i
      · subst hki
        rw [upG_at] at bk
        have := few_uniqT bk kf
        simp only [Value.slice.injEq] at this
        obtain ⟨rfl, -, rfl⟩ := this
        exact old j hj hji aj cj bj a b ea eb hab
      · rw [upG_ne _ _ hki] at bk
        obtain ⟨aj', cj', rfl, rfl, kj⟩ := hkeep j hj hji aj cj bj
        obtain ⟨ak', ck', rfl, rfl, kk⟩ := hkeep k hk hki ak ck bk
        exact h.ap j k hj hk hjk aj cj ak ck kj kk a b ea eb hab
  · rcases hS k hs with e | ⟨a, e, ha⟩
    · have := h.ge i hi
      omega
    · rcases orr.2 with ⟨e', _⟩ | ⟨g, cap, cur, e', hg, _⟩
      · simp [e] at e'
      · simp [e] at e'
        rw [e'.1] at ha
        simp at ha
        omega
theorem FamG.below {w W W' : World} {m : Nat} {K M F : Nat → Nat} {TT : Nat → List Tr} (h : FamG w W K M F TT m) (hb : Below W.heap.size W W') : FamG w W' K M F TT m := by
  have hu : Upd (fun _ => False) W W' := Upd.ofBelow hb (fun k hk hk' => by omega)
  have hk : ∀ j, j < m → ∀ aj cj, Blk W' (F j) #[.int .i64 (M j), .slice aj (TT j).length cj] (K j) → ∃ aj' cj', aj = aj' ∧ cj = cj' ∧ Blk W (F j) #[.int .i64 (M j), .slice aj' (TT j).length cj'] (K j) := fun j hj aj cj kj => by
    obtain ⟨a', c', k', o'⟩ := (h.few j hj).row
    have := few_uniqT kj (k'.below hb k'.lt)
    simp only [Value.slice.injEq] at this
    exact ⟨a', c', this.1, this.2.2, k'⟩
  refine ⟨h.knd, fun j hj => ?_, h.ge, h.ne, fun j k hj hk' hjk aj cj ak ck bj bk a b ea eb hab => ?_, h.bel.trans (hb.mono h.bel.size)⟩
  · have F0 := h.few j hj
    obtain ⟨a', c', k', o'⟩ := F0.row
    exact ⟨⟨a', c', k'.below hb k'.lt, ownsRow_upd o' hu (fun _ _ h => h)⟩, F0.rise, F0.len, F0.most, Nat.le_trans F0.low hb.size⟩
  · obtain ⟨aj', cj', rfl, rfl, kj⟩ := hk j hj aj cj bj
    obtain ⟨ak', ck', rfl, rfl, kk⟩ := hk k hk' ak ck bk
    exact h.ap j k hj hk' hjk aj cj ak ck kj kk a b ea eb hab
theorem spotF_uniq {T : List Tr} {t : Tr} {p q : Nat} (h : SpotF T t p) (k : SpotF T t q) : p = q := by
  rcases Nat.lt_trichotomy p q with h1 | h1 | h1
  · have hp : p < T.length := by have := k.1; omega
    have a := h.2.2 p hp (Nat.le_refl _)
    have b := k.2.1 p hp h1
    omega
  · exact h1
  · have hq : q < T.length := by have := h.1; omega
    have a := k.2.2 q hq (Nat.le_refl _)
    have b := h.2.1 q hq h1
    omega
/-- What is put in is put in one way. -/
theorem InF.uniq {most : Nat} {T T1 T2 : List Tr} {t : Tr} {a b : Bool} (hl : T.length ≤ most) (h : InF most T t T1 a) (k : InF most T t T2 b) : T1 = T2 ∧ a = b := by
  obtain ⟨p, sp, hp⟩ := h
  obtain ⟨q, sq, hq⟩ := k
  obtain rfl := spotF_uniq sp sq
  rcases hp with ⟨rfl, ⟨h1, h2⟩, rfl⟩ | ⟨rfl, rfl, rfl⟩ | ⟨rfl, h1, h2, rfl⟩
  · rcases hq with ⟨rfl, _, rfl⟩ | ⟨rfl, rfl, rfl⟩ | ⟨rfl, h3, h4, rfl⟩
    · exact ⟨rfl, rfl⟩
    · omega
    · exact absurd ⟨h1, h2⟩ h4
  · rcases hq with ⟨rfl, ⟨h3, _⟩, rfl⟩ | ⟨rfl, _, rfl⟩ | ⟨rfl, h3, _, rfl⟩
    · omega
    · exact ⟨rfl, rfl⟩
    · omega
  · rcases hq with ⟨rfl, h3, rfl⟩ | ⟨rfl, rfl, rfl⟩ | ⟨rfl, h3, h4, rfl⟩
    · exact absurd h3 h2
    · omega
    · exact ⟨rfl, rfl⟩
end Go.Proofs.YtpcfchbiohbcoaaDoor
