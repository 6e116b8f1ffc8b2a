/-
  SbL.
-/
import Derived.Test.YtpcfchbiohbcoaaDoorSbK
import Derived.Test.YtpcfchbiohbcoaaDoorSbF
namespace Go.Proofs.YtpcfchbiohbcoaaDoor
open Go Go.RowKit Go.Lib
set_option maxRecDepth 100000

theorem TrO.src {w : World} {ad : Option Addr} {X : List Tr} (h : TrO w ad X) (n c : Nat) (hn : X.length = n) : Src Tryd.prog 2 38 (.slice ad n c) n (X.flatMap trC) w := by
  subst hn
  rcases Nat.eq_zero_or_pos X.length with h0 | h0
  · obtain rfl : X = [] := List.eq_nil_of_length_eq_zero h0
    cases ad with
    | none => exact Src.ofNil _ Tryd.underlying38 c
    | some a => exact Src.ofSlice _ Tryd.underlying38 _ 0 c [] rfl (fun j u h => by simp at h) (fun u h => by cases h)
  · obtain ⟨b, o, rfl, _, hc⟩ := h h0
    refine Src.ofSlice _ Tryd.underlying38 _ X.length c _ (by rw [trF_len]) ?_ (trF_one X)
    intro j u hj
    have hjl : j < X.length * 2 := by
      rw [← trF_len]
      exact (List.getElem?_eq_some_iff.mp hj).1
    rw [Addr.add_lit]
    have e : j = j / 2 * 2 + j % 2 := by omega
    have hi : j / 2 < X.length := by omega
    have h1 : ((X.flatMap trC).drop (j / 2 * 2))[j % 2]? = (X.flatMap trC)[j]? := by rw [List.getElem?_drop, ← e]
    rw [hj, trF_drop, List.drop_eq_getElem_cons hi, List.flatMap_cons, List.getElem?_append_left (by rw [trC_len]; omega)] at h1
    have h2 := hc (j / 2) hi
    rcases Nat.mod_two_eq_zero_or_one j with h3 | h3
    · rw [h3] at h1 e
      rw [show o + j = o + j / 2 * 2 by omega, h2.1]
      exact h1
    · rw [h3] at h1 e
      rw [show o + j = o + j / 2 * 2 + 1 by omega, h2.2]
      exact h1
theorem src_nil (w : World) (ad : Option Addr) (m c : Nat) (h : m = 0) : Src Tryd.prog 2 38 (.slice ad m c) m [] w := by
  subst h
  cases ad with
  | none => exact Src.ofNil _ Tryd.underlying38 c
  | some a => exact Src.ofSlice _ Tryd.underlying38 _ 0 c [] rfl (fun j u h => by simp at h) (fun u h => by cases h)
theorem TrAt.takeO {w : World} {ao : Option Addr} {T : List Tr} (h : TrAt w ao T) (i : Nat) : TrO w ao (T.take i) := fun hp => by
  have hp' : 0 < T.length := by simp at hp; omega
  obtain ⟨g, e, hl, hc⟩ := h hp'
  refine ⟨g, 0, e, hl, fun k hk => ?_⟩
  have hk' : k < T.length := by simp at hk; omega
  rw [List.getElem_take, Nat.zero_add]
  exact hc k hk'
theorem TrAt.dropO {w : World} {g : Nat} {T : List Tr} (h : TrAt w (some ⟨g, 0, none⟩) T) (i : Nat) : TrO w (some ⟨g, i * 2, none⟩) (T.drop i) := fun hp => by
  have hp' : 0 < T.length := by simp at hp; omega
  obtain ⟨g', e, hl, hc⟩ := h hp'
  injection e with e
  injection e with e _ _
  subst e
  refine ⟨g, i * 2, rfl, hl, fun k hk => ?_⟩
  have hk' : i + k < T.length := by simp at hk; omega
  rw [List.getElem_drop]
  have := hc (i + k) hk'
  rw [show (i + k) * 2 = i * 2 + k * 2 by omega] at this
  exact this
theorem OwnTr.low {b b' : Nat} {w : World} {v : Value} {T : List Tr} (h : OwnTr b' w v T) (hb : b ≤ b') : OwnTr b w v T := by
  refine ⟨h.1, ?_⟩
  rcases h.2 with x | ⟨g, cap, cur, e, hg, r⟩
  · exact Or.inl x
  · exact Or.inr ⟨g, cap, cur, e, Nat.le_trans hb hg, r⟩
/-- What the reference's Put looks at. -/
structure RpE (w W : World) (f most : Nat) (ao : Option Addr) (c : Nat) (T : List Tr) (t : Tr) : Prop where
  bel : Below w.heap.size w W
  blk : Blk W f #[.int .i64 most, .slice ao T.length c] 66
  row : TrAt W ao T
  box : Blk W w.heap.size #[.int .u64 (bvI t.1), .int .u64 (bvI t.2)] 33
theorem RpE.below {w W W' : World} {f most : Nat} {ao : Option Addr} {c : Nat} {T : List Tr} {t : Tr} (h : RpE w W f most ao c T t) (hb : Below W.heap.size W W') : RpE w W' f most ao c T t :=
  ⟨h.bel.trans (hb.mono h.bel.size), h.blk.below hb h.blk.lt, h.row.below hb, h.box.below hb h.box.lt⟩
/-- What it tells. -/
def RpP (w : World) (f base most : Nat) (T : List Tr) (t : Tr) (e : Ending) (w' : World) : Prop :=
  ∃ b T', e = .returned (.bool b) ∧ InF most T t T' b ∧ TurnR 66 base w w' f most T.length T' ∧ Upd (TurnS 66 w f most T.length) w w' ∧ (t ∈ T → Below w.heap.size w w')
theorem spot_mem {T : List Tr} {t : Tr} {p : Nat} (hR : RiseF T) (sp : SpotF T t p) (ht : t ∈ T) : ∃ h : p < T.length, T[p] = t := by
  obtain ⟨i, hi, e⟩ := List.getElem_of_mem ht
  have h0 : cmpF T[i] t = 0 := by rw [e]; exact (good_cmpF.eq t t).2 rfl
  rcases Nat.lt_trichotomy i p with h1 | h1 | h1
  · have := sp.2.1 i hi h1
    omega
  · subst h1
    exact ⟨hi, e⟩
  · have hp : p < T.length := by omega
    have h2 := sp.2.2 p hp (Nat.le_refl _)
    have h3 := hR p i hp hi h1
    rw [e] at h3
    omega
theorem rpP_there {w W : World} {f base most : Nat} {ao : Option Addr} {c : Nat} {T : List Tr} {t : Tr} {p : Nat} (hF : FewG 66 w f base most T) (hk : Blk w f #[.int .i64 most, .slice ao T.length c] 66) (hE : RpE w W f most ao c T t) (sp : SpotF T t p) (hp : ∃ h : p < T.length, T[p] = t) : RpP w f base most T t (.returned (.bool true)) W := by
  obtain ⟨a', c', k', o'⟩ := hF.row
  have e := few_uniqT hk k'
  simp only [Value.slice.injEq] at e
  obtain ⟨rfl, -, rfl⟩ := e
  refine ⟨true, T, rfl, ⟨p, sp, Or.inl ⟨rfl, hp, rfl⟩⟩, ⟨ao, c, hE.blk, ownsRow_upd o' (Upd.ofBelow (S := fun _ => False) hE.bel (fun k h1 h2 => by omega)) (fun _ _ h => h), fun a ea => Or.inl ⟨ao, c, a, hk, ea, rfl⟩⟩, Upd.ofBelow hE.bel (fun k h1 h2 => by omega), fun _ => hE.bel⟩
/-- A new row is laid in. -/
theorem rpP_new {w W : World} {f base most p g cap : Nat} {ao : Option Addr} {c : Nat} {T : List Tr} {t : Tr} (hF : FewG 66 w f base most T) (hE : RpE w W f most ao c T t) (sp : SpotF T t p) (hn : ¬ ∃ h : p < T.length, T[p] = t)
    (ho : OwnTr w.heap.size W (.slice (some ⟨g, 0, none⟩) (T.length + 1) cap) (T.take p ++ t :: T.drop p)) :
    RpP w f base most T t (.returned (.bool (decide (p < min (T.length + 1) most)))) (W.setCell ⟨f, 1, none⟩ (.slice (some ⟨g, 0, none⟩) (min (T.length + 1) most) cap)) := by
  have hl := hF.len
  have hpl : p ≤ T.length := sp.1
  have hU : (T.take p ++ t :: T.drop p).length = T.length + 1 := by simp; omega
  have hcut := OwnTr.cut ho (m := min (T.length + 1) most) (by omega)
  have hg : w.heap.size ≤ g := by
    rcases ho.2 with ⟨e, _⟩ | ⟨g', cap', cur, e, hg, _⟩
    · simp at e
    · simp at e
      omega
  have hgf : g ≠ f := fun e => by
    obtain ⟨_, cs, hh⟩ := row_lt ho rfl
    have h1 : W.heap[f]? = some (.cells _ 66 (0, 0)) := hE.blk
    simp only at hh
    rw [e, h1] at hh
    simp at hh
  have hfl : f < w.heap.size := by
    obtain ⟨_, _, k, _⟩ := hF.row
    exact k.lt
  have hT' : (T.take p ++ t :: T.drop p).take (min (T.length + 1) most) = (T.take p ++ t :: T.drop p).take most := by
    rcases Nat.le_total (T.length + 1) most with h | h
    · have e1 : (T.take p ++ t :: T.drop p).take (T.length + 1) = T.take p ++ t :: T.drop p := List.take_of_length_le (by omega)
      have e2 : (T.take p ++ t :: T.drop p).take most = T.take p ++ t :: T.drop p := List.take_of_length_le (by omega)
      rw [Nat.min_eq_left h, e1, e2]
    · rw [Nat.min_eq_right h]
  have hlen' : ((T.take p ++ t :: T.drop p).take most).length = min (T.length + 1) most := by rw [List.length_take, hU]; omega
  have hu : Upd (fun k => k = f) W (W.setCell ⟨f, 1, none⟩ (.slice (some ⟨g, 0, none⟩) (min (T.length + 1) most) cap)) := (Upd.refl (fun k => k = f) W).setCell (p := ⟨f, 1, none⟩) (fun _ => rfl) _
  rw [hT'] at hcut
  refine ⟨decide (p < most), (T.take p ++ t :: T.drop p).take most, ?_, ?_, ⟨some ⟨g, 0, none⟩, cap, ?_, ?_, fun a ea => Or.inr ?_⟩, ?_, fun ht => absurd (spot_mem hF.rise sp ht) hn⟩
  · congr 2
    by_cases h : p < most
    · rw [decide_eq_true h, decide_eq_true (by omega)]
    · rw [decide_eq_false h, decide_eq_false (by omega)]
  · by_cases h : p < most
    · exact ⟨p, sp, Or.inr (Or.inr ⟨decide_eq_true h, h, hn, rfl⟩)⟩
    · have hpm : p = most := by omega
      refine ⟨p, sp, Or.inr (Or.inl ⟨decide_eq_false h, hpm, ?_⟩)⟩
      have hTm : T.length = most := by omega
      rw [List.take_append_of_le_length (by simp; omega), List.take_take, List.take_of_length_le (by omega)]
  · rw [hlen']
    exact hE.blk.set 1 _
  · rw [hlen']
    refine ownsRow_upd (OwnTr.low hcut hF.low) hu (fun k hk e => ?_)
    obtain ⟨b, eb, hb⟩ := ownB hk
    injection eb with eb
    subst eb
    simp only at hb
    omega
  · injection ea with ea
    subst ea
    exact hg
  · have u1 : Upd (TurnS 66 w f most T.length) w W := Upd.ofBelow hE.bel (fun k h1 h2 => by omega)
    exact u1.setCell (p := ⟨f, 1, none⟩) (fun _ => Or.inl rfl) _
theorem nil_row {w : World} {f base most n c : Nat} {T : List Tr} (hF : FewG 66 w f base most T) (hk : Blk w f #[.int .i64 most, .slice none T.length c] 66) (hn : T.length = n) : n = 0 ∧ c = 0 := by
  obtain ⟨a', c', k', o'⟩ := hF.row
  have e := few_uniqT hk k'
  simp only [Value.slice.injEq] at e
  obtain ⟨rfl, -, rfl⟩ := e
  rcases o'.2 with ⟨e', h0⟩ | ⟨g, cap, cur, e', _⟩
  · simp only [Value.slice.injEq] at e'
    exact ⟨by omega, e'.2.2⟩
  · simp at e'
theorem some_row {w : World} {f base most c : Nat} {a : Addr} {T : List Tr} (hF : FewG 66 w f base most T) (hk : Blk w f #[.int .i64 most, .slice (some a) T.length c] 66) : ∃ g, a = ⟨g, 0, none⟩ := by
  obtain ⟨a', c', k', o'⟩ := hF.row
  have e := few_uniqT hk k'
  simp only [Value.slice.injEq] at e
  obtain ⟨rfl, -, rfl⟩ := e
  rcases o'.2 with ⟨e', h0⟩ | ⟨g, cap, cur, e', _⟩
  · simp at e'
  · simp only [Value.slice.injEq, Option.some.injEq] at e'
    exact ⟨g, e'.1⟩
set_option maxHeartbeats 8000000 in
theorem rPut_any (f base most : Nat) (T : List Tr) (t : Tr) (w : World) (hF : FewG 66 w f base most T) :
    Calls Tryd.prog 17 #[.pointer (some ⟨f, 0, none⟩), .agg #[.int .u64 (bvI t.1), .int .u64 (bvI t.2)]] w (RpP w f base most T t) := by
  obtain ⟨ao, c, hf, hO⟩ := hF.row
  have b0 : Below w.heap.size w (w.alloc (.cells #[.int .u64 (bvI t.1), .int .u64 (bvI t.2)] 33)) := (Below.refl _ _).alloc (Nat.le_refl _) _
  have HE0 : Hid (RpE w (w.alloc (.cells #[.int .u64 (bvI t.1), .int .u64 (bvI t.2)] 33)) f most ao c T t) := ⟨b0, hf.below b0 hf.lt, hO.at.below b0, Blk.new _ _ _⟩
  obtain ⟨n, hn⟩ : ∃ n, T.length = n := ⟨_, rfl⟩
  have HLn : Hid (T.length = n) := hn
  have HF : Hid (FewG 66 w f base most T ∧ Blk w f #[.int .i64 most, .slice ao T.length c] 66) := ⟨hF, hf⟩
  have hnm : n ≤ most := by rw [← hn]; exact hF.len
  have hm := hF.most
  have hnc : n ≤ c := by have := (own_cap hO).2.1; omega
  have hni : (n : Int) ≤ 1000 := by omega
  clear hF hf hO b0 hn
  go_enter Tryd.func17, Tryd.ntmps17
  go_wp2
  go_loopw [5] (fun z wr => ∃ i : Nat, z = .int .i64 i ∧ i ≤ n ∧ Hid (∀ k (hk : k < T.length), k < i → cmpF T[k] t < 0) ∧ Hid (RpE w wr f most ao c T t)) (fun z _ => n - (RowKit.intOf z).toNat)
  case atStart => exact ⟨0, rfl, by omega, fun k hk h => absurd h (by omega), HE0⟩
  case round =>
    obtain ⟨i, rfl, hin, HLo, HE⟩ := hrel
    clear HE0
    by_cases hlt : i < n
    · have hlt' : (i : Int) < (n : Int) := by omega
      have hd1 : decide ((i : Int) < (n : Int)) = true := decide_eq_true hlt'
      have hiT : i < T.length := by rw [HLn.out]; exact hlt
      obtain ⟨g, e, hg, hc⟩ := HE.out.row (by omega)
      have hci := hc i hiT
      obtain ⟨x, hx⟩ : ∃ x, T[i] = x := ⟨_, rfl⟩
      rw [hx] at hci
      subst e
      have LS : Hid (∀ W, Calls Tryd.prog 35 #[.agg #[.int .u64 (bvI x.1), .int .u64 (bvI x.2)], .agg #[.int .u64 (bvI t.1), .int .u64 (bvI t.2)]] W fun e w' => e = .returned (.bool (decide (cmpF x t < 0))) ∧ Below W.heap.size W w') := fun W => rLess_any x t W
      have KB : ∀ W, Below wr.heap.size wr W → W.cell? ⟨f, 1, none⟩ = some (.slice (some ⟨g, 0, none⟩) n c) ∧ W.cell? ⟨g, i * 2, none⟩ = some (.int .u64 (bvI x.1)) ∧ W.cell? ⟨g, i * 2 + 1, none⟩ = some (.int .u64 (bvI x.2)) ∧ W.cell? ⟨w.heap.size, 0, none⟩ = some (.int .u64 (bvI t.1)) ∧ W.cell? ⟨w.heap.size, 1, none⟩ = some (.int .u64 (bvI t.2)) := fun W hW => by
        have h := HE.out.below hW
        have h1 := h.blk.cell 1 rfl
        rw [HLn.out] at h1
        exact ⟨h1, (hW.cell (p := ⟨g, i * 2, none⟩) hg).trans hci.1, (hW.cell (p := ⟨g, i * 2 + 1, none⟩) hg).trans hci.2, h.box.cell 0 rfl, h.box.cell 1 rfl⟩
      have B0 : Below wr.heap.size wr wr.drew := (Below.refl _ _).drew
      have HX : Hid (∃ h : i < T.length, T[i] = x) := ⟨hiT, hx⟩
      clear hc hci hx hiT hg
      by_cases hcm : cmpF x t < 0
      · have hdc : decide (cmpF x t < 0) = true := decide_eq_true hcm
        rw [hdc] at LS
        clear hdc
        have HLo' : Hid (∀ k (hk : k < T.length), k < i + 1 → cmpF T[k] t < 0) := fun k hk h => by
          rcases Nat.lt_or_ge k i with h1 | h1
          · exact HLo.out k hk h1
          · obtain rfl : k = i := by omega
            obtain ⟨_, h2⟩ := HX.out
            rw [h2]
            exact hcm
        clear hcm HLo
        go_upto_region 2 with fail
        go_region_held3 (fun W => W.cell? ⟨f, 1, none⟩ = some (.slice (some ⟨g, 0, none⟩) n c) ∧ W.cell? ⟨g, i * 2, none⟩ = some (.int .u64 (bvI x.1)) ∧ W.cell? ⟨g, i * 2 + 1, none⟩ = some (.int .u64 (bvI x.2)) ∧ W.cell? ⟨w.heap.size, 0, none⟩ = some (.int .u64 (bvI t.1)) ∧ W.cell? ⟨w.heap.size, 1, none⟩ = some (.int .u64 (bvI t.2))) (first | exact KB _ B0 | exact KB _ B1) (first
          | (go_at_call 35; (with_reducible refine (LS.out _).mono ?_); clear LS; rintro e w1 ⟨rfl, hb1⟩; have B1 : Below wr.heap.size wr w1 := B0.trans (hb1.mono B0.size); clear hb1)
          | fail)
        all_goals
          have HN : Hid (RpE w w1 f most (some ⟨g, 0, none⟩) c T t) := HE.out.below B1
          clear KB B0 B1 HE HX
          go_wp2
          go_roundw
          case rel => exact ⟨i + 1, by go_num, by omega, HLo', HN⟩
          case measure => (simp [RowKit.intOf]; omega)
      · have hdc : decide (cmpF x t < 0) = false := decide_eq_false hcm
        rw [hdc] at LS
        clear hdc
        have HSP : Hid (SpotF T t i) := by
          obtain ⟨hiT, h2⟩ := HX.out
          refine ⟨by omega, HLo.out, fun k hk h => ?_⟩
          have h3 : 0 ≤ cmpF T[i] t := by rw [h2]; omega
          exact HF.out.1.rise.high hiT hk h h3
        clear hcm HLo
        go_upto_region 2 with fail
        go_region_held3 (fun W => W.cell? ⟨f, 1, none⟩ = some (.slice (some ⟨g, 0, none⟩) n c) ∧ W.cell? ⟨g, i * 2, none⟩ = some (.int .u64 (bvI x.1)) ∧ W.cell? ⟨g, i * 2 + 1, none⟩ = some (.int .u64 (bvI x.2)) ∧ W.cell? ⟨w.heap.size, 0, none⟩ = some (.int .u64 (bvI t.1)) ∧ W.cell? ⟨w.heap.size, 1, none⟩ = some (.int .u64 (bvI t.2))) (first | exact KB _ B0 | exact KB _ B1) (first
          | (go_at_call 35; (with_reducible refine (LS.out _).mono ?_); clear LS; rintro e w1 ⟨rfl, hb1⟩; have B1 : Below wr.heap.size wr w1 := B0.trans (hb1.mono B0.size); clear hb1)
          | fail)
        all_goals
          obtain ⟨y1, y2, y3, y4, y5⟩ := KB _ B1
          have hgd := guard_trace
          have hq := run_eqTr x t
          have HN : Hid (∀ q, RpE w (w1.drewN q) f most (some ⟨g, 0, none⟩) c T t) := fun q => HE.out.below ⟨B1.os, B1.tape, B1.output, B1.size, B1.block⟩
          clear KB B0 B1 HE
          generalize w1 = wr at *
          by_cases he : x = t
          · have hde : decide (x = t) = true := decide_eq_true he
            rw [hde] at hq
            have HP : Hid (∀ q, RpP w f base most T t (.returned (.bool true)) (wr.drewN q)) := fun q => rpP_there HF.out.1 HF.out.2 (HN.out q) HSP.out (by obtain ⟨h1, h2⟩ := HX.out; exact ⟨h1, h2.trans he⟩)
            clear he hde HX HN HSP
            go_upto_region 4 with fail
            go_quiet (fail)
            go_wp2
            go_ret
            exact HP.out _
          · have hde : decide (x = t) = false := decide_eq_false he
            rw [hde] at hq
            have HNo : Hid (¬ ∃ h : i < T.length, T[i] = t) := fun ⟨h1, h2⟩ => by obtain ⟨_, h3⟩ := HX.out; exact he (h3.symm.trans h2)
            clear he hde HX
            go_upto_region 4 with fail
            go_quiet (fail)
            obtain ⟨W4, hW4⟩ : ∃ W4, wr.drewN nq = W4 := ⟨_, rfl⟩
            have E4 : RpE w W4 f most (some ⟨g, 0, none⟩) c T t := by rw [← hW4]; exact HN.out nq
            rw [hW4]
            clear hW4
            have HE4 : Hid (RpE w W4 f most (some ⟨g, 0, none⟩) c T t) := E4
            have k0 := E4.blk.cell 1 rfl
            rw [HLn.out] at k0
            have b0 := E4.box.cell 0 rfl
            have b1 := E4.box.cell 1 rfl
            obtain ⟨i0, hi0, hz0, hz1, hz2⟩ := info_parts infoTr
            have N1 : W4.ownsRow W4.heap.size 33 2 (.slice none 0 0) 0 [] := World.ownsRow_nil _ _ 33 2
            have hti : (T.take i).length = i := by rw [List.length_take, HLn.out]; omega
            have htd : (T.drop i).length = n - i := by rw [List.length_drop, HLn.out]
            have S1 := (E4.row.takeO i).src i c hti
            have HS3 : Hid (∀ W, Below W4.heap.size W4 W → W.cell? ⟨f, 1, none⟩ = some (.slice (some ⟨g, 0, none⟩) n c) ∧ W.cell? ⟨f, 0, none⟩ = some (.int .i64 most) ∧ W.frozen? ⟨f, 1, none⟩ = false ∧ W.cell? ⟨w.heap.size, 0, none⟩ = some (.int .u64 (bvI t.1)) ∧ W.cell? ⟨w.heap.size, 1, none⟩ = some (.int .u64 (bvI t.2)) ∧ RpE w W f most (some ⟨g, 0, none⟩) c T t) := fun W hW => by
              have h := HE4.out.below hW
              have h1 := h.blk.cell 1 rfl
              rw [HLn.out] at h1
              exact ⟨h1, h.blk.cell 0 rfl, h.blk.frozen 1, h.box.cell 0 rfl, h.box.cell 1 rfl, h⟩
            have hin0 : (i : Int) ≤ (n : Int) := by omega
            have hncI : (n : Int) ≤ (c : Int) := by omega
            have hiI : (0 : Int) ≤ (i : Int) := by omega
            clear E4 HN
            go_upto_region 10 with (first
              | (at_builtin; refine wpList_appW W4 rfl (.tmp 45) (.tmp 51) 38 38 rfl W4.heap.size 33 i0 _ 2 16 Tryd.underlying38 hi0 hz0 hz1 hz2 rfl _ 0 [] rfl N1 _ i ((T.take i).flatMap trC) rfl S1 (by unfold maxLen; omega) (by omega) (Nat.le_refl _) ?_; clear S1 N1; intro v1 w1 o1 g1 m1; have B1 : Below W4.heap.size W4 w1 := ((Upd.refl (fun k => W4.heap.size ≤ k) W4).grown g1 (fun k _ (e : (Value.slice none 0 0).ownBlock = some k) => by cases e)).below (Nat.le_refl _) (fun k h1 h2 => by omega); obtain ⟨c1, c2, c3, c4, c5, E5⟩ := HS3.out w1 B1; clear k0 b0 b1 m1 g1; have BA : Below W4.heap.size W4 (w1.alloc (.cells #[.int .u64 (bvI t.1), .int .u64 (bvI t.2)] 33)) := B1.alloc B1.size _; have S2 := src_tr w1.heap.size 1 t (w1.alloc (.cells #[.int .u64 (bvI t.1), .int .u64 (bvI t.2)] 33)) (Blk.new _ _ _); have O2 : (w1.alloc (.cells #[.int .u64 (bvI t.1), .int .u64 (bvI t.2)] 33)).ownsRow W4.heap.size 33 2 v1 (0 + i) ([] ++ (T.take i).flatMap trC) := ownsRow_upd o1 ((Upd.refl (fun _ => False) w1).alloc _) (fun _ _ h => h); have hBS := BA.size; clear o1 E5 B1)
              | (at_builtin; refine wpList_appW (w1.alloc (.cells #[.int .u64 (bvI t.1), .int .u64 (bvI t.2)] 33)) rfl (.tmp 53) (.tmp 55) 38 38 rfl W4.heap.size 33 i0 _ 2 16 Tryd.underlying38 hi0 hz0 hz1 hz2 rfl _ (0 + i) _ rfl O2 _ 1 (trC t) rfl S2 (by unfold maxLen; omega) (by omega) hBS ?_; clear S2 c1 c2 c3 c4 c5; intro v2 w2 o2 g2 m2; have B2 : Below W4.heap.size W4 w2 := BA.trans (((Upd.refl (fun k => W4.heap.size ≤ k) _).grown g2 (fun k _ e => (own_block O2 e).1)).below hBS (fun k h1 h2 => by omega)); obtain ⟨c1, c2, c3, c4, c5, E5⟩ := HS3.out w2 B2; clear g2 m2 O2 hBS BA; have hBS := B2.size; have S3 := (E5.row.dropO i).src (n - i) (c - i) htd; clear E5 c4 c5)
              | (at_builtin; refine wpList_appW w2 rfl (.tmp 57) (.tmp 63) 38 38 rfl W4.heap.size 33 i0 _ 2 16 Tryd.underlying38 hi0 hz0 hz1 hz2 rfl _ (0 + i + 1) _ rfl o2 _ (n - i) _ rfl S3 (by unfold maxLen; omega) (by omega) hBS ?_; clear S3 c1 c2 c3; intro v3 w3 o3 g3 m3; have B3 : Below W4.heap.size W4 w3 := B2.trans (((Upd.refl (fun k => W4.heap.size ≤ k) _).grown g3 (fun k _ e => (own_block o2 e).1)).below hBS (fun k h1 h2 => by omega)); obtain ⟨c1, c2, c3, c4, c5, E5⟩ := HS3.out w3 B3; clear g3 m3 o2 B2))
            have hbw : w.heap.size ≤ W4.heap.size := HE4.out.bel.size
            obtain ⟨g3, cap3, ev, hc1, hc2, hg3, _⟩ := own_some o3 (by omega)
            have OW : OwnTr w.heap.size w3 v3 (T.take i ++ t :: T.drop i) := by
              refine OwnTr.low (b' := W4.heap.size) ?_ hbw
              unfold OwnTr
              have e1 : (T.take i ++ t :: T.drop i).length = 0 + i + 1 + (n - i) := by rw [List.length_append, List.length_cons, hti, htd] <;> omega
              have e2 : (T.take i ++ t :: T.drop i).flatMap trC = [] ++ (T.take i).flatMap trC ++ trC t ++ (T.drop i).flatMap trC := by rw [List.flatMap_append, List.flatMap_cons, List.nil_append, List.append_assoc]
              rw [e1, e2]
              exact o3
            obtain ⟨nn, hnn⟩ : ∃ nn, n + 1 = nn := ⟨_, rfl⟩
            rw [show 0 + i + 1 + (n - i) = nn by omega] at ev hc1
            subst ev
            have RP0 := rpP_new HF.out.1 E5 HSP.out HNo.out (g := g3) (cap := cap3) (by rw [HLn.out, hnn]; exact OW)
            rw [HLn.out, hnn] at RP0
            have hnnI : (nn : Int) ≤ (cap3 : Int) := by omega
            have hmI : (0 : Int) ≤ (most : Int) := by omega
            obtain ⟨k, hk⟩ : ∃ k, min nn most = k := ⟨_, rfl⟩
            rw [hk] at RP0
            have hmin : min (nn : Int) (most : Int) = (k : Int) := by omega
            have hkc : (k : Int) ≤ (cap3 : Int) := by omega
            have hk0 : (0 : Int) ≤ (k : Int) := by omega
            have hmx : max (k : Int) 0 = (k : Int) := by omega
            have RP : Hid _ := RP0
            clear RP0 OW E5 o3 B3 HE4 HS3 hti htd hk hnn
            go_wp2
            all_goals go_ret
            all_goals exact RP.out
    · have hlt' : ¬ (i : Int) < (n : Int) := by omega
      have hd1 : decide ((i : Int) < (n : Int)) = false := decide_eq_false hlt'
      have HSP : Hid (SpotF T t i) := ⟨by rw [HLn.out]; exact hin, HLo.out, fun k hk h => absurd hk (by rw [HLn.out]; omega)⟩
      have HNo : Hid (¬ ∃ h : i < T.length, T[i] = t) := fun ⟨h1, _⟩ => by rw [HLn.out] at h1; omega
      have y1 := HE.out.blk.cell 1 rfl
      rw [HLn.out] at y1
      have HNN : Hid (∀ q, RpE w (wr.drewN q) f most ao c T t) := fun q => HE.out.below ⟨rfl, rfl, rfl, Nat.le_refl _, fun _ _ => rfl⟩
      clear HLo HE
      go_upto_region 2 with fail
      go_quiet (fail)
      obtain ⟨w1, hw1⟩ : ∃ w1, wr.drewN nq = w1 := ⟨_, rfl⟩
      have HE1 : Hid (RpE w w1 f most ao c T t) := by rw [← hw1]; exact HNN.out nq
      rw [hw1]
      clear hw1 HNN y1
      generalize w1 = wr at *
      have y1 := HE1.out.blk.cell 1 rfl
      rw [HLn.out] at y1
      have HN : Hid (∀ q, RpE w (wr.drewN q) f most ao c T t) := fun q => HE1.out.below ⟨rfl, rfl, rfl, Nat.le_refl _, fun _ _ => rfl⟩
      clear HE1
      cases ao with
      | none =>
        obtain ⟨hn0, hc0⟩ := nil_row HF.out.1 HF.out.2 HLn.out
        obtain rfl : i = 0 := by omega
        subst hn0 hc0
        clear hlt
        go_upto_region 4 with fail
        go_quiet (fail)
        obtain ⟨W4, hW4⟩ : ∃ W4, wr.drewN nq = W4 := ⟨_, rfl⟩
        have E4 : RpE w W4 f most none 0 T t := by rw [← hW4]; exact HN.out nq
        rw [hW4]
        clear hW4
        have HE4 : Hid (RpE w W4 f most none 0 T t) := E4
        have k0 := E4.blk.cell 1 rfl
        rw [HLn.out] at k0
        have b0 := E4.box.cell 0 rfl
        have b1 := E4.box.cell 1 rfl
        obtain ⟨i0, hi0, hz0, hz1, hz2⟩ := info_parts infoTr
        have N1 : W4.ownsRow W4.heap.size 33 2 (.slice none 0 0) 0 [] := World.ownsRow_nil _ _ 33 2
        have hti : (T.take 0).length = 0 := by rw [List.length_take, HLn.out]; omega
        have htd : (T.drop 0).length = 0 - 0 := by rw [List.length_drop, HLn.out]
        have S1 := (E4.row.takeO 0).src 0 0 hti
        have HS3 : Hid (∀ W, Below W4.heap.size W4 W → W.cell? ⟨f, 1, none⟩ = some (.slice none 0 0) ∧ W.cell? ⟨f, 0, none⟩ = some (.int .i64 most) ∧ W.frozen? ⟨f, 1, none⟩ = false ∧ W.cell? ⟨w.heap.size, 0, none⟩ = some (.int .u64 (bvI t.1)) ∧ W.cell? ⟨w.heap.size, 1, none⟩ = some (.int .u64 (bvI t.2)) ∧ RpE w W f most none 0 T t) := fun W hW => by
          have h := HE4.out.below hW
          have h1 := h.blk.cell 1 rfl
          rw [HLn.out] at h1
          exact ⟨h1, h.blk.cell 0 rfl, h.blk.frozen 1, h.box.cell 0 rfl, h.box.cell 1 rfl, h⟩
        have hin0 : ((0 : Nat) : Int) ≤ ((0 : Nat) : Int) := by omega
        have hncI : ((0 : Nat) : Int) ≤ ((0 : Nat) : Int) := by omega
        have hiI : (0 : Int) ≤ ((0 : Nat) : Int) := by omega
        clear E4 HN
        go_upto_region 10 with (first
          | (at_builtin; refine wpList_appW W4 rfl (.tmp 45) (.tmp 51) 38 38 rfl W4.heap.size 33 i0 _ 2 16 Tryd.underlying38 hi0 hz0 hz1 hz2 rfl _ 0 [] rfl N1 _ 0 ((T.take 0).flatMap trC) rfl S1 (by unfold maxLen; omega) (by omega) (Nat.le_refl _) ?_; clear S1 N1; intro v1 w1 o1 g1 m1; have B1 : Below W4.heap.size W4 w1 := ((Upd.refl (fun k => W4.heap.size ≤ k) W4).grown g1 (fun k _ (e : (Value.slice none 0 0).ownBlock = some k) => by cases e)).below (Nat.le_refl _) (fun k h1 h2 => by omega); obtain ⟨c1, c2, c3, c4, c5, E5⟩ := HS3.out w1 B1; clear k0 b0 b1 m1 g1; have BA : Below W4.heap.size W4 (w1.alloc (.cells #[.int .u64 (bvI t.1), .int .u64 (bvI t.2)] 33)) := B1.alloc B1.size _; have S2 := src_tr w1.heap.size 1 t (w1.alloc (.cells #[.int .u64 (bvI t.1), .int .u64 (bvI t.2)] 33)) (Blk.new _ _ _); have O2 : (w1.alloc (.cells #[.int .u64 (bvI t.1), .int .u64 (bvI t.2)] 33)).ownsRow W4.heap.size 33 2 v1 (0 + 0) ([] ++ (T.take 0).flatMap trC) := ownsRow_upd o1 ((Upd.refl (fun _ => False) w1).alloc _) (fun _ _ h => h); have hBS := BA.size; clear o1 E5 B1)
          | (at_builtin; refine wpList_appW (w1.alloc (.cells #[.int .u64 (bvI t.1), .int .u64 (bvI t.2)] 33)) rfl (.tmp 53) (.tmp 55) 38 38 rfl W4.heap.size 33 i0 _ 2 16 Tryd.underlying38 hi0 hz0 hz1 hz2 rfl _ (0 + 0) _ rfl O2 _ 1 (trC t) rfl S2 (by unfold maxLen; omega) (by omega) hBS ?_; clear S2 c1 c2 c3 c4 c5; intro v2 w2 o2 g2 m2; have B2 : Below W4.heap.size W4 w2 := BA.trans (((Upd.refl (fun k => W4.heap.size ≤ k) _).grown g2 (fun k _ e => (own_block O2 e).1)).below hBS (fun k h1 h2 => by omega)); obtain ⟨c1, c2, c3, c4, c5, E5⟩ := HS3.out w2 B2; clear g2 m2 O2 hBS BA; have hBS := B2.size; have S3 := src_nil w2; clear E5 c4 c5)
          | (at_builtin; refine wpList_appW w2 rfl (.tmp 57) (.tmp 63) 38 38 rfl W4.heap.size 33 i0 _ 2 16 Tryd.underlying38 hi0 hz0 hz1 hz2 rfl _ (0 + 0 + 1) _ rfl o2 _ 0 [] rfl (S3 _ _ _ (by omega)) (by unfold maxLen; omega) (by omega) hBS ?_; clear S3 c1 c2 c3; intro v3 w3 o3 g3 m3; have B3 : Below W4.heap.size W4 w3 := B2.trans (((Upd.refl (fun k => W4.heap.size ≤ k) _).grown g3 (fun k _ e => (own_block o2 e).1)).below hBS (fun k h1 h2 => by omega)); obtain ⟨c1, c2, c3, c4, c5, E5⟩ := HS3.out w3 B3; clear g3 m3 o2 B2))
        have hbw : w.heap.size ≤ W4.heap.size := HE4.out.bel.size
        obtain ⟨g3, cap3, ev, hc1, hc2, hg3, _⟩ := own_some o3 (by omega)
        have OW : OwnTr w.heap.size w3 v3 (T.take 0 ++ t :: T.drop 0) := by
          refine OwnTr.low (b' := W4.heap.size) ?_ hbw
          unfold OwnTr
          have e1 : (T.take 0 ++ t :: T.drop 0).length = 0 + 0 + 1 + 0 := by rw [List.length_append, List.length_cons, hti, htd] <;> omega
          have e2 : (T.take 0 ++ t :: T.drop 0).flatMap trC = [] ++ (T.take 0).flatMap trC ++ trC t ++ [] := by rw [List.flatMap_append, List.flatMap_cons, List.nil_append, List.append_assoc, List.eq_nil_of_length_eq_zero (l := T.drop 0) (by rw [htd] <;> omega)] <;> simp
          rw [e1, e2]
          exact o3
        obtain ⟨nn, hnn⟩ : ∃ nn, 0 + 1 = nn := ⟨_, rfl⟩
        rw [show 0 + 0 + 1 + 0 = nn by omega] at ev hc1
        subst ev
        have RP0 := rpP_new HF.out.1 E5 HSP.out HNo.out (g := g3) (cap := cap3) (by rw [HLn.out, hnn]; exact OW)
        rw [HLn.out, hnn] at RP0
        have hnnI : (nn : Int) ≤ (cap3 : Int) := by omega
        have hmI : (0 : Int) ≤ (most : Int) := by omega
        obtain ⟨k, hk⟩ : ∃ k, min nn most = k := ⟨_, rfl⟩
        rw [hk] at RP0
        have hmin : min (nn : Int) (most : Int) = (k : Int) := by omega
        have hkc : (k : Int) ≤ (cap3 : Int) := by omega
        have hk0 : (0 : Int) ≤ (k : Int) := by omega
        have hmx : max (k : Int) 0 = (k : Int) := by omega
        have RP : Hid _ := RP0
        clear RP0 OW E5 o3 B3 HE4 HS3 hti htd hk hnn
        go_wp2
        all_goals go_ret
        all_goals exact RP.out
      | some a =>
        obtain ⟨g, rfl⟩ := some_row HF.out.1 HF.out.2
        go_upto_region 4 with fail
        go_quiet (fail)
        obtain ⟨W4, hW4⟩ : ∃ W4, wr.drewN nq = W4 := ⟨_, rfl⟩
        have E4 : RpE w W4 f most (some ⟨g, 0, none⟩) c T t := by rw [← hW4]; exact HN.out nq
        rw [hW4]
        clear hW4
        have HE4 : Hid (RpE w W4 f most (some ⟨g, 0, none⟩) c T t) := E4
        have k0 := E4.blk.cell 1 rfl
        rw [HLn.out] at k0
        have b0 := E4.box.cell 0 rfl
        have b1 := E4.box.cell 1 rfl
        obtain ⟨i0, hi0, hz0, hz1, hz2⟩ := info_parts infoTr
        have N1 : W4.ownsRow W4.heap.size 33 2 (.slice none 0 0) 0 [] := World.ownsRow_nil _ _ 33 2
        have hti : (T.take i).length = i := by rw [List.length_take, HLn.out]; omega
        have htd : (T.drop i).length = n - i := by rw [List.length_drop, HLn.out]
        have S1 := (E4.row.takeO i).src i c hti
        have HS3 : Hid (∀ W, Below W4.heap.size W4 W → W.cell? ⟨f, 1, none⟩ = some (.slice (some ⟨g, 0, none⟩) n c) ∧ W.cell? ⟨f, 0, none⟩ = some (.int .i64 most) ∧ W.frozen? ⟨f, 1, none⟩ = false ∧ W.cell? ⟨w.heap.size, 0, none⟩ = some (.int .u64 (bvI t.1)) ∧ W.cell? ⟨w.heap.size, 1, none⟩ = some (.int .u64 (bvI t.2)) ∧ RpE w W f most (some ⟨g, 0, none⟩) c T t) := fun W hW => by
          have h := HE4.out.below hW
          have h1 := h.blk.cell 1 rfl
          rw [HLn.out] at h1
          exact ⟨h1, h.blk.cell 0 rfl, h.blk.frozen 1, h.box.cell 0 rfl, h.box.cell 1 rfl, h⟩
        have hin0 : (i : Int) ≤ (n : Int) := by omega
        have hncI : (n : Int) ≤ (c : Int) := by omega
        have hiI : (0 : Int) ≤ (i : Int) := by omega
        clear E4 HN
        go_upto_region 10 with (first
          | (at_builtin; refine wpList_appW W4 rfl (.tmp 45) (.tmp 51) 38 38 rfl W4.heap.size 33 i0 _ 2 16 Tryd.underlying38 hi0 hz0 hz1 hz2 rfl _ 0 [] rfl N1 _ i ((T.take i).flatMap trC) rfl S1 (by unfold maxLen; omega) (by omega) (Nat.le_refl _) ?_; clear S1 N1; intro v1 w1 o1 g1 m1; have B1 : Below W4.heap.size W4 w1 := ((Upd.refl (fun k => W4.heap.size ≤ k) W4).grown g1 (fun k _ (e : (Value.slice none 0 0).ownBlock = some k) => by cases e)).below (Nat.le_refl _) (fun k h1 h2 => by omega); obtain ⟨c1, c2, c3, c4, c5, E5⟩ := HS3.out w1 B1; clear k0 b0 b1 m1 g1; have BA : Below W4.heap.size W4 (w1.alloc (.cells #[.int .u64 (bvI t.1), .int .u64 (bvI t.2)] 33)) := B1.alloc B1.size _; have S2 := src_tr w1.heap.size 1 t (w1.alloc (.cells #[.int .u64 (bvI t.1), .int .u64 (bvI t.2)] 33)) (Blk.new _ _ _); have O2 : (w1.alloc (.cells #[.int .u64 (bvI t.1), .int .u64 (bvI t.2)] 33)).ownsRow W4.heap.size 33 2 v1 (0 + i) ([] ++ (T.take i).flatMap trC) := ownsRow_upd o1 ((Upd.refl (fun _ => False) w1).alloc _) (fun _ _ h => h); have hBS := BA.size; clear o1 E5 B1)
          | (at_builtin; refine wpList_appW (w1.alloc (.cells #[.int .u64 (bvI t.1), .int .u64 (bvI t.2)] 33)) rfl (.tmp 53) (.tmp 55) 38 38 rfl W4.heap.size 33 i0 _ 2 16 Tryd.underlying38 hi0 hz0 hz1 hz2 rfl _ (0 + i) _ rfl O2 _ 1 (trC t) rfl S2 (by unfold maxLen; omega) (by omega) hBS ?_; clear S2 c1 c2 c3 c4 c5; intro v2 w2 o2 g2 m2; have B2 : Below W4.heap.size W4 w2 := BA.trans (((Upd.refl (fun k => W4.heap.size ≤ k) _).grown g2 (fun k _ e => (own_block O2 e).1)).below hBS (fun k h1 h2 => by omega)); obtain ⟨c1, c2, c3, c4, c5, E5⟩ := HS3.out w2 B2; clear g2 m2 O2 hBS BA; have hBS := B2.size; have S3 := src_nil w2; clear E5 c4 c5)
          | (at_builtin; refine wpList_appW w2 rfl (.tmp 57) (.tmp 63) 38 38 rfl W4.heap.size 33 i0 _ 2 16 Tryd.underlying38 hi0 hz0 hz1 hz2 rfl _ (0 + i + 1) _ rfl o2 _ (n - i) [] rfl (S3 _ _ _ (by omega)) (by unfold maxLen; omega) (by omega) hBS ?_; clear S3 c1 c2 c3; intro v3 w3 o3 g3 m3; have B3 : Below W4.heap.size W4 w3 := B2.trans (((Upd.refl (fun k => W4.heap.size ≤ k) _).grown g3 (fun k _ e => (own_block o2 e).1)).below hBS (fun k h1 h2 => by omega)); obtain ⟨c1, c2, c3, c4, c5, E5⟩ := HS3.out w3 B3; clear g3 m3 o2 B2))
        have hbw : w.heap.size ≤ W4.heap.size := HE4.out.bel.size
        obtain ⟨g3, cap3, ev, hc1, hc2, hg3, _⟩ := own_some o3 (by omega)
        have OW : OwnTr w.heap.size w3 v3 (T.take i ++ t :: T.drop i) := by
          refine OwnTr.low (b' := W4.heap.size) ?_ hbw
          unfold OwnTr
          have e1 : (T.take i ++ t :: T.drop i).length = 0 + i + 1 + (n - i) := by rw [List.length_append, List.length_cons, hti, htd] <;> omega
          have e2 : (T.take i ++ t :: T.drop i).flatMap trC = [] ++ (T.take i).flatMap trC ++ trC t ++ [] := by rw [List.flatMap_append, List.flatMap_cons, List.nil_append, List.append_assoc, List.eq_nil_of_length_eq_zero (l := T.drop i) (by rw [htd] <;> omega)] <;> simp
          rw [e1, e2]
          exact o3
        obtain ⟨nn, hnn⟩ : ∃ nn, n + 1 = nn := ⟨_, rfl⟩
        rw [show 0 + i + 1 + (n - i) = nn by omega] at ev hc1
        subst ev
        have RP0 := rpP_new HF.out.1 E5 HSP.out HNo.out (g := g3) (cap := cap3) (by rw [HLn.out, hnn]; exact OW)
        rw [HLn.out, hnn] at RP0
        have hnnI : (nn : Int) ≤ (cap3 : Int) := by omega
        have hmI : (0 : Int) ≤ (most : Int) := by omega
        obtain ⟨k, hk⟩ : ∃ k, min nn most = k := ⟨_, rfl⟩
        rw [hk] at RP0
        have hmin : min (nn : Int) (most : Int) = (k : Int) := by omega
        have hkc : (k : Int) ≤ (cap3 : Int) := by omega
        have hk0 : (0 : Int) ≤ (k : Int) := by omega
        have hmx : max (k : Int) 0 = (k : Int) := by omega
        have RP : Hid _ := RP0
        clear RP0 OW E5 o3 B3 HE4 HS3 hti htd hk hnn
        go_wp2
        all_goals go_ret
        all_goals exact RP.out
end Go.Proofs.YtpcfchbiohbcoaaDoor
