/-
  HaltTree: the walk.
-/
import Derived.Test.YtmepapbbebddiaaHt
import Derived.Deep.RegionHeld3
namespace Go.Proofs.Ytmepapbbebddiaa
open Go Go.Conc Go.RowKit Go.MuLone

theorem infoErr : (Try.prog.info? 36).map (fun i => (i.zero, i.size, i.bytes)) = some (some (.int .i64 0), 1, 8) := by kernel_rfl
theorem ownsRow_low {w : World} {base base' : Nat} {e : TypeId} {size : Nat} {v : Value} {n : Nat} {xs : List Value} (h : w.ownsRow base e size v n xs) (hb : base' ≤ base) : w.ownsRow base' e size v n xs := by
  obtain ⟨h1, h2⟩ := h
  refine ⟨h1, ?_⟩
  rcases h2 with h2 | ⟨g, cap, cur, y0, y1, y2⟩
  · exact Or.inl h2
  · exact Or.inr ⟨g, cap, cur, y0, by omega, y2⟩
/-- The tree that was grown, and a list of nothings. -/
theorem Tre.start {W w1 w2 w3 : World} {ids : List Nat} {ups : List Int} {va vu vr : Value} {n₀ lk : Nat} {N : Nat → Nd} {pg : Nat → Option Nat} (b1 : Below W.heap.size W w1) (G : Grw w1 w2 ids ups va vu n₀ lk N pg) (g3 : w2.grownBy w3 none)
    (o3 : w3.ownsRow W.heap.size 36 1 vr ids.length (intsV (List.replicate ids.length 0))) : Tre W w3 ids ids ups va vu vr n₀ lk N pg (ids.map (fun x => (N x).why)) := by
  have s1 := b1.size
  have s2 := G.below.size
  have U3 : Upd (fun _ => False) w2 w3 := (Upd.refl _ w2).grown g3 (fun k _ e => by cases e)
  have hr : List.replicate ids.length 0 = ids.map (fun x => (N x).why) := by
    symm
    rw [List.eq_replicate_iff]
    refine ⟨by simp, fun r hr => ?_⟩
    obtain ⟨x, hx, rfl⟩ := List.mem_map.1 hr
    exact (G.fresh x hx).1
  rw [hr] at o3
  refine ⟨G.fam.upd U3 (fun _ _ h => h), by have := G.base; omega, ?_, ?_, ?_, o3, G.pos, G.notA, fun x hx => hx, G.fam.kin.nodup, G.link, ?_⟩
  · exact (b1.trans (G.below.mono (by omega))).trans (U3.below (by omega) (fun _ _ h => h))
  · exact ownsRow_upd (ownsRow_low G.rowA (by omega)) U3 (fun _ _ h => h)
  · have := ownsRow_upd (ownsRow_low G.rowU (base' := W.heap.size) (by omega)) U3 (fun _ _ h => h)
    rw [G.len] at this
    exact this
  · intro i x hi
    exact (G.fresh x (List.mem_of_getElem? hi)).2
theorem one_pos' : (0 : Int) ≤ 1 := by omega
/-- As many nothings. -/
theorem made_ints (n : Nat) : (madeCells #[Value.int .i64 0] n).toList = intsV (List.replicate n 0) := by
  simp [madeCells, Nat.mod_one]
  rw [show (fun _ : Nat => Value.int .i64 0) = Function.const Nat (Value.int .i64 0) from rfl, List.map_const]
  simp

/-- How the list of reasons is brought up to date. -/
structure Pass (ups R0 R' : List Int) (n : Nat) : Prop where
  len0 : R0.length = n
  len : R'.length = n
  root : R0[0]? = R'[0]?
  kid : ∀ i : Nat, 0 < i → R0[i]? = some 0 → ∃ j : Nat, j < i ∧ ups[i]? = some (j : Int) ∧ R'[i]? = R'[j]?
  had : ∀ (i : Nat) (r : Int), R0[i]? = some r → r ≠ 0 → R'[i]? = some r
theorem Step.pass {ids : List Nat} {ups R R' : List Int} {k : Nat} {why rk : Int} (h : Step ids ups R R' k why) (hl : R.length = ids.length) (hwhy : why ≠ 0) (hk : R[k]? = some rk) : Pass ups (if rk = 0 then R.set k why else R) R' ids.length := by
  have hkl := (List.getElem?_eq_some_iff.1 hk).1
  by_cases h0 : rk = 0
  · subst h0
    rw [if_pos rfl]
    have look : ∀ i : Nat, (R.set k why)[i]? = if i = k then some why else R[i]? := fun i => by
      by_cases hik : i = k
      · subst hik; simp [hkl]
      · rw [List.getElem?_set_ne (Ne.symm hik), if_neg hik]
    refine ⟨by simp [hl], h.len, ?_, ?_, ?_⟩
    · rw [look]
      by_cases hk0 : 0 = k
      · subst hk0; rw [if_pos rfl, h.self hk]
      · rw [if_neg hk0]
        cases hr : R[0]? with
        | none => have := List.getElem?_eq_none_iff.1 hr; omega
        | some r =>
          by_cases hr0 : r = 0
          · subst hr0; rw [h.root (Ne.symm hk0) hr]
          · rw [h.had 0 r hr hr0]
    · intro i hi hr
      rw [look] at hr
      by_cases hik : i = k
      · rw [if_pos hik] at hr; injection hr with e; exact absurd e hwhy
      · rw [if_neg hik] at hr; exact h.kid i hi hik hr
    · intro i r hr hr0
      rw [look] at hr
      by_cases hik : i = k
      · rw [if_pos hik] at hr; injection hr with e; subst e; subst hik; exact h.self hk
      · rw [if_neg hik] at hr; exact h.had i r hr hr0
  · rw [if_neg h0]
    refine ⟨hl, h.len, ?_, ?_, h.had⟩
    · cases hr : R[0]? with
      | none => have := List.getElem?_eq_none_iff.1 hr; omega
      | some r =>
        by_cases hr0 : r = 0
        · subst hr0
          have hk0 : k ≠ 0 := fun e => by subst e; rw [hk] at hr; injection hr with e; exact h0 e
          rw [h.root hk0 hr]
        · rw [h.had 0 r hr hr0]
    · intro i hi hr
      have hik : i ≠ k := fun e => by subst e; rw [hk] at hr; injection hr with e; exact h0 e
      exact h.kid i hi hik hr
/-- Midway. -/
def mixR (R0 R' : List Int) (m : Nat) : List Int := R'.take m ++ R0.drop m
theorem mix_lo {R0 R' : List Int} {m j : Nat} (hj : j < m) (hm : m ≤ R'.length) : (mixR R0 R' m)[j]? = R'[j]? := by
  unfold mixR
  rw [List.getElem?_append_left (by simp; omega), List.getElem?_take_of_lt hj]
theorem mix_hi {R0 R' : List Int} {m j : Nat} (hj : m ≤ j) (hm : m ≤ R'.length) : (mixR R0 R' m)[j]? = R0[j]? := by
  unfold mixR
  rw [List.getElem?_append_right (by simp; omega), List.getElem?_drop]
  congr 1
  simp
  omega
theorem mix_ext {R0 R' L : List Int} {m : Nat} (hm : m ≤ R'.length) (h1 : ∀ j, j < m → L[j]? = R'[j]?) (h2 : ∀ j, m ≤ j → L[j]? = R0[j]?) : L = mixR R0 R' m := by
  apply List.ext_getElem?
  intro j
  by_cases hj : j < m
  · rw [h1 j hj, mix_lo hj hm]
  · rw [h2 j (by omega), mix_hi (by omega) hm]
theorem mix_next {R0 R' : List Int} {m : Nat} {v : Int} (he : R0.length = R'.length) (hm : m < R'.length) (hv : R'[m]? = some v) : (mixR R0 R' m).set m v = mixR R0 R' (m + 1) := by
  have hl : (mixR R0 R' m).length = R0.length := by unfold mixR; simp; omega
  refine mix_ext hm ?_ ?_
  · intro j hj
    by_cases hjm : j = m
    · subst hjm; rw [List.getElem?_set_self (by omega), hv]
    · rw [List.getElem?_set_ne (Ne.symm hjm), mix_lo (by omega) (by omega)]
  · intro j hj
    rw [List.getElem?_set_ne (by omega), mix_hi (by omega) (by omega)]
theorem mix_same {R0 R' : List Int} {m : Nat} (hm : m < R'.length) (hv : R'[m]? = R0[m]?) : mixR R0 R' m = mixR R0 R' (m + 1) := by
  refine mix_ext hm ?_ ?_
  · intro j hj
    by_cases hjm : j = m
    · subst hjm; rw [mix_hi (Nat.le_refl _) (by omega), hv]
    · rw [mix_lo (by omega) (by omega)]
  · intro j hj
    rw [mix_hi (by omega) (by omega)]
theorem mix_one {R0 R' : List Int} (h0 : 0 < R'.length) (hr : R0[0]? = R'[0]?) : R0 = mixR R0 R' 1 := by
  refine mix_ext h0 ?_ ?_
  · intro j hj
    obtain rfl : j = 0 := by omega
    exact hr
  · intro j _; rfl
theorem mix_all {R0 R' : List Int} (he : R0.length = R'.length) : mixR R0 R' R'.length = R' := by
  unfold mixR
  rw [List.take_length, List.drop_eq_nil_of_le (by omega), List.append_nil]

theorem Tre.heap {W wr ww : World} {ids S : List Nat} {ups : List Int} {va vu vr : Value} {n₀ lk : Nat} {N : Nat → Nd} {pg : Nat → Option Nat} {R : List Int} (h : Tre W wr ids S ups va vu vr n₀ lk N pg R) (e : ww.heap = wr.heap) (o : ww.os = wr.os) (t : ww.tape = wr.tape) (u : ww.output = wr.output) : Tre W ww ids S ups va vu vr n₀ lk N pg R :=
  h.turn (h.fam.heap e) ⟨o, t, u, by rw [e]; exact Nat.le_refl _, fun _ _ _ => by rw [e]⟩ (fun k h => Or.inl h) (fun _ h => h) (fun _ _ => rfl) (fun _ _ => rfl)
/-- Cancel, in a tree. -/
theorem Tre.cancel {W wr : World} {ids : List Nat} {ups : List Int} {va vu vr : Value} {n₀ lk : Nat} {N : Nat → Nd} {pg : Nat → Option Nat} (h : Tre W wr ids ids ups va vu vr n₀ lk N pg (ids.map (fun x => (N x).why))) {k s : Nat} (hk : ids[k]? = some s) {why : Int} (hwhy : ¬ why = 0) (hn : ids.length * 8 ≤ 140737488355328) :
    Calls Try.prog 14 #[ptrV s, .int .i64 why] wr fun e w' => ∃ N2, e = .returned (.int .i64 (N2 s).why) ∧ Tre W w' ids ids ups va vu vr n₀ lk N2 pg (ids.map (fun x => (N x).why)) ∧ Step ids ups (ids.map (fun x => (N x).why)) (ids.map (fun x => (N2 x).why)) k why := by
  have hs := List.mem_of_getElem? hk
  by_cases hl : (N s).why = 0
  · refine (Cancel_live h.fam hs hl why hwhy hn).mono ?_
    rintro e w' ⟨rfl, N2, f1, f2, f3⟩
    refine ⟨N2, ?_, h.turn f1 f3.upd f3.foot (fun _ h => h) (fun _ _ => rfl) (fun x hx => f2.left x hx), h.step hk (Or.inl ⟨hl, f2⟩)⟩
    rw [f2.hit s hs hl ⟨0, rfl⟩]
  · refine (Cancel_over h.fam hs hl why hwhy).mono ?_
    rintro e w' ⟨rfl, hw⟩
    subst hw
    exact ⟨N, rfl, h, h.step hk (Or.inr ⟨hl, fun _ _ => rfl⟩)⟩

set_option maxRecDepth 100000 in
set_option maxHeartbeats 2000000 in
theorem tree_any (a0 a1 a2 : Option Addr) (n0 n1 n2 c0 c1 c2 : Nat) (K0 K1 K2 : List Int) (W : World) (H0 : HoldsV W a0 n0 (intsV K0)) (H1 : HoldsV W a1 n1 (intsV K1)) (H2 : HoldsV W a2 n2 (intsV K2)) (I0 : I64L K0) (I1 : I64L K1) (I2 : I64L K2)
    (s0 : n0 * 8 ≤ 140737488351232) (s1 : n1 * 8 ≤ 140737488351232) :
    Calls Try.prog 5 #[.slice a0 n0 c0, .slice a1 n1 c1, .slice a2 n2 c2] W fun e w' => e = .returned (.bool true) ∧ Below W.heap.size W w' := by
  obtain ⟨i2, hj, hy0, hy1, hy2⟩ := info_parts infoErr
  have G1 : Hid (HoldsV W a1 n1 (intsV K1)) := H1
  have G2 : Hid (HoldsV W a2 n2 (intsV K2)) := H2
  have G0 : Hid (HoldsV W a0 n0 (intsV K0)) := H0
  clear H0 H1 H2
  go_enter Try.func5, Try.ntmps5
  go_wp2_with (first
    | (go_at_call 8; refine (alive_any _).mono ?_; rintro e w1 ⟨rfl, b1⟩)
    | (go_at_call 12; refine (grown_any a0 n0 c0 K0 w1 (HoldsV.below (show HoldsV W a0 n0 (intsV K0) from G0) b1) I0 s0).mono ?_; rintro e w2 ⟨va, vu, ids, ups, n₀, lk, N, pg, rfl, GG, hlen⟩; obtain ⟨ga, ca, rfl⟩ := own_at GG.rowA GG.pos; have rU := GG.rowU; rw [GG.len] at rU; obtain ⟨gu, cu, rfl⟩ := own_at rU GG.pos; clear rU; have hlb : ids.length ≤ n0 + 1 := Nat.le_of_eq hlen; clear hlen)
    | (at_make; refine wpList_make_full _ rfl (.tmp 33) (.tmp 33) 42 rfl W.heap.size 36 i2 (.int .i64 0) 1 Try.underlying42 hj hy0 hy1 .i64 .i64 _ _ ids.length rfl rfl ?m1 ?m2 ?m3 ?m4 ?m5 ?_))
  case m1 => rfl
  case m2 => rfl
  case m3 => rw [hy2]; omega
  case m4 => unfold maxLen; omega
  case m5 => have := GG.below.size; have := b1.size; omega
  intro w3 o3 g3
  rw [made_ints] at o3
  have hT := Tre.start b1 GG g3 o3
  obtain ⟨gr, hgr⟩ : ∃ gr, w2.heap.size = gr := ⟨_, rfl⟩
  rw [hgr] at hT
  have HT : Hid (Tre W w3 ids ids ups (.slice (some ⟨ga, 0, none⟩) ids.length ca) (.slice (some ⟨gu, 0, none⟩) ids.length cu) (.slice (some ⟨gr, 0, none⟩) ids.length ids.length) n₀ lk N pg (ids.map (fun x => (N x).why))) := hT
  have hpos := hT.pos
  clear hT GG o3 g3
  rw [hgr]
  go_wp2
  go_loopw [12] (fun i wr => ∃ (j : Nat) (N' : Nat → Nd), i = .int .i64 j ∧ j ≤ n1 ∧ Tre W wr ids ids ups (.slice (some ⟨ga, 0, none⟩) ids.length ca) (.slice (some ⟨gu, 0, none⟩) ids.length cu) (.slice (some ⟨gr, 0, none⟩) ids.length ids.length) n₀ lk N' pg (ids.map (fun x => (N' x).why))) (fun i _ => n1 - (intOf i).toNat)
  case atStart => exact ⟨0, N, rfl, by omega, HT⟩
  case round =>
    obtain ⟨j, N', rfl, hj1, T⟩ := hrel
    by_cases hlt : j < n1
    · by_cases hlt2 : j < n2
      · obtain ⟨q1, o1, x, rfl, hx, hcx, x0, x1⟩ := HoldsV.int (HoldsV.below (show HoldsV W a1 n1 (intsV K1) from G1) T.below) I1 hlt
        obtain ⟨q2, o2, y, rfl, hy, hcy, y0, y1⟩ := HoldsV.int (HoldsV.below (show HoldsV W a2 n2 (intsV K2) from G2) T.below) I2 hlt2
        obtain ⟨k, hkl, HP⟩ := pick_nat x ids.length x0 x1 hpos (by omega) wr
        obtain ⟨s, hs⟩ : ∃ s, ids[k]? = some s := ⟨_, List.getElem?_eq_getElem hkl⟩
        have hsm := List.mem_of_getElem? hs
        have hcs := (ownsRow_cell T.rowA (i := k) (v := ptrV s) (by simp [hs])).1
        have hjz : (j : Int) < (n1 : Int) := by omega
        have hjz2 : (j : Int) < (n2 : Int) := by omega
        have hkz : (k : Int) < (ids.length : Int) := by omega
        have hyl : q2 < W.heap.size := by
          obtain ⟨b', o', e', h'⟩ := HoldsV.at (show HoldsV W (some ⟨q2, o2, none⟩) n2 (intsV K2) from G2) (j := j) (u := .int .i64 y) (by simp [hy])
          injection e' with e'
          injection e' with e' _
          rw [e']; exact lt_of_cell h'
        have hbel := T.below
        by_cases hy0' : y = 0
        · subst hy0'
          have HC := fun (ww : World) => Cancel_zero s ww
          have HT2 : Hid (Tre W wr ids ids ups (.slice (some ⟨ga, 0, none⟩) ids.length ca) (.slice (some ⟨gu, 0, none⟩) ids.length cu) (.slice (some ⟨gr, 0, none⟩) ids.length ids.length) n₀ lk N' pg (ids.map (fun x => (N' x).why))) := T
          clear T hx hy hs
          go_wp2_with (go_at_call 13; refine HP.mono ?_; clear HP; rintro e w' ⟨rfl, hw⟩; obtain rfl := hw.symm)
          go_region_held3 (fun w' => w'.cell? ⟨ga, k, none⟩ = some (ptrV s) ∧ w'.cell? ⟨q2, o2 + j, none⟩ = some (.int .i64 0)) (go_keep) (first | (go_at_call 14; refine (HC _).mono ?_; rintro e w' ⟨rfl, hw⟩; obtain rfl := hw.symm))
          go_wp2
          exact ⟨⟨j + 1, N', by simp, by omega, Tre.heap (show Tre W wr ids ids ups (.slice (some ⟨ga, 0, none⟩) ids.length ca) (.slice (some ⟨gu, 0, none⟩) ids.length cu) (.slice (some ⟨gr, 0, none⟩) ids.length ids.length) n₀ lk N' pg (ids.map (fun x => (N' x).why)) from HT2) rfl rfl rfl rfl⟩, by simp [intOf]; omega⟩
        · have HC : ∀ ww : World, ww.heap = wr.heap → ww.os = wr.os → ww.tape = wr.tape → ww.output = wr.output → _ := fun ww h1 h2 h3 h4 => Tre.cancel (T.heap h1 h2 h3 h4) hs hy0' (by omega)
          have hsizes : W.heap.size ≤ wr.heap.size := T.below.size
          have hgaF := T.notA ga rfl
          have hcy' : W.cell? ⟨q2, o2 + j, none⟩ = some (.int .i64 y) := (hbel.cell (p := ⟨q2, o2 + j, none⟩) hyl).symm.trans hcy
          have hRk : (ids.map (fun x => (N' x).why))[k]? = some (N' s).why := says_at hs
          have HRK : Hid ((ids.map (fun x => (N' x).why))[k]? = some (N' s).why) := hRk
          have HS : Hid (ids[k]? = some s) := hs
          have hRl : (ids.map (fun x => (N' x).why)).length = ids.length := by simp
          clear T hx hy hs hRk
          go_wp2_with (go_at_call 13; refine HP.mono ?_; clear HP; rintro e w' ⟨rfl, hw⟩; obtain rfl := hw.symm)
          go_region_held3 (fun w' => w'.cell? ⟨ga, k, none⟩ = some (ptrV s) ∧ w'.cell? ⟨q2, o2 + j, none⟩ = some (.int .i64 y)) (go_keep) (first | (go_at_call 14; refine (HC _ (by rfl) (by rfl) (by rfl) (by rfl)).mono ?_; rintro e w5 ⟨N2, rfl, T5, ST⟩; have f0 := (ownsRow_cell T5.rowA (i := k) (v := ptrV s) (by rw [List.getElem?_map, show ids[k]? = some s from HS]; rfl)).1; have f1 := (T5.below.cell (p := ⟨q2, o2 + j, none⟩) hyl).trans hcy'))
          have HT5 : Hid (Tre W w5 ids ids ups (.slice (some ⟨ga, 0, none⟩) ids.length ca) (.slice (some ⟨gu, 0, none⟩) ids.length cu) (.slice (some ⟨gr, 0, none⟩) ids.length ids.length) n₀ lk N2 pg (ids.map (fun x => (N' x).why))) := T5
          have HST : Hid (Step ids ups (ids.map (fun x => (N' x).why)) (ids.map (fun x => (N2 x).why)) k y) := ST
          obtain ⟨hck, hfk⟩ := ownsRow_cell T5.rowR (i := k) (v := .int .i64 (N' s).why) (by rw [List.getElem?_map, show (ids.map (fun x => (N' x).why))[k]? = some (N' s).why from HRK]; rfl)
          clear f0 HC
          by_cases hrk : (N' s).why = 0
          · obtain ⟨R0, hR0⟩ : ∃ R0, (ids.map (fun x => (N' x).why)).set k y = R0 := ⟨_, rfl⟩
            have HPB : Hid (Pass ups R0 (ids.map (fun x => (N2 x).why)) ids.length) := by
              have := ST.pass hRl hy0' HRK
              rw [if_pos hrk, hR0] at this
              exact this
            have HT6 : Hid (Tre W (w5.setCell ⟨gr, k, none⟩ (.int .i64 y)) ids ids ups (.slice (some ⟨ga, 0, none⟩) ids.length ca) (.slice (some ⟨gu, 0, none⟩) ids.length cu) (.slice (some ⟨gr, 0, none⟩) ids.length ids.length) n₀ lk N2 pg R0) := by
              have := T5.set k y
              rw [hR0] at this
              exact this
            rw [hrk] at hck
            clear T5 ST hR0 HT5 HST HRK
            go_wp2
            have PA : Pass ups R0 (ids.map (fun x => (N2 x).why)) ids.length := HPB
            go_loopw [15] (fun i wx => ∃ m : Nat, i = .int .i64 m ∧ 1 ≤ m ∧ m ≤ ids.length ∧ Tre W wx ids ids ups (.slice (some ⟨ga, 0, none⟩) ids.length ca) (.slice (some ⟨gu, 0, none⟩) ids.length cu) (.slice (some ⟨gr, 0, none⟩) ids.length ids.length) n₀ lk N2 pg (mixR R0 (ids.map (fun x => (N2 x).why)) m)) (fun i _ => ids.length - (intOf i).toNat)
            case atStart =>
              refine ⟨1, rfl, by omega, by omega, ?_⟩
              rw [← mix_one (R0 := R0) (R' := (ids.map (fun x => (N2 x).why))) (by simp; omega) PA.root]
              exact HT6
            case round =>
              obtain ⟨m, rfl, hm1, hm2, T6⟩ := hrel
              by_cases hml : m < ids.length
              · obtain ⟨r, hr⟩ : ∃ r, R0[m]? = some r := ⟨_, List.getElem?_eq_getElem (by rw [PA.len0]; exact hml)⟩
                have hrl : m ≤ (ids.map (fun x => (N2 x).why)).length := by simp; omega
                obtain ⟨k1, k2⟩ := ownsRow_cell T6.rowR (i := m) (v := .int .i64 r) (by rw [List.getElem?_map, mix_hi (Nat.le_refl _) hrl, hr]; rfl)
                have hmz : (m : Int) < (ids.length : Int) := by omega
                by_cases hr0 : r = 0
                · subst hr0
                  obtain ⟨jj, hjj, hju, hRR⟩ := PA.kid m (by omega) hr
                  obtain ⟨v, hv⟩ : ∃ v, (ids.map (fun x => (N2 x).why))[jj]? = some v := ⟨_, List.getElem?_eq_getElem (by simp; omega)⟩
                  have k3 := (ownsRow_cell T6.rowU (i := m) (v := .int .i64 (jj : Int)) (by rw [List.getElem?_map, hju]; rfl)).1
                  have k4 := (ownsRow_cell T6.rowR (i := jj) (v := .int .i64 v) (by rw [List.getElem?_map, mix_lo hjj hrl, hv]; rfl)).1
                  have hjz3 : (jj : Int) < (ids.length : Int) := by omega
                  have T7 := T6.set m v
                  rw [mix_next (by simp [PA.len0]) (by simp; exact hml) (hRR.trans hv)] at T7
                  have HT7 : Hid (Tre W (wr.setCell ⟨gr, m, none⟩ (.int .i64 v)) ids ids ups (.slice (some ⟨ga, 0, none⟩) ids.length ca) (.slice (some ⟨gu, 0, none⟩) ids.length cu) (.slice (some ⟨gr, 0, none⟩) ids.length ids.length) n₀ lk N2 pg (mixR R0 (ids.map (fun x => (N2 x).why)) (m + 1))) := T7
                  clear T6 T7 hju hRR hv hr hrl PA
                  go_wp2
                  go_roundw
                  case rel => exact ⟨m + 1, by simp, by omega, by omega, HT7⟩
                  case measure => simp [intOf]; omega
                · have hR' := PA.had m r hr hr0
                  rw [mix_same (by simp; exact hml) (hR'.trans hr.symm)] at T6
                  have HT7 : Hid (Tre W wr ids ids ups (.slice (some ⟨ga, 0, none⟩) ids.length ca) (.slice (some ⟨gu, 0, none⟩) ids.length cu) (.slice (some ⟨gr, 0, none⟩) ids.length ids.length) n₀ lk N2 pg (mixR R0 (ids.map (fun x => (N2 x).why)) (m + 1))) := T6
                  clear T6 hR' hr hrl PA
                  go_wp2
                  go_roundw
                  case rel => exact ⟨m + 1, by simp, by omega, by omega, HT7⟩
                  case measure => simp [intOf]; omega
              · have hme : m = (ids.map (fun x => (N2 x).why)).length := by simp; omega
                rw [hme, mix_all (by simp [PA.len0])] at T6
                have k1 := (ownsRow_cell T6.rowR (i := k) (v := .int .i64 (N2 s).why) (by rw [List.getElem?_map, says_at (show ids[k]? = some s from HS)]; rfl)).1
                have HT7 : Hid (Tre W wr ids ids ups (.slice (some ⟨ga, 0, none⟩) ids.length ca) (.slice (some ⟨gu, 0, none⟩) ids.length cu) (.slice (some ⟨gr, 0, none⟩) ids.length ids.length) n₀ lk N2 pg (ids.map (fun x => (N2 x).why))) := T6
                have hmm : ¬ (m : Int) < (ids.length : Int) := by omega
                clear T6 hme PA hml
                go_wp2
                exact ⟨⟨j + 1, N2, by simp, by omega, HT7⟩, by simp [intOf]; omega⟩
          · obtain ⟨R0, hR0⟩ : ∃ R0, (ids.map (fun x => (N' x).why)) = R0 := ⟨_, rfl⟩
            have HPB : Hid (Pass ups R0 (ids.map (fun x => (N2 x).why)) ids.length) := by
              have := ST.pass hRl hy0' HRK
              rw [if_neg hrk, hR0] at this
              exact this
            have HT6 : Hid (Tre W w5 ids ids ups (.slice (some ⟨ga, 0, none⟩) ids.length ca) (.slice (some ⟨gu, 0, none⟩) ids.length cu) (.slice (some ⟨gr, 0, none⟩) ids.length ids.length) n₀ lk N2 pg R0) := by
              rw [← hR0]; exact T5
            clear T5 ST hR0 HT5 HST HRK
            go_wp2
            have PA : Pass ups R0 (ids.map (fun x => (N2 x).why)) ids.length := HPB
            go_loopw [15] (fun i wx => ∃ m : Nat, i = .int .i64 m ∧ 1 ≤ m ∧ m ≤ ids.length ∧ Tre W wx ids ids ups (.slice (some ⟨ga, 0, none⟩) ids.length ca) (.slice (some ⟨gu, 0, none⟩) ids.length cu) (.slice (some ⟨gr, 0, none⟩) ids.length ids.length) n₀ lk N2 pg (mixR R0 (ids.map (fun x => (N2 x).why)) m)) (fun i _ => ids.length - (intOf i).toNat)
            case atStart =>
              refine ⟨1, rfl, by omega, by omega, ?_⟩
              rw [← mix_one (R0 := R0) (R' := (ids.map (fun x => (N2 x).why))) (by simp; omega) PA.root]
              exact HT6
            case round =>
              obtain ⟨m, rfl, hm1, hm2, T6⟩ := hrel
              by_cases hml : m < ids.length
              · obtain ⟨r, hr⟩ : ∃ r, R0[m]? = some r := ⟨_, List.getElem?_eq_getElem (by rw [PA.len0]; exact hml)⟩
                have hrl : m ≤ (ids.map (fun x => (N2 x).why)).length := by simp; omega
                obtain ⟨k1, k2⟩ := ownsRow_cell T6.rowR (i := m) (v := .int .i64 r) (by rw [List.getElem?_map, mix_hi (Nat.le_refl _) hrl, hr]; rfl)
                have hmz : (m : Int) < (ids.length : Int) := by omega
                by_cases hr0 : r = 0
                · subst hr0
                  obtain ⟨jj, hjj, hju, hRR⟩ := PA.kid m (by omega) hr
                  obtain ⟨v, hv⟩ : ∃ v, (ids.map (fun x => (N2 x).why))[jj]? = some v := ⟨_, List.getElem?_eq_getElem (by simp; omega)⟩
                  have k3 := (ownsRow_cell T6.rowU (i := m) (v := .int .i64 (jj : Int)) (by rw [List.getElem?_map, hju]; rfl)).1
                  have k4 := (ownsRow_cell T6.rowR (i := jj) (v := .int .i64 v) (by rw [List.getElem?_map, mix_lo hjj hrl, hv]; rfl)).1
                  have hjz3 : (jj : Int) < (ids.length : Int) := by omega
                  have T7 := T6.set m v
                  rw [mix_next (by simp [PA.len0]) (by simp; exact hml) (hRR.trans hv)] at T7
                  have HT7 : Hid (Tre W (wr.setCell ⟨gr, m, none⟩ (.int .i64 v)) ids ids ups (.slice (some ⟨ga, 0, none⟩) ids.length ca) (.slice (some ⟨gu, 0, none⟩) ids.length cu) (.slice (some ⟨gr, 0, none⟩) ids.length ids.length) n₀ lk N2 pg (mixR R0 (ids.map (fun x => (N2 x).why)) (m + 1))) := T7
                  clear T6 T7 hju hRR hv hr hrl PA
                  go_wp2
                  go_roundw
                  case rel => exact ⟨m + 1, by simp, by omega, by omega, HT7⟩
                  case measure => simp [intOf]; omega
                · have hR' := PA.had m r hr hr0
                  rw [mix_same (by simp; exact hml) (hR'.trans hr.symm)] at T6
                  have HT7 : Hid (Tre W wr ids ids ups (.slice (some ⟨ga, 0, none⟩) ids.length ca) (.slice (some ⟨gu, 0, none⟩) ids.length cu) (.slice (some ⟨gr, 0, none⟩) ids.length ids.length) n₀ lk N2 pg (mixR R0 (ids.map (fun x => (N2 x).why)) (m + 1))) := T6
                  clear T6 hR' hr hrl PA
                  go_wp2
                  go_roundw
                  case rel => exact ⟨m + 1, by simp, by omega, by omega, HT7⟩
                  case measure => simp [intOf]; omega
              · have hme : m = (ids.map (fun x => (N2 x).why)).length := by simp; omega
                rw [hme, mix_all (by simp [PA.len0])] at T6
                have k1 := (ownsRow_cell T6.rowR (i := k) (v := .int .i64 (N2 s).why) (by rw [List.getElem?_map, says_at (show ids[k]? = some s from HS)]; rfl)).1
                have HT7 : Hid (Tre W wr ids ids ups (.slice (some ⟨ga, 0, none⟩) ids.length ca) (.slice (some ⟨gu, 0, none⟩) ids.length cu) (.slice (some ⟨gr, 0, none⟩) ids.length ids.length) n₀ lk N2 pg (ids.map (fun x => (N2 x).why))) := T6
                have hmm : ¬ (m : Int) < (ids.length : Int) := by omega
                clear T6 hme PA hml
                go_wp2
                exact ⟨⟨j + 1, N2, by simp, by omega, HT7⟩, by simp [intOf]; omega⟩
      · have hjz : (j : Int) < (n1 : Int) := by omega
        have hjz2 : ¬ (j : Int) < (n2 : Int) := by omega
        have HT9 : Hid (Tre W wr ids ids ups (.slice (some ⟨ga, 0, none⟩) ids.length ca) (.slice (some ⟨gu, 0, none⟩) ids.length cu) (.slice (some ⟨gr, 0, none⟩) ids.length ids.length) n₀ lk N' pg (ids.map (fun x => (N' x).why))) := T
        have hkid0 : ∀ i x : Nat, ids[i]? = some x → (N' x).kids.length + 1 ≤ ids.length := fun i x hx => T.fam.kin.kidsLen (List.mem_of_getElem? hx)
        have HKID : Hid (∀ i x : Nat, ids[i]? = some x → (N' x).kids.length + 1 ≤ ids.length) := hkid0
        have hnod := T.nod
        clear T hkid0
        go_wp2
        go_loopw [16] (fun i wx => ∃ (m : Nat) (S : List Nat) (N3 : Nat → Nd) (pg3 : Nat → Option Nat), i = .int .i64 m ∧ m ≤ ids.length ∧ Tre W wx ids S ups (.slice (some ⟨ga, 0, none⟩) ids.length ca) (.slice (some ⟨gu, 0, none⟩) ids.length cu) (.slice (some ⟨gr, 0, none⟩) ids.length ids.length) n₀ lk N3 pg3 (ids.map (fun x => (N' x).why)) ∧ (ids.map (fun x => (N' x).why)) = ids.map (fun x => (N3 x).why) ∧ (∀ i x : Nat, m ≤ i → ids[i]? = some x → (N3 x).kids.length + 1 ≤ ids.length)) (fun i _ => ids.length - (intOf i).toNat)
        case atStart => exact ⟨0, ids, N', pg, rfl, by omega, HT9, rfl, fun i x _ h => (show ∀ i x : Nat, ids[i]? = some x → (N' x).kids.length + 1 ≤ ids.length from HKID) i x h⟩
        case round =>
          obtain ⟨m, S, N3, pg3, rfl, hm, T6, hRN, hkd⟩ := hrel
          by_cases hml : m < ids.length
          · obtain ⟨s, hs⟩ : ∃ s, ids[m]? = some s := ⟨_, List.getElem?_eq_getElem hml⟩
            have hsm := List.mem_of_getElem? hs
            have hsS := T6.sub s hsm
            have hmz : (m : Int) < (ids.length : Int) := by omega
            have hk8 := hkd m s (Nat.le_refl _) hs
            have HU := Under_kids T6.fam hsS 7 (by omega) (by omega)
            have k1 := (ownsRow_cell T6.rowA (i := m) (v := ptrV s) (by simp [hs])).1
            obtain ⟨x, hxx⟩ : ∃ x, wr.heap.size + 1 = x := ⟨_, rfl⟩
            rw [hxx] at HU
            have HNX : ∀ (w5 : World) (N4 : Nat → Nd), Grown1 wr w5 n₀ lk S N3 N4 pg3 s (budg 7) → Tre W w5 ids (S ++ [x]) ups (.slice (some ⟨ga, 0, none⟩) ids.length ca) (.slice (some ⟨gu, 0, none⟩) ids.length cu) (.slice (some ⟨gr, 0, none⟩) ids.length ids.length) n₀ lk N4 (pgX pg3 x s) (ids.map (fun x => (N' x).why)) ∧ (ids.map (fun x => (N' x).why)) = ids.map (fun x => (N4 x).why) ∧ (∀ i x : Nat, m + 1 ≤ i → ids[i]? = some x → (N4 x).kids.length + 1 ≤ ids.length) ∧ (N4 s).why = (N3 s).why ∧ (N4 s).left = -1 ∧ (N4 x).why = (N3 s).why ∧ (N4 x).left = 7 := by
              intro w5 N4 G
              have Gf := G.fam; have Gw := G.why; have Gl := G.left; have Gft := G.foot
              rw [hxx] at Gf Gw Gl Gft
              have hxS : ∀ y ∈ S, y ≠ x := fun y hy e => by have := T6.fam.lt hy; omega
              refine ⟨T6.turn Gf G.upd Gft (fun y hy => List.mem_append_left _ hy) (fun y hy => by unfold pgX; rw [if_neg (hxS y hy)]) (fun y hy => (G.old y hy).2), ?_, ?_, (G.old s hsS).1, ?_, Gw, Gl⟩
              · rw [hRN]
                exact List.map_congr_left fun y hy => ((G.old y (T6.sub y hy)).1).symm
              · intro i y hi hy
                have hys : y ≠ s := fun e => by
                  subst e
                  have := (List.getElem?_inj hml hnod).1 (hs.trans hy.symm)
                  omega
                rw [G.kids y (T6.sub y (List.mem_of_getElem? hy)) hys]
                exact hkd i y (by omega) hy
              · rw [(G.old s hsS).2]; exact T6.val m s hs
            have hRm : (ids.map (fun x => (N' x).why))[m]? = some (N3 s).why := by rw [hRN]; exact says_at hs
            have HRM : Hid ((ids.map (fun x => (N' x).why))[m]? = some (N3 s).why) := hRm
            have HSM : Hid (ids[m]? = some s) := hs
            have k2 := (ownsRow_cell T6.rowR (i := m) (v := .int .i64 (N3 s).why) (by rw [List.getElem?_map, hRm]; rfl)).1
            obtain ⟨r, hr⟩ : ∃ r, (N3 s).why = r := ⟨_, rfl⟩
            rw [hr] at HNX HRM k2
            clear hRm hs T6 hRN hkd hr
            by_cases hr0 : r = 0
            · subst hr0
              go_wp2_with (first
                | (go_at_call 15; refine HU.mono ?_; clear HU; rintro e w5 ⟨rfl, N4, G⟩; obtain ⟨T7, p1, p2, p3, p4, p5, p6⟩ := HNX w5 N4 G; clear HNX G; have HWs := fun (ww : World) (hw : ww.heap = w5.heap) => (T7.fam.heap hw).Why (s := s) (List.mem_append_left _ hsS); have HWx := fun (ww : World) (hw : ww.heap = w5.heap) => (T7.fam.heap hw).Why (s := x) (List.mem_append_right _ (List.mem_singleton.2 rfl)); have HLs := fun (ww : World) (hw : ww.heap = w5.heap) => (T7.fam.heap hw).Left (s := s) (List.mem_append_left _ hsS); have HLx := fun (ww : World) (hw : ww.heap = w5.heap) => (T7.fam.heap hw).Left (s := x) (List.mem_append_right _ (List.mem_singleton.2 rfl)); rw [p3] at HWs; rw [p5] at HWx; rw [p4] at HLs; rw [p6] at HLx; have l1 := (ownsRow_cell T7.rowA (i := m) (v := ptrV s) (by rw [List.getElem?_map, show ids[m]? = some s from HSM]; rfl)).1; have l2 := (ownsRow_cell T7.rowR (i := m) (v := .int .i64 0) (by rw [List.getElem?_map, show (ids.map (fun x => (N' x).why))[m]? = some 0 from HRM]; rfl)).1; have HT7 : Hid (Tre W w5 ids (S ++ [x]) ups (.slice (some ⟨ga, 0, none⟩) ids.length ca) (.slice (some ⟨gu, 0, none⟩) ids.length cu) (.slice (some ⟨gr, 0, none⟩) ids.length ids.length) n₀ lk N4 (pgX pg3 x s) (ids.map (fun x => (N' x).why))) := T7; have HP1 : Hid ((ids.map (fun x => (N' x).why)) = ids.map (fun x => (N4 x).why)) := p1; have HP2 : Hid (∀ i x : Nat, m + 1 ≤ i → ids[i]? = some x → (N4 x).kids.length + 1 ≤ ids.length) := p2; clear T7 p1 p2 p3 p4 p5 p6))
              go_quiet (first | (go_at_call 16; refine Calls.quiet_of_same (HWs _ rfl)) | (go_at_call 17; refine Calls.quiet_of_same (HLs _ rfl)))
              go_wp2
              obtain ⟨w6, hw6⟩ : ∃ w6, w5.drewN nq = w6 := ⟨_, rfl⟩
              have hh6 : w6.heap = w5.heap ∧ w6.os = w5.os ∧ w6.tape = w5.tape ∧ w6.output = w5.output := by rw [← hw6]; exact ⟨rfl, rfl, rfl, rfl⟩
              have l3 : w6.cell? ⟨gr, m, none⟩ = some (.int .i64 0) := by rw [← hw6]; exact l2
              rw [hw6]
              clear hw6 HWs HLs
              go_quiet (first | (go_at_call 16; refine Calls.quiet_of_same (HWx _ hh6.1)) | (go_at_call 17; refine Calls.quiet_of_same (HLx _ hh6.1)))
              go_wp2
              go_roundw
              case rel => exact ⟨m + 1, S ++ [x], N4, _, by simp, by omega, Tre.heap (show Tre W w5 ids (S ++ [x]) ups (.slice (some ⟨ga, 0, none⟩) ids.length ca) (.slice (some ⟨gu, 0, none⟩) ids.length cu) (.slice (some ⟨gr, 0, none⟩) ids.length ids.length) n₀ lk N4 (pgX pg3 x s) (ids.map (fun x => (N' x).why)) from HT7) hh6.1 hh6.2.1 hh6.2.2.1 hh6.2.2.2, HP1, HP2⟩
              case measure => simp [intOf]; omega
            · go_wp2_with (first
                | (go_at_call 15; refine HU.mono ?_; clear HU; rintro e w5 ⟨rfl, N4, G⟩; obtain ⟨T7, p1, p2, p3, p4, p5, p6⟩ := HNX w5 N4 G; clear HNX G; have HWs := fun (ww : World) (hw : ww.heap = w5.heap) => (T7.fam.heap hw).Why (s := s) (List.mem_append_left _ hsS); have HWx := fun (ww : World) (hw : ww.heap = w5.heap) => (T7.fam.heap hw).Why (s := x) (List.mem_append_right _ (List.mem_singleton.2 rfl)); have HLs := fun (ww : World) (hw : ww.heap = w5.heap) => (T7.fam.heap hw).Left (s := s) (List.mem_append_left _ hsS); have HLx := fun (ww : World) (hw : ww.heap = w5.heap) => (T7.fam.heap hw).Left (s := x) (List.mem_append_right _ (List.mem_singleton.2 rfl)); have HSx := fun (ww : World) (hw : ww.heap = w5.heap) => Spend_over (T7.fam.heap hw) (s := x) (List.mem_append_right _ (List.mem_singleton.2 rfl)) (fun h => hr0 (p5.symm.trans h)) 1 one_pos'; rw [p3] at HWs; rw [p5] at HWx HSx; rw [p4] at HLs; rw [p6] at HLx; have l1 := (ownsRow_cell T7.rowA (i := m) (v := ptrV s) (by rw [List.getElem?_map, show ids[m]? = some s from HSM]; rfl)).1; have l2 := (ownsRow_cell T7.rowR (i := m) (v := .int .i64 r) (by rw [List.getElem?_map, show (ids.map (fun x => (N' x).why))[m]? = some r from HRM]; rfl)).1; have HT7 : Hid (Tre W w5 ids (S ++ [x]) ups (.slice (some ⟨ga, 0, none⟩) ids.length ca) (.slice (some ⟨gu, 0, none⟩) ids.length cu) (.slice (some ⟨gr, 0, none⟩) ids.length ids.length) n₀ lk N4 (pgX pg3 x s) (ids.map (fun x => (N' x).why))) := T7; have HP1 : Hid ((ids.map (fun x => (N' x).why)) = ids.map (fun x => (N4 x).why)) := p1; have HP2 : Hid (∀ i x : Nat, m + 1 ≤ i → ids[i]? = some x → (N4 x).kids.length + 1 ≤ ids.length) := p2; clear T7 p1 p2 p3 p4 p5 p6))
              go_quiet (first | (go_at_call 16; refine Calls.quiet_of_same (HWs _ rfl)) | (go_at_call 17; refine Calls.quiet_of_same (HLs _ rfl)))
              go_wp2
              obtain ⟨w6, hw6⟩ : ∃ w6, w5.drewN nq = w6 := ⟨_, rfl⟩
              have hh6 : w6.heap = w5.heap ∧ w6.os = w5.os ∧ w6.tape = w5.tape ∧ w6.output = w5.output := by rw [← hw6]; exact ⟨rfl, rfl, rfl, rfl⟩
              have l3 : w6.cell? ⟨gr, m, none⟩ = some (.int .i64 r) := by rw [← hw6]; exact l2
              rw [hw6]
              clear hw6 HWs HLs
              go_quiet (first | (go_at_call 16; refine Calls.quiet_of_same (HWx _ hh6.1)) | (go_at_call 17; refine Calls.quiet_of_same (HLx _ hh6.1)) | (go_at_call 18; refine Calls.quiet_of_same (HSx _ hh6.1)))
              go_wp2
              go_roundw
              case rel => exact ⟨m + 1, S ++ [x], N4, _, by simp, by omega, Tre.heap (show Tre W w5 ids (S ++ [x]) ups (.slice (some ⟨ga, 0, none⟩) ids.length ca) (.slice (some ⟨gu, 0, none⟩) ids.length cu) (.slice (some ⟨gr, 0, none⟩) ids.length ids.length) n₀ lk N4 (pgX pg3 x s) (ids.map (fun x => (N' x).why)) from HT7) hh6.1 hh6.2.1 hh6.2.2.1 hh6.2.2.2, HP1, HP2⟩
              case measure => simp [intOf]; omega
          · have hbf := T6.below
            have hmm : ¬ (m : Int) < (ids.length : Int) := by omega
            clear T6 hRN hkd hml
            go_wp2
            go_ret
            exact ⟨rfl, hbf⟩
    · have hjz : ¬ (j : Int) < (n1 : Int) := by omega
      have HT9 : Hid (Tre W wr ids ids ups (.slice (some ⟨ga, 0, none⟩) ids.length ca) (.slice (some ⟨gu, 0, none⟩) ids.length cu) (.slice (some ⟨gr, 0, none⟩) ids.length ids.length) n₀ lk N' pg (ids.map (fun x => (N' x).why))) := T
      have hkid0 : ∀ i x : Nat, ids[i]? = some x → (N' x).kids.length + 1 ≤ ids.length := fun i x hx => T.fam.kin.kidsLen (List.mem_of_getElem? hx)
      have HKID : Hid (∀ i x : Nat, ids[i]? = some x → (N' x).kids.length + 1 ≤ ids.length) := hkid0
      have hnod := T.nod
      clear T hkid0
      go_wp2
      go_loopw [16] (fun i wx => ∃ (m : Nat) (S : List Nat) (N3 : Nat → Nd) (pg3 : Nat → Option Nat), i = .int .i64 m ∧ m ≤ ids.length ∧ Tre W wx ids S ups (.slice (some ⟨ga, 0, none⟩) ids.length ca) (.slice (some ⟨gu, 0, none⟩) ids.length cu) (.slice (some ⟨gr, 0, none⟩) ids.length ids.length) n₀ lk N3 pg3 (ids.map (fun x => (N' x).why)) ∧ (ids.map (fun x => (N' x).why)) = ids.map (fun x => (N3 x).why) ∧ (∀ i x : Nat, m ≤ i → ids[i]? = some x → (N3 x).kids.length + 1 ≤ ids.length)) (fun i _ => ids.length - (intOf i).toNat)
      case atStart => exact ⟨0, ids, N', pg, rfl, by omega, HT9, rfl, fun i x _ h => (show ∀ i x : Nat, ids[i]? = some x → (N' x).kids.length + 1 ≤ ids.length from HKID) i x h⟩
      case round =>
        obtain ⟨m, S, N3, pg3, rfl, hm, T6, hRN, hkd⟩ := hrel
        by_cases hml : m < ids.length
        · obtain ⟨s, hs⟩ : ∃ s, ids[m]? = some s := ⟨_, List.getElem?_eq_getElem hml⟩
          have hsm := List.mem_of_getElem? hs
          have hsS := T6.sub s hsm
          have hmz : (m : Int) < (ids.length : Int) := by omega
          have hk8 := hkd m s (Nat.le_refl _) hs
          have HU := Under_kids T6.fam hsS 7 (by omega) (by omega)
          have k1 := (ownsRow_cell T6.rowA (i := m) (v := ptrV s) (by simp [hs])).1
          obtain ⟨x, hxx⟩ : ∃ x, wr.heap.size + 1 = x := ⟨_, rfl⟩
          rw [hxx] at HU
          have HNX : ∀ (w5 : World) (N4 : Nat → Nd), Grown1 wr w5 n₀ lk S N3 N4 pg3 s (budg 7) → Tre W w5 ids (S ++ [x]) ups (.slice (some ⟨ga, 0, none⟩) ids.length ca) (.slice (some ⟨gu, 0, none⟩) ids.length cu) (.slice (some ⟨gr, 0, none⟩) ids.length ids.length) n₀ lk N4 (pgX pg3 x s) (ids.map (fun x => (N' x).why)) ∧ (ids.map (fun x => (N' x).why)) = ids.map (fun x => (N4 x).why) ∧ (∀ i x : Nat, m + 1 ≤ i → ids[i]? = some x → (N4 x).kids.length + 1 ≤ ids.length) ∧ (N4 s).why = (N3 s).why ∧ (N4 s).left = -1 ∧ (N4 x).why = (N3 s).why ∧ (N4 x).left = 7 := by
            intro w5 N4 G
            have Gf := G.fam; have Gw := G.why; have Gl := G.left; have Gft := G.foot
            rw [hxx] at Gf Gw Gl Gft
            have hxS : ∀ y ∈ S, y ≠ x := fun y hy e => by have := T6.fam.lt hy; omega
            refine ⟨T6.turn Gf G.upd Gft (fun y hy => List.mem_append_left _ hy) (fun y hy => by unfold pgX; rw [if_neg (hxS y hy)]) (fun y hy => (G.old y hy).2), ?_, ?_, (G.old s hsS).1, ?_, Gw, Gl⟩
            · rw [hRN]
              exact List.map_congr_left fun y hy => ((G.old y (T6.sub y hy)).1).symm
            · intro i y hi hy
              have hys : y ≠ s := fun e => by
                subst e
                have := (List.getElem?_inj hml hnod).1 (hs.trans hy.symm)
                omega
              rw [G.kids y (T6.sub y (List.mem_of_getElem? hy)) hys]
              exact hkd i y (by omega) hy
            · rw [(G.old s hsS).2]; exact T6.val m s hs
          have hRm : (ids.map (fun x => (N' x).why))[m]? = some (N3 s).why := by rw [hRN]; exact says_at hs
          have HRM : Hid ((ids.map (fun x => (N' x).why))[m]? = some (N3 s).why) := hRm
          have HSM : Hid (ids[m]? = some s) := hs
          have k2 := (ownsRow_cell T6.rowR (i := m) (v := .int .i64 (N3 s).why) (by rw [List.getElem?_map, hRm]; rfl)).1
          obtain ⟨r, hr⟩ : ∃ r, (N3 s).why = r := ⟨_, rfl⟩
          rw [hr] at HNX HRM k2
          clear hRm hs T6 hRN hkd hr
          by_cases hr0 : r = 0
          · subst hr0
            go_wp2_with (first
              | (go_at_call 15; refine HU.mono ?_; clear HU; rintro e w5 ⟨rfl, N4, G⟩; obtain ⟨T7, p1, p2, p3, p4, p5, p6⟩ := HNX w5 N4 G; clear HNX G; have HWs := fun (ww : World) (hw : ww.heap = w5.heap) => (T7.fam.heap hw).Why (s := s) (List.mem_append_left _ hsS); have HWx := fun (ww : World) (hw : ww.heap = w5.heap) => (T7.fam.heap hw).Why (s := x) (List.mem_append_right _ (List.mem_singleton.2 rfl)); have HLs := fun (ww : World) (hw : ww.heap = w5.heap) => (T7.fam.heap hw).Left (s := s) (List.mem_append_left _ hsS); have HLx := fun (ww : World) (hw : ww.heap = w5.heap) => (T7.fam.heap hw).Left (s := x) (List.mem_append_right _ (List.mem_singleton.2 rfl)); rw [p3] at HWs; rw [p5] at HWx; rw [p4] at HLs; rw [p6] at HLx; have l1 := (ownsRow_cell T7.rowA (i := m) (v := ptrV s) (by rw [List.getElem?_map, show ids[m]? = some s from HSM]; rfl)).1; have l2 := (ownsRow_cell T7.rowR (i := m) (v := .int .i64 0) (by rw [List.getElem?_map, show (ids.map (fun x => (N' x).why))[m]? = some 0 from HRM]; rfl)).1; have HT7 : Hid (Tre W w5 ids (S ++ [x]) ups (.slice (some ⟨ga, 0, none⟩) ids.length ca) (.slice (some ⟨gu, 0, none⟩) ids.length cu) (.slice (some ⟨gr, 0, none⟩) ids.length ids.length) n₀ lk N4 (pgX pg3 x s) (ids.map (fun x => (N' x).why))) := T7; have HP1 : Hid ((ids.map (fun x => (N' x).why)) = ids.map (fun x => (N4 x).why)) := p1; have HP2 : Hid (∀ i x : Nat, m + 1 ≤ i → ids[i]? = some x → (N4 x).kids.length + 1 ≤ ids.length) := p2; clear T7 p1 p2 p3 p4 p5 p6))
            go_quiet (first | (go_at_call 16; refine Calls.quiet_of_same (HWs _ rfl)) | (go_at_call 17; refine Calls.quiet_of_same (HLs _ rfl)))
            go_wp2
            obtain ⟨w6, hw6⟩ : ∃ w6, w5.drewN nq = w6 := ⟨_, rfl⟩
            have hh6 : w6.heap = w5.heap ∧ w6.os = w5.os ∧ w6.tape = w5.tape ∧ w6.output = w5.output := by rw [← hw6]; exact ⟨rfl, rfl, rfl, rfl⟩
            have l3 : w6.cell? ⟨gr, m, none⟩ = some (.int .i64 0) := by rw [← hw6]; exact l2
            rw [hw6]
            clear hw6 HWs HLs
            go_quiet (first | (go_at_call 16; refine Calls.quiet_of_same (HWx _ hh6.1)) | (go_at_call 17; refine Calls.quiet_of_same (HLx _ hh6.1)))
            go_wp2
            go_roundw
            case rel => exact ⟨m + 1, S ++ [x], N4, _, by simp, by omega, Tre.heap (show Tre W w5 ids (S ++ [x]) ups (.slice (some ⟨ga, 0, none⟩) ids.length ca) (.slice (some ⟨gu, 0, none⟩) ids.length cu) (.slice (some ⟨gr, 0, none⟩) ids.length ids.length) n₀ lk N4 (pgX pg3 x s) (ids.map (fun x => (N' x).why)) from HT7) hh6.1 hh6.2.1 hh6.2.2.1 hh6.2.2.2, HP1, HP2⟩
            case measure => simp [intOf]; omega
          · go_wp2_with (first
              | (go_at_call 15; refine HU.mono ?_; clear HU; rintro e w5 ⟨rfl, N4, G⟩; obtain ⟨T7, p1, p2, p3, p4, p5, p6⟩ := HNX w5 N4 G; clear HNX G; have HWs := fun (ww : World) (hw : ww.heap = w5.heap) => (T7.fam.heap hw).Why (s := s) (List.mem_append_left _ hsS); have HWx := fun (ww : World) (hw : ww.heap = w5.heap) => (T7.fam.heap hw).Why (s := x) (List.mem_append_right _ (List.mem_singleton.2 rfl)); have HLs := fun (ww : World) (hw : ww.heap = w5.heap) => (T7.fam.heap hw).Left (s := s) (List.mem_append_left _ hsS); have HLx := fun (ww : World) (hw : ww.heap = w5.heap) => (T7.fam.heap hw).Left (s := x) (List.mem_append_right _ (List.mem_singleton.2 rfl)); have HSx := fun (ww : World) (hw : ww.heap = w5.heap) => Spend_over (T7.fam.heap hw) (s := x) (List.mem_append_right _ (List.mem_singleton.2 rfl)) (fun h => hr0 (p5.symm.trans h)) 1 one_pos'; rw [p3] at HWs; rw [p5] at HWx HSx; rw [p4] at HLs; rw [p6] at HLx; have l1 := (ownsRow_cell T7.rowA (i := m) (v := ptrV s) (by rw [List.getElem?_map, show ids[m]? = some s from HSM]; rfl)).1; have l2 := (ownsRow_cell T7.rowR (i := m) (v := .int .i64 r) (by rw [List.getElem?_map, show (ids.map (fun x => (N' x).why))[m]? = some r from HRM]; rfl)).1; have HT7 : Hid (Tre W w5 ids (S ++ [x]) ups (.slice (some ⟨ga, 0, none⟩) ids.length ca) (.slice (some ⟨gu, 0, none⟩) ids.length cu) (.slice (some ⟨gr, 0, none⟩) ids.length ids.length) n₀ lk N4 (pgX pg3 x s) (ids.map (fun x => (N' x).why))) := T7; have HP1 : Hid ((ids.map (fun x => (N' x).why)) = ids.map (fun x => (N4 x).why)) := p1; have HP2 : Hid (∀ i x : Nat, m + 1 ≤ i → ids[i]? = some x → (N4 x).kids.length + 1 ≤ ids.length) := p2; clear T7 p1 p2 p3 p4 p5 p6))
            go_quiet (first | (go_at_call 16; refine Calls.quiet_of_same (HWs _ rfl)) | (go_at_call 17; refine Calls.quiet_of_same (HLs _ rfl)))
            go_wp2
            obtain ⟨w6, hw6⟩ : ∃ w6, w5.drewN nq = w6 := ⟨_, rfl⟩
            have hh6 : w6.heap = w5.heap ∧ w6.os = w5.os ∧ w6.tape = w5.tape ∧ w6.output = w5.output := by rw [← hw6]; exact ⟨rfl, rfl, rfl, rfl⟩
            have l3 : w6.cell? ⟨gr, m, none⟩ = some (.int .i64 r) := by rw [← hw6]; exact l2
            rw [hw6]
            clear hw6 HWs HLs
            go_quiet (first | (go_at_call 16; refine Calls.quiet_of_same (HWx _ hh6.1)) | (go_at_call 17; refine Calls.quiet_of_same (HLx _ hh6.1)) | (go_at_call 18; refine Calls.quiet_of_same (HSx _ hh6.1)))
            go_wp2
            go_roundw
            case rel => exact ⟨m + 1, S ++ [x], N4, _, by simp, by omega, Tre.heap (show Tre W w5 ids (S ++ [x]) ups (.slice (some ⟨ga, 0, none⟩) ids.length ca) (.slice (some ⟨gu, 0, none⟩) ids.length cu) (.slice (some ⟨gr, 0, none⟩) ids.length ids.length) n₀ lk N4 (pgX pg3 x s) (ids.map (fun x => (N' x).why)) from HT7) hh6.1 hh6.2.1 hh6.2.2.1 hh6.2.2.2, HP1, HP2⟩
            case measure => simp [intOf]; omega
        · have hbf := T6.below
          have hmm : ¬ (m : Int) < (ids.length : Int) := by omega
          clear T6 hRN hkd hml
          go_wp2
          go_ret
          exact ⟨rfl, hbf⟩
end Go.Proofs.Ytmepapbbebddiaa
