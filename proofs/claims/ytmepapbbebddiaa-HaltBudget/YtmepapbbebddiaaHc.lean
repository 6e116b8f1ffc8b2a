/-
  HaltBudget: the walk.
-/
import Derived.Test.YtmepapbbebddiaaHb
import Derived.Deep.RegionHeld3
import Derived.Deep.CutBlock
namespace Go.Proofs.Ytmepapbbebddiaa
open Go Go.Conc Go.RowKit Go.MuLone

theorem newL_upd (w : World) (b : Int) : Upd (fun _ => False) w (newL w b) := by
  simp only [newL, newW]
  exact ((((Upd.refl _ w).alloc _).alloc _).alloc _)
theorem newL_size (w : World) (b : Int) : (newL w b).heap.size = w.heap.size + 3 := by
  simp [newL, newW]
theorem Bud.start {W wr w4 w5 : World} {b : Int} {v4 v5 : Value} (bw : Below W.heap.size W wr) (U4 : Upd (fun _ => False) (newL wr b) w4) (o4 : w4.ownsRow W.heap.size 46 1 v4 1 [ptrV (wr.heap.size + 2)]) (m4 : ∀ g, v4.ownBlock = some g → (newL wr b).heap.size ≤ g)
    (U5 : Upd (fun _ => False) w4 w5) (o5 : w5.ownsRow W.heap.size 3 1 v5 1 [.int .i64 b]) : Bud W w5 [wr.heap.size + 2] [b] v4 v5 wr.heap.size wr.heap.size (fun _ => ndNew none 0 b) (fun _ => none) := by
  have F1 := Fam.one wr b
  have F5 := (F1.upd U4 (fun _ _ h => h)).upd U5 (fun _ _ h => h)
  have b1 : Below W.heap.size W (newL wr b) := bw.trans ((newL_upd wr b).below bw.size (fun _ _ h => h))
  have b4 := b1.trans (U4.below b1.size (fun _ _ h => h))
  refine ⟨F5, bw.size, b4.trans (U5.below b4.size (fun _ _ h => h)), ownsRow_upd o4 U5 (fun _ _ h => h), o5, by simp, ?_, ?_⟩
  · intro g hg hf
    have := m4 g hg
    have := (Foot.range F1 hf).2
    omega
  · intro i x hx
    match i, hx with
    | 0, hx => rfl
    | i + 1, hx => simp at hx
theorem BVal.start (a : Nat) (b : Int) (hb : 0 ≤ b ∧ b ≤ 9223372036854775807) : BVal [a] (fun _ => ndNew none 0 b) [b] [a].length := by
  refine ⟨rfl, fun i x hx => ?_⟩
  match i, hx with
  | 0, hx => exact ⟨rfl, rfl, hb.1, hb.2⟩
  | i + 1, hx => simp at hx
/-- Nothing yet, or stops one beneath the other. -/
def BudO (W wr : World) (j : Nat) (va vl : Value) : Prop :=
  (j = 0 ∧ va = .slice none 0 0 ∧ vl = .slice none 0 0 ∧ Below W.heap.size W wr) ∨
    ∃ ids ls n₀ lk N pg, ids.length = j ∧ Bud W wr ids ls va vl n₀ lk N pg ∧ BVal ids N ls ids.length

/-- What a Spend answers, who is cancelled then, what is left. -/
def Out (ls : List Int) (n : Int) (k low : Nat) (e : Int) (low2 : Nat) (ls2 : List Int) : Prop :=
  (¬ k < low ∧ e = 31 ∧ low2 = low ∧ ls2 = ls) ∨ (k < low ∧ ∃ i, Near ls n k i ∧ e = 31 ∧ low2 = i ∧ ls2 = ls) ∨ (k < low ∧ (∀ j, j ≤ k → ¬ ShortAt ls n j) ∧ e = 0 ∧ low2 = low ∧ ls2 = spentL ls (k + 1) n)
theorem Out.ok {ls : List Int} {n : Int} {k low : Nat} {e : Int} {low2 : Nat} {ls2 : List Int} (h : Out ls n k low e low2 ls2) : (e = 31 ∧ ¬ k < low2) ∨ (e = 0 ∧ k < low2) := by
  rcases h with ⟨h1, h2, h3, _⟩ | ⟨_, i, h2, h3, h4, _⟩ | ⟨h1, _, h3, h4, _⟩
  · exact Or.inl ⟨h2, by omega⟩
  · exact Or.inl ⟨h3, by have := h2.1; omega⟩
  · exact Or.inr ⟨h3, by omega⟩

set_option maxRecDepth 100000 in
set_option maxHeartbeats 2000000 in
theorem budget_any (a0 a1 a2 : Option Addr) (n0 n1 n2 c0 c1 c2 : Nat) (K0 K1 K2 : List Int) (W : World) (H0 : HoldsV W a0 n0 (intsV K0)) (H1 : HoldsV W a1 n1 (intsV K1)) (H2 : HoldsV W a2 n2 (intsV K2)) (I0 : I64L K0) (I1 : I64L K1) (I2 : I64L K2)
    (s0 : n0 * 8 ≤ 140737488351232) (s1 : n1 * 8 ≤ 140737488351232) :
    Calls Try.prog 6 #[.slice a0 n0 c0, .slice a1 n1 c1, .slice a2 n2 c2] W fun e w' => e = .returned (.bool true) ∧ Below W.heap.size W w' := by
  obtain ⟨i0, hi, hz0, hz1, hz2⟩ := info_parts infoPtr
  obtain ⟨i1, hj, hy0, hy1, hy2⟩ := info_parts infoInt
  have G1 : Hid (HoldsV W a1 n1 (intsV K1)) := H1
  have G2 : Hid (HoldsV W a2 n2 (intsV K2)) := H2
  have G0 : Hid (HoldsV W a0 n0 (intsV K0)) := H0
  clear H0 H1 H2
  go_enter Try.func6, Try.ntmps6
  go_wp2_with (go_at_call 8; refine (alive_any _).mono ?_; rintro e w1 ⟨rfl, b1⟩)
  go_loopw [8, 9, 10] (fun x y i wr => ∃ (j : Nat) (va vl : Value), x = va ∧ y = vl ∧ i = .int .i64 j ∧ j ≤ n0 ∧ BudO W wr j va vl) (fun _ _ i _ => n0 - (intOf i).toNat)
  case atStart => exact ⟨0, _, _, rfl, rfl, rfl, by omega, Or.inl ⟨rfl, rfl, rfl, b1⟩⟩
  case round =>
    obtain ⟨j, va, vl, rfl, rfl, rfl, hjn, BO⟩ := hrel
    by_cases hlt : j < n0
    · have hbel : Below W.heap.size W wr := by
        rcases BO with ⟨_, _, _, h⟩ | ⟨_, _, _, _, _, _, _, B, _⟩
        · exact h
        · exact B.below
      obtain ⟨q0, o0, x, rfl, hx, hcx, x0, x1⟩ := HoldsV.int (HoldsV.below (show HoldsV W a0 n0 (intsV K0) from G0) hbel) I0 hlt
      have hlz : (j : Int) < (n0 : Int) := by omega
      obtain ⟨b, hb⟩ : ∃ b, (if x < 1 then 1 else x) = b := ⟨_, rfl⟩
      have hb' : (if 1 > x then 1 else x) = b := hb
      have hb1 : 1 ≤ b ∧ b ≤ 9223372036854775807 := by rw [← hb]; split <;> omega
      have hbb : budg b = b := by unfold budg; rw [if_neg (by omega)]
      have HN := new_any b (by omega) wr
      rw [hbb] at HN
      have hz := hbel.size
      have hnz := Nat.le_of_eq (newL_size wr b).symm
      have hnu := newL_upd wr b
      obtain ⟨w2, hw2⟩ : ∃ w2, newL wr b = w2 := ⟨_, rfl⟩
      rw [hw2] at HN hnz hnu
      clear hx
      rcases BO with ⟨rfl, rfl, rfl, _⟩ | ⟨ids, ls, n₀, lk, N, pg, hlen, B, V⟩
      · obtain ⟨aa, haa⟩ : ∃ aa, wr.heap.size + 2 = aa := ⟨_, rfl⟩
        rw [haa] at HN
        rw [Nat.add_zero] at hcx
        have hlz0 : (0 : Int) < (n0 : Int) := by omega
        clear hlz
        go_wp2_with (first
          | (go_at_call 19; refine HN.mono ?_; clear HN; rintro e w' ⟨rfl, hw⟩; obtain rfl := hw.symm)
          | (at_builtin; refine wpList_app _ rfl (.tmp 58) (.tmp 60) 25 25 rfl W.heap.size 46 i0 (.pointer none) 8 Try.underlying25 hi hz0 hz1 hz2 rfl _ _ _ rfl (World.ownsRow_nil _ W.heap.size 46 1) _ 1 [ptrV aa] rfl (Src.ofSlice _ Try.underlying25 ⟨w2.heap.size, 0, none⟩ 1 1 _ rfl ?c1 ?c2) ?c3 ?c4 ?c5 ?_))
        case c1 =>
          intro j u hj
          match j, hj with
          | 0, hj => simp at hj; subst hj; simp [Addr.add]
        case c2 => intro u hu; simp at hu; subst hu; rfl
        case c3 => unfold maxLen; omega
        case c4 => omega
        case c5 => simp; omega
        intro v4 w4 o4 g4 m4
        have u4 : Upd (fun _ => False) w2 w4 := ((Upd.refl _ w2).alloc _).grown g4 (fun q _ e => by simp [Value.ownBlock] at e)
        obtain ⟨g4', c4', rfl⟩ := ownsRow_sl (n := 0) o4
        have f4 : ∀ g, (Value.slice (some ⟨g4', 0, none⟩) (0 + 1) c4').ownBlock = some g → w2.heap.size ≤ g := fun g hg => by
          rcases m4 with m | ⟨q, m, hq⟩
          · simp [Value.ownBlock] at m
          · rw [m] at hg; injection hg with e; simp at hq; omega
        have z4 := u4.size
        have HO4 : Hid (w4.ownsRow W.heap.size 46 1 (.slice (some ⟨g4', 0, none⟩) (0 + 1) c4') 1 [ptrV aa]) := o4
        clear o4 g4 m4
        go_wp2_with (at_builtin; refine wpList_app _ rfl (.tmp 62) (.tmp 64) 41 41 rfl W.heap.size 3 i1 (.int .i64 0) 8 Try.underlying41 hj hy0 hy1 hy2 rfl _ _ _ rfl (World.ownsRow_nil _ W.heap.size 3 1) _ 1 [.int .i64 b] rfl (Src.ofSlice _ Try.underlying41 ⟨w4.heap.size, 0, none⟩ 1 1 _ rfl ?d1 ?d2) ?d3 ?d4 ?d5 ?_)
        case d1 =>
          intro j u hj
          match j, hj with
          | 0, hj => simp at hj; subst hj; simp [Addr.add]
        case d2 => intro u hu; simp at hu; subst hu; rfl
        case d3 => unfold maxLen; omega
        case d4 => omega
        case d5 => simp; omega
        intro v5 w5 o5 g5 m5
        have u5 : Upd (fun _ => False) w4 w5 := ((Upd.refl _ w4).alloc _).grown g5 (fun q _ e => by simp [Value.ownBlock] at e)
        have BB : BudO W w5 1 (.slice (some ⟨g4', 0, none⟩) (0 + 1) c4') v5 := by
          rw [← hw2] at u4 f4
          rw [← haa] at HO4
          exact Or.inr ⟨_, [b], _, _, _, _, rfl, Bud.start hbel u4 HO4 f4 u5 o5, BVal.start _ b ⟨by omega, hb1.2⟩⟩
        clear o5 g5 m5 u5 u4 f4
        go_wp2
        go_roundw
        case rel => exact ⟨1, _, _, rfl, rfl, by simp, by omega, BB⟩
        case measure => simp [intOf]; omega
      · have B2 := B.grow hnu
        have rA := B2.rowA
        have rL := B2.rowL
        obtain ⟨ga, ca, rfl⟩ := own_at rA B2.pos
        obtain ⟨gl, cl, rfl⟩ := own_at rL B2.pos
        have hp := B2.pos
        obtain ⟨s, hs⟩ : ∃ s, ids[ids.length - 1]? = some s := ⟨_, List.getElem?_eq_getElem (by omega)⟩
        have hj0 : ¬ j = 0 := by omega
        have hj0' : (0 : Int) < (j : Int) := by omega
        have ej : (j : Int) - 1 = ((ids.length - 1 : Nat) : Int) := by omega
        have hcs := (ownsRow_cell rA (i := ids.length - 1) (v := ptrV s) (by rw [List.getElem?_map, hs]; rfl)).1
        have HU := Under_any B2.fam (s := s) (List.mem_of_getElem? hs) b (by omega) (by omega)
        rw [hbb] at HU
        have hlz2 : ((ids.length - 1 : Nat) : Int) < (ids.length : Int) := by omega
        have HNA : Hid (∀ g, (Value.slice (some ⟨ga, 0, none⟩) ids.length ca).ownBlock = some g → ¬ Foot lk ids N g) := B2.notA
        have HNL : Hid (∀ g, (Value.slice (some ⟨gl, 0, none⟩) ids.length cl).ownBlock = some g → ¬ Foot lk ids N g) := B2.notL
        have HRA : Hid (w2.ownsRow W.heap.size 46 1 (.slice (some ⟨ga, 0, none⟩) ids.length ca) ids.length (ids.map ptrV)) := rA
        have HRL : Hid (w2.ownsRow W.heap.size 3 1 (.slice (some ⟨gl, 0, none⟩) ids.length cl) ids.length (intsV ls)) := rL
        have HB2 : Hid (Bud W w2 ids ls (.slice (some ⟨ga, 0, none⟩) ids.length ca) (.slice (some ⟨gl, 0, none⟩) ids.length cl) n₀ lk N pg) := B2
        have HS : Hid (ids[ids.length - 1]? = some s) := hs
        have HV : Hid (BVal ids N ls ids.length) := V
        have HL : Hid (ids.length = j) := hlen
        have hlb : ids.length ≤ n0 := by omega
        generalize hK : ids.length - 1 = K at hcs ej hlz2
        clear hs B B2 rA rL V hlen hK
        go_wp2_with (first
          | (go_at_call 19; refine HN.mono ?_; clear HN; rintro e w' ⟨rfl, hw⟩; obtain rfl := hw.symm)
          | (go_at_call 15; refine HU.mono ?_; clear HU; rintro e w3 ⟨rfl, N', G1'⟩)
          | (at_builtin; refine wpList_app _ rfl (.tmp 58) (.tmp 60) 25 25 rfl W.heap.size 46 i0 (.pointer none) 8 Try.underlying25 hi hz0 hz1 hz2 rfl _ _ _ rfl (World.ownsRow.alloc (ownsRow_upd (show w2.ownsRow _ _ _ _ _ _ from HRA) G1'.upd HNA) _) _ 1 [ptrV (w2.heap.size + 1)] rfl (Src.ofSlice _ Try.underlying25 ⟨w3.heap.size, 0, none⟩ 1 1 _ rfl ?c1 ?c2) ?c3 ?c4 ?c5 ?_))
        case c1 =>
          intro j u hj
          match j, hj with
          | 0, hj => simp at hj; subst hj; simp [Addr.add]
        case c2 => intro u hu; simp at hu; subst hu; rfl
        case c3 => unfold maxLen; omega
        case c4 => omega
        case c5 => have := G1'.upd.size; simp; omega
        intro v4 w4 o4 g4 m4
        have z3 := G1'.upd.size
        have u4 : Upd (fun q => (Value.slice (some ⟨ga, 0, none⟩) ids.length ca).ownBlock = some q) w3 w4 := ((Upd.refl _ w3).alloc _).grown g4 (fun q _ e => e)
        have m4' : Moved w3 (Value.slice (some ⟨ga, 0, none⟩) ids.length ca) v4 := by
          rcases m4 with m | ⟨q, m, hq⟩
          · exact Or.inl m
          · exact Or.inr ⟨q, m, by simp at hq; omega⟩
        have rL3 : w3.ownsRow W.heap.size 3 1 (.slice (some ⟨gl, 0, none⟩) ids.length cl) ids.length (intsV ls) := ownsRow_upd (show w2.ownsRow _ _ _ _ _ _ from HRL) G1'.upd HNL
        have rA3 : w3.ownsRow W.heap.size 46 1 (.slice (some ⟨ga, 0, none⟩) ids.length ca) ids.length (ids.map ptrV) := ownsRow_upd (show w2.ownsRow _ _ _ _ _ _ from HRA) G1'.upd HNA
        have rL4 : w4.ownsRow W.heap.size 3 1 (.slice (some ⟨gl, 0, none⟩) ids.length cl) ids.length (intsV ls) := ownsRow_upd rL3 u4 (fun q hq e => by
          obtain ⟨_, _, c, hc⟩ := ownsRow_base rA3 e
          exact ownsRow_ne rL3 hc (by decide) hq rfl)
        have z4 := u4.size
        obtain ⟨g4', c4', rfl⟩ := ownsRow_sl o4
        have HO4 : Hid (w4.ownsRow W.heap.size 46 1 (.slice (some ⟨g4', 0, none⟩) (ids.length + 1) c4') (ids.length + 1) (ids.map ptrV ++ [ptrV (w2.heap.size + 1)])) := o4
        have HG1 : Hid (Grown1 w2 w3 n₀ lk ids N N' pg s b) := G1'
        clear o4 g4 m4 rL3 rA3 G1'
        go_wp2_with (at_builtin; refine wpList_app _ rfl (.tmp 62) (.tmp 64) 41 41 rfl W.heap.size 3 i1 (.int .i64 0) 8 Try.underlying41 hj hy0 hy1 hy2 rfl _ _ _ rfl (rL4.alloc _) _ 1 [.int .i64 b] rfl (Src.ofSlice _ Try.underlying41 ⟨w4.heap.size, 0, none⟩ 1 1 _ rfl ?d1 ?d2) ?d3 ?d4 ?d5 ?_)
        case d1 =>
          intro j u hj
          match j, hj with
          | 0, hj => simp at hj; subst hj; simp [Addr.add]
        case d2 => intro u hu; simp at hu; subst hu; rfl
        case d3 => unfold maxLen; omega
        case d4 => omega
        case d5 => simp; omega
        intro v5 w5 o5 g5 m5
        have u5 : Upd (fun q => (Value.slice (some ⟨gl, 0, none⟩) ids.length cl).ownBlock = some q) w4 w5 := ((Upd.refl _ w4).alloc _).grown g5 (fun q _ e => e)
        have G' := (show Grown1 w2 w3 n₀ lk ids N N' pg s b from HG1)
        have V' := (show BVal ids N ls ids.length from HV)
        have BB : BudO W w5 (j + 1) (.slice (some ⟨g4', 0, none⟩) (ids.length + 1) c4') v5 := by
          have hsw : (N s).why = 0 := by
            have := ((V'.2 _ s (show ids[ids.length - 1]? = some s from HS)).2).1
            rw [if_pos (by omega)] at this
            exact this
          refine Or.inr ⟨ids ++ [w2.heap.size + 1], ls ++ [b], n₀, lk, N', _, by simp; exact HL, Bud.more (show Bud W w2 ids ls _ _ n₀ lk N pg from HB2) (show ids[ids.length - 1]? = some s from HS) G' HO4 u4 m4' o5 u5, V'.more (fun y hy => G'.old y hy) ?_ G'.left ⟨by omega, hb1.2⟩⟩
          rw [G'.why]; exact hsw
        clear o5 g5 m5 u5 u4 m4' rL4 G' V'
        go_wp2
        go_roundw
        case rel => exact ⟨j + 1, _, _, rfl, rfl, by simp, by omega, BB⟩
        case measure => simp [intOf]; omega
    · have hlz : ¬ (j : Int) < (n0 : Int) := by omega
      rcases BO with ⟨hj0, rfl, rfl, hbel⟩ | ⟨ids, ls, n₀, lk, N, pg, hlen, B, V⟩
      · skip
        go_wp2
        go_loopw [15] (fun i wx => i = .int .i64 0 ∧ wx = wr) (fun _ _ => 0)
        case atStart => exact ⟨rfl, rfl⟩
        case round =>
          obtain ⟨rfl, rfl⟩ := hrel
          by_cases h1 : (0 : Int) < (n1 : Int)
          · by_cases h2 : (0 : Int) < (n2 : Int)
            · go_wp2
              go_ret
              exact ⟨rfl, hbel⟩
            · go_wp2
              go_ret
              exact ⟨rfl, hbel⟩
          · go_wp2
            go_ret
            exact ⟨rfl, hbel⟩
      · skip
        obtain ⟨ga, ca, rfl⟩ := own_at B.rowA B.pos
        obtain ⟨gl, cl, rfl⟩ := own_at B.rowL B.pos
        have hpos := B.pos
        have hposz : (0 : Int) < (ids.length : Int) := by omega
        have hlb : ids.length ≤ n0 := by omega
        have HB0 : Hid (Bud W wr ids ls (.slice (some ⟨ga, 0, none⟩) ids.length ca) (.slice (some ⟨gl, 0, none⟩) ids.length cl) n₀ lk N pg) := B
        have HV0 : Hid (BVal ids N ls ids.length) := V
        clear B V hlen
        go_wp2
        go_loopw [14, 15] (fun lo i wx => ∃ (low jj : Nat) (ls' : List Int) (N' : Nat → Nd), lo = .int .i64 low ∧ i = .int .i64 jj ∧ jj ≤ n1 ∧ low ≤ ids.length ∧ Bud W wx ids ls' (.slice (some ⟨ga, 0, none⟩) ids.length ca) (.slice (some ⟨gl, 0, none⟩) ids.length cl) n₀ lk N' pg ∧ BVal ids N' ls' low) (fun _ i _ => n1 - (intOf i).toNat)
        case atStart => exact ⟨ids.length, 0, ls, N, rfl, rfl, by omega, by omega, HB0, HV0⟩
        case round =>
          obtain ⟨low, jj, ls', N', rfl, rfl, hjj, hlowl, B, V⟩ := hrel
          by_cases hlt1 : jj < n1
          · have hjz : (jj : Int) < (n1 : Int) := by omega
            by_cases hlt2 : jj < n2
            · have hjz2 : (jj : Int) < (n2 : Int) := by omega
              obtain ⟨q2, o2, x, rfl, hx, hcx, x0, x1⟩ := HoldsV.int (HoldsV.below (show HoldsV W a2 n2 (intsV K2) from G2) B.below) I2 hlt2
              obtain ⟨q1, o1, y, rfl, hy, hcy, y0, y1⟩ := HoldsV.int (HoldsV.below (show HoldsV W a1 n1 (intsV K1) from G1) B.below) I1 hlt1
              obtain ⟨k, hkl, HP⟩ := pick_nat x ids.length x0 x1 hpos (by omega) wr
              obtain ⟨s, hs⟩ : ∃ s, ids[k]? = some s := ⟨_, List.getElem?_eq_getElem hkl⟩
              have hcs := (ownsRow_cell B.rowA (i := k) (v := ptrV s) (by rw [List.getElem?_map, hs]; rfl)).1
              have hkz : (k : Int) < (ids.length : Int) := by omega
              obtain ⟨n, hnn⟩ : ∃ n, (if y < 0 then 0 else y) = n := ⟨_, rfl⟩
              have hnn' : (if 0 > y then 0 else y) = n := hnn
              have hn0 : 0 ≤ n := by rw [← hnn]; split <;> omega
              have hn63 : n ≤ 9223372036854775807 := by rw [← hnn]; split <;> omega
              have hlsl : ls'.length = ids.length := V.1
              have HB : Hid (Bud W wr ids ls' (.slice (some ⟨ga, 0, none⟩) ids.length ca) (.slice (some ⟨gl, 0, none⟩) ids.length cl) n₀ lk N' pg) := B
              have HV : Hid (BVal ids N' ls' low) := V
              have HSK : Hid (ids[k]? = some s) := hs
              have hnr := near_or ls' n k
              clear B V hs hx hy
              go_upto_region 21 with (go_at_call 13; refine HP.mono ?_; clear HP; rintro e w' ⟨rfl, hw⟩; obtain rfl := hw.symm)
              go_cut [18] from 68 to 182 (fun s18 wx => ∃ (e : Int) (N2 : Nat → Nd) (low2 : Nat) (ls2 : List Int), s18 = .int .i64 e ∧ Bud W wx ids ls' (.slice (some ⟨ga, 0, none⟩) ids.length ca) (.slice (some ⟨gl, 0, none⟩) ids.length cl) n₀ lk N2 pg ∧ BVal ids N2 ls2 low2 ∧ Out ls' n k low e low2 ls2 ∧ low2 ≤ ids.length)
              case first =>
                by_cases hlow : k < low
                · rcases hnr with ⟨i, hne⟩ | hno
                  · have HS := Bud.spendShort (show Bud W wr ids ls' (.slice (some ⟨ga, 0, none⟩) ids.length ca) (.slice (some ⟨gl, 0, none⟩) ids.length cl) n₀ lk N' pg from HB) (show BVal ids N' ls' low from HV) (show ids[k]? = some s from HSK) hlow n hn0 hn63 (by omega) hne
                    go_wp2_with (go_at_call 18; refine HS.mono ?_; clear HS; rintro e w5 ⟨rfl, N2, B5, V5⟩)
                    go_meet
                    case rel => exact ⟨31, N2, i, ls', rfl, B5, V5, Or.inr (Or.inl ⟨hlow, i, hne, rfl, rfl, rfl⟩), by have := hne.1; omega⟩
                  · have HS := Bud.spendOk (show Bud W wr ids ls' (.slice (some ⟨ga, 0, none⟩) ids.length ca) (.slice (some ⟨gl, 0, none⟩) ids.length cl) n₀ lk N' pg from HB) (show BVal ids N' ls' low from HV) (show ids[k]? = some s from HSK) hlow n hn0 hn63 (by omega) hno
                    go_wp2_with (go_at_call 18; refine HS.mono ?_; clear HS; rintro e w5 ⟨rfl, N2, B5, V5⟩)
                    go_meet
                    case rel => exact ⟨0, N2, low, spentL ls' (k + 1) n, rfl, B5, V5, Or.inr (Or.inr ⟨hlow, hno, rfl, rfl, rfl⟩), hlowl⟩
                · have HS := Bud.spendOver (show Bud W wr ids ls' (.slice (some ⟨ga, 0, none⟩) ids.length ca) (.slice (some ⟨gl, 0, none⟩) ids.length cl) n₀ lk N' pg from HB) (show BVal ids N' ls' low from HV) (show ids[k]? = some s from HSK) hlow n hn0
                  go_wp2_with (go_at_call 18; refine HS.mono ?_; clear HS; rintro e w' ⟨rfl, hw⟩; obtain rfl := hw.symm)
                  go_meet
                  case rel => exact ⟨31, N', low, ls', rfl, HB, HV, Or.inl ⟨hlow, rfl, rfl, rfl⟩, hlowl⟩
              case rest =>
                obtain ⟨e, N2, low2, ls2, rfl, B5, V5, O5, hl2⟩ := hcut
                generalize wc = w5 at *
                have HB5 : Hid (Bud W w5 ids ls' (.slice (some ⟨ga, 0, none⟩) ids.length ca) (.slice (some ⟨gl, 0, none⟩) ids.length cl) n₀ lk N2 pg) := B5
                have HV5 : Hid (BVal ids N2 ls2 low2) := V5
                clear B5 V5
                go_upto_block 4 with fail
                go_cut [19] from 68 to 182 (fun s19 wx => wx = w5 ∧ ∃ sv : Int, s19 = .int .i64 sv ∧ ((∃ i : Nat, Near ls' n k i ∧ sv = (i : Int)) ∨ ((∀ j, j ≤ k → ¬ ShortAt ls' n j) ∧ sv = -1)))
                case first =>
                  rcases hnr with ⟨i, hne⟩ | hno
                  · have hik := hne.1
                    go_wp2
                    go_loopw [19, 20] (fun sh xx wx => wx = w5 ∧ ∃ t : Int, xx = .int .i64 t ∧ ((sh = .int .i64 (-1) ∧ (i : Int) ≤ t ∧ t ≤ (k : Int)) ∨ (sh = .int .i64 (i : Int) ∧ t = (i : Int) - 1))) (fun _ xx _ => ((intOf xx) + 1).toNat)
                    case atStart => exact ⟨rfl, (k : Int), rfl, Or.inl ⟨rfl, by omega, by omega⟩⟩
                    case round =>
                      obtain ⟨rfl, t, rfl, hcase⟩ := hrel
                      rcases hcase with ⟨rfl, ht1, ht2⟩ | ⟨rfl, rfl⟩
                      · obtain ⟨tn, rfl⟩ : ∃ tn : Nat, t = (tn : Int) := ⟨t.toNat, by omega⟩
                        have htl : tn < ids.length := by omega
                        obtain ⟨l, hl⟩ : ∃ l, ls'[tn]? = some l := ⟨_, List.getElem?_eq_getElem (by rw [hlsl]; exact htl)⟩
                        have p1 := (ownsRow_cell (Bud.rowL HB5) (i := tn) (v := .int .i64 l) (by rw [List.getElem?_map, hl]; rfl)).1
                        have htz : (tn : Int) < (ids.length : Int) := by omega
                        by_cases hti : tn = i
                        · subst hti
                          have hln : l < n := by
                            obtain ⟨l', e1, e2⟩ := hne.2.1
                            rw [hl] at e1; injection e1 with e1; omega
                          clear hl
                          go_wp2
                          go_roundw
                          case rel => exact ⟨by simp, (tn : Int) - 1, by simp, Or.inr ⟨rfl, rfl⟩⟩
                          case measure => simp [intOf]
                        · have hln : ¬ l < n := fun hc => hne.2.2 tn (by omega) (by omega) ⟨l, hl, hc⟩
                          clear hl
                          go_wp2
                          go_roundw
                          case rel => exact ⟨by simp, (tn : Int) - 1, by simp, Or.inl ⟨rfl, by omega, by omega⟩⟩
                          case measure => simp [intOf]
                      · have hi0 : ¬ ((i : Int) < 0) := by omega
                        by_cases hi1 : (0 : Int) ≤ (i : Int) - 1
                        · skip
                          go_wp2
                          go_meet
                          case rel => exact ⟨rfl, (i : Int), rfl, Or.inl ⟨i, hne, rfl⟩⟩
                        · skip
                          go_wp2
                          go_meet
                          case rel => exact ⟨rfl, (i : Int), rfl, Or.inl ⟨i, hne, rfl⟩⟩
                  · skip
                    go_wp2
                    go_loopw [19, 20] (fun sh xx wx => wx = w5 ∧ ∃ t : Int, xx = .int .i64 t ∧ sh = .int .i64 (-1) ∧ -1 ≤ t ∧ t ≤ (k : Int)) (fun _ xx _ => ((intOf xx) + 1).toNat)
                    case atStart => exact ⟨rfl, (k : Int), rfl, rfl, by omega, by omega⟩
                    case round =>
                      obtain ⟨rfl, t, rfl, rfl, ht1, ht2⟩ := hrel
                      by_cases ht0 : 0 ≤ t
                      · obtain ⟨tn, rfl⟩ : ∃ tn : Nat, t = (tn : Int) := ⟨t.toNat, by omega⟩
                        have htl : tn < ids.length := by omega
                        obtain ⟨l, hl⟩ : ∃ l, ls'[tn]? = some l := ⟨_, List.getElem?_eq_getElem (by rw [hlsl]; exact htl)⟩
                        have p1 := (ownsRow_cell (Bud.rowL HB5) (i := tn) (v := .int .i64 l) (by rw [List.getElem?_map, hl]; rfl)).1
                        have htz : (tn : Int) < (ids.length : Int) := by omega
                        have hln : ¬ l < n := fun hc => hno tn (by omega) ⟨l, hl, hc⟩
                        clear hl
                        go_wp2
                        go_roundw
                        case rel => exact ⟨by simp, (tn : Int) - 1, by simp, rfl, by omega, by omega⟩
                        case measure => simp [intOf]
                      · obtain rfl : t = -1 := by omega
                        go_wp2
                        go_meet
                        case rel => exact ⟨rfl, -1, rfl, Or.inr ⟨hno, rfl⟩⟩
                case rest =>
                  obtain ⟨hwc, sv, rfl, hsv⟩ := hcut
                  obtain rfl := hwc.symm
                  go_upto_block 6 with fail
                  go_cut [14] from 68 to 182 (fun s14 wx => s14 = .int .i64 (low2 : Int) ∧ Bud W wx ids ls2 (.slice (some ⟨ga, 0, none⟩) ids.length ca) (.slice (some ⟨gl, 0, none⟩) ids.length cl) n₀ lk N2 pg)
                  case first =>
                    rcases O5 with ⟨hlow, rfl, rfl, rfl⟩ | ⟨hlow, i, hne, rfl, rfl, rfl⟩ | ⟨hlow, hno', rfl, rfl, rfl⟩
                    · have hlowz2 : (low2 : Int) ≤ (k : Int) := by omega
                      have hlowz3 : ¬ (k : Int) < (low2 : Int) := by omega
                      go_wp2
                      go_meet
                      case rel => exact ⟨rfl, HB5⟩
                    · have hlowz2 : ¬ (low : Int) ≤ (k : Int) := by omega
                      have hlowz3 : (k : Int) < (low : Int) := by omega
                      have hsvi : sv = (low2 : Int) := by
                        rcases hsv with ⟨i', hi', e'⟩ | ⟨hn', _⟩
                        · have hii : i' = low2 := by
                            by_cases h1 : i' < low2
                            · exact absurd hne.2.1 (hi'.2.2 low2 h1 hne.1)
                            · by_cases h2 : low2 < i'
                              · exact absurd hi'.2.1 (hne.2.2 i' h2 hi'.1)
                              · omega
                          omega
                        · exact absurd hne.2.1 (hn' low2 hne.1)
                      clear hsv
                      subst hsvi
                      have hs0 : (0 : Int) ≤ (low2 : Int) := by omega
                      go_wp2
                      go_meet
                      case rel => exact ⟨rfl, HB5⟩
                    · have hlowz2 : ¬ (low2 : Int) ≤ (k : Int) := by omega
                      have hlowz3 : (k : Int) < (low2 : Int) := by omega
                      have hsvi : sv = -1 := by
                        rcases hsv with ⟨i', hi', e'⟩ | ⟨_, e'⟩
                        · exact absurd hi'.2.1 (hno' i' hi'.1)
                        · exact e'
                      clear hsv
                      subst hsvi
                      have HB6' : Hid (Bud W w5 ids ls' (.slice (some ⟨ga, 0, none⟩) ids.length ca) (.slice (some ⟨gl, 0, none⟩) ids.length cl) n₀ lk N2 pg) := HB5
                      go_wp2
                      go_loopw [21] (fun xx wx => ∃ m : Nat, xx = .int .i64 m ∧ m ≤ k + 1 ∧ Bud W wx ids (spentL ls' m n) (.slice (some ⟨ga, 0, none⟩) ids.length ca) (.slice (some ⟨gl, 0, none⟩) ids.length cl) n₀ lk N2 pg) (fun xx _ => k + 1 - (intOf xx).toNat)
                      case atStart =>
                        refine ⟨0, rfl, by omega, ?_⟩
                        rw [spent_zero]
                        exact HB6'
                      case round =>
                        obtain ⟨m, rfl, hm, B6⟩ := hrel
                        by_cases hmk : m ≤ k
                        · have hmz : (m : Int) ≤ (k : Int) := by omega
                          have hmz2 : (m : Int) < (ids.length : Int) := by omega
                          obtain ⟨l, hl⟩ : ∃ l, ls'[m]? = some l := ⟨_, List.getElem?_eq_getElem (by rw [hlsl]; omega)⟩
                          obtain ⟨p1, p2⟩ := ownsRow_cell B6.rowL (i := m) (v := .int .i64 l) (by rw [List.getElem?_map, spent_hi (Nat.le_refl _) (by rw [hlsl]; omega), hl]; rfl)
                          have hln : ¬ l < n := fun hc => hno' m hmk ⟨l, hl, hc⟩
                          obtain ⟨ym, hym⟩ : ∃ ym, ids[m]? = some ym := ⟨_, List.getElem?_eq_getElem (by omega)⟩
                          obtain ⟨u1, _, u3, u4⟩ := (show BVal ids N' ls' low2 from HV).2 m ym hym
                          rw [hl] at u1
                          injection u1 with u1
                          rw [← u1] at u3 u4
                          have hwl : IntKind.i64.wrap (l - n) = l - n := by rw [IntKind.wrap_i64]; omega
                          have B7 := B6.set m (l - n)
                          rw [spent_next (by rw [hlsl]; omega) hl] at B7
                          have HB7 : Hid (Bud W (wr.setCell ⟨gl, m, none⟩ (.int .i64 (l - n))) ids (spentL ls' (m + 1) n) (.slice (some ⟨ga, 0, none⟩) ids.length ca) (.slice (some ⟨gl, 0, none⟩) ids.length cl) n₀ lk N2 pg) := B7
                          clear B6 B7 hl hym u1
                          go_wp2
                          go_roundw
                          case rel => exact ⟨m + 1, by simp, by omega, HB7⟩
                          case measure => simp [intOf]; omega
                        · obtain rfl : m = k + 1 := by omega
                          have hmz : ¬ (((k + 1 : Nat) : Int) ≤ (k : Int)) := by omega
                          have HB6 : Hid (Bud W wr ids (spentL ls' (k + 1) n) (.slice (some ⟨ga, 0, none⟩) ids.length ca) (.slice (some ⟨gl, 0, none⟩) ids.length cl) n₀ lk N2 pg) := B6
                          clear B6 hmk
                          go_wp2
                          go_meet
                          case rel => exact ⟨rfl, HB6⟩
                  case rest =>
                    obtain ⟨rfl, B6⟩ := hcut
                    generalize wc = w6 at *
                    have HB6 : Hid (Bud W w6 ids ls2 (.slice (some ⟨ga, 0, none⟩) ids.length ca) (.slice (some ⟨gl, 0, none⟩) ids.length cl) n₀ lk N2 pg) := B6
                    clear B6 HB5
                    go_upto_region 35 with fail
                    go_cut [154] from 68 to 182 (fun s154 wx => s154 = .bool false ∧ wx = w6)
                    case first =>
                      rcases O5.ok with ⟨he, hkl2⟩ | ⟨he, hkl2⟩
                      · subst he
                        have hk2 : ¬ (k : Int) < (low2 : Int) := by omega
                        go_wp2
                        go_meet
                        case rel => exact ⟨rfl, rfl⟩
                      · subst he
                        have hk2 : (k : Int) < (low2 : Int) := by omega
                        go_wp2
                        go_meet
                        case rel => exact ⟨rfl, rfl⟩
                    case rest =>
                      obtain ⟨rfl, rfl⟩ := hcut
                      go_wp2
                      go_loopw [22] (fun x wx => ∃ m : Nat, x = .int .i64 m ∧ m ≤ ids.length ∧ Bud W wx ids ls2 (.slice (some ⟨ga, 0, none⟩) ids.length ca) (.slice (some ⟨gl, 0, none⟩) ids.length cl) n₀ lk N2 pg) (fun x _ => ids.length - (intOf x).toNat)
                      case atStart => exact ⟨0, rfl, by omega, HB6⟩
                      case round =>
                        obtain ⟨m, rfl, hm, B7⟩ := hrel
                        by_cases hml : m < ids.length
                        · have hmz : (m : Int) < (ids.length : Int) := by omega
                          obtain ⟨y7, hy7⟩ : ∃ y7, ids[m]? = some y7 := ⟨_, List.getElem?_eq_getElem hml⟩
                          obtain ⟨v1, v2, v3, v4⟩ := (show BVal ids N2 ls2 low2 from HV5).2 m y7 hy7
                          obtain ⟨l7, hl7⟩ : ∃ l7, (N2 y7).left = l7 := ⟨_, rfl⟩
                          rw [hl7] at v1
                          have p1 := (ownsRow_cell B7.rowA (i := m) (v := ptrV y7) (by rw [List.getElem?_map, hy7]; rfl)).1
                          have p2 := (ownsRow_cell B7.rowL (i := m) (v := .int .i64 l7) (by rw [List.getElem?_map, v1]; rfl)).1
                          by_cases hmw : m < low2
                          · rw [if_pos hmw] at v2
                            have hmw' : (m : Int) < (low2 : Int) := by omega
                            have HWq := fun (ww : World) (hw : ww.heap = wr.heap) => (B7.fam.heap hw).Why (s := y7) (List.mem_of_getElem? hy7)
                            have HLq := fun (ww : World) (hw : ww.heap = wr.heap) => (B7.fam.heap hw).Left (s := y7) (List.mem_of_getElem? hy7)
                            rw [v2] at HWq
                            rw [hl7] at HLq
                            have HB7 : Hid (Bud W wr ids ls2 (.slice (some ⟨ga, 0, none⟩) ids.length ca) (.slice (some ⟨gl, 0, none⟩) ids.length cl) n₀ lk N2 pg) := B7
                            clear B7 v1 v2 hy7 v3 v4 hl7
                            go_wp2
                            go_quiet (first | (go_at_call 16; refine Calls.quiet_of_same (HWq _ rfl)) | (go_at_call 17; refine Calls.quiet_of_same (HLq _ rfl)))
                            go_wp2
                            go_roundw
                            case rel => exact ⟨m + 1, by simp, by omega, Bud.heap (show Bud W wr ids ls2 (.slice (some ⟨ga, 0, none⟩) ids.length ca) (.slice (some ⟨gl, 0, none⟩) ids.length cl) n₀ lk N2 pg from HB7) rfl rfl rfl rfl⟩
                            case measure => simp [intOf]; omega
                          · rw [if_neg hmw] at v2
                            have hmw' : ¬ (m : Int) < (low2 : Int) := by omega
                            have HWq := fun (ww : World) (hw : ww.heap = wr.heap) => (B7.fam.heap hw).Why (s := y7) (List.mem_of_getElem? hy7)
                            have HLq := fun (ww : World) (hw : ww.heap = wr.heap) => (B7.fam.heap hw).Left (s := y7) (List.mem_of_getElem? hy7)
                            rw [v2] at HWq
                            rw [hl7] at HLq
                            have HB7 : Hid (Bud W wr ids ls2 (.slice (some ⟨ga, 0, none⟩) ids.length ca) (.slice (some ⟨gl, 0, none⟩) ids.length cl) n₀ lk N2 pg) := B7
                            clear B7 v1 v2 hy7 v3 v4 hl7
                            go_wp2
                            go_quiet (first | (go_at_call 16; refine Calls.quiet_of_same (HWq _ rfl)) | (go_at_call 17; refine Calls.quiet_of_same (HLq _ rfl)))
                            go_wp2
                            go_roundw
                            case rel => exact ⟨m + 1, by simp, by omega, Bud.heap (show Bud W wr ids ls2 (.slice (some ⟨ga, 0, none⟩) ids.length ca) (.slice (some ⟨gl, 0, none⟩) ids.length cl) n₀ lk N2 pg from HB7) rfl rfl rfl rfl⟩
                            case measure => simp [intOf]; omega
                        · have hmz : ¬ (m : Int) < (ids.length : Int) := by omega
                          have HB7 : Hid (Bud W wr ids ls2 (.slice (some ⟨ga, 0, none⟩) ids.length ca) (.slice (some ⟨gl, 0, none⟩) ids.length cl) n₀ lk N2 pg) := B7
                          clear B7 hml
                          go_wp2
                          exact ⟨⟨low2, jj + 1, ls2, N2, rfl, by simp, by omega, by omega, HB7, HV5⟩, by simp [intOf]; omega⟩
            · have hjz2 : ¬ (jj : Int) < (n2 : Int) := by omega
              have hbf := B.below
              clear B V
              go_wp2
              go_ret
              exact ⟨rfl, hbf⟩
          · have hjz : ¬ (jj : Int) < (n1 : Int) := by omega
            have hbf := B.below
            clear B V
            go_wp2
            go_ret
            exact ⟨rfl, hbf⟩
end Go.Proofs.Ytmepapbbebddiaa
