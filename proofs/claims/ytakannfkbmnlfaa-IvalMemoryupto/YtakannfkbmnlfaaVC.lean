/-
  Layer 6, the reference: sorted.
-/
import Derived.Test.YtakannfkbmnlfaaVB
import Derived.Test.YtakannfkbmnlfaaMw
namespace Go.Proofs.Ytakannfkbmnlfaa
open Go.RowKit
set_option maxRecDepth 100000

/-- A cut is appended. -/
theorem wpList_appU {ops : Array Oper} {rest : List Oper} {o : Oper} {a : Act} {Q : Exit → Act → World → Prop} (w : World) (hgd : o.guard = none) (s x : Operand)
    (ho : o.op = .call { callee := .builtin .append, args := #[s, x], argTypes := #[52, 52] })
    (base : Nat) (v : Value) (L : List (Int × Int × Int)) (e : Int × Int × Int) (y : Int) (hy : stepE e = y) (hv : a.eval s = v) (hown : OwnU base w v L) (hx : a.eval x = .slice (some ⟨w.heap.size, 0, none⟩) 1 1) (hlen : L.length ≤ 5629499534213) (hbase : base ≤ w.heap.size)
    (h : ∀ v' w', OwnU base w' v' (L ++ [e]) → Upd (fun k => base ≤ k) w w' → wpList Try.prog ops Q rest (a.put o.dst v') w') : wpList Try.prog ops Q (o :: rest) a (w.alloc (.cells #[.int .i64 e.1, .int .i64 y, .int .i64 e.2.2] 56)) := by
  subst hy
  obtain ⟨i0, hi0, hz0, hz1, hz2⟩ := info_parts Try.info56
  have ho' : OwnU base (w.alloc (.cells #[.int .i64 e.1, .int .i64 (stepE e), .int .i64 e.2.2] 56)) v L := hown.alloc _
  have hs : Src Try.prog 3 52 (.slice (some ⟨w.heap.size, 0, none⟩) 1 1) 1 (cuC e) (w.alloc (.cells #[.int .i64 e.1, .int .i64 (stepE e), .int .i64 e.2.2] 56)) := by
    refine Src.ofSlice _ Try.underlying52 ⟨w.heap.size, 0, none⟩ 1 1 _ rfl ?_ ?_
    · intro j u hj
      rw [Addr.add_lit, Nat.zero_add]
      exact blk_cell (heap_alloc_new w (.cells #[.int .i64 e.1, .int .i64 (stepE e), .int .i64 e.2.2] 56)) j (by simpa [cuC] using hj)
    · intro u hu
      simp [cuC] at hu
      rcases hu with rfl | rfl | rfl <;> rfl
  refine wpList_appW _ hgd s x 52 52 ho base 56 i0 _ 3 24 Try.underlying52 hi0 hz0 hz1 hz2 rfl v L.length (L.flatMap cuC) hv ho' _ 1 (cuC e) hx hs (by unfold maxLen; omega) (by omega) (by rw [World.size_alloc]; omega) ?_
  intro v' w' o8 g8 m8
  refine h v' w' ?_ ⟨g8.os, g8.tape, g8.output, by have := g8.size; rw [World.size_alloc] at this; omega, fun k hk hn => (g8.block k (by rw [World.size_alloc]; omega) (fun e => hn (own_block hown e.symm).1)).trans (Below.heap_alloc w _ k hk)⟩
  unfold OwnU
  rw [List.length_append, List.flatMap_append]
  simpa using o8

theorem CuAt.take {w : World} {ad : Option Addr} {n h : Nat} {l : List (Int × Int × Int)} (H : CuAt w ad n l) (hh : h ≤ n) : CuAt w ad h (l.take h) := by
  refine ⟨by rw [List.length_take, H.len]; omega, fun hp => ?_⟩
  obtain ⟨b, off, ha, hc⟩ := H.lies (by omega)
  refine ⟨b, off, ha, fun i hi => ?_⟩
  rw [List.length_take, H.len] at hi
  simp only [List.getElem_take]
  exact hc i (by rw [H.len]; omega)
theorem CuAt.drop {w : World} {b off n h : Nat} {l : List (Int × Int × Int)} (H : CuAt w (some ⟨b, off, none⟩) n l) (hh : h ≤ n) : CuAt w (some ⟨b, off + h * 3, none⟩) (n - h) (l.drop h) := by
  refine ⟨by rw [List.length_drop, H.len], fun hp => ?_⟩
  obtain ⟨b', off', ha, hc⟩ := H.lies (by omega)
  injection ha with ha
  injection ha with h1 h2
  subst h1
  subst h2
  refine ⟨b, off + h * 3, rfl, fun i hi => ?_⟩
  rw [List.length_drop, H.len] at hi
  simp only [List.getElem_drop]
  have := hc (h + i) (by rw [H.len]; omega)
  rw [show off + (h + i) * 3 = off + h * 3 + i * 3 by omega] at this
  exact this

/-- What sorted tells. -/
def OrdU (E : List (Int × Int × Int)) (w : World) (e : Ending) (w' : World) : Prop :=
  ∃ ad n c E', e = .returned (.slice ad n c) ∧ Hid (CuAt w' ad n E' ∧ E.Perm E' ∧ SortE E') ∧ n ≤ c ∧ c ≤ maxLen ∧ Below w.heap.size w w'
theorem rSorted_small (ad : Option Addr) (n c : Nat) (E : List (Int × Int × Int)) (w : World) (hA : CuAt w ad n E) (hn : n < 2) (hc : n ≤ c) (hm : c ≤ maxLen) : Calls Try.prog 36 #[.slice ad n c] w (OrdU E w) := by
  have HA : Hid (CuAt w ad n E) := hA
  have HS : Hid (SortE E) := by
    have hl := hA.len
    rcases E with _ | ⟨x, _ | ⟨y, l⟩⟩
    · exact List.Pairwise.nil
    · exact List.pairwise_singleton _ _
    · simp at hl; omega
  have hn' : (n : Int) < 2 := by omega
  clear hA
  unfold OrdU
  go_enter Try.func36, Try.ntmps36
  go_wp2
  go_ret
  exact ⟨ad, n, c, E, rfl, ⟨HA.out, List.Perm.refl _, HS.out⟩, hc, hm, Below.refl _ _⟩
set_option maxHeartbeats 8000000 in
theorem rSorted_of (b off n c h : Nat) (l : List (Int × Int × Int)) (w : World) (hn : 2 ≤ n) (hh : h = n / 2) (hc : n ≤ c) (hm : c ≤ maxLen) (hz : n ≤ 1099511627776) (hl : l.length = n)
    (SA : ∀ W, Below w.heap.size w W → Calls Try.prog 36 #[.slice (some ⟨b, off, none⟩) h c] W (OrdU (l.take h) W)) (SB : ∀ W, Below w.heap.size w W → Calls Try.prog 36 #[.slice (some ⟨b, off + h * 3, none⟩) (n - h) (c - h)] W (OrdU (l.drop h) W)) :
    Calls Try.prog 36 #[.slice (some ⟨b, off, none⟩) n c] w (OrdU l w) := by
  have HSA : Hid (∀ W, Below w.heap.size w W → Calls Try.prog 36 #[.slice (some ⟨b, off, none⟩) h c] W (OrdU (l.take h) W)) := SA
  have HSB : Hid (∀ W, Below w.heap.size w W → Calls Try.prog 36 #[.slice (some ⟨b, off + h * 3, none⟩) (n - h) (c - h)] W (OrdU (l.drop h) W)) := SB
  have HLL : Hid (l.length = n) := hl
  unfold maxLen at hm
  have hn' : ¬ (n : Int) < 2 := by omega
  have hq : (n : Int).tdiv 2 = (h : Int) := by rw [Int.tdiv_eq_ediv_of_nonneg (by omega)]; omega
  have hhn : h ≤ n := by omega
  have hch : ¬ c = h := by omega
  clear SA SB hl hh
  go_enter Try.func36, Try.ntmps36
  go_wp2_with (first
    | (go_at_call 36; (with_reducible refine (HSA.out _ (Below.refl _ _)).mono ?_); clear HSA; rintro e w1 ⟨xx, n1, m1, A, rfl, H1, k1, k1', b1⟩; have HB1 : Hid (Below w.heap.size w w1) := b1; clear b1)
    | (go_at_call 36; (with_reducible refine (HSB.out _ HB1.out).mono ?_); clear HSB; rintro e w2 ⟨yy, n2, m2, B, rfl, H2, k2, k2', b2⟩; have HB2 : Hid (Below w.heap.size w w2) := HB1.out.trans (b2.mono HB1.out.size); have HX2 : Hid (CuAt w2 xx n1 A) := CuAt.below H1.out.1 b2; clear b2))
  have HY2 : Hid (CuAt w2 yy n2 B) := H2.out.1
  have HSR : Hid (SortE A ∧ SortE B) := ⟨H1.out.2.2, H2.out.2.2⟩
  have HPL : Hid (l.Perm (A ++ B)) := by
    have h1 := List.Perm.append H1.out.2.1 H2.out.2.1
    rw [List.take_append_drop] at h1
    exact h1
  have hn12 : n1 + n2 ≤ 1099511627776 := by have h1 := HX2.out.len; have h2 := HY2.out.len; have h3 := HPL.out.length_eq; rw [List.length_append] at h3; have h4 := HLL.out; omega
  unfold maxLen at k1' k2'
  clear H1 H2 HB1 hq hn' hch hhn hc hm
  go_loopw [5, 6, 7] (fun tv ti tj wr => ∃ (i k : Nat) (P : List (Int × Int × Int)), ti = .int .i64 i ∧ tj = .int .i64 k ∧ i ≤ n1 ∧ k ≤ n2 ∧ Hid (OwnU w2.heap.size wr tv P) ∧ Hid (MrgE A B i k P) ∧ Hid (Below w2.heap.size w2 wr)) (fun _ ti tj _ => (n1 - (intOf ti).toNat) + (n2 - (intOf tj).toNat))
  case atStart => exact ⟨0, 0, [], rfl, rfl, Nat.zero_le _, Nat.zero_le _, OwnU.nil _ _, ⟨List.Pairwise.nil, (fun x hx => by cases hx), List.Perm.refl _, rfl⟩, Below.refl _ _⟩
  case round =>
    obtain ⟨i, k, P, rfl, rfl, hi, hk, HP, HG, HW⟩ := hrel
    obtain ⟨pa, pl, pc, hps⟩ := row_shape HP.out
    subst hps
    have HXl : Hid (A.length = n1) := HX2.out.len
    have HYl : Hid (B.length = n2) := HY2.out.len
    have HPn : Hid (P.length ≤ 1099511627776) := by have := HG.out.len; show _ ≤ _; omega
    by_cases h1 : i < n1
    · have hiA : i < A.length := by rw [HXl.out]; exact h1
      have HDA : Hid (A.drop i = A[i] :: A.drop (i + 1)) := List.drop_eq_getElem_cons hiA
      obtain ⟨xb, xo, rfl, hrx⟩ := (HX2.out.below HW.out).lies (by omega)
      obtain ⟨a0, a1, a2⟩ := hrx i hiA
      obtain ⟨⟨e0, e1, e2⟩, ec⟩ : ∃ c, A[i] = c := ⟨_, rfl⟩
      rw [ec] at HDA a0 a1 a2
      obtain ⟨sa, hsa⟩ : ∃ s, stepE (e0, e1, e2) = s := ⟨_, rfl⟩
      rw [hsa] at a1
      simp only at a0 a1 a2
      have HSA : Hid (stepE (e0, e1, e2) = sa) := hsa
      clear ec hrx hsa
      have h1' : (i : Int) < (n1 : Int) := by omega
      have h1d : decide ((i : Int) < (n1 : Int)) = true := decide_eq_true h1'
      by_cases h2 : k < n2
      · have hkB : k < B.length := by rw [HYl.out]; exact h2
        have HDB : Hid (B.drop k = B[k] :: B.drop (k + 1)) := List.drop_eq_getElem_cons hkB
        obtain ⟨yb, yo, rfl, hry⟩ := (HY2.out.below HW.out).lies (by omega)
        obtain ⟨b0, b1, b2⟩ := hry k hkB
        obtain ⟨⟨f0, f1, f2⟩, ed⟩ : ∃ d, B[k] = d := ⟨_, rfl⟩
        rw [ed] at HDB b0 b1 b2
        obtain ⟨sb, hsb⟩ : ∃ s, stepE (f0, f1, f2) = s := ⟨_, rfl⟩
        rw [hsb] at b1
        simp only at b0 b1 b2
        have HSB : Hid (stepE (f0, f1, f2) = sb) := hsb
        clear ed hry hsb
        have h2' : (k : Int) < (n2 : Int) := by omega
        have hkb : ((k : Int) == (n2 : Int)) = false := by simp; omega
        by_cases hl : e0 ≤ f0
        · have hld : decide (e0 ≤ f0) = true := decide_eq_true hl
          go_wp2
          go_quiet (fail)
          obtain ⟨w5, hw5⟩ : ∃ V, wr.drewN nq = V := ⟨_, rfl⟩
          have HB5 : Hid (Below wr.heap.size wr w5) := by rw [← hw5]; exact ⟨rfl, rfl, rfl, Nat.le_refl _, fun _ _ => rfl⟩
          have g0 : w5.cell? ⟨xb, xo + i * 3, none⟩ = some (.int .i64 e0) := by rw [← hw5]; exact a0
          have g1 : w5.cell? ⟨xb, xo + i * 3 + 1, none⟩ = some (.int .i64 sa) := by rw [← hw5]; exact a1
          have g2 : w5.cell? ⟨xb, xo + i * 3 + 2, none⟩ = some (.int .i64 e2) := by rw [← hw5]; exact a2
          rw [hw5]
          clear hw5 a0 a1 a2 b0 b1 b2
          have HBW5 : Hid (Below w2.heap.size w2 w5) := HW.out.trans (HB5.out.mono HW.out.size)
          have HP5 : Hid (OwnU w2.heap.size w5 (.slice pa pl pc) P) := HP.out.below HB5.out
          go_wp2_with (at_builtin; refine wpList_appU w5 rfl _ _ rfl w2.heap.size (.slice pa pl pc) P (e0, e1, e2) sa HSA.out rfl HP5.out rfl (by have := HPn.out; omega) HBW5.out.size ?_; intro v8 w8 o8 u8; obtain ⟨a8, l8, c8, rfl⟩ := row_shape o8; have HO8 : Hid (OwnU w2.heap.size w8 (.slice a8 l8 c8) (P ++ [(e0, e1, e2)])) := o8; have HU8 : Hid (Upd (fun k => w2.heap.size ≤ k) w5 w8) := u8; clear o8 u8)
          go_roundw
          case rel =>
            exact ⟨i + 1, k, P ++ [(e0, e1, e2)], by go_num, by go_num, by omega, by omega, HO8, MrgE.left HG.out HDA.out HSR.out.1 (sortE_through HSR.out.2 HDB.out hl), HBW5.out.trans (HU8.out.below HBW5.out.size (fun j hj e => by omega))⟩
          case measure => simp [intOf]; omega
        · have hld : decide (e0 ≤ f0) = false := decide_eq_false hl
          go_wp2
          go_quiet (fail)
          obtain ⟨w5, hw5⟩ : ∃ V, wr.drewN nq = V := ⟨_, rfl⟩
          have HB5 : Hid (Below wr.heap.size wr w5) := by rw [← hw5]; exact ⟨rfl, rfl, rfl, Nat.le_refl _, fun _ _ => rfl⟩
          have g0 : w5.cell? ⟨yb, yo + k * 3, none⟩ = some (.int .i64 f0) := by rw [← hw5]; exact b0
          have g1 : w5.cell? ⟨yb, yo + k * 3 + 1, none⟩ = some (.int .i64 sb) := by rw [← hw5]; exact b1
          have g2 : w5.cell? ⟨yb, yo + k * 3 + 2, none⟩ = some (.int .i64 f2) := by rw [← hw5]; exact b2
          rw [hw5]
          clear hw5 a0 a1 a2 b0 b1 b2
          have HBW5 : Hid (Below w2.heap.size w2 w5) := HW.out.trans (HB5.out.mono HW.out.size)
          have HP5 : Hid (OwnU w2.heap.size w5 (.slice pa pl pc) P) := HP.out.below HB5.out
          go_wp2_with (at_builtin; refine wpList_appU w5 rfl _ _ rfl w2.heap.size (.slice pa pl pc) P (f0, f1, f2) sb HSB.out rfl HP5.out rfl (by have := HPn.out; omega) HBW5.out.size ?_; intro v8 w8 o8 u8; obtain ⟨a8, l8, c8, rfl⟩ := row_shape o8; have HO8 : Hid (OwnU w2.heap.size w8 (.slice a8 l8 c8) (P ++ [(f0, f1, f2)])) := o8; have HU8 : Hid (Upd (fun k => w2.heap.size ≤ k) w5 w8) := u8; clear o8 u8)
          go_roundw
          case rel =>
            exact ⟨i, k + 1, P ++ [(f0, f1, f2)], by go_num, by go_num, by omega, by omega, HO8, MrgE.right HG.out HDB.out HSR.out.2 (sortE_through HSR.out.1 HDA.out (by show f0 ≤ e0; omega)), HBW5.out.trans (HU8.out.below HBW5.out.size (fun j hj e => by omega))⟩
          case measure => simp [intOf]; omega
      · have HDB : Hid (B.drop k = []) := List.drop_eq_nil_of_le (by rw [HYl.out]; omega)
        have h2' : ¬ (k : Int) < (n2 : Int) := by omega
        have hkb : ((k : Int) == (n2 : Int)) = true := by simp; omega
        go_wp2
        go_quiet (fail)
        obtain ⟨w5, hw5⟩ : ∃ V, wr.drewN nq = V := ⟨_, rfl⟩
        have HB5 : Hid (Below wr.heap.size wr w5) := by rw [← hw5]; exact ⟨rfl, rfl, rfl, Nat.le_refl _, fun _ _ => rfl⟩
        have g0 : w5.cell? ⟨xb, xo + i * 3, none⟩ = some (.int .i64 e0) := by rw [← hw5]; exact a0
        have g1 : w5.cell? ⟨xb, xo + i * 3 + 1, none⟩ = some (.int .i64 sa) := by rw [← hw5]; exact a1
        have g2 : w5.cell? ⟨xb, xo + i * 3 + 2, none⟩ = some (.int .i64 e2) := by rw [← hw5]; exact a2
        rw [hw5]
        clear hw5 a0 a1 a2
        have HBW5 : Hid (Below w2.heap.size w2 w5) := HW.out.trans (HB5.out.mono HW.out.size)
        have HP5 : Hid (OwnU w2.heap.size w5 (.slice pa pl pc) P) := HP.out.below HB5.out
        go_wp2_with (at_builtin; refine wpList_appU w5 rfl _ _ rfl w2.heap.size (.slice pa pl pc) P (e0, e1, e2) sa HSA.out rfl HP5.out rfl (by have := HPn.out; omega) HBW5.out.size ?_; intro v8 w8 o8 u8; obtain ⟨a8, l8, c8, rfl⟩ := row_shape o8; have HO8 : Hid (OwnU w2.heap.size w8 (.slice a8 l8 c8) (P ++ [(e0, e1, e2)])) := o8; have HU8 : Hid (Upd (fun k => w2.heap.size ≤ k) w5 w8) := u8; clear o8 u8)
        go_roundw
        case rel =>
          exact ⟨i + 1, k, P ++ [(e0, e1, e2)], by go_num, by go_num, by omega, by omega, HO8, MrgE.left HG.out HDA.out HSR.out.1 (by rw [HDB.out]; exact fun y hy => by cases hy), HBW5.out.trans (HU8.out.below HBW5.out.size (fun j hj e => by omega))⟩
        case measure => simp [intOf]; omega
    · have HDA : Hid (A.drop i = []) := List.drop_eq_nil_of_le (by rw [HXl.out]; omega)
      have h1' : ¬ (i : Int) < (n1 : Int) := by omega
      have h1d : decide ((i : Int) < (n1 : Int)) = false := decide_eq_false h1'
      by_cases h2 : k < n2
      · have hkB : k < B.length := by rw [HYl.out]; exact h2
        have HDB : Hid (B.drop k = B[k] :: B.drop (k + 1)) := List.drop_eq_getElem_cons hkB
        obtain ⟨yb, yo, rfl, hry⟩ := (HY2.out.below HW.out).lies (by omega)
        obtain ⟨b0, b1, b2⟩ := hry k hkB
        obtain ⟨⟨f0, f1, f2⟩, ed⟩ : ∃ d, B[k] = d := ⟨_, rfl⟩
        rw [ed] at HDB b0 b1 b2
        obtain ⟨sb, hsb⟩ : ∃ s, stepE (f0, f1, f2) = s := ⟨_, rfl⟩
        rw [hsb] at b1
        simp only at b0 b1 b2
        have HSB : Hid (stepE (f0, f1, f2) = sb) := hsb
        clear ed hry hsb
        have h2' : (k : Int) < (n2 : Int) := by omega
        have hkb : ((k : Int) == (n2 : Int)) = false := by simp; omega
        go_wp2
        go_quiet (fail)
        obtain ⟨w5, hw5⟩ : ∃ V, wr.drewN nq = V := ⟨_, rfl⟩
        have HB5 : Hid (Below wr.heap.size wr w5) := by rw [← hw5]; exact ⟨rfl, rfl, rfl, Nat.le_refl _, fun _ _ => rfl⟩
        have g0 : w5.cell? ⟨yb, yo + k * 3, none⟩ = some (.int .i64 f0) := by rw [← hw5]; exact b0
        have g1 : w5.cell? ⟨yb, yo + k * 3 + 1, none⟩ = some (.int .i64 sb) := by rw [← hw5]; exact b1
        have g2 : w5.cell? ⟨yb, yo + k * 3 + 2, none⟩ = some (.int .i64 f2) := by rw [← hw5]; exact b2
        rw [hw5]
        clear hw5 b0 b1 b2
        have HBW5 : Hid (Below w2.heap.size w2 w5) := HW.out.trans (HB5.out.mono HW.out.size)
        have HP5 : Hid (OwnU w2.heap.size w5 (.slice pa pl pc) P) := HP.out.below HB5.out
        go_wp2_with (at_builtin; refine wpList_appU w5 rfl _ _ rfl w2.heap.size (.slice pa pl pc) P (f0, f1, f2) sb HSB.out rfl HP5.out rfl (by have := HPn.out; omega) HBW5.out.size ?_; intro v8 w8 o8 u8; obtain ⟨a8, l8, c8, rfl⟩ := row_shape o8; have HO8 : Hid (OwnU w2.heap.size w8 (.slice a8 l8 c8) (P ++ [(f0, f1, f2)])) := o8; have HU8 : Hid (Upd (fun k => w2.heap.size ≤ k) w5 w8) := u8; clear o8 u8)
        go_roundw
        case rel =>
          exact ⟨i, k + 1, P ++ [(f0, f1, f2)], by go_num, by go_num, by omega, by omega, HO8, MrgE.right HG.out HDB.out HSR.out.2 (by rw [HDA.out]; exact fun y hy => by cases hy), HBW5.out.trans (HU8.out.below HBW5.out.size (fun j hj e => by omega))⟩
        case measure => simp [intOf]; omega
      · have HDB : Hid (B.drop k = []) := List.drop_eq_nil_of_le (by rw [HYl.out]; omega)
        have h2' : ¬ (k : Int) < (n2 : Int) := by omega
        have HEP : Hid (l.Perm P) := by
          have h := HG.out.perm
          rw [HDA.out, HDB.out, List.append_nil, List.append_nil] at h
          exact HPL.out.trans h.symm
        go_wp2
        go_ret
        have hcap := own_cap HP.out
        exact ⟨pa, pl, pc, P, rfl, ⟨OwnU.at HP.out, HEP.out, HG.out.srt⟩, by omega, hcap.2.2, HB2.out.trans (HW.out.mono HB2.out.size)⟩
theorem rSorted_any : ∀ (N n : Nat), n ≤ N → ∀ (ad : Option Addr) (c : Nat) (E : List (Int × Int × Int)) (w : World), CuAt w ad n E → n ≤ 1099511627776 → n ≤ c → c ≤ maxLen → Calls Try.prog 36 #[.slice ad n c] w (OrdU E w)
  | 0, n, hN, ad, c, E, w, hA, _, hc, hm => rSorted_small ad n c E w hA (by omega) hc hm
  | N + 1, n, hN, ad, c, E, w, hA, hz, hc, hm => by
    by_cases h2 : n < 2
    · exact rSorted_small ad n c E w hA h2 hc hm
    · obtain ⟨b, off, rfl, _⟩ := hA.lies (by omega)
      refine rSorted_of b off n c (n / 2) E w (by omega) rfl hc hm hz hA.len (fun W hW => ?_) (fun W hW => ?_)
      · exact rSorted_any N (n / 2) (by omega) _ _ _ W ((hA.below hW).take (by omega)) (by omega) (by omega) hm
      · exact rSorted_any N (n - n / 2) (by omega) _ _ _ W ((hA.below hW).drop (by omega)) (by omega) (by omega) (by omega)
end Go.Proofs.Ytakannfkbmnlfaa
