/-
  Merged: SbO, SbP.
-/
import Derived.Test.YtpcfchbiohbcoaaDoorSbN
import Derived.Test.YtpcfchbiohbcoaaDoorSkAq
namespace Go.Proofs.YtpcfchbiohbcoaaDoor
open Go Go.RowKit
set_option maxRecDepth 100000

theorem updCell (w : World) (g k : Nat) (v : Value) : Upd (fun j => j = g) w (w.setCell ⟨g, k, none⟩ v) := (Upd.refl (fun j => j = g) w).setCell (p := ⟨g, k, none⟩) (fun _ => rfl) _
/-- Two rows of one's own, apart. -/
structure TrcI (w wr : World) (v1 v2 : Value) (m : Nat) (T : List Tr) : Prop where
  bel : Below w.heap.size w wr
  r1 : ∃ xs, wr.ownsRow w.heap.size 33 2 v1 m xs
  r2 : OwnTr w.heap.size wr v2 T
  ap : ∀ k, v1.ownBlock = some k → v2.ownBlock ≠ some k
theorem TrcI.upd {w wr w' : World} {v1 v1' v2 : Value} {m m' : Nat} {T : List Tr} {xs : List Value} (h : TrcI w wr v1 v2 m T) (hu : Upd (fun k => v1.ownBlock = some k) wr w') (ho : w'.ownsRow w.heap.size 33 2 v1' m' xs) (hm : Moved wr v1 v1') : TrcI w w' v1' v2 m' T := by
  refine ⟨h.bel.trans (hu.below h.bel.size (fun k hk hs => ?_)), ⟨xs, ho⟩, ownsRow_upd h.r2 hu (fun k hk hs => h.ap k hs hk), fun k hk e => ?_⟩
  · obtain ⟨_, h1⟩ := h.r1
    have := (own_block h1 hs).1
    omega
  · rcases hm with m | ⟨g, m, hg⟩
    · exact h.ap k (m.symm.trans hk) e
    · have e1 : g = k := Option.some.inj (m.symm.trans hk)
      obtain ⟨_, cs, fz, hh⟩ := own_block h.r2 e
      have := lt_of_block hh
      omega
theorem TrcI.below {w wr w' : World} {v1 v2 : Value} {m : Nat} {T : List Tr} (h : TrcI w wr v1 v2 m T) (hb : Below wr.heap.size wr w') : TrcI w w' v1 v2 m T := by
  have hu : Upd (fun _ => False) wr w' := Upd.ofBelow hb (fun k h1 h2 => by omega)
  obtain ⟨xs, h1⟩ := h.r1
  exact ⟨h.bel.trans (hb.mono h.bel.size), ⟨xs, ownsRow_upd h1 hu (fun _ _ h => h)⟩, ownsRow_upd h.r2 hu (fun _ _ h => h), h.ap⟩
/-- A trace is written into a row of one's own. -/
theorem row_put {base g n c i : Nat} {w : World} {xs : List Value} (ho : w.ownsRow base 33 2 (.slice (some ⟨g, 0, none⟩) n c) n xs) (hi : i < n) (x y : Value) :
    (∃ ys, ((w.setCell ⟨g, i * 2, none⟩ x).setCell ⟨g, i * 2 + 1, none⟩ y).ownsRow base 33 2 (.slice (some ⟨g, 0, none⟩) n c) n ys) ∧ Upd (fun j => j = g) w ((w.setCell ⟨g, i * 2, none⟩ x).setCell ⟨g, i * 2 + 1, none⟩ y) ∧ (∃ u, w.cell? ⟨g, i * 2, none⟩ = some u) ∧ (∃ u, w.cell? ⟨g, i * 2 + 1, none⟩ = some u) ∧ w.frozen? ⟨g, i * 2, none⟩ = false ∧ w.frozen? ⟨g, i * 2 + 1, none⟩ = false := by
  have o4 := sk.ownsRow_set (sk.ownsRow_set ho (i * 2) x) (i * 2 + 1) y
  obtain ⟨hx1, ⟨e, he⟩ | ⟨g', cap, cur, e, hbg, hg, q1, q2, q3, q4⟩⟩ := ho
  · omega
  · simp only [Value.slice.injEq, Option.some.injEq, Addr.mk.injEq] at e
    obtain ⟨⟨rfl, -, -⟩, -, rfl⟩ := e
    have hB : Blk w g cur 33 := hg
    have hsz : ∀ j, j < 2 → ∃ u, w.cell? ⟨g, i * 2 + j, none⟩ = some u := fun j hj => ⟨cur[i * 2 + j]'(by omega), hB.cell (i * 2 + j) (by rw [Array.getElem?_eq_getElem])⟩
    exact ⟨⟨_, o4⟩, (updCell w g _ _).trans (updCell _ g _ _) (fun _ _ h => h), hsz 0 (by omega), hsz 1 (by omega), hB.frozen _, hB.frozen _⟩
theorem shape_own {base e s n : Nat} {w : World} {v : Value} {xs : List Value} (h : w.ownsRow base e s v n xs) : ∃ ao c, v = .slice ao n c := by
  rcases h.2 with ⟨e, h0⟩ | ⟨g, cap, cur, e, _⟩
  · exact ⟨none, 0, by rw [e, h0]⟩
  · exact ⟨_, _, e⟩
theorem tr_start {w w1 w2 : World} {a1 a2 : Option Addr} {n c1 c2 : Nat} {T : List Tr} (hn : T.length = n) (b1 : Below w.heap.size w w1) (o1 : OwnTr w.heap.size w1 (.slice a1 n c1) T) (b2 : Below w1.heap.size w1 w2) (o2 : OwnTr w1.heap.size w2 (.slice a2 n c2) T) : TrcI w w2 (.slice a1 n c1) (.slice a2 n c2) n T := by
  have hu : Upd (fun _ => False) w1 w2 := Upd.ofBelow b2 (fun k h1 h2 => by omega)
  have e1 : w1.ownsRow w.heap.size 33 2 (.slice a1 n c1) n (T.flatMap trC) := by have h := o1; unfold OwnTr at h; rwa [hn] at h
  refine ⟨b1.trans (b2.mono b1.size), ⟨_, ownsRow_upd e1 hu (fun _ _ h => h)⟩, OwnTr.low o2 b1.size, fun k h1 h2 => ?_⟩
  obtain ⟨_, cs, fz, hh⟩ := own_block o1 h1
  have h3 := lt_of_block hh
  have h4 := (own_block o2 h2).1
  omega
theorem bv7 : bvI 7#64 = 7 := by decide +kernel
theorem bv00 : bvI 0#64 = 0 := by decide +kernel
set_option maxHeartbeats 8000000 in
theorem tracesL_any (f base most : Nat) (T : List Tr) (wa : Option Addr) (n cw : Nat) (w : World) (hF : FewAt w f base most T) (hW : TrAt w wa T) (hn : T.length = n) :
    Calls Tryd.prog 8 #[.pointer (some ⟨f, 0, none⟩), .slice wa n cw] w fun e w' => e = .returned (.bool true) ∧ Below w.heap.size w w' := by
  have T1 := tracesO_any f base most T w hF
  have hn1 : n ≤ 1000 := by have := hF.len; have := hF.most; omega
  have hnI : (n : Int) ≤ 1000 := by omega
  have HF : Hid (∀ W, Below w.heap.size w W → FewAt W f base most T) := fun W hb => by
    obtain ⟨ao, co, ko, oo⟩ := hF.row
    exact ⟨⟨ao, co, ko.below hb ko.lt, ownsRow_upd oo (Upd.ofBelow (S := fun _ => False) hb (fun k h1 h2 => by omega)) (fun _ _ h => h)⟩, hF.rise, hF.len, hF.most, Nat.le_trans hF.low hb.size⟩
  have HW : Hid (TrAt w wa T ∧ T.length = n) := ⟨hW, hn⟩
  have HS : Hid (∀ (W : World) (a : Option Addr) (c : Nat), Below w.heap.size w W → TrAt W a T → Calls Tryd.prog 21 #[.slice a n c, .slice wa n cw] W fun e w' => e = .returned (.bool true) ∧ Below W.heap.size W w') := fun W a c hb h1 => by
    have := sameT_any a wa n n c cw T T W h1 (hW.below hb) hn hn hn1 hn1
    rw [show decide (T = T) = true from decide_eq_true rfl] at this
    exact this
  clear hF hW hn
  go_enter Tryd.func8, Tryd.ntmps8
  go_upto_region 4 with (first
    | (go_at_call 20; (with_reducible refine T1.mono ?_); clear T1; rintro e w1 ⟨v1, rfl, o1, b1⟩; have T2 := tracesO_any f base most T w1 (HF.out w1 b1))
    | (go_at_call 20; (with_reducible refine T2.mono ?_); clear T2; rintro e w2 ⟨v2, rfl, o2, b2⟩; obtain ⟨a1, c1, rfl⟩ := o1.slice; obtain ⟨a2, c2, rfl⟩ := o2.slice; rw [HW.out.2] at o1 o2 ⊢; have HI0 : TrcI w w2 (.slice a1 n c1) (.slice a2 n c2) n T := tr_start HW.out.2 b1 o1 b2 o2; have S1 := HS.out w2 a1 c1 HI0.bel (o1.at.below b2); clear o1 o2 b1 b2)
    | (go_at_call 21; (with_reducible refine S1.mono ?_); clear S1; rintro e w3 ⟨rfl, b3⟩; have HI1 : Hid (TrcI w w3 (.slice a1 n c1) (.slice a2 n c2) n T) := HI0.below b3; clear HI0 b3))
  go_wp2
  go_loopw [8] (fun z wr => ∃ i : Nat, z = .int .i64 i ∧ i ≤ n ∧ Hid (TrcI w wr (.slice a1 n c1) (.slice a2 n c2) n T)) (fun z _ => n - (intOf z).toNat)
  case atStart => exact ⟨0, rfl, by omega, HI1⟩
  case round =>
    obtain ⟨i, rfl, hin, HI⟩ := hrel
    clear HI1
    by_cases hlt : i < n
    · have hlt' : (i : Int) < (n : Int) := by omega
      obtain ⟨xs, o1⟩ := HI.out.r1
      obtain ⟨g, cap, e, _, _, _, _⟩ := own_some o1 (by omega)
      simp only [Value.slice.injEq] at e
      obtain ⟨rfl, -, rfl⟩ := e
      obtain ⟨⟨ys, o2⟩, u2, ⟨x0, d0⟩, ⟨x1, d1⟩, f0, f1⟩ := row_put o1 hlt (.int .u64 7) (.int .u64 7)
      have HN : Hid (TrcI w ((wr.setCell ⟨g, i * 2, none⟩ (.int .u64 7)).setCell ⟨g, i * 2 + 1, none⟩ (.int .u64 7)) (.slice (some ⟨g, 0, none⟩) n c1) (.slice a2 n c2) n T) := HI.out.upd (u2.mono (fun k _ h => by rw [h]; rfl)) o2 (Moved.refl _ _)
      clear HI o1 o2 u2
      go_wp2
      go_roundw
      case rel => exact ⟨i + 1, by go_num, by omega, HN⟩
      case measure => (simp [intOf]; omega)
    · have hlt' : ¬ (i : Int) < (n : Int) := by omega
      clear hin hlt
      go_wp2
      go_loopw [5, 9] (fun v z wr => ∃ (j : Nat), z = .int .i64 j ∧ j ≤ 20 ∧ Hid (TrcI w wr v (.slice a2 n c2) (n + j) T)) (fun _ z _ => 20 - (intOf z).toNat)
      case atStart => exact ⟨0, rfl, by omega, HI⟩
      case round =>
        obtain ⟨j, rfl, hj, HJ⟩ := hrel
        clear HI
        by_cases hlt2 : j < 20
        · have hlt2' : (j : Int) < 20 := by omega
          obtain ⟨xs, o1⟩ := HJ.out.r1
          obtain ⟨i0, hi0, hz0, hz1, hz2⟩ := info_parts infoTr
          have S2 := src_tr wr.heap.size 1 (7#64, 0#64) (wr.alloc (.cells #[.int .u64 (bvI 7#64), .int .u64 (bvI 0#64)] 33)) (Blk.new _ _ _)
          have O2 : (wr.alloc (.cells #[.int .u64 (bvI 7#64), .int .u64 (bvI 0#64)] 33)).ownsRow w.heap.size 33 2 u5 (n + j) xs := ownsRow_upd o1 ((Upd.refl (fun _ => False) wr).alloc _) (fun _ _ h => h)
          rw [bv7, bv00] at S2 O2
          have hbs : w.heap.size ≤ (wr.alloc (.cells #[.int .u64 7, .int .u64 0] 33)).heap.size := by have := HJ.out.bel.size; rw [World.size_alloc]; omega
          have HA : Hid (TrcI w (wr.alloc (.cells #[.int .u64 7, .int .u64 0] 33)) u5 (.slice a2 n c2) (n + j) T) := HJ.out.below ((Below.refl _ _).alloc (Nat.le_refl _) _)
          clear HJ o1
          go_wp2_with (at_builtin; refine wpList_appW (wr.alloc (.cells #[.int .u64 7, .int .u64 0] 33)) rfl (.tmp 33) (.tmp 35) 38 38 rfl w.heap.size 33 i0 _ 2 16 Tryd.underlying38 hi0 hz0 hz1 hz2 rfl _ (n + j) xs rfl O2 _ 1 _ rfl S2 (by unfold maxLen; omega) (by omega) hbs ?_; clear S2 O2; intro v3 w3 o3 g3 m3; have HN : Hid (TrcI w w3 v3 (.slice a2 n c2) (n + (j + 1)) T) := HA.out.upd ((Upd.refl _ _).grown g3 (fun k _ e => e)) o3 m3; clear o3 g3 m3 HA)
          go_roundw
          case rel => exact ⟨j + 1, by go_num, by omega, HN⟩
          case measure => (simp [intOf]; omega)
        · have hlt2' : ¬ (j : Int) < 20 := by omega
          have S2 := HS.out wr a2 c2 HJ.out.bel HJ.out.r2.at
          have HB : Hid (Below w.heap.size w wr ∧ wr.ownsRow w.heap.size 33 2 (.slice a2 n c2) n (T.flatMap trC)) := ⟨HJ.out.bel, by have h := HJ.out.r2; unfold OwnTr at h; rwa [HW.out.2] at h⟩
          clear HJ hj hlt2
          go_upto_region 13 with (go_at_call 21; (with_reducible refine S2.mono ?_); clear S2; rintro e w4 ⟨rfl, b4⟩)
          have HB4 : Hid (Below w.heap.size w w4 ∧ ∃ ys, w4.ownsRow w.heap.size 33 2 (.slice a2 n c2) n ys) := ⟨HB.out.1.trans (b4.mono HB.out.1.size), _, ownsRow_upd HB.out.2 (Upd.ofBelow (S := fun _ => False) b4 (fun k h1 h2 => by omega)) (fun _ _ h => h)⟩
          clear b4 HB
          go_wp2
          go_loopw [11] (fun z wr => ∃ i : Nat, z = .int .i64 i ∧ i ≤ n ∧ Hid (Below w.heap.size w wr ∧ ∃ ys, wr.ownsRow w.heap.size 33 2 (.slice a2 n c2) n ys)) (fun z _ => n - (intOf z).toNat)
          case atStart => exact ⟨0, rfl, by omega, HB4⟩
          case round =>
            obtain ⟨i, rfl, hin, HI⟩ := hrel
            clear HB4
            by_cases hlt : i < n
            · have hlt3 : (i : Int) < (n : Int) := by omega
              obtain ⟨xs, o1⟩ := HI.out.2
              obtain ⟨g, cap, e, _, _, hgb, _⟩ := own_some o1 (by omega)
              simp only [Value.slice.injEq] at e
              obtain ⟨rfl, -, rfl⟩ := e
              obtain ⟨o2, u2, ⟨x0, d0⟩, ⟨x1, d1⟩, f0, f1⟩ := row_put o1 hlt (.int .u64 8) (.int .u64 8)
              have HN : Hid (Below w.heap.size w ((wr.setCell ⟨g, i * 2, none⟩ (.int .u64 8)).setCell ⟨g, i * 2 + 1, none⟩ (.int .u64 8)) ∧ ∃ ys, ((wr.setCell ⟨g, i * 2, none⟩ (.int .u64 8)).setCell ⟨g, i * 2 + 1, none⟩ (.int .u64 8)).ownsRow w.heap.size 33 2 (.slice (some ⟨g, 0, none⟩) n c2) n ys) := ⟨HI.out.1.trans (u2.below HI.out.1.size (fun k h1 h2 => by omega)), o2⟩
              clear HI o1 o2 u2
              go_wp2
              go_roundw
              case rel => exact ⟨i + 1, by go_num, by omega, HN⟩
              case measure => (simp [intOf]; omega)
            · have hlt3 : ¬ (i : Int) < (n : Int) := by omega
              have HE : Hid (Below w.heap.size w wr) := HI.out.1
              clear HI
              go_wp2
              go_ret
              exact ⟨rfl, HE.out⟩
end Go.Proofs.YtpcfchbiohbcoaaDoor

namespace Go.Proofs.YtpcfchbiohbcoaaDoor
open Go Go.RowKit
set_option maxRecDepth 100000

theorem TopF.self {most : Nat} {T : List Tr} (hr : RiseF T) (hl : T.length ≤ most) : TopF most T T := ⟨(rise_pw T).1 hr, fun _ hx => hx, hl, fun _ hs hn => absurd hs hn⟩
section
variable {w W : World} {K M F : Nat → Nat} {TT : Nat → List Tr} {m : Nat}
theorem FamG.putP (h : FamG w W K M F TT m) (i : Nat) (hi : i < m) (hK : K i = 64) (t : Tr) :
    Calls Tryd.prog 15 #[.pointer (some ⟨F i, 0, none⟩), .agg #[.int .u64 (bvI t.1), .int .u64 (bvI t.2)]] W fun e W' => ∃ b T', e = .returned (.bool b) ∧ FamG w W' K M F (upG TT i T') m ∧ InF (M i) (TT i) t T' b ∧ Upd (TurnS (K i) W (F i) (M i) (TT i).length) W W' := by
  have hf := h.few i hi
  rw [hK] at hf
  refine (putF_any (F i) w.heap.size (M i) (TT i) t W hf.at).mono ?_
  rintro e W' ⟨b, T', rfl, h1, h2, h3⟩
  obtain ⟨r1, r2⟩ := h1.few hf.rise hf.len
  have h3' : Upd (TurnS (K i) W (F i) (M i) (TT i).length) W W' := by rw [hK]; exact h3
  exact ⟨b, T', rfl, h.turn hi (by rw [hK]; exact h2) h3' r1 r2, h1, h3'⟩
theorem FamG.putR (h : FamG w W K M F TT m) (i : Nat) (hi : i < m) (hK : K i = 66) (t : Tr) :
    Calls Tryd.prog 17 #[.pointer (some ⟨F i, 0, none⟩), .agg #[.int .u64 (bvI t.1), .int .u64 (bvI t.2)]] W fun e W' => ∃ b T', e = .returned (.bool b) ∧ FamG w W' K M F (upG TT i T') m ∧ InF (M i) (TT i) t T' b ∧ Upd (TurnS (K i) W (F i) (M i) (TT i).length) W W' := by
  have hf := h.few i hi
  rw [hK] at hf
  refine (rPut_any (F i) w.heap.size (M i) (TT i) t W hf).mono ?_
  rintro e W' ⟨b, T', rfl, h1, h2, h3, _⟩
  obtain ⟨r1, r2⟩ := h1.few hf.rise hf.len
  have h3' : Upd (TurnS (K i) W (F i) (M i) (TT i).length) W W' := by rw [hK]; exact h3
  exact ⟨b, T', rfl, h.turn hi (by rw [hK]; exact h2) h3' r1 r2, h1, h3'⟩
theorem FamG.mergeP (h : FamG w W K M F TT m) (i j : Nat) (hi : i < m) (hj : j < m) (hij : i ≠ j) (hKi : K i = 64) (hKj : K j = 64) (hM : M j = M i) :
    Calls Tryd.prog 18 #[.pointer (some ⟨F i, 0, none⟩), .pointer (some ⟨F j, 0, none⟩)] W fun e W' => ∃ T', e = .returned (.int .i64 0) ∧ FamG w W' K M F (upG TT i T') m ∧ TopF (M i) ((TT j).reverse ++ TT i) T' := by
  have hf := h.few i hi
  have ho := h.few j hj
  have hap := h.ap i j hi hj hij
  rw [hKi] at hf
  rw [hKj, hM] at ho
  rw [hKi, hKj, hM] at hap
  refine (mergeF_any (F i) (F j) w.heap.size w.heap.size (M i) (TT i) (TT j) W hf.at ho.at (h.ne i j hi hj hij) hap).mono ?_
  rintro e W' ⟨ao, co, T', rfl, hG⟩
  obtain ⟨af, cf, kf, of⟩ := hG.few.row
  refine ⟨T', rfl, h.turn hi (by rw [hKi]; exact ⟨af, cf, kf, of, hG.mv af cf kf⟩) (by rw [hKi]; exact hG.upd) hG.few.rise hG.few.len, ?_⟩
  have := hG.top _ (TopF.self hf.rise hf.len)
  rwa [List.take_of_length_le (Nat.le_refl _)] at this
theorem FamG.mergeR (h : FamG w W K M F TT m) (i j : Nat) (hi : i < m) (hj : j < m) (hij : i ≠ j) (hKi : K i = 66) (hKj : K j = 66) (hM : M j = M i) :
    Calls Tryd.prog 19 #[.pointer (some ⟨F i, 0, none⟩), .pointer (some ⟨F j, 0, none⟩)] W fun e W' => ∃ T', e = .returned (.int .i64 0) ∧ FamG w W' K M F (upG TT i T') m ∧ TopF (M i) ((TT j).reverse ++ TT i) T' := by
  have hf := h.few i hi
  have ho := h.few j hj
  have hap := h.ap i j hi hj hij
  rw [hKi] at hf
  rw [hKj, hM] at ho
  rw [hKi, hKj, hM] at hap
  refine (rMerge_any (F i) (F j) w.heap.size w.heap.size (M i) (TT i) (TT j) W hf ho (h.ne i j hi hj hij) hap).mono ?_
  rintro e W' ⟨ao, co, T', rfl, hG⟩
  obtain ⟨af, cf, kf, of⟩ := hG.few.row
  refine ⟨T', rfl, h.turn hi (by rw [hKi]; exact ⟨af, cf, kf, of, hG.mv af cf kf⟩) (by rw [hKi]; exact hG.upd) hG.few.rise hG.few.len, ?_⟩
  have := hG.top _ (TopF.self hf.rise hf.len)
  rwa [List.take_of_length_le (Nat.le_refl _)] at this
theorem FamG.rowlt (h : FamG w W K M F TT m) {i : Nat} (hi : i < m) : F i < W.heap.size ∧ ∀ a c, Blk W (F i) #[.int .i64 (M i), .slice a (TT i).length c] (K i) → ∀ x, a = some x → x.block < W.heap.size := by
  obtain ⟨ao, co, ko, oo⟩ := (h.few i hi).row
  refine ⟨ko.lt, fun a c hk x e => ?_⟩
  have e2 := few_uniqT hk ko
  simp only [Value.slice.injEq] at e2
  obtain ⟨rfl, -, rfl⟩ := e2
  exact (row_lt oo e).1
end
/-- Who is who. -/
structure QuadP (K M : Nat → Nat) (a b c d : Nat) : Prop where
  lt : a < 4 ∧ b < 4 ∧ c < 4 ∧ d < 4
  ne : a ≠ b ∧ c ≠ d ∧ a ≠ c ∧ a ≠ d ∧ b ≠ c ∧ b ≠ d
  k : K a = 64 ∧ K b = 64 ∧ K c = 66 ∧ K d = 66
  m : M c = M a ∧ M d = M b
/-- Both sides hold the same. -/
def Alike (TT : Nat → List Tr) (a b c d : Nat) : Prop := TT c = TT a ∧ TT d = TT b
theorem Alike.both {TT : Nat → List Tr} {a b c d : Nat} {K M : Nat → Nat} (q : QuadP K M a b c d) (h : Alike TT a b c d) (T : List Tr) : Alike (upG (upG TT a T) c T) a b c d := by
  obtain ⟨h1, h2, h3, h4, h5, h6⟩ := q.ne
  refine ⟨?_, ?_⟩
  · rw [upG_at, upG_ne _ _ h3, upG_at]
  · rw [upG_ne _ _ (Ne.symm h2), upG_ne _ _ (Ne.symm h4), upG_ne _ _ h5, upG_ne _ _ (Ne.symm h1)]
    exact h.2
end Go.Proofs.YtpcfchbiohbcoaaDoor
