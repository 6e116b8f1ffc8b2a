/-
  Layer 9 (store): newcomers.
-/
import Derived.Test.YtfhpocgiekkboaaDoorSD
namespace Go.Proofs.YtfhpocgiekkboaaDoor
open Go.RowKit Go.Maps Go.WideMaps
set_option maxRecDepth 100000

def unV : Value := .agg #[]
def newS (X : List It) (E : List (Nm × Value)) (a : Sp) : List (Nm × Value) := if (findX X (nmS a)).isSome = true then E else setE E (nmS a) unV
def newE (X : List It) (Y : List Sp) : List (Nm × Value) := Y.foldl (newS X) []
theorem new_snoc (X : List It) (Y : List Sp) (k : Nat) (hk : k < Y.length) : newE X (Y.take (k + 1)) = newS X (newE X (Y.take k)) Y[k] := by
  unfold newE
  rw [List.take_succ_eq_append_getElem hk, List.foldl_append]
  rfl
theorem mem_setE {E : List (Nm × Value)} {n : Nm} {v : Value} {e : Nm × Value} (h : e ∈ setE E n v) : e.1 = n ∨ e ∈ E := by
  unfold setE at h
  split at h
  · obtain ⟨y, hy, rfl⟩ := List.mem_map.1 h
    by_cases hx : y.1 = n
    · rw [if_pos hx]; exact Or.inl rfl
    · rw [if_neg hx]; exact Or.inr hy
  · rcases List.mem_append.1 h with h | h
    · exact Or.inr h
    · simp at h; rw [h]; exact Or.inl rfl
theorem setE_has (E : List (Nm × Value)) (n : Nm) (v : Value) : ∃ e, e ∈ setE E n v ∧ e.1 = n := by
  have h := look_set E n n v
  rw [if_pos rfl] at h
  unfold lookE at h
  obtain ⟨e, he, _⟩ := Option.map_eq_some_iff.1 h
  exact ⟨e, List.mem_of_find?_eq_some he, by simpa using List.find?_some he⟩
theorem setE_kept {E : List (Nm × Value)} {n : Nm} {v : Value} {e : Nm × Value} (h : e ∈ E) : ∃ x, x ∈ setE E n v ∧ x.1 = e.1 := by
  by_cases he : e.1 = n
  · rw [he]; exact setE_has E n v
  · refine ⟨e, ?_, rfl⟩
    unfold setE
    split
    · exact List.mem_map.2 ⟨e, h, by rw [if_neg he]⟩
    · exact List.mem_append_left _ h
/-- New names on the way: k spans seen. -/
structure NwE (w wr : World) (MN : Tc → Nat) (TN : List Tc) (E : List (Nm × Value)) (k : Nat) : Prop where
  below : Below w.heap.size w wr
  nest : Nest wr w.heap.size MN TN E
  ok : ∀ e, e ∈ E → NmOk e.1
  low : ∀ t, t ∈ TN → w.heap.size ≤ MN t
  tl : TN.length ≤ k
  el : E.length ≤ k
def NwF (TN : List Tc) (E : List (Nm × Value)) : Prop := ∀ t, t ∈ TN → ∃ e, e ∈ E ∧ e.1.1 = t
theorem NwE.step {w wr W : World} {MN : Tc → Nat} {TN : List Tc} {E : List (Nm × Value)} {k : Nat} (h : NwE w wr MN TN E k) (hb : Below wr.heap.size wr W) : NwE w W MN TN E k :=
  ⟨h.below.trans (hb.mono h.below.size), h.nest.upd (S := fun _ => False) (Upd.ofBelow hb (fun k h1 h2 => by omega)) (fun h => h) (fun _ _ h => h), h.ok, h.low, h.tl, h.el⟩
theorem NwE.up {w wr : World} {MN : Tc → Nat} {TN : List Tc} {E : List (Nm × Value)} {k : Nat} (h : NwE w wr MN TN E k) : NwE w wr MN TN E (k + 1) :=
  ⟨h.below, h.nest, h.ok, h.low, Nat.le_succ_of_le h.tl, Nat.le_succ_of_le h.el⟩
theorem NwE.put {w W : World} {MN : Tc → Nat} {TN : List Tc} {E : List (Nm × Value)} {k : Nat} (h : NwE w W MN TN E (k + 1)) (n : Nm) (hn : NmOk n) (hin : n.1 ∈ TN) (hE : E.length ≤ k) (hk : k < 1000000000000000) :
    ∃ w', (Instr.mapUpdate 74 (.map (some (MN n.1))) (.int .u64 n.2) unV).run Tryd.prog W = .ok () w' ∧ NwE w w' MN TN (setE E n unV) (k + 1) ∧ w'.heap.size = W.heap.size ∧ Upd (fun k => k = MN n.1) W w' := by
  obtain ⟨w', hr, n', u, hs⟩ := h.nest.set Tryd.underlying74 n.1 n.2 hn.2 hin unV (by unfold maxLen; omega)
  refine ⟨w', hr, ⟨h.below.trans (u.below h.below.size (fun k hk e => by have := h.low _ hin; omega)), n', fun e he => ?_, h.low, h.tl, ?_⟩, hs, u⟩
  · rcases mem_setE he with he | he
    · rw [he]; exact hn
    · exact h.ok e he
  · rw [len_set]
    split <;> omega
theorem NwE.add {w W : World} {MN : Tc → Nat} {TN : List Tc} {E : List (Nm × Value)} {k : Nat} (h : NwE w W MN TN E k) (t : Tc) (ht : TcOk t) (hno : t ∉ TN) (hk : k < 1000000000000000) :
    ∃ (w' : World) (MN' : Tc → Nat), (Instr.mapUpdate 56 (.map (some w.heap.size)) (tcV t) (.map (some W.heap.size))).run Tryd.prog ((W.alloc (.map #[] 0)).drew) = .ok () w' ∧ NwE w w' MN' (TN ++ [t]) E (k + 1) ∧ Upd (fun k => k = w.heap.size) W w' := by
  obtain ⟨w', hr, n', u, hs⟩ := h.nest.add Tryd.underlying56 t ht hno (by have := h.tl; unfold maxLen; omega)
  refine ⟨w', _, hr, ⟨h.below.trans (u.below h.below.size (fun k hk e => by omega)), n', h.ok, fun x hx => ?_, ?_, Nat.le_succ_of_le h.el⟩, u⟩
  · by_cases e : x = t
    · simp only [if_pos e]; exact h.below.size
    · simp only [if_neg e]; exact h.low x (by simpa [e] using hx)
  · have := h.tl
    simp
    exact this
theorem NwF.put {TN : List Tc} {E : List (Nm × Value)} (n : Nm) (v : Value) (h : ∀ t, t ∈ TN → t = n.1 ∨ ∃ e, e ∈ E ∧ e.1.1 = t) : NwF TN (setE E n v) := by
  intro t ht
  rcases h t ht with rfl | ⟨e, he, rfl⟩
  · obtain ⟨x, hx, ex⟩ := setE_has E n v
    exact ⟨x, hx, by rw [ex]⟩
  · obtain ⟨x, hx, ex⟩ := setE_kept (n := n) (v := v) he
    exact ⟨x, hx, by rw [ex]⟩
theorem zM (w : World) : (zeroValue 74).run Tryd.prog w = .ok (.map none) w := by kernel_rfl
set_option maxHeartbeats 4000000 in
theorem newcomers_any (s b : Nat) (M : Tc → Nat) (T : List Tc) (X : List It) (ad : Option Addr) (cp : Nat) (Y : List Sp) (P : Nat → Pl) (w : World) (h : StoreAt w s b M T X) (hY : SpsAt w ad Y.length Y P) (hF : ∀ a ∈ Y, a.Fits) (hn : Y.length < 1000000000000000) :
    Calls Tryd.prog 15 #[.pointer (some ⟨s, 0, none⟩), .slice ad Y.length cp] w fun e w' => e = .returned (.map (some w.heap.size)) ∧ ∃ MN TN, NwE w w' MN TN (newE X Y) Y.length ∧ NwF TN (newE X Y) := by
  have hmm := @run_makeMap Tryd.prog
  have N0 : NwE w (w.alloc (.map #[] 0)) (fun _ => 0) [] (newE X (Y.take 0)) 0 := ⟨(Below.refl _ _).alloc (Nat.le_refl _) _, Nest.made w, fun e he => by simp [newE] at he, fun t ht => by simp at ht, Nat.le_refl _, by simp [newE]⟩
  have HN0 : Hid _ := N0
  have HX : Hid (SpsAt w ad Y.length Y P) := hY
  have HS : Hid (∀ k (hk : k < Y.length), Y[k].Fits) := fun k hk => hF _ (List.getElem_mem hk)
  have HH : Hid _ := h
  obtain ⟨N, hN⟩ : ∃ N, Y.length = N := ⟨_, rfl⟩
  rw [hN] at hn HX ⊢
  have HN : Hid (Y.length = N) := hN
  clear hN hY hF N0 h
  go_enter Tryd.func15, Tryd.ntmps15
  go_wp2
  go_loopw [13] (fun b wr => ∃ (k : Nat) (MN : Tc → Nat) (TN : List Tc), b = .int .i64 k ∧ k ≤ N ∧ NwE w wr MN TN (newE X (Y.take k)) k ∧ NwF TN (newE X (Y.take k))) (fun b _ => N - (intOf b).toNat)
  case atStart => exact ⟨0, _, _, rfl, by omega, HN0.out, fun t ht => by simp at ht⟩
  case round =>
    obtain ⟨k, MN, TN, rfl, hk, hR, hRf⟩ := hrel
    have hNN := HN.out
    by_cases hlt : k < N
    · obtain ⟨b1, o1, rfl, hc1⟩ := (HX.out.below hR.below).lies (by omega)
      have hfit := HS.out k (by omega)
      have hsn := new_snoc X Y k (by omega)
      obtain ⟨a, ha⟩ : ∃ a, Y[k] = a := ⟨_, rfl⟩
      obtain ⟨p, hp⟩ : ∃ p, P k = p := ⟨_, rfl⟩
      rw [ha] at hfit hsn
      have hcx : ∀ j u, (spC a p)[j]? = some u → wr.cell? ⟨b1, o1 + k * 13 + j, none⟩ = some u := fun j u hu => hc1 k (by omega) j u (by rw [ha, hp]; exact hu)
      have g0 : wr.cell? ⟨b1, o1 + k * 13, none⟩ = some (.int .u64 a.hi) := hcx 0 _ rfl
      have g1 := hcx 1 _ rfl
      have g2 := hcx 2 _ rfl
      have g3 := hcx 3 _ rfl
      have g4 := hcx 4 _ rfl
      have g5 := hcx 5 _ rfl
      have g6 := hcx 6 _ rfl
      have g7 := hcx 7 _ rfl
      have g8 := hcx 8 _ rfl
      have g9 := hcx 9 _ rfl
      have g10 := hcx 10 _ rfl
      have g11 := hcx 11 _ rfl
      have g12 := hcx 12 _ rfl
      have hS := HH.out.below hR.below
      have B1 : Below wr.heap.size wr ((wr.alloc (.cells (spC a p) 39)).drew) := ((Below.refl _ _).alloc (Nat.le_refl _) _).drew
      have B2 : ∀ o, Below wr.heap.size wr (((wr.alloc (.cells (spC a p) 39)).alloc o).drew) := fun o => (((Below.refl _ _).alloc (Nat.le_refl _) _).alloc (by simp) _).drew
      have LL : ∀ W, Below wr.heap.size wr W → (Instr.lookup 46 (.map (some b)) (tcV (nmS a).1) false).run Tryd.prog W = .ok (inV M T (nmS a).1) W ∧ (Instr.lookup 52 (inV M T (nmS a).1) (.int .u64 (nmS a).2) true).run Tryd.prog W = .ok (.tuple #[((findX X (nmS a)).map (fun x => spV x.a x.p)).getD zSp, .bool (findX X (nmS a)).isSome]) W ∧ W.cell? ⟨s, 0, none⟩ = some (.map (some b)) := fun W hb => by
        have l1 := (hS.below hb).nest.look Tryd.underlying46 (zT _) (nmS a).1 (nmS_ok hfit).1
        have l2 := (hS.below hb).nest.look2 Tryd.underlying52 (zS _) (nmS a).1 (nmS a).2 (nmS_ok hfit).2
        rw [show (((nmS a).1, (nmS a).2) : Nm) = nmS a from rfl, look_ent, Option.isSome_map] at l2
        exact ⟨l1, l2, blk_cell (hS.below hb).block 0 rfl⟩
      obtain ⟨L1, L2, c1⟩ := LL _ B1
      obtain ⟨L3, L4, c2⟩ := LL _ (B2 (.cells zC 39))
      have BX := heap_alloc_new wr (.cells (spC a p) 39)
      have BY := fun o => (Below.heap_alloc (wr.alloc (.cells (spC a p) 39)) o wr.heap.size (by simp)).trans BX
      have bx0 := blk_cell BX 0 rfl
      have bx1 := blk_cell BX 1 rfl
      have bx2 := blk_cell BX 2 rfl
      have by0 := blk_cell (BY (.cells zC 39)) 0 rfl
      have by1 := blk_cell (BY (.cells zC 39)) 1 rfl
      have by2 := blk_cell (BY (.cells zC 39)) 2 rfl
      have lb1 : b1 < wr.heap.size := World.block_lt_of_cell? wr _ g0
      have hnm := nmS_ok hfit
      have j1 : (k : Int) < (N : Int) := by omega
      have j2 : (N : Int) < 1000000000000000 := by omega
      have HB2 : Hid _ := B2
      have HR : Hid _ := hR
      have HRf : Hid _ := hRf
      have HSN : Hid _ := hsn
      have HK : Hid (k < N) := hlt
      have HNM : Hid _ := hnm
      have HBY : Hid _ := BY
      clear hc1 hcx hNN ha hp hS LL B1 BX hR hRf hsn hfit HX HS HH HN0 hlt hn hnm B2 BY
      cases hfx : findX X (nmS a) with
      | some y =>
        rw [hfx] at L2 L4
        have HFX : Hid _ := hfx
        clear hfx
        simp only [Option.map, Option.getD, Option.isSome] at L2 L4
        generalize inV M T (nmS a).1 = iv at *
        simp only [tcV, nmS] at L1 L2 L3 L4
        unfold zC spV spC at *
        go_wp2
        go_region
        all_goals
          go_wp2
          go_roundw
          case rel =>
            refine ⟨k + 1, MN, TN, by simp, HK.out, ?_, ?_⟩
            · rw [HSN.out, newS, HFX.out]
              exact (HR.out.step (HB2.out _)).up
            · rw [HSN.out, newS, HFX.out]
              exact HRf.out
          case measure => simp [intOf]; have := HK.out; omega
      | none =>
        rw [hfx] at L2 L4
        have HFX : Hid _ := hfx
        clear hfx
        simp only [Option.map, Option.getD, Option.isSome] at L2 L4
        by_cases hin : (nmS a).1 ∈ TN
        · have lk7 := (HR.out.step (HB2.out (.cells zC 39))).nest.look Tryd.underlying56 (zM _) (nmS a).1 HNM.out.1
          have lk9 := (HR.out.step (HB2.out (.cells zC 39)).drew).nest.look Tryd.underlying56 (zM _) (nmS a).1 HNM.out.1
          rw [inV, if_pos hin] at lk7 lk9
          obtain ⟨w10, hrun, N10, _, _⟩ := (HR.out.step (HB2.out (.cells zC 39)).drew).up.put (nmS a) HNM.out hin HR.out.el (by have := HK.out; omega)
          have EQ := fun W => eqU (MN (nmS a).1) W
          have H10 : Hid _ := N10
          clear N10 hin
          generalize MN (nmS a).1 = mm at *
          generalize inV M T (nmS a).1 = iv at *
          simp only [tcV, nmS] at L1 L2 L3 L4 lk7 lk9 hrun
          unfold unV at hrun
          unfold zSp zC spC at *
          go_wp2
          go_region
          all_goals
            go_wp2
            go_region
            go_wp2
            go_roundw
            case rel =>
              refine ⟨k + 1, MN, TN, by simp, HK.out, ?_, ?_⟩
              · rw [HSN.out, newS, HFX.out]
                exact H10.out
              · rw [HSN.out, newS, HFX.out]
                exact NwF.put (nmS a) unV (fun t ht => Or.inr (HRf.out t ht))
            case measure => simp [intOf]; have := HK.out; omega
        · have lk7 := (HR.out.step (HB2.out (.cells zC 39))).nest.look Tryd.underlying56 (zM _) (nmS a).1 HNM.out.1
          rw [inV, if_neg hin] at lk7
          have B3 : Below wr.heap.size wr ((wr.alloc (.cells (spC a p) 39)).alloc (.cells zC 39)) := ((Below.refl _ _).alloc (Nat.le_refl _) _).alloc (by simp) _
          have sz : ((wr.alloc (.cells (spC a p) 39)).alloc (.cells zC 39)).heap.size = wr.heap.size + 2 := by rw [World.size_alloc, World.size_alloc]
          obtain ⟨V, MN', hmk, NV, UV⟩ := (HR.out.step B3).add (nmS a).1 HNM.out.1 hin (by have := HK.out; omega)
          rw [sz] at hmk
          have hnw := HR.out.nest.lt.1
          have BV := (UV.block wr.heap.size (by rw [sz]; omega) (by omega)).trans (HBY.out (.cells zC 39))
          have bv0 := blk_cell BV 0 rfl
          have bv1 := blk_cell BV 1 rfl
          have bv2 := blk_cell BV 2 rfl
          have NVd := NV.step (Below.refl _ V).drew
          have hin' : (nmS a).1 ∈ TN ++ [(nmS a).1] := by simp
          have lk9 := NVd.nest.look Tryd.underlying56 (zM _) (nmS a).1 HNM.out.1
          rw [inV, if_pos hin'] at lk9
          obtain ⟨w10, hrun, N10, _, _⟩ := NVd.put (nmS a) HNM.out hin' HR.out.el (by have := HK.out; omega)
          have EQ := eqU0
          have H10 : Hid _ := N10
          clear N10 hin hin' NVd NV UV BV B3 sz hnw
          generalize MN' (nmS a).1 = mm at *
          generalize inV M T (nmS a).1 = iv at *
          simp only [tcV, nmS] at L1 L2 L3 L4 lk7 lk9 hrun hmk
          unfold unV at hrun
          unfold zSp zC spC at *
          go_wp2
          go_region
          all_goals
            go_wp2
            go_region
            go_wp2
            go_roundw
            case rel =>
              refine ⟨k + 1, MN', TN ++ [(nmS a).1], by simp, HK.out, ?_, ?_⟩
              · rw [HSN.out, newS, HFX.out]
                exact H10.out
              · rw [HSN.out, newS, HFX.out]
                refine NwF.put (nmS a) unV (fun t ht => ?_)
                rcases List.mem_append.1 ht with ht | ht
                · exact Or.inr (HRf.out t ht)
                · exact Or.inl (by simpa using ht)
            case measure => simp [intOf]; have := HK.out; omega
    · obtain rfl : k = N := by omega
      rw [show Y.take k = Y from List.take_of_length_le (by omega)] at hR hRf
      have HR : Hid _ := hR
      have HRf : Hid _ := hRf
      clear hR hRf hNN HX HS HH HN0
      go_wp2
      go_returns
      exact ⟨rfl, MN, TN, HR.out, HRf.out⟩
end Go.Proofs.YtfhpocgiekkboaaDoor
