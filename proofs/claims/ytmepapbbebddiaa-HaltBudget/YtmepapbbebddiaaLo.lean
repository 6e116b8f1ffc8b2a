/-
  halt: row.lose, of stops.
-/
import Derived.Test.YtmepapbbebddiaaAd
namespace Go.Proofs.Ytmepapbbebddiaa
open Go Go.Conc Go.RowKit Go.MuLone

theorem lt_of_cell {w : World} {a : Addr} {v : Value} (h : w.cell? a = some v) : a.block < w.heap.size := by
  unfold World.cell? at h
  split at h
  · rename_i heq
    exact (Array.getElem?_eq_some_iff.1 heq).1
  · cases h
theorem row_sh {w : World} {base : Nat} {e : TypeId} {size : Nat} {v : Value} {n : Nat} {xs : List Value} (h : w.ownsRow base e size v n xs) : ∃ a l c, v = .slice a l c := by
  rcases h.2 with ⟨h, _⟩ | ⟨gv, cv, _, h, _⟩
  · exact ⟨_, _, _, h⟩
  · exact ⟨_, _, _, h⟩
theorem methOver (v : Value) (w : World) : (Go.method 243 46 v "spoor/halt.over").run Try.prog w = .ok (38, v) w := by kernel_rfl

theorem filter_both (l : List Nat) (why : Nat → Int) : (l.filter (fun i => decide (why i = 0))).length + (l.filter (fun i => decide (why i ≠ 0))).length = l.length := by
  induction l with
  | nil => rfl
  | cons x l ih =>
    by_cases h : why x = 0 <;> simp [h] at ih ⊢ <;> omega
set_option maxRecDepth 100000 in
set_option maxHeartbeats 400000 in
theorem lose_few (b k : Nat) (c : Array Value) (T : TypeId) (ad : Option Addr) (n cap g : Nat) (w : World) (hb : Blk w b c T) (hv : c[k]? = some (.slice ad n cap)) (hg : c[k + 1]? = some (.int .i64 (g : Int))) (hle : 2 * (g + 1) ≤ n) (hn : n ≤ 140737488355328) :
    Calls Try.prog 60 #[.pointer (some ⟨b, k, none⟩)] w fun e w' => e = .returned (.tuple #[]) ∧ Blk w' b (c.setIfInBounds (k + 1) (.int .i64 ((g : Int) + 1))) T ∧ Upd (fun j => j = b) w w' := by
  have hc := hb.cell k hv
  have hc1 := hb.cell (k + 1) hg
  have hf1 := hb.frozen (k + 1)
  have hb1 := hb.set (k + 1) (.int .i64 ((g : Int) + 1))
  have hd : (w.setCell ⟨b, k + 1, none⟩ (.int .i64 ((g : Int) + 1))).cell? ⟨b, k, none⟩ = some (.slice ad n cap) := (World.cell?_setCell_other w ⟨b, k + 1, none⟩ ⟨b, k, none⟩ _ (by simp)).trans hc
  have hd1 : (w.setCell ⟨b, k + 1, none⟩ (.int .i64 ((g : Int) + 1))).cell? ⟨b, k + 1, none⟩ = some (.int .i64 ((g : Int) + 1)) := World.cell?_setCell_same w ⟨b, k + 1, none⟩ _ hc1
  have e1 : IntKind.i64.wrap ((g : Int) + 1) = (g : Int) + 1 := by rw [IntKind.wrap_i64]; omega
  have e2 : IntKind.i64.wrap (2 * ((g : Int) + 1)) = 2 * ((g : Int) + 1) := by rw [IntKind.wrap_i64]; omega
  have hle' : 2 * ((g : Int) + 1) ≤ (n : Int) := by omega
  have hbx : Blk (w.setCell ⟨b, k + 1, none⟩ (.int .i64 ((g : Int) + 1))).drew b (c.setIfInBounds (k + 1) (.int .i64 ((g : Int) + 1))) T := hb1
  clear hb hb1
  go_enter Try.func60, Try.ntmps60
  go_wp2
  go_region
  go_wp2
  refine bodyPost_ret (results_none rfl _ _ _) rfl ?_
  exact ⟨rfl, hbx, ((Upd.refl (fun j => j = b) w).setCell (p := ⟨b, k + 1, none⟩) (fun _ => rfl) _).drew⟩

set_option maxRecDepth 100000 in
set_option maxHeartbeats 1000000 in
theorem lose_many (base b k : Nat) (c : Array Value) (T : TypeId) (ad : Option Addr) (cap g : Nat) (ids : List Nat) (why : Nat → Int) (w : World) (hb : Blk w b c T) (hT : T ≠ 46) (hv : c[k]? = some (.slice ad ids.length cap)) (hg : c[k + 1]? = some (.int .i64 (g : Int)))
    (hown : w.ownsRow base 46 1 (.slice ad ids.length cap) ids.length (ids.map ptrV)) (hwhy : ∀ i ∈ ids, w.cell? ⟨i, 6, none⟩ = some (.int .i64 (why i))) (hgone : (ids.filter (fun i => decide (why i ≠ 0))).length = g + 1)
    (hle : ids.length < 2 * (g + 1)) (hn : ids.length * 8 ≤ 140737488355328) (hbase : base ≤ w.heap.size) (hbk : b ∉ ids ∨ k + 1 ≠ 6) :
    Calls Try.prog 60 #[.pointer (some ⟨b, k, none⟩)] w fun e w' => e = .returned (.tuple #[]) ∧
      ∃ v', Blk w' b ((c.setIfInBounds k v').setIfInBounds (k + 1) (.int .i64 0)) T ∧ w'.ownsRow base 46 1 v' (ids.filter (fun i => decide (why i = 0))).length ((ids.filter (fun i => decide (why i = 0))).map ptrV) ∧ Upd (fun j => j = b) w w' ∧ (∀ j, v'.ownBlock = some j → w.heap.size ≤ j) := by
  have hc := hb.cell k hv
  have hc1 := hb.cell (k + 1) hg
  have hg' := hg
  have hf1 := hb.frozen (k + 1)
  have hgl : g + 1 ≤ ids.length := by rw [← hgone]; exact List.length_filter_le _ _
  have hal : (ids.filter (fun i => decide (why i = 0))).length + (g + 1) = ids.length := by
    rw [← hgone]
    exact filter_both ids why
  have hb1 := hb.set (k + 1) (.int .i64 ((g : Int) + 1))
  obtain ⟨i0, hi, hz0, hz1, hz2⟩ := info_parts infoPtr
  obtain ⟨W1, hW1⟩ : ∃ W1, w.setCell ⟨b, k + 1, none⟩ (.int .i64 ((g : Int) + 1)) = W1 := ⟨_, rfl⟩
  have hd : W1.cell? ⟨b, k, none⟩ = some (.slice ad ids.length cap) := by rw [← hW1]; exact (World.cell?_setCell_other w ⟨b, k + 1, none⟩ ⟨b, k, none⟩ _ (by simp)).trans hc
  have hd1 : W1.cell? ⟨b, k + 1, none⟩ = some (.int .i64 ((g : Int) + 1)) := by rw [← hW1]; exact World.cell?_setCell_same w ⟨b, k + 1, none⟩ _ hc1
  have hbW : Blk W1 b (c.setIfInBounds (k + 1) (.int .i64 ((g : Int) + 1))) T := by rw [← hW1]; exact hb1
  have hU1 : Upd (fun j => j = b) w W1 := by rw [← hW1]; exact (Upd.refl (fun j => j = b) w).setCell (p := ⟨b, k + 1, none⟩) (fun _ => rfl) _
  have hownW : W1.ownsRow base 46 1 (.slice ad ids.length cap) ids.length (ids.map ptrV) := ownsRow_upd hown hU1 (fun j hj e => ownsRow_ne hown hb hT hj e)
  have hwhyW : ∀ i ∈ ids, W1.cell? ⟨i, 6, none⟩ = some (.int .i64 (why i)) := by
    intro i hi
    rw [← hW1]
    refine (World.cell?_setCell_other w ⟨b, k + 1, none⟩ ⟨i, 6, none⟩ _ ?_).trans (hwhy i hi)
    intro e
    injection e with e1 e2
    rcases hbk with h | h
    · exact h (e1 ▸ hi)
    · exact h e2
  have e1 : IntKind.i64.wrap ((g : Int) + 1) = (g : Int) + 1 := by rw [IntKind.wrap_i64]; omega
  have e2 : IntKind.i64.wrap (2 * ((g : Int) + 1)) = 2 * ((g : Int) + 1) := by rw [IntKind.wrap_i64]; omega
  have e3 : IntKind.i64.wrap ((ids.length : Int) - ((g : Int) + 1)) = (ids.length : Int) - ((g : Int) + 1) := by rw [IntKind.wrap_i64]; omega
  have hle' : ¬ (2 * ((g : Int) + 1) ≤ (ids.length : Int)) := by omega
  obtain ⟨m, hm⟩ : ∃ m : Nat, ids.length = m + (g + 1) := ⟨ids.length - (g + 1), by omega⟩
  have em : ((m : Nat) : Int) = (ids.length : Int) - ((g : Int) + 1) := by omega
  obtain ⟨W2, hmk, ho2, hg2⟩ := run_make_own (P := Try.prog) W1.drew.drew base 25 46 i0 (.pointer none) 1 Try.underlying25 hi hz0 hz1 .i64 .i64 m (by rw [hz2]; omega) (by unfold maxLen; omega) (by have := hU1.size; simp; omega)
  rw [em] at hmk
  have hs12 : W1.heap.size ≤ W2.heap.size := hg2.size
  have hsw1 := hU1.size
  have hs1 : W1.heap.size = w.heap.size := by rw [← hW1]; simp
  obtain ⟨gb, hgb⟩ : ∃ gb, ad = some ⟨gb, 0, none⟩ := by
    rcases hownW.2 with ⟨h, h0⟩ | ⟨gb, cap', cur, h, _⟩
    · omega
    · injection h with h1
      exact ⟨gb, h1⟩
  subst hgb
  have hgbl : gb < w.heap.size := by
    rcases hown.2 with ⟨h, h0⟩ | ⟨gb', cap', cur, h, _, hh, _⟩
    · cases h
    · injection h with h1
      injection h1 with h1
      injection h1 with h1
      rw [h1]; exact lt_of_block hh
  have hcells : ∀ j, j < ids.length → W1.cell? ⟨gb, j, none⟩ = some (ptrV (ids[j]?.getD 0)) := by
    intro j hj
    have := hownW.cells (g := gb) rfl j (ptrV (ids[j]?.getD 0)) (by simp [hj])
    rwa [Addr.add_lit, Nat.zero_add] at this
  have hblt : b < w.heap.size := hb.lt
  have hU2 : Upd (fun q => w.heap.size ≤ q) W1 W2 := ((Upd.refl _ W1).drew.drew).grown hg2 (fun i hi e => by cases e)
  have hbW2 : Blk W2 b (c.setIfInBounds (k + 1) (.int .i64 ((g : Int) + 1))) T := hbW.upd (hU2.block b (by omega) (by omega))
  have hd2 : W2.cell? ⟨b, k, none⟩ = some (.slice (some ⟨gb, 0, none⟩) ids.length cap) := by
    refine hbW2.cell k ?_
    rw [Array.getElem?_setIfInBounds_ne (by omega)]
    exact hv
  have HC : Hid (∀ j, j < ids.length → W1.cell? ⟨gb, j, none⟩ = some (ptrV (ids[j]?.getD 0))) := hcells
  have HB2 : Hid (Blk W2 b (c.setIfInBounds (k + 1) (.int .i64 ((g : Int) + 1))) T) := hbW2
  have HU2 : Hid (Upd (fun q => w.heap.size ≤ q) W1 W2) := hU2
  clear hcells hbW2 hU2
  have HO2 : Hid (W2.ownsRow base 46 1 (.slice (some ⟨W1.heap.size, 0, none⟩) 0 m) 0 []) := ho2
  have HG2 : Hid (W1.drew.drew.grownBy W2 none) := hg2
  have HM : Hid (ids.length = m + (g + 1)) := hm
  clear ho2 hg2 em hm
  have HO : Hid (∀ i ∈ ids, W1.cell? ⟨i, 6, none⟩ = some (.int .i64 (why i))) := hwhyW
  have HB : Hid (Blk W1 b (c.setIfInBounds (k + 1) (.int .i64 ((g : Int) + 1))) T) := hbW
  clear hb hb1 hwhy hwhyW hbW hgone hg
  go_enter Try.func60, Try.ntmps60
  go_wp2
  go_region
  go_wp2
  go_region
  go_wp2
  go_loopw [2, 39] (fun a i wr => ∃ (j : Nat) (vr : Value), a = vr ∧ i = .int .i64 j ∧ j ≤ ids.length ∧ wr.ownsRow base 46 1 vr ((ids.take j).filter (fun i => decide (why i = 0))).length (((ids.take j).filter (fun i => decide (why i = 0))).map ptrV) ∧ Upd (fun q => w.heap.size ≤ q) W2 wr ∧ (∀ q, vr.ownBlock = some q → w.heap.size ≤ q)) (fun _ i _ => ids.length - (intOf i).toNat)
  case atStart => exact ⟨0, _, rfl, rfl, by omega, by rw [← hs1]; exact HO2, Upd.refl _ _, by intro q hq; simp [Value.ownBlock] at hq; omega⟩
  case round =>
    obtain ⟨j, vr, rfl, rfl, hj, hO, hU, hM⟩ := hrel
    have hmt := methOver
    have hsz := hU.size
    by_cases hlt : j < ids.length
    · obtain ⟨x, hx⟩ : ∃ x, ids[j]? = some x := ⟨_, List.getElem?_eq_getElem hlt⟩
      have hxm : x ∈ ids := List.mem_of_getElem? hx
      have hUw : Upd (fun q => w.heap.size ≤ q) W1 wr := Upd.trans (show Upd _ W1 W2 from HU2) hU (fun i _ h => h)
      have hcj : wr.cell? ⟨gb, j, none⟩ = some (ptrV x) := by
        have h1 := (show ∀ j, j < ids.length → W1.cell? ⟨gb, j, none⟩ = some (ptrV (ids[j]?.getD 0)) from HC) j hlt
        rw [hx] at h1
        simp only [Option.getD_some] at h1
        rw [← h1]
        simp only [World.cell?, hUw.block gb (by omega) (by omega)]
      have hx6 : wr.cell? ⟨x, 6, none⟩ = some (.int .i64 (why x)) := by
        have h1 := (show ∀ i ∈ ids, W1.cell? ⟨i, 6, none⟩ = some (.int .i64 (why i)) from HO) x hxm
        have hxl : x < W1.heap.size := lt_of_cell h1
        rw [← h1]
        simp only [World.cell?, hUw.block x hxl (by omega)]
      have htake : ids.take (j + 1) = ids.take j ++ [x] := by rw [List.take_add_one, hx]; rfl
      have hlz : (j : Int) < (ids.length : Int) := by omega
      have HF : Hid (ids.take (j + 1) = ids.take j ++ [x]) := htake
      have HX : Hid (ids[j]? = some x) := hx
      have hfl : ((ids.take j).filter (fun i => decide (why i = 0))).length ≤ j := Nat.le_trans (List.length_filter_le _ _) (by simp; omega)
      clear htake hx
      generalize hK : (ids.take j).filter (fun i => decide (why i = 0)) = K at hO hfl
      have HK : Hid ((ids.take j).filter (fun i => decide (why i = 0)) = K) := hK
      clear hK hlt
      by_cases hy : why x = 0
      · have hdc : decide (why x ≠ 0) = false := by simp [hy]
        go_wp2_with (first
          | (go_at_call 38; refine (over_any x (why x) _ hx6).mono ?_; rintro e w' ⟨rfl, hw⟩; obtain rfl := hw.symm; rw [hdc])
          | (at_builtin; refine wpList_app _ rfl (.tmp 47) (.tmp 49) 25 25 rfl base 46 i0 (.pointer none) 8 Try.underlying25 hi hz0 hz1 hz2 rfl _ _ _ rfl (hO.alloc _) _ 1 [ptrV x] rfl (Src.ofSlice _ Try.underlying25 ⟨wr.heap.size, 0, none⟩ 1 1 _ rfl ?c1 ?c2) ?c3 ?c4 ?c5 ?_))
        case c1 =>
          intro j u hj
          match j, hj with
          | 0, hj => simp at hj; subst hj; simp [Addr.add]
        case c2 => intro u hu; simp at hu; subst hu; rfl
        case c3 => unfold maxLen; omega
        case c4 => omega
        case c5 => simp; omega
        intro v' w2 ho hg' hm
        have u2 : Upd (fun q => w.heap.size ≤ q) W2 w2 := (hU.alloc _).grown hg' (fun i _ e => hM i e)
        obtain ⟨g', cap', rfl⟩ := ownsRow_sl ho
        have hM2 : ∀ q, (Value.slice (some ⟨g', 0, none⟩) (K.length + 1) cap').ownBlock = some q → w.heap.size ≤ q := by
          intro q hq
          rcases hm with m' | ⟨q', m', hq'⟩
          · exact hM q (m'.symm.trans hq)
          · rw [m'] at hq
            injection hq with e
            simp at hq'
            omega
        clear hg' hm
        go_wp2
        go_roundw
        case rel =>
          refine ⟨j + 1, _, rfl, by simp, by omega, ?_, u2, hM2⟩
          rw [show ids.take (j + 1) = ids.take j ++ [x] from HF, List.filter_append, show (ids.take j).filter (fun i => decide (why i = 0)) = K from HK]
          simpa [hy] using ho
        case measure => simp [intOf]; omega
      · have hdc : decide (why x ≠ 0) = true := by simp [hy]
        go_wp2_with (go_at_call 38; refine (over_any x (why x) _ hx6).mono ?_; rintro e w' ⟨rfl, hw⟩; obtain rfl := hw.symm; rw [hdc])
        go_roundw
        case rel =>
          refine ⟨j + 1, _, rfl, by simp, by omega, ?_, hU, hM⟩
          rw [show ids.take (j + 1) = ids.take j ++ [x] from HF, List.filter_append, show (ids.take j).filter (fun i => decide (why i = 0)) = K from HK]
          simpa [hy] using hO
        case measure => simp [intOf]; omega
    · obtain rfl : j = ids.length := by omega
      rw [List.take_length] at hO
      have hbr : Blk wr b (c.setIfInBounds (k + 1) (.int .i64 ((g : Int) + 1))) T := Blk.upd (show Blk W2 b _ T from HB2) (hU.block b (by omega) (by omega))
      have r0 := hbr.cell k (v := .slice (some ⟨gb, 0, none⟩) ids.length cap) (by rw [Array.getElem?_setIfInBounds_ne (by omega)]; exact hv)
      have q0 := hbr.frozen k
      obtain ⟨gv, lv, cv, rfl⟩ := row_sh hO
      have hb3 := hbr.set k (.slice gv lv cv)
      have hnx : c[k + 1]? ≠ none := by
        intro e
        have := hg'
        rw [e] at this
        cases this
      have r1 := hb3.cell (k + 1) (v := .int .i64 ((g : Int) + 1)) (by rw [Array.getElem?_setIfInBounds_ne (by omega), Array.getElem?_setIfInBounds_self_of_lt (by simpa using hnx)])
      have q1 := hb3.frozen (k + 1)
      have hb4 := hb3.set (k + 1) (.int .i64 0)
      have hne : b ≠ gb := fun e => ownsRow_ne hownW (show Blk W1 b _ T from HB) hT (show (Value.slice (some ⟨gb, 0, none⟩) ids.length cap).ownBlock = some gb from rfl) e.symm
      have huf : Upd (fun j => j = b) w ((wr.setCell ⟨b, k, none⟩ (.slice gv lv cv)).setCell ⟨b, k + 1, none⟩ (.int .i64 0)) := by
        have t1 : Upd (fun j => j = b) w wr := (hU1.trans (show Upd _ W1 W2 from HU2) (fun i hi h => by omega)).trans hU (fun i hi h => by omega)
        exact (t1.setCell (p := ⟨b, k, none⟩) (fun _ => rfl) _).setCell (p := ⟨b, k + 1, none⟩) (fun _ => rfl) _
      have hof : ((wr.setCell ⟨b, k, none⟩ (.slice gv lv cv)).setCell ⟨b, k + 1, none⟩ (.int .i64 0)).ownsRow base 46 1 (.slice gv lv cv) (ids.filter (fun i => decide (why i = 0))).length ((ids.filter (fun i => decide (why i = 0))).map ptrV) := by
        refine ownsRow_upd (S := fun j => j = b) hO (((Upd.refl (fun j => j = b) wr).setCell (p := ⟨b, k, none⟩) (fun _ => rfl) _).setCell (p := ⟨b, k + 1, none⟩) (fun _ => rfl) _) ?_
        intro q hq e
        have := hM q hq
        omega
      have HF : Hid (Blk ((wr.setCell ⟨b, k, none⟩ (.slice gv lv cv)).setCell ⟨b, k + 1, none⟩ (.int .i64 0)) b ((c.setIfInBounds k (.slice gv lv cv)).setIfInBounds (k + 1) (.int .i64 0)) T) := by
        have e : ((c.setIfInBounds (k + 1) (Value.int .i64 ((g : Int) + 1))).setIfInBounds k (.slice gv lv cv)).setIfInBounds (k + 1) (.int .i64 0) = (c.setIfInBounds k (.slice gv lv cv)).setIfInBounds (k + 1) (.int .i64 0) := by
          rw [Array.setIfInBounds_comm _ _ (by omega), Array.setIfInBounds_setIfInBounds]
          exact Array.setIfInBounds_comm _ _ (by omega)
        rw [← e]
        exact hb4
      clear hb3 hb4 hbr hnx
      go_wp2
      go_end0
      exact ⟨rfl, _, HF, hof, huf, hM⟩

theorem set_self {c : Array Value} {k : Nat} {v : Value} (h : c[k]? = some v) : c.setIfInBounds k v = c := by
  obtain ⟨h1, h2⟩ := Array.getElem?_eq_some_iff.1 h
  apply Array.ext
  · simp
  · intro i i1 i2
    by_cases hi : k = i
    · subst hi
      rw [Array.getElem_setIfInBounds_self]
      exact h2.symm
    · rw [Array.getElem_setIfInBounds_ne i2 hi]

/-- lose, either way. -/
theorem lose_any (base b k : Nat) (c : Array Value) (T : TypeId) (v : Value) (g : Nat) (ids : List Nat) (why : Nat → Int) (w : World) (hb : Blk w b c T) (hT : T ≠ 46) (hv : c[k]? = some v) (hg : c[k + 1]? = some (.int .i64 (g : Int)))
    (hown : w.ownsRow base 46 1 v ids.length (ids.map ptrV)) (hwhy : ∀ i ∈ ids, w.cell? ⟨i, 6, none⟩ = some (.int .i64 (why i))) (hgone : (ids.filter (fun i => decide (why i ≠ 0))).length = g + 1)
    (hn : ids.length * 8 ≤ 140737488355328) (hbase : base ≤ w.heap.size) (hbk : b ∉ ids ∨ k + 1 ≠ 6) :
    Calls Try.prog 60 #[.pointer (some ⟨b, k, none⟩)] w fun e w' => e = .returned (.tuple #[]) ∧
      ∃ (v' : Value) (ids' : List Nat) (g' : Nat), Blk w' b ((c.setIfInBounds k v').setIfInBounds (k + 1) (.int .i64 (g' : Int))) T ∧ w'.ownsRow base 46 1 v' ids'.length (ids'.map ptrV) ∧ Upd (fun j => j = b) w w' ∧
        ((v' = v ∧ ids' = ids ∧ g' = g + 1) ∨ (ids' = ids.filter (fun i => decide (why i = 0)) ∧ g' = 0 ∧ ∀ j, v'.ownBlock = some j → w.heap.size ≤ j)) := by
  obtain ⟨ad, l, cap, rfl⟩ := row_sh hown
  obtain rfl : l = ids.length := by
    rcases hown.2 with ⟨h, h0⟩ | ⟨g', cap', cur, h, _⟩
    · injection h with _ h2; omega
    · injection h with _ h2
  by_cases hle : 2 * (g + 1) ≤ ids.length
  · refine (lose_few b k c T ad ids.length cap g w hb hv hg hle (by omega)).mono ?_
    rintro e w' ⟨rfl, hB, hU⟩
    refine ⟨rfl, .slice ad ids.length cap, ids, g + 1, ?_, ?_, hU, Or.inl ⟨rfl, rfl, rfl⟩⟩
    · rw [set_self hv]
      exact hB
    · exact ownsRow_upd hown hU (fun j hj e => ownsRow_ne hown hb hT hj e)
  · refine (lose_many base b k c T ad cap g ids why w hb hT hv hg hown hwhy hgone (by omega) hn hbase hbk).mono ?_
    rintro e w' ⟨rfl, v', hB, hO, hU, hF⟩
    exact ⟨rfl, v', _, 0, hB, hO, hU, Or.inr ⟨rfl, rfl, hF⟩⟩
end Go.Proofs.Ytmepapbbebddiaa
