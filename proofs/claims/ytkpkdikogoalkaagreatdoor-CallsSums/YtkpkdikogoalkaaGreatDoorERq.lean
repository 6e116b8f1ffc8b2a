/-
  Merged: ER, ES.
-/
import Derived.Test.YtkpkdikogoalkaaGreatDoorDAq
import Derived.Test.YtkpkdikogoalkaaGreatDoorCHq
import Derived.Test.YtkpkdikogoalkaaGreatDoorCEq
import Derived.Test.YtkpkdikogoalkaaGreatDoorSlJq
import Derived.Test.YtkpkdikogoalkaaGreatDoorCCq
import Derived.Test.YtkpkdikogoalkaaGreatDoorCKq
namespace Go.Proofs.YtkpkdikogoalkaaGreatDoor.sk
open Go Go.RowKit
set_option maxRecDepth 100000

theorem BarAt.range {w : World} {ad : Option Addr} {n : Nat} {l : List (Int × Int)} (h : BarAt w ad n l) (hn : 0 < n) : ∃ b off, ad = some ⟨b, off, none⟩ ∧ ∀ i (hi : i < l.length), w.rangeAt b (off + i * 2) (barC l[i]) := by
  obtain ⟨b, off, e, hc⟩ := h.lies hn
  refine ⟨b, off, e, fun i hi j v hv => ?_⟩
  obtain ⟨c0, c1⟩ := hc i hi
  match j, hv with
  | 0, hv => simp [barC] at hv; subst hv; exact c0
  | 1, hv => simp [barC] at hv; subst hv; exact c1
  | j + 2, hv => simp [barC] at hv
/-- A row of bars that may be written. -/
structure RowB (base : Nat) (w : World) (g n : Nat) (L : List (Int × Int)) : Prop where
  len : L.length = n
  cells : ∀ i (_ : i < L.length), w.rangeAt g (i * 2) (barC L[i])
  low : base ≤ g
  room : w.there g 0 (n * 2)
  lt : g < w.heap.size
theorem RowB.upd {S : Nat → Prop} {base : Nat} {w w' : World} {g n : Nat} {L : List (Int × Int)} (h : RowB base w g n L) (hu : Upd S w w') (hS : ¬ S g) : RowB base w' g n L :=
  ⟨h.len, fun i hi => range_updS (h.cells i hi) hu hS, h.low, fun j hj => by
    obtain ⟨h1, h2⟩ := h.room j hj
    obtain ⟨v, hv⟩ := Option.isSome_iff_exists.1 h1
    have hb := hu.block g h.lt hS
    refine ⟨by rw [cell_upd hu hv hS]; rfl, ?_⟩
    simp only [World.frozen?, hb] at h2 ⊢
    exact h2, Nat.lt_of_lt_of_le h.lt hu.size⟩
theorem RowB.below {base : Nat} {w w' : World} {g n : Nat} {L : List (Int × Int)} (h : RowB base w g n L) (hb : Below w.heap.size w w') : RowB base w' g n L :=
  h.upd (Upd.ofBelow (S := fun _ => False) hb (fun k hk hk' => by omega)) (fun h => h)
theorem RowB.drew {base : Nat} {w : World} {g n : Nat} {L : List (Int × Int)} (h : RowB base w g n L) : RowB base w.drew g n L := h.below ((Below.refl _ _).drew)
theorem RowB.weak {base base' : Nat} {w : World} {g n : Nat} {L : List (Int × Int)} (h : RowB base w g n L) (hb : base' ≤ base) : RowB base' w g n L := ⟨h.len, h.cells, Nat.le_trans hb h.low, h.room, h.lt⟩
theorem RowB.front {base : Nat} {w : World} {g n : Nat} {L : List (Int × Int)} (h : RowB base w g n L) (m : Nat) (hm : m ≤ n) : BarAt w (some ⟨g, 0, none⟩) m (L.take m) := by
  refine ⟨by rw [List.length_take, h.len]; omega, fun _ => ⟨g, 0, rfl, fun i hi => ?_⟩⟩
  rw [List.length_take] at hi
  have hr := h.cells i (by omega)
  rw [List.getElem_take, Nat.zero_add]
  exact ⟨by have := hr 0 _ rfl; rw [Nat.add_zero] at this; exact this, hr 1 _ rfl⟩
theorem RowB.all {base : Nat} {w : World} {g n : Nat} {L : List (Int × Int)} (h : RowB base w g n L) : BarAt w (some ⟨g, 0, none⟩) n L := by
  have := h.front n (Nat.le_refl _)
  rw [List.take_of_length_le (by rw [h.len]; exact Nat.le_refl _)] at this
  exact this
theorem barL_len (b : Int × Int) : (barC b).length = 2 := rfl
theorem barL_one (b : Int × Int) : ∀ v ∈ barC b, v.oneCell' = true := by
  intro v hv
  simp [barC] at hv
  rcases hv with rfl | rfl <;> rfl
theorem barF_get (l : List (Int × Int)) (i : Nat) (h : i < l.length) (j : Nat) (hj : j < 2) : (l.flatMap barC)[i * 2 + j]? = (barC l[i])[j]? := by
  obtain ⟨a, b⟩ := barC_at l i h
  match j, hj with
  | 0, _ => rw [Nat.add_zero, a]; rfl
  | 1, _ => rw [b]; rfl
theorem RowB.ofBlk {base : Nat} {w : World} {g : Nat} {L : List (Int × Int)} (h : Blk w g (L.flatMap barC).toArray 50) (hb : base ≤ g) : RowB base w g L.length L := by
  refine ⟨rfl, fun i hi j v hv => ?_, hb, Blk.there h 0 (L.length * 2) (by rw [barC_len]; omega), h.lt⟩
  have hj : j < 2 := (List.getElem?_eq_some_iff.1 hv).1
  refine h.cell _ ?_
  rw [List.getElem?_toArray, barF_get L i hi j hj]
  exact hv
/-- A bar is written into a row. -/
theorem wpList_stB {ops : Array Oper} {rest : List Oper} {op : Oper} {a : Act} {w : World} {Q : Exit → Act → World → Prop} (hgd : op.guard = none) (x y : Operand) (ho : op.op = .store 50 x y) (base g i n : Nat) (L : List (Int × Int)) (c : Int × Int) (hR : RowB base w g n L) (hi : i < L.length) (hx : a.eval x = .pointer (some ⟨g, i * 2, none⟩)) (hy : a.eval y = .agg (barC c).toArray)
    (hK : ∀ w', RowB base w' g n (L.set i c) → Upd (fun k => k = g) w w' → wpList Tryz.prog ops Q rest (a.put op.dst undef) w') : wpList Tryz.prog ops Q (op :: rest) a w := by
  have hln := hR.len
  have ht2 : w.there g (i * 2) 2 := fun j hj => by
    have := hR.room (i * 2 + j) (by omega)
    rw [Nat.zero_add] at this
    exact this
  refine wpList_store_mid hgd 50 x y ho g (i * 2) (barC c).toArray hx hy (by rw [List.size_toArray, barL_len]; exact ht2) (by rw [List.size_toArray, barL_len]; kernel_rfl) (all_oneCell_toArray (barL_one c)) ?_
  refine hK _ ⟨by rw [List.length_set]; exact hln, fun j hj => ?_, hR.low, World.there_setCells hR.room _ _ _, Nat.lt_of_lt_of_le hR.lt (setCells_upd _ _ _ _).size⟩ (setCells_upd _ _ _ _)
  rw [List.length_set] at hj
  by_cases hji : j = i
  · subst hji
    rw [List.getElem_set_self]
    exact World.rangeAt_setCells_same w g (j * 2) (barC c) (by rw [barL_len]; exact ht2)
  · rw [List.getElem_set_ne (fun h => hji h.symm)]
    refine World.rangeAt_setCells_apart (hR.cells j hj) g (i * 2) (barC c) (Or.inr ?_)
    rw [barL_len, barL_len]
    omega
/-- A bar's count is turned. -/
theorem RowB.setK {base : Nat} {w : World} {g n : Nat} {L : List (Int × Int)} (h : RowB base w g n L) (i : Nat) (hi : i < L.length) (t : Int) :
    RowB base (w.setCell ⟨g, i * 2 + 1, none⟩ (.int .u64 t)) g n (L.set i (L[i].1, t)) ∧ Upd (fun k => k = g) w (w.setCell ⟨g, i * 2 + 1, none⟩ (.int .u64 t)) := by
  have hln := h.len
  have hu : Upd (fun k => k = g) w (w.setCells g (i * 2 + 1) [.int .u64 t]) := setCells_upd _ _ _ _
  refine ⟨?_, hu⟩
  show RowB base (w.setCells g (i * 2 + 1) [.int .u64 t]) g n _
  have ht1 : w.there g (i * 2 + 1) 1 := fun j hj => by
    have := h.room (i * 2 + 1 + j) (by omega)
    rw [Nat.zero_add] at this
    exact this
  refine ⟨by rw [List.length_set]; exact hln, fun j hj => ?_, h.low, World.there_setCells h.room _ _ _, Nat.lt_of_lt_of_le h.lt hu.size⟩
  rw [List.length_set] at hj
  have hr := h.cells j hj
  by_cases hji : j = i
  · subst hji
    rw [List.getElem_set_self]
    have hs := World.rangeAt_setCells_same w g (j * 2 + 1) [.int .u64 t] ht1
    intro r v hv
    match r, hv with
    | 0, hv =>
      have h1 : w.rangeAt g (j * 2) [v] := fun q u hq => by
        match q, hq with
        | 0, hq =>
          simp at hq
          subst hq
          exact hr 0 v hv
      have h2 := World.rangeAt_setCells_apart h1 g (j * 2 + 1) [.int .u64 t] (Or.inr (by simp))
      exact h2 0 v rfl
    | 1, hv =>
      have hv2 : Value.int .u64 t = v := by simpa [barC] using hv
      subst hv2
      exact hs 0 _ rfl
    | r + 2, hv => simp [barC] at hv
  · rw [List.getElem_set_ne (fun h => hji h.symm)]
    refine World.rangeAt_setCells_apart hr g (i * 2 + 1) [.int .u64 t] (Or.inr ?_)
    rw [barL_len]
    simp
    omega
theorem BarAt.cells {w : World} {ad : Option Addr} {n : Nat} {l : List (Int × Int)} (h : BarAt w ad n l) : ∀ x, ad = some x → ∀ j v, (l.flatMap barC)[j]? = some v → w.cell? (x.add j) = some v := by
  intro x hx j v hj
  have hjl : j < l.length * 2 := by
    rw [← barC_len]
    exact (List.getElem?_eq_some_iff.mp hj).1
  obtain ⟨b, off, e, hc⟩ := h.range (by have := h.len; omega)
  rw [hx] at e
  injection e with e
  subst e
  rw [Addr.add_lit]
  have e : j = j / 2 * 2 + j % 2 := by omega
  have h1 := barF_get l (j / 2) (by omega) (j % 2) (by omega)
  rw [← e, hj] at h1
  have h2 := hc (j / 2) (by omega) (j % 2) v h1.symm
  rw [Nat.add_assoc, ← e] at h2
  exact h2
theorem made_bar (n : Nat) : (madeCells (#[.int .i64 0, .int .u64 0] : Array Value) (n * 2)).toList = (List.replicate n ((0, 0) : Int × Int)).flatMap barC := by
  refine List.ext_getElem? fun j => ?_
  rcases Nat.lt_or_ge j (n * 2) with hj | hj
  · have e : j = j / 2 * 2 + j % 2 := by omega
    have h1 := barF_get (List.replicate n ((0, 0) : Int × Int)) (j / 2) (by simp; omega) (j % 2) (by omega)
    rw [← e] at h1
    rw [h1, List.getElem_replicate]
    have h5 : j % 2 < 2 := by omega
    simp [madeCells, hj]
    generalize j % 2 = r at *
    match r, h5 with
    | 0, _ => rfl
    | 1, _ => rfl
  · rw [List.getElem?_eq_none (by simp [size_madeCells]; omega), List.getElem?_eq_none (by rw [barC_len]; simp; omega)]
theorem neq_bar (x y : Int × Int) (W : World) : (binOp .neq 50 (.agg (barC x).toArray) (.agg (barC y).toArray)).run Tryz.prog W = .ok (.bool (!decide (x = y))) W := by
  obtain ⟨a, b⟩ := x
  obtain ⟨a', b'⟩ := y
  show (binOp .neq 50 (.agg #[.int .i64 a, .int .u64 b]) (.agg #[.int .i64 a', .int .u64 b'])).run Tryz.prog W = _
  rw [run_neqS (eqI_bar 9998 _ _ _ _ W)]
  congr 4
  simp only [Prod.mk.injEq]
/-- The mark behind bars. -/
def markB (i : Nat) : Int × Int := (900 + (i : Int), 0)
set_option maxHeartbeats 4000000 in
theorem stayB_any (aa ba : Option Addr) (n m ca cb : Nat) (a b : List (Int × Int)) (w : World) (hA : BarAt w aa n a) (hB : BarAt w ba m b) (hz : n ≤ 9000000000000000000)
    (hX : ∀ i (h : i < a.length), (∃ h' : i < b.length, a[i] = b[i]) ∨ (b.length ≤ i ∧ a[i] = markB i)) :
    Calls Tryz.prog 22 #[.slice aa n ca, .slice ba m cb] w fun e w' => e = .returned (.bool true) ∧ Below w.heap.size w w' := by
  have HLA : Hid (a.length = n) := hA.len
  have HLB : Hid (b.length = m) := hB.len
  have HA : Hid _ := hA
  have HB : Hid _ := hB
  have HX : Hid _ := hX
  clear hA hB hX
  go_enter Tryz.func22, Tryz.ntmps22
  go_wp2
  go_loopw [5] (fun t wr => ∃ i : Nat, t = .int .i64 i ∧ i ≤ n ∧ Hid (Below w.heap.size w wr)) (fun t _ => n - (intOf t).toNat)
  case atStart => exact ⟨0, rfl, by omega, Below.refl _ _⟩
  case round =>
    obtain ⟨i, rfl, hi, HW⟩ := hrel
    by_cases hlt : i < n
    · obtain ⟨xb, xo, rfl, hca⟩ := (HA.out.below HW.out).range (by omega)
      have hia : i < a.length := by rw [HLA.out]; exact hlt
      have RA : Hid (wr.rangeAt xb (xo + i * 2) (barC a[i])) := hca i hia
      have hlt' : (i : Int) < (n : Int) := by omega
      rcases HX.out i hia with ⟨hib, e⟩ | ⟨hib, e⟩
      · obtain ⟨yb, yo, rfl, hcb⟩ := (HB.out.below HW.out).range (by have := HLB.out; omega)
        have RB : Hid (wr.rangeAt yb (yo + i * 2) (barC b[i])) := hcb i hib
        rw [e] at RA
        generalize b[i] = x at *
        have him : (i : Int) < (m : Int) := by have := HLB.out; omega
        have hge : ¬ (i : Int) ≥ (m : Int) := by omega
        have NQ := neq_bar x x
        rw [show (!decide (x = x)) = false by simp] at NQ
        clear hca hcb hia hib e
        go_wp2
        refine wp_region_held (S := fun W => W.rangeAt xb (xo + i * 2) (barC x) ∧ W.rangeAt yb (yo + i * 2) (barC x)) (by kernel_rfl) ?_
        change wpAnyH _ _ _ _ _ _ _ _ (World.drew _)
        have hS : wr.drew.rangeAt xb (xo + i * 2) (barC x) ∧ wr.drew.rangeAt yb (yo + i * 2) (barC x) := ⟨RA.out, RB.out⟩
        refine takeC (i := 0) (v := .int .i64 (i : Int)) rfl (by kernel_rfl) (by kernel_rfl) (by kernel_rfl) (fun _ _ _ h => h) (Or.inl ⟨by rfl, fun W hW => by go_simp⟩) hS ?_
        simp only [Act.put, List.setIfInBounds_toArray, List.set_cons_zero, List.set_cons_succ]
        refine takeC (i := 1) (v := .slice (some ⟨yb, yo, none⟩) m cb) rfl (by kernel_rfl) (by kernel_rfl) (by kernel_rfl) (fun _ _ _ h => h) (Or.inl ⟨by rfl, fun W hW => by go_simp⟩) hS ?_
        simp only [Act.put, List.setIfInBounds_toArray, List.set_cons_zero, List.set_cons_succ]
        refine takeC (i := 2) (v := .int .i64 (m : Int)) rfl (by kernel_rfl) (by kernel_rfl) (by kernel_rfl) (fun _ _ _ h => h) (Or.inl ⟨by rfl, fun W hW => by go_simp⟩) hS ?_
        simp only [Act.put, List.setIfInBounds_toArray, List.set_cons_zero, List.set_cons_succ]
        refine takeC (i := 3) (v := .bool true) rfl (by kernel_rfl) (by kernel_rfl) (by kernel_rfl) (fun _ _ _ h => h) (Or.inl ⟨by rfl, fun W hW => by (go_simp) <;> omega⟩) hS ?_
        simp only [Act.put, List.setIfInBounds_toArray, List.set_cons_zero, List.set_cons_succ]
        refine takeC (i := 4) (v := .bool true) rfl (by kernel_rfl) (by kernel_rfl) (by kernel_rfl) (fun _ _ _ h => h) (Or.inl ⟨by rfl, fun W hW => by go_simp⟩) hS ?_
        simp only [Act.put, List.setIfInBounds_toArray, List.set_cons_zero, List.set_cons_succ]
        refine takeC (i := 5) (v := .slice (some ⟨xb, xo, none⟩) n ca) rfl (by kernel_rfl) (by kernel_rfl) (by kernel_rfl) (fun _ _ _ h => h) (Or.inl ⟨by rfl, fun W hW => by go_simp⟩) hS ?_
        simp only [Act.put, List.setIfInBounds_toArray, List.set_cons_zero, List.set_cons_succ]
        refine takeC (i := 6) (v := .int .i64 (i : Int)) rfl (by kernel_rfl) (by kernel_rfl) (by kernel_rfl) (fun _ _ _ h => h) (Or.inl ⟨by rfl, fun W hW => by go_simp⟩) hS ?_
        simp only [Act.put, List.setIfInBounds_toArray, List.set_cons_zero, List.set_cons_succ]
        refine takeC (i := 7) (v := .pointer (some ⟨xb, xo + i * 2, none⟩)) rfl (by kernel_rfl) (by kernel_rfl) (by kernel_rfl) (fun _ _ _ h => h) (Or.inl ⟨by rfl, fun W hW => by go_simp⟩) hS ?_
        simp only [Act.put, List.setIfInBounds_toArray, List.set_cons_zero, List.set_cons_succ]
        refine takeC (i := 8) (v := .agg (barC x).toArray) rfl (by kernel_rfl) (by kernel_rfl) (by kernel_rfl) (fun _ _ _ h => h) (yieldsIf_load_mid (by rfl) 50 _ rfl xb (xo + i * 2) rfl (barC x) _ (fun W hW => hW.1) Tryz.underlying50 rfl (by kernel_rfl)) hS ?_
        simp only [Act.put, List.setIfInBounds_toArray, List.set_cons_zero, List.set_cons_succ]
        refine takeC (i := 9) (v := .slice (some ⟨yb, yo, none⟩) m cb) rfl (by kernel_rfl) (by kernel_rfl) (by kernel_rfl) (fun _ _ _ h => h) (Or.inl ⟨by rfl, fun W hW => by go_simp⟩) hS ?_
        simp only [Act.put, List.setIfInBounds_toArray, List.set_cons_zero, List.set_cons_succ]
        refine takeC (i := 10) (v := .int .i64 (i : Int)) rfl (by kernel_rfl) (by kernel_rfl) (by kernel_rfl) (fun _ _ _ h => h) (Or.inl ⟨by rfl, fun W hW => by go_simp⟩) hS ?_
        simp only [Act.put, List.setIfInBounds_toArray, List.set_cons_zero, List.set_cons_succ]
        refine takeC (i := 11) (v := .pointer (some ⟨yb, yo + i * 2, none⟩)) rfl (by kernel_rfl) (by kernel_rfl) (by kernel_rfl) (fun _ _ _ h => h) (Or.inl ⟨by rfl, fun W hW => by go_simp⟩) hS ?_
        simp only [Act.put, List.setIfInBounds_toArray, List.set_cons_zero, List.set_cons_succ]
        refine takeC (i := 12) (v := .agg (barC x).toArray) rfl (by kernel_rfl) (by kernel_rfl) (by kernel_rfl) (fun _ _ _ h => h) (yieldsIf_load_mid (by rfl) 50 _ rfl yb (yo + i * 2) rfl (barC x) _ (fun W hW => hW.2) Tryz.underlying50 rfl (by kernel_rfl)) hS ?_
        simp only [Act.put, List.setIfInBounds_toArray, List.set_cons_zero, List.set_cons_succ]
        refine takeC (i := 13) (v := .bool false) rfl (by kernel_rfl) (by kernel_rfl) (by kernel_rfl) (fun _ _ _ h => h) (Or.inl ⟨by rfl, fun W hW => by go_simp⟩) hS ?_
        simp only [Act.put, List.setIfInBounds_toArray, List.set_cons_zero, List.set_cons_succ]
        refine takeC (i := 14) (v := .bool false) rfl (by kernel_rfl) (by kernel_rfl) (by kernel_rfl) (fun _ _ _ h => h) (Or.inl ⟨by rfl, fun W hW => by go_simp⟩) hS ?_
        simp only [Act.put, List.setIfInBounds_toArray, List.set_cons_zero, List.set_cons_succ]
        refine takeC (i := 15) (v := .bool false) rfl (by kernel_rfl) (by kernel_rfl) (by kernel_rfl) (fun _ _ _ h => h) (Or.inl ⟨by rfl, fun W hW => by go_simp⟩) hS ?_
        simp only [Act.put, List.setIfInBounds_toArray, List.set_cons_zero, List.set_cons_succ]
        refine takeC (i := 16) (v := .int .i64 (i : Int)) rfl (by kernel_rfl) (by kernel_rfl) (by kernel_rfl) (fun _ _ _ h => h) (Or.inl ⟨by rfl, fun W hW => by go_simp⟩) hS ?_
        simp only [Act.put, List.setIfInBounds_toArray, List.set_cons_zero, List.set_cons_succ]
        refine takeC (i := 17) (v := .slice (some ⟨yb, yo, none⟩) m cb) rfl (by kernel_rfl) (by kernel_rfl) (by kernel_rfl) (fun _ _ _ h => h) (Or.inl ⟨by rfl, fun W hW => by go_simp⟩) hS ?_
        simp only [Act.put, List.setIfInBounds_toArray, List.set_cons_zero, List.set_cons_succ]
        refine takeC (i := 18) (v := .int .i64 (m : Int)) rfl (by kernel_rfl) (by kernel_rfl) (by kernel_rfl) (fun _ _ _ h => h) (Or.inl ⟨by rfl, fun W hW => by go_simp⟩) hS ?_
        simp only [Act.put, List.setIfInBounds_toArray, List.set_cons_zero, List.set_cons_succ]
        refine takeC (i := 19) (v := .bool false) rfl (by kernel_rfl) (by kernel_rfl) (by kernel_rfl) (fun _ _ _ h => h) (Or.inl ⟨by rfl, fun W hW => by (go_simp) <;> omega⟩) hS ?_
        simp only [Act.put, List.setIfInBounds_toArray, List.set_cons_zero, List.set_cons_succ]
        refine takeC (i := 20) (v := .bool false) rfl (by kernel_rfl) (by kernel_rfl) (by kernel_rfl) (fun _ _ _ h => h) (Or.inl ⟨by rfl, fun W hW => by go_simp⟩) hS ?_
        simp only [Act.put, List.setIfInBounds_toArray, List.set_cons_zero, List.set_cons_succ]
        refine takeC (i := 21) (v := undef) rfl (by kernel_rfl) (by kernel_rfl) (by kernel_rfl) (fun _ _ _ h => h) (Or.inr ⟨by rfl, rfl⟩) hS ?_
        simp only [Act.put, List.setIfInBounds_toArray, List.set_cons_zero, List.set_cons_succ]
        refine takeC (i := 22) (v := undef) rfl (by kernel_rfl) (by kernel_rfl) (by kernel_rfl) (fun _ _ _ h => h) (Or.inr ⟨by rfl, rfl⟩) hS ?_
        simp only [Act.put, List.setIfInBounds_toArray, List.set_cons_zero, List.set_cons_succ]
        refine takeC (i := 23) (v := undef) rfl (by kernel_rfl) (by kernel_rfl) (by kernel_rfl) (fun _ _ _ h => h) (Or.inr ⟨by rfl, rfl⟩) hS ?_
        simp only [Act.put, List.setIfInBounds_toArray, List.set_cons_zero, List.set_cons_succ]
        refine takeC (i := 24) (v := undef) rfl (by kernel_rfl) (by kernel_rfl) (by kernel_rfl) (fun _ _ _ h => h) (Or.inr ⟨by rfl, rfl⟩) hS ?_
        simp only [Act.put, List.setIfInBounds_toArray, List.set_cons_zero, List.set_cons_succ]
        refine takeC (i := 25) (v := undef) rfl (by kernel_rfl) (by kernel_rfl) (by kernel_rfl) (fun _ _ _ h => h) (Or.inr ⟨by rfl, rfl⟩) hS ?_
        simp only [Act.put, List.setIfInBounds_toArray, List.set_cons_zero, List.set_cons_succ]
        refine takeC (i := 26) (v := undef) rfl (by kernel_rfl) (by kernel_rfl) (by kernel_rfl) (fun _ _ _ h => h) (Or.inr ⟨by rfl, rfl⟩) hS ?_
        simp only [Act.put, List.setIfInBounds_toArray, List.set_cons_zero, List.set_cons_succ]
        refine takeC (i := 27) (v := undef) rfl (by kernel_rfl) (by kernel_rfl) (by kernel_rfl) (fun _ _ _ h => h) (Or.inr ⟨by rfl, rfl⟩) hS ?_
        simp only [Act.put, List.setIfInBounds_toArray, List.set_cons_zero, List.set_cons_succ]
        refine takeC (i := 28) (v := undef) rfl (by kernel_rfl) (by kernel_rfl) (by kernel_rfl) (fun _ _ _ h => h) (Or.inr ⟨by rfl, rfl⟩) hS ?_
        simp only [Act.put, List.setIfInBounds_toArray, List.set_cons_zero, List.set_cons_succ]
        refine takeC (i := 29) (v := .bool false) rfl (by kernel_rfl) (by kernel_rfl) (by kernel_rfl) (fun _ _ _ h => h) (Or.inl ⟨by rfl, fun W hW => by go_simp⟩) hS ?_
        simp only [Act.put, List.setIfInBounds_toArray, List.set_cons_zero, List.set_cons_succ]
        refine takeC (i := 30) (v := .bool false) rfl (by kernel_rfl) (by kernel_rfl) (by kernel_rfl) (fun _ _ _ h => h) (Or.inl ⟨by rfl, fun W hW => by go_simp⟩) hS ?_
        simp only [Act.put, List.setIfInBounds_toArray, List.set_cons_zero, List.set_cons_succ]
        refine wpAnyH_done (by kernel_rfl) ?_ _
        go_wp2
        go_roundw
        case rel => exact ⟨i + 1, by go_num, by omega, HW.out.drew⟩
        case measure => simp [intOf]; omega
      · rw [e] at RA
        unfold markB at RA
        have him : ¬ (i : Int) < (m : Int) := by have := HLB.out; omega
        have hge : (i : Int) ≥ (m : Int) := by omega
        have NQ := neq_bar (900 + (i : Int), 0) (900 + (i : Int), 0)
        rw [show (!decide (((900 + (i : Int), 0) : Int × Int) = (900 + (i : Int), 0))) = false by simp] at NQ
        have hw9 : IntKind.i64.wrap (900 + (i : Int)) = 900 + (i : Int) := by rw [IntKind.wrap_i64]; omega
        clear hca hia hib e
        go_wp2
        refine wp_region_held (S := fun W => W.rangeAt xb (xo + i * 2) (barC (900 + (i : Int), 0))) (by kernel_rfl) ?_
        change wpAnyH _ _ _ _ _ _ _ _ (World.drew _)
        have hS : wr.drew.rangeAt xb (xo + i * 2) (barC (900 + (i : Int), 0)) := RA.out
        refine takeC (i := 0) (v := .int .i64 (i : Int)) rfl (by kernel_rfl) (by kernel_rfl) (by kernel_rfl) (fun _ _ _ h => h) (Or.inl ⟨by rfl, fun W hW => by go_simp⟩) hS ?_
        simp only [Act.put, List.setIfInBounds_toArray, List.set_cons_zero, List.set_cons_succ]
        refine takeC (i := 1) (v := .slice ba m cb) rfl (by kernel_rfl) (by kernel_rfl) (by kernel_rfl) (fun _ _ _ h => h) (Or.inl ⟨by rfl, fun W hW => by go_simp⟩) hS ?_
        simp only [Act.put, List.setIfInBounds_toArray, List.set_cons_zero, List.set_cons_succ]
        refine takeC (i := 2) (v := .int .i64 (m : Int)) rfl (by kernel_rfl) (by kernel_rfl) (by kernel_rfl) (fun _ _ _ h => h) (Or.inl ⟨by rfl, fun W hW => by go_simp⟩) hS ?_
        simp only [Act.put, List.setIfInBounds_toArray, List.set_cons_zero, List.set_cons_succ]
        refine takeC (i := 3) (v := .bool false) rfl (by kernel_rfl) (by kernel_rfl) (by kernel_rfl) (fun _ _ _ h => h) (Or.inl ⟨by rfl, fun W hW => by (go_simp) <;> omega⟩) hS ?_
        simp only [Act.put, List.setIfInBounds_toArray, List.set_cons_zero, List.set_cons_succ]
        refine takeC (i := 4) (v := .bool false) rfl (by kernel_rfl) (by kernel_rfl) (by kernel_rfl) (fun _ _ _ h => h) (Or.inl ⟨by rfl, fun W hW => by go_simp⟩) hS ?_
        simp only [Act.put, List.setIfInBounds_toArray, List.set_cons_zero, List.set_cons_succ]
        refine takeC (i := 5) (v := undef) rfl (by kernel_rfl) (by kernel_rfl) (by kernel_rfl) (fun _ _ _ h => h) (Or.inr ⟨by rfl, rfl⟩) hS ?_
        simp only [Act.put, List.setIfInBounds_toArray, List.set_cons_zero, List.set_cons_succ]
        refine takeC (i := 6) (v := undef) rfl (by kernel_rfl) (by kernel_rfl) (by kernel_rfl) (fun _ _ _ h => h) (Or.inr ⟨by rfl, rfl⟩) hS ?_
        simp only [Act.put, List.setIfInBounds_toArray, List.set_cons_zero, List.set_cons_succ]
        refine takeC (i := 7) (v := undef) rfl (by kernel_rfl) (by kernel_rfl) (by kernel_rfl) (fun _ _ _ h => h) (Or.inr ⟨by rfl, rfl⟩) hS ?_
        simp only [Act.put, List.setIfInBounds_toArray, List.set_cons_zero, List.set_cons_succ]
        refine takeC (i := 8) (v := undef) rfl (by kernel_rfl) (by kernel_rfl) (by kernel_rfl) (fun _ _ _ h => h) (Or.inr ⟨by rfl, rfl⟩) hS ?_
        simp only [Act.put, List.setIfInBounds_toArray, List.set_cons_zero, List.set_cons_succ]
        refine takeC (i := 9) (v := undef) rfl (by kernel_rfl) (by kernel_rfl) (by kernel_rfl) (fun _ _ _ h => h) (Or.inr ⟨by rfl, rfl⟩) hS ?_
        simp only [Act.put, List.setIfInBounds_toArray, List.set_cons_zero, List.set_cons_succ]
        refine takeC (i := 10) (v := undef) rfl (by kernel_rfl) (by kernel_rfl) (by kernel_rfl) (fun _ _ _ h => h) (Or.inr ⟨by rfl, rfl⟩) hS ?_
        simp only [Act.put, List.setIfInBounds_toArray, List.set_cons_zero, List.set_cons_succ]
        refine takeC (i := 11) (v := undef) rfl (by kernel_rfl) (by kernel_rfl) (by kernel_rfl) (fun _ _ _ h => h) (Or.inr ⟨by rfl, rfl⟩) hS ?_
        simp only [Act.put, List.setIfInBounds_toArray, List.set_cons_zero, List.set_cons_succ]
        refine takeC (i := 12) (v := undef) rfl (by kernel_rfl) (by kernel_rfl) (by kernel_rfl) (fun _ _ _ h => h) (Or.inr ⟨by rfl, rfl⟩) hS ?_
        simp only [Act.put, List.setIfInBounds_toArray, List.set_cons_zero, List.set_cons_succ]
        refine takeC (i := 13) (v := undef) rfl (by kernel_rfl) (by kernel_rfl) (by kernel_rfl) (fun _ _ _ h => h) (Or.inr ⟨by rfl, rfl⟩) hS ?_
        simp only [Act.put, List.setIfInBounds_toArray, List.set_cons_zero, List.set_cons_succ]
        refine takeC (i := 14) (v := .bool false) rfl (by kernel_rfl) (by kernel_rfl) (by kernel_rfl) (fun _ _ _ h => h) (Or.inl ⟨by rfl, fun W hW => by go_simp⟩) hS ?_
        simp only [Act.put, List.setIfInBounds_toArray, List.set_cons_zero, List.set_cons_succ]
        refine takeC (i := 15) (v := .bool false) rfl (by kernel_rfl) (by kernel_rfl) (by kernel_rfl) (fun _ _ _ h => h) (Or.inl ⟨by rfl, fun W hW => by go_simp⟩) hS ?_
        simp only [Act.put, List.setIfInBounds_toArray, List.set_cons_zero, List.set_cons_succ]
        refine takeC (i := 16) (v := .int .i64 (i : Int)) rfl (by kernel_rfl) (by kernel_rfl) (by kernel_rfl) (fun _ _ _ h => h) (Or.inl ⟨by rfl, fun W hW => by go_simp⟩) hS ?_
        simp only [Act.put, List.setIfInBounds_toArray, List.set_cons_zero, List.set_cons_succ]
        refine takeC (i := 17) (v := .slice ba m cb) rfl (by kernel_rfl) (by kernel_rfl) (by kernel_rfl) (fun _ _ _ h => h) (Or.inl ⟨by rfl, fun W hW => by go_simp⟩) hS ?_
        simp only [Act.put, List.setIfInBounds_toArray, List.set_cons_zero, List.set_cons_succ]
        refine takeC (i := 18) (v := .int .i64 (m : Int)) rfl (by kernel_rfl) (by kernel_rfl) (by kernel_rfl) (fun _ _ _ h => h) (Or.inl ⟨by rfl, fun W hW => by go_simp⟩) hS ?_
        simp only [Act.put, List.setIfInBounds_toArray, List.set_cons_zero, List.set_cons_succ]
        refine takeC (i := 19) (v := .bool true) rfl (by kernel_rfl) (by kernel_rfl) (by kernel_rfl) (fun _ _ _ h => h) (Or.inl ⟨by rfl, fun W hW => by (go_simp) <;> omega⟩) hS ?_
        simp only [Act.put, List.setIfInBounds_toArray, List.set_cons_zero, List.set_cons_succ]
        refine takeC (i := 20) (v := .bool true) rfl (by kernel_rfl) (by kernel_rfl) (by kernel_rfl) (fun _ _ _ h => h) (Or.inl ⟨by rfl, fun W hW => by go_simp⟩) hS ?_
        simp only [Act.put, List.setIfInBounds_toArray, List.set_cons_zero, List.set_cons_succ]
        refine takeC (i := 21) (v := .slice (some ⟨xb, xo, none⟩) n ca) rfl (by kernel_rfl) (by kernel_rfl) (by kernel_rfl) (fun _ _ _ h => h) (Or.inl ⟨by rfl, fun W hW => by go_simp⟩) hS ?_
        simp only [Act.put, List.setIfInBounds_toArray, List.set_cons_zero, List.set_cons_succ]
        refine takeC (i := 22) (v := .int .i64 (i : Int)) rfl (by kernel_rfl) (by kernel_rfl) (by kernel_rfl) (fun _ _ _ h => h) (Or.inl ⟨by rfl, fun W hW => by go_simp⟩) hS ?_
        simp only [Act.put, List.setIfInBounds_toArray, List.set_cons_zero, List.set_cons_succ]
        refine takeC (i := 23) (v := .pointer (some ⟨xb, xo + i * 2, none⟩)) rfl (by kernel_rfl) (by kernel_rfl) (by kernel_rfl) (fun _ _ _ h => h) (Or.inl ⟨by rfl, fun W hW => by go_simp⟩) hS ?_
        simp only [Act.put, List.setIfInBounds_toArray, List.set_cons_zero, List.set_cons_succ]
        refine takeC (i := 24) (v := .agg (barC (900 + (i : Int), 0)).toArray) rfl (by kernel_rfl) (by kernel_rfl) (by kernel_rfl) (fun _ _ _ h => h) (yieldsIf_load_mid (by rfl) 50 _ rfl xb (xo + i * 2) rfl (barC (900 + (i : Int), 0)) _ (fun W hW => hW) Tryz.underlying50 rfl (by kernel_rfl)) hS ?_
        simp only [Act.put, List.setIfInBounds_toArray, List.set_cons_zero, List.set_cons_succ]
        refine takeC (i := 25) (v := .int .i64 (i : Int)) rfl (by kernel_rfl) (by kernel_rfl) (by kernel_rfl) (fun _ _ _ h => h) (Or.inl ⟨by rfl, fun W hW => by go_simp⟩) hS ?_
        simp only [Act.put, List.setIfInBounds_toArray, List.set_cons_zero, List.set_cons_succ]
        refine takeC (i := 26) (v := .int .i64 (900 + (i : Int) : Int)) rfl (by kernel_rfl) (by kernel_rfl) (by kernel_rfl) (fun _ _ _ h => h) (Or.inl ⟨by rfl, fun W hW => by go_simp⟩) hS ?_
        simp only [Act.put, List.setIfInBounds_toArray, List.set_cons_zero, List.set_cons_succ]
        refine takeC (i := 27) (v := .agg (barC (900 + (i : Int), 0)).toArray) rfl (by kernel_rfl) (by kernel_rfl) (by kernel_rfl) (fun _ _ _ h => h) (Or.inl ⟨by rfl, fun W hW => by go_simp; first | rfl | simp⟩) hS ?_
        simp only [Act.put, List.setIfInBounds_toArray, List.set_cons_zero, List.set_cons_succ]
        refine takeC (i := 28) (v := .bool false) rfl (by kernel_rfl) (by kernel_rfl) (by kernel_rfl) (fun _ _ _ h => h) (Or.inl ⟨by rfl, fun W hW => by go_simp⟩) hS ?_
        simp only [Act.put, List.setIfInBounds_toArray, List.set_cons_zero, List.set_cons_succ]
        refine takeC (i := 29) (v := .bool false) rfl (by kernel_rfl) (by kernel_rfl) (by kernel_rfl) (fun _ _ _ h => h) (Or.inl ⟨by rfl, fun W hW => by go_simp⟩) hS ?_
        simp only [Act.put, List.setIfInBounds_toArray, List.set_cons_zero, List.set_cons_succ]
        refine takeC (i := 30) (v := .bool false) rfl (by kernel_rfl) (by kernel_rfl) (by kernel_rfl) (fun _ _ _ h => h) (Or.inl ⟨by rfl, fun W hW => by go_simp⟩) hS ?_
        simp only [Act.put, List.setIfInBounds_toArray, List.set_cons_zero, List.set_cons_succ]
        refine wpAnyH_done (by kernel_rfl) ?_ _
        go_wp2
        go_roundw
        case rel => exact ⟨i + 1, by go_num, by omega, HW.out.drew⟩
        case measure => simp [intOf]; omega
    · go_wp2
      go_ret
      exact ⟨rfl, HW.out⟩
/-- A tally whose bars have marks behind them. -/
def LentT (x0 x1 x2 x3 x4 x5 : Int) (a : List (Int × Int)) (n m : Nat) (w : World) (e : Ending) (w' : World) : Prop := ∃ g L, e = .returned (.tuple #[.agg (talL x0 x1 x2 x3 x4 x5 (some ⟨g, 0, none⟩) n m).toArray, .slice (some ⟨g, 0, none⟩) m m]) ∧ Hid (RowB w.heap.size w' g m L) ∧ Hid (∀ i (h : i < L.length), (∃ h' : i < a.length, L[i] = a[i]) ∨ (a.length ≤ i ∧ L[i] = markB i)) ∧ Below w.heap.size w w'
/-- The two blocks of lentTally. -/
structure LT2 (w W : World) (A : List Value) : Prop where
  one : Blk W w.heap.size A.toArray 39
  two : Blk W (w.heap.size + 1) (talL 0 0 0 0 0 0 none 0 0).toArray 39
theorem LT2.upd {S : Nat → Prop} {w W W' : World} {A : List Value} (h : LT2 w W A) (hu : Upd S W W') (h1 : ¬ S w.heap.size) (h2 : ¬ S (w.heap.size + 1)) : LT2 w W' A := ⟨h.one.upd hu h1, h.two.upd hu h2⟩
theorem LT2.below {w W W' : World} {A : List Value} (h : LT2 w W A) (hb : Below W.heap.size W W') : LT2 w W' A := ⟨h.one.below hb h.one.lt, h.two.below hb h.two.lt⟩
set_option maxHeartbeats 4000000 in
theorem lentT_any (x0 x1 x2 x3 x4 x5 : Int) (ad : Option Addr) (n m ca : Nat) (a : List (Int × Int)) (w : World) (hA : InAt w ad n a) (hnil : ad = none → n = 0 ∧ ca = 0) (hz : n * 16 ≤ 140737488351232) (hm : n + 3 = m) :
    Calls Tryz.prog 12 #[.agg (talL x0 x1 x2 x3 x4 x5 ad n ca).toArray] w (LentT x0 x1 x2 x3 x4 x5 a n m w) := by
  have HA : Hid _ := hA
  have HL : Hid (a.length = n) := hA.at_.len
  have HN : Hid _ := hnil
  have HE : Hid (∀ L w', RowB w.heap.size w' (w.heap.size + 1 + 1) m L → (∀ i (h : i < L.length), (∃ h' : i < a.length, L[i] = a[i]) ∨ (a.length ≤ i ∧ L[i] = markB i)) → Below w.heap.size w w' → LentT x0 x1 x2 x3 x4 x5 a n m w (.returned (.tuple #[.agg (talL x0 x1 x2 x3 x4 x5 (some ⟨w.heap.size + 1 + 1, 0, none⟩) n m).toArray, .slice (some ⟨w.heap.size + 1 + 1, 0, none⟩) m m])) w') := fun L w' h1 h2 h3 => ⟨_, L, rfl, h1, h2, h3⟩
  have hsz : (Tryz.prog.info? 50).map (·.size) = some 2 := by kernel_rfl
  generalize LentT x0 x1 x2 x3 x4 x5 a n m w = R at *
  have hw3 : IntKind.i64.wrap ((n : Int) + 3) = (m : Int) := by rw [IntKind.wrap_i64]; omega
  have HM0 : Hid (LT2 w ((w.alloc (.cells (talL x0 x1 x2 x3 x4 x5 ad n ca).toArray 39)).alloc (.cells (talL 0 0 0 0 0 0 none 0 0).toArray 39)) (talL x0 x1 x2 x3 x4 x5 ad n ca)) := ⟨Blk.alloc (Blk.new _ _ _) _, by have := Blk.new (w.alloc (.cells (talL x0 x1 x2 x3 x4 x5 ad n ca).toArray 39)) (talL 0 0 0 0 0 0 none 0 0).toArray 39; rw [World.size_alloc] at this; exact this⟩
  have HB0 : Hid (Below w.heap.size w ((w.alloc (.cells (talL x0 x1 x2 x3 x4 x5 ad n ca).toArray 39)).alloc (.cells (talL 0 0 0 0 0 0 none 0 0).toArray 39))) := ((Below.refl _ _).alloc (Nat.le_refl _) _).alloc (by simp) _
  have hm' : (n : Int) ≤ (m : Int) := by omega
  clear hA hnil
  simp only [talL] at HM0 HB0 ⊢
  go_enter Tryz.func12, Tryz.ntmps12
  go_wp2_with (first
    | (refine wpList_mk rfl _ _ 37 rfl 50 _ 2 16 Tryz.underlying37 Tryz.info50 m rfl rfl (by omega) (by unfold maxLen; omega) ?_; intro w1 n1 b1; simp only [World.size_alloc] at n1; have HN1 : Hid (Blk w1 (w.heap.size + 1 + 1) (madeCells (#[.int .i64 0, .int .u64 0] : Array Value) (m * 2)) 50) := n1; have HM1 : Hid (LT2 w w1 (talL x0 x1 x2 x3 x4 x5 ad n ca)) := HM0.out.below b1; have HB1 : Hid (Below w.heap.size w w1) := HB0.out.trans (b1.mono HB0.out.size); clear n1 b1 HM0 HB0; have q1 : w1.cell? ⟨w.heap.size, 6, none⟩ = some (.slice ad n ca) := HM1.out.one.cell 6 rfl)
    | (refine wpList_copyX rfl (.tmp 11) (.tmp 13) 37 37 rfl 50 Tryz.underlying37 2 hsz (w.heap.size + 1 + 1) m m ad n ca rfl rfl HN.out _ 50 HN1.out (a.flatMap barC) (by rw [barC_len, HL.out]) (by omega) (BarAt.cells (HA.out.below HB1.out).at_) (by rw [size_madeCells, barC_len, HL.out]; omega) (barC_one a) ?_; intro w2 n2 u2; have HN2 : Hid _ := n2; have HM2 : Hid (LT2 w w2 (talL x0 x1 x2 x3 x4 x5 ad n ca)) := HM1.out.upd u2 (by omega) (by omega); have HB2 : Hid (Below w.heap.size w w2) := HB1.out.trans (u2.below HB1.out.size (fun k hk e => by omega)); have q2 : w2.cell? ⟨w.heap.size, 6, none⟩ = some (.slice ad n ca) := HM2.out.one.cell 6 rfl; clear n2 u2 q1))
  have HR2 : Hid (RowB w.heap.size w2 (w.heap.size + 1 + 1) m (a ++ List.replicate 3 (0, 0))) := by
    have h := HN2.out
    have e : (a.flatMap barC ++ (madeCells (#[.int .i64 0, .int .u64 0] : Array Value) (m * 2)).toList.drop (a.flatMap barC).length) = (a ++ List.replicate 3 ((0, 0) : Int × Int)).flatMap barC := by
      rw [made_bar, ← hm, show List.replicate (n + 3) ((0, 0) : Int × Int) = List.replicate n (0, 0) ++ List.replicate 3 (0, 0) from (List.replicate_append_replicate).symm, List.flatMap_append, List.flatMap_append, List.drop_append_of_le_length (by rw [barC_len, barC_len, HL.out]; simp), List.drop_eq_nil_of_le (by rw [barC_len, barC_len, HL.out]; simp), List.nil_append]
    rw [e] at h
    have hr := RowB.ofBlk (base := w.heap.size) h (by omega)
    rw [show (a ++ List.replicate 3 ((0, 0) : Int × Int)).length = m by rw [List.length_append, HL.out]; simp; omega] at hr
    exact hr
  clear HN1 HN2 HM1 HB1 HN HA hsz q2
  go_loopw [5] (fun t wr => ∃ (i : Nat) (L : List (Int × Int)), t = .int .i64 i ∧ n ≤ i ∧ i ≤ m ∧ Hid (RowB w.heap.size wr (w.heap.size + 1 + 1) m L) ∧ Hid (∀ j (h : j < L.length), j < i → (∃ h' : j < a.length, L[j] = a[j]) ∨ (a.length ≤ j ∧ L[j] = markB j)) ∧ Hid (LT2 w wr (talL x0 x1 x2 x3 x4 x5 ad n ca)) ∧ Hid (Below w.heap.size w wr)) (fun t _ => m - (intOf t).toNat)
  case atStart =>
    refine ⟨n, _, rfl, Nat.le_refl _, by omega, HR2, fun j h hj => Or.inl ⟨by rw [HL.out]; exact hj, ?_⟩, HM2, HB2⟩
    rw [List.getElem_append_left]
  case round =>
    obtain ⟨i, L, rfl, hi1, hi2, HR, HI, HM, HB⟩ := hrel
    clear HR2 HM2 HB2
    have HLL : Hid (L.length = m) := HR.out.len
    by_cases hlt : i < m
    · have hiL : i < L.length := by rw [HLL.out]; exact hlt
      have hlt' : (i : Int) < (m : Int) := by omega
      have hw9 : IntKind.i64.wrap (900 + (i : Int)) = 900 + (i : Int) := by rw [IntKind.wrap_i64]; omega
      go_wp2_with (refine wpList_stB rfl _ _ rfl w.heap.size (w.heap.size + 1 + 1) i m L (900 + (i : Int), 0) HR.out hiL rfl rfl ?_; intro w5 r5 u5; have HR5 : Hid (RowB w.heap.size w5 (w.heap.size + 1 + 1) m (L.set i (markB i))) := r5; have HM5 : Hid (LT2 w w5 (talL x0 x1 x2 x3 x4 x5 ad n ca)) := HM.out.upd u5 (by omega) (by omega); have HB5 : Hid (Below w.heap.size w w5) := HB.out.trans (u5.below HB.out.size (fun k hk e => by omega)); clear r5 u5)
      (try simp only [Act.put])
      go_roundw
      case rel =>
        refine ⟨i + 1, _, by go_num, by omega, by omega, HR5, fun j h hj => ?_, HM5, HB5⟩
        rw [List.length_set] at h
        by_cases hji : j = i
        · subst hji
          exact Or.inr ⟨by rw [HL.out]; exact hi1, by rw [List.getElem_set_self]⟩
        · have hp := HI.out j h (by omega)
          rw [List.getElem_set_ne (fun e => hji e.symm)]
          exact hp
      case measure => simp [intOf]; omega
    · obtain rfl : m = i := by omega
      go_wp2
      refine wp_region_held (S := fun W => Blk W w.heap.size (talL x0 x1 x2 x3 x4 x5 ad n ca).toArray 39) (by kernel_rfl) ?_
      change wpAnyH _ _ _ _ _ _ _ _ (World.drew _)
      have hS : Blk wr.drew w.heap.size (talL x0 x1 x2 x3 x4 x5 ad n ca).toArray 39 := HM.out.one
      refine takeC (i := 0) (v := .pointer (some ⟨w.heap.size, 0, none⟩)) rfl (by kernel_rfl) (by kernel_rfl) (by kernel_rfl) (fun _ _ _ h => h) (Or.inl ⟨by rfl, fun W hW => by go_simp⟩) hS ?_
      simp only [Act.put, List.setIfInBounds_toArray, List.set_cons_zero, List.set_cons_succ]
      refine takeC (i := 1) (v := .agg [.int .u64 x0, .int .u64 x1].toArray) rfl (by kernel_rfl) (by kernel_rfl) (by kernel_rfl) (fun _ _ _ h => h) (yieldsIf_load_mid (by rfl) 36 _ rfl (w.heap.size) 0 rfl [.int .u64 x0, .int .u64 x1] _ (fun W hW => range2 hW 0 rfl rfl) Tryz.underlying36 rfl (by kernel_rfl)) hS ?_
      simp only [Act.put, List.setIfInBounds_toArray, List.set_cons_zero, List.set_cons_succ]
      refine takeC (i := 2) (v := .pointer (some ⟨w.heap.size, 2, none⟩)) rfl (by kernel_rfl) (by kernel_rfl) (by kernel_rfl) (fun _ _ _ h => h) (Or.inl ⟨by rfl, fun W hW => by go_simp⟩) hS ?_
      simp only [Act.put, List.setIfInBounds_toArray, List.set_cons_zero, List.set_cons_succ]
      refine takeC (i := 3) (v := .agg [.int .u64 x2, .int .u64 x3].toArray) rfl (by kernel_rfl) (by kernel_rfl) (by kernel_rfl) (fun _ _ _ h => h) (yieldsIf_load_mid (by rfl) 36 _ rfl (w.heap.size) 2 rfl [.int .u64 x2, .int .u64 x3] _ (fun W hW => range2 hW 2 rfl rfl) Tryz.underlying36 rfl (by kernel_rfl)) hS ?_
      simp only [Act.put, List.setIfInBounds_toArray, List.set_cons_zero, List.set_cons_succ]
      refine takeC (i := 4) (v := .pointer (some ⟨w.heap.size, 4, none⟩)) rfl (by kernel_rfl) (by kernel_rfl) (by kernel_rfl) (fun _ _ _ h => h) (Or.inl ⟨by rfl, fun W hW => by go_simp⟩) hS ?_
      simp only [Act.put, List.setIfInBounds_toArray, List.set_cons_zero, List.set_cons_succ]
      refine takeC (i := 5) (v := .agg [.int .u64 x4, .int .u64 x5].toArray) rfl (by kernel_rfl) (by kernel_rfl) (by kernel_rfl) (fun _ _ _ h => h) (yieldsIf_load_mid (by rfl) 36 _ rfl (w.heap.size) 4 rfl [.int .u64 x4, .int .u64 x5] _ (fun W hW => range2 hW 4 rfl rfl) Tryz.underlying36 rfl (by kernel_rfl)) hS ?_
      simp only [Act.put, List.setIfInBounds_toArray, List.set_cons_zero, List.set_cons_succ]
      refine takeC (i := 6) (v := .slice (some ⟨w.heap.size + 1 + 1, 0, none⟩) m m) rfl (by kernel_rfl) (by kernel_rfl) (by kernel_rfl) (fun _ _ _ h => h) (Or.inl ⟨by rfl, fun W hW => by go_simp⟩) hS ?_
      simp only [Act.put, List.setIfInBounds_toArray, List.set_cons_zero, List.set_cons_succ]
      refine takeC (i := 7) (v := .pointer (some ⟨w.heap.size, 6, none⟩)) rfl (by kernel_rfl) (by kernel_rfl) (by kernel_rfl) (fun _ _ _ h => h) (Or.inl ⟨by rfl, fun W hW => by go_simp⟩) hS ?_
      simp only [Act.put, List.setIfInBounds_toArray, List.set_cons_zero, List.set_cons_succ]
      refine takeC (i := 8) (v := .slice ad n ca) rfl (by kernel_rfl) (by kernel_rfl) (by kernel_rfl) (fun _ _ _ h => h) (Or.inl ⟨by rfl, fun W hW => by have hq := hW.cell 6 (v := .slice ad n ca) rfl; go_simp⟩) hS ?_
      simp only [Act.put, List.setIfInBounds_toArray, List.set_cons_zero, List.set_cons_succ]
      refine takeC (i := 9) (v := .int .i64 (n : Int)) rfl (by kernel_rfl) (by kernel_rfl) (by kernel_rfl) (fun _ _ _ h => h) (Or.inl ⟨by rfl, fun W hW => by go_simp⟩) hS ?_
      simp only [Act.put, List.setIfInBounds_toArray, List.set_cons_zero, List.set_cons_succ]
      refine takeC (i := 10) (v := .slice (some ⟨w.heap.size + 1 + 1, 0, none⟩) n m) rfl (by kernel_rfl) (by kernel_rfl) (by kernel_rfl) (fun _ _ _ h => h) (Or.inl ⟨by rfl, fun W hW => by go_simp⟩) hS ?_
      simp only [Act.put, List.setIfInBounds_toArray, List.set_cons_zero, List.set_cons_succ]
      refine takeC (i := 11) (v := .agg (talL x0 x1 x2 x3 x4 x5 (some ⟨w.heap.size + 1 + 1, 0, none⟩) n m).toArray) rfl (by kernel_rfl) (by kernel_rfl) (by kernel_rfl) (fun _ _ _ h => h) (Or.inl ⟨by rfl, fun W hW => by go_simp; rfl⟩) hS ?_
      simp only [Act.put, List.setIfInBounds_toArray, List.set_cons_zero, List.set_cons_succ]
      refine takeC (i := 12) (v := .slice (some ⟨w.heap.size + 1 + 1, 0, none⟩) m m) rfl (by kernel_rfl) (by kernel_rfl) (by kernel_rfl) (fun _ _ _ h => h) (Or.inl ⟨by rfl, fun W hW => by go_simp⟩) hS ?_
      simp only [Act.put, List.setIfInBounds_toArray, List.set_cons_zero, List.set_cons_succ]
      refine onlyC (i := 13) rfl (by kernel_rfl) (fun K hK => ?_)
      refine step_stW (by rfl) 39 _ _ (by rfl) (w.heap.size + 1) (talL 0 0 0 0 0 0 none 0 0) (talL x0 x1 x2 x3 x4 x5 (some ⟨w.heap.size + 1 + 1, 0, none⟩) n m) 39 (show Blk wr.drew (w.heap.size + 1) (talL 0 0 0 0 0 0 none 0 0).toArray 39 from HM.out.two) (by rfl) (by rfl) (by rfl) (by kernel_rfl) talL_one ?_
      intro v5 n5 u5
      have hS5 : Blk v5 w.heap.size (talL x0 x1 x2 x3 x4 x5 ad n ca).toArray 39 := hS.upd u5 (by omega)
      refine hK _ _ ⟨hS5, ?_⟩
      clear hK K
      refine takeC (i := 14) (v := .slice (some ⟨w.heap.size + 1 + 1, 0, none⟩) m m) rfl (by kernel_rfl) (by kernel_rfl) (by kernel_rfl) (fun _ _ _ h => h) (Or.inl ⟨by rfl, fun W hW => by go_simp⟩) hS5 ?_
      simp only [Act.put, List.setIfInBounds_toArray, List.set_cons_zero, List.set_cons_succ]
      refine wpAnyH_done (by kernel_rfl) ?_ _
      go_wp2
      (try simp only [Exit.inBlock, Exit.then])
      have H5 := HE.out L v5 ((HR.out.drew).upd u5 (by omega)) (fun j h => HI.out j h (by rw [← HLL.out]; exact h)) (HB.out.drew.trans (u5.below (by have := HB.out.size; show _ ≤ wr.heap.size; omega) (fun k hk e => by omega)))
      refine bodyPost_ret (v := .tuple #[.agg (talL x0 x1 x2 x3 x4 x5 (some ⟨w.heap.size + 1 + 1, 0, none⟩) n m).toArray, .slice (some ⟨w.heap.size + 1 + 1, 0, none⟩) m m]) ?_ rfl H5
      rw [results_cell_tmp rfl]
      have hld := blk_loadT n5
      simp [asAddr, Result.andThen, hld]
end Go.Proofs.YtkpkdikogoalkaaGreatDoor.sk

namespace Go.Proofs.YtkpkdikogoalkaaGreatDoor.sk
open Go Go.RowKit
set_option maxRecDepth 100000

theorem InAt.sk2 {w : World} {ad : Option Addr} {n : Nat} {l : List (Int × Int)} (h : InAt w ad n l) (hc : chkF (-1) l = true) : SkAt w ad n (cntF l) := by
  have e := bars_of hc (fun b hb => (h.bin b hb).2.2.1)
  refine ⟨?_, ?_, cntF_le h.bin⟩
  · rw [← e]; exact h.at_.len.symm
  · rw [← e]; exact h
/-- Bars that came out one behind the other, each in blocks of its own. -/
def ChainB (w : World) : Nat → Nat → List Value → Prop
  | lo, hi, [] => lo ≤ hi
  | lo, hi, v :: r => (∃ L, OwnBar lo w v L ∧ L.length ≤ 1000000) ∧ ∃ mid, lo ≤ mid ∧ (∀ k, v.ownBlock = some k → k < mid) ∧ ChainB w mid hi r
theorem ChainB.le {w : World} : ∀ {vs : List Value} {lo hi : Nat}, ChainB w lo hi vs → lo ≤ hi
  | [], _, _, h => h
  | _ :: _, _, _, ⟨_, _, h1, _, h2⟩ => Nat.le_trans h1 (ChainB.le h2)
theorem ChainB.upd {S : Nat → Prop} {w w' : World} (hu : Upd S w w') : ∀ {vs : List Value} {lo hi : Nat}, ChainB w lo hi vs → (∀ k, lo ≤ k → ¬ S k) → ChainB w' lo hi vs
  | [], _, _, h, _ => h
  | _ :: _, _, _, ⟨⟨L, h0, hl⟩, mid, h1, h2, h3⟩, hS => ⟨⟨L, h0.upd hu hS, hl⟩, mid, h1, h2, ChainB.upd hu h3 (fun k hk => hS k (Nat.le_trans h1 hk))⟩
theorem ChainB.hi {w : World} : ∀ {vs : List Value} {lo hi hi' : Nat}, ChainB w lo hi vs → hi ≤ hi' → ChainB w lo hi' vs
  | [], _, _, _, h, hh => Nat.le_trans h hh
  | _ :: _, _, _, _, ⟨h0, mid, h1, h2, h3⟩, hh => ⟨h0, mid, h1, h2, ChainB.hi h3 hh⟩
theorem ChainB.snoc {w : World} {v : Value} {L : List (Int × Int)} : ∀ {vs : List Value} {lo hi hi' : Nat}, ChainB w lo hi vs → OwnBar hi w v L → L.length ≤ 1000000 → (∀ k, v.ownBlock = some k → k < hi') → hi ≤ hi' → ChainB w lo hi' (vs ++ [v])
  | [], _, _, hi', h, ho, hl, hk, hh => ⟨⟨L, own_base ho h, hl⟩, hi', Nat.le_trans h hh, hk, Nat.le_refl _⟩
  | _ :: _, _, _, _, ⟨h0, mid, h1, h2, h3⟩, ho, hl, hk, hh => ⟨h0, mid, h1, h2, ChainB.snoc h3 ho hl hk hh⟩
theorem ChainB.below {w w' : World} {vs : List Value} {lo : Nat} (h : ChainB w lo w.heap.size vs) (hb : Below w.heap.size w w') : ChainB w' lo w'.heap.size vs :=
  (ChainB.upd (Upd.ofBelow (S := fun _ => False) hb (fun k hk hk' => by omega)) h (fun _ _ h => h)).hi hb.size
theorem OwnBar.ltB {base : Nat} {w : World} {v : Value} {L : List (Int × Int)} (h : OwnBar base w v L) : ∀ k, v.ownBlock = some k → k < w.heap.size := by
  intro k hk
  rcases h.2 with ⟨rfl, _⟩ | ⟨g, cap, cur, rfl, hg, hh, _⟩
  · simp [Value.ownBlock] at hk
  · simp [Value.ownBlock] at hk
    subst hk
    exact lt_of_block hh
/-- One more came out. -/
theorem ChainB.more {w w' : World} {v : Value} {f : Nat → Nat} {vs : List Value} {lo : Nat} (h : ChainB w lo w.heap.size vs) (hb : Below w.heap.size w w') (ho : OwnBar w.heap.size w' v (barsF f)) : ChainB w' lo w'.heap.size (vs ++ [v]) := by
  have c2 : ChainB w' lo w.heap.size vs := ChainB.upd (Upd.ofBelow (S := fun _ => False) hb (fun k hk hk' => by omega)) h (fun _ _ h => h)
  exact c2.snoc ho (by have := barsF_len f; omega) (OwnBar.ltB ho) hb.size
theorem ChainB.row {w : World} : ∀ {vs : List Value} {lo hi : Nat}, ChainB w lo hi vs → ∀ j (hj : j < vs.length), ∃ n xs, n ≤ 1000000 ∧ w.ownsRow lo 50 2 vs[j] n xs
  | [], _, _, _, j, hj => absurd hj (by simp)
  | v :: r, _, _, ⟨⟨L, h0, hl⟩, mid, h1, h2, h3⟩, 0, _ => ⟨L.length, _, hl, h0⟩
  | v :: r, _, _, ⟨⟨L, h0, hl⟩, mid, h1, h2, h3⟩, j + 1, hj => by
    obtain ⟨n, xs, hn, ho⟩ := ChainB.row h3 j (by simpa using hj)
    exact ⟨n, xs, hn, own_base ho h1⟩
theorem ChainB.far {w : World} {vs : List Value} {lo hi : Nat} (h : ChainB w lo hi vs) (j : Nat) (hj : j < vs.length) (k : Nat) (hk : vs[j].ownBlock = some k) : lo ≤ k := by
  obtain ⟨n, xs, _, ho⟩ := ChainB.row h j hj
  exact (own_block ho hk).1
theorem ChainB.apart {w : World} : ∀ {vs : List Value} {lo hi : Nat}, ChainB w lo hi vs → ∀ a b (ha : a < vs.length) (hb : b < vs.length), a ≠ b → ∀ k, vs[a].ownBlock = some k → vs[b].ownBlock ≠ some k
  | [], _, _, _, a, _, ha, _, _, _, _ => absurd ha (by simp)
  | v :: r, _, _, ⟨_, mid, h1, h2, h3⟩, 0, 0, _, _, hne, _, _ => absurd rfl hne
  | v :: r, _, _, ⟨_, mid, h1, h2, h3⟩, 0, b + 1, _, hb, _, k, hk => fun hk' => by
    have q1 := h2 k hk
    have q2 := ChainB.far h3 b (by simpa using hb) k hk'
    omega
  | v :: r, _, _, ⟨_, mid, h1, h2, h3⟩, a + 1, 0, ha, _, _, k, hk => fun hk' => by
    have q1 := h2 k hk'
    have q2 := ChainB.far h3 a (by simpa using ha) k hk
    omega
  | v :: r, _, _, ⟨_, mid, h1, h2, h3⟩, a + 1, b + 1, ha, hb, hne, k, hk => fun hk' => ChainB.apart h3 a b (by simpa using ha) (by simpa using hb) (fun e => hne (by rw [e])) k hk hk'
/-- The law's ownBars, of bars that came out one behind the other. -/
theorem ownB_chain (vs : List Value) (lo : Nat) (w : World) (h : ChainB w lo w.heap.size vs) (hl : vs.length ≤ 1000) (m : Nat) (hm : vs.length = m) :
    Calls Tryz.prog 23 #[.slice (some ⟨w.heap.size, 0, none⟩) m m] (w.alloc (.cells vs.toArray 37)) fun e w' => e = .returned (.bool true) ∧ Below lo (w.alloc (.cells vs.toArray 37)) w' := by
  have hlo := h.le
  have b0 : Below w.heap.size w (w.alloc (.cells vs.toArray 37)) := (Below.refl _ _).alloc (Nat.le_refl _) _
  have h1 := h.below b0
  refine ob.ob_any lo w.heap.size vs _ ⟨Below.refl _ _, heap_alloc_new w _, fun j hj => ?_⟩ (by rw [World.size_alloc]; omega) h1.apart hl m hm
  obtain ⟨n, xs, hn, ho⟩ := h1.row j hj
  exact ⟨n, xs, hn, ho, fun h => absurd h (Nat.not_lt_zero _)⟩
/-- What a call that tells a tally and an error tells, whatever it is. -/
def TalZ (z0 z1 z2 z3 z4 z5 : Int) (f : Nat → Nat) (err : Int) (w : World) (x : Ending) (w' : World) : Prop := ∃ ao L cp, x = .returned (.tuple #[.agg #[.int .u64 z0, .int .u64 z1, .int .u64 z2, .int .u64 z3, .int .u64 z4, .int .u64 z5, .slice ao L cp], .int .i64 err]) ∧ Hid (SkAt w' ao L f) ∧ Hid (OwnBar w.heap.size w' (.slice ao L cp) (barsF f)) ∧ Below w.heap.size w w'
def OneZ (z0 z1 z2 z3 z4 z5 : Int) (f : Nat → Nat) (w : World) (x : Ending) (w' : World) : Prop := ∃ ao L cp, x = .returned (.agg #[.int .u64 z0, .int .u64 z1, .int .u64 z2, .int .u64 z3, .int .u64 z4, .int .u64 z5, .slice ao L cp]) ∧ Hid (SkAt w' ao L f) ∧ Hid (OwnBar w.heap.size w' (.slice ao L cp) (barsF f)) ∧ Below w.heap.size w w'
theorem TalP.uni {c e k : Nat} {f : Nat → Nat} {w w' : World} {x : Ending} (h : TalP c e k f w x w') : TalZ (hi64 c) (lo64 c) (hi64 e) (lo64 e) (hi64 k) (lo64 k) f 0 w x w' := by
  obtain ⟨ao, L, cp, rfl, h1, h2, h3⟩ := h
  exact ⟨ao, L, cp, rfl, h1, h3, h2⟩
theorem sk_none (w : World) : SkAt w none 0 (fun _ => 0) := ⟨by rw [bars_zero]; rfl, by rw [bars_zero]; exact InAt.nil w, fun _ => Nat.zero_le _⟩
theorem TalN.uni {err : Int} {w w' : World} {x : Ending} (h : TalN err w x w') : TalZ 0 0 0 0 0 0 (fun _ => 0) err w x w' := by
  obtain ⟨rfl, h1⟩ := h
  exact ⟨none, 0, 0, rfl, sk_none w', by rw [bars_zero]; exact World.ownsRow_nil w' _ _ _, h1⟩
def TV6 (c e k : Nat) (ad : Option Addr) (n ca : Nat) : Value := .agg #[.int .u64 (hi64 c), .int .u64 (lo64 c), .int .u64 (hi64 e), .int .u64 (lo64 e), .int .u64 (hi64 k), .int .u64 (lo64 k), .slice ad n ca]
/-- Plus: the program's answer and the document's are one. -/
theorem plus_uni (b : List (Int × Int)) (c e k c' e' k' : Nat) (b1 : c ≤ top128) (b2 : e ≤ top128) (b3 : k ≤ top128) (b4 : c' ≤ top128) (b5 : e' ≤ top128) (b6 : k' ≤ top128) (a : List (Int × Int)) :
    ∃ (z0 z1 z2 z3 z4 z5 : Int) (f : Nat → Nat) (err : Int), (∀ W (ad bd : Option Addr) (n m ca cb : Nat), InAt W ad n a → InAt W bd m b → Calls Tryz.prog 14 #[TV6 c e k ad n ca, TV6 c' e' k' bd m cb] W (TalZ z0 z1 z2 z3 z4 z5 f err W)) ∧ (∀ W (ad bd : Option Addr) (n m ca cb : Nat), InAt W ad n a → InAt W bd m b → Calls Tryz.prog 16 #[TV6 c e k ad n ca, TV6 c' e' k' bd m cb] W (TalZ z0 z1 z2 z3 z4 z5 f err W))
      ∧ (∀ W (ao bo : Option Addr) (L M ca cb : Nat), SkAt W ao L f → SkAt W bo M f → Calls Tryz.prog 19 #[.agg #[.int .u64 z0, .int .u64 z1, .int .u64 z2, .int .u64 z3, .int .u64 z4, .int .u64 z5, .slice ao L ca], .agg #[.int .u64 z0, .int .u64 z1, .int .u64 z2, .int .u64 z3, .int .u64 z4, .int .u64 z5, .slice bo M cb]] W fun x w' => x = .returned (.bool true) ∧ Below W.heap.size W w') := by
  cases hab : chkF (-1) a && chkF (-1) b with
  | false =>
    refine ⟨0, 0, 0, 0, 0, 0, fun _ => 0, 131, fun W ad bd n m ca cb hA hB => ?_, fun W ad bd n m ca cb hA hB => ?_, fun W ao bo L M ca cb h1 h2 => ?_⟩
    · exact (cPlus_no ad bd n m ca cb a b c e k c' e' k' W hA hB hab).mono fun _ _ h => TalN.uni h
    · exact (rPlus_no ad bd n m ca cb a b c e k c' e' k' W hA hB hab).mono fun _ _ h => TalN.uni h
    · exact sameT_sk ao bo L M ca cb _ _ 0 0 0 W h1 h2 (fun _ _ => rfl)
  | true =>
    obtain ⟨ha, hb⟩ := Bool.and_eq_true_iff.1 hab
    refine ⟨hi64 (addT c c'), lo64 (addT c c'), hi64 (addT e e'), lo64 (addT e e'), hi64 (addT k k'), lo64 (addT k k'), minF (cntF a) (cntF b), 0, fun W ad bd n m ca cb hA hB => ?_, fun W ad bd n m ca cb hA hB => ?_, fun W ao bo L M ca cb h1 h2 => ?_⟩
    · exact (cPlus_ok ad bd n m ca cb _ _ c e k c' e' k' W (hA.sk2 ha) (hB.sk2 hb) b1 b2 b3 b4 b5 b6).mono fun _ _ h => TalP.uni h
    · exact (rPlus_ok ad bd n m ca cb _ _ c e k c' e' k' W (hA.sk2 ha) (hB.sk2 hb) b1 b2 b3 b4 b5 b6).mono fun _ _ h => TalP.uni h
    · exact sameT_sk ao bo L M ca cb _ _ _ _ _ W h1 h2 (fun _ _ => rfl)
/-- Minus likewise. -/
theorem minus_uni (b : List (Int × Int)) (c e k c' e' k' : Nat) (b1 : c ≤ top128) (b2 : e ≤ top128) (b3 : k ≤ top128) (a : List (Int × Int)) :
    ∃ (z0 z1 z2 z3 z4 z5 : Int) (f : Nat → Nat) (err : Int), (∀ W (ad bd : Option Addr) (n m ca cb : Nat), InAt W ad n a → InAt W bd m b → Calls Tryz.prog 15 #[TV6 c e k ad n ca, TV6 c' e' k' bd m cb] W (TalZ z0 z1 z2 z3 z4 z5 f err W)) ∧ (∀ W (ad bd : Option Addr) (n m ca cb : Nat), InAt W ad n a → InAt W bd m b → Calls Tryz.prog 17 #[TV6 c e k ad n ca, TV6 c' e' k' bd m cb] W (TalZ z0 z1 z2 z3 z4 z5 f err W))
      ∧ (∀ W (ao bo : Option Addr) (L M ca cb : Nat), SkAt W ao L f → SkAt W bo M f → Calls Tryz.prog 19 #[.agg #[.int .u64 z0, .int .u64 z1, .int .u64 z2, .int .u64 z3, .int .u64 z4, .int .u64 z5, .slice ao L ca], .agg #[.int .u64 z0, .int .u64 z1, .int .u64 z2, .int .u64 z3, .int .u64 z4, .int .u64 z5, .slice bo M cb]] W fun x w' => x = .returned (.bool true) ∧ Below W.heap.size W w') := by
  cases hab : chkF (-1) a && chkF (-1) b with
  | false =>
    refine ⟨0, 0, 0, 0, 0, 0, fun _ => 0, 131, fun W ad bd n m ca cb hA hB => ?_, fun W ad bd n m ca cb hA hB => ?_, fun W ao bo L M ca cb h1 h2 => ?_⟩
    · exact (cMinus_no ad bd n m ca cb a b c e k c' e' k' W hA hB hab).mono fun _ _ h => TalN.uni h
    · exact (rMinus_no ad bd n m ca cb a b c e k c' e' k' W hA hB hab).mono fun _ _ h => TalN.uni h
    · exact sameT_sk ao bo L M ca cb _ _ 0 0 0 W h1 h2 (fun _ _ => rfl)
  | true =>
    obtain ⟨ha, hb⟩ := Bool.and_eq_true_iff.1 hab
    by_cases hx : (∀ i, i < 1920 → cntF b i ≤ cntF a i) ∧ c' ≤ c ∧ e' ≤ e ∧ k' ≤ k
    · obtain ⟨hle, l1, l2, l3⟩ := hx
      refine ⟨hi64 (c - c'), lo64 (c - c'), hi64 (e - e'), lo64 (e - e'), hi64 (k - k'), lo64 (k - k'), fun i => cntF a i - cntF b i, 0, fun W ad bd n m ca cb hA hB => ?_, fun W ad bd n m ca cb hA hB => ?_, fun W ao bo L M ca cb h1 h2 => ?_⟩
      · exact (cMinus_ok ad bd n m ca cb _ _ c e k c' e' k' W (hA.sk2 ha) (hB.sk2 hb) b1 b2 b3 l1 l2 l3 hle).mono fun _ _ h => TalP.uni h
      · exact (rMinus_ok ad bd n m ca cb _ _ c e k c' e' k' W (hA.sk2 ha) (hB.sk2 hb) b1 b2 b3 l1 l2 l3 hle).mono fun _ _ h => TalP.uni h
      · exact sameT_sk ao bo L M ca cb _ _ _ _ _ W h1 h2 (fun _ _ => rfl)
    · refine ⟨0, 0, 0, 0, 0, 0, fun _ => 0, 141, fun W ad bd n m ca cb hA hB => ?_, fun W ad bd n m ca cb hA hB => ?_, fun W ao bo L M ca cb h1 h2 => ?_⟩
      · exact (cMinus_not ad bd n m ca cb _ _ c e k c' e' k' W (hA.sk2 ha) (hB.sk2 hb) hx).mono fun _ _ h => TalN.uni h
      · exact (rMinus_not ad bd n m ca cb _ _ c e k c' e' k' W (hA.sk2 ha) (hB.sk2 hb) hx).mono fun _ _ h => TalN.uni h
      · exact sameT_sk ao bo L M ca cb _ _ 0 0 0 W h1 h2 (fun _ _ => rfl)
theorem OneP.uni {x : Cal} {w w' : World} {e : Ending} (h : OneP x w e w') : OneZ (hi64 1) (lo64 1) (hi64 (failN x)) (lo64 (failN x)) (hi64 (tookN x)) (lo64 (tookN x)) (oneC x) w e w' := by
  obtain ⟨ao, cp, rfl, h1, h2, h3⟩ := h
  exact ⟨ao, 1, cp, rfl, h1, h3, h2⟩
theorem one_uni (x : Cal) (hx : 0 ≤ x.2.2.2.2 ∧ x.2.2.2.2 < 18446744073709551616) :
    ∃ (z0 z1 z2 z3 z4 z5 : Int) (f : Nat → Nat), (∀ W, Calls Tryz.prog 13 #[.agg (calL x).toArray] W (OneZ z0 z1 z2 z3 z4 z5 f W)) ∧ (∀ W, Calls Tryz.prog 18 #[.agg (calL x).toArray] W (OneZ z0 z1 z2 z3 z4 z5 f W))
      ∧ (∀ W (ao bo : Option Addr) (L M ca cb : Nat), SkAt W ao L f → SkAt W bo M f → Calls Tryz.prog 19 #[.agg #[.int .u64 z0, .int .u64 z1, .int .u64 z2, .int .u64 z3, .int .u64 z4, .int .u64 z5, .slice ao L ca], .agg #[.int .u64 z0, .int .u64 z1, .int .u64 z2, .int .u64 z3, .int .u64 z4, .int .u64 z5, .slice bo M cb]] W fun x w' => x = .returned (.bool true) ∧ Below W.heap.size W w') :=
  ⟨_, _, _, _, _, _, oneC x, fun W => (cOne_any x hx W).mono fun _ _ h => OneP.uni h, fun W => (rOne x hx W).mono fun _ _ h => OneP.uni h, fun W ao bo L M ca cb h1 h2 => sameT_sk ao bo L M ca cb _ _ _ _ _ W h1 h2 (fun _ _ => rfl)⟩
end Go.Proofs.YtkpkdikogoalkaaGreatDoor.sk
