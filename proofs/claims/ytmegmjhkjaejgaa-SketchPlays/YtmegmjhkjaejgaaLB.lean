/-
  Layer 13 (sketch): SketchPlays: lists that are lent, and written over.
-/
import Derived.Test.YtmegmjhkjaejgaaLA
import Derived.Test.YtmegmjhkjaejgaaMw
import Derived.Handy
namespace Go.Proofs.Ytmegmjhkjaejgaa.sk.pl
open Go Go.RowKit Go.Proofs.Ytmegmjhkjaejgaa.sk
set_option maxRecDepth 100000

theorem barF_get (l : List (Int × Int)) (i : Nat) (h : i < l.length) (j : Nat) (hj : j < 2) : (l.flatMap barC)[i * 2 + j]? = (barC l[i])[j]? := by
  obtain ⟨a, b⟩ := barC_at l i h
  match j, hj with
  | 0, _ => rw [Nat.add_zero, a]; rfl
  | 1, _ => rw [b]; rfl
theorem bar_cells {w : World} {ad : Option Addr} {n : Nat} {l : List (Int × Int)} (h : BarAt w ad n l) : ∀ x, ad = some x → ∀ j v, (l.flatMap barC)[j]? = some v → w.cell? (x.add j) = some v := by
  intro x hx j v hj
  have hjl : j < l.length * 2 := by
    rw [← barC_len]
    exact (List.getElem?_eq_some_iff.mp hj).1
  obtain ⟨b, off, e, hc⟩ := h.lies (by have := h.len; omega)
  rw [hx] at e
  injection e with e
  subst e
  rw [Addr.add_lit]
  have e : j = j / 2 * 2 + j % 2 := by omega
  have h1 := barF_get l (j / 2) (by omega) (j % 2) (by omega)
  rw [← e, hj] at h1
  obtain ⟨c0, c1⟩ := hc (j / 2) (by omega)
  have hr : j % 2 = 0 ∨ j % 2 = 1 := by omega
  rcases hr with hr | hr
  · rw [hr] at h1
    have h2 : v = .int .i64 l[j / 2].1 := by simpa [barC] using h1
    rw [h2, ← c0]
    congr 2
    omega
  · rw [hr] at h1
    have h2 : v = .int .u64 l[j / 2].2 := by simpa [barC] using h1
    rw [h2, ← c1]
    congr 2
    omega
theorem bar_src {w : World} {ad : Option Addr} {n : Nat} {l : List (Int × Int)} (h : BarAt w ad n l) (c : Nat) : Src Try.prog 2 28 (.slice ad n c) n (l.flatMap barC) w := by
  by_cases hn : 0 < n
  · obtain ⟨b, off, rfl, hc⟩ := h.lies hn
    refine Src.ofSlice _ Try.underlying28 _ n c _ (by rw [barC_len, h.len]) ?_ (barC_one l)
    exact fun j u hj => bar_cells h _ rfl j u hj
  · obtain rfl : n = 0 := by omega
    obtain rfl : l = [] := List.eq_nil_of_length_eq_zero h.len
    cases ad with
    | none => exact Src.ofNil _ Try.underlying28 c
    | some a => exact Src.ofSlice _ Try.underlying28 a 0 c [] rfl (fun j u h => by simp at h) (fun u h => by cases h)
/-- A list that is lent, with marks behind it. -/
structure LentAt (base : Nat) (w : World) (g n c : Nat) (l : List (Int × Int)) : Prop where
  own : OwnBar base w (.slice (some ⟨g, 0, none⟩) (n + 2) c) (l ++ [(-71, 0), (-72, 0)])
  len : l.length = n
theorem LentAt.upd {S : Nat → Prop} {base : Nat} {w w' : World} {g n c : Nat} {l : List (Int × Int)} (h : LentAt base w g n c l) (hu : Upd S w w') (hS : ¬ S g) : LentAt base w' g n c l :=
  ⟨ownsRow_upd h.own hu (fun k hk => by simp [Value.ownBlock] at hk; subst hk; exact hS), h.len⟩
theorem LentAt.below {base : Nat} {w w' : World} {g n c : Nat} {l : List (Int × Int)} (h : LentAt base w g n c l) (hb : Below w.heap.size w w') : LentAt base w' g n c l :=
  h.upd (Upd.ofBelow (S := fun _ => False) hb (fun k hk hk' => by omega)) (fun h => h)
theorem LentAt.all {base : Nat} {w : World} {g n c : Nat} {l : List (Int × Int)} (h : LentAt base w g n c l) : BarAt w (some ⟨g, 0, none⟩) (n + 2) (l ++ [(-71, 0), (-72, 0)]) := h.own.at
theorem LentAt.front {base : Nat} {w : World} {g n c : Nat} {l : List (Int × Int)} (h : LentAt base w g n c l) : BarAt w (some ⟨g, 0, none⟩) n l := by
  refine ⟨h.len, fun hn => ?_⟩
  obtain ⟨b, off, e, hc⟩ := h.all.lies (by omega)
  refine ⟨b, off, e, fun i hi => ?_⟩
  have := hc i (by simp; omega)
  rw [List.getElem_append_left hi] at this
  exact this
theorem LentAt.low {base : Nat} {w : World} {g n c : Nat} {l : List (Int × Int)} (h : LentAt base w g n c l) : base ≤ g ∧ g < w.heap.size := by
  rcases h.own.2 with ⟨e, _⟩ | ⟨g', cap, cur, e, hg, hh, _⟩
  · cases e
  · injection e with e _ _
    injection e with e
    injection e with e
    subst e
    exact ⟨hg, lt_of_block hh⟩
theorem LentAt.inn {base : Nat} {w : World} {g n c : Nat} {l : List (Int × Int)} (h : LentAt base w g n c l) (hb : Bin l) : InAt w (some ⟨g, 0, none⟩) n l :=
  ⟨h.front, fun a ha _ => by injection ha with ha; subst ha; exact h.low.2, by have := own_cap h.own; have h2 := h.len; unfold maxLen at this ⊢; simp at this; omega, hb⟩
theorem LentAt.cap {base : Nat} {w : World} {g n c : Nat} {l : List (Int × Int)} (h : LentAt base w g n c l) : n + 2 ≤ c ∧ c ≤ maxLen := by
  have := own_cap h.own
  have h2 := h.len
  simp at this
  omega
def LentP (l : List (Int × Int)) (n : Nat) (w : World) (e : Ending) (w' : World) : Prop := ∃ g c, e = .returned (.slice (some ⟨g, 0, none⟩) n c) ∧ Hid (LentAt w.heap.size w' g n c l) ∧ Below w.heap.size w w'
theorem src_two (w : World) : Src Try.prog 2 28 (.slice (some ⟨w.heap.size, 0, none⟩) 2 2) 2 [.int .i64 (-71), .int .u64 0, .int .i64 (-72), .int .u64 0] (w.alloc (.cells #[.int .i64 (-71), .int .u64 0, .int .i64 (-72), .int .u64 0] 46)) := by
  refine Src.ofSlice _ Try.underlying28 ⟨w.heap.size, 0, none⟩ 2 2 _ rfl ?_ ?_
  · intro j u hj
    match j, hj with
    | 0, hj => simp at hj; subst hj; simp [Addr.add]
    | 1, hj => simp at hj; subst hj; simp [Addr.add]
    | 2, hj => simp at hj; subst hj; simp [Addr.add]
    | 3, hj => simp at hj; subst hj; simp [Addr.add]
    | j + 4, hj => simp at hj
  · intro u hu
    simp at hu
    rcases hu with rfl | rfl | rfl | rfl <;> rfl
theorem own_two {base : Nat} {w : World} {v : Value} {n : Nat} {l : List (Int × Int)} (hl : l.length = n) (h : w.ownsRow base 46 2 v (0 + n + 2) (([] ++ l.flatMap barC) ++ [.int .i64 (-71), .int .u64 0, .int .i64 (-72), .int .u64 0])) : OwnBar base w v (l ++ [(-71, 0), (-72, 0)]) := by
  unfold OwnBar
  rw [List.length_append, hl, List.flatMap_append]
  rw [Nat.zero_add, List.nil_append] at h
  exact h
theorem low_grown {base : Nat} {w w' w0 : World} {v : Value} {n : Nat} {e : TypeId} {xs : List Value} (g : w.grownBy w' v.ownBlock) (h : w0.ownsRow base e 2 v n xs) (hb : base ≤ w.heap.size) : Below base w w' :=
  ((Upd.refl (fun k => v.ownBlock = some k) w).grown g (fun _ _ e => e)).below hb (fun k hk e => by have := (own_block h e).1; omega)
theorem own_head {base : Nat} {w : World} {ao : Option Addr} {n c : Nat} {l : List (Int × Int)} {x y : Int × Int} (h : OwnBar base w (.slice ao n c) (l ++ [x, y])) : ∃ g, ao = some ⟨g, 0, none⟩ := by
  obtain ⟨g, cp, e, _⟩ := own_some h (by simp)
  simp at e
  exact ⟨g, e.1⟩
theorem low_none {w w' : World} (g : w.grownBy w' none) : Below w.heap.size w w' := ((Upd.refl (fun _ => False) w).grown g (fun k _ e => by cases e)).below (Nat.le_refl _) (fun _ _ h => h)
set_option maxHeartbeats 2000000 in
theorem lent_any (ad : Option Addr) (n c : Nat) (l : List (Int × Int)) (w : World) (hA : InAt w ad n l) (hz : n ≤ 2147483647) : Calls Try.prog 5 #[.slice ad n c] w (LentP l n w) := by
  obtain ⟨i0, hi, hz0, hz1, hz2⟩ := info_parts Try.info46
  have HL : Hid (l.length = n) := hA.at_.len
  have HA : Hid _ := hA
  have HE : Hid (∀ ao N cap w', OwnBar w.heap.size w' (.slice ao N cap) (l ++ [(-71, 0), (-72, 0)]) → Below w.heap.size w w' → LentP l n w (.returned (.slice ao n cap)) w') := fun ao N cap w' ho hb => by
    have hl : (l ++ [((-71 : Int), (0 : Int)), (-72, 0)]).length = n + 2 := by rw [List.length_append, HL.out]; rfl
    obtain ⟨g, cp, e, _⟩ := own_some ho (by omega)
    rw [hl] at e
    simp at e
    obtain ⟨rfl, rfl, rfl⟩ := e
    exact ⟨g, cap, rfl, ⟨ho, HL.out⟩, hb⟩
  generalize LentP l n w = R at *
  have hw2 : IntKind.i64.wrap ((n : Int) + 2) = ((n + 2 : Nat) : Int) := by rw [IntKind.wrap_i64]; omega
  have hz' : (n : Int) ≤ 2147483647 := by omega
  clear hA
  go_enter Try.func5, Try.ntmps5
  go_wp2_with (first
    | (at_make; refine wpList_make_own _ rfl _ _ 28 rfl w.heap.size 46 i0 _ 2 Try.underlying28 hi hz0 hz1 .i64 .i64 _ (n + 2) rfl rfl (by omega) (by rw [hz2]; omega) (by unfold maxLen; omega) (Nat.le_refl _) ?_; intro w1 o1 g1; have HO1 : Hid (w1.ownsRow w.heap.size 46 2 (.slice (some ⟨w.heap.size, 0, none⟩) 0 (n + 2)) 0 []) := o1; have HB1 : Hid (Below w.heap.size w w1) := low_none g1; have SR1 := bar_src (HA.out.below HB1.out).at_ c; have q1 := HB1.out.size; clear o1 g1)
    | (at_builtin; refine wpList_appW _ rfl _ _ 28 28 rfl w.heap.size 46 i0 _ 2 16 Try.underlying28 hi hz0 hz1 hz2 rfl _ 0 [] rfl HO1.out _ n _ rfl SR1 (by unfold maxLen; omega) (by omega) q1 ?_; clear SR1 q1; intro v2 w2 o2 g2 m2; obtain ⟨a2, l2, c2, rfl⟩ := row_shape o2; have HO2 : Hid (w2.ownsRow w.heap.size 46 2 (.slice a2 l2 c2) (0 + n) ([] ++ l.flatMap barC)) := o2; have HB2 : Hid (Below w.heap.size w w2) := HB1.out.trans (low_grown g2 HO1.out HB1.out.size); have AL2 := HO2.out.alloc (.cells #[.int .i64 (-71), .int .u64 0, .int .i64 (-72), .int .u64 0] 46); have SR2 := src_two w2; have q2 : w.heap.size ≤ (w2.alloc (.cells #[.int .i64 (-71), .int .u64 0, .int .i64 (-72), .int .u64 0] 46)).heap.size := Nat.le_trans HB2.out.size (Nat.le_of_lt (by simp)); clear o2 g2 m2 HO1)
    | (at_builtin; refine wpList_appW _ rfl _ _ 28 28 rfl w.heap.size 46 i0 _ 2 16 Try.underlying28 hi hz0 hz1 hz2 rfl _ (0 + n) _ rfl AL2 _ 2 _ rfl SR2 (by unfold maxLen; omega) (by omega) q2 ?_; clear AL2 SR2; intro v3 w3 o3 g3 m3; obtain ⟨a3, l3, c3, rfl⟩ := row_shape o3; have HC3 := own_cap o3; have HO3 : Hid (OwnBar w.heap.size w3 (.slice a3 l3 c3) (l ++ [(-71, 0), (-72, 0)])) := own_two HL.out o3; have HB3 : Hid (Below w.heap.size w w3) := (HB2.out.alloc HB2.out.size _).trans (low_grown g3 HO2.out q2); obtain ⟨g5, e5⟩ := own_head HO3.out; subst e5; obtain rfl : l3 = n + 2 := HC3.1.trans (congrArg (· + 2) (Nat.zero_add n)); have hc3 : (n : Int) ≤ (c3 : Int) := Int.ofNat_le.2 (Nat.le_trans (Nat.le_add_right n 2) (Nat.le_trans (Nat.le_of_eq HC3.1) HC3.2.1)); clear HC3 HO2 o3 g3 m3 q2))
  exact HE.out _ _ _ _ HO3.out HB3.out
end Go.Proofs.Ytmegmjhkjaejgaa.sk.pl
