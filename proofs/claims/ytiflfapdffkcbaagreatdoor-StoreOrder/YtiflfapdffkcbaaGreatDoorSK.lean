/-
  SK.
-/
import Derived.Test.YtiflfapdffkcbaaGreatDoorSIq
namespace Go.Proofs.YtiflfapdffkcbaaGreatDoor
open Go.RowKit Go.Maps Go.WideMaps
set_option maxRecDepth 100000

def spO (lo id e : Int) : Sp := ⟨0, lo, id, 0, [], ⟨#[115]⟩, ⟨#[111]⟩, 0, 0, 0, e, [], []⟩
def pl0 : Pl := ⟨none, 0, none, 0, none, 0⟩
theorem at0 (w : World) (lo id e : Int) : SpAt w (spO lo id e) pl0 :=
  ⟨⟨rfl, fun j u hj => by simp [spO, intsV] at hj⟩, ⟨rfl, fun h => by cases h⟩, ⟨rfl, fun h => by cases h⟩, by simp [spO], by simp [spO], by simp [spO]⟩
theorem small0 (lo id e : Int) : (spO lo id e).Small := ⟨by simp only [spO]; decide, by simp only [spO]; decide, (fun _ h => by cases h), (fun _ h => by cases h)⟩
theorem fits0 (lo id e : Int) (h1 : 0 ≤ lo ∧ lo < 18446744073709551616) (h2 : 0 ≤ id ∧ id < 18446744073709551616) : (spO lo id e).Fits :=
  ⟨by simp [spO], h1, h2, by simp [spO], (fun _ h => by cases h), (fun _ h => by cases h)⟩
theorem one_any (lo id e : Int) (w : World) : Calls Tryz.prog 17 #[.int .u64 lo, .int .u64 id, .int .i64 e] w fun r w' => r = .returned (.agg #[.int .u64 0, .int .u64 lo, .int .u64 id, .int .u64 0, .slice none 0 0, .string ⟨#[115]⟩, .string ⟨#[111]⟩, .int .i64 0, .int .i64 0, .int .i64 0, .int .i64 e, .slice none 0 0, .slice none 0 0]) ∧ w' = w.alloc (.cells #[.int .u64 0, .int .u64 lo, .int .u64 id, .int .u64 0, .slice none 0 0, .string ⟨#[115]⟩, .string ⟨#[111]⟩, .int .i64 0, .int .i64 0, .int .i64 0, .int .i64 e, .slice none 0 0, .slice none 0 0] 41) := by
  go_enter Tryz.func17, Tryz.ntmps17
  go_wp2
  go_returns
  exact ⟨rfl, rfl⟩
theorem sps1 {w : World} {g : Nat} {lo id e : Int} (h : w.heap[g]? = some (.cells #[.int .u64 0, .int .u64 lo, .int .u64 id, .int .u64 0, .slice none 0 0, .string ⟨#[115]⟩, .string ⟨#[111]⟩, .int .i64 0, .int .i64 0, .int .i64 0, .int .i64 e, .slice none 0 0, .slice none 0 0] 41 (0, 0))) : SpsAt w (some ⟨g, 0, none⟩) 1 [spO lo id e] (fun _ => pl0) := by
  refine ⟨rfl, fun _ => ⟨g, 0, rfl, fun i hi j u hu => ?_⟩, fun i hi => ?_⟩
  · have : i = 0 := by simp at hi; omega
    subst this
    simp only [Nat.zero_mul, Nat.add_zero, Nat.zero_add]
    exact blk_cell h j hu
  · have : i = 0 := by simp at hi; omega
    subst this
    exact at0 w lo id e
theorem sps2 {w : World} {g : Nat} {lo id e lo' id' e' : Int} (h : w.heap[g]? = some (.cells #[.int .u64 0, .int .u64 lo, .int .u64 id, .int .u64 0, .slice none 0 0, .string ⟨#[115]⟩, .string ⟨#[111]⟩, .int .i64 0, .int .i64 0, .int .i64 0, .int .i64 e, .slice none 0 0, .slice none 0 0, .int .u64 0, .int .u64 lo', .int .u64 id', .int .u64 0, .slice none 0 0, .string ⟨#[115]⟩, .string ⟨#[111]⟩, .int .i64 0, .int .i64 0, .int .i64 0, .int .i64 e', .slice none 0 0, .slice none 0 0] 41 (0, 0))) : SpsAt w (some ⟨g, 0, none⟩) 2 [spO lo id e, spO lo' id' e'] (fun _ => pl0) := by
  refine ⟨rfl, fun _ => ⟨g, 0, rfl, fun i hi j u hu => ?_⟩, fun i hi => ?_⟩
  · have hj : j < 13 := by
      have := (Array.getElem?_eq_some_iff.1 hu).1
      exact this
    have hc : i = 0 ∨ i = 1 := by simp at hi; omega
    rcases hc with rfl | rfl
    · refine blk_cell h _ ?_
      rw [← hu]
      match j, hj with
      | 0, _ => rfl
      | 1, _ => rfl
      | 2, _ => rfl
      | 3, _ => rfl
      | 4, _ => rfl
      | 5, _ => rfl
      | 6, _ => rfl
      | 7, _ => rfl
      | 8, _ => rfl
      | 9, _ => rfl
      | 10, _ => rfl
      | 11, _ => rfl
      | 12, _ => rfl
    · refine blk_cell h _ ?_
      rw [← hu]
      match j, hj with
      | 0, _ => rfl
      | 1, _ => rfl
      | 2, _ => rfl
      | 3, _ => rfl
      | 4, _ => rfl
      | 5, _ => rfl
      | 6, _ => rfl
      | 7, _ => rfl
      | 8, _ => rfl
      | 9, _ => rfl
      | 10, _ => rfl
      | 11, _ => rfl
      | 12, _ => rfl
  · have hc : i = 0 ∨ i = 1 := by simp at hi; omega
    rcases hc with rfl | rfl
    · exact at0 w lo id e
    · exact at0 w lo' id' e'
theorem put_here (base s b : Nat) (M : Tc → Nat) (T : List Tc) (X : List It) (W : World) (Y : List Sp) (g : Nat) (cs : Array Value) (hg : W.heap[g]? = some (.cells cs 41 (0, 0))) (hsp : ∀ W' : World, W'.heap[g]? = some (.cells cs 41 (0, 0)) → SpsAt W' (some ⟨g, 0, none⟩) Y.length Y (fun _ => pl0)) (h : StoreAt W s b M T X) (hgs : g ≠ s) (low : ∀ k, FT s b M T k → base ≤ k) (hb : base ≤ W.heap.size) (hF : ∀ a ∈ Y, a.Fits) (hS : ∀ a ∈ Y, a.Small) (hT : Tabs W) (hx : X.length + Y.length < 1000000000000) (hfit : fitsL (spsX X) Y = 0) :
    Calls Tryz.prog 8 #[.pointer (some ⟨s, 0, none⟩), .slice (some ⟨g, 0, none⟩) Y.length Y.length] W fun e w' => ∃ r M' T' X', e = .returned (.tuple #[.slice (some ⟨r, 0, none⟩) Y.length Y.length, .int .i64 0]) ∧ StoreAt w' s b M' T' X' ∧ spsX X' = (runP (spsX X) Y).1 ∧ w'.heap[r]? = some (.cells (chC (runP (spsX X) Y).2 0) 51 (0, 0)) ∧ Below base W w' ∧ (∀ k, FT s b M' T' k → base ≤ k) ∧ (∀ j cs ty rr, W.heap[j]? = some (.cells cs ty rr) → j ≠ s → w'.heap[j]? = W.heap[j]?) ∧ r ≠ s := by
  have nF : ∀ j cs ty rr, W.heap[j]? = some (.cells cs ty rr) → j ≠ s → ¬ FT s b M T j := fun j cs ty rr hj hjs hF => by
    rcases hF with e | e | ⟨t, ht, e⟩
    · exact hjs e
    · exact (h.nest.not hj).1 e.symm
    · exact (h.nest.not hj).2 t ht e
  refine (putO_any s b M T X _ _ Y (fun _ => pl0) W h (fun W' hu => hsp W' ((hu.block g (lt_of_block hg) (nF g _ _ _ hg hgs)).trans hg)) hF hS hT hx (by rw [fits_sps]; exact hfit)).mono ?_
  rintro e w' ⟨r, M', T', X', rfl, hP⟩
  refine ⟨r, M', T', X', rfl, hP.st, ?_, ?_, hP.upd.below hb (fun k hk hF => by have := low k hF; omega), fun k hk => ?_, fun j cs ty rr hj hjs => hP.upd.block j (lt_of_block hj) (nF j cs ty rr hj hjs), ?_⟩
  · have := hP.sps
    rw [List.take_length] at this
    exact this
  · have := hP.row
    rw [List.take_length, Nat.sub_self] at this
    exact this
  · rcases hP.ft k hk with hk | hk
    · exact low k hk
    · omega
  · have := hP.low
    have := hP.slow
    omega

theorem fitA : fitsL [] [spO 1 1 5, spO 1 2 5] = 0 := by decide +kernel
theorem runA : runP [] [spO 1 1 5, spO 1 2 5] = ([spO 1 1 5, spO 1 2 5], [0, 0]) := by
  have e1 : stP ([], []) (spO 1 1 5) = ([spO 1 1 5], [0]) := rfl
  have f2 : findL [spO 1 1 5] (nmS (spO 1 2 5)) = none := by decide +kernel
  have e2 : stP ([spO 1 1 5], [0]) (spO 1 2 5) = ([spO 1 1 5, spO 1 2 5], [0, 0]) := by unfold stP putLs becI; simp only [f2]; rfl
  show stP (stP ([], []) (spO 1 1 5)) (spO 1 2 5) = _
  rw [e1, e2]
theorem fitB : fitsL [spO 1 1 5, spO 1 2 5] [spO 1 1 6, spO 1 1 5] = 0 := by decide +kernel
theorem cmp65 : cmpP (spO 1 1 6) (spO 1 1 5) = 1 := by decide +kernel
theorem cmp56 : cmpP (spO 1 1 5) (spO 1 1 6) = -1 := by decide +kernel
theorem nm_ne : nmS (spO 1 2 5) ≠ nmS (spO 1 1 6) := by decide
theorem runB : runP [spO 1 1 5, spO 1 2 5] [spO 1 1 6, spO 1 1 5] = ([spO 1 1 6, spO 1 2 5], [1, 2]) := by
  have f1 : findL [spO 1 1 5, spO 1 2 5] (nmS (spO 1 1 6)) = some (spO 1 1 5) := rfl
  have f2 : findL [spO 1 1 6, spO 1 2 5] (nmS (spO 1 1 5)) = some (spO 1 1 6) := rfl
  have m1 : [spO 1 1 5, spO 1 2 5].map (fun z => if nmS z = nmS (spO 1 1 6) then spO 1 1 6 else z) = [spO 1 1 6, spO 1 2 5] := by
    simp only [List.map, if_neg nm_ne]
    rfl
  have e1 : stP ([spO 1 1 5, spO 1 2 5], []) (spO 1 1 6) = ([spO 1 1 6, spO 1 2 5], [1]) := by
    unfold stP putLs becI
    simp only [f1, cmp65, m1]
    rfl
  have e2 : stP ([spO 1 1 6, spO 1 2 5], [1]) (spO 1 1 5) = ([spO 1 1 6, spO 1 2 5], [1, 2]) := by
    unfold stP putLs becI
    simp only [f2, cmp56]
    rfl
  show stP (stP ([spO 1 1 5, spO 1 2 5], []) (spO 1 1 6)) (spO 1 1 5) = _
  rw [e1, e2]
theorem fitC (L : List Sp) : fitsL L [spO 0 1 5] = 41 := rfl
theorem rowAB : chC [0, 0] 0 = #[.int .i64 0, .int .i64 0] := rfl
theorem rowCD : chC [1, 2] 0 = #[.int .i64 1, .int .i64 2] := rfl
theorem u64c (n : Int) (h : n = 0 ∨ n = 1 ∨ n = 2) : 0 ≤ n ∧ n < 18446744073709551616 := by omega
/-- On the way through alive. -/
structure Alv (w W : World) (M : Tc → Nat) (T : List Tc) (X : List It) (L : List Sp) : Prop where
  st : StoreAt W (w.heap.size + 1) w.heap.size M T X
  sps : spsX X = L
  below : Below w.heap.size w W
  low : ∀ k, FT (w.heap.size + 1) w.heap.size M T k → w.heap.size ≤ k
theorem Alv.step {w W W' : World} {M : Tc → Nat} {T : List Tc} {X : List It} {L : List Sp} (h : Alv w W M T X L) (hb : Below W.heap.size W W') : Alv w W' M T X L :=
  ⟨h.st.below hb, h.sps, h.below.trans (hb.mono h.below.size), h.low⟩
theorem Alv.len {w W : World} {M : Tc → Nat} {T : List Tc} {X : List It} {L : List Sp} (h : Alv w W M T X L) : X.length = L.length := by rw [← h.sps]; simp [spsX]

theorem putA (w W : World) (M : Tc → Nat) (T : List Tc) (X : List It) (hT : Tabs w) (h : Alv w W M T X []) :
    Calls Tryz.prog 8 #[.pointer (some ⟨w.heap.size + 1, 0, none⟩),   .slice (some ⟨W.heap.size + 1 + 1, 0, none⟩) 2 2] ((((W).alloc (.cells #[.int .u64 0, .int .u64 1, .int .u64 1, .int .u64 0, .slice none 0 0, .string ⟨#[115]⟩, .string ⟨#[111]⟩, .int .i64 0, .int .i64 0, .int .i64 0, .int .i64 5, .slice none 0 0, .slice none 0 0] 41)).alloc (.cells #[.int .u64 0, .int .u64 1, .int .u64 2, .int .u64 0, .slice none 0 0, .string ⟨#[115]⟩, .string ⟨#[111]⟩, .int .i64 0, .int .i64 0, .int .i64 0, .int .i64 5, .slice none 0 0, .slice none 0 0] 41)).alloc (.cells #[.int .u64 0, .int .u64 1, .int .u64 1, .int .u64 0, .slice none 0 0, .string ⟨#[115]⟩, .string ⟨#[111]⟩, .int .i64 0, .int .i64 0, .int .i64 0, .int .i64 5, .slice none 0 0, .slice none 0 0, .int .u64 0, .int .u64 1, .int .u64 2, .int .u64 0, .slice none 0 0, .string ⟨#[115]⟩, .string ⟨#[111]⟩, .int .i64 0, .int .i64 0, .int .i64 0, .int .i64 5, .slice none 0 0, .slice none 0 0] 41)) fun e w' => ∃ r M' T' X', e = .returned (.tuple #[.slice (some ⟨r, 0, none⟩) 2 2, .int .i64 0]) ∧ Alv w w' M' T' X' [spO 1 1 5, spO 1 2 5] ∧ w'.heap[r]? = some (.cells #[.int .i64 0, .int .i64 0] 51 (0, 0)) ∧ r ≠ w.heap.size + 1 ∧ (∀ j cs ty rr, W.heap[j]? = some (.cells cs ty rr) → j ≠ w.heap.size + 1 → w'.heap[j]? = W.heap[j]?) := by
  have b1 : Below W.heap.size W ((((W).alloc (.cells #[.int .u64 0, .int .u64 1, .int .u64 1, .int .u64 0, .slice none 0 0, .string ⟨#[115]⟩, .string ⟨#[111]⟩, .int .i64 0, .int .i64 0, .int .i64 0, .int .i64 5, .slice none 0 0, .slice none 0 0] 41)).alloc (.cells #[.int .u64 0, .int .u64 1, .int .u64 2, .int .u64 0, .slice none 0 0, .string ⟨#[115]⟩, .string ⟨#[111]⟩, .int .i64 0, .int .i64 0, .int .i64 0, .int .i64 5, .slice none 0 0, .slice none 0 0] 41)).alloc (.cells #[.int .u64 0, .int .u64 1, .int .u64 1, .int .u64 0, .slice none 0 0, .string ⟨#[115]⟩, .string ⟨#[111]⟩, .int .i64 0, .int .i64 0, .int .i64 0, .int .i64 5, .slice none 0 0, .slice none 0 0, .int .u64 0, .int .u64 1, .int .u64 2, .int .u64 0, .slice none 0 0, .string ⟨#[115]⟩, .string ⟨#[111]⟩, .int .i64 0, .int .i64 0, .int .i64 0, .int .i64 5, .slice none 0 0, .slice none 0 0] 41)) := (((Below.refl _ _).alloc (Nat.le_refl _) _).alloc (by simp) _).alloc (by simp; omega) _
  have hA := h.step b1
  have hs := lt_of_block h.st.block
  have hgb : ((((W).alloc (.cells #[.int .u64 0, .int .u64 1, .int .u64 1, .int .u64 0, .slice none 0 0, .string ⟨#[115]⟩, .string ⟨#[111]⟩, .int .i64 0, .int .i64 0, .int .i64 0, .int .i64 5, .slice none 0 0, .slice none 0 0] 41)).alloc (.cells #[.int .u64 0, .int .u64 1, .int .u64 2, .int .u64 0, .slice none 0 0, .string ⟨#[115]⟩, .string ⟨#[111]⟩, .int .i64 0, .int .i64 0, .int .i64 0, .int .i64 5, .slice none 0 0, .slice none 0 0] 41)).alloc (.cells #[.int .u64 0, .int .u64 1, .int .u64 1, .int .u64 0, .slice none 0 0, .string ⟨#[115]⟩, .string ⟨#[111]⟩, .int .i64 0, .int .i64 0, .int .i64 0, .int .i64 5, .slice none 0 0, .slice none 0 0, .int .u64 0, .int .u64 1, .int .u64 2, .int .u64 0, .slice none 0 0, .string ⟨#[115]⟩, .string ⟨#[111]⟩, .int .i64 0, .int .i64 0, .int .i64 0, .int .i64 5, .slice none 0 0, .slice none 0 0] 41)).heap[W.heap.size + 2]? = some (.cells #[.int .u64 0, .int .u64 1, .int .u64 1, .int .u64 0, .slice none 0 0, .string ⟨#[115]⟩, .string ⟨#[111]⟩, .int .i64 0, .int .i64 0, .int .i64 0, .int .i64 5, .slice none 0 0, .slice none 0 0, .int .u64 0, .int .u64 1, .int .u64 2, .int .u64 0, .slice none 0 0, .string ⟨#[115]⟩, .string ⟨#[111]⟩, .int .i64 0, .int .i64 0, .int .i64 0, .int .i64 5, .slice none 0 0, .slice none 0 0] 41 (0, 0)) := alloc_at (by rw [World.size_alloc, World.size_alloc])
  have P := put_here w.heap.size (w.heap.size + 1) w.heap.size M T X _ [spO 1 1 5, spO 1 2 5] (W.heap.size + 2) _ hgb (fun W' h' => sps2 h') hA.st (by omega) hA.low hA.below.size (by intro a ha; simp at ha; rcases ha with rfl | rfl <;> exact fits0 _ _ _ (u64c _ (by omega)) (u64c _ (by omega))) (by intro a ha; simp at ha; rcases ha with rfl | rfl <;> exact small0 _ _ _) (hT.below hA.below) (by rw [hA.len]; simp) (by rw [hA.sps]; exact fitA)
  refine P.mono ?_
  rintro e w' ⟨r, M', T', X', rfl, q1, q2, q3, q4, q5, q6, q7⟩
  rw [hA.sps, runA] at q2 q3
  exact ⟨r, M', T', X', rfl, ⟨q1, q2, hA.below.trans q4, q5⟩, q3, q7, fun j cs ty rr hj hjs => (q6 j cs ty rr ((b1.block j (lt_of_block hj)).trans hj) hjs).trans (b1.block j (lt_of_block hj))⟩

theorem putB (w W : World) (M : Tc → Nat) (T : List Tc) (X : List It) (hT : Tabs w) (h : Alv w W M T X [spO 1 1 5, spO 1 2 5]) :
    Calls Tryz.prog 8 #[.pointer (some ⟨w.heap.size + 1, 0, none⟩),   .slice (some ⟨W.heap.size + 1 + 1, 0, none⟩) 2 2] ((((W).alloc (.cells #[.int .u64 0, .int .u64 1, .int .u64 1, .int .u64 0, .slice none 0 0, .string ⟨#[115]⟩, .string ⟨#[111]⟩, .int .i64 0, .int .i64 0, .int .i64 0, .int .i64 6, .slice none 0 0, .slice none 0 0] 41)).alloc (.cells #[.int .u64 0, .int .u64 1, .int .u64 1, .int .u64 0, .slice none 0 0, .string ⟨#[115]⟩, .string ⟨#[111]⟩, .int .i64 0, .int .i64 0, .int .i64 0, .int .i64 5, .slice none 0 0, .slice none 0 0] 41)).alloc (.cells #[.int .u64 0, .int .u64 1, .int .u64 1, .int .u64 0, .slice none 0 0, .string ⟨#[115]⟩, .string ⟨#[111]⟩, .int .i64 0, .int .i64 0, .int .i64 0, .int .i64 6, .slice none 0 0, .slice none 0 0, .int .u64 0, .int .u64 1, .int .u64 1, .int .u64 0, .slice none 0 0, .string ⟨#[115]⟩, .string ⟨#[111]⟩, .int .i64 0, .int .i64 0, .int .i64 0, .int .i64 5, .slice none 0 0, .slice none 0 0] 41)) fun e w' => ∃ r M' T' X', e = .returned (.tuple #[.slice (some ⟨r, 0, none⟩) 2 2, .int .i64 0]) ∧ Alv w w' M' T' X' [spO 1 1 6, spO 1 2 5] ∧ w'.heap[r]? = some (.cells #[.int .i64 1, .int .i64 2] 51 (0, 0)) ∧ r ≠ w.heap.size + 1 ∧ (∀ j cs ty rr, W.heap[j]? = some (.cells cs ty rr) → j ≠ w.heap.size + 1 → w'.heap[j]? = W.heap[j]?) := by
  have b1 : Below W.heap.size W ((((W).alloc (.cells #[.int .u64 0, .int .u64 1, .int .u64 1, .int .u64 0, .slice none 0 0, .string ⟨#[115]⟩, .string ⟨#[111]⟩, .int .i64 0, .int .i64 0, .int .i64 0, .int .i64 6, .slice none 0 0, .slice none 0 0] 41)).alloc (.cells #[.int .u64 0, .int .u64 1, .int .u64 1, .int .u64 0, .slice none 0 0, .string ⟨#[115]⟩, .string ⟨#[111]⟩, .int .i64 0, .int .i64 0, .int .i64 0, .int .i64 5, .slice none 0 0, .slice none 0 0] 41)).alloc (.cells #[.int .u64 0, .int .u64 1, .int .u64 1, .int .u64 0, .slice none 0 0, .string ⟨#[115]⟩, .string ⟨#[111]⟩, .int .i64 0, .int .i64 0, .int .i64 0, .int .i64 6, .slice none 0 0, .slice none 0 0, .int .u64 0, .int .u64 1, .int .u64 1, .int .u64 0, .slice none 0 0, .string ⟨#[115]⟩, .string ⟨#[111]⟩, .int .i64 0, .int .i64 0, .int .i64 0, .int .i64 5, .slice none 0 0, .slice none 0 0] 41)) := (((Below.refl _ _).alloc (Nat.le_refl _) _).alloc (by simp) _).alloc (by simp; omega) _
  have hA := h.step b1
  have hs := lt_of_block h.st.block
  have hgb : ((((W).alloc (.cells #[.int .u64 0, .int .u64 1, .int .u64 1, .int .u64 0, .slice none 0 0, .string ⟨#[115]⟩, .string ⟨#[111]⟩, .int .i64 0, .int .i64 0, .int .i64 0, .int .i64 6, .slice none 0 0, .slice none 0 0] 41)).alloc (.cells #[.int .u64 0, .int .u64 1, .int .u64 1, .int .u64 0, .slice none 0 0, .string ⟨#[115]⟩, .string ⟨#[111]⟩, .int .i64 0, .int .i64 0, .int .i64 0, .int .i64 5, .slice none 0 0, .slice none 0 0] 41)).alloc (.cells #[.int .u64 0, .int .u64 1, .int .u64 1, .int .u64 0, .slice none 0 0, .string ⟨#[115]⟩, .string ⟨#[111]⟩, .int .i64 0, .int .i64 0, .int .i64 0, .int .i64 6, .slice none 0 0, .slice none 0 0, .int .u64 0, .int .u64 1, .int .u64 1, .int .u64 0, .slice none 0 0, .string ⟨#[115]⟩, .string ⟨#[111]⟩, .int .i64 0, .int .i64 0, .int .i64 0, .int .i64 5, .slice none 0 0, .slice none 0 0] 41)).heap[W.heap.size + 2]? = some (.cells #[.int .u64 0, .int .u64 1, .int .u64 1, .int .u64 0, .slice none 0 0, .string ⟨#[115]⟩, .string ⟨#[111]⟩, .int .i64 0, .int .i64 0, .int .i64 0, .int .i64 6, .slice none 0 0, .slice none 0 0, .int .u64 0, .int .u64 1, .int .u64 1, .int .u64 0, .slice none 0 0, .string ⟨#[115]⟩, .string ⟨#[111]⟩, .int .i64 0, .int .i64 0, .int .i64 0, .int .i64 5, .slice none 0 0, .slice none 0 0] 41 (0, 0)) := alloc_at (by rw [World.size_alloc, World.size_alloc])
  have P := put_here w.heap.size (w.heap.size + 1) w.heap.size M T X _ [spO 1 1 6, spO 1 1 5] (W.heap.size + 2) _ hgb (fun W' h' => sps2 h') hA.st (by omega) hA.low hA.below.size (by intro a ha; simp at ha; rcases ha with rfl | rfl <;> exact fits0 _ _ _ (u64c _ (by omega)) (u64c _ (by omega))) (by intro a ha; simp at ha; rcases ha with rfl | rfl <;> exact small0 _ _ _) (hT.below hA.below) (by rw [hA.len]; simp) (by rw [hA.sps]; exact fitB)
  refine P.mono ?_
  rintro e w' ⟨r, M', T', X', rfl, q1, q2, q3, q4, q5, q6, q7⟩
  rw [hA.sps, runB] at q2 q3
  exact ⟨r, M', T', X', rfl, ⟨q1, q2, hA.below.trans q4, q5⟩, q3, q7, fun j cs ty rr hj hjs => (q6 j cs ty rr ((b1.block j (lt_of_block hj)).trans hj) hjs).trans (b1.block j (lt_of_block hj))⟩

theorem putC (w W : World) (M : Tc → Nat) (T : List Tc) (X : List It) (L : List Sp) (hT : Tabs w) (h : Alv w W M T X L) (hL : L.length ≤ 10) :
    Calls Tryz.prog 8 #[.pointer (some ⟨w.heap.size + 1, 0, none⟩), .slice (some ⟨W.heap.size + 1, 0, none⟩) 1 1] (((W).alloc (.cells #[.int .u64 0, .int .u64 0, .int .u64 1, .int .u64 0, .slice none 0 0, .string ⟨#[115]⟩, .string ⟨#[111]⟩, .int .i64 0, .int .i64 0, .int .i64 0, .int .i64 5, .slice none 0 0, .slice none 0 0] 41)).alloc (.cells #[.int .u64 0, .int .u64 0, .int .u64 1, .int .u64 0, .slice none 0 0, .string ⟨#[115]⟩, .string ⟨#[111]⟩, .int .i64 0, .int .i64 0, .int .i64 0, .int .i64 5, .slice none 0 0, .slice none 0 0] 41)) fun e w' => e = .returned (.tuple #[.slice none 0 0, .int .i64 41]) ∧ Below W.heap.size W w' := by
  have b1 : Below W.heap.size W (((W).alloc (.cells #[.int .u64 0, .int .u64 0, .int .u64 1, .int .u64 0, .slice none 0 0, .string ⟨#[115]⟩, .string ⟨#[111]⟩, .int .i64 0, .int .i64 0, .int .i64 0, .int .i64 5, .slice none 0 0, .slice none 0 0] 41)).alloc (.cells #[.int .u64 0, .int .u64 0, .int .u64 1, .int .u64 0, .slice none 0 0, .string ⟨#[115]⟩, .string ⟨#[111]⟩, .int .i64 0, .int .i64 0, .int .i64 0, .int .i64 5, .slice none 0 0, .slice none 0 0] 41)) := ((Below.refl _ _).alloc (Nat.le_refl _) _).alloc (by simp) _
  have hA := h.step b1
  have hgb : (((W).alloc (.cells #[.int .u64 0, .int .u64 0, .int .u64 1, .int .u64 0, .slice none 0 0, .string ⟨#[115]⟩, .string ⟨#[111]⟩, .int .i64 0, .int .i64 0, .int .i64 0, .int .i64 5, .slice none 0 0, .slice none 0 0] 41)).alloc (.cells #[.int .u64 0, .int .u64 0, .int .u64 1, .int .u64 0, .slice none 0 0, .string ⟨#[115]⟩, .string ⟨#[111]⟩, .int .i64 0, .int .i64 0, .int .i64 0, .int .i64 5, .slice none 0 0, .slice none 0 0] 41)).heap[W.heap.size + 1]? = some (.cells #[.int .u64 0, .int .u64 0, .int .u64 1, .int .u64 0, .slice none 0 0, .string ⟨#[115]⟩, .string ⟨#[111]⟩, .int .i64 0, .int .i64 0, .int .i64 0, .int .i64 5, .slice none 0 0, .slice none 0 0] 41 (0, 0)) := alloc_at (by rw [World.size_alloc])
  have hfi : fitsI X [spO 0 1 5] = 41 := by rw [fits_sps]; exact fitC _
  have P := putB_any (w.heap.size + 1) w.heap.size M T X (some ⟨W.heap.size + 1, 0, none⟩) 1 [spO 0 1 5] (fun _ => pl0) _ hA.st (sps1 hgb) (by intro a ha; simp at ha; subst ha; exact fits0 _ _ _ (u64c _ (by omega)) (u64c _ (by omega))) (by intro a ha; simp at ha; subst ha; exact small0 _ _ _) (hT.below hA.below) (by rw [hA.len]; omega) (by simp) (by rw [hfi]; decide)
  rw [hfi] at P
  refine P.mono ?_
  rintro e w' ⟨rfl, b⟩
  exact ⟨rfl, b1.trans (b.mono b1.size)⟩
theorem getD (w W : World) (M : Tc → Nat) (T : List Tc) (X : List It) (h : Alv w W M T X [spO 1 1 6, spO 1 2 5]) :
    Calls Tryz.prog 12 #[.pointer (some ⟨w.heap.size + 1, 0, none⟩), .agg #[.int .u64 0, .int .u64 1], .int .u64 1] W fun e w' => ∃ p' : Pl, e = .returned (.tuple #[.agg #[.int .u64 0, .int .u64 1, .int .u64 1, .int .u64 0, .slice p'.la 0 p'.lc, .string ⟨#[115]⟩, .string ⟨#[111]⟩, .int .i64 0, .int .i64 0, .int .i64 0, .int .i64 6, .slice p'.aa 0 p'.ac, .slice p'.ea 0 p'.ec], .bool true]) ∧ Below W.heap.size W w' := by
  have hf : findL (spsX X) ((0, 1), 1) = some (spO 1 1 6) := by rw [h.sps]; rfl
  rw [find_sps] at hf
  obtain ⟨y, hy, e⟩ := Option.map_eq_some_iff.1 hf
  refine (get_found _ _ M T X ((0, 1), 1) ⟨⟨u64c 0 (Or.inl rfl), u64c 1 (Or.inr (Or.inl rfl))⟩, u64c 1 (Or.inr (Or.inl rfl))⟩ y W h.st hy).mono ?_
  rintro e' w' ⟨p', rfl, b⟩
  exact ⟨p', by rw [e]; rfl, b⟩
set_option maxHeartbeats 4000000 in
theorem alive_any (w : World) (hT : Tabs w) :
    Calls Tryz.prog 6 #[] w fun e w' => e = .returned (.bool true) ∧ Below w.heap.size w w' := by
  have NW := new_any w
  have HA0 : Hid (∀ w1, StoreAt w1 (w.heap.size + 1) w.heap.size (fun _ => 0) [] [] → Below w.heap.size w w1 → Alv w w1 (fun _ => 0) [] [] []) := fun w1 s b => ⟨s, rfl, b, fun k hk => by
    rcases hk with rfl | rfl | ⟨t, ht, _⟩
    · omega
    · omega
    · simp at ht⟩
  have HPA : Hid _ := fun W M T X h => putA w W M T X hT h
  have HPB : Hid _ := fun W M T X h => putB w W M T X hT h
  have HPC : Hid _ := fun W M T X h => putC w W M T X [spO 1 1 6, spO 1 2 5] hT h (by simp)
  have HGD : Hid _ := fun W M T X h => getD w W M T X h
  have HCT : Hid (∀ W M T X (o : Obj), Alv w W M T X [spO 1 1 6, spO 1 2 5] → Calls Tryz.prog 9 #[.pointer (some ⟨w.heap.size + 1, 0, none⟩)] (W.alloc o) fun e w' => e = .returned (.int .i64 2) ∧ w' = W.alloc o) := fun W M T X o h => by
    have c := count_any _ _ M T X (W.alloc o) (h.step ((Below.refl _ _).alloc (Nat.le_refl _) o)).st
    rw [show (X.length : Int) = 2 by rw [h.len]; rfl] at c
    exact c
  have HAL : Hid (∀ (W : World) (o : Obj) (r : Nat) (cs : Array Value), W.heap[r]? = some (.cells cs 51 (0, 0)) → (W.alloc o).heap[r]? = some (.cells cs 51 (0, 0))) := fun W o r cs h => (Below.heap_alloc W o r (lt_of_block h)).trans h
  clear hT
  go_enter Tryz.func6, Tryz.ntmps6
  go_wp2_with (first
    | (go_at_call 7; refine NW.mono ?_; clear NW; rintro e w1 ⟨rfl, s1, b1, z1⟩; clear z1; have HA1 : Hid _ := HA0.out w1 s1 b1; have PA := HPA.out w1 _ _ _ HA1.out; clear s1 b1)
    | (go_at_call 17; refine (one_any _ _ _ _).mono ?_; rintro e w' ⟨rfl, rfl⟩)
    | (go_at_call 8; refine PA.mono ?_; clear PA; rintro e w3 ⟨r1, M1, T1, X1, rfl, a3, row1, n1, _⟩; have HR1 : Hid _ := row1; have HN1 : Hid _ := n1; have PB := HPB.out w3 M1 T1 X1 a3; clear row1 n1 a3)
    | (go_at_call 8; refine PB.mono ?_; clear PB; rintro e w4 ⟨r2, M2, T2, X2, rfl, a4, row2, n2, kp⟩; have HR14 : Hid _ := (kp r1 _ _ _ HR1.out HN1.out).trans HR1.out; have HR2 : Hid _ := row2; have HA4 : Hid _ := a4; have PC := HPC.out w4 M2 T2 X2 a4; clear row2 n2 kp a4)
    | (go_at_call 8; refine PC.mono ?_; clear PC; rintro e w5 ⟨rfl, b5⟩; have HA5 : Hid _ := HA4.out.step b5; have HR15 : Hid _ := (b5.block _ (lt_of_block HR14.out)).trans HR14.out; have HR25 : Hid _ := (b5.block _ (lt_of_block HR2.out)).trans HR2.out; have GD := HGD.out w5 M2 T2 X2 HA5.out; clear b5)
    | (go_at_call 12; refine GD.mono ?_; clear GD; rintro e w6 ⟨p', rfl, b6⟩; have HA6 : Hid _ := HA5.out.step b6; have q1 := fun o => blk_cell (HAL.out w6 o r1 _ ((b6.block _ (lt_of_block HR15.out)).trans HR15.out)) 0 rfl; have q2 := fun o => blk_cell (HAL.out w6 o r2 _ ((b6.block _ (lt_of_block HR25.out)).trans HR25.out)) 0 rfl; have q3 := fun o => blk_cell (HAL.out w6 o r2 _ ((b6.block _ (lt_of_block HR25.out)).trans HR25.out)) 1 rfl; clear b6)
    | (go_at_call 9; refine (HCT.out w6 M2 T2 X2 _ HA6.out).mono ?_; rintro e w' ⟨rfl, rfl⟩))
  go_ret
  exact ⟨rfl, (HA6.out.step ((Below.refl _ _).alloc (Nat.le_refl _) _)).below⟩
end Go.Proofs.YtiflfapdffkcbaaGreatDoor
