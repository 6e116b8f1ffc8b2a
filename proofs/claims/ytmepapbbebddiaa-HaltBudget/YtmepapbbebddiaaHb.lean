/-
  HaltBudget: stops one beneath the other, and what is left of their budgets.
-/
import Derived.Test.YtmepapbbebddiaaHt
namespace Go.Proofs.Ytmepapbbebddiaa
open Go Go.Conc Go.RowKit Go.MuLone

/-- Stops one beneath the other. -/
structure Bud (W wr : World) (ids : List Nat) (ls : List Int) (va vl : Value) (n₀ lk : Nat) (N : Nat → Nd) (pg : Nat → Option Nat) : Prop where
  fam : Fam wr n₀ lk ids N pg 0
  base : W.heap.size ≤ n₀
  below : Below W.heap.size W wr
  rowA : wr.ownsRow W.heap.size 46 1 va ids.length (ids.map ptrV)
  rowL : wr.ownsRow W.heap.size 3 1 vl ids.length (intsV ls)
  pos : 0 < ids.length
  notA : ∀ g, va.ownBlock = some g → ¬ Foot lk ids N g
  chain : ∀ i x : Nat, ids[i]? = some x → pg x = (if i = 0 then none else ids[i - 1]?)
/-- What is left, and who is cancelled. -/
def BVal (ids : List Nat) (N : Nat → Nd) (ls : List Int) (low : Nat) : Prop :=
  ls.length = ids.length ∧ ∀ i x : Nat, ids[i]? = some x → ls[i]? = some (N x).left ∧ (N x).why = (if i < low then 0 else 31) ∧ 0 ≤ (N x).left ∧ (N x).left ≤ 9223372036854775807

theorem Bud.notL {W wr : World} {ids : List Nat} {ls : List Int} {va vl : Value} {n₀ lk : Nat} {N : Nat → Nd} {pg : Nat → Option Nat} (h : Bud W wr ids ls va vl n₀ lk N pg) : ∀ g, vl.ownBlock = some g → ¬ Foot lk ids N g := fun g hg => by
  obtain ⟨_, _, c, hc⟩ := ownsRow_base h.rowL hg
  exact h.fam.notFoot hc (by decide) (by decide) (by decide)
theorem Bud.turn {W wr w1 : World} {ids : List Nat} {ls : List Int} {va vl : Value} {n₀ lk : Nat} {N N' : Nat → Nd} {pg : Nat → Option Nat} (h : Bud W wr ids ls va vl n₀ lk N pg) (F : Fam w1 n₀ lk ids N' pg 0) (U : Upd (Foot lk ids N) wr w1) (foot : ∀ k, Foot lk ids N' k → Foot lk ids N k ∨ wr.heap.size ≤ k) : Bud W w1 ids ls va vl n₀ lk N' pg := by
  refine ⟨F, h.base, h.below.trans (U.below h.below.size (fun g hg hf => by have := (Foot.range h.fam hf).1; have := h.base; omega)), ownsRow_upd h.rowA U h.notA, ownsRow_upd h.rowL U h.notL, h.pos, ?_, h.chain⟩
  intro g hg hf
  rcases foot g hf with h' | h'
  · exact h.notA g hg h'
  · have := (ownsRow_base h.rowA hg).2.1; omega
theorem Bud.heap {W wr ww : World} {ids : List Nat} {ls : List Int} {va vl : Value} {n₀ lk : Nat} {N : Nat → Nd} {pg : Nat → Option Nat} (h : Bud W wr ids ls va vl n₀ lk N pg) (e : ww.heap = wr.heap) (o : ww.os = wr.os) (t : ww.tape = wr.tape) (u : ww.output = wr.output) : Bud W ww ids ls va vl n₀ lk N pg :=
  h.turn (h.fam.heap e) ⟨o, t, u, by rw [e]; exact Nat.le_refl _, fun _ _ _ => by rw [e]⟩ (fun _ h => Or.inl h)
/-- Only new blocks. -/
theorem Bud.grow {W wr ww : World} {ids : List Nat} {ls : List Int} {va vl : Value} {n₀ lk : Nat} {N : Nat → Nd} {pg : Nat → Option Nat} (h : Bud W wr ids ls va vl n₀ lk N pg) (U : Upd (fun _ => False) wr ww) : Bud W ww ids ls va vl n₀ lk N pg :=
  h.turn (h.fam.upd U (fun _ _ h => h)) (U.mono (fun _ _ h => h.elim)) (fun _ h => Or.inl h)
/-- A number of the list is written. -/
theorem Bud.set {W wr : World} {ids : List Nat} {ls : List Int} {va : Value} {g cap : Nat} {n₀ lk : Nat} {N : Nat → Nd} {pg : Nat → Option Nat} (h : Bud W wr ids ls va (.slice (some ⟨g, 0, none⟩) ids.length cap) n₀ lk N pg) (i : Nat) (v : Int) :
    Bud W (wr.setCell ⟨g, i, none⟩ (.int .i64 v)) ids (ls.set i v) va (.slice (some ⟨g, 0, none⟩) ids.length cap) n₀ lk N pg := by
  obtain ⟨b1, b2, c, hc⟩ := ownsRow_base h.rowL (g := g) rfl
  have U : Upd (fun k => k = g) wr (wr.setCell ⟨g, i, none⟩ (.int .i64 v)) := (Upd.refl (fun k => k = g) wr).setCell (p := ⟨g, i, none⟩) (fun _ => rfl) _
  refine ⟨h.fam.upd U (fun k hf e => h.notL g rfl (e ▸ hf)), h.base, h.below.trans (U.below h.below.size (fun k hk e => by omega)), ?_, ?_, h.pos, h.notA, h.chain⟩
  · exact ownsRow_upd h.rowA U (fun k hk e => ownsRow_ne h.rowA hc (by decide) hk e)
  · have := ownsRow_set h.rowL i (.int .i64 v)
    simpa [intsV, List.map_set] using this

/-- One more beneath the last, in both lists. -/
theorem Bud.more {W wr w1 w2 w3 : World} {ids : List Nat} {ls : List Int} {va vl va' vl' : Value} {n₀ lk : Nat} {N N' : Nat → Nd} {pg : Nat → Option Nat} (h : Bud W wr ids ls va vl n₀ lk N pg) {s : Nat} (hk : ids[ids.length - 1]? = some s) {b : Int}
    (G : Grown1 wr w1 n₀ lk ids N N' pg s b) (A : w2.ownsRow W.heap.size 46 1 va' (ids.length + 1) (ids.map ptrV ++ [ptrV (wr.heap.size + 1)])) (AU : Upd (fun j => va.ownBlock = some j) w1 w2) (AM : Moved w1 va va')
    (L : w3.ownsRow W.heap.size 3 1 vl' (ids.length + 1) (intsV ls ++ [.int .i64 b])) (LU : Upd (fun j => vl.ownBlock = some j) w2 w3) :
    Bud W w3 (ids ++ [wr.heap.size + 1]) (ls ++ [b]) va' vl' n₀ lk N' (pgX pg (wr.heap.size + 1) s) := by
  have hrowA1 : w1.ownsRow W.heap.size 46 1 va ids.length (ids.map ptrV) := ownsRow_upd h.rowA G.upd (fun g hg => h.notA g hg)
  have hrowU1 : w1.ownsRow W.heap.size 3 1 vl ids.length (intsV ls) := ownsRow_upd h.rowL G.upd h.notL
  have hrowU2 : w2.ownsRow W.heap.size 3 1 vl ids.length (intsV ls) := ownsRow_upd hrowU1 AU (fun g hg e => by
    obtain ⟨_, _, c, hc⟩ := ownsRow_base hrowA1 e
    exact ownsRow_ne hrowU1 hc (by decide) hg rfl)
  have hz1 := G.upd.size
  have hnotA1 : ∀ g, va.ownBlock = some g → ¬ Foot lk (ids ++ [wr.heap.size + 1]) N' g := fun g hg hf => by
    rcases G.foot g hf with h' | h'
    · exact h.notA g hg h'
    · have := (ownsRow_base h.rowA hg).2.1; omega
  have F2 : Fam w2 n₀ lk (ids ++ [wr.heap.size + 1]) N' (pgX pg (wr.heap.size + 1) s) 0 := G.fam.upd AU (fun g hf e => hnotA1 g e hf)
  have hnotA2 : ∀ g, va'.ownBlock = some g → ¬ Foot lk (ids ++ [wr.heap.size + 1]) N' g := fun g hg hf => by
    rcases AM with m | ⟨j, m, hj⟩
    · exact hnotA1 g (m.symm.trans hg) hf
    · rw [m] at hg
      injection hg with e
      have := (Foot.range G.fam hf).2
      omega
  have hnotU2 : ∀ g, vl.ownBlock = some g → ¬ Foot lk (ids ++ [wr.heap.size + 1]) N' g := fun g hg => by
    obtain ⟨_, _, c, hc⟩ := ownsRow_base hrowU2 hg
    exact F2.notFoot hc (by decide) (by decide) (by decide)
  have F3 : Fam w3 n₀ lk (ids ++ [wr.heap.size + 1]) N' (pgX pg (wr.heap.size + 1) s) 0 := F2.upd LU (fun g hf e => hnotU2 g e hf)
  have A3 : w3.ownsRow W.heap.size 46 1 va' (ids.length + 1) (ids.map ptrV ++ [ptrV (wr.heap.size + 1)]) := ownsRow_upd A LU (fun g hg e => by
    obtain ⟨_, _, c, hc⟩ := ownsRow_base hrowU2 e
    exact ownsRow_ne A hc (by decide) hg rfl)
  have hWs := h.below.size
  have b1 : Below W.heap.size W w1 := h.below.trans (G.upd.below hWs (fun g hg hf => by have := (Foot.range h.fam hf).1; have := h.base; omega))
  have b2 : Below W.heap.size W w2 := b1.trans (AU.below b1.size (fun g hg e => by have := (ownsRow_base h.rowA e).1; omega))
  have b3 : Below W.heap.size W w3 := b2.trans (LU.below b2.size (fun g hg e => by have := (ownsRow_base h.rowL e).1; omega))
  have hxn : wr.heap.size + 1 ∉ ids := fun hc => by have := h.fam.lt hc; omega
  refine ⟨F3, h.base, b3, by simpa using A3, by simpa using L, by simp, hnotA2, ?_⟩
  intro i x hi
  by_cases hil : i < ids.length
  · rw [List.getElem?_append_left hil] at hi
    have hxne : x ≠ wr.heap.size + 1 := fun e => hxn (e ▸ List.mem_of_getElem? hi)
    have hpx : pgX pg (wr.heap.size + 1) s x = pg x := by unfold pgX; rw [if_neg hxne]
    rw [hpx, h.chain i x hi]
    by_cases hi0 : i = 0
    · rw [if_pos hi0, if_pos hi0]
    · rw [if_neg hi0, if_neg hi0, List.getElem?_append_left (by omega)]
  · have hi' : i = ids.length := by
      have := (List.getElem?_eq_some_iff.1 hi).1
      simp at this
      omega
    subst hi'
    rw [List.getElem?_append_right (Nat.le_refl _)] at hi
    simp at hi
    have hp := h.pos
    rw [if_neg (by omega), List.getElem?_append_left (by omega), hk]
    unfold pgX; rw [if_pos hi.symm]
theorem BVal.more {ids : List Nat} {N N' : Nat → Nd} {ls : List Int} {x : Nat} {b : Int} (h : BVal ids N ls ids.length) (hw : ∀ y ∈ ids, (N' y).why = (N y).why ∧ (N' y).left = (N y).left) (hx : (N' x).why = 0) (hl : (N' x).left = b) (hb : 0 ≤ b ∧ b ≤ 9223372036854775807) : BVal (ids ++ [x]) N' (ls ++ [b]) (ids ++ [x]).length := by
  refine ⟨by simp [h.1], fun i y hi => ?_⟩
  by_cases hil : i < ids.length
  · rw [List.getElem?_append_left hil] at hi
    obtain ⟨h1, h2, h3, h4⟩ := h.2 i y hi
    obtain ⟨w1, w2⟩ := hw y (List.mem_of_getElem? hi)
    rw [List.getElem?_append_left (by rw [h.1]; exact hil), w1, w2]
    rw [if_pos hil] at h2
    exact ⟨h1, by rw [if_pos (by simp; omega)]; exact h2, h3, h4⟩
  · have hi' : i = ids.length := by
      have := (List.getElem?_eq_some_iff.1 hi).1
      simp at this
      omega
    subst hi'
    rw [List.getElem?_append_right (Nat.le_refl _)] at hi
    simp at hi
    subst hi
    rw [← h.1, List.getElem?_append_right (Nat.le_refl _), h.1, if_pos (by simp)]
    exact ⟨by simp [hl], hx, by omega, by omega⟩

/-- The way up. -/
theorem Bud.anc {W wr : World} {ids : List Nat} {ls : List Int} {va vl : Value} {n₀ lk : Nat} {N : Nat → Nd} {pg : Nat → Option Nat} (h : Bud W wr ids ls va vl n₀ lk N pg) : ∀ j k s, ids[k]? = some s → anc pg j s = if j ≤ k then ids[k - j]? else none := by
  intro j
  induction j with
  | zero => intro k s hk; rw [if_pos (Nat.zero_le _), Nat.sub_zero, hk]; rfl
  | succ j ih =>
    intro k s hk
    rw [Go.Proofs.Ytmepapbbebddiaa.anc, h.chain k s hk]
    have hkl := (List.getElem?_eq_some_iff.1 hk).1
    by_cases hk0 : k = 0
    · rw [if_pos hk0, if_neg (by omega)]; rfl
    · rw [if_neg hk0]
      obtain ⟨p, hp⟩ : ∃ p, ids[k - 1]? = some p := ⟨_, List.getElem?_eq_getElem (by omega)⟩
      rw [hp]
      show Go.Proofs.Ytmepapbbebddiaa.anc pg j p = _
      rw [ih (k - 1) p hp]
      by_cases hjk : j ≤ k - 1
      · rw [if_pos hjk, if_pos (by omega)]
        congr 1
        omega
      · rw [if_neg hjk, if_neg (by omega)]
theorem Bud.place {W wr : World} {ids : List Nat} {ls : List Int} {va vl : Value} {n₀ lk : Nat} {N : Nat → Nd} {pg : Nat → Option Nat} (h : Bud W wr ids ls va vl n₀ lk N pg) {j k s y : Nat} (hk : ids[k]? = some s) (hy : Go.Proofs.Ytmepapbbebddiaa.anc pg j s = some y) : j ≤ k ∧ ids[k - j]? = some y := by
  rw [h.anc j k s hk] at hy
  by_cases hjk : j ≤ k
  · rw [if_pos hjk] at hy; exact ⟨hjk, hy⟩
  · rw [if_neg hjk] at hy; cases hy
theorem Bud.inj {W wr : World} {ids : List Nat} {ls : List Int} {va vl : Value} {n₀ lk : Nat} {N : Nat → Nd} {pg : Nat → Option Nat} (h : Bud W wr ids ls va vl n₀ lk N pg) {i j x : Nat} (hi : ids[i]? = some x) (hj : ids[j]? = some x) : i = j :=
  (List.getElem?_inj (List.getElem?_eq_some_iff.1 hi).1 h.fam.kin.nodup).1 (hi.trans hj.symm)

/-- Where too little is left. -/
def ShortAt (ls : List Int) (n : Int) (i : Nat) : Prop := ∃ l, ls[i]? = some l ∧ l < n
/-- The nearest one upwards. -/
def Near (ls : List Int) (n : Int) (k i : Nat) : Prop := i ≤ k ∧ ShortAt ls n i ∧ ∀ j, i < j → j ≤ k → ¬ ShortAt ls n j
theorem near_or (ls : List Int) (n : Int) : ∀ k, (∃ i, Near ls n k i) ∨ ∀ j, j ≤ k → ¬ ShortAt ls n j := by
  intro k
  induction k with
  | zero =>
    by_cases h : ShortAt ls n 0
    · exact Or.inl ⟨0, Nat.le_refl _, h, fun j h1 h2 => by omega⟩
    · exact Or.inr fun j hj => by obtain rfl : j = 0 := by omega
                                  exact h
  | succ k ih =>
    by_cases h : ShortAt ls n (k + 1)
    · exact Or.inl ⟨k + 1, Nat.le_refl _, h, fun j h1 h2 => by omega⟩
    · rcases ih with ⟨i, h1, h2, h3⟩ | h'
      · refine Or.inl ⟨i, by omega, h2, fun j j1 j2 => ?_⟩
        by_cases hj : j = k + 1
        · rw [hj]; exact h
        · exact h3 j j1 (by omega)
      · refine Or.inr fun j hj => ?_
        by_cases hj' : j = k + 1
        · rw [hj']; exact h
        · exact h' j (by omega)
/-- What is left behind a Spend. -/
def spentL (ls : List Int) (k : Nat) (n : Int) : List Int := (ls.take k).map (· - n) ++ ls.drop k
theorem spent_lo {ls : List Int} {k i : Nat} {n : Int} (hi : i < k) (hk : k ≤ ls.length) : (spentL ls k n)[i]? = (ls[i]?).map (· - n) := by
  unfold spentL
  rw [List.getElem?_append_left (by simp; omega), List.getElem?_map, List.getElem?_take_of_lt hi]
theorem spent_hi {ls : List Int} {k i : Nat} {n : Int} (hi : k ≤ i) (hk : k ≤ ls.length) : (spentL ls k n)[i]? = ls[i]? := by
  unfold spentL
  rw [List.getElem?_append_right (by simp; omega), List.getElem?_drop]
  congr 1
  simp
  omega
theorem spent_next {ls : List Int} {k : Nat} {n l : Int} (hk : k < ls.length) (hl : ls[k]? = some l) : (spentL ls k n).set k (l - n) = spentL ls (k + 1) n := by
  have hlen : (spentL ls k n).length = ls.length := by unfold spentL; simp; omega
  apply List.ext_getElem?
  intro j
  by_cases hj : j = k
  · subst hj
    rw [List.getElem?_set_self (by omega), spent_lo (by omega) (by omega), hl]; rfl
  · rw [List.getElem?_set_ne (Ne.symm hj)]
    by_cases hjk : j < k
    · rw [spent_lo hjk (by omega), spent_lo (by omega) (by omega)]
    · rw [spent_hi (by omega) (by omega), spent_hi (by omega) (by omega)]
theorem spent_zero (ls : List Int) (n : Int) : spentL ls 0 n = ls := by simp [spentL]

theorem Bud.lrange {W wr : World} {ids : List Nat} {ls : List Int} {va vl : Value} {n₀ lk : Nat} {N : Nat → Nd} {pg : Nat → Option Nat} {low : Nat} (_ : Bud W wr ids ls va vl n₀ lk N pg) (V : BVal ids N ls low) : ∀ b ∈ ids, (N b).left ≤ 9223372036854775807 := fun b hb => by
  obtain ⟨i, hi, rfl⟩ := List.mem_iff_getElem.1 hb
  exact (V.2 i _ (List.getElem?_eq_getElem hi)).2.2.2
theorem short_iff {ids : List Nat} {N : Nat → Nd} {ls : List Int} {low : Nat} (V : BVal ids N ls low) {i x : Nat} (hi : ids[i]? = some x) (n : Int) : Short N n x ↔ ShortAt ls n i := by
  obtain ⟨h1, _, h3, _⟩ := V.2 i x hi
  constructor
  · intro h; exact ⟨_, h1, h.2⟩
  · rintro ⟨l, hl, hln⟩
    rw [h1] at hl; injection hl with e
    exact ⟨h3, by omega⟩

theorem Bud.spendOver {W wr : World} {ids : List Nat} {ls : List Int} {va vl : Value} {n₀ lk : Nat} {N : Nat → Nd} {pg : Nat → Option Nat} {low : Nat} (h : Bud W wr ids ls va vl n₀ lk N pg) (V : BVal ids N ls low) {k s : Nat} (hk : ids[k]? = some s) (hlow : ¬ k < low) (n : Int) (hn0 : 0 ≤ n) :
    Calls Try.prog 18 #[ptrV s, .int .i64 n] wr fun e w' => e = .returned (.int .i64 31) ∧ w' = wr := by
  obtain ⟨_, h2, _⟩ := V.2 k s hk
  rw [if_neg hlow] at h2
  have := Spend_over h.fam (List.mem_of_getElem? hk) (by rw [h2]; decide) n hn0
  rw [h2] at this
  exact this
theorem Bud.spendShort {W wr : World} {ids : List Nat} {ls : List Int} {va vl : Value} {n₀ lk : Nat} {N : Nat → Nd} {pg : Nat → Option Nat} {low : Nat} (h : Bud W wr ids ls va vl n₀ lk N pg) (V : BVal ids N ls low) {k s i : Nat} (hk : ids[k]? = some s) (hlow : k < low) (n : Int) (hn0 : 0 ≤ n) (hn63 : n ≤ 9223372036854775807) (hn : ids.length * 8 ≤ 140737488355328) (hi : Near ls n k i) :
    Calls Try.prog 18 #[ptrV s, .int .i64 n] wr fun e w' => e = .returned (.int .i64 31) ∧ ∃ N', Bud W w' ids ls va vl n₀ lk N' pg ∧ BVal ids N' ls i := by
  obtain ⟨_, h2, _⟩ := V.2 k s hk
  rw [if_pos hlow] at h2
  have hkl := (List.getElem?_eq_some_iff.1 hk).1
  obtain ⟨i1, i2, i3⟩ := hi
  obtain ⟨y, hy⟩ : ∃ y, ids[i]? = some y := ⟨_, List.getElem?_eq_getElem (by omega)⟩
  refine (Spend_live h.fam (List.mem_of_getElem? hk) h2 n hn0 hn63 (h.lrange V) hn).mono ?_
  rintro e w' (⟨rfl, j, x, N', x1, x2, x3, x4, x5, x6⟩ | ⟨_, x1, _⟩)
  · obtain ⟨p1, p2⟩ := h.place hk x1
    -- the one that refuses is the nearest
    have hij : k - j = i := by
      by_cases hlt : i < k - j
      · exact absurd ((short_iff V p2 n).1 x2) (i3 (k - j) hlt (by omega))
      · by_cases hgt : k - j < i
        · exfalso
          refine x3 (k - i) y (by omega) ?_ ((short_iff V hy n).2 i2)
          rw [h.anc (k - i) k s hk, if_pos (by omega), show k - (k - i) = i by omega]
          exact hy
        · omega
    rw [hij] at p2
    rw [hy] at p2; injection p2 with e; subst e
    refine ⟨rfl, N', h.turn x4 x6.upd x6.foot, V.1, fun a b hab => ?_⟩
    obtain ⟨v1, v2, v3, v4⟩ := V.2 a b hab
    have hbm := List.mem_of_getElem? hab
    rw [x5.left b hbm]
    refine ⟨v1, ?_, v3, v4⟩
    by_cases ha : a < i
    · rw [if_pos ha, x5.miss b hbm (Or.inr ?_)]
      · rw [if_pos (by omega)] at v2; exact v2
      · rintro ⟨t, ht⟩
        obtain ⟨t1, t2⟩ := h.place hab ht
        have := h.inj t2 hy
        omega
    · rw [if_neg ha]
      by_cases hal : a < low
      · rw [if_pos hal] at v2
        refine x5.hit b hbm v2 ⟨a - i, ?_⟩
        rw [h.anc (a - i) a b hab, if_pos (by omega), show a - (a - i) = i by omega]
        exact hy
      · rw [if_neg hal] at v2
        rw [x5.miss b hbm (Or.inl (by rw [v2]; decide))]
        exact v2
  · exfalso
    refine x1 (k - i) y ?_ ((short_iff V hy n).2 i2)
    rw [h.anc (k - i) k s hk, if_pos (by omega), show k - (k - i) = i by omega]
    exact hy
theorem Bud.spendOk {W wr : World} {ids : List Nat} {ls : List Int} {va vl : Value} {n₀ lk : Nat} {N : Nat → Nd} {pg : Nat → Option Nat} {low : Nat} (h : Bud W wr ids ls va vl n₀ lk N pg) (V : BVal ids N ls low) {k s : Nat} (hk : ids[k]? = some s) (hlow : k < low) (n : Int) (hn0 : 0 ≤ n) (hn63 : n ≤ 9223372036854775807) (hn : ids.length * 8 ≤ 140737488355328) (hno : ∀ j, j ≤ k → ¬ ShortAt ls n j) :
    Calls Try.prog 18 #[ptrV s, .int .i64 n] wr fun e w' => e = .returned (.int .i64 0) ∧ ∃ N', Bud W w' ids ls va vl n₀ lk N' pg ∧ BVal ids N' (spentL ls (k + 1) n) low := by
  obtain ⟨_, h2, _⟩ := V.2 k s hk
  rw [if_pos hlow] at h2
  have hkl := (List.getElem?_eq_some_iff.1 hk).1
  refine (Spend_live h.fam (List.mem_of_getElem? hk) h2 n hn0 hn63 (h.lrange V) hn).mono ?_
  rintro e w' (⟨_, j, x, N', x1, x2, _⟩ | ⟨rfl, _, N', x1, x2, x3, x4⟩)
  · exfalso
    obtain ⟨p1, p2⟩ := h.place hk x1
    exact hno (k - j) (by omega) ((short_iff V p2 n).1 x2)
  · have hlen : (spentL ls (k + 1) n).length = ids.length := by unfold spentL; simp [V.1]; omega
    refine ⟨rfl, N', h.turn x3 x4.upd x4.foot, hlen, fun a b hab => ?_⟩
    obtain ⟨v1, v2, v3, v4⟩ := V.2 a b hab
    by_cases ha : a ≤ k
    · have hN : N' b = (N b).spent n := x1 b ⟨k - a, by rw [h.anc (k - a) k s hk, if_pos (by omega), show k - (k - a) = a by omega]; exact hab⟩
      rw [hN, Nd.spent, if_pos v3, spent_lo (by omega) (by rw [V.1]; omega), v1]
      have hns : ¬ (N b).left < n := fun hc => hno a ha ⟨_, v1, hc⟩
      exact ⟨rfl, v2, by show 0 ≤ (N b).left - n; omega, by show (N b).left - n ≤ _; omega⟩
    · have hN : N' b = N b := x2 b (by
        rintro ⟨t, ht⟩
        obtain ⟨t1, t2⟩ := h.place hk ht
        have := h.inj t2 hab
        omega)
      rw [hN, spent_hi (by omega) (by rw [V.1]; omega)]
      exact ⟨v1, v2, v3, v4⟩
end Go.Proofs.Ytmepapbbebddiaa
