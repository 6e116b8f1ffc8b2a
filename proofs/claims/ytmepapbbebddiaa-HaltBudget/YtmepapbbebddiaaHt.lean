/-
  HaltTree: the walk.
-/
import Derived.Test.YtmepapbbebddiaaGr
namespace Go.Proofs.Ytmepapbbebddiaa
open Go Go.Conc Go.RowKit Go.MuLone

/-- A cell of one's own row is written. -/
theorem ownsRow_set {w : World} {base : Nat} {e : TypeId} {g n cap : Nat} {xs : List Value} (h : w.ownsRow base e 1 (.slice (some ⟨g, 0, none⟩) n cap) n xs) (i : Nat) (v : Value) :
    (w.setCell ⟨g, i, none⟩ v).ownsRow base e 1 (.slice (some ⟨g, 0, none⟩) n cap) n (xs.set i v) := by
  obtain ⟨h1, h2⟩ := h
  rcases h2 with ⟨h2, _⟩ | ⟨g', cap', cur, y0, y1, y2, y3, y4, y5, y6⟩
  · cases h2
  · injection y0 with z1 z2 z3
    injection z1 with z1
    injection z1 with z1
    subst z1; subst z3
    refine ⟨by simpa using h1, Or.inr ⟨g, cap, cur.setIfInBounds i v, rfl, y1, (Blk.set (show Blk w g cur e from y2) i v), y3, y4, by simpa using y5, ?_⟩⟩
    rw [← y6]
    rw [Array.toList_setIfInBounds, List.take_set]
theorem ownsRow_cell {w : World} {base : Nat} {e : TypeId} {g n cap : Nat} {xs : List Value} (h : w.ownsRow base e 1 (.slice (some ⟨g, 0, none⟩) n cap) n xs) {i : Nat} {v : Value} (hv : xs[i]? = some v) : w.cell? ⟨g, i, none⟩ = some v ∧ w.frozen? ⟨g, i, none⟩ = false := by
  constructor
  · have := h.cells (g := g) rfl i v hv
    rwa [Addr.add_lit, Nat.zero_add] at this
  · obtain ⟨_, _, c, hc⟩ := ownsRow_base h (g := g) rfl
    exact hc.frozen i

/-- Stops in a tree, and their reasons. -/
structure Tre (W wr : World) (ids S : List Nat) (ups : List Int) (va vu vr : Value) (n₀ lk : Nat) (N : Nat → Nd) (pg : Nat → Option Nat) (R : List Int) : Prop where
  fam : Fam wr n₀ lk S N pg 0
  base : W.heap.size ≤ n₀
  below : Below W.heap.size W wr
  rowA : wr.ownsRow W.heap.size 46 1 va ids.length (ids.map ptrV)
  rowU : wr.ownsRow W.heap.size 3 1 vu ids.length (intsV ups)
  rowR : wr.ownsRow W.heap.size 36 1 vr ids.length (intsV R)
  pos : 0 < ids.length
  notA : ∀ g, va.ownBlock = some g → ¬ Foot lk S N g
  sub : ∀ x ∈ ids, x ∈ S
  nod : ids.Nodup
  link : ∀ i x, ids[i]? = some x → (i = 0 ∧ pg x = none) ∨ ∃ k : Nat, k < i ∧ ups[i]? = some (k : Int) ∧ pg x = ids[k]?
  val : ∀ (i x : Nat), ids[i]? = some x → (N x).left = -1
theorem Tre.lenU {W wr : World} {ids S : List Nat} {ups : List Int} {va vu vr : Value} {n₀ lk : Nat} {N : Nat → Nd} {pg : Nat → Option Nat} {R : List Int} (h : Tre W wr ids S ups va vu vr n₀ lk N pg R) : ups.length = ids.length := by
  have := h.rowU.1; simpa using this
theorem Tre.lenR {W wr : World} {ids S : List Nat} {ups : List Int} {va vu vr : Value} {n₀ lk : Nat} {N : Nat → Nd} {pg : Nat → Option Nat} {R : List Int} (h : Tre W wr ids S ups va vu vr n₀ lk N pg R) : R.length = ids.length := by
  have := h.rowR.1; simpa using this
/-- The reasons are those of the stops. -/
def Says (ids : List Nat) (N : Nat → Nd) (R : List Int) : Prop := R = ids.map (fun x => (N x).why)

theorem Tre.notU {W wr : World} {ids S : List Nat} {ups : List Int} {va vu vr : Value} {n₀ lk : Nat} {N : Nat → Nd} {pg : Nat → Option Nat} {R : List Int} (h : Tre W wr ids S ups va vu vr n₀ lk N pg R) : ∀ g, vu.ownBlock = some g → ¬ Foot lk S N g := fun g hg => by
  obtain ⟨_, _, c, hc⟩ := ownsRow_base h.rowU hg
  exact h.fam.notFoot hc (by decide) (by decide) (by decide)
theorem Tre.notR {W wr : World} {ids S : List Nat} {ups : List Int} {va vu vr : Value} {n₀ lk : Nat} {N : Nat → Nd} {pg : Nat → Option Nat} {R : List Int} (h : Tre W wr ids S ups va vu vr n₀ lk N pg R) : ∀ g, vr.ownBlock = some g → ¬ Foot lk S N g := fun g hg => by
  obtain ⟨_, _, c, hc⟩ := ownsRow_base h.rowR hg
  exact h.fam.notFoot hc (by decide) (by decide) (by decide)
/-- The family turns. -/
theorem Tre.turn {W wr w1 : World} {ids S S' : List Nat} {ups : List Int} {va vu vr : Value} {n₀ lk : Nat} {N N' : Nat → Nd} {pg pg' : Nat → Option Nat} {R : List Int} (h : Tre W wr ids S ups va vu vr n₀ lk N pg R) (F : Fam w1 n₀ lk S' N' pg' 0) (U : Upd (Foot lk S N) wr w1) (foot : ∀ k, Foot lk S' N' k → Foot lk S N k ∨ wr.heap.size ≤ k)
    (hS : ∀ x ∈ S, x ∈ S') (hpg : ∀ x ∈ S, pg' x = pg x) (hl : ∀ x ∈ S, (N' x).left = (N x).left) : Tre W w1 ids S' ups va vu vr n₀ lk N' pg' R := by
  refine ⟨F, h.base, h.below.trans (U.below h.below.size (fun g hg hf => by have := (Foot.range h.fam hf).1; have := h.base; omega)), ownsRow_upd h.rowA U h.notA, ownsRow_upd h.rowU U h.notU, ownsRow_upd h.rowR U h.notR, h.pos, ?_, fun x hx => hS x (h.sub x hx), h.nod, ?_, ?_⟩
  · intro g hg hf
    rcases foot g hf with h' | h'
    · exact h.notA g hg h'
    · have := (ownsRow_base h.rowA hg).2.1; omega
  · intro i x hi
    rw [hpg x (h.sub x (List.mem_of_getElem? hi))]
    exact h.link i x hi
  · intro i x hi
    rw [hl x (h.sub x (List.mem_of_getElem? hi))]
    exact h.val i x hi
/-- A reason is written. -/
theorem Tre.set {W wr : World} {ids S : List Nat} {ups : List Int} {va vu : Value} {g cap : Nat} {n₀ lk : Nat} {N : Nat → Nd} {pg : Nat → Option Nat} {R : List Int} (h : Tre W wr ids S ups va vu (.slice (some ⟨g, 0, none⟩) ids.length cap) n₀ lk N pg R) (i : Nat) (v : Int) :
    Tre W (wr.setCell ⟨g, i, none⟩ (.int .i64 v)) ids S ups va vu (.slice (some ⟨g, 0, none⟩) ids.length cap) n₀ lk N pg (R.set i v) := by
  obtain ⟨b1, b2, c, hc⟩ := ownsRow_base h.rowR (g := g) rfl
  have U : Upd (fun k => k = g) wr (wr.setCell ⟨g, i, none⟩ (.int .i64 v)) := (Upd.refl (fun k => k = g) wr).setCell (p := ⟨g, i, none⟩) (fun _ => rfl) _
  refine ⟨h.fam.upd U (fun k hf e => h.notR g rfl (e ▸ hf)), h.base, h.below.trans (U.below h.below.size (fun k hk e => by omega)), ?_, ?_, ?_, h.pos, h.notA, h.sub, h.nod, h.link, h.val⟩
  · exact ownsRow_upd h.rowA U (fun k hk e => ownsRow_ne h.rowA hc (by decide) hk e)
  · exact ownsRow_upd h.rowU U (fun k hk e => ownsRow_ne h.rowU hc (by decide) hk e)
  · have := ownsRow_set h.rowR i (.int .i64 v)
    simpa [intsV, List.map_set] using this

/-- What the reasons become when one is cancelled: by the list alone. -/
structure Step (ids : List Nat) (ups R R' : List Int) (k : Nat) (why : Int) : Prop where
  len : R'.length = ids.length
  self : R[k]? = some 0 → R'[k]? = some why
  had : ∀ (i : Nat) (r : Int), R[i]? = some r → r ≠ 0 → R'[i]? = some r
  root : k ≠ 0 → R[0]? = some 0 → R'[0]? = some 0
  kid : ∀ i : Nat, 0 < i → i ≠ k → R[i]? = some 0 → ∃ j : Nat, j < i ∧ ups[i]? = some (j : Int) ∧ R'[i]? = R'[j]?

theorem says_at {ids : List Nat} {N : Nat → Nd} {i x : Nat} (h : ids[i]? = some x) : (ids.map (fun x => (N x).why))[i]? = some (N x).why := by simp [h]
theorem says_of {ids : List Nat} {N : Nat → Nd} {i : Nat} {r : Int} (h : (ids.map (fun x => (N x).why))[i]? = some r) : ∃ x, ids[i]? = some x ∧ (N x).why = r := by
  rw [List.getElem?_map] at h
  cases hx : ids[i]? with
  | none => rw [hx] at h; cases h
  | some x => rw [hx] at h; simp at h; exact ⟨x, rfl, h⟩

theorem Tre.step {W wr : World} {ids : List Nat} {ups : List Int} {va vu vr : Value} {n₀ lk : Nat} {N N' : Nat → Nd} {pg : Nat → Option Nat} {R : List Int} (h : Tre W wr ids ids ups va vu vr n₀ lk N pg R) {k s : Nat} (hk : ids[k]? = some s) {why : Int}
    (hF : ((N s).why = 0 ∧ Fell ids N N' pg s why) ∨ ((N s).why ≠ 0 ∧ ∀ x ∈ ids, (N' x).why = (N x).why)) : Step ids ups (ids.map (fun x => (N x).why)) (ids.map (fun x => (N' x).why)) k why := by
  have hkin := h.fam.kin
  have uniq : ∀ {i j x : Nat}, ids[i]? = some x → ids[j]? = some x → i = j := fun {i j x} hi hj => by
    have hil := (List.getElem?_eq_some_iff.1 hi).1
    exact (List.getElem?_inj hil h.nod).1 (hi.trans hj.symm)
  -- a reason stays where there was one
  have had : ∀ x ∈ ids, (N x).why ≠ 0 → (N' x).why = (N x).why := fun x hx h0 => by
    rcases hF with ⟨_, F⟩ | ⟨_, F⟩
    · exact F.miss x hx (Or.inl h0)
    · exact F x hx
  refine ⟨by simp, ?_, ?_, ?_, ?_⟩
  · intro h0
    obtain ⟨x, hx, hx0⟩ := says_of h0
    rw [hk] at hx; injection hx with e; subst e
    rcases hF with ⟨_, F⟩ | ⟨hne, _⟩
    · rw [says_at hk, F.hit s (List.mem_of_getElem? hk) hx0 ⟨0, rfl⟩]
    · exact absurd hx0 hne
  · intro i r hi hr
    obtain ⟨x, hx, rfl⟩ := says_of hi
    rw [says_at hx, had x (List.mem_of_getElem? hx) hr]
  · intro hk0 h0
    obtain ⟨x, hx, hx0⟩ := says_of h0
    rw [says_at hx]
    rcases hF with ⟨_, F⟩ | ⟨_, F⟩
    · rw [F.miss x (List.mem_of_getElem? hx) (Or.inr ?_), hx0]
      rintro ⟨n, hn⟩
      have hpx : pg x = none := by
        rcases h.link 0 x hx with ⟨_, h'⟩ | ⟨j, hj, _⟩
        · exact h'
        · omega
      cases n with
      | zero =>
        simp only [anc, Option.some.injEq] at hn
        subst hn
        exact hk0 (uniq hk hx)
      | succ n => rw [anc, hpx] at hn; cases hn
    · rw [F x (List.mem_of_getElem? hx), hx0]
  · intro i hi hik h0
    obtain ⟨x, hx, hx0⟩ := says_of h0
    have hxm := List.mem_of_getElem? hx
    rcases h.link i x hx with ⟨h', _⟩ | ⟨j, hj, hju, hp⟩
    · omega
    · have hil := (List.getElem?_eq_some_iff.1 hx).1
      obtain ⟨y, hy⟩ : ∃ y, ids[j]? = some y := ⟨_, List.getElem?_eq_getElem (by omega)⟩
      rw [hy] at hp
      have hym := List.mem_of_getElem? hy
      have hy0 := ((hkin.up x hxm hx0).2 y hp).2.1
      refine ⟨j, hj, hju, ?_⟩
      rw [says_at hx, says_at hy]
      rcases hF with ⟨_, F⟩ | ⟨_, F⟩
      · by_cases ha : ∃ n, anc pg n y = some s
        · obtain ⟨n, hn⟩ := ha
          rw [F.hit y hym hy0 ⟨n, hn⟩, F.hit x hxm hx0 ⟨n + 1, by rw [anc, hp]; exact hn⟩]
        · rw [F.miss y hym (Or.inr ha), F.miss x hxm (Or.inr ?_), hx0, hy0]
          rintro ⟨n, hn⟩
          cases n with
          | zero =>
            simp only [anc, Option.some.injEq] at hn
            subst hn
            exact hik (uniq hx hk)
          | succ n => rw [anc, hp] at hn; exact ha ⟨n, hn⟩
      · rw [F x hxm, F y hym, hx0, hy0]
end Go.Proofs.Ytmepapbbebddiaa
