/-
  A book of lists: what ends goes through.
-/
import Derived.Test.YtkfefebjciolcaaKa
import Derived.BigQuiet
namespace Go.Proofs.Ytkfefebjciolcaa
open Go Go.RowKit
set_option maxRecDepth 100000

/-- A row of one's own with one cell written. -/
theorem own_in1 {base : Nat} {e : TypeId} {w : World} {g n cap : Nat} {cur : Array Value} {xs : List Value} (h : w.ownsRow base e 1 (.slice (some ⟨g, 0, none⟩) n cap) n xs) (hg : w.heap[g]? = some (.cells cur e (0, 0))) (off : Nat) (x : Value) :
    (w.setCell ⟨g, off, none⟩ x).ownsRow base e 1 (.slice (some ⟨g, 0, none⟩) n cap) n (xs.set off x) ∧ Upd (fun j => j = g) w (w.setCell ⟨g, off, none⟩ x) := by
  obtain ⟨h1, h2⟩ := h
  rcases h2 with ⟨e, _⟩ | ⟨g', cap', cur', e, hb, hg', hc, hm, hs, ht⟩
  · cases e
  · cases e
    rw [hg] at hg'
    simp at hg'
    subst hg'
    refine ⟨⟨by simpa using h1, Or.inr ⟨g, cap, cur.setIfInBounds off x, rfl, hb, ?_, hc, hm, ?_, ?_⟩⟩, (Upd.refl (fun j => j = g) _).setCell (p := ⟨g, off, none⟩) (fun _ => rfl) _⟩
    · rw [setCell_eq_setRow w g off cur e (0, 0) x hg]
      exact setRow_heap w g cur _ e _ hg
    · simpa using hs
    · rw [← ht, Array.toList_setIfInBounds, List.take_set]
/-- The mark of a list. -/
def mkB (i : Nat) : List Value := [.int .u8 (mkN i : Int)]
theorem mkB_len (i : Nat) : (mkB i).length = 1 := rfl
theorem marks_one (i k : Nat) : marks (mkB i) k = (List.replicate k (mkN i : Int)).map (Value.int .u8) := by
  induction k with
  | zero => rfl
  | succ k ih =>
    rw [← marks_succ, ih, List.replicate_succ', List.map_append]
    rfl
/-- The lists, the first i of them full of marks. -/
structure B1 (base : Nat) (w0 w : World) (gb gl m c : Nat) (wv : Value) (vs : List Value) (i : Nat) : Prop where
  below : Below base w0 w
  block : w.heap[gb]? = some (.cells #[.slice (some ⟨gl, 0, none⟩) m c, wv] 30 (0, 0))
  lown : w.ownsRow base 23 1 (.slice (some ⟨gl, 0, none⟩) m c) m vs
  rows : ∀ j (hj : j < vs.length), ∃ n xs, n ≤ 70368744177664 ∧ w.ownsRow base 5 1 vs[j] n xs ∧ (j < i → xs = marks (mkB j) n)
theorem B1.cell {base : Nat} {w0 w : World} {gb gl m c : Nat} {wv : Value} {vs : List Value} {i : Nat} (S : B1 base w0 w gb gl m c wv vs i) (j : Nat) (hj : j < vs.length) : w.cell? ⟨gl, j, none⟩ = some vs[j] := by
  have := S.lown.cells (g := gl) rfl j vs[j] (by simp [hj])
  rw [Addr.add_lit, Nat.zero_add] at this
  exact this
theorem B1.next {base : Nat} {w0 w : World} {gb gl m c : Nat} {wv : Value} {vs : List Value} {i n : Nat} (S : B1 base w0 w gb gl m c wv vs i) (hi : i < vs.length) (hn : n ≤ 70368744177664) (ho : w.ownsRow base 5 1 vs[i] n (marks (mkB i) n)) : B1 base w0 w gb gl m c wv vs (i + 1) := by
  refine ⟨S.below, S.block, S.lown, fun j hj => ?_⟩
  by_cases h : j = i
  · subst h
    exact ⟨n, _, hn, ho, fun _ => rfl⟩
  · obtain ⟨n', xs, h1, h2, h3⟩ := S.rows j hj
    exact ⟨n', xs, h1, h2, fun hl => h3 (by omega)⟩
theorem B1.drew {base : Nat} {w0 w : World} {gb gl m c : Nat} {wv : Value} {vs : List Value} {i : Nat} (S : B1 base w0 w gb gl m c wv vs i) (q : Nat) : B1 base w0 (w.drewN q) gb gl m c wv vs i := by
  have b := below_drewN (Below.refl w.heap.size w) q
  have u := Upd.ofBelow (S := fun _ => False) b (fun k hk hk' => by omega)
  refine ⟨below_drewN S.below q, S.block, ownsRow_upd S.lown u (fun _ _ h => h), fun j hj => ?_⟩
  obtain ⟨n', xs, h1, h2, h3⟩ := S.rows j hj
  exact ⟨n', xs, h1, ownsRow_upd h2 u (fun _ _ h => h), h3⟩
theorem B1.upd {base : Nat} {w0 w w' : World} {gb gl m c : Nat} {wv : Value} {vs : List Value} {i n g cap : Nat} {xs : List Value} (S : B1 base w0 w gb gl m c wv vs i) (hi : i < vs.length) (hv : vs[i] = .slice (some ⟨g, 0, none⟩) n cap) (hbw : base ≤ w.heap.size)
    (ap : ∀ a b (ha : a < vs.length) (hb : b < vs.length), a ≠ b → ∀ k, vs[a].ownBlock = some k → vs[b].ownBlock ≠ some k) (hbg : base ≤ g) {cur : Array Value} (hg : w.heap[g]? = some (.cells cur 5 (0, 0))) (u : Upd (fun j => j = g) w w') (hn : n ≤ 70368744177664) (ho : w'.ownsRow base 5 1 vs[i] n xs) : B1 base w0 w' gb gl m c wv vs i := by
  have n1 : gb ≠ g := fun e => by have h := S.block; rw [e, hg] at h; simp at h
  refine ⟨S.below.trans (u.below hbw (fun k hk e => by omega)), (u.block _ (lt_of_block S.block) n1).trans S.block, ownsRow_upd S.lown u (fun k hk e => ?_), fun j hj => ?_⟩
  · subst e
    exact own_not S.lown hg (fun cs h => by simp at h) hk
  by_cases h : j = i
  · subst h
    exact ⟨n, xs, hn, ho, fun h => absurd h (Nat.lt_irrefl _)⟩
  · obtain ⟨n', xs', h1, h2, h3⟩ := S.rows j hj
    exact ⟨n', xs', h1, ownsRow_upd h2 u (fun k hk e => ap i j hi hj (fun e => h e.symm) g (by rw [hv]; rfl) (e ▸ hk)), h3⟩
/-- The lists full of marks, and the list of all that were made of them. -/
structure B2 (base : Nat) (w0 w : World) (gb gl m c : Nat) (wv : Value) (vs : List Value) (L : Value) (us : List Value) (F : Nat → Value → Prop) : Prop where
  below : Below base w0 w
  block : w.heap[gb]? = some (.cells #[.slice (some ⟨gl, 0, none⟩) m c, wv] 30 (0, 0))
  lown : w.ownsRow base 23 1 (.slice (some ⟨gl, 0, none⟩) m c) m vs
  long : w.ownsRow base 23 1 L us.length us
  fams : Fams base 5 mkB w F
  ne : L.ownBlock ≠ some gl
def famB (vs us : List Value) : Nat → Value → Prop := fun j v => vs[j]? = some v ∨ ∃ t : Nat, us[t]? = some v ∧ t / 2 = j
theorem B2.cell {base : Nat} {w0 w : World} {gb gl m c : Nat} {wv : Value} {vs : List Value} {L : Value} {us : List Value} {F : Nat → Value → Prop} (S : B2 base w0 w gb gl m c wv vs L us F) (j : Nat) (hj : j < vs.length) : w.cell? ⟨gl, j, none⟩ = some vs[j] := by
  have := S.lown.cells (g := gl) rfl j vs[j] (by simp [hj])
  rw [Addr.add_lit, Nat.zero_add] at this
  exact this
theorem B2.less {base : Nat} {w0 w : World} {gb gl m c : Nat} {wv : Value} {vs : List Value} {L : Value} {us : List Value} {F F' : Nat → Value → Prop} (S : B2 base w0 w gb gl m c wv vs L us F) (h : ∀ i u, F' i u → F i u) : B2 base w0 w gb gl m c wv vs L us F' :=
  ⟨S.below, S.block, S.lown, S.long, S.fams.less h, S.ne⟩
theorem B2.quiet {base : Nat} {w0 w w' : World} {gb gl m c : Nat} {wv : Value} {vs : List Value} {L : Value} {us : List Value} {F : Nat → Value → Prop} (S : B2 base w0 w gb gl m c wv vs L us F) (b : Below w.heap.size w w') (hb : base ≤ w.heap.size) : B2 base w0 w' gb gl m c wv vs L us F := by
  have u := Upd.ofBelow (S := fun _ => False) b (fun k hk hk' => by omega)
  exact ⟨S.below.trans (b.mono hb), (u.block _ (lt_of_block S.block) (fun h => h)).trans S.block, ownsRow_upd S.lown u (fun _ _ h => h), ownsRow_upd S.long u (fun _ _ h => h), S.fams.upd u (fun _ _ _ _ _ h => h), S.ne⟩
theorem B2.alloc {base : Nat} {w0 w : World} {gb gl m c : Nat} {wv : Value} {vs : List Value} {L : Value} {us : List Value} {F : Nat → Value → Prop} (S : B2 base w0 w gb gl m c wv vs L us F) (hb : base ≤ w.heap.size) (o : Obj) : B2 base w0 (w.alloc o) gb gl m c wv vs L us F := S.quiet ((Below.refl _ _).alloc (Nat.le_refl _) o) hb
theorem B2.drew {base : Nat} {w0 w : World} {gb gl m c : Nat} {wv : Value} {vs : List Value} {L : Value} {us : List Value} {F : Nat → Value → Prop} (S : B2 base w0 w gb gl m c wv vs L us F) (hb : base ≤ w.heap.size) (q : Nat) : B2 base w0 (w.drewN q) gb gl m c wv vs L us F := S.quiet (below_drewN (Below.refl _ _) q) hb
theorem B2.grow {base : Nat} {w0 w w' : World} {gb gl m c : Nat} {wv : Value} {vs : List Value} {L : Value} {us : List Value} {F : Nat → Value → Prop} {i n : Nat} {g g' : Value} (S : B2 base w0 w gb gl m c wv vs L us F) (hb : base ≤ w.heap.size) (hm : F i g)
    (ho : w'.ownsRow base 5 1 g' (n + 1) (marks (mkB i) n ++ mkB i)) (hg : w.grownBy w' g.ownBlock) (mv : Moved w g g') (ov : Over w w' g 5 (n * 1) (mkB i)) : B2 base w0 w' gb gl m c wv vs L us (plus i g' F) := by
  have u : Upd (fun j => g.ownBlock = some j) w w' := (Upd.refl _ _).grown hg (fun _ _ e => e)
  obtain ⟨nn, hgo⟩ := S.fams.full i g hm
  refine ⟨S.below.trans (u.below hb (fun k hk e => by have := ((S.fams.full i g hm).lt e).2; omega)), (u.block _ (lt_of_block S.block) (fun e => ?_)).trans S.block, ownsRow_upd S.lown u (fun k hk e => ?_), ownsRow_upd S.long u (fun k hk e => ?_), S.fams.step hm ho hg mv ov, S.ne⟩
  · exact own_not hgo S.block (fun cs h => by simp at h) e
  · exact own_apart S.lown hgo (by decide) hk e
  · exact own_apart S.long hgo (by decide) hk e
theorem B2.more {base : Nat} {w0 w w' : World} {gb gl m c : Nat} {wv : Value} {vs : List Value} {L L' : Value} {us new : List Value} {F : Nat → Value → Prop} (S : B2 base w0 w gb gl m c wv vs L us F) (hb : base ≤ w.heap.size)
    (ho : w'.ownsRow base 23 1 L' (us.length + new.length) (us ++ new)) (hg : w.grownBy w' L.ownBlock) (mv : Moved w L L') : B2 base w0 w' gb gl m c wv vs L' (us ++ new) F := by
  have u : Upd (fun j => L.ownBlock = some j) w w' := (Upd.refl _ _).grown hg (fun _ _ e => e)
  refine ⟨S.below.trans (u.below hb (fun k hk e => ?_)), (u.block _ (lt_of_block S.block) (fun e => ?_)).trans S.block, ownsRow_upd S.lown u (fun k hk e => ?_), by rw [List.length_append]; exact ho, S.fams.upd u (fun i v k hf hk e => ?_), fun e => ?_⟩
  · have := (own_lt S.long e).2
    omega
  · exact own_not S.long S.block (fun cs h => by simp at h) e
  · simp [Value.ownBlock] at hk
    subst hk
    exact S.ne e
  · obtain ⟨nn, hgo⟩ := S.fams.full i v hf
    exact own_apart S.long hgo (by decide) e hk
  · rcases mv with h | ⟨k, h, hk⟩
    · exact S.ne (h ▸ e)
    · rw [e] at h
      simp at h
      have := (own_lt S.lown (j := gl) rfl).1
      omega
theorem B1.start {base : Nat} {w0 w : World} {gb gl m c : Nat} {wv : Value} {vs : List Value} (S : B1 base w0 w gb gl m c wv vs vs.length)
    (ap : ∀ a b (ha : a < vs.length) (hb : b < vs.length), a ≠ b → ∀ k, vs[a].ownBlock = some k → vs[b].ownBlock ≠ some k) : B2 base w0 w gb gl m c wv vs (.slice none 0 0) [] (famB vs []) := by
  refine ⟨S.below, S.block, S.lown, World.ownsRow_nil _ _ _ _, ⟨fun i u h => ?_, fun i u j v h1 h2 hne k hk => ?_⟩, by simp [Value.ownBlock]⟩
  · rcases h with h | ⟨t, h, _⟩
    · obtain ⟨hi, rfl⟩ := List.getElem?_eq_some_iff.1 h
      obtain ⟨n, xs, _, ho, hx⟩ := S.rows i hi
      rw [hx hi] at ho
      exact ⟨n, ho⟩
    · simp at h
  · rcases h1 with h1 | ⟨t, h1, _⟩
    · rcases h2 with h2 | ⟨t, h2, _⟩
      · obtain ⟨hi, rfl⟩ := List.getElem?_eq_some_iff.1 h1
        obtain ⟨hj, rfl⟩ := List.getElem?_eq_some_iff.1 h2
        exact ap i j hi hj hne k hk
      · simp at h2
    · simp at h1
theorem fam_two (vs us : List Value) (j i : Nat) (u : Value) (a2 a3 : Option Addr) (l2 l3 c2 c3 : Nat) (hul : us.length = 2 * j) (h : famB vs (us ++ [.slice a2 l2 c2, .slice a3 l3 c3]) i u) :
    plus j (.slice a3 l3 c3) (plus j (.slice a2 l2 c2) (famB vs us)) i u := by
  rcases h with h | ⟨t, h, ht⟩
  · exact Or.inr (Or.inr (Or.inl h))
  · by_cases hl : t < us.length
    · rw [List.getElem?_append_left hl] at h
      exact Or.inr (Or.inr (Or.inr ⟨t, h, ht⟩))
    · rw [List.getElem?_append_right (by omega)] at h
      have hlt : t - us.length < 2 := by have := (List.getElem?_eq_some_iff.1 h).1; simpa using this
      have hij : i = j := by omega
      subst hij
      obtain ⟨d, hd⟩ : ∃ d, t - us.length = d := ⟨_, rfl⟩
      rw [hd] at h hlt
      match d, hlt, h with
      | 0, _, h => simp at h; subst h; exact Or.inr (Or.inl ⟨rfl, rfl⟩)
      | 1, _, h => simp at h; subst h; exact Or.inl ⟨rfl, rfl⟩
theorem full_fam {base : Nat} {w : World} {i : Nat} {ao : Option Addr} {l c : Nat} (h : Full base 5 (mkB i) w (.slice ao l c)) : Holds w ao l (List.replicate l (mkN i : Int)) := by
  obtain ⟨n, h⟩ := h
  obtain ⟨h1, _⟩ := own_cap h
  subst h1
  rw [marks_one] at h
  refine Holds.ofRow (base := base) (cap := c) ?_
  simpa [mkB_len] using h
theorem wrap_i64_in (v : Int) (h0 : -9223372036854775808 ≤ v) (h1 : v ≤ 9223372036854775807) : IntKind.i64.wrap v = v := by
  rw [IntKind.wrap_i64]; omega
set_option maxHeartbeats 1000000 in
theorem news_in {w : World} {b : Nat} {cs : List Value} {t : TypeId} (hb : w.heap[b]? = some (.cells cs.toArray t (0, 0))) : ∀ j u, cs[j]? = some u → w.cell? ((⟨b, 0, none⟩ : Addr).add j) = some u := fun j u hu => by
  rw [Addr.add_lit, Nat.zero_add, cell_of_row w b j cs.toArray t (0, 0) hb]
  simpa using hu
/-- What speaks of memory alone does not see the draws. -/
theorem below_like {base : Nat} {w0 w w' : World} (h : Below base w0 w) (h1 : w'.os = w.os) (h2 : w'.tape = w.tape) (h3 : w'.output = w.output) (h4 : w'.heap = w.heap) : Below base w0 w' :=
  ⟨h1.trans h.os, h2.trans h.tape, h3.trans h.output, by rw [h4]; exact h.size, fun k hk => by rw [h4]; exact h.block k hk⟩
theorem own_like {base : Nat} {e : TypeId} {s n : Nat} {w w' : World} {v : Value} {xs : List Value} (h : w.ownsRow base e s v n xs) (h4 : w'.heap = w.heap) : w'.ownsRow base e s v n xs := by
  unfold World.ownsRow at h ⊢
  rw [h4]
  exact h
theorem B1.like {base : Nat} {w0 w w' : World} {gb gl m c : Nat} {wv : Value} {vs : List Value} {i : Nat} (S : B1 base w0 w gb gl m c wv vs i) (h1 : w'.os = w.os) (h2 : w'.tape = w.tape) (h3 : w'.output = w.output) (h4 : w'.heap = w.heap) : B1 base w0 w' gb gl m c wv vs i :=
  ⟨below_like S.below h1 h2 h3 h4, by rw [h4]; exact S.block, own_like S.lown h4, fun j hj => by
    obtain ⟨n', xs, a, b, c⟩ := S.rows j hj
    exact ⟨n', xs, a, own_like b h4, c⟩⟩
theorem B2.like {base : Nat} {w0 w w' : World} {gb gl m c : Nat} {wv : Value} {vs : List Value} {L : Value} {us : List Value} {F : Nat → Value → Prop} (S : B2 base w0 w gb gl m c wv vs L us F) (h1 : w'.os = w.os) (h2 : w'.tape = w.tape) (h3 : w'.output = w.output) (h4 : w'.heap = w.heap) : B2 base w0 w' gb gl m c wv vs L us F :=
  ⟨below_like S.below h1 h2 h3 h4, by rw [h4]; exact S.block, own_like S.lown h4, own_like S.long h4, ⟨fun i u h => by
    obtain ⟨n, ho⟩ := S.fams.full i u h
    exact ⟨n, own_like ho h4⟩, S.fams.apart⟩, S.ne⟩
theorem holds_like {w w' : World} {ad : Option Addr} {n : Nat} {K : List Int} (h : Holds w ad n K) (e : w'.heap = w.heap) : Holds w' ad n K :=
  h.mono (fun a v hc _ => by unfold World.cell? at hc ⊢; rw [e]; exact hc)
end Go.Proofs.Ytkfefebjciolcaa
