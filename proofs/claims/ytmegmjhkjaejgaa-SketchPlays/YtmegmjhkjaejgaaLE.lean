/-
  Layer 13 (sketch): SketchPlays: the sketches that came out: ends.
-/
import Derived.Test.YtmegmjhkjaejgaaLD
import Derived.Laws.StructEq
namespace Go.Proofs.Ytmegmjhkjaejgaa.sk.pl
open Go Go.RowKit Go.Proofs.Ytmegmjhkjaejgaa.sk
set_option maxRecDepth 100000

/-- The mark of a list. -/
def mkP (i : Nat) : List Value := [.int .i64 (-(i : Int)), .int .u64 0]
theorem mkP_len (i : Nat) : (mkP i).length = 2 := rfl
theorem marks_two (i k : Nat) (ys : List Value) (h : 2 ≤ ys.length) : ((marks (mkP i) k ++ ys).set (k * 2) (.int .i64 (-(i : Int)))).set (k * 2 + 1) (.int .u64 0) = marks (mkP i) (k + 1) ++ ys.drop 2 := by
  have hml := marks_len (mkP i) k
  rw [mkP_len] at hml
  match ys, h with
  | y0 :: y1 :: ys, _ =>
    rw [List.set_append_right _ _ (by omega), hml, Nat.sub_self, List.set_append_right _ _ (by omega), hml, show k * 2 + 1 - k * 2 = 1 by omega, ← marks_succ]
    simp [mkP]
/-- The lists, the first i of them full of marks. -/
structure P1 (base : Nat) (w0 w : World) (gb gl m c : Nat) (wv : Value) (vs : List Value) (i : Nat) : Prop where
  below : Below base w0 w
  block : w.heap[gb]? = some (.cells #[.slice (some ⟨gl, 0, none⟩) m c, wv] 27 (0, 0))
  lown : w.ownsRow base 28 1 (.slice (some ⟨gl, 0, none⟩) m c) m vs
  rows : ∀ j (hj : j < vs.length), ∃ n xs, n ≤ 1000000 ∧ w.ownsRow base 46 2 vs[j] n xs ∧ (j < i → xs = marks (mkP j) n)
theorem lown_cell {base : Nat} {w : World} {gl m c : Nat} {vs : List Value} (h : w.ownsRow base 28 1 (.slice (some ⟨gl, 0, none⟩) m c) m vs) (j : Nat) (hj : j < vs.length) : w.cell? ⟨gl, j, none⟩ = some vs[j] := by
  have := h.cells (g := gl) rfl j vs[j] (by simp [hj])
  rw [Addr.add_lit, Nat.zero_add] at this
  exact this
theorem P1.next {base : Nat} {w0 w : World} {gb gl m c : Nat} {wv : Value} {vs : List Value} {i n : Nat} (S : P1 base w0 w gb gl m c wv vs i) (hn : n ≤ 1000000) (hi : i < vs.length) (ho : w.ownsRow base 46 2 vs[i] n (marks (mkP i) n)) : P1 base w0 w gb gl m c wv vs (i + 1) := by
  refine ⟨S.below, S.block, S.lown, fun j hj => ?_⟩
  by_cases h : j = i
  · subst h
    exact ⟨n, _, hn, ho, fun _ => rfl⟩
  · obtain ⟨n', xs, h1, h2, h3⟩ := S.rows j hj
    exact ⟨n', xs, h1, h2, fun hl => h3 (by omega)⟩
theorem P1.upd {base : Nat} {w0 w w' : World} {gb gl m c : Nat} {wv : Value} {vs : List Value} {i n g cap : Nat} {xs : List Value} (S : P1 base w0 w gb gl m c wv vs i) (hi : i < vs.length) (hv : vs[i] = .slice (some ⟨g, 0, none⟩) n cap) (hbw : base ≤ w.heap.size)
    (ap : ∀ a b (ha : a < vs.length) (hb : b < vs.length), a ≠ b → ∀ k, vs[a].ownBlock = some k → vs[b].ownBlock ≠ some k) {cur : Array Value} (hg : w.heap[g]? = some (.cells cur 46 (0, 0))) (hbg : base ≤ g) (u : Upd (fun j => j = g) w w') (hn : n ≤ 1000000) (ho : w'.ownsRow base 46 2 vs[i] n xs) : P1 base w0 w' gb gl m c wv vs i := by
  have n1 : gb ≠ g := fun e => by have h := S.block; rw [e, hg] at h; simp at h
  refine ⟨S.below.trans (u.below hbw (fun k hk e => by omega)), (u.block _ (lt_of_block S.block) n1).trans S.block, ownsRow_upd S.lown u (fun k hk e => ?_), fun j hj => ?_⟩
  · subst e
    exact own_not S.lown hg (fun cs h => by simp at h) hk
  · by_cases h : j = i
    · subst h
      exact ⟨n, xs, hn, ho, fun h => absurd h (Nat.lt_irrefl _)⟩
    · obtain ⟨n', xs', h1, h2, h3⟩ := S.rows j hj
      exact ⟨n', xs', h1, ownsRow_upd h2 u (fun k hk e => ap i j hi hj (fun e => h e.symm) g (by rw [hv]; rfl) (e ▸ hk)), h3⟩
theorem P1.drewN {base : Nat} {w0 w : World} {gb gl m c : Nat} {wv : Value} {vs : List Value} {i : Nat} (S : P1 base w0 w gb gl m c wv vs i) (hb : base ≤ w.heap.size) (q : Nat) : P1 base w0 (w.drewN q) gb gl m c wv vs i := by
  have u : Upd (fun _ => False) w (w.drewN q) := (Upd.refl _ w).drewN q
  refine ⟨S.below.trans (u.below hb (fun _ _ h => h)), (u.block _ (lt_of_block S.block) (fun h => h)).trans S.block, ownsRow_upd S.lown u (fun _ _ h => h), fun j hj => ?_⟩
  obtain ⟨n', xs, h1, h2, h3⟩ := S.rows j hj
  exact ⟨n', xs, h1, ownsRow_upd h2 u (fun _ _ h => h), h3⟩
/-- Rows full of marks, the list of all that were made of them. -/
structure P2 (base : Nat) (w0 w : World) (gb gl m c : Nat) (wv : Value) (vs : List Value) (L : Value) (us : List Value) (F : Nat → Value → Prop) : Prop where
  below : Below base w0 w
  block : w.heap[gb]? = some (.cells #[.slice (some ⟨gl, 0, none⟩) m c, wv] 27 (0, 0))
  lown : w.ownsRow base 28 1 (.slice (some ⟨gl, 0, none⟩) m c) m vs
  long : w.ownsRow base 28 1 L us.length us
  fams : Fams base 46 mkP w F
  ne : L.ownBlock ≠ some gl
def famP (vs us : List Value) : Nat → Value → Prop := fun j v => vs[j]? = some v ∨ ∃ t : Nat, us[t]? = some v ∧ t / 2 = j
section
variable {base : Nat} {w0 w w' : World} {gb gl m c : Nat} {wv : Value} {vs : List Value} {L L' : Value} {us new : List Value} {F F' : Nat → Value → Prop}
theorem P2.less (S : P2 base w0 w gb gl m c wv vs L us F) (h : ∀ i u, F' i u → F i u) : P2 base w0 w gb gl m c wv vs L us F' :=
  ⟨S.below, S.block, S.lown, S.long, S.fams.less h, S.ne⟩
theorem P2.alloc (S : P2 base w0 w gb gl m c wv vs L us F) (hb : base ≤ w.heap.size) (o : Obj) : P2 base w0 (w.alloc o) gb gl m c wv vs L us F := by
  have u : Upd (fun _ => False) w (w.alloc o) := (Upd.refl _ _).alloc o
  exact ⟨S.below.alloc hb o, (u.block _ (lt_of_block S.block) (fun h => h)).trans S.block, ownsRow_upd S.lown u (fun _ _ h => h), ownsRow_upd S.long u (fun _ _ h => h), S.fams.upd u (fun _ _ _ _ _ h => h), S.ne⟩
theorem P2.grow {i n : Nat} {g g' : Value} (S : P2 base w0 w gb gl m c wv vs L us F) (hb : base ≤ w.heap.size) (hm : F i g)
    (ho : w'.ownsRow base 46 2 g' (n + 1) (marks (mkP i) n ++ mkP i)) (hg : w.grownBy w' g.ownBlock) (mv : Moved w g g') (ov : Over w w' g 46 (n * 2) (mkP i)) : P2 base w0 w' gb gl m c wv vs L us (plus i g' F) := by
  have u : Upd (fun j => g.ownBlock = some j) w w' := (Upd.refl _ _).grown hg (fun _ _ e => e)
  obtain ⟨nn, hgo⟩ := S.fams.full i g hm
  refine ⟨S.below.trans (u.below hb (fun k hk e => by have := ((S.fams.full i g hm).lt e).2; omega)), (u.block _ (lt_of_block S.block) (fun e => ?_)).trans S.block, ownsRow_upd S.lown u (fun k hk e => ?_), ownsRow_upd S.long u (fun k hk e => ?_), S.fams.step hm ho hg mv ov, S.ne⟩
  · exact own_not hgo S.block (fun cs h => by simp at h) e
  · exact own_apart hgo S.lown (by decide) e hk
  · exact own_apart hgo S.long (by decide) e hk
theorem P2.more (S : P2 base w0 w gb gl m c wv vs L us F) (hb : base ≤ w.heap.size)
    (ho : w'.ownsRow base 28 1 L' (us.length + new.length) (us ++ new)) (hg : w.grownBy w' L.ownBlock) (mv : Moved w L L') : P2 base w0 w' gb gl m c wv vs L' (us ++ new) F := by
  have u : Upd (fun j => L.ownBlock = some j) w w' := (Upd.refl _ _).grown hg (fun _ _ e => e)
  refine ⟨S.below.trans (u.below hb (fun k hk e => by have := (own_lt S.long e).2; omega)), (u.block _ (lt_of_block S.block) (fun e => own_not S.long S.block (fun cs h => by simp at h) e)).trans S.block, ownsRow_upd S.lown u (fun k hk e => ?_), by rw [List.length_append]; exact ho, S.fams.upd u (fun i v k hf hk e => ?_), fun e => ?_⟩
  · simp [Value.ownBlock] at hk
    subst hk
    exact S.ne e
  · obtain ⟨nn, hgo⟩ := S.fams.full i v hf
    exact own_apart hgo S.long (by decide) hk e
  · rcases mv with h | ⟨k, h, hk⟩
    · exact S.ne (h ▸ e)
    · rw [e] at h
      simp at h
      have := (own_lt S.lown (k := gl) rfl).1
      omega
theorem P1.start (S : P1 base w0 w gb gl m c wv vs vs.length)
    (ap : ∀ a b (ha : a < vs.length) (hb : b < vs.length), a ≠ b → ∀ k, vs[a].ownBlock = some k → vs[b].ownBlock ≠ some k) : P2 base w0 w gb gl m c wv vs (.slice none 0 0) [] (famP vs []) := by
  refine ⟨S.below, S.block, S.lown, World.ownsRow_nil _ _ _ _, ⟨fun i u h => ?_, fun i u j v h1 h2 hne k hk => ?_⟩, by simp [Value.ownBlock]⟩
  · rcases h with h | ⟨t, h, _⟩
    · obtain ⟨hi, rfl⟩ := List.getElem?_eq_some_iff.1 h
      obtain ⟨n, xs, _, ho, hx⟩ := S.rows i hi
      rw [hx hi] at ho
      exact ⟨n, ho⟩
    · simp at h
  · rcases h1 with h1 | ⟨t, h1, _⟩
    · rcases h2 with h2 | ⟨t, h2, _⟩
      · obtain ⟨hi, rfl⟩ := List.getElem?_eq_some_iff.1 h1
        obtain ⟨hj, rfl⟩ := List.getElem?_eq_some_iff.1 h2
        exact ap i j hi hj hne k hk
      · simp at h2
    · simp at h1
end
theorem fam_more (vs us : List Value) (j i : Nat) (u : Value) (a a2 : Option Addr) (l l2 c c2 : Nat) (hul : us.length = 2 * j) (h0 : famP vs us j (.slice a l c)) (h : famP vs (us ++ [.slice a l c, .slice a2 l2 c2]) i u) :
    plus j (.slice a2 l2 c2) (famP vs us) i u := by
  rcases h with h | ⟨t, h, ht⟩
  · exact Or.inr (Or.inl h)
  · by_cases hl : t < us.length
    · rw [List.getElem?_append_left hl] at h
      exact Or.inr (Or.inr ⟨t, h, ht⟩)
    · rw [List.getElem?_append_right (by omega)] at h
      have hlt : t - us.length < 2 := by have := (List.getElem?_eq_some_iff.1 h).1; simpa using this
      have hij : i = j := by omega
      subst hij
      obtain ⟨d, hd⟩ : ∃ d, t - us.length = d := ⟨_, rfl⟩
      rw [hd] at h hlt
      match d, hlt, h with
      | 0, _, h => simp at h; subst h; exact Or.inr h0
      | 1, _, h => simp at h; subst h; exact Or.inl ⟨rfl, rfl⟩
theorem neqM (j : Nat) (W : World) : (binOp .neq 46 (.agg #[.int .i64 (-(j : Int)), .int .u64 0]) (.agg #[.int .i64 (-(j : Int)), .int .u64 0])).run Try.prog W = .ok (.bool false) W := by
  have u3 := Try.underlying29
  have a3 := Try.isAgg29
  have z3 := Try.sizeOf29
  have u1 := Try.underlying3
  have a1 := Try.isAgg3
  have z1 := Try.sizeOf3
  have hS : Try.prog.underlying 46 = some (.struct (Try.prog.fieldsOf 46)) := by kernel_rfl
  have hp : Try.prog.stoodInHeld 46 = false := by kernel_rfl
  have h : (Op.equalIn 10000 46 (.agg #[.int .i64 (-(j : Int)), .int .u64 0]) (.agg #[.int .i64 (-(j : Int)), .int .u64 0])).run Try.prog W = .ok true W := by
    rw [run_equalIn_agg W 9999 46 _ _ hS hp]
    simp only [Program.fieldsOf, Try.underlying46]
    go_simp
  rw [run_neq_struct, h]
  rfl
end Go.Proofs.Ytmegmjhkjaejgaa.sk.pl
