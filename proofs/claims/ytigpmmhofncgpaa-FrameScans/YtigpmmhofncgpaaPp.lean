/-
  Contracts: pieces.
-/
import Derived.Test.YtigpmmhofncgpaaMq
import Derived.Test.YtigpmmhofncgpaaSp
namespace Go.Proofs.Ytigpmmhofncgpaa
open Go Go.RowKit
set_option maxRecDepth 100000

/-- Four cells of a block, one after the other. -/
theorem set4_eq (w : World) (g o : Nat) (cur : Array Value) (t : TypeId) (v0 v1 v2 v3 : Value) (hg : w.heap[g]? = some (.cells cur t (0, 0))) (hf : o + 4 ≤ cur.size) :
    (((w.setCell ⟨g, o, none⟩ v0).setCell ⟨g, o + 1, none⟩ v1).setCell ⟨g, o + 2, none⟩ v2).setCell ⟨g, o + 3, none⟩ v3 = w.setRow g (cur.toList.take o ++ [v0, v1, v2, v3] ++ cur.toList.drop (o + [v0, v1, v2, v3].length)).toArray := by
  rw [setCell_eq_setRow w g o cur t (0, 0) v0 hg,
    setCell_eq_setRow _ g (o + 1) _ t (0, 0) v1 (setRow_heap w g cur _ t _ hg), setRow_setRow,
    setCell_eq_setRow _ g (o + 2) _ t (0, 0) v2 (setRow_heap w g cur _ t _ hg), setRow_setRow,
    setCell_eq_setRow _ g (o + 3) _ t (0, 0) v3 (setRow_heap w g cur _ t _ hg), setRow_setRow]
  congr 1
  apply Array.ext_getElem?
  intro j
  simp only [List.getElem?_toArray, Array.getElem?_setIfInBounds, Array.size_setIfInBounds]
  have hd : (cur.toList.take o).length = o := by simp; omega
  by_cases h1 : j < o
  · rw [if_neg (by omega), if_neg (by omega), if_neg (by omega), if_neg (by omega), List.append_assoc, List.getElem?_append_left (by omega), List.getElem?_take, if_pos h1, Array.getElem?_toList]
  · by_cases h2 : j < o + 4
    · rw [List.append_assoc, List.getElem?_append_right (by omega), hd, List.getElem?_append_left (by simp; omega)]
      obtain rfl | rfl | rfl | rfl : j = o ∨ j = o + 1 ∨ j = o + 2 ∨ j = o + 3 := by omega
      · rw [if_neg (by omega), if_neg (by omega), if_neg (by omega), if_pos rfl, if_pos (by omega)]; simp
      · rw [if_neg (by omega), if_neg (by omega), if_pos rfl, if_pos (by omega)]; simp
      · rw [if_neg (by omega), if_pos rfl, if_pos (by omega)]; simp
      · rw [if_pos rfl, if_pos (by omega)]; simp
    · rw [if_neg (by omega), if_neg (by omega), if_neg (by omega), if_neg (by omega), List.getElem?_append_right (by simp; omega), List.getElem?_drop, ← Array.getElem?_toList]
      congr 1
      simp
      omega
/-- A row of one's own with some cells written. -/
theorem own_in {base : Nat} {e : TypeId} {s : Nat} {w : World} {g n cap : Nat} {cur : Array Value} {xs : List Value} (h : w.ownsRow base e s (.slice (some ⟨g, 0, none⟩) n cap) n xs) (hg : w.heap[g]? = some (.cells cur e (0, 0))) (off : Nat) (cs : List Value) (hf : off + cs.length ≤ n * s) :
    (w.setRow g (cur.toList.take off ++ cs ++ cur.toList.drop (off + cs.length)).toArray).ownsRow base e s (.slice (some ⟨g, 0, none⟩) n cap) n (xs.take off ++ cs ++ xs.drop (off + cs.length)) ∧ Upd (fun j => j = g) w (w.setRow g (cur.toList.take off ++ cs ++ cur.toList.drop (off + cs.length)).toArray) := by
  obtain ⟨h1, h2⟩ := h
  rcases h2 with ⟨e, _⟩ | ⟨g', cap', cur', e, hb, hg', hc, hm, hs, ht⟩
  · cases e
  · cases e
    rw [hg] at hg'
    simp at hg'
    subst hg'
    have hle : n * s ≤ cap * s := Nat.mul_le_mul_right _ hc
    have hcl : cur.toList.length = cap * s := by simpa using hs
    refine ⟨⟨by simp; omega, Or.inr ⟨g, cap, _, rfl, hb, setRow_heap w g cur _ e _ hg, hc, hm, ?_, ?_⟩⟩, ?_⟩
    · simp only [List.size_toArray, List.length_append, List.length_take, List.length_drop]
      omega
    · rw [← ht]
      have e1 : (List.take off (List.take (n * s) cur.toList)) = cur.toList.take off := by rw [List.take_take]; congr 1; omega
      rw [e1]
      have hl1 : (cur.toList.take off ++ cs).length = off + cs.length := by simp; omega
      rw [List.take_append, List.take_of_length_le (by omega), hl1, List.drop_take]
    · exact ⟨rfl, rfl, rfl, by simp [World.setRow], fun k _ hk => setRow_other w g k _ (fun e => hk e)⟩
/-- A piece that is a mark. -/
def mkP (i : Nat) : List Value := [.int .i64 (-1 - (i : Int)), .int .u64 0, .int .i64 0, .int .i64 0]
/-- Rows of pieces, the first i of them full of marks. -/
structure P1 (base : Nat) (w0 w : World) (g0 : Nat) (vs : List Value) (i : Nat) : Prop where
  below : Below base w0 w
  cells : w.heap[g0]? = some (.cells vs.toArray 44 (0, 0))
  rows : ∀ j (hj : j < vs.length), ∃ n xs, n ≤ 5864062014805 ∧ w.ownsRow base 52 4 vs[j] n xs ∧ (j < i → xs = marks (mkP j) n)
theorem P1.cell {base : Nat} {w0 w : World} {g0 : Nat} {vs : List Value} {i : Nat} (S : P1 base w0 w g0 vs i) (j : Nat) (hj : j < vs.length) : w.cell? ⟨g0, j, none⟩ = some vs[j] := by
  rw [cell_of_row _ _ j _ _ _ S.cells]
  simp [hj]
theorem P1.next {base : Nat} {w0 w : World} {g0 : Nat} {vs : List Value} {i n : Nat} (S : P1 base w0 w g0 vs i) (hi : i < vs.length) (hn : n ≤ 5864062014805) (ho : w.ownsRow base 52 4 vs[i] n (marks (mkP i) n)) : P1 base w0 w g0 vs (i + 1) := by
  refine ⟨S.below, S.cells, fun j hj => ?_⟩
  by_cases h : j = i
  · subst h
    exact ⟨n, _, hn, ho, fun _ => rfl⟩
  · obtain ⟨n', xs, h1, h2, h3⟩ := S.rows j hj
    exact ⟨n', xs, h1, h2, fun hl => h3 (by omega)⟩
theorem P1.upd {base : Nat} {w0 w w' : World} {g0 : Nat} {vs : List Value} {i n g cap : Nat} {xs : List Value} (S : P1 base w0 w g0 vs i) (hi : i < vs.length) (hv : vs[i] = .slice (some ⟨g, 0, none⟩) n cap) (hbw : base ≤ w.heap.size)
    (ap : ∀ a b (ha : a < vs.length) (hb : b < vs.length), a ≠ b → ∀ k, vs[a].ownBlock = some k → vs[b].ownBlock ≠ some k) (hbg : base ≤ g) (hne : g0 ≠ g) (u : Upd (fun j => j = g) w w') (hn : n ≤ 5864062014805) (ho : w'.ownsRow base 52 4 vs[i] n xs) : P1 base w0 w' g0 vs i := by
  refine ⟨S.below.trans (u.below hbw (fun k hk e => by omega)), (u.block _ (lt_of_block S.cells) hne).trans S.cells, fun j hj => ?_⟩
  by_cases h : j = i
  · subst h
    exact ⟨n, xs, hn, ho, fun h => absurd h (Nat.lt_irrefl _)⟩
  · obtain ⟨n', xs', h1, h2, h3⟩ := S.rows j hj
    exact ⟨n', xs', h1, ownsRow_upd h2 u (fun k hk e => ap i j hi hj (fun e => h e.symm) g (by rw [hv]; rfl) (e ▸ hk)), h3⟩

theorem own_block {base : Nat} {e : TypeId} {s : Nat} {w : World} {v : Value} {n : Nat} {xs : List Value} (h : w.ownsRow base e s v n xs) {k : Nat} (hk : v.ownBlock = some k) : ∃ cur, w.heap[k]? = some (.cells cur e (0, 0)) := by
  rcases h.2 with ⟨rfl, _⟩ | ⟨g, cap, cur, rfl, hb, hg, _⟩
  · simp [Value.ownBlock] at hk
  · simp [Value.ownBlock] at hk
    subst hk
    exact ⟨cur, hg⟩
/-- Rows full of marks, the list of all that were made of them. -/
structure P2 (base : Nat) (w0 w : World) (g0 : Nat) (vs : List Value) (L : Value) (us : List Value) (F : Nat → Value → Prop) : Prop where
  below : Below base w0 w
  cells : w.heap[g0]? = some (.cells vs.toArray 44 (0, 0))
  long : w.ownsRow base 44 1 L us.length us
  fams : Fams base 52 mkP w F
  ne : L.ownBlock ≠ some g0
def famP (vs us : List Value) : Nat → Value → Prop := fun j v => vs[j]? = some v ∨ ∃ t : Nat, us[t]? = some v ∧ t / 3 = j
theorem P2.cell {base : Nat} {w0 w : World} {g0 : Nat} {vs : List Value} {L : Value} {us : List Value} {F : Nat → Value → Prop} (S : P2 base w0 w g0 vs L us F) (j : Nat) (hj : j < vs.length) : w.cell? ⟨g0, j, none⟩ = some vs[j] := by
  rw [cell_of_row _ _ j _ _ _ S.cells]
  simp [hj]
theorem P2.less {base : Nat} {w0 w : World} {g0 : Nat} {vs : List Value} {L : Value} {us : List Value} {F F' : Nat → Value → Prop} (S : P2 base w0 w g0 vs L us F) (h : ∀ i u, F' i u → F i u) : P2 base w0 w g0 vs L us F' :=
  ⟨S.below, S.cells, S.long, S.fams.less h, S.ne⟩
theorem P2.alloc {base : Nat} {w0 w : World} {g0 : Nat} {vs : List Value} {L : Value} {us : List Value} {F : Nat → Value → Prop} (S : P2 base w0 w g0 vs L us F) (hb : base ≤ w.heap.size) (o : Obj) : P2 base w0 (w.alloc o) g0 vs L us F := by
  have u : Upd (fun _ => False) w (w.alloc o) := (Upd.refl _ _).alloc o
  exact ⟨S.below.alloc hb o, (u.block _ (lt_of_block S.cells) (fun h => h)).trans S.cells, ownsRow_upd S.long u (fun _ _ h => h), S.fams.upd u (fun _ _ _ _ _ h => h), S.ne⟩
theorem P2.drew {base : Nat} {w0 w : World} {g0 : Nat} {vs : List Value} {L : Value} {us : List Value} {F : Nat → Value → Prop} (S : P2 base w0 w g0 vs L us F) (m : Nat) : P2 base w0 (w.drewN m) g0 vs L us F := by
  have b := below_drewN (Below.refl w.heap.size w) m
  have u := Upd.ofBelow (S := fun _ => False) b (fun k hk hk' => by omega)
  exact ⟨below_drewN S.below m, (u.block _ (lt_of_block S.cells) (fun h => h)).trans S.cells, ownsRow_upd S.long u (fun _ _ h => h), S.fams.upd u (fun _ _ _ _ _ h => h), S.ne⟩
theorem P2.grow {base : Nat} {w0 w w' : World} {g0 : Nat} {vs : List Value} {L : Value} {us : List Value} {F : Nat → Value → Prop} {i n : Nat} {g g' : Value} (S : P2 base w0 w g0 vs L us F) (hb : base ≤ w.heap.size) (hm : F i g)
    (ho : w'.ownsRow base 52 4 g' (n + 1) (marks (mkP i) n ++ mkP i)) (hg : w.grownBy w' g.ownBlock) (mv : Moved w g g') (ov : Over w w' g 52 (n * 4) (mkP i)) : P2 base w0 w' g0 vs L us (plus i g' F) := by
  have u : Upd (fun j => g.ownBlock = some j) w w' := (Upd.refl _ _).grown hg (fun _ _ e => e)
  obtain ⟨nn, hgo⟩ := S.fams.full i g hm
  have hty : ∀ k, g.ownBlock = some k → ∃ cur, w.heap[k]? = some (.cells cur 52 (0, 0)) := fun k hk => own_block hgo hk
  refine ⟨S.below.trans (u.below hb (fun k hk e => by have := ((S.fams.full i g hm).lt e).2; omega)), (u.block _ (lt_of_block S.cells) (fun e => ?_)).trans S.cells, ownsRow_upd S.long u (fun k hk e => ?_), S.fams.step hm ho hg mv ov, S.ne⟩
  · obtain ⟨cur, hc⟩ := hty _ e
    rw [S.cells] at hc
    simp at hc
  · obtain ⟨cur, hc⟩ := hty _ e
    obtain ⟨cur', hc'⟩ := own_block S.long hk
    rw [hc'] at hc
    simp at hc
theorem P2.more {base : Nat} {w0 w w' : World} {g0 : Nat} {vs : List Value} {L L' : Value} {us new : List Value} {F : Nat → Value → Prop} (S : P2 base w0 w g0 vs L us F) (hb : base ≤ w.heap.size)
    (ho : w'.ownsRow base 44 1 L' (us.length + new.length) (us ++ new)) (hg : w.grownBy w' L.ownBlock) (mv : Moved w L L') : P2 base w0 w' g0 vs L' (us ++ new) F := by
  have u : Upd (fun j => L.ownBlock = some j) w w' := (Upd.refl _ _).grown hg (fun _ _ e => e)
  refine ⟨S.below.trans (u.below hb (fun k hk e => ?_)), (u.block _ (lt_of_block S.cells) S.ne).trans S.cells, by rw [List.length_append]; exact ho, S.fams.upd u (fun i v k hf hk e => ?_), fun e => ?_⟩
  · rcases S.long.2 with ⟨h, _⟩ | ⟨g, cap, cur, h, hbg, _⟩
    · rw [h] at e; simp [Value.ownBlock] at e
    · rw [h] at e; simp [Value.ownBlock] at e; omega
  · obtain ⟨nn, hgo⟩ := S.fams.full i v hf
    obtain ⟨cur, hc⟩ := own_block hgo hk
    obtain ⟨cur', hc'⟩ := own_block S.long e
    rw [hc'] at hc
    simp at hc
  · rcases mv with h | ⟨k, h, hk⟩
    · exact S.ne (h ▸ e)
    · rw [e] at h
      simp at h
      have := lt_of_block S.cells
      omega
theorem P1.start {base : Nat} {w0 w : World} {g0 : Nat} {vs : List Value} (S : P1 base w0 w g0 vs vs.length)
    (ap : ∀ a b (ha : a < vs.length) (hb : b < vs.length), a ≠ b → ∀ k, vs[a].ownBlock = some k → vs[b].ownBlock ≠ some k) : P2 base w0 w g0 vs (.slice none 0 0) [] (famP vs []) := by
  refine ⟨S.below, S.cells, World.ownsRow_nil _ _ _ _, ⟨fun i u h => ?_, fun i u j v h1 h2 hne k hk => ?_⟩, by simp [Value.ownBlock]⟩
  · rcases h with h | ⟨t, h, _⟩
    · obtain ⟨hi, rfl⟩ := List.getElem?_eq_some_iff.1 h
      obtain ⟨n, xs, _, ho, hx⟩ := S.rows i hi
      rw [hx hi] at ho
      exact ⟨n, ho⟩
    · simp at h
  · rcases h1 with h1 | ⟨t, h1, _⟩
    · rcases h2 with h2 | ⟨t, h2, _⟩
      · obtain ⟨hi, rfl⟩ := List.getElem?_eq_some_iff.1 h1
        obtain ⟨hj, rfl⟩ := List.getElem?_eq_some_iff.1 h2
        exact ap i j hi hj hne k hk
      · simp at h2
    · simp at h1
theorem fam_more (vs us : List Value) (j i : Nat) (u : Value) (a a2 a3 : Option Addr) (l l2 l3 c c2 c3 : Nat) (hul : us.length = 3 * j) (h0 : famP vs us j (.slice a l c)) (h : famP vs (us ++ [.slice a l c, .slice a2 l2 c2, .slice a3 l3 c3]) i u) :
    plus j (.slice a3 l3 c3) (plus j (.slice a2 l2 c2) (famP vs us)) i u := by
  rcases h with h | ⟨t, h, ht⟩
  · exact Or.inr (Or.inr (Or.inl h))
  · by_cases hl : t < us.length
    · rw [List.getElem?_append_left hl] at h
      exact Or.inr (Or.inr (Or.inr ⟨t, h, ht⟩))
    · rw [List.getElem?_append_right (by omega)] at h
      have hlt : t - us.length < 3 := by have := (List.getElem?_eq_some_iff.1 h).1; simpa using this
      have hij : i = j := by omega
      subst hij
      obtain ⟨d, hd⟩ : ∃ d, t - us.length = d := ⟨_, rfl⟩
      rw [hd] at h hlt
      match d, hlt, h with
      | 0, _, h => simp at h; subst h; exact Or.inr (Or.inr h0)
      | 1, _, h => simp at h; subst h; exact Or.inr (Or.inl ⟨rfl, rfl⟩)
      | 2, _, h => simp at h; subst h; exact Or.inl ⟨rfl, rfl⟩
theorem Try.infoL : (Try.prog.info? 44).map (fun i => (i.zero, i.size, i.bytes)) = some (some (.slice none 0 0), 1, 24) := by kernel_rfl

set_option maxHeartbeats 1000000 in
theorem pieces_any (base g0 : Nat) (vs : List Value) (w : World) (S0 : P1 base w w g0 vs 0) (hb0 : base ≤ w.heap.size)
    (ap : ∀ a b (ha : a < vs.length) (hb : b < vs.length), a ≠ b → ∀ k, vs[a].ownBlock = some k → vs[b].ownBlock ≠ some k) (hvl : vs.length ≤ 1000) (m : Nat) (hm : vs.length = m) :
    Calls Try.prog 18 #[.slice (some ⟨g0, 0, none⟩) m m] w fun e w' => e = .returned (.bool true) ∧ Below base w w' := by
  have HAP : Hid (∀ a b (ha : a < vs.length) (hb : b < vs.length), a ≠ b → ∀ k, vs[a].ownBlock = some k → vs[b].ownBlock ≠ some k) := ap
  clear ap
  obtain ⟨i0, hip, hp0, hp1, hp2⟩ := info_parts Try.info52
  obtain ⟨i1, hiq, hq0, hq1, hq2⟩ := info_parts Try.infoL
  have HLN : Hid (∀ j (hj : j < vs.length), ∃ ao l c, vs[j] = .slice ao l c ∧ l ≤ 5864062014805) := fun j hj => by
    obtain ⟨n, xs, h1, h2, _⟩ := S0.rows j hj
    obtain ⟨ao, l, c, e⟩ := row_shape h2
    rw [e] at h2
    obtain ⟨h3, _⟩ := own_cap h2
    exact ⟨ao, l, c, e, by omega⟩
  have HAP2 := HAP
  rw [hm] at hvl
  go_enter Try.func18, Try.ntmps18
  go_wp2
  go_loopw [3] (fun a wr => ∃ i : Nat, a = .int .i64 i ∧ i ≤ m ∧ P1 base w wr g0 vs i) (fun a _ => m - (intOf a).toNat)
  case atStart => exact ⟨0, rfl, by omega, S0⟩
  case round =>
    obtain ⟨i, rfl, him, S⟩ := hrel
    by_cases hlt : i < m
    · have hz : (i : Int) < (m : Int) := by omega
      have hiv : i < vs.length := by omega
      obtain ⟨n, xs, hn, ho, hx⟩ := S.rows i hiv
      have hc := S.cell i hiv
      obtain ⟨v, hv⟩ : ∃ v, vs[i] = v := ⟨_, rfl⟩
      rw [hv] at ho hc
      obtain ⟨ao, l, c, rfl⟩ := row_shape ho
      obtain ⟨hl1, hl2, hl3⟩ := own_cap ho
      obtain rfl : n = l := hl1.symm
      clear hx hc
      go_wp2
      go_loopw [4] (fun a w2 => ∃ (k : Nat) (ys : List Value), a = .int .i64 k ∧ k ≤ n ∧ w2.ownsRow base 52 4 (.slice ao n c) n (marks (mkP i) k ++ ys) ∧ P1 base w w2 g0 vs i) (fun a _ => n - (intOf a).toNat)
      case atStart => exact ⟨0, xs, rfl, by omega, by simpa [marks] using ho, S⟩
      case round =>
        obtain ⟨k, ys, rfl, hkn, ho2, S2⟩ := hrel
        have hc2 := S2.cell i hiv
        rw [hv] at hc2
        by_cases hk : k < n
        · have hzk : (k : Int) < (n : Int) := by omega
          have ho3 := ho2
          obtain ⟨hx1, ⟨e, he⟩ | ⟨g, cap, cur, e, hbg, hg, q1, q2, q3, q4⟩⟩ := ho2
          · omega
          cases e
          have hne : g0 ≠ g := fun e => by
            have h1 := S2.cells
            rw [e, hg] at h1
            simp at h1
          have hml := marks_len (mkP i) k
          have hm4 : (mkP i).length = 4 := rfl
          rw [hm4] at hml
          have hyl : (marks (mkP i) k ++ ys).length = n * 4 := hx1
          rw [List.length_append, hml] at hyl
          obtain ⟨o4, u4⟩ := own_in ho3 hg (k * 4) (mkP i) (by rw [hm4]; omega)
          have e4 : (marks (mkP i) k ++ ys).take (k * 4) ++ mkP i ++ (marks (mkP i) k ++ ys).drop (k * 4 + (mkP i).length) = marks (mkP i) (k + 1) ++ ys.drop 4 := by
            rw [← marks_succ, ← hml, List.take_left, List.drop_append, List.drop_of_length_le (by omega)]
            simp [hm4]
          rw [e4] at o4
          have E4 := set4_eq wr g (k * 4) cur 52 (.int .i64 (-1 - (i : Int))) (.int .u64 0) (.int .i64 0) (.int .i64 0) hg (by omega)
          have hsz : ∀ j, j < 4 → ∃ y, wr.cell? ⟨g, k * 4 + j, none⟩ = some y := fun j hj => ⟨cur[k * 4 + j]'(by omega), by simp [World.cell?, hg, show k * 4 + j < cur.size by omega]⟩
          obtain ⟨y0, c0⟩ := hsz 0 (by omega)
          obtain ⟨y1, c1⟩ := hsz 1 (by omega)
          obtain ⟨y2, c2⟩ := hsz 2 (by omega)
          obtain ⟨y3, c3⟩ := hsz 3 (by omega)
          rw [Nat.add_zero] at c0
          have hfz : ∀ j, wr.frozen? ⟨g, k * 4 + j, none⟩ = false := fun j => by simp [World.frozen?, hg]
          have f0 := hfz 0
          rw [Nat.add_zero] at f0
          have f1 := hfz 1
          have f2 := hfz 2
          have f3 := hfz 3
          change World.ownsRow (wr.setRow g (List.take (k * 4) cur.toList ++ [Value.int .i64 (-1 - (i : Int)), .int .u64 0, .int .i64 0, .int .i64 0] ++ List.drop (k * 4 + [Value.int .i64 (-1 - (i : Int)), .int .u64 0, .int .i64 0, .int .i64 0].length) cur.toList).toArray) _ _ _ _ _ _ at o4
          change Upd _ wr (wr.setRow g (List.take (k * 4) cur.toList ++ [Value.int .i64 (-1 - (i : Int)), .int .u64 0, .int .i64 0, .int .i64 0] ++ List.drop (k * 4 + [Value.int .i64 (-1 - (i : Int)), .int .u64 0, .int .i64 0, .int .i64 0].length) cur.toList).toArray) at u4
          rw [← E4] at o4 u4
          have S4 := S2.upd hiv hv (by have := S2.below.size; omega) HAP.out hbg hne u4 hn (by rw [hv]; exact o4)
          have O4 : Hid (World.ownsRow _ base 52 4 _ n (marks (mkP i) (k + 1) ++ ys.drop 4)) := o4
          have HS4 : Hid (P1 base w _ g0 vs i) := S4
          clear o4 u4 S4 e4 hx1 ho3 hml hyl S2 q4 E4 hsz hfz
          go_wp2
          go_roundw
          case rel => exact ⟨k + 1, _, by go_num, by omega, O4.out, HS4.out⟩
          case measure => simp [intOf]; omega
        · obtain rfl : k = n := by omega
          have hys : ys = [] := by
            have h1 := ho2.1
            rw [List.length_append, marks_len] at h1
            have hm4 : (mkP i).length = 4 := rfl
            rw [hm4] at h1
            exact List.eq_nil_of_length_eq_zero (by omega)
          subst hys
          rw [List.append_nil] at ho2
          have S5 := S2.next hiv hn (by rw [hv]; exact ho2)
          have HS5 : Hid (P1 base w wr g0 vs (i + 1)) := S5
          clear S5 ho2 S2
          go_wp2
          go_roundw
          case rel => exact ⟨i + 1, by go_num, by omega, HS5.out⟩
          case measure => simp [intOf]; omega
    · obtain rfl : i = m := by omega
      have T0 : P2 base w wr g0 vs (.slice none 0 0) [] (famP vs []) := by
        rw [← hm] at S
        exact S.start HAP.out
      clear S S0
      go_wp2
      go_loopw [5, 6] (fun a b wr => ∃ (j : Nat) (us : List Value), b = .int .i64 j ∧ j ≤ i ∧ us.length = 3 * j ∧ P2 base w wr g0 vs a us (famP vs us)) (fun _ b _ => i - (intOf b).toNat)
      case atStart => exact ⟨0, [], rfl, by omega, rfl, T0⟩
      case round =>
        obtain ⟨j, us, rfl, hji, hul, T⟩ := hrel
        have HUL : Hid (us.length = 3 * j) := hul
        have hub : us.length ≤ 3000 := by omega
        clear hul
        have hbs := T.below.size
        obtain ⟨aL, lL, cL, rfl⟩ := row_shape T.long
        by_cases hlt : j < i
        · have hz : (j : Int) < (i : Int) := by omega
          have hjv : j < vs.length := by omega
          obtain ⟨ao, l, c, hv, hlb⟩ := HLN.out j hjv
          have hc := T.cell j hjv
          rw [hv] at hc
          have HF0 : famP vs us j (.slice ao l c) := Or.inl (by rw [List.getElem?_eq_getElem hjv, hv])
          have A0 : wr.ownsRow base 52 4 (.slice ao l c) (l + 0) (marks (mkP j) (l + 0)) := by
            obtain ⟨n, ho⟩ := T.fams.full _ _ HF0
            obtain ⟨h1, _⟩ := own_cap ho
            rw [← h1] at ho
            exact ho
          go_wp2
          go_loopw [7, 8] (fun a b w2 => ∃ k : Nat, b = .int .i64 k ∧ k ≤ 20 ∧ w2.ownsRow base 52 4 a (l + k) (marks (mkP j) (l + k)) ∧ P2 base w w2 g0 vs (.slice aL lL cL) us (plus j a (famP vs us))) (fun _ b _ => 20 - (intOf b).toNat)
          case atStart => exact ⟨0, rfl, by omega, A0, T.less (fun i u h => by rcases h with ⟨rfl, rfl⟩ | h <;> first | exact HF0 | exact h)⟩
          case round =>
            obtain ⟨k, rfl, hk20, A, T2⟩ := hrel
            have hbs2 := T2.below.size
            obtain ⟨a2, l2, c2, rfl⟩ := row_shape A
            by_cases hk : k < 20
            · have hzk : (k : Int) < 20 := by omega
              have T3 := T2.alloc (by omega) (.cells #[Value.int IntKind.i64 (-1 - (j : Int)), Value.int IntKind.u64 0, Value.int IntKind.i64 0, Value.int IntKind.i64 0] 52)
              have HT3 : Hid (P2 base w _ g0 vs (.slice aL lL cL) us (plus j (.slice a2 l2 c2) (famP vs us))) := T3
              clear T2 T3
              go_wp2_with (at_builtin; refine wpList_appX _ rfl _ _ 44 44 rfl base 52 i0 _ 4 32 Try.underlying44 hip hp0 hp1 hp2 rfl _ _ _ rfl (A.alloc _) _ 1 (mkP j) rfl (Src.ofSlice _ Try.underlying44 ⟨_, 0, none⟩ 1 1 _ rfl ?c1 ?c2) ?c3 ?c4 ?c5 ?_)
              case c1 =>
                intro t u ht
                rw [Addr.add_lit, Nat.zero_add, cell_of_row _ _ t _ _ _ (heap_alloc_new _ _)]
                simpa [mkP] using ht
              case c2 => intro u hu; simp [mkP] at hu; rcases hu with rfl | rfl | rfl | rfl <;> rfl
              case c3 => unfold maxLen; omega
              case c4 => omega
              case c5 => simp; omega
              intro v' w5 ho hg hmv hov
              have T4 := (HT3.out.grow (by simp; omega) (Or.inl ⟨rfl, rfl⟩) ho hg hmv hov).less (F' := plus j v' (famP vs us)) (fun i u h => by rcases h with h | h; exact Or.inl h; exact Or.inr (Or.inr h))
              rw [marks_succ] at ho
              have HO4 : Hid (w5.ownsRow base 52 4 v' (l + k + 1) (marks (mkP j) (l + k + 1))) := ho
              have HT4 : Hid (P2 base w w5 g0 vs (.slice aL lL cL) us (plus j v' (famP vs us))) := T4
              obtain ⟨a5, l5, c5, rfl⟩ := row_shape ho
              clear ho hg hmv hov T4 A
              go_wp2
              go_roundw
              case rel => exact ⟨k + 1, by go_num, by omega, HO4.out, HT4.out⟩
              case measure => simp [intOf]; omega
            · have hz20 : ¬ ((k : Int) < 20) := by omega
              clear hk
              have hc4 := T2.cell j hjv
              rw [hv] at hc4
              have HF1 : (plus j (.slice a2 l2 c2) (famP vs us)) j (.slice ao l c) := Or.inr HF0
              have A1 : wr.ownsRow base 52 4 (.slice ao l c) (l + 0) (marks (mkP j) (l + 0)) := by
                obtain ⟨n, ho⟩ := T2.fams.full _ _ HF1
                obtain ⟨h1, _⟩ := own_cap ho
                rw [← h1] at ho
                exact ho
              go_wp2
              go_loopw [9, 10] (fun a b w2 => ∃ k : Nat, b = .int .i64 k ∧ k ≤ 80 ∧ w2.ownsRow base 52 4 a (l + k) (marks (mkP j) (l + k)) ∧ P2 base w w2 g0 vs (.slice aL lL cL) us (plus j a (plus j (.slice a2 l2 c2) (famP vs us)))) (fun _ b _ => 80 - (intOf b).toNat)
              case atStart => exact ⟨0, rfl, by omega, A1, T2.less (fun i u h => by rcases h with ⟨rfl, rfl⟩ | h <;> first | exact HF1 | exact h)⟩
              case round =>
                obtain ⟨k, rfl, hk80, A, T6⟩ := hrel
                have hbs6 := T6.below.size
                obtain ⟨a3, l3, c3, rfl⟩ := row_shape A
                by_cases hk : k < 80
                · have hzk : (k : Int) < 80 := by omega
                  have T3 := T6.alloc (by omega) (.cells #[Value.int IntKind.i64 (-1 - (j : Int)), Value.int IntKind.u64 0, Value.int IntKind.i64 0, Value.int IntKind.i64 0] 52)
                  have HT3 : Hid (P2 base w _ g0 vs (.slice aL lL cL) us (plus j (.slice a3 l3 c3) (plus j (.slice a2 l2 c2) (famP vs us)))) := T3
                  clear T6 T3
                  go_wp2_with (at_builtin; refine wpList_appX _ rfl _ _ 44 44 rfl base 52 i0 _ 4 32 Try.underlying44 hip hp0 hp1 hp2 rfl _ _ _ rfl (A.alloc _) _ 1 (mkP j) rfl (Src.ofSlice _ Try.underlying44 ⟨_, 0, none⟩ 1 1 _ rfl ?c1 ?c2) ?c3 ?c4 ?c5 ?_)
                  case c1 =>
                    intro t u ht
                    rw [Addr.add_lit, Nat.zero_add, cell_of_row _ _ t _ _ _ (heap_alloc_new _ _)]
                    simpa [mkP] using ht
                  case c2 => intro u hu; simp [mkP] at hu; rcases hu with rfl | rfl | rfl | rfl <;> rfl
                  case c3 => unfold maxLen; omega
                  case c4 => omega
                  case c5 => simp; omega
                  intro v' w5 ho hg hmv hov
                  have T4 := (HT3.out.grow (by simp; omega) (Or.inl ⟨rfl, rfl⟩) ho hg hmv hov).less (F' := plus j v' (plus j (.slice a2 l2 c2) (famP vs us))) (fun i u h => by rcases h with h | h; exact Or.inl h; exact Or.inr (Or.inr h))
                  rw [marks_succ] at ho
                  have HO4 : Hid (w5.ownsRow base 52 4 v' (l + k + 1) (marks (mkP j) (l + k + 1))) := ho
                  have HT4 : Hid (P2 base w w5 g0 vs (.slice aL lL cL) us (plus j v' (plus j (.slice a2 l2 c2) (famP vs us)))) := T4
                  obtain ⟨a5, l5, c5, rfl⟩ := row_shape ho
                  clear ho hg hmv hov T4 A
                  go_wp2
                  go_roundw
                  case rel => exact ⟨k + 1, by go_num, by omega, HO4.out, HT4.out⟩
                  case measure => simp [intOf]; omega
                · have hz80 : ¬ ((k : Int) < 80) := by omega
                  clear hk
                  have hc6 := T6.cell j hjv
                  rw [hv] at hc6
                  have T7 := T6.alloc (by omega) (.cells #[.slice ao l c, .slice a2 l2 c2, .slice a3 l3 c3] 44)
                  have HT7 : Hid (P2 base w _ g0 vs (.slice aL lL cL) us (plus j (.slice a3 l3 c3) (plus j (.slice a2 l2 c2) (famP vs us)))) := T7
                  have A7 := T7.long
                  clear T6 T7 A
                  go_wp2_with (at_builtin; refine wpList_appX _ rfl _ _ 49 49 rfl base 44 i1 _ 1 24 Try.underlying49 hiq hq0 hq1 hq2 rfl _ _ _ rfl A7 _ 3 [.slice ao l c, .slice a2 l2 c2, .slice a3 l3 c3] rfl (Src.ofSlice _ Try.underlying49 ⟨_, 0, none⟩ 3 3 _ rfl ?d1 ?d2) ?d3 ?d4 ?d5 ?_)
                  case d2 => exact ⟨rfl, rfl, rfl⟩
                  case d3 => unfold maxLen; omega
                  case d4 => omega
                  case d5 => omega
                  intro v' w5 ho hg hmv hov
                  have T8 := (HT7.out.more (by simp; omega) ho hg hmv).less (F' := famP vs (us ++ [.slice ao l c, .slice a2 l2 c2, .slice a3 l3 c3])) (fun i u h => fam_more vs us j i u ao a2 a3 l l2 l3 c c2 c3 HUL.out HF0 h)
                  have HT8 : Hid (P2 base w w5 g0 vs v' (us ++ [.slice ao l c, .slice a2 l2 c2, .slice a3 l3 c3]) (famP vs (us ++ [.slice ao l c, .slice a2 l2 c2, .slice a3 l3 c3]))) := T8
                  obtain ⟨a5, l5, c5, rfl⟩ := row_shape ho
                  clear ho hg hmv hov T8 A7
                  go_wp2
                  go_roundw
                  case rel => exact ⟨j + 1, _, by go_num, by omega, by have := HUL.out; simp; omega, HT8.out⟩
                  case measure => simp [intOf]; omega
        · obtain rfl : j = i := by omega
          obtain ⟨hlL, hlL2, _⟩ := own_cap T.long
          have hzL : (lL : Int) ≤ 3000 := by omega
          have HNU : Hid (us.length = lL) := hlL.symm
          clear HUL hlL hlL2
          go_wp2
          go_loopw [2, 11] (fun z a w2 => ∃ t : Nat, z = .bool false ∧ a = .int .i64 t ∧ t ≤ lL ∧ P2 base w w2 g0 vs (.slice aL lL cL) us (famP vs us)) (fun _ a _ => lL - (intOf a).toNat)
          case atStart => exact ⟨0, rfl, rfl, by omega, T⟩
          case round =>
            obtain ⟨t, rfl, rfl, htl, T2⟩ := hrel
            by_cases ht : t < lL
            · have hzt : (t : Int) < (lL : Int) := by omega
              have htu : t < us.length := by have := HNU.out; omega
              obtain ⟨gL, capL, eL, _, _, _, hxL⟩ := own_some T2.long (by omega)
              simp only [Value.slice.injEq] at eL
              obtain ⟨rfl, eL2, eL3⟩ := eL
              clear eL2 eL3
              have hcL := hxL t us[t] (List.getElem?_eq_getElem htu)
              have HF : famP vs us (t / 3) us[t] := Or.inr ⟨t, List.getElem?_eq_getElem htu, rfl⟩
              obtain ⟨n, ho⟩ := T2.fams.full _ _ HF
              obtain ⟨u, hu⟩ : ∃ u, us[t] = u := ⟨_, rfl⟩
              rw [hu] at ho hcL
              obtain ⟨au, lu, cu, rfl⟩ := row_shape ho
              obtain ⟨hlu, hlu2, hlu3⟩ := own_cap ho
              obtain rfl : n = lu := hlu.symm
              clear hxL ho hcL
              have HU : Hid (us[t]? = some (.slice au n cu)) := by rw [← hu]; exact List.getElem?_eq_getElem htu
              rw [hu] at HF
              have HF' : Hid (famP vs us (t / 3) (.slice au n cu)) := HF
              clear HF hu htu
              go_wp2
              go_loopw [2, 12] (fun z a w2 => ∃ k : Nat, z = .bool false ∧ a = .int .i64 k ∧ k ≤ n ∧ P2 base w w2 g0 vs (.slice (some ⟨gL, 0, none⟩) lL cL) us (famP vs us)) (fun _ a _ => n - (intOf a).toNat)
              case atStart => exact ⟨0, rfl, rfl, by omega, T2⟩
              case round =>
                obtain ⟨k, rfl, rfl, hkn, T4⟩ := hrel
                obtain ⟨gL', capL', eL, _, _, _, hxL⟩ := own_some T4.long (by have := HNU.out; omega)
                simp only [Value.slice.injEq, Option.some.injEq, Addr.mk.injEq] at eL
                obtain ⟨⟨rfl, _⟩, eL2, eL3⟩ := eL
                clear eL2 eL3
                have hcL := hxL t _ HU.out
                clear hxL
                by_cases hk : k < n
                · have hzk : (k : Int) < (n : Int) := by omega
                  obtain ⟨n', ho⟩ := T4.fams.full _ _ HF'.out
                  obtain ⟨hn', _⟩ := own_cap ho
                  obtain rfl : n = n' := hn'
                  obtain ⟨gu, capu, eu, _, _, _, hxu⟩ := own_some ho (by omega)
                  cases eu
                  have hm4 : (mkP (t / 3)).length = 4 := rfl
                  have hget : ∀ r y, r < 4 → (mkP (t / 3))[r]? = some y → wr.cell? ⟨gu, k * 4 + r, none⟩ = some y := fun r y hr hy => hxu _ _ (by rw [marks_get _ _ _ (by rw [hm4]; omega), hm4, Nat.add_comm, Nat.add_mul_mod_self_right, Nat.mod_eq_of_lt hr]; exact hy)
                  have e0 := hget 0 _ (by omega) rfl
                  have e1 := hget 1 _ (by omega) rfl
                  have e2 := hget 2 _ (by omega) rfl
                  have e3 := hget 3 _ (by omega) rfl
                  rw [Nat.add_zero] at e0
                  have HT4 : Hid (P2 base w wr g0 vs (.slice (some ⟨gL, 0, none⟩) lL cL) us (famP vs us)) := T4
                  clear hget hxu ho T4
                  have hnb : (n : Int) ≤ 9223372036854775807 := by unfold maxLen at hlu3; omega
                  go_wp2
                  go_roundw
                  case rel => exact ⟨k + 1, rfl, by go_num, by omega, HT4.out⟩
                  case measure => simp [intOf]; omega
                · obtain rfl : k = n := by omega
                  have HT4 : Hid (P2 base w wr g0 vs (.slice (some ⟨gL, 0, none⟩) lL cL) us (famP vs us)) := T4
                  clear T4
                  go_wp2
                  go_roundw
                  case rel => exact ⟨t + 1, rfl, by go_num, by omega, HT4.out⟩
                  case measure => simp [intOf]; omega
            · obtain rfl : t = lL := by omega
              have HB := T2.below
              clear T2 T
              go_wp2
              go_ret
              exact ⟨rfl, HB⟩
end Go.Proofs.Ytigpmmhofncgpaa
