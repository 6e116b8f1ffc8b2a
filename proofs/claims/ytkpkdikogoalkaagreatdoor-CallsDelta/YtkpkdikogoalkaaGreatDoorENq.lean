/-
  Merged: EN, EP, EQ.
-/
import Derived.Test.YtkpkdikogoalkaaGreatDoorCMq
import Derived.Test.YtkpkdikogoalkaaGreatDoorCHq
import Derived.Test.YtkpkdikogoalkaaGreatDoorEHq
import Derived.Test.YtkpkdikogoalkaaGreatDoorEFq
namespace Go.Proofs.YtkpkdikogoalkaaGreatDoor.sk.oc
open Go Go.RowKit
set_option maxRecDepth 100000

/-- Cells are written into a row of one's own. -/
theorem own_put {base : Nat} {e : TypeId} {s : Nat} {w w' : World} {g n cap : Nat} {cur : Array Value} {xs : List Value} (h : w.ownsRow base e s (.slice (some ⟨g, 0, none⟩) n cap) n xs) (hg : w.heap[g]? = some (.cells cur e (0, 0))) (off : Nat) (cs : List Value) (hf : off + cs.length ≤ n * s)
    (hw : w'.heap[g]? = some (.cells (cur.toList.take off ++ cs ++ cur.toList.drop (off + cs.length)).toArray e (0, 0))) : w'.ownsRow base e s (.slice (some ⟨g, 0, none⟩) n cap) n (xs.take off ++ cs ++ xs.drop (off + cs.length)) := by
  obtain ⟨h1, h2⟩ := h
  rcases h2 with ⟨e, _⟩ | ⟨g', cap', cur', e, hb, hg', hc, hm, hs, ht⟩
  · cases e
  · cases e
    rw [hg] at hg'
    simp at hg'
    subst hg'
    have hle : n * s ≤ cap * s := Nat.mul_le_mul_right _ hc
    have hcl : cur.toList.length = cap * s := by simpa using hs
    refine ⟨by simp; omega, Or.inr ⟨g, cap, _, rfl, hb, hw, hc, hm, ?_, ?_⟩⟩
    · simp only [List.size_toArray, List.length_append, List.length_take, List.length_drop]
      omega
    · rw [← ht]
      have e1 : (List.take off (List.take (n * s) cur.toList)) = cur.toList.take off := by rw [List.take_take]; congr 1; omega
      rw [e1]
      have hl1 : (cur.toList.take off ++ cs).length = off + cs.length := by simp; omega
      rw [List.take_append, List.take_of_length_le (by omega), hl1, List.drop_take]
/-- A mark takes the place of the k-th element, in a walk. -/
theorem wpList_stM {ops : Array Oper} {rest : List Oper} {op : Oper} {a : Act} {w : World} {Q : Exit → Act → World → Prop} (hgd : op.guard = none) (x y : Operand) (ho : op.op = .store 32 x y) (base g k n cap : Nat) (xs cs : List Value) (hcs : cs.length = 5) (h1 : ∀ v ∈ cs, v.oneCell' = true) (hO : w.ownsRow base 32 5 (.slice (some ⟨g, 0, none⟩) n cap) n xs) (hk : k < n) (hx : a.eval x = .pointer (some ⟨g, k * 5, none⟩)) (hy : a.eval y = .agg cs.toArray)
    (hK : ∀ w', w'.ownsRow base 32 5 (.slice (some ⟨g, 0, none⟩) n cap) n (xs.take (k * 5) ++ cs ++ xs.drop (k * 5 + cs.length)) → Upd (fun j => j = g) w w' → wpList Tryz.prog ops Q rest (a.put op.dst undef) w') : wpList Tryz.prog ops Q (op :: rest) a w := by
  have hO' := hO
  obtain ⟨hx1, ⟨e, he⟩ | ⟨g', cap', cur, e, hbg, hg, q1, q2, q3, q4⟩⟩ := hO
  · cases e
  cases e
  have hle : n * 5 ≤ cap * 5 := Nat.mul_le_mul_right _ q1
  have hB : Blk w g cur.toList.toArray 32 := by
    show w.heap[g]? = _
    rw [hg]
  have hlen : cur.toList.length = cap * 5 := by simpa using q3
  refine wpList_store_mid hgd 32 x y ho g (k * 5) cs.toArray hx hy (by rw [List.size_toArray, hcs]; exact Blk.there hB _ _ (by omega)) (by rw [List.size_toArray, hcs]; kernel_rfl) (all_oneCell_toArray h1) ?_
  refine hK _ (own_put hO' hg (k * 5) cs (by omega) ?_) (setCells_upd _ _ _ _)
  have := setCells_blk cs (k * 5) cur.toList w hB
  rw [putL_eq cs cur.toList (k * 5) (by omega)] at this
  exact this
/-- A piece that is a mark. -/
def mkP (i : Nat) : List Value := [.int .i64 0, .string ⟨#[]⟩, .string ⟨#[]⟩, .bool false, .int .u64 (7000 + (i : Int))]
theorem mkP_one (i : Nat) : ∀ v ∈ mkP i, v.oneCell' = true := by
  intro v hv
  simp [mkP] at hv
  rcases hv with rfl | rfl | rfl | rfl | rfl <;> rfl
theorem marks_put {base : Nat} {w' : World} {v : Value} {n k i : Nat} {ys : List Value} (o : w'.ownsRow base 32 5 v n ((marks (mkP i) k ++ ys).take (k * 5) ++ mkP i ++ (marks (mkP i) k ++ ys).drop (k * 5 + (mkP i).length))) : w'.ownsRow base 32 5 v n (marks (mkP i) (k + 1) ++ ys.drop 5) := by
  have hml := marks_len (mkP i) k
  have hm4 : (mkP i).length = 5 := rfl
  rw [hm4] at hml
  have e4 : (marks (mkP i) k ++ ys).take (k * 5) ++ mkP i ++ (marks (mkP i) k ++ ys).drop (k * 5 + (mkP i).length) = marks (mkP i) (k + 1) ++ ys.drop 5 := by
    rw [← marks_succ, ← hml, List.take_left, List.drop_append, List.drop_of_length_le (by omega)]
    simp [hm4]
  rw [e4] at o
  exact o
theorem neqM (j : Nat) (W : World) : (binOp .neq 32 (.agg (mkP j).toArray) (.agg (mkP j).toArray)).run Tryz.prog W = .ok (.bool false) W := by
  have h := run_neqS (eqI_call 9996 0 0 ⟨#[]⟩ ⟨#[]⟩ ⟨#[]⟩ ⟨#[]⟩ false false (7000 + (j : Int)) (7000 + (j : Int)) W)
  rw [decide_eq_true ⟨rfl, rfl, rfl, rfl, rfl⟩] at h
  exact h
/-- Rows, the first i of them full of marks. -/
structure P1 (base : Nat) (w0 w : World) (g0 : Nat) (vs : List Value) (i : Nat) : Prop where
  below : Below base w0 w
  cells : w.heap[g0]? = some (.cells vs.toArray 22 (0, 0))
  rows : ∀ j (hj : j < vs.length), ∃ n xs, n ≤ 2513169434917 ∧ w.ownsRow base 32 5 vs[j] n xs ∧ (j < i → xs = marks (mkP j) n)
theorem P1.cell {base : Nat} {w0 w : World} {g0 : Nat} {vs : List Value} {i : Nat} (S : P1 base w0 w g0 vs i) (j : Nat) (hj : j < vs.length) : w.cell? ⟨g0, j, none⟩ = some vs[j] := by
  rw [cell_of_row _ _ j _ _ _ S.cells]
  simp [hj]
theorem P1.next {base : Nat} {w0 w : World} {g0 : Nat} {vs : List Value} {i n : Nat} (S : P1 base w0 w g0 vs i) (hi : i < vs.length) (hn : n ≤ 2513169434917) (ho : w.ownsRow base 32 5 vs[i] n (marks (mkP i) n)) : P1 base w0 w g0 vs (i + 1) := by
  refine ⟨S.below, S.cells, fun j hj => ?_⟩
  by_cases h : j = i
  · subst h
    exact ⟨n, _, hn, ho, fun _ => rfl⟩
  · obtain ⟨n', xs, h1, h2, h3⟩ := S.rows j hj
    exact ⟨n', xs, h1, h2, fun hl => h3 (by omega)⟩
theorem P1.upd {base : Nat} {w0 w w' : World} {g0 : Nat} {vs : List Value} {i n g cap : Nat} {xs : List Value} (S : P1 base w0 w g0 vs i) (hi : i < vs.length) (hv : vs[i] = .slice (some ⟨g, 0, none⟩) n cap) (hbw : base ≤ w.heap.size)
    (ap : ∀ a b (ha : a < vs.length) (hb : b < vs.length), a ≠ b → ∀ k, vs[a].ownBlock = some k → vs[b].ownBlock ≠ some k) (hbg : base ≤ g) (hne : g0 ≠ g) (u : Upd (fun j => j = g) w w') (hn : n ≤ 2513169434917) (ho : w'.ownsRow base 32 5 vs[i] n xs) : P1 base w0 w' g0 vs i := by
  refine ⟨S.below.trans (u.below hbw (fun k hk e => by omega)), (u.block _ (lt_of_block S.cells) hne).trans S.cells, fun j hj => ?_⟩
  by_cases h : j = i
  · subst h
    exact ⟨n, xs, hn, ho, fun h => absurd h (Nat.lt_irrefl _)⟩
  · obtain ⟨n', xs', h1, h2, h3⟩ := S.rows j hj
    exact ⟨n', xs', h1, ownsRow_upd h2 u (fun k hk e => ap i j hi hj (fun e => h e.symm) g (by rw [hv]; rfl) (e ▸ hk)), h3⟩

theorem own_block {base : Nat} {e : TypeId} {s : Nat} {w : World} {v : Value} {n : Nat} {xs : List Value} (h : w.ownsRow base e s v n xs) {k : Nat} (hk : v.ownBlock = some k) : ∃ cur, w.heap[k]? = some (.cells cur e (0, 0)) := by
  rcases h.2 with ⟨rfl, _⟩ | ⟨g, cap, cur, rfl, hb, hg, _⟩
  · simp [Value.ownBlock] at hk
  · simp [Value.ownBlock] at hk
    subst hk
    exact ⟨cur, hg⟩
/-- Rows full of marks, the list of all that were made of them. -/
structure P2 (base : Nat) (w0 w : World) (g0 : Nat) (vs : List Value) (L : Value) (us : List Value) (F : Nat → Value → Prop) : Prop where
  below : Below base w0 w
  cells : w.heap[g0]? = some (.cells vs.toArray 22 (0, 0))
  long : w.ownsRow base 22 1 L us.length us
  fams : Fams base 32 mkP w F
  ne : L.ownBlock ≠ some g0
def famP (vs us : List Value) : Nat → Value → Prop := fun j v => vs[j]? = some v ∨ ∃ t : Nat, us[t]? = some v ∧ t / 3 = j
theorem P2.cell {base : Nat} {w0 w : World} {g0 : Nat} {vs : List Value} {L : Value} {us : List Value} {F : Nat → Value → Prop} (S : P2 base w0 w g0 vs L us F) (j : Nat) (hj : j < vs.length) : w.cell? ⟨g0, j, none⟩ = some vs[j] := by
  rw [cell_of_row _ _ j _ _ _ S.cells]
  simp [hj]
theorem P2.less {base : Nat} {w0 w : World} {g0 : Nat} {vs : List Value} {L : Value} {us : List Value} {F F' : Nat → Value → Prop} (S : P2 base w0 w g0 vs L us F) (h : ∀ i u, F' i u → F i u) : P2 base w0 w g0 vs L us F' :=
  ⟨S.below, S.cells, S.long, S.fams.less h, S.ne⟩
theorem P2.alloc {base : Nat} {w0 w : World} {g0 : Nat} {vs : List Value} {L : Value} {us : List Value} {F : Nat → Value → Prop} (S : P2 base w0 w g0 vs L us F) (hb : base ≤ w.heap.size) (o : Obj) : P2 base w0 (w.alloc o) g0 vs L us F := by
  have u : Upd (fun _ => False) w (w.alloc o) := (Upd.refl _ _).alloc o
  exact ⟨S.below.alloc hb o, (u.block _ (lt_of_block S.cells) (fun h => h)).trans S.cells, ownsRow_upd S.long u (fun _ _ h => h), S.fams.upd u (fun _ _ _ _ _ h => h), S.ne⟩
theorem P2.grow {base : Nat} {w0 w w' : World} {g0 : Nat} {vs : List Value} {L : Value} {us : List Value} {F : Nat → Value → Prop} {i n : Nat} {g g' : Value} (S : P2 base w0 w g0 vs L us F) (hb : base ≤ w.heap.size) (hm : F i g)
    (ho : w'.ownsRow base 32 5 g' (n + 1) (marks (mkP i) n ++ mkP i)) (hg : w.grownBy w' g.ownBlock) (mv : Moved w g g') (ov : Over w w' g 32 (n * 5) (mkP i)) : P2 base w0 w' g0 vs L us (plus i g' F) := by
  have u : Upd (fun j => g.ownBlock = some j) w w' := (Upd.refl _ _).grown hg (fun _ _ e => e)
  obtain ⟨nn, hgo⟩ := S.fams.full i g hm
  have hty : ∀ k, g.ownBlock = some k → ∃ cur, w.heap[k]? = some (.cells cur 32 (0, 0)) := fun k hk => own_block hgo hk
  refine ⟨S.below.trans (u.below hb (fun k hk e => by have := ((S.fams.full i g hm).lt e).2; omega)), (u.block _ (lt_of_block S.cells) (fun e => ?_)).trans S.cells, ownsRow_upd S.long u (fun k hk e => ?_), S.fams.step hm ho hg mv ov, S.ne⟩
  · obtain ⟨cur, hc⟩ := hty _ e
    rw [S.cells] at hc
    simp at hc
  · obtain ⟨cur, hc⟩ := hty _ e
    obtain ⟨cur', hc'⟩ := own_block S.long hk
    rw [hc'] at hc
    simp at hc
theorem P2.more {base : Nat} {w0 w w' : World} {g0 : Nat} {vs : List Value} {L L' : Value} {us new : List Value} {F : Nat → Value → Prop} (S : P2 base w0 w g0 vs L us F) (hb : base ≤ w.heap.size)
    (ho : w'.ownsRow base 22 1 L' (us.length + new.length) (us ++ new)) (hg : w.grownBy w' L.ownBlock) (mv : Moved w L L') : P2 base w0 w' g0 vs L' (us ++ new) F := by
  have u : Upd (fun j => L.ownBlock = some j) w w' := (Upd.refl _ _).grown hg (fun _ _ e => e)
  refine ⟨S.below.trans (u.below hb (fun k hk e => ?_)), (u.block _ (lt_of_block S.cells) S.ne).trans S.cells, by rw [List.length_append]; exact ho, S.fams.upd u (fun i v k hf hk e => ?_), fun e => ?_⟩
  · rcases S.long.2 with ⟨h, _⟩ | ⟨g, cap, cur, h, hbg, _⟩
    · rw [h] at e; simp [Value.ownBlock] at e
    · rw [h] at e; simp [Value.ownBlock] at e; omega
  · obtain ⟨nn, hgo⟩ := S.fams.full i v hf
    obtain ⟨cur, hc⟩ := own_block hgo hk
    obtain ⟨cur', hc'⟩ := own_block S.long e
    rw [hc'] at hc
    simp at hc
  · rcases mv with h | ⟨k, h, hk⟩
    · exact S.ne (h ▸ e)
    · rw [e] at h
      simp at h
      have := lt_of_block S.cells
      omega
theorem P1.start {base : Nat} {w0 w : World} {g0 : Nat} {vs : List Value} (S : P1 base w0 w g0 vs vs.length)
    (ap : ∀ a b (ha : a < vs.length) (hb : b < vs.length), a ≠ b → ∀ k, vs[a].ownBlock = some k → vs[b].ownBlock ≠ some k) : P2 base w0 w g0 vs (.slice none 0 0) [] (famP vs []) := by
  refine ⟨S.below, S.cells, World.ownsRow_nil _ _ _ _, ⟨fun i u h => ?_, fun i u j v h1 h2 hne k hk => ?_⟩, by simp [Value.ownBlock]⟩
  · rcases h with h | ⟨t, h, _⟩
    · obtain ⟨hi, rfl⟩ := List.getElem?_eq_some_iff.1 h
      obtain ⟨n, xs, _, ho, hx⟩ := S.rows i hi
      rw [hx hi] at ho
      exact ⟨n, ho⟩
    · simp at h
  · rcases h1 with h1 | ⟨t, h1, _⟩
    · rcases h2 with h2 | ⟨t, h2, _⟩
      · obtain ⟨hi, rfl⟩ := List.getElem?_eq_some_iff.1 h1
        obtain ⟨hj, rfl⟩ := List.getElem?_eq_some_iff.1 h2
        exact ap i j hi hj hne k hk
      · simp at h2
    · simp at h1
theorem fam_more (vs us : List Value) (j i : Nat) (u : Value) (a a2 a3 : Option Addr) (l l2 l3 c c2 c3 : Nat) (hul : us.length = 3 * j) (h0 : famP vs us j (.slice a l c)) (h : famP vs (us ++ [.slice a l c, .slice a2 l2 c2, .slice a3 l3 c3]) i u) :
    plus j (.slice a3 l3 c3) (plus j (.slice a2 l2 c2) (famP vs us)) i u := by
  rcases h with h | ⟨t, h, ht⟩
  · exact Or.inr (Or.inr (Or.inl h))
  · by_cases hl : t < us.length
    · rw [List.getElem?_append_left hl] at h
      exact Or.inr (Or.inr (Or.inr ⟨t, h, ht⟩))
    · rw [List.getElem?_append_right (by omega)] at h
      have hlt : t - us.length < 3 := by have := (List.getElem?_eq_some_iff.1 h).1; simpa using this
      have hij : i = j := by omega
      subst hij
      obtain ⟨d, hd⟩ : ∃ d, t - us.length = d := ⟨_, rfl⟩
      rw [hd] at h hlt
      match d, hlt, h with
      | 0, _, h => simp at h; subst h; exact Or.inr (Or.inr h0)
      | 1, _, h => simp at h; subst h; exact Or.inr (Or.inl ⟨rfl, rfl⟩)
      | 2, _, h => simp at h; subst h; exact Or.inl ⟨rfl, rfl⟩
theorem Tryz.infoL : (Tryz.prog.info? 22).map (fun i => (i.zero, i.size, i.bytes)) = some (some (.slice none 0 0), 1, 24) := by kernel_rfl

set_option maxHeartbeats 1000000 in
theorem oc_any (base g0 : Nat) (vs : List Value) (w : World) (S0 : P1 base w w g0 vs 0) (hb0 : base ≤ w.heap.size)
    (ap : ∀ a b (ha : a < vs.length) (hb : b < vs.length), a ≠ b → ∀ k, vs[a].ownBlock = some k → vs[b].ownBlock ≠ some k) (hvl : vs.length ≤ 1000) (m : Nat) (hm : vs.length = m) :
    Calls Tryz.prog 11 #[.slice (some ⟨g0, 0, none⟩) m m] w fun e w' => e = .returned (.bool true) ∧ Below base w w' := by
  have HAP : Hid (∀ a b (ha : a < vs.length) (hb : b < vs.length), a ≠ b → ∀ k, vs[a].ownBlock = some k → vs[b].ownBlock ≠ some k) := ap
  clear ap
  obtain ⟨i0, hip, hp0, hp1, hp2⟩ := info_parts Tryz.info32
  obtain ⟨i1, hiq, hq0, hq1, hq2⟩ := info_parts Tryz.infoL
  have HLN : Hid (∀ j (hj : j < vs.length), ∃ ao l c, vs[j] = .slice ao l c ∧ l ≤ 2513169434917) := fun j hj => by
    obtain ⟨n, xs, h1, h2, _⟩ := S0.rows j hj
    obtain ⟨ao, l, c, e⟩ := row_shape h2
    rw [e] at h2
    obtain ⟨h3, _⟩ := own_cap h2
    exact ⟨ao, l, c, e, by omega⟩
  have HAP2 := HAP
  rw [hm] at hvl
  go_enter Tryz.func11, Tryz.ntmps11
  go_wp2
  go_loopw [3] (fun a wr => ∃ i : Nat, a = .int .i64 i ∧ i ≤ m ∧ P1 base w wr g0 vs i) (fun a _ => m - (intOf a).toNat)
  case atStart => exact ⟨0, rfl, by omega, S0⟩
  case round =>
    obtain ⟨i, rfl, him, S⟩ := hrel
    by_cases hlt : i < m
    · have hz : (i : Int) < (m : Int) := by omega
      have hiv : i < vs.length := by omega
      obtain ⟨n, xs, hn, ho, hx⟩ := S.rows i hiv
      have hc := S.cell i hiv
      obtain ⟨v, hv⟩ : ∃ v, vs[i] = v := ⟨_, rfl⟩
      rw [hv] at ho hc
      obtain ⟨ao, l, c, rfl⟩ := row_shape ho
      obtain ⟨hl1, hl2, hl3⟩ := own_cap ho
      obtain rfl : n = l := hl1.symm
      clear hx hc
      go_wp2
      go_loopw [4] (fun a w2 => ∃ (k : Nat) (ys : List Value), a = .int .i64 k ∧ k ≤ n ∧ w2.ownsRow base 32 5 (.slice ao n c) n (marks (mkP i) k ++ ys) ∧ P1 base w w2 g0 vs i) (fun a _ => n - (intOf a).toNat)
      case atStart => exact ⟨0, xs, rfl, by omega, by simpa [marks] using ho, S⟩
      case round =>
        obtain ⟨k, ys, rfl, hkn, ho2, S2⟩ := hrel
        have hc2 := S2.cell i hiv
        rw [hv] at hc2
        by_cases hk : k < n
        · have hzk : (k : Int) < (n : Int) := by omega
          obtain ⟨g, cap, e, -⟩ := own_some ho2 (by omega)
          simp only [Value.slice.injEq] at e
          obtain ⟨rfl, -, rfl⟩ := e
          have hne : g0 ≠ g := fun e => by
            have h1 := S2.cells
            rcases ho2.2 with ⟨e', _⟩ | ⟨g', cap', cur, e', hbg, hg, _⟩
            · cases e'
            · cases e'
              rw [e, hg] at h1
              simp at h1
          have hbg : base ≤ g := by
            rcases ho2.2 with ⟨e', _⟩ | ⟨g', cap', cur, e', hbg, hg, _⟩
            · cases e'
            · cases e'
              exact hbg
          have HO2 : Hid (wr.ownsRow base 32 5 (.slice (some ⟨g, 0, none⟩) n c) n (marks (mkP i) k ++ ys)) := ho2
          have HS2 : Hid (P1 base w wr g0 vs i) := S2
          have HV : Hid (vs[i] = .slice (some ⟨g, 0, none⟩) n c) := hv
          have HNG : Hid (g0 ≠ g ∧ base ≤ g ∧ base ≤ wr.heap.size ∧ i < vs.length) := ⟨hne, hbg, by have := S2.below.size; omega, hiv⟩
          have hw7 : IntKind.i64.wrap (7000 + (i : Int)) = 7000 + (i : Int) := by rw [IntKind.wrap_i64]; omega
          have hu7 : IntKind.u64.wrap (7000 + (i : Int)) = 7000 + (i : Int) := by rw [IntKind.wrap_u64]; omega
          clear ho2 S2 hv hne hbg S ho
          go_wp2_with (refine wpList_stM rfl _ _ rfl base g k n c _ (mkP i) rfl (mkP_one i) HO2.out hk rfl rfl ?_; intro w4 o4 u4; have O4 : Hid (w4.ownsRow base 32 5 (.slice (some ⟨g, 0, none⟩) n c) n (marks (mkP i) (k + 1) ++ ys.drop 5)) := marks_put o4; have HS4 : Hid (P1 base w w4 g0 vs i) := HS2.out.upd HNG.out.2.2.2 HV.out HNG.out.2.2.1 HAP.out HNG.out.2.1 HNG.out.1 u4 hn (by rw [HV.out]; exact O4.out); clear o4 u4)
          (try simp only [Act.put])
          go_roundw
          case rel => exact ⟨k + 1, _, by go_num, by omega, O4.out, HS4.out⟩
          case measure => simp [intOf]; omega
        · obtain rfl : k = n := by omega
          have hys : ys = [] := by
            have h1 := ho2.1
            rw [List.length_append, marks_len] at h1
            have hm4 : (mkP i).length = 5 := rfl
            rw [hm4] at h1
            exact List.eq_nil_of_length_eq_zero (by omega)
          subst hys
          rw [List.append_nil] at ho2
          have S5 := S2.next hiv hn (by rw [hv]; exact ho2)
          have HS5 : Hid (P1 base w wr g0 vs (i + 1)) := S5
          clear S5 ho2 S2
          go_wp2
          go_roundw
          case rel => exact ⟨i + 1, by go_num, by omega, HS5.out⟩
          case measure => simp [intOf]; omega
    · obtain rfl : i = m := by omega
      have T0 : P2 base w wr g0 vs (.slice none 0 0) [] (famP vs []) := by
        rw [← hm] at S
        exact S.start HAP.out
      clear S S0
      go_wp2
      go_loopw [5, 6] (fun a b wr => ∃ (j : Nat) (us : List Value), b = .int .i64 j ∧ j ≤ i ∧ us.length = 3 * j ∧ P2 base w wr g0 vs a us (famP vs us)) (fun _ b _ => i - (intOf b).toNat)
      case atStart => exact ⟨0, [], rfl, by omega, rfl, T0⟩
      case round =>
        obtain ⟨j, us, rfl, hji, hul, T⟩ := hrel
        have HUL : Hid (us.length = 3 * j) := hul
        have hub : us.length ≤ 3000 := by omega
        clear hul
        have hbs := T.below.size
        obtain ⟨aL, lL, cL, rfl⟩ := row_shape T.long
        by_cases hlt : j < i
        · have hz : (j : Int) < (i : Int) := by omega
          have hjv : j < vs.length := by omega
          obtain ⟨ao, l, c, hv, hlb⟩ := HLN.out j hjv
          have hc := T.cell j hjv
          rw [hv] at hc
          have HF0 : famP vs us j (.slice ao l c) := Or.inl (by rw [List.getElem?_eq_getElem hjv, hv])
          have A0 : wr.ownsRow base 32 5 (.slice ao l c) (l + 0) (marks (mkP j) (l + 0)) := by
            obtain ⟨n, ho⟩ := T.fams.full _ _ HF0
            obtain ⟨h1, _⟩ := own_cap ho
            rw [← h1] at ho
            exact ho
          go_wp2
          go_loopw [7, 8] (fun a b w2 => ∃ k : Nat, b = .int .i64 k ∧ k ≤ 20 ∧ w2.ownsRow base 32 5 a (l + k) (marks (mkP j) (l + k)) ∧ P2 base w w2 g0 vs (.slice aL lL cL) us (plus j a (famP vs us))) (fun _ b _ => 20 - (intOf b).toNat)
          case atStart => exact ⟨0, rfl, by omega, A0, T.less (fun i u h => by rcases h with ⟨rfl, rfl⟩ | h <;> first | exact HF0 | exact h)⟩
          case round =>
            obtain ⟨k, rfl, hk20, A, T2⟩ := hrel
            have hbs2 := T2.below.size
            obtain ⟨a2, l2, c2, rfl⟩ := row_shape A
            by_cases hk : k < 20
            · have hzk : (k : Int) < 20 := by omega
              have T3 := T2.alloc (by omega) (.cells (mkP j).toArray 32)
              have HT3 : Hid (P2 base w _ g0 vs (.slice aL lL cL) us (plus j (.slice a2 l2 c2) (famP vs us))) := T3
              clear T2 T3
              go_wp2_with (at_builtin; refine wpList_appX _ rfl _ _ 22 22 rfl base 32 i0 _ 5 56 Tryz.underlying22 hip hp0 hp1 hp2 rfl _ _ _ rfl (A.alloc _) _ 1 (mkP j) rfl (Src.ofSlice _ Tryz.underlying22 ⟨_, 0, none⟩ 1 1 _ rfl ?c1 ?c2) ?c3 ?c4 ?c5 ?_)
              case c1 =>
                intro t u ht
                rw [Addr.add_lit, Nat.zero_add, cell_of_row _ _ t _ _ _ (heap_alloc_new _ _)]
                simpa [mkP] using ht
              case c2 => intro u hu; simp [mkP] at hu; rcases hu with rfl | rfl | rfl | rfl | rfl <;> rfl
              case c3 => unfold maxLen; omega
              case c4 => omega
              case c5 => simp; omega
              intro v' w5 ho hg hmv hov
              have T4 := (HT3.out.grow (by simp; omega) (Or.inl ⟨rfl, rfl⟩) ho hg hmv hov).less (F' := plus j v' (famP vs us)) (fun i u h => by rcases h with h | h; exact Or.inl h; exact Or.inr (Or.inr h))
              rw [marks_succ] at ho
              have HO4 : Hid (w5.ownsRow base 32 5 v' (l + k + 1) (marks (mkP j) (l + k + 1))) := ho
              have HT4 : Hid (P2 base w w5 g0 vs (.slice aL lL cL) us (plus j v' (famP vs us))) := T4
              obtain ⟨a5, l5, c5, rfl⟩ := row_shape ho
              clear ho hg hmv hov T4 A
              go_wp2
              go_roundw
              case rel => exact ⟨k + 1, by go_num, by omega, HO4.out, HT4.out⟩
              case measure => simp [intOf]; omega
            · have hz20 : ¬ ((k : Int) < 20) := by omega
              clear hk
              have hc4 := T2.cell j hjv
              rw [hv] at hc4
              have HF1 : (plus j (.slice a2 l2 c2) (famP vs us)) j (.slice ao l c) := Or.inr HF0
              have A1 : wr.ownsRow base 32 5 (.slice ao l c) (l + 0) (marks (mkP j) (l + 0)) := by
                obtain ⟨n, ho⟩ := T2.fams.full _ _ HF1
                obtain ⟨h1, _⟩ := own_cap ho
                rw [← h1] at ho
                exact ho
              go_wp2
              go_loopw [9, 10] (fun a b w2 => ∃ k : Nat, b = .int .i64 k ∧ k ≤ 80 ∧ w2.ownsRow base 32 5 a (l + k) (marks (mkP j) (l + k)) ∧ P2 base w w2 g0 vs (.slice aL lL cL) us (plus j a (plus j (.slice a2 l2 c2) (famP vs us)))) (fun _ b _ => 80 - (intOf b).toNat)
              case atStart => exact ⟨0, rfl, by omega, A1, T2.less (fun i u h => by rcases h with ⟨rfl, rfl⟩ | h <;> first | exact HF1 | exact h)⟩
              case round =>
                obtain ⟨k, rfl, hk80, A, T6⟩ := hrel
                have hbs6 := T6.below.size
                obtain ⟨a3, l3, c3, rfl⟩ := row_shape A
                by_cases hk : k < 80
                · have hzk : (k : Int) < 80 := by omega
                  have T3 := T6.alloc (by omega) (.cells (mkP j).toArray 32)
                  have HT3 : Hid (P2 base w _ g0 vs (.slice aL lL cL) us (plus j (.slice a3 l3 c3) (plus j (.slice a2 l2 c2) (famP vs us)))) := T3
                  clear T6 T3
                  go_wp2_with (at_builtin; refine wpList_appX _ rfl _ _ 22 22 rfl base 32 i0 _ 5 56 Tryz.underlying22 hip hp0 hp1 hp2 rfl _ _ _ rfl (A.alloc _) _ 1 (mkP j) rfl (Src.ofSlice _ Tryz.underlying22 ⟨_, 0, none⟩ 1 1 _ rfl ?c1 ?c2) ?c3 ?c4 ?c5 ?_)
                  case c1 =>
                    intro t u ht
                    rw [Addr.add_lit, Nat.zero_add, cell_of_row _ _ t _ _ _ (heap_alloc_new _ _)]
                    simpa [mkP] using ht
                  case c2 => intro u hu; simp [mkP] at hu; rcases hu with rfl | rfl | rfl | rfl | rfl <;> rfl
                  case c3 => unfold maxLen; omega
                  case c4 => omega
                  case c5 => simp; omega
                  intro v' w5 ho hg hmv hov
                  have T4 := (HT3.out.grow (by simp; omega) (Or.inl ⟨rfl, rfl⟩) ho hg hmv hov).less (F' := plus j v' (plus j (.slice a2 l2 c2) (famP vs us))) (fun i u h => by rcases h with h | h; exact Or.inl h; exact Or.inr (Or.inr h))
                  rw [marks_succ] at ho
                  have HO4 : Hid (w5.ownsRow base 32 5 v' (l + k + 1) (marks (mkP j) (l + k + 1))) := ho
                  have HT4 : Hid (P2 base w w5 g0 vs (.slice aL lL cL) us (plus j v' (plus j (.slice a2 l2 c2) (famP vs us)))) := T4
                  obtain ⟨a5, l5, c5, rfl⟩ := row_shape ho
                  clear ho hg hmv hov T4 A
                  go_wp2
                  go_roundw
                  case rel => exact ⟨k + 1, by go_num, by omega, HO4.out, HT4.out⟩
                  case measure => simp [intOf]; omega
                · have hz80 : ¬ ((k : Int) < 80) := by omega
                  clear hk
                  have hc6 := T6.cell j hjv
                  rw [hv] at hc6
                  have T7 := T6.alloc (by omega) (.cells #[.slice ao l c, .slice a2 l2 c2, .slice a3 l3 c3] 22)
                  have HT7 : Hid (P2 base w _ g0 vs (.slice aL lL cL) us (plus j (.slice a3 l3 c3) (plus j (.slice a2 l2 c2) (famP vs us)))) := T7
                  have A7 := T7.long
                  clear T6 T7 A
                  go_wp2_with (at_builtin; refine wpList_appX _ rfl _ _ 34 34 rfl base 22 i1 _ 1 24 Tryz.underlying34 hiq hq0 hq1 hq2 rfl _ _ _ rfl A7 _ 3 [.slice ao l c, .slice a2 l2 c2, .slice a3 l3 c3] rfl (Src.ofSlice _ Tryz.underlying34 ⟨_, 0, none⟩ 3 3 _ rfl ?d1 ?d2) ?d3 ?d4 ?d5 ?_)
                  case d2 => exact ⟨rfl, rfl, rfl⟩
                  case d3 => unfold maxLen; omega
                  case d4 => omega
                  case d5 => omega
                  intro v' w5 ho hg hmv hov
                  have T8 := (HT7.out.more (by simp; omega) ho hg hmv).less (F' := famP vs (us ++ [.slice ao l c, .slice a2 l2 c2, .slice a3 l3 c3])) (fun i u h => fam_more vs us j i u ao a2 a3 l l2 l3 c c2 c3 HUL.out HF0 h)
                  have HT8 : Hid (P2 base w w5 g0 vs v' (us ++ [.slice ao l c, .slice a2 l2 c2, .slice a3 l3 c3]) (famP vs (us ++ [.slice ao l c, .slice a2 l2 c2, .slice a3 l3 c3]))) := T8
                  obtain ⟨a5, l5, c5, rfl⟩ := row_shape ho
                  clear ho hg hmv hov T8 A7
                  go_wp2
                  go_roundw
                  case rel => exact ⟨j + 1, _, by go_num, by omega, by have := HUL.out; simp; omega, HT8.out⟩
                  case measure => simp [intOf]; omega
        · obtain rfl : j = i := by omega
          obtain ⟨hlL, hlL2, _⟩ := own_cap T.long
          have hzL : (lL : Int) ≤ 3000 := by omega
          have HNU : Hid (us.length = lL) := hlL.symm
          clear HUL hlL hlL2
          go_wp2
          go_loopw [2, 11] (fun z a w2 => ∃ t : Nat, z = .bool false ∧ a = .int .i64 t ∧ t ≤ lL ∧ P2 base w w2 g0 vs (.slice aL lL cL) us (famP vs us)) (fun _ a _ => lL - (intOf a).toNat)
          case atStart => exact ⟨0, rfl, rfl, by omega, T⟩
          case round =>
            obtain ⟨t, rfl, rfl, htl, T2⟩ := hrel
            by_cases ht : t < lL
            · have hzt : (t : Int) < (lL : Int) := by omega
              have htu : t < us.length := by have := HNU.out; omega
              obtain ⟨gL, capL, eL, _, _, _, hxL⟩ := own_some T2.long (by omega)
              simp only [Value.slice.injEq] at eL
              obtain ⟨rfl, eL2, eL3⟩ := eL
              clear eL2 eL3
              have hcL := hxL t us[t] (List.getElem?_eq_getElem htu)
              have HF : famP vs us (t / 3) us[t] := Or.inr ⟨t, List.getElem?_eq_getElem htu, rfl⟩
              obtain ⟨n, ho⟩ := T2.fams.full _ _ HF
              obtain ⟨u, hu⟩ : ∃ u, us[t] = u := ⟨_, rfl⟩
              rw [hu] at ho hcL
              obtain ⟨au, lu, cu, rfl⟩ := row_shape ho
              obtain ⟨hlu, hlu2, hlu3⟩ := own_cap ho
              obtain rfl : n = lu := hlu.symm
              clear hxL ho hcL
              have HU : Hid (us[t]? = some (.slice au n cu)) := by rw [← hu]; exact List.getElem?_eq_getElem htu
              rw [hu] at HF
              have HF' : Hid (famP vs us (t / 3) (.slice au n cu)) := HF
              clear HF hu htu
              go_wp2
              go_loopw [2, 12] (fun z a w2 => ∃ k : Nat, z = .bool false ∧ a = .int .i64 k ∧ k ≤ n ∧ P2 base w w2 g0 vs (.slice (some ⟨gL, 0, none⟩) lL cL) us (famP vs us)) (fun _ a _ => n - (intOf a).toNat)
              case atStart => exact ⟨0, rfl, rfl, by omega, T2⟩
              case round =>
                obtain ⟨k, rfl, rfl, hkn, T4⟩ := hrel
                obtain ⟨gL', capL', eL, _, _, _, hxL⟩ := own_some T4.long (by have := HNU.out; omega)
                simp only [Value.slice.injEq, Option.some.injEq, Addr.mk.injEq] at eL
                obtain ⟨⟨rfl, _⟩, eL2, eL3⟩ := eL
                clear eL2 eL3
                have hcL := hxL t _ HU.out
                clear hxL
                by_cases hk : k < n
                · have hzk : (k : Int) < (n : Int) := by omega
                  obtain ⟨n', ho⟩ := T4.fams.full _ _ HF'.out
                  obtain ⟨hn', _⟩ := own_cap ho
                  obtain rfl : n = n' := hn'
                  obtain ⟨gu, capu, eu, _, _, _, hxu⟩ := own_some ho (by omega)
                  cases eu
                  have hm4 : (mkP (t / 3)).length = 5 := rfl
                  have hget : ∀ r y, r < 5 → (mkP (t / 3))[r]? = some y → wr.cell? ⟨gu, k * 5 + r, none⟩ = some y := fun r y hr hy => hxu _ _ (by rw [marks_get _ _ _ (by rw [hm4]; omega), hm4, Nat.add_comm, Nat.add_mul_mod_self_right, Nat.mod_eq_of_lt hr]; exact hy)
                  have RG : Hid (wr.rangeAt gu (k * 5) (mkP (t / 3))) := fun r y hy => hget r y (by have h1 := (List.getElem?_eq_some_iff.1 hy).1; rw [hm4] at h1; exact h1) hy
                  obtain ⟨q3, hq3⟩ : ∃ q, t / 3 = q := ⟨_, rfl⟩
                  have hd3 : (t : Int).tdiv 3 = (q3 : Int) := by rw [Int.tdiv_eq_ediv_of_nonneg (by omega)]; omega
                  have hd4 : (t : Int) / 3 = (q3 : Int) := by omega
                  have hw7 : IntKind.i64.wrap (7000 + (q3 : Int)) = 7000 + (q3 : Int) := by rw [IntKind.wrap_i64]; omega
                  have hu7 : IntKind.u64.wrap (7000 + (q3 : Int)) = 7000 + (q3 : Int) := by rw [IntKind.wrap_u64]; omega
                  have NQ := neqM q3
                  rw [hq3] at RG
                  unfold mkP at NQ RG
                  clear hq3 hm4
                  have HT4 : Hid (P2 base w wr g0 vs (.slice (some ⟨gL, 0, none⟩) lL cL) us (famP vs us)) := T4
                  clear hget hxu ho T4
                  have hnb : (n : Int) ≤ 9223372036854775807 := by unfold maxLen at hlu3; omega
                  go_wp2_with (refine wpList_load_mid rfl 32 _ rfl gu (k * 5) rfl [.int .i64 0, .string ⟨#[]⟩, .string ⟨#[]⟩, .bool false, .int .u64 (7000 + (q3 : Int))] _ RG.out Tryz.underlying32 rfl (by kernel_rfl) ?_)
                  go_roundw
                  case rel => exact ⟨k + 1, rfl, by go_num, by omega, HT4.out⟩
                  case measure => simp [intOf]; omega
                · obtain rfl : k = n := by omega
                  have HT4 : Hid (P2 base w wr g0 vs (.slice (some ⟨gL, 0, none⟩) lL cL) us (famP vs us)) := T4
                  clear T4
                  go_wp2
                  go_roundw
                  case rel => exact ⟨t + 1, rfl, by go_num, by omega, HT4.out⟩
                  case measure => simp [intOf]; omega
            · obtain rfl : t = lL := by omega
              have HB := T2.below
              clear T2 T
              go_wp2
              go_ret
              exact ⟨rfl, HB⟩
end Go.Proofs.YtkpkdikogoalkaaGreatDoor.sk.oc

namespace Go.Proofs.YtkpkdikogoalkaaGreatDoor.sk
open Go Go.RowKit
set_option maxRecDepth 100000

/-- Lists that came out one behind the other, each in blocks of its own. -/
def ChainC (w : World) : Nat → Nat → List Value → Prop
  | lo, hi, [] => lo ≤ hi
  | lo, hi, v :: r => (∃ L, OwnCal lo w v L ∧ L.length ≤ 2513169434917) ∧ ∃ mid, lo ≤ mid ∧ (∀ k, v.ownBlock = some k → k < mid) ∧ ChainC w mid hi r
theorem ChainC.le {w : World} : ∀ {vs : List Value} {lo hi : Nat}, ChainC w lo hi vs → lo ≤ hi
  | [], _, _, h => h
  | _ :: _, _, _, ⟨_, _, h1, _, h2⟩ => Nat.le_trans h1 (ChainC.le h2)
theorem ChainC.upd {S : Nat → Prop} {w w' : World} (hu : Upd S w w') : ∀ {vs : List Value} {lo hi : Nat}, ChainC w lo hi vs → (∀ k, lo ≤ k → ¬ S k) → ChainC w' lo hi vs
  | [], _, _, h, _ => h
  | _ :: _, _, _, ⟨⟨L, h0, hl⟩, mid, h1, h2, h3⟩, hS => ⟨⟨L, h0.upd hu hS, hl⟩, mid, h1, h2, ChainC.upd hu h3 (fun k hk => hS k (Nat.le_trans h1 hk))⟩
theorem ChainC.hi {w : World} : ∀ {vs : List Value} {lo hi hi' : Nat}, ChainC w lo hi vs → hi ≤ hi' → ChainC w lo hi' vs
  | [], _, _, _, h, hh => Nat.le_trans h hh
  | _ :: _, _, _, _, ⟨h0, mid, h1, h2, h3⟩, hh => ⟨h0, mid, h1, h2, ChainC.hi h3 hh⟩
theorem ChainC.snoc {w : World} {v : Value} {L : List Cal} : ∀ {vs : List Value} {lo hi hi' : Nat}, ChainC w lo hi vs → OwnCal hi w v L → L.length ≤ 2513169434917 → (∀ k, v.ownBlock = some k → k < hi') → hi ≤ hi' → ChainC w lo hi' (vs ++ [v])
  | [], _, _, hi', h, ho, hl, hk, hh => ⟨⟨L, own_base ho h, hl⟩, hi', Nat.le_trans h hh, hk, Nat.le_refl _⟩
  | _ :: _, _, _, _, ⟨h0, mid, h1, h2, h3⟩, ho, hl, hk, hh => ⟨h0, mid, h1, h2, ChainC.snoc h3 ho hl hk hh⟩
theorem ChainC.below {w w' : World} {vs : List Value} {lo : Nat} (h : ChainC w lo w.heap.size vs) (hb : Below w.heap.size w w') : ChainC w' lo w'.heap.size vs :=
  (ChainC.upd (Upd.ofBelow (S := fun _ => False) hb (fun k hk hk' => by omega)) h (fun _ _ h => h)).hi hb.size
theorem OwnCal.ltB {base : Nat} {w : World} {v : Value} {L : List Cal} (h : OwnCal base w v L) : ∀ k, v.ownBlock = some k → k < w.heap.size := by
  intro k hk
  rcases h.2 with ⟨rfl, _⟩ | ⟨g, cap, cur, rfl, hg, hh, _⟩
  · simp [Value.ownBlock] at hk
  · simp [Value.ownBlock] at hk
    subst hk
    exact lt_of_block hh
theorem ChainC.row {w : World} : ∀ {vs : List Value} {lo hi : Nat}, ChainC w lo hi vs → ∀ j (hj : j < vs.length), ∃ n xs, n ≤ 2513169434917 ∧ w.ownsRow lo 32 5 vs[j] n xs
  | [], _, _, _, j, hj => absurd hj (by simp)
  | v :: r, _, _, ⟨⟨L, h0, hl⟩, mid, h1, h2, h3⟩, 0, _ => ⟨L.length, _, hl, h0⟩
  | v :: r, _, _, ⟨⟨L, h0, hl⟩, mid, h1, h2, h3⟩, j + 1, hj => by
    obtain ⟨n, xs, hn, ho⟩ := ChainC.row h3 j (by simpa using hj)
    exact ⟨n, xs, hn, own_base ho h1⟩
theorem ChainC.far {w : World} {vs : List Value} {lo hi : Nat} (h : ChainC w lo hi vs) (j : Nat) (hj : j < vs.length) (k : Nat) (hk : vs[j].ownBlock = some k) : lo ≤ k := by
  obtain ⟨n, xs, _, ho⟩ := ChainC.row h j hj
  exact (own_block ho hk).1
theorem ChainC.apart {w : World} : ∀ {vs : List Value} {lo hi : Nat}, ChainC w lo hi vs → ∀ a b (ha : a < vs.length) (hb : b < vs.length), a ≠ b → ∀ k, vs[a].ownBlock = some k → vs[b].ownBlock ≠ some k
  | [], _, _, _, a, _, ha, _, _, _, _ => absurd ha (by simp)
  | v :: r, _, _, ⟨_, mid, h1, h2, h3⟩, 0, 0, _, _, hne, _, _ => absurd rfl hne
  | v :: r, _, _, ⟨_, mid, h1, h2, h3⟩, 0, b + 1, _, hb, _, k, hk => fun hk' => by
    have q1 := h2 k hk
    have q2 := ChainC.far h3 b (by simpa using hb) k hk'
    omega
  | v :: r, _, _, ⟨_, mid, h1, h2, h3⟩, a + 1, 0, ha, _, _, k, hk => fun hk' => by
    have q1 := h2 k hk'
    have q2 := ChainC.far h3 a (by simpa using ha) k hk
    omega
  | v :: r, _, _, ⟨_, mid, h1, h2, h3⟩, a + 1, b + 1, ha, hb, hne, k, hk => fun hk' => ChainC.apart h3 a b (by simpa using ha) (by simpa using hb) (fun e => hne (by rw [e])) k hk hk'
/-- The law's ownCalls, of lists that came out one behind the other. -/
theorem ownC_chain (vs : List Value) (lo : Nat) (w : World) (h : ChainC w lo w.heap.size vs) (hl : vs.length ≤ 1000) (m : Nat) (hm : vs.length = m) :
    Calls Tryz.prog 11 #[.slice (some ⟨w.heap.size, 0, none⟩) m m] (w.alloc (.cells vs.toArray 22)) fun e w' => e = .returned (.bool true) ∧ Below lo (w.alloc (.cells vs.toArray 22)) w' := by
  have hlo := h.le
  have b0 : Below w.heap.size w (w.alloc (.cells vs.toArray 22)) := (Below.refl _ _).alloc (Nat.le_refl _) _
  have h1 := h.below b0
  refine oc.oc_any lo w.heap.size vs _ ⟨Below.refl _ _, heap_alloc_new w _, fun j hj => ?_⟩ (by rw [World.size_alloc]; omega) h1.apart hl m hm
  obtain ⟨n, xs, hn, ho⟩ := h1.row j hj
  exact ⟨n, xs, hn, ho, fun h => absurd h (Nat.not_lt_zero _)⟩
/-- Two lists that came out. -/
structure TwoC (w : World) (o1 : Option Addr) (n1 c1 : Nat) (L1 : List Cal) (o2 : Option Addr) (n2 c2 : Nat) (L2 : List Cal) : Prop where
  one : CalAt w o1 n1 L1
  two : CalAt w o2 n2 L2
  cap1 : n1 ≤ c1 ∧ c1 ≤ maxLen
  cap2 : n2 ≤ c2 ∧ c2 ≤ maxLen
theorem TwoC.below {w w' : World} {o1 : Option Addr} {n1 c1 : Nat} {L1 : List Cal} {o2 : Option Addr} {n2 c2 : Nat} {L2 : List Cal} (h : TwoC w o1 n1 c1 L1 o2 n2 c2 L2) (hb : Below w.heap.size w w') : TwoC w' o1 n1 c1 L1 o2 n2 c2 L2 :=
  ⟨h.one.below hb, h.two.below hb, h.cap1, h.cap2⟩
/-- What Delta tells, with word of where it lies. -/
def DelQ (a b : List Cal) (w : World) (e : Ending) (w' : World) : Prop := ∃ o1 n1 c1 o2 n2 c2 A B, e = .returned (.tuple #[.slice o1 n1 c1, .slice o2 n2 c2]) ∧ Hid (a.Perm A ∧ SortedC A ∧ b.Perm B ∧ SortedC B) ∧ Hid (TwoC w' o1 n1 c1 (woL A B) o2 n2 c2 (woL B A)) ∧ Hid (∀ lo vs, ChainC w lo w.heap.size vs → ChainC w' lo w'.heap.size (vs ++ [.slice o1 n1 c1, .slice o2 n2 c2])) ∧ Below w.heap.size w w'
def DelR (a b : List Cal) (w : World) (e : Ending) (w' : World) : Prop := ∃ o1 n1 c1 o2 n2 c2 A B, e = .returned (.tuple #[.slice o1 n1 c1, .slice o2 n2 c2]) ∧ Hid (a.Perm A ∧ SortedC A ∧ b.Perm B ∧ SortedC B) ∧ Hid (TwoC w' o1 n1 c1 (woL A B) o2 n2 c2 (woL B A)) ∧ Below w.heap.size w w'
theorem DelP.two {a b : List Cal} {w : World} {e : Ending} {w' : World} (h : DelP a b w e w') : DelR a b w e w' := by
  obtain ⟨v, u, A, B, rfl, h1, h2, h3, h4⟩ := h
  obtain ⟨o1, n1, c1, rfl⟩ := row_shape h2.out
  obtain ⟨o2, n2, c2, rfl⟩ := row_shape h3.out
  exact ⟨o1, n1, c1, o2, n2, c2, A, B, rfl, h1, ⟨OwnCal.at h2.out, OwnCal.at h3.out, (own_calL h2.out).2, (own_calL h3.out).2⟩, h4⟩
theorem woL_le (A B : List Cal) : (woL A B).length ≤ A.length := (woL_sub A B).length_le
set_option maxHeartbeats 2000000 in
theorem delta_apart (aa ba : Option Addr) (na nb ca cb : Nat) (a b : List Cal) (w : World) (hA : CalAt w aa na a) (hB : CalAt w ba nb b) (pa : ∀ x, aa = some x → x.spot = none) (pb : ∀ x, ba = some x → x.spot = none) (za : na * 56 ≤ 140737488351232) (zb : nb * 56 ≤ 140737488351232) :
    Calls Tryz.prog 7 #[.slice aa na ca, .slice ba nb cb] w (DelQ a b w) := by
  have OA := inOrder_any aa na ca a w hA pa za
  have OB : Hid (∀ W, Below w.heap.size w W → Calls Tryz.prog 26 #[.slice ba nb cb] W (OrdP b W)) := fun W h => inOrder_any ba nb cb b W (hB.below h) pb zb
  have HL : Hid (a.length = na ∧ b.length = nb ∧ na * 56 ≤ 140737488351232 ∧ nb * 56 ≤ 140737488351232) := ⟨hA.len, hB.len, za, zb⟩
  clear hA hB pa pb za zb
  go_enter Tryz.func7, Tryz.ntmps7
  go_wp2_with (first
    | (go_at_call 26; (with_reducible refine OA.mono ?_); clear OA; rintro e w1 ⟨o1, n1, c1, A, rfl, H1, k1, b1⟩; have HB1 : Hid (Below w.heap.size w w1) := b1; have HK1 : Hid _ := k1; clear b1 k1)
    | (go_at_call 26; (with_reducible refine (OB.out _ HB1.out).mono ?_); clear OB; rintro e w2 ⟨o2, n2, c2, B, rfl, H2, k2, b2⟩; have HB2 : Hid (Below w.heap.size w w2) := HB1.out.trans (b2.mono HB1.out.size); have HA2 : Hid (CalAt w2 o1 n1 A) := CalAt.below H1.out.1 b2; have HK2 : Hid _ := k2; clear b2 k2; have W1 : Hid (∀ W, Below w2.heap.size w2 W → Calls Tryz.prog 27 #[.slice o1 n1 c1, .slice o2 n2 c2] W (WoP A B W)) := fun W h => without_any o1 o2 n1 n2 c1 c2 A B W (HA2.out.below h) (CalAt.below H2.out.1 h) HK2.out (by have h1 := HA2.out.len; have h2 := H1.out.2.1.length_eq; have h3 := HL.out; omega); have W2 : Hid (∀ W, Below w2.heap.size w2 W → Calls Tryz.prog 27 #[.slice o2 n2 c2, .slice o1 n1 c1] W (WoP B A W)) := fun W h => without_any o2 o1 n2 n1 c2 c1 B A W (CalAt.below H2.out.1 h) (HA2.out.below h) HK1.out (by have h1 := H2.out.1.len; have h2 := H2.out.2.1.length_eq; have h3 := HL.out; omega))
    | (go_at_call 27; (with_reducible refine (W1.out _ (Below.refl _ _)).mono ?_); clear W1; rintro e w3 ⟨v, rfl, HO3, b3⟩; have HB3 : Hid (Below w2.heap.size w2 w3) := b3; clear b3; obtain ⟨a3, l3, c3, rfl⟩ := row_shape HO3.out)
    | (go_at_call 27; (with_reducible refine (W2.out _ HB3.out).mono ?_); clear W2; rintro e w4 ⟨u, rfl, HO4, b4⟩; have HB4 : Hid (Below w3.heap.size w3 w4) := b4; clear b4; obtain ⟨a4, l4, c4, rfl⟩ := row_shape HO4.out))
  go_returns
  have O3 := OwnCal.below HO3.out HB4.out
  have hAl := H1.out.2.1.length_eq
  have hBl := H2.out.2.1.length_eq
  have hLo := HL.out
  have m1 := woL_le A B
  have m2 := woL_le B A
  refine ⟨_, _, _, _, _, _, A, B, rfl, ⟨H1.out.2.1, H1.out.2.2, H2.out.2.1, H2.out.2.2⟩, ⟨OwnCal.at O3, OwnCal.at HO4.out, (own_calL O3).2, (own_calL HO4.out).2⟩, fun lo vs hc => ?_, ?_⟩
  · have k2 : ChainC w3 lo w2.heap.size vs := ChainC.upd (Upd.ofBelow (S := fun _ => False) HB3.out (fun k hk hk' => by omega)) (ChainC.below hc HB2.out) (fun _ _ h => h)
    have k3 := k2.snoc HO3.out (by omega) (OwnCal.ltB HO3.out) HB3.out.size
    have k4 : ChainC w4 lo w3.heap.size (vs ++ [.slice a3 l3 c3]) := ChainC.upd (Upd.ofBelow (S := fun _ => False) HB4.out (fun k hk hk' => by omega)) k3 (fun _ _ h => h)
    have k5 := k4.snoc HO4.out (by omega) (OwnCal.ltB HO4.out) HB4.out.size
    rw [List.append_assoc] at k5
    exact k5
  · exact (HB2.out.trans (HB3.out.mono HB2.out.size)).trans (HB4.out.mono (Nat.le_trans HB2.out.size HB3.out.size))
/-- A call's time is turned. -/
theorem RowC.setK {base : Nat} {w : World} {g n : Nat} {L : List Cal} (h : RowC base w (some ⟨g, 0, none⟩) n L) (i : Nat) (hi : i < L.length) (t : Int) :
    RowC base (w.setCell ⟨g, i * 5 + 4, none⟩ (.int .u64 t)) (some ⟨g, 0, none⟩) n (L.set i (L[i].1, L[i].2.1, L[i].2.2.1, L[i].2.2.2.1, t)) ∧ Upd (fun k => k = g) w (w.setCell ⟨g, i * 5 + 4, none⟩ (.int .u64 t)) := by
  have hln := h.at_.len
  obtain ⟨g', e, ht⟩ := h.room (by omega)
  simp at e
  subst e
  have hu : Upd (fun k => k = g) w (w.setCells g (i * 5 + 4) [.int .u64 t]) := setCells_upd _ _ _ _
  refine ⟨?_, hu⟩
  show RowC base (w.setCells g (i * 5 + 4) [.int .u64 t]) (some ⟨g, 0, none⟩) n _
  have ht1 : w.there g (i * 5 + 4) 1 := fun j hj => by
    have := ht (i * 5 + 4 + j) (by omega)
    rw [Nat.zero_add] at this
    exact this
  refine ⟨⟨by rw [List.length_set]; exact hln, fun hn => ⟨g, 0, rfl, fun j hj => ?_⟩, fun b hb => ?_⟩, h.low, fun hn => ⟨g, rfl, World.there_setCells ht _ _ _⟩⟩
  · rw [List.length_set] at hj
    have hr := h.range j hj
    by_cases hji : j = i
    · subst hji
      rw [List.getElem_set_self, Nat.zero_add]
      have hs := World.rangeAt_setCells_same w g (j * 5 + 4) [.int .u64 t] ht1
      intro r v hv
      rcases Nat.lt_or_ge r 4 with h4 | h4
      · have hv' : (calL L[j])[r]? = some v := by
          rw [← hv]
          match r, h4 with
          | 0, _ => rfl
          | 1, _ => rfl
          | 2, _ => rfl
          | 3, _ => rfl
        have h1 : w.rangeAt g (j * 5 + r) [v] := fun q u hq => by
          match q, hq with
          | 0, hq =>
            simp at hq
            subst hq
            exact hr r v hv'
        have h2 := World.rangeAt_setCells_apart h1 g (j * 5 + 4) [.int .u64 t] (Or.inr (by simp; omega))
        exact h2 0 v rfl
      · have hlt := (List.getElem?_eq_some_iff.1 hv).1
        rw [calL_len] at hlt
        obtain rfl : r = 4 := by omega
        have hv2 : Value.int .u64 t = v := by simpa [calL] using hv
        subst hv2
        exact hs 0 _ rfl
    · rw [List.getElem_set_ne (fun h => hji h.symm), Nat.zero_add]
      refine World.rangeAt_setCells_apart hr g (i * 5 + 4) [.int .u64 t] (Or.inr ?_)
      rw [calL_len]
      simp
      omega
  · exact Nat.lt_of_lt_of_le (h.at_.lt b hb) hu.size
/-- All that CallsDelta holds. -/
structure DS (w W : World) (aa ba : Option Addr) (na nb : Nat) (a b : List Cal) (gx gy : Nat) (LX LY : List Cal) (lo : Nat) (vs : List Value) : Prop where
  low : Below w.heap.size w W
  xa : CalAt W aa na a
  xb : CalAt W ba nb b
  rx : RowC w.heap.size W (some ⟨gx, 0, none⟩) (na + 4) LX
  ry : RowC w.heap.size W (some ⟨gy, 0, none⟩) (nb + 4) LY
  ch : ChainC W lo W.heap.size vs
theorem DS.below {w W W' : World} {aa ba : Option Addr} {na nb : Nat} {a b : List Cal} {gx gy : Nat} {LX LY : List Cal} {lo : Nat} {vs : List Value} (h : DS w W aa ba na nb a b gx gy LX LY lo vs) (hb : Below W.heap.size W W') : DS w W' aa ba na nb a b gx gy LX LY lo vs :=
  ⟨h.low.trans (hb.mono h.low.size), h.xa.below hb, h.xb.below hb, h.rx.below hb, h.ry.below hb, h.ch.below hb⟩
theorem DS.more {w W W' : World} {aa ba : Option Addr} {na nb : Nat} {a b : List Cal} {gx gy : Nat} {LX LY : List Cal} {lo : Nat} {vs vs' : List Value} (h : DS w W aa ba na nb a b gx gy LX LY lo vs) (hb : Below W.heap.size W W') (hc : ChainC W' lo W'.heap.size vs') : DS w W' aa ba na nb a b gx gy LX LY lo vs' :=
  ⟨h.low.trans (hb.mono h.low.size), h.xa.below hb, h.xb.below hb, h.rx.below hb, h.ry.below hb, hc⟩
theorem same_del {o1 o2 : Option Addr} {n1 c1 n2 c2 : Nat} {L1 L2 : List Cal} {w : World} (h1 : CalAt w o1 n1 L1) (h2 : CalAt w o2 n2 L2) (k : n1 ≤ c1 ∧ c1 ≤ maxLen) (e : L1 = L2) :
    Calls Tryz.prog 9 #[.slice o1 n1 c1, .slice o2 n2 c2] w fun e w' => e = .returned (.bool true) ∧ Below w.heap.size w w' :=
  (sameC_any o1 o2 n1 n2 c1 c2 L1 L2 w h1 h2 k.1 k.2).mono fun x w' ⟨r, e1, e2, e3⟩ => ⟨by rw [e1, e2.2 e], e3⟩
end Go.Proofs.YtkpkdikogoalkaaGreatDoor.sk

namespace Go.Proofs.YtkpkdikogoalkaaGreatDoor.sk
open Go Go.RowKit
set_option maxRecDepth 100000

theorem del_one {a b A B A' B' : List Cal} (h : a.Perm A ∧ SortedC A ∧ b.Perm B ∧ SortedC B) (k : a.Perm A' ∧ SortedC A' ∧ b.Perm B' ∧ SortedC B') : woL A B = woL A' B' := by
  obtain ⟨rfl, rfl⟩ := DelP.one h k
  rfl
theorem del_two {a b A B A' B' : List Cal} (h : a.Perm A ∧ SortedC A ∧ b.Perm B ∧ SortedC B) (k : a.Perm A' ∧ SortedC A' ∧ b.Perm B' ∧ SortedC B') : woL B A = woL B' A' := by
  obtain ⟨rfl, rfl⟩ := DelP.one h k
  rfl
theorem DS.turn {w W W' : World} {aa ba : Option Addr} {na nb : Nat} {a b : List Cal} {gx gy : Nat} {LX LX' LY : List Cal} {lo : Nat} {vs : List Value} (h : DS w W aa ba na nb a b gx gy LX LY lo vs) (hr : RowC w.heap.size W' (some ⟨gx, 0, none⟩) (na + 4) LX') (hu : Upd (fun k => k = gx) W W') (hg : w.heap.size ≤ gx ∧ gx < lo ∧ gx ≠ gy ∧ (∀ x, aa = some x → x.block < w.heap.size) ∧ (∀ x, ba = some x → x.block < w.heap.size)) : DS w W' aa ba na nb a b gx gy LX' LY lo vs :=
  ⟨h.low.trans (hu.below h.low.size (fun k hk e => by omega)), h.xa.upd hu (fun x hx e => by have := hg.2.2.2.1 x hx; omega), h.xb.upd hu (fun x hx e => by have := hg.2.2.2.2 x hx; omega), hr, h.ry.upd hu (fun x hx e => by injection hx with hx; subst hx; exact hg.2.2.1 e.symm), (ChainC.upd hu h.ch (fun k hk e => by omega)).hi hu.size⟩
theorem CalAt.frontO {w : World} {g n m : Nat} {l : List Cal} (hA : CalAt w (some ⟨g, 0, none⟩) n l) (hh : m ≤ n) : CalAt w (some ⟨g, 0, none⟩) m (l.take m) := hA.front hh
theorem DS.cx {w W : World} {aa ba : Option Addr} {na nb : Nat} {a b : List Cal} {gx gy : Nat} {LX LY : List Cal} {lo : Nat} {vs : List Value} (h : DS w W aa ba na nb a b gx gy LX LY lo vs) : CalAt W (some ⟨gx, 0, none⟩) na (LX.take na) := h.rx.at_.front (by omega)
theorem DS.cy {w W : World} {aa ba : Option Addr} {na nb : Nat} {a b : List Cal} {gx gy : Nat} {LX LY : List Cal} {lo : Nat} {vs : List Value} (h : DS w W aa ba na nb a b gx gy LX LY lo vs) : CalAt W (some ⟨gy, 0, none⟩) nb (LY.take nb) := h.ry.at_.front (by omega)
theorem lent_take {a L : List Cal} {n : Nat} (hl : L.length = n + 4) (ha : a.length = n) (h : ∀ i (h : i < L.length), (∃ h' : i < a.length, L[i] = a[i]) ∨ (a.length ≤ i ∧ L[i] = markC i)) : L.take n = a := by
  refine List.ext_getElem (by rw [List.length_take]; omega) fun i h1 h2 => ?_
  rw [List.getElem_take]
  rcases h i (by omega) with ⟨_, e⟩ | ⟨e, _⟩
  · exact e
  · omega
theorem plain_some {g : Nat} : ∀ x, (some ⟨g, 0, none⟩ : Option Addr) = some x → x.spot = none := fun x hx => by injection hx with hx; subst hx; rfl
set_option maxHeartbeats 16000000 in
theorem callsDelta_any (aa ba : Option Addr) (na nb ca cb : Nat) (a b : List Cal) (w : World) (hT : Tabs w) (hA : CalAt w aa na a) (hB : CalAt w ba nb b) (la : aa = none → na = 0 ∧ ca = 0) (lb : ba = none → nb = 0 ∧ cb = 0)
    (ha : na ≤ ca ∧ ca ≤ maxLen) (hb : nb ≤ cb ∧ cb ≤ maxLen) (za : na * 56 ≤ 140737488351232) (zb : nb * 56 ≤ 140737488351232) :
    Calls Tryz.prog 3 #[.slice aa na ca, .slice ba nb cb] w fun e w' => e = .returned (.bool true) ∧ Below w.heap.size w w' := by
  have SH := shown_any w hT
  have LA : Hid (∀ W, Below w.heap.size w W → Calls Tryz.prog 6 #[.slice aa na ca] W (LentP a W)) := fun W h => lentC_any aa na ca a W (hA.below h) la za
  have LB : Hid (∀ W, Below w.heap.size w W → Calls Tryz.prog 6 #[.slice ba nb cb] W (LentP b W)) := fun W h => lentC_any ba nb cb b W (hB.below h) lb zb
  have HA : Hid _ := hA
  have HB : Hid _ := hB
  have HLN : Hid (a.length = na ∧ b.length = nb) := ⟨hA.len, hB.len⟩
  have HCP : Hid ((na ≤ ca ∧ ca ≤ maxLen) ∧ (nb ≤ cb ∧ cb ≤ maxLen)) := ⟨ha, hb⟩
  clear hT hA hB la lb ha hb
  go_enter Tryz.func3, Tryz.ntmps3
  go_wp2_with (first
    | (go_at_call 5; (with_reducible refine (SH).mono ?_); clear SH; rintro e w1 ⟨rfl, b1⟩; have HB1 : Hid (Below w.heap.size w w1) := b1; clear b1)
    | (go_at_call 6; (with_reducible refine (LA.out _ HB1.out).mono ?_); clear LA; rintro e w2 ⟨gx, LX, rfl, HRX, HIX, b2⟩; have HB2 : Hid (Below w1.heap.size w1 w2) := b2; clear b2)
    | (go_at_call 6; (with_reducible refine (LB.out _ (HB1.out.trans (HB2.out.mono HB1.out.size))).mono ?_); clear LB; rintro e W0 ⟨gy, LY, rfl, HRY, HIY, b3⟩; have HB3 : Hid (Below w2.heap.size w2 W0) := b3; clear b3))
  rw [HLN.out.1] at HRX
  rw [HLN.out.2] at HRY
  have BW : Below w.heap.size w W0 := (HB1.out.trans (HB2.out.mono HB1.out.size)).trans (HB3.out.mono (Nat.le_trans HB1.out.size HB2.out.size))
  have HGX : Hid (w.heap.size ≤ gx ∧ gx < w2.heap.size ∧ w2.heap.size ≤ gy ∧ gy < W0.heap.size) := ⟨Nat.le_trans HB1.out.size (HRX.out.low _ rfl).2, HRX.out.at_.lt _ rfl, (HRY.out.low _ rfl).2, HRY.out.at_.lt _ rfl⟩
  obtain ⟨lo, hlo⟩ : ∃ lo, W0.heap.size = lo := ⟨_, rfl⟩
  have HLO : Hid (w.heap.size ≤ lo) := by rw [← hlo]; exact BW.size
  have F : Hid (DS w W0 aa ba na nb a b gx gy LX LY lo []) := ⟨BW, HA.out.below BW, HB.out.below BW, ⟨(HRX.out.below HB3.out).at_, fun x hx => ⟨(HRX.out.low x hx).1, Nat.le_trans HB1.out.size (HRX.out.low x hx).2⟩, (HRX.out.below HB3.out).room⟩, ⟨HRY.out.at_, fun x hx => ⟨(HRY.out.low x hx).1, Nat.le_trans (Nat.le_trans HB1.out.size HB2.out.size) (HRY.out.low x hx).2⟩, HRY.out.room⟩, Nat.le_of_eq hlo.symm⟩
  have HGL : Hid (w.heap.size ≤ gx ∧ gx < lo ∧ gx ≠ gy ∧ (∀ x, aa = some x → x.block < w.heap.size) ∧ (∀ x, ba = some x → x.block < w.heap.size)) := ⟨HGX.out.1, by have := HGX.out; omega, by have := HGX.out; omega, HA.out.lt, HB.out.lt⟩
  have HTX : Hid (LX.take na = a) := lent_take HRX.out.at_.len HLN.out.1 HIX.out
  have HTY : Hid (LY.take nb = b) := lent_take HRY.out.at_.len HLN.out.2 HIY.out
  obtain ⟨na4, hna4⟩ : ∃ z, na + 4 = z := ⟨_, rfl⟩
  obtain ⟨nb4, hnb4⟩ : ∃ z, nb + 4 = z := ⟨_, rfl⟩
  have HN4 : Hid (na + 4 = na4 ∧ nb + 4 = nb4) := ⟨hna4, hnb4⟩
  have DX : Hid (∀ W (vs : List Value) (u : Unit), DS w W aa ba na nb a b gx gy LX LY lo vs → Calls Tryz.prog 7 #[.slice (some ⟨gx, 0, none⟩) na na4, .slice (some ⟨gy, 0, none⟩) nb nb4] W (DelQ a b W)) := fun W vs _ h => by
    have h1 := DS.cx h
    have h2 := DS.cy h
    rw [HTX.out] at h1
    rw [HTY.out] at h2
    exact delta_apart _ _ na nb na4 nb4 a b W h1 h2 plain_some plain_some za zb
  have DY : Hid (∀ W (vs : List Value) (u : Unit), DS w W aa ba na nb a b gx gy LX LY lo vs → Calls Tryz.prog 7 #[.slice (some ⟨gy, 0, none⟩) nb nb4, .slice (some ⟨gx, 0, none⟩) na na4] W (DelQ b a W)) := fun W vs _ h => by
    have h1 := DS.cx h
    have h2 := DS.cy h
    rw [HTX.out] at h1
    rw [HTY.out] at h2
    exact delta_apart _ _ nb na nb4 na4 b a W h2 h1 plain_some plain_some zb za
  have DX2 : Hid (∀ W (L : List Cal) (vs : List Value) (u : Unit), DS w W aa ba na nb a b gx gy L LY lo vs → Calls Tryz.prog 7 #[.slice (some ⟨gx, 0, none⟩) na na4, .slice (some ⟨gy, 0, none⟩) nb nb4] W (DelQ (L.take na) b W)) := fun W L vs _ h => by
    have h1 := DS.cx h
    have h2 := DS.cy h
    rw [HTY.out] at h2
    exact delta_apart _ _ na nb na4 nb4 _ b W h1 h2 plain_some plain_some za zb
  have RX : Hid (∀ W (vs : List Value) (u : Unit), DS w W aa ba na nb a b gx gy LX LY lo vs → Calls Tryz.prog 8 #[.slice aa na ca, .slice ba nb cb] W (DelR a b W)) := fun W vs _ h => (rDelta aa ba na nb ca cb a b W h.xa h.xb HCP.out.1 HCP.out.2 za zb).mono fun _ _ h => DelP.two h
  have RY : Hid (∀ W (vs : List Value) (u : Unit), DS w W aa ba na nb a b gx gy LX LY lo vs → Calls Tryz.prog 8 #[.slice ba nb cb, .slice aa na ca] W (DelR b a W)) := fun W vs _ h => (rDelta ba aa nb na cb ca b a W h.xb h.xa HCP.out.2 HCP.out.1 zb za).mono fun _ _ h => DelP.two h
  have RX2 : Hid (∀ W (L : List Cal) (vs : List Value) (u : Unit), DS w W aa ba na nb a b gx gy L LY lo vs → ∀ (oo : Option Addr) (on oc : Nat), CalAt W oo on (L.take na) ∧ on ≤ oc ∧ oc ≤ maxLen → Calls Tryz.prog 8 #[.slice oo on oc, .slice ba nb cb] W (DelR (L.take na) b W)) := fun W L vs _ h oo on oc k => (rDelta oo ba on nb oc cb (L.take na) b W k.1 h.xb k.2 HCP.out.2 (by have h1 := k.1.len; rw [List.length_take] at h1; omega) zb).mono fun _ _ h => DelP.two h
  have KX : Hid (∀ W (vs : List Value) (u : Unit), DS w W aa ba na nb a b gx gy LX LY lo vs → Calls Tryz.prog 10 #[.slice (some ⟨gx, 0, none⟩) na4 na4, .slice aa na ca] W fun e w' => e = .returned (.bool true) ∧ Below W.heap.size W w') := fun W vs _ h => by
    have h1 := h.rx.at_
    rw [hna4] at h1
    exact stayC_any _ _ _ _ _ _ LX a W h1 h.xa (by omega) HIX.out
  have KY : Hid (∀ W (vs : List Value) (u : Unit), DS w W aa ba na nb a b gx gy LX LY lo vs → Calls Tryz.prog 10 #[.slice (some ⟨gy, 0, none⟩) nb4 nb4, .slice ba nb cb] W fun e w' => e = .returned (.bool true) ∧ Below W.heap.size W w') := fun W vs _ h => by
    have h1 := h.ry.at_
    rw [hnb4] at h1
    exact stayC_any _ _ _ _ _ _ LY b W h1 h.xb (by omega) HIY.out
  rw [HLN.out.1, HLN.out.2, hna4, hnb4]
  have hx4 : (na : Int) ≤ (na4 : Int) := by omega
  have hy4 : (nb : Int) ≤ (nb4 : Int) := by omega
  clear HB1 HB2 HB3 BW HRX HRY HGX HA HB HLN hlo hna4 hnb4 HTX HTY HCP
  go_wp2
  refine wp_region_held (S := fun _ => True) (by kernel_rfl) ?_
  change wpAnyH _ _ _ _ _ _ _ _ (World.drew _)
  refine takeC (i := 0) (v := .slice (some ⟨gx, 0, none⟩) na4 na4) rfl (by kernel_rfl) (by kernel_rfl) (by kernel_rfl) (fun _ _ _ h => h) (Or.inl ⟨by rfl, fun W hW => by go_simp⟩) trivial ?_
  simp only [Act.put, List.setIfInBounds_toArray, List.set_cons_zero, List.set_cons_succ]
  refine takeC (i := 1) (v := .slice aa na ca) rfl (by kernel_rfl) (by kernel_rfl) (by kernel_rfl) (fun _ _ _ h => h) (Or.inl ⟨by rfl, fun W hW => by go_simp⟩) trivial ?_
  simp only [Act.put, List.setIfInBounds_toArray, List.set_cons_zero, List.set_cons_succ]
  refine takeC (i := 2) (v := .int .i64 (na : Int)) rfl (by kernel_rfl) (by kernel_rfl) (by kernel_rfl) (fun _ _ _ h => h) (Or.inl ⟨by rfl, fun W hW => by go_simp⟩) trivial ?_
  simp only [Act.put, List.setIfInBounds_toArray, List.set_cons_zero, List.set_cons_succ]
  refine takeC (i := 3) (v := .slice (some ⟨gx, 0, none⟩) na na4) rfl (by kernel_rfl) (by kernel_rfl) (by kernel_rfl) (fun _ _ _ h => h) (Or.inl ⟨by rfl, fun W hW => by go_simp⟩) trivial ?_
  simp only [Act.put, List.setIfInBounds_toArray, List.set_cons_zero, List.set_cons_succ]
  refine takeC (i := 4) (v := .slice (some ⟨gy, 0, none⟩) nb4 nb4) rfl (by kernel_rfl) (by kernel_rfl) (by kernel_rfl) (fun _ _ _ h => h) (Or.inl ⟨by rfl, fun W hW => by go_simp⟩) trivial ?_
  simp only [Act.put, List.setIfInBounds_toArray, List.set_cons_zero, List.set_cons_succ]
  refine takeC (i := 5) (v := .slice ba nb cb) rfl (by kernel_rfl) (by kernel_rfl) (by kernel_rfl) (fun _ _ _ h => h) (Or.inl ⟨by rfl, fun W hW => by go_simp⟩) trivial ?_
  simp only [Act.put, List.setIfInBounds_toArray, List.set_cons_zero, List.set_cons_succ]
  refine takeC (i := 6) (v := .int .i64 (nb : Int)) rfl (by kernel_rfl) (by kernel_rfl) (by kernel_rfl) (fun _ _ _ h => h) (Or.inl ⟨by rfl, fun W hW => by go_simp⟩) trivial ?_
  simp only [Act.put, List.setIfInBounds_toArray, List.set_cons_zero, List.set_cons_succ]
  refine takeC (i := 7) (v := .slice (some ⟨gy, 0, none⟩) nb nb4) rfl (by kernel_rfl) (by kernel_rfl) (by kernel_rfl) (fun _ _ _ h => h) (Or.inl ⟨by rfl, fun W hW => by go_simp⟩) trivial ?_
  simp only [Act.put, List.setIfInBounds_toArray, List.set_cons_zero, List.set_cons_succ]
  refine onlyC (i := 8) rfl (by kernel_rfl) (fun K hK => ?_)
  go_simp
  go_at_call 7
  (with_reducible refine (DX.out _ _ () (DS.below F.out (Below.refl W0.heap.size W0).drew)).mono ?_)
  rintro e W1 ⟨p1, n1, c1, q1, m1, d1, A1, B1, rfl, HS1, HT1, HC1, b1⟩
  refine hK _ _ ⟨trivial, ?_⟩
  clear hK K
  refine takeC (i := 9) (v := .tuple #[.slice p1 n1 c1, .slice q1 m1 d1]) rfl (by kernel_rfl) (by kernel_rfl) (by kernel_rfl) (fun _ _ _ h => h) (Or.inl ⟨by rfl, fun W hW => by go_simp⟩) trivial ?_
  simp only [Act.put, List.setIfInBounds_toArray, List.set_cons_zero, List.set_cons_succ]
  refine takeC (i := 10) (v := .slice p1 n1 c1) rfl (by kernel_rfl) (by kernel_rfl) (by kernel_rfl) (fun _ _ _ h => h) (Or.inl ⟨by rfl, fun W hW => by go_simp⟩) trivial ?_
  simp only [Act.put, List.setIfInBounds_toArray, List.set_cons_zero, List.set_cons_succ]
  refine takeC (i := 11) (v := .slice q1 m1 d1) rfl (by kernel_rfl) (by kernel_rfl) (by kernel_rfl) (fun _ _ _ h => h) (Or.inl ⟨by rfl, fun W hW => by go_simp⟩) trivial ?_
  simp only [Act.put, List.setIfInBounds_toArray, List.set_cons_zero, List.set_cons_succ]
  refine takeC (i := 12) (v := .slice p1 n1 c1) rfl (by kernel_rfl) (by kernel_rfl) (by kernel_rfl) (fun _ _ _ h => h) (Or.inl ⟨by rfl, fun W hW => by go_simp⟩) trivial ?_
  simp only [Act.put, List.setIfInBounds_toArray, List.set_cons_zero, List.set_cons_succ]
  refine takeC (i := 13) (v := .slice q1 m1 d1) rfl (by kernel_rfl) (by kernel_rfl) (by kernel_rfl) (fun _ _ _ h => h) (Or.inl ⟨by rfl, fun W hW => by go_simp⟩) trivial ?_
  simp only [Act.put, List.setIfInBounds_toArray, List.set_cons_zero, List.set_cons_succ]
  refine wpAnyH_done (by kernel_rfl) ?_ _
  have bd1 : Below W0.heap.size W0 W1 := (Below.refl W0.heap.size W0).drew.trans b1
  clear b1
  have F1 : Hid (DS w W1 aa ba na nb a b gx gy LX LY lo [.slice p1 n1 c1, .slice q1 m1 d1]) := DS.more F.out bd1 (HC1.out _ _ (ChainC.below F.out.ch (Below.refl W0.heap.size W0).drew))
  clear F
  have F := F1
  clear F1 HC1 bd1
  go_wp2
  refine wp_region_held (S := fun _ => True) (by kernel_rfl) ?_
  change wpAnyH _ _ _ _ _ _ _ _ (World.drew _)
  refine takeC (i := 0) (v := .slice (some ⟨gx, 0, none⟩) na4 na4) rfl (by kernel_rfl) (by kernel_rfl) (by kernel_rfl) (fun _ _ _ h => h) (Or.inl ⟨by rfl, fun W hW => by go_simp⟩) trivial ?_
  simp only [Act.put, List.setIfInBounds_toArray, List.set_cons_zero, List.set_cons_succ]
  refine takeC (i := 1) (v := .slice aa na ca) rfl (by kernel_rfl) (by kernel_rfl) (by kernel_rfl) (fun _ _ _ h => h) (Or.inl ⟨by rfl, fun W hW => by go_simp⟩) trivial ?_
  simp only [Act.put, List.setIfInBounds_toArray, List.set_cons_zero, List.set_cons_succ]
  refine takeC (i := 2) (v := .int .i64 (na : Int)) rfl (by kernel_rfl) (by kernel_rfl) (by kernel_rfl) (fun _ _ _ h => h) (Or.inl ⟨by rfl, fun W hW => by go_simp⟩) trivial ?_
  simp only [Act.put, List.setIfInBounds_toArray, List.set_cons_zero, List.set_cons_succ]
  refine takeC (i := 3) (v := .slice (some ⟨gx, 0, none⟩) na na4) rfl (by kernel_rfl) (by kernel_rfl) (by kernel_rfl) (fun _ _ _ h => h) (Or.inl ⟨by rfl, fun W hW => by go_simp⟩) trivial ?_
  simp only [Act.put, List.setIfInBounds_toArray, List.set_cons_zero, List.set_cons_succ]
  refine takeC (i := 4) (v := .slice (some ⟨gy, 0, none⟩) nb4 nb4) rfl (by kernel_rfl) (by kernel_rfl) (by kernel_rfl) (fun _ _ _ h => h) (Or.inl ⟨by rfl, fun W hW => by go_simp⟩) trivial ?_
  simp only [Act.put, List.setIfInBounds_toArray, List.set_cons_zero, List.set_cons_succ]
  refine takeC (i := 5) (v := .slice ba nb cb) rfl (by kernel_rfl) (by kernel_rfl) (by kernel_rfl) (fun _ _ _ h => h) (Or.inl ⟨by rfl, fun W hW => by go_simp⟩) trivial ?_
  simp only [Act.put, List.setIfInBounds_toArray, List.set_cons_zero, List.set_cons_succ]
  refine takeC (i := 6) (v := .int .i64 (nb : Int)) rfl (by kernel_rfl) (by kernel_rfl) (by kernel_rfl) (fun _ _ _ h => h) (Or.inl ⟨by rfl, fun W hW => by go_simp⟩) trivial ?_
  simp only [Act.put, List.setIfInBounds_toArray, List.set_cons_zero, List.set_cons_succ]
  refine takeC (i := 7) (v := .slice (some ⟨gy, 0, none⟩) nb nb4) rfl (by kernel_rfl) (by kernel_rfl) (by kernel_rfl) (fun _ _ _ h => h) (Or.inl ⟨by rfl, fun W hW => by go_simp⟩) trivial ?_
  simp only [Act.put, List.setIfInBounds_toArray, List.set_cons_zero, List.set_cons_succ]
  refine onlyC (i := 8) rfl (by kernel_rfl) (fun K hK => ?_)
  go_simp
  go_at_call 7
  (with_reducible refine (DX.out _ _ () (DS.below F.out (Below.refl W1.heap.size W1).drew)).mono ?_)
  rintro e W2 ⟨p2, n2, c2, q2, m2, d2, A2, B2, rfl, HS2, HT2, HC2, b2⟩
  refine hK _ _ ⟨trivial, ?_⟩
  clear hK K
  refine takeC (i := 9) (v := .tuple #[.slice p2 n2 c2, .slice q2 m2 d2]) rfl (by kernel_rfl) (by kernel_rfl) (by kernel_rfl) (fun _ _ _ h => h) (Or.inl ⟨by rfl, fun W hW => by go_simp⟩) trivial ?_
  simp only [Act.put, List.setIfInBounds_toArray, List.set_cons_zero, List.set_cons_succ]
  refine takeC (i := 10) (v := .slice p2 n2 c2) rfl (by kernel_rfl) (by kernel_rfl) (by kernel_rfl) (fun _ _ _ h => h) (Or.inl ⟨by rfl, fun W hW => by go_simp⟩) trivial ?_
  simp only [Act.put, List.setIfInBounds_toArray, List.set_cons_zero, List.set_cons_succ]
  refine takeC (i := 11) (v := .slice q2 m2 d2) rfl (by kernel_rfl) (by kernel_rfl) (by kernel_rfl) (fun _ _ _ h => h) (Or.inl ⟨by rfl, fun W hW => by go_simp⟩) trivial ?_
  simp only [Act.put, List.setIfInBounds_toArray, List.set_cons_zero, List.set_cons_succ]
  refine takeC (i := 12) (v := .slice p2 n2 c2) rfl (by kernel_rfl) (by kernel_rfl) (by kernel_rfl) (fun _ _ _ h => h) (Or.inl ⟨by rfl, fun W hW => by go_simp⟩) trivial ?_
  simp only [Act.put, List.setIfInBounds_toArray, List.set_cons_zero, List.set_cons_succ]
  refine takeC (i := 13) (v := .slice q2 m2 d2) rfl (by kernel_rfl) (by kernel_rfl) (by kernel_rfl) (fun _ _ _ h => h) (Or.inl ⟨by rfl, fun W hW => by go_simp⟩) trivial ?_
  simp only [Act.put, List.setIfInBounds_toArray, List.set_cons_zero, List.set_cons_succ]
  refine wpAnyH_done (by kernel_rfl) ?_ _
  have bd2 : Below W1.heap.size W1 W2 := (Below.refl W1.heap.size W1).drew.trans b2
  clear b2
  have T1 : Hid _ := TwoC.below HT1.out bd2
  clear HT1
  have HT1 := T1
  clear T1
  have F1 : Hid (DS w W2 aa ba na nb a b gx gy LX LY lo [.slice p1 n1 c1, .slice q1 m1 d1, .slice p2 n2 c2, .slice q2 m2 d2]) := DS.more F.out bd2 (HC2.out _ _ (ChainC.below F.out.ch (Below.refl W1.heap.size W1).drew))
  clear F
  have F := F1
  clear F1 HC2 bd2
  go_wp2
  refine wp_region_held (S := fun _ => True) (by kernel_rfl) ?_
  change wpAnyH _ _ _ _ _ _ _ _ (World.drew _)
  refine takeC (i := 0) (v := .slice (some ⟨gy, 0, none⟩) nb4 nb4) rfl (by kernel_rfl) (by kernel_rfl) (by kernel_rfl) (fun _ _ _ h => h) (Or.inl ⟨by rfl, fun W hW => by go_simp⟩) trivial ?_
  simp only [Act.put, List.setIfInBounds_toArray, List.set_cons_zero, List.set_cons_succ]
  refine takeC (i := 1) (v := .slice ba nb cb) rfl (by kernel_rfl) (by kernel_rfl) (by kernel_rfl) (fun _ _ _ h => h) (Or.inl ⟨by rfl, fun W hW => by go_simp⟩) trivial ?_
  simp only [Act.put, List.setIfInBounds_toArray, List.set_cons_zero, List.set_cons_succ]
  refine takeC (i := 2) (v := .int .i64 (nb : Int)) rfl (by kernel_rfl) (by kernel_rfl) (by kernel_rfl) (fun _ _ _ h => h) (Or.inl ⟨by rfl, fun W hW => by go_simp⟩) trivial ?_
  simp only [Act.put, List.setIfInBounds_toArray, List.set_cons_zero, List.set_cons_succ]
  refine takeC (i := 3) (v := .slice (some ⟨gy, 0, none⟩) nb nb4) rfl (by kernel_rfl) (by kernel_rfl) (by kernel_rfl) (fun _ _ _ h => h) (Or.inl ⟨by rfl, fun W hW => by go_simp⟩) trivial ?_
  simp only [Act.put, List.setIfInBounds_toArray, List.set_cons_zero, List.set_cons_succ]
  refine takeC (i := 4) (v := .slice (some ⟨gx, 0, none⟩) na4 na4) rfl (by kernel_rfl) (by kernel_rfl) (by kernel_rfl) (fun _ _ _ h => h) (Or.inl ⟨by rfl, fun W hW => by go_simp⟩) trivial ?_
  simp only [Act.put, List.setIfInBounds_toArray, List.set_cons_zero, List.set_cons_succ]
  refine takeC (i := 5) (v := .slice aa na ca) rfl (by kernel_rfl) (by kernel_rfl) (by kernel_rfl) (fun _ _ _ h => h) (Or.inl ⟨by rfl, fun W hW => by go_simp⟩) trivial ?_
  simp only [Act.put, List.setIfInBounds_toArray, List.set_cons_zero, List.set_cons_succ]
  refine takeC (i := 6) (v := .int .i64 (na : Int)) rfl (by kernel_rfl) (by kernel_rfl) (by kernel_rfl) (fun _ _ _ h => h) (Or.inl ⟨by rfl, fun W hW => by go_simp⟩) trivial ?_
  simp only [Act.put, List.setIfInBounds_toArray, List.set_cons_zero, List.set_cons_succ]
  refine takeC (i := 7) (v := .slice (some ⟨gx, 0, none⟩) na na4) rfl (by kernel_rfl) (by kernel_rfl) (by kernel_rfl) (fun _ _ _ h => h) (Or.inl ⟨by rfl, fun W hW => by go_simp⟩) trivial ?_
  simp only [Act.put, List.setIfInBounds_toArray, List.set_cons_zero, List.set_cons_succ]
  refine onlyC (i := 8) rfl (by kernel_rfl) (fun K hK => ?_)
  go_simp
  go_at_call 7
  (with_reducible refine (DY.out _ _ () (DS.below F.out (Below.refl W2.heap.size W2).drew)).mono ?_)
  rintro e W3 ⟨p3, n3, c3, q3, m3, d3, A3, B3, rfl, HS3, HT3, HC3, b3⟩
  refine hK _ _ ⟨trivial, ?_⟩
  clear hK K
  refine takeC (i := 9) (v := .tuple #[.slice p3 n3 c3, .slice q3 m3 d3]) rfl (by kernel_rfl) (by kernel_rfl) (by kernel_rfl) (fun _ _ _ h => h) (Or.inl ⟨by rfl, fun W hW => by go_simp⟩) trivial ?_
  simp only [Act.put, List.setIfInBounds_toArray, List.set_cons_zero, List.set_cons_succ]
  refine takeC (i := 10) (v := .slice p3 n3 c3) rfl (by kernel_rfl) (by kernel_rfl) (by kernel_rfl) (fun _ _ _ h => h) (Or.inl ⟨by rfl, fun W hW => by go_simp⟩) trivial ?_
  simp only [Act.put, List.setIfInBounds_toArray, List.set_cons_zero, List.set_cons_succ]
  refine takeC (i := 11) (v := .slice q3 m3 d3) rfl (by kernel_rfl) (by kernel_rfl) (by kernel_rfl) (fun _ _ _ h => h) (Or.inl ⟨by rfl, fun W hW => by go_simp⟩) trivial ?_
  simp only [Act.put, List.setIfInBounds_toArray, List.set_cons_zero, List.set_cons_succ]
  refine takeC (i := 12) (v := .slice p3 n3 c3) rfl (by kernel_rfl) (by kernel_rfl) (by kernel_rfl) (fun _ _ _ h => h) (Or.inl ⟨by rfl, fun W hW => by go_simp⟩) trivial ?_
  simp only [Act.put, List.setIfInBounds_toArray, List.set_cons_zero, List.set_cons_succ]
  refine takeC (i := 13) (v := .slice q3 m3 d3) rfl (by kernel_rfl) (by kernel_rfl) (by kernel_rfl) (fun _ _ _ h => h) (Or.inl ⟨by rfl, fun W hW => by go_simp⟩) trivial ?_
  simp only [Act.put, List.setIfInBounds_toArray, List.set_cons_zero, List.set_cons_succ]
  refine wpAnyH_done (by kernel_rfl) ?_ _
  have bd3 : Below W2.heap.size W2 W3 := (Below.refl W2.heap.size W2).drew.trans b3
  clear b3
  have T1 : Hid _ := TwoC.below HT1.out bd3
  clear HT1
  have HT1 := T1
  clear T1
  have T1 : Hid _ := TwoC.below HT2.out bd3
  clear HT2
  have HT2 := T1
  clear T1
  have F1 : Hid (DS w W3 aa ba na nb a b gx gy LX LY lo [.slice p1 n1 c1, .slice q1 m1 d1, .slice p2 n2 c2, .slice q2 m2 d2, .slice p3 n3 c3, .slice q3 m3 d3]) := DS.more F.out bd3 (HC3.out _ _ (ChainC.below F.out.ch (Below.refl W2.heap.size W2).drew))
  clear F
  have F := F1
  clear F1 HC3 bd3
  go_wp2_with (first
    | (go_at_call 8; (with_reducible refine (RX.out _ _ () F.out).mono ?_); rintro e W4 ⟨p4, n4, c4, q4, m4, d4, A4, B4, rfl, HS4, HT4, bq⟩; have F1 : Hid _ := DS.below F.out bq; clear F; have F := F1; clear F1; have T1 : Hid _ := TwoC.below HT1.out bq; clear HT1; have HT1 := T1; clear T1; have T1 : Hid _ := TwoC.below HT2.out bq; clear HT2; have HT2 := T1; clear T1; have T1 : Hid _ := TwoC.below HT3.out bq; clear HT3; have HT3 := T1; clear T1; clear bq)
    | (go_at_call 8; (with_reducible refine (RY.out _ _ () F.out).mono ?_); rintro e W5 ⟨p5, n5, c5, q5, m5, d5, A5, B5, rfl, HS5, HT5, bq⟩; have F1 : Hid _ := DS.below F.out bq; clear F; have F := F1; clear F1; have T1 : Hid _ := TwoC.below HT1.out bq; clear HT1; have HT1 := T1; clear T1; have T1 : Hid _ := TwoC.below HT2.out bq; clear HT2; have HT2 := T1; clear T1; have T1 : Hid _ := TwoC.below HT3.out bq; clear HT3; have HT3 := T1; clear T1; have T1 : Hid _ := TwoC.below HT4.out bq; clear HT4; have HT4 := T1; clear T1; clear bq)
    | (go_at_call 9; (with_reducible refine (same_del HT1.out.one HT4.out.one HT1.out.cap1 (del_one HS1.out HS4.out)).mono ?_); rintro e W6 ⟨rfl, bq⟩; have F1 : Hid _ := DS.below F.out bq; clear F; have F := F1; clear F1; have T1 : Hid _ := TwoC.below HT1.out bq; clear HT1; have HT1 := T1; clear T1; have T1 : Hid _ := TwoC.below HT2.out bq; clear HT2; have HT2 := T1; clear T1; have T1 : Hid _ := TwoC.below HT3.out bq; clear HT3; have HT3 := T1; clear T1; have T1 : Hid _ := TwoC.below HT4.out bq; clear HT4; have HT4 := T1; clear T1; have T1 : Hid _ := TwoC.below HT5.out bq; clear HT5; have HT5 := T1; clear T1; clear bq)
    | (go_at_call 9; (with_reducible refine (same_del HT1.out.two HT4.out.two HT1.out.cap2 (del_two HS1.out HS4.out)).mono ?_); rintro e W7 ⟨rfl, bq⟩; have F1 : Hid _ := DS.below F.out bq; clear F; have F := F1; clear F1; have T1 : Hid _ := TwoC.below HT1.out bq; clear HT1; have HT1 := T1; clear T1; have T1 : Hid _ := TwoC.below HT2.out bq; clear HT2; have HT2 := T1; clear T1; have T1 : Hid _ := TwoC.below HT3.out bq; clear HT3; have HT3 := T1; clear T1; have T1 : Hid _ := TwoC.below HT4.out bq; clear HT4; have HT4 := T1; clear T1; have T1 : Hid _ := TwoC.below HT5.out bq; clear HT5; have HT5 := T1; clear T1; clear bq)
    | (go_at_call 9; (with_reducible refine (same_del HT2.out.one HT4.out.one HT2.out.cap1 (del_one HS2.out HS4.out)).mono ?_); rintro e W8 ⟨rfl, bq⟩; have F1 : Hid _ := DS.below F.out bq; clear F; have F := F1; clear F1; have T1 : Hid _ := TwoC.below HT1.out bq; clear HT1; have HT1 := T1; clear T1; have T1 : Hid _ := TwoC.below HT2.out bq; clear HT2; have HT2 := T1; clear T1; have T1 : Hid _ := TwoC.below HT3.out bq; clear HT3; have HT3 := T1; clear T1; have T1 : Hid _ := TwoC.below HT4.out bq; clear HT4; have HT4 := T1; clear T1; have T1 : Hid _ := TwoC.below HT5.out bq; clear HT5; have HT5 := T1; clear T1; clear bq)
    | (go_at_call 9; (with_reducible refine (same_del HT2.out.two HT4.out.two HT2.out.cap2 (del_two HS2.out HS4.out)).mono ?_); rintro e W9 ⟨rfl, bq⟩; have F1 : Hid _ := DS.below F.out bq; clear F; have F := F1; clear F1; have T1 : Hid _ := TwoC.below HT1.out bq; clear HT1; have HT1 := T1; clear T1; have T1 : Hid _ := TwoC.below HT2.out bq; clear HT2; have HT2 := T1; clear T1; have T1 : Hid _ := TwoC.below HT3.out bq; clear HT3; have HT3 := T1; clear T1; have T1 : Hid _ := TwoC.below HT4.out bq; clear HT4; have HT4 := T1; clear T1; have T1 : Hid _ := TwoC.below HT5.out bq; clear HT5; have HT5 := T1; clear T1; clear bq)
    | (go_at_call 9; (with_reducible refine (same_del HT3.out.one HT5.out.one HT3.out.cap1 (del_one HS3.out HS5.out)).mono ?_); rintro e W10 ⟨rfl, bq⟩; have F1 : Hid _ := DS.below F.out bq; clear F; have F := F1; clear F1; have T1 : Hid _ := TwoC.below HT1.out bq; clear HT1; have HT1 := T1; clear T1; have T1 : Hid _ := TwoC.below HT2.out bq; clear HT2; have HT2 := T1; clear T1; have T1 : Hid _ := TwoC.below HT3.out bq; clear HT3; have HT3 := T1; clear T1; have T1 : Hid _ := TwoC.below HT4.out bq; clear HT4; have HT4 := T1; clear T1; have T1 : Hid _ := TwoC.below HT5.out bq; clear HT5; have HT5 := T1; clear T1; clear bq)
    | (go_at_call 9; (with_reducible refine (same_del HT3.out.two HT5.out.two HT3.out.cap2 (del_two HS3.out HS5.out)).mono ?_); rintro e W11 ⟨rfl, bq⟩; have F1 : Hid _ := DS.below F.out bq; clear F; have F := F1; clear F1; have T1 : Hid _ := TwoC.below HT1.out bq; clear HT1; have HT1 := T1; clear T1; have T1 : Hid _ := TwoC.below HT2.out bq; clear HT2; have HT2 := T1; clear T1; have T1 : Hid _ := TwoC.below HT3.out bq; clear HT3; have HT3 := T1; clear T1; have T1 : Hid _ := TwoC.below HT4.out bq; clear HT4; have HT4 := T1; clear T1; have T1 : Hid _ := TwoC.below HT5.out bq; clear HT5; have HT5 := T1; clear T1; clear bq))
  clear HT1 HT2 HT3 HT5 HS1 HS2 HS3 HS5
  refine wp_region_held (S := fun _ => True) (by kernel_rfl) ?_
  change wpAnyH _ _ _ _ _ _ _ _ (World.drew _)
  refine takeC (i := 0) (v := .slice (some ⟨gx, 0, none⟩) na4 na4) rfl (by kernel_rfl) (by kernel_rfl) (by kernel_rfl) (fun _ _ _ h => h) (Or.inl ⟨by rfl, fun W hW => by go_simp⟩) trivial ?_
  simp only [Act.put, List.setIfInBounds_toArray, List.set_cons_zero, List.set_cons_succ]
  refine takeC (i := 1) (v := .slice aa na ca) rfl (by kernel_rfl) (by kernel_rfl) (by kernel_rfl) (fun _ _ _ h => h) (Or.inl ⟨by rfl, fun W hW => by go_simp⟩) trivial ?_
  simp only [Act.put, List.setIfInBounds_toArray, List.set_cons_zero, List.set_cons_succ]
  refine takeC (i := 2) (v := .int .i64 (na : Int)) rfl (by kernel_rfl) (by kernel_rfl) (by kernel_rfl) (fun _ _ _ h => h) (Or.inl ⟨by rfl, fun W hW => by go_simp⟩) trivial ?_
  simp only [Act.put, List.setIfInBounds_toArray, List.set_cons_zero, List.set_cons_succ]
  refine takeC (i := 3) (v := .slice (some ⟨gx, 0, none⟩) na na4) rfl (by kernel_rfl) (by kernel_rfl) (by kernel_rfl) (fun _ _ _ h => h) (Or.inl ⟨by rfl, fun W hW => by go_simp⟩) trivial ?_
  simp only [Act.put, List.setIfInBounds_toArray, List.set_cons_zero, List.set_cons_succ]
  refine takeC (i := 4) (v := .slice (some ⟨gy, 0, none⟩) nb4 nb4) rfl (by kernel_rfl) (by kernel_rfl) (by kernel_rfl) (fun _ _ _ h => h) (Or.inl ⟨by rfl, fun W hW => by go_simp⟩) trivial ?_
  simp only [Act.put, List.setIfInBounds_toArray, List.set_cons_zero, List.set_cons_succ]
  refine takeC (i := 5) (v := .slice ba nb cb) rfl (by kernel_rfl) (by kernel_rfl) (by kernel_rfl) (fun _ _ _ h => h) (Or.inl ⟨by rfl, fun W hW => by go_simp⟩) trivial ?_
  simp only [Act.put, List.setIfInBounds_toArray, List.set_cons_zero, List.set_cons_succ]
  refine takeC (i := 6) (v := .int .i64 (nb : Int)) rfl (by kernel_rfl) (by kernel_rfl) (by kernel_rfl) (fun _ _ _ h => h) (Or.inl ⟨by rfl, fun W hW => by go_simp⟩) trivial ?_
  simp only [Act.put, List.setIfInBounds_toArray, List.set_cons_zero, List.set_cons_succ]
  refine takeC (i := 7) (v := .slice (some ⟨gy, 0, none⟩) nb nb4) rfl (by kernel_rfl) (by kernel_rfl) (by kernel_rfl) (fun _ _ _ h => h) (Or.inl ⟨by rfl, fun W hW => by go_simp⟩) trivial ?_
  simp only [Act.put, List.setIfInBounds_toArray, List.set_cons_zero, List.set_cons_succ]
  refine onlyC (i := 8) rfl (by kernel_rfl) (fun K hK => ?_)
  go_simp
  go_at_call 7
  (with_reducible refine (DX.out _ _ () (DS.below F.out (Below.refl W11.heap.size W11).drew)).mono ?_)
  rintro e W12 ⟨p6, n6, c6, q6, m6, d6, A6, B6, rfl, HS6, HT6, HC6, b6⟩
  refine hK _ _ ⟨trivial, ?_⟩
  clear hK K
  refine takeC (i := 9) (v := .tuple #[.slice p6 n6 c6, .slice q6 m6 d6]) rfl (by kernel_rfl) (by kernel_rfl) (by kernel_rfl) (fun _ _ _ h => h) (Or.inl ⟨by rfl, fun W hW => by go_simp⟩) trivial ?_
  simp only [Act.put, List.setIfInBounds_toArray, List.set_cons_zero, List.set_cons_succ]
  refine takeC (i := 10) (v := .slice p6 n6 c6) rfl (by kernel_rfl) (by kernel_rfl) (by kernel_rfl) (fun _ _ _ h => h) (Or.inl ⟨by rfl, fun W hW => by go_simp⟩) trivial ?_
  simp only [Act.put, List.setIfInBounds_toArray, List.set_cons_zero, List.set_cons_succ]
  refine takeC (i := 11) (v := .slice q6 m6 d6) rfl (by kernel_rfl) (by kernel_rfl) (by kernel_rfl) (fun _ _ _ h => h) (Or.inl ⟨by rfl, fun W hW => by go_simp⟩) trivial ?_
  simp only [Act.put, List.setIfInBounds_toArray, List.set_cons_zero, List.set_cons_succ]
  refine takeC (i := 12) (v := .slice p6 n6 c6) rfl (by kernel_rfl) (by kernel_rfl) (by kernel_rfl) (fun _ _ _ h => h) (Or.inl ⟨by rfl, fun W hW => by go_simp⟩) trivial ?_
  simp only [Act.put, List.setIfInBounds_toArray, List.set_cons_zero, List.set_cons_succ]
  refine takeC (i := 13) (v := .slice q6 m6 d6) rfl (by kernel_rfl) (by kernel_rfl) (by kernel_rfl) (fun _ _ _ h => h) (Or.inl ⟨by rfl, fun W hW => by go_simp⟩) trivial ?_
  simp only [Act.put, List.setIfInBounds_toArray, List.set_cons_zero, List.set_cons_succ]
  refine wpAnyH_done (by kernel_rfl) ?_ _
  have bd6 : Below W11.heap.size W11 W12 := (Below.refl W11.heap.size W11).drew.trans b6
  clear b6
  have T1 : Hid _ := TwoC.below HT4.out bd6
  clear HT4
  have HT4 := T1
  clear T1
  have F1 : Hid (DS w W12 aa ba na nb a b gx gy LX LY lo [.slice p1 n1 c1, .slice q1 m1 d1, .slice p2 n2 c2, .slice q2 m2 d2, .slice p3 n3 c3, .slice q3 m3 d3, .slice p6 n6 c6, .slice q6 m6 d6]) := DS.more F.out bd6 (HC6.out _ _ (ChainC.below F.out.ch (Below.refl W11.heap.size W11).drew))
  clear F
  have F := F1
  clear F1 HC6 bd6
  go_wp2_with (first
    | (go_at_call 9; (with_reducible refine (same_del HT6.out.one HT4.out.one HT6.out.cap1 (del_one HS6.out HS4.out)).mono ?_); rintro e W13 ⟨rfl, bq⟩; have F1 : Hid _ := DS.below F.out bq; clear F; have F := F1; clear F1; have T1 : Hid _ := TwoC.below HT4.out bq; clear HT4; have HT4 := T1; clear T1; have T1 : Hid _ := TwoC.below HT6.out bq; clear HT6; have HT6 := T1; clear T1; clear bq)
    | (go_at_call 9; (with_reducible refine (same_del HT6.out.two HT4.out.two HT6.out.cap2 (del_two HS6.out HS4.out)).mono ?_); rintro e W14 ⟨rfl, bq⟩; have F1 : Hid _ := DS.below F.out bq; clear F; have F := F1; clear F1; have T1 : Hid _ := TwoC.below HT4.out bq; clear HT4; have HT4 := T1; clear T1; have T1 : Hid _ := TwoC.below HT6.out bq; clear HT6; have HT6 := T1; clear T1; clear bq)
    | (go_at_call 10; (with_reducible refine (KX.out _ _ () F.out).mono ?_); clear KX; rintro e W15 ⟨rfl, bq⟩; have F1 : Hid _ := DS.below F.out bq; clear F; have F := F1; clear F1; have T1 : Hid _ := TwoC.below HT4.out bq; clear HT4; have HT4 := T1; clear T1; have T1 : Hid _ := TwoC.below HT6.out bq; clear HT6; have HT6 := T1; clear T1; clear bq)
    | (go_at_call 10; (with_reducible refine (KY.out _ _ () F.out).mono ?_); clear KY; rintro e W16 ⟨rfl, bq⟩; have F1 : Hid _ := DS.below F.out bq; clear F; have F := F1; clear F1; have T1 : Hid _ := TwoC.below HT4.out bq; clear HT4; have HT4 := T1; clear T1; have T1 : Hid _ := TwoC.below HT6.out bq; clear HT6; have HT6 := T1; clear T1; clear bq))
  clear HT4 HT6 HS4 HS6
  go_loopw [26] (fun t wr => ∃ (i : Nat) (L : List Cal), t = .int .i64 i ∧ i ≤ na ∧ Hid (DS w wr aa ba na nb a b gx gy L LY lo [.slice p1 n1 c1, .slice q1 m1 d1, .slice p2 n2 c2, .slice q2 m2 d2, .slice p3 n3 c3, .slice q3 m3 d3, .slice p6 n6 c6, .slice q6 m6 d6])) (fun t _ => na - (intOf t).toNat)
  case atStart => exact ⟨0, LX, rfl, Nat.zero_le _, F⟩
  case round =>
    obtain ⟨i, L, rfl, hi, FL⟩ := hrel
    clear F
    by_cases hlt : i < na
    · have hiL : i < L.length := by rw [FL.out.rx.at_.len]; omega
      have hlt' : (i : Int) < (na : Int) := by omega
      have hix : (i : Int) < (na4 : Int) := by have := HN4.out.1; omega
      obtain ⟨gq, eq, hth⟩ := FL.out.rx.room (by omega)
      simp at eq
      subst eq
      have q4 : wr.cell? ⟨gx, i * 5 + 4, none⟩ = some (.int .u64 L[i].2.2.2.2) := FL.out.rx.range i hiL 4 _ rfl
      have q5 : wr.frozen? ⟨gx, i * 5 + 4, none⟩ = false := by have := (hth (i * 5 + 4) (by omega)).2; rw [Nat.zero_add] at this; exact this
      have HSK : Hid (∀ t : Int, _) := fun t => RowC.setK FL.out.rx i hiL t
      generalize L[i].2.2.2.2 = tk at q4
      clear hth
      go_wp2
      go_roundw
      case rel =>
        exact ⟨i + 1, _, by go_num, by omega, DS.turn FL.out (HSK.out _).1 (HSK.out _).2 HGL.out⟩
      case measure => simp [intOf]; omega
    · obtain rfl : na = i := by omega
      have F : Hid _ := FL
      obtain ⟨Wz, hWz⟩ : ∃ Wz, wr = Wz := ⟨_, rfl⟩
      rw [hWz] at F ⊢
      clear hWz FL
      go_wp2_with (first
        | (at_builtin; refine wpList_app0 Wz rfl _ _ rfl (some ⟨gx, 0, none⟩) na na4 (L.take na) rfl rfl (DS.cx F.out) za ?_; intro v8 W17 o8 bq; obtain ⟨oo, on, oc, rfl⟩ := row_shape o8; have HO8 : Hid (CalAt W17 oo on (L.take na) ∧ on ≤ oc ∧ oc ≤ maxLen) := ⟨OwnCal.at o8, (own_calL o8).2⟩; clear o8; have F1 : Hid _ := DS.below F.out bq; clear F; have F := F1; clear F1; clear bq))
      have HO9 : Hid (∀ W', Below W17.heap.size W17 W' → CalAt W' oo on (L.take na) ∧ on ≤ oc ∧ oc ≤ maxLen) := fun W' h => ⟨HO8.out.1.below h, HO8.out.2⟩
      clear HO8
      refine wp_region_held (S := fun _ => True) (by kernel_rfl) ?_
      change wpAnyH _ _ _ _ _ _ _ _ (World.drew _)
      refine takeC (i := 0) (v := .slice (some ⟨gx, 0, none⟩) na4 na4) rfl (by kernel_rfl) (by kernel_rfl) (by kernel_rfl) (fun _ _ _ h => h) (Or.inl ⟨by rfl, fun W hW => by go_simp⟩) trivial ?_
      simp only [Act.put, List.setIfInBounds_toArray, List.set_cons_zero, List.set_cons_succ]
      refine takeC (i := 1) (v := .slice aa na ca) rfl (by kernel_rfl) (by kernel_rfl) (by kernel_rfl) (fun _ _ _ h => h) (Or.inl ⟨by rfl, fun W hW => by go_simp⟩) trivial ?_
      simp only [Act.put, List.setIfInBounds_toArray, List.set_cons_zero, List.set_cons_succ]
      refine takeC (i := 2) (v := .int .i64 (na : Int)) rfl (by kernel_rfl) (by kernel_rfl) (by kernel_rfl) (fun _ _ _ h => h) (Or.inl ⟨by rfl, fun W hW => by go_simp⟩) trivial ?_
      simp only [Act.put, List.setIfInBounds_toArray, List.set_cons_zero, List.set_cons_succ]
      refine takeC (i := 3) (v := .slice (some ⟨gx, 0, none⟩) na na4) rfl (by kernel_rfl) (by kernel_rfl) (by kernel_rfl) (fun _ _ _ h => h) (Or.inl ⟨by rfl, fun W hW => by go_simp⟩) trivial ?_
      simp only [Act.put, List.setIfInBounds_toArray, List.set_cons_zero, List.set_cons_succ]
      refine takeC (i := 4) (v := .slice (some ⟨gy, 0, none⟩) nb4 nb4) rfl (by kernel_rfl) (by kernel_rfl) (by kernel_rfl) (fun _ _ _ h => h) (Or.inl ⟨by rfl, fun W hW => by go_simp⟩) trivial ?_
      simp only [Act.put, List.setIfInBounds_toArray, List.set_cons_zero, List.set_cons_succ]
      refine takeC (i := 5) (v := .slice ba nb cb) rfl (by kernel_rfl) (by kernel_rfl) (by kernel_rfl) (fun _ _ _ h => h) (Or.inl ⟨by rfl, fun W hW => by go_simp⟩) trivial ?_
      simp only [Act.put, List.setIfInBounds_toArray, List.set_cons_zero, List.set_cons_succ]
      refine takeC (i := 6) (v := .int .i64 (nb : Int)) rfl (by kernel_rfl) (by kernel_rfl) (by kernel_rfl) (fun _ _ _ h => h) (Or.inl ⟨by rfl, fun W hW => by go_simp⟩) trivial ?_
      simp only [Act.put, List.setIfInBounds_toArray, List.set_cons_zero, List.set_cons_succ]
      refine takeC (i := 7) (v := .slice (some ⟨gy, 0, none⟩) nb nb4) rfl (by kernel_rfl) (by kernel_rfl) (by kernel_rfl) (fun _ _ _ h => h) (Or.inl ⟨by rfl, fun W hW => by go_simp⟩) trivial ?_
      simp only [Act.put, List.setIfInBounds_toArray, List.set_cons_zero, List.set_cons_succ]
      refine onlyC (i := 8) rfl (by kernel_rfl) (fun K hK => ?_)
      go_simp
      go_at_call 7
      (with_reducible refine (DX2.out _ _ _ () (DS.below F.out (Below.refl W17.heap.size W17).drew)).mono ?_)
      rintro e W18 ⟨p7, n7, c7, q7, m7, d7, A7, B7, rfl, HS7, HT7, HC7, b7⟩
      refine hK _ _ ⟨trivial, ?_⟩
      clear hK K
      refine takeC (i := 9) (v := .tuple #[.slice p7 n7 c7, .slice q7 m7 d7]) rfl (by kernel_rfl) (by kernel_rfl) (by kernel_rfl) (fun _ _ _ h => h) (Or.inl ⟨by rfl, fun W hW => by go_simp⟩) trivial ?_
      simp only [Act.put, List.setIfInBounds_toArray, List.set_cons_zero, List.set_cons_succ]
      refine takeC (i := 10) (v := .slice p7 n7 c7) rfl (by kernel_rfl) (by kernel_rfl) (by kernel_rfl) (fun _ _ _ h => h) (Or.inl ⟨by rfl, fun W hW => by go_simp⟩) trivial ?_
      simp only [Act.put, List.setIfInBounds_toArray, List.set_cons_zero, List.set_cons_succ]
      refine takeC (i := 11) (v := .slice q7 m7 d7) rfl (by kernel_rfl) (by kernel_rfl) (by kernel_rfl) (fun _ _ _ h => h) (Or.inl ⟨by rfl, fun W hW => by go_simp⟩) trivial ?_
      simp only [Act.put, List.setIfInBounds_toArray, List.set_cons_zero, List.set_cons_succ]
      refine takeC (i := 12) (v := .slice p7 n7 c7) rfl (by kernel_rfl) (by kernel_rfl) (by kernel_rfl) (fun _ _ _ h => h) (Or.inl ⟨by rfl, fun W hW => by go_simp⟩) trivial ?_
      simp only [Act.put, List.setIfInBounds_toArray, List.set_cons_zero, List.set_cons_succ]
      refine takeC (i := 13) (v := .slice q7 m7 d7) rfl (by kernel_rfl) (by kernel_rfl) (by kernel_rfl) (fun _ _ _ h => h) (Or.inl ⟨by rfl, fun W hW => by go_simp⟩) trivial ?_
      simp only [Act.put, List.setIfInBounds_toArray, List.set_cons_zero, List.set_cons_succ]
      refine wpAnyH_done (by kernel_rfl) ?_ _
      have bd7 : Below W17.heap.size W17 W18 := (Below.refl W17.heap.size W17).drew.trans b7
      clear b7
      have F1 : Hid (DS w W18 aa ba na nb a b gx gy L LY lo [.slice p1 n1 c1, .slice q1 m1 d1, .slice p2 n2 c2, .slice q2 m2 d2, .slice p3 n3 c3, .slice q3 m3 d3, .slice p6 n6 c6, .slice q6 m6 d6, .slice p7 n7 c7, .slice q7 m7 d7]) := DS.more F.out bd7 (HC7.out _ _ (ChainC.below F.out.ch (Below.refl W17.heap.size W17).drew))
      clear F
      have F := F1
      have HO8 : Hid _ := HO9.out _ bd7
      clear F1 HC7 bd7 HO9
      go_wp2_with (first
        | (go_at_call 8; (with_reducible refine (RX2.out _ _ _ () F.out _ _ _ HO8.out).mono ?_); rintro e W19 ⟨p8, n8, c8, q8, m8, d8, A8, B8, rfl, HS8, HT8, bq⟩; have F1 : Hid _ := DS.below F.out bq; clear F; have F := F1; clear F1; have T1 : Hid _ := TwoC.below HT7.out bq; clear HT7; have HT7 := T1; clear T1; clear bq)
        | (go_at_call 9; (with_reducible refine (same_del HT7.out.one HT8.out.one HT7.out.cap1 (del_one HS7.out HS8.out)).mono ?_); rintro e W20 ⟨rfl, bq⟩; have F1 : Hid _ := DS.below F.out bq; clear F; have F := F1; clear F1; have T1 : Hid _ := TwoC.below HT7.out bq; clear HT7; have HT7 := T1; clear T1; have T1 : Hid _ := TwoC.below HT8.out bq; clear HT8; have HT8 := T1; clear T1; clear bq)
        | (go_at_call 9; (with_reducible refine (same_del HT7.out.two HT8.out.two HT7.out.cap2 (del_two HS7.out HS8.out)).mono ?_); rintro e W21 ⟨rfl, bq⟩; have F1 : Hid _ := DS.below F.out bq; clear F; have F := F1; clear F1; have T1 : Hid _ := TwoC.below HT7.out bq; clear HT7; have HT7 := T1; clear T1; have T1 : Hid _ := TwoC.below HT8.out bq; clear HT8; have HT8 := T1; clear T1; clear bq)
        | (go_at_call 11; have OC := ownC_chain [.slice p1 n1 c1, .slice q1 m1 d1, .slice p2 n2 c2, .slice q2 m2 d2, .slice p3 n3 c3, .slice q3 m3 d3, .slice p6 n6 c6, .slice q6 m6 d6, .slice p7 n7 c7, .slice q7 m7 d7] lo W21 F.out.ch (Nat.le_of_ble_eq_true rfl) 10 rfl; (with_reducible refine OC.mono ?_); clear OC; rintro e WE ⟨rfl, bq⟩; have HE : Hid (Below w.heap.size w WE) := (F.out.low.trans (((Below.refl W21.heap.size W21).alloc (Nat.le_refl _) _).mono F.out.low.size)).trans (bq.mono HLO.out); clear F bq))
      go_ret
      exact ⟨rfl, HE.out⟩
end Go.Proofs.YtkpkdikogoalkaaGreatDoor.sk
