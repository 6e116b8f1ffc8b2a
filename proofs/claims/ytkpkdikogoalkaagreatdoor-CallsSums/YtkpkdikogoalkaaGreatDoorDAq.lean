/-
  Merged: DA, EO.
-/
import Derived.Test.YtkpkdikogoalkaaGreatDoorCCq
import Derived.Test.YtkpkdikogoalkaaGreatDoorCEq
import Derived.Test.YtkpkdikogoalkaaGreatDoorCKq
import Derived.Test.YtkpkdikogoalkaaGreatDoorCUq
import Derived.Test.YtkpkdikogoalkaaGreatDoorCMq
import Derived.Test.YtkpkdikogoalkaaGreatDoorCHq
namespace Go.Proofs.YtkpkdikogoalkaaGreatDoor.sk
open Go Go.RowKit
set_option maxRecDepth 100000

/-- A tally in a block, with its bars. -/
structure SumAt (w : World) (tb B n e k : Nat) (f : Nat → Nat) : Prop where
  ex : ∃ ta tn tc, Blk w tb (talL (hi64 n) (lo64 n) (hi64 e) (lo64 e) (hi64 k) (lo64 k) ta tn tc).toArray 39 ∧ SkAt w ta tn f ∧ ∀ a, ta = some a → B ≤ a.block
theorem SumAt.of {w : World} {tb B n e k : Nat} {f : Nat → Nat} {z0 z1 z2 z3 z4 z5 : Int} {ta : Option Addr} {tn tc : Nat} (h0 : (hi64 n : Int) = z0) (h1 : (lo64 n : Int) = z1) (h2 : (hi64 e : Int) = z2) (h3 : (lo64 e : Int) = z3) (h4 : (hi64 k : Int) = z4) (h5 : (lo64 k : Int) = z5)
    (hb : Blk w tb (talL z0 z1 z2 z3 z4 z5 ta tn tc).toArray 39) (hs : SkAt w ta tn f) (hf : ∀ a, ta = some a → B ≤ a.block) : SumAt w tb B n e k f := by
  subst h0 h1 h2 h3 h4 h5
  exact ⟨ta, tn, tc, hb, hs, hf⟩
theorem took_top {x : Cal} (hx : 0 ≤ x.2.2.2.2 ∧ x.2.2.2.2 < 18446744073709551616) : tookN x ≤ top128 := by rw [top128_eq]; unfold tookN; omega
/-- How many calls a list may have. -/
theorem sumK_le {l : List Cal} (hX : ∀ c ∈ l, 0 ≤ c.2.2.2.2 ∧ c.2.2.2.2 < 18446744073709551616) : sumC tookN l ≤ l.length * 18446744073709551616 := sumC_le (fun c hc => by have := hX c hc; unfold tookN; omega)
theorem sum_bd {l : List Cal} (hX : ∀ c ∈ l, 0 ≤ c.2.2.2.2 ∧ c.2.2.2.2 < 18446744073709551616) (hl : l.length ≤ 9000000000000000000) : l.length ≤ top128 ∧ sumC failN l ≤ top128 ∧ sumC tookN l ≤ top128 := by
  have h1 := sumF_le l
  have h2 := sumK_le hX
  rw [top128_eq]
  omega
/-- A list's tally, and one call more. -/
theorem SumAt.more {w : World} {tb B B' : Nat} (hB : B ≤ B') {l : List Cal} {x : Cal} (hX : ∀ c ∈ l ++ [x], 0 ≤ c.2.2.2.2 ∧ c.2.2.2.2 < 18446744073709551616) (hl : l.length < 9000000000000000000) (h : SumAt w tb B' (addT l.length 1) (addT (sumC failN l) (failN x)) (addT (sumC tookN l) (tookN x)) (minF (histF l) (oneC x))) :
    SumAt w tb B (l ++ [x]).length (sumC failN (l ++ [x])) (sumC tookN (l ++ [x])) (histF (l ++ [x])) := by
  have h0 := sum_bd hX (by simp; omega)
  have e1 : addT l.length 1 = (l ++ [x]).length := by
    simp at h0 ⊢
    unfold addT
    omega
  have e2 : addT (sumC failN l) (failN x) = sumC failN (l ++ [x]) := by
    rw [sumC_append, sumC_cons, sumC_nil] at h0 ⊢
    unfold addT
    omega
  have e3 : addT (sumC tookN l) (tookN x) = sumC tookN (l ++ [x]) := by
    have h1 := h0.2.2
    rw [sumC_append, sumC_cons, sumC_nil] at h1 ⊢
    unfold addT
    omega
  rw [e1, e2, e3] at h
  obtain ⟨ta, tn, tc, hb, hs, hf⟩ := h.ex
  refine ⟨ta, tn, tc, hb, hs.congr (fun j => ?_) (fun i hi => ?_), fun a ha => Nat.le_trans hB (hf a ha)⟩
  · refine Nat.le_trans (histF_le _ j) ?_
    rw [topC_eq]
    simp
    omega
  · have e := sumC_append (fun c => oneC c i) l [x]
    have b := histF_le (l ++ [x]) i
    have c := topC_eq
    simp at b
    unfold histF at *
    rw [sumC_cons, sumC_nil] at e
    rw [e] at b ⊢
    simp only [minF]
    omega
/-- The tally of a list's calls, in a block. -/
def SumL (w : World) (tb B : Nat) (l : List Cal) : Prop := SumAt w tb B l.length (sumC failN l) (sumC tookN l) (histF l)
theorem histF_perm {l m : List Cal} (h : l.Perm m) : histF l = histF m := funext fun _ => sumC_perm _ h
theorem SumL.perm {w : World} {tb B : Nat} {l m : List Cal} (h : SumL w tb B l) (p : l.Perm m) : SumL w tb B m := by
  unfold SumL at *
  rw [p.length_eq, sumC_perm failN p, sumC_perm tookN p, histF_perm p] at h
  exact h
theorem SumAt.upd {S : Nat → Prop} {w w' : World} {tb B n e k : Nat} {f : Nat → Nat} (h : SumAt w tb B n e k f) (hu : Upd S w w') (h1 : ¬ S tb) (h2 : ∀ j, B ≤ j → ¬ S j) : SumAt w' tb B n e k f := by
  obtain ⟨ta, tn, tc, hb, hs, hf⟩ := h.ex
  exact ⟨ta, tn, tc, hb.upd hu h1, hs.upd hu (fun a ha => h2 _ (hf a ha)), hf⟩
theorem SumAt.below {w w' : World} {tb B n e k : Nat} {f : Nat → Nat} (h : SumAt w tb B n e k f) (hb : Below w.heap.size w w') : SumAt w' tb B n e k f :=
  h.upd (Upd.ofBelow (S := fun _ => False) hb (fun k hk hk' => by omega)) (fun h => h) (fun _ _ h => h)
theorem SumAt.weak {w : World} {tb B B' n e k : Nat} {f : Nat → Nat} (h : SumAt w tb B n e k f) (hB : B' ≤ B) : SumAt w tb B' n e k f := by
  obtain ⟨ta, tn, tc, hb, hs, hf⟩ := h.ex
  exact ⟨ta, tn, tc, hb, hs, fun a ha => Nat.le_trans hB (hf a ha)⟩
/-- A tally is laid into a new block. -/
theorem SumAt.put {w2 w3 : World} {o : Obj} {B n e k : Nat} {f : Nat → Nat} {z0 z1 z2 z3 z4 z5 : Int} {ta : Option Addr} {tn tc : Nat} (h0 : (hi64 n : Int) = z0) (h1 : (lo64 n : Int) = z1) (h2 : (hi64 e : Int) = z2) (h3 : (lo64 e : Int) = z3) (h4 : (hi64 k : Int) = z4) (h5 : (lo64 k : Int) = z5)
    (hk : SkAt w2 ta tn f ∧ ∀ a, ta = some a → B ≤ a.block) (n9 : Blk w3 w2.heap.size (talL z0 z1 z2 z3 z4 z5 ta tn tc).toArray 39) (u9 : Upd (fun j => j = w2.heap.size) (w2.alloc o) w3) : SumAt w3 w2.heap.size B n e k f ∧ Below w2.heap.size w2 w3 := by
  have hb : Below w2.heap.size w2 (w2.alloc o) := (Below.refl _ _).alloc (Nat.le_refl _) _
  refine ⟨SumAt.of h0 h1 h2 h3 h4 h5 n9 ((hk.1.below hb).upd u9 (fun a ha => ?_)) hk.2, hb.trans (u9.below hb.size (fun j hj h => by omega))⟩
  have := hk.1.at_.lt a ha
  omega
/-- A call is taken from a list's tally. -/
theorem SumL.less {w : World} {tb B : Nat} {x : Cal} {l : List Cal} (hl : l.length < 9000000000000000000) (h : SumAt w tb B ((x :: l).length - 1) (sumC failN (x :: l) - failN x) (sumC tookN (x :: l) - tookN x) (fun i => histF (x :: l) i - oneC x i)) : SumL w tb B l := by
  rw [sumC_cons, sumC_cons, Nat.add_sub_cancel_left, Nat.add_sub_cancel_left, List.length_cons, Nat.add_sub_cancel] at h
  obtain ⟨ta, tn, tc, hb, hs, hf⟩ := h.ex
  refine ⟨ta, tn, tc, hb, hs.congr (fun j => ?_) (fun i hi => ?_), hf⟩
  · refine Nat.le_trans (histF_le _ j) ?_
    rw [topC_eq]
    omega
  · rw [histF_cons]
    omega
/-- The tally of a list's calls. -/
def SumP (l : List Cal) (w : World) (e : Ending) (w' : World) : Prop := ∃ ta tn tc, e = .returned (.tuple #[talV l.length (sumC failN l) (sumC tookN l) ta tn tc, .bool true]) ∧ Hid (SkAt w' ta tn (histF l) ∧ ∀ a, ta = some a → w.heap.size ≤ a.block) ∧ Below w.heap.size w w'
end Go.Proofs.YtkpkdikogoalkaaGreatDoor.sk

namespace Go.Proofs.YtkpkdikogoalkaaGreatDoor.sk.ob
open Go Go.RowKit
set_option maxRecDepth 100000

/-- Cells are written into a row of one's own. -/
theorem own_put {base : Nat} {e : TypeId} {s : Nat} {w w' : World} {g n cap : Nat} {cur : Array Value} {xs : List Value} (h : w.ownsRow base e s (.slice (some ⟨g, 0, none⟩) n cap) n xs) (hg : w.heap[g]? = some (.cells cur e (0, 0))) (off : Nat) (cs : List Value) (hf : off + cs.length ≤ n * s)
    (hw : w'.heap[g]? = some (.cells (cur.toList.take off ++ cs ++ cur.toList.drop (off + cs.length)).toArray e (0, 0))) : w'.ownsRow base e s (.slice (some ⟨g, 0, none⟩) n cap) n (xs.take off ++ cs ++ xs.drop (off + cs.length)) := by
  obtain ⟨h1, h2⟩ := h
  rcases h2 with ⟨e, _⟩ | ⟨g', cap', cur', e, hb, hg', hc, hm, hs, ht⟩
  · cases e
  · cases e
    rw [hg] at hg'
    simp at hg'
    subst hg'
    have hle : n * s ≤ cap * s := Nat.mul_le_mul_right _ hc
    have hcl : cur.toList.length = cap * s := by simpa using hs
    refine ⟨by simp; omega, Or.inr ⟨g, cap, _, rfl, hb, hw, hc, hm, ?_, ?_⟩⟩
    · simp only [List.size_toArray, List.length_append, List.length_take, List.length_drop]
      omega
    · rw [← ht]
      have e1 : (List.take off (List.take (n * s) cur.toList)) = cur.toList.take off := by rw [List.take_take]; congr 1; omega
      rw [e1]
      have hl1 : (cur.toList.take off ++ cs).length = off + cs.length := by simp; omega
      rw [List.take_append, List.take_of_length_le (by omega), hl1, List.drop_take]
/-- A mark takes the place of the k-th element, in a walk. -/
theorem wpList_stM {ops : Array Oper} {rest : List Oper} {op : Oper} {a : Act} {w : World} {Q : Exit → Act → World → Prop} (hgd : op.guard = none) (x y : Operand) (ho : op.op = .store 50 x y) (base g k n cap : Nat) (xs cs : List Value) (hcs : cs.length = 2) (h1 : ∀ v ∈ cs, v.oneCell' = true) (hO : w.ownsRow base 50 2 (.slice (some ⟨g, 0, none⟩) n cap) n xs) (hk : k < n) (hx : a.eval x = .pointer (some ⟨g, k * 2, none⟩)) (hy : a.eval y = .agg cs.toArray)
    (hK : ∀ w', w'.ownsRow base 50 2 (.slice (some ⟨g, 0, none⟩) n cap) n (xs.take (k * 2) ++ cs ++ xs.drop (k * 2 + cs.length)) → Upd (fun j => j = g) w w' → wpList Tryz.prog ops Q rest (a.put op.dst undef) w') : wpList Tryz.prog ops Q (op :: rest) a w := by
  have hO' := hO
  obtain ⟨hx1, ⟨e, he⟩ | ⟨g', cap', cur, e, hbg, hg, q1, q2, q3, q4⟩⟩ := hO
  · cases e
  cases e
  have hle : n * 2 ≤ cap * 2 := Nat.mul_le_mul_right _ q1
  have hB : Blk w g cur.toList.toArray 50 := by
    show w.heap[g]? = _
    rw [hg]
  have hlen : cur.toList.length = cap * 2 := by simpa using q3
  refine wpList_store_mid hgd 50 x y ho g (k * 2) cs.toArray hx hy (by rw [List.size_toArray, hcs]; exact Blk.there hB _ _ (by omega)) (by rw [List.size_toArray, hcs]; kernel_rfl) (all_oneCell_toArray h1) ?_
  refine hK _ (own_put hO' hg (k * 2) cs (by omega) ?_) (setCells_upd _ _ _ _)
  have := setCells_blk cs (k * 2) cur.toList w hB
  rw [putL_eq cs cur.toList (k * 2) (by omega)] at this
  exact this
/-- A piece that is a mark. -/
def mkP (i : Nat) : List Value := [.int .i64 0, .int .u64 (7000 + (i : Int))]
theorem mkP_one (i : Nat) : ∀ v ∈ mkP i, v.oneCell' = true := by
  intro v hv
  simp [mkP] at hv
  rcases hv with rfl | rfl <;> rfl
theorem marks_put {base : Nat} {w' : World} {v : Value} {n k i : Nat} {ys : List Value} (o : w'.ownsRow base 50 2 v n ((marks (mkP i) k ++ ys).take (k * 2) ++ mkP i ++ (marks (mkP i) k ++ ys).drop (k * 2 + (mkP i).length))) : w'.ownsRow base 50 2 v n (marks (mkP i) (k + 1) ++ ys.drop 2) := by
  have hml := marks_len (mkP i) k
  have hm4 : (mkP i).length = 2 := rfl
  rw [hm4] at hml
  have e4 : (marks (mkP i) k ++ ys).take (k * 2) ++ mkP i ++ (marks (mkP i) k ++ ys).drop (k * 2 + (mkP i).length) = marks (mkP i) (k + 1) ++ ys.drop 2 := by
    rw [← marks_succ, ← hml, List.take_left, List.drop_append, List.drop_of_length_le (by omega)]
    simp [hm4]
  rw [e4] at o
  exact o
theorem neqM (j : Nat) (W : World) : (binOp .neq 50 (.agg (mkP j).toArray) (.agg (mkP j).toArray)).run Tryz.prog W = .ok (.bool false) W := by
  have h := run_neqS (eqI_bar 9998 0 (7000 + (j : Int)) 0 (7000 + (j : Int)) W)
  rw [decide_eq_true ⟨rfl, rfl⟩] at h
  exact h
/-- Rows, the first i of them full of marks. -/
structure P1 (base : Nat) (w0 w : World) (g0 : Nat) (vs : List Value) (i : Nat) : Prop where
  below : Below base w0 w
  cells : w.heap[g0]? = some (.cells vs.toArray 37 (0, 0))
  rows : ∀ j (hj : j < vs.length), ∃ n xs, n ≤ 1000000 ∧ w.ownsRow base 50 2 vs[j] n xs ∧ (j < i → xs = marks (mkP j) n)
theorem P1.cell {base : Nat} {w0 w : World} {g0 : Nat} {vs : List Value} {i : Nat} (S : P1 base w0 w g0 vs i) (j : Nat) (hj : j < vs.length) : w.cell? ⟨g0, j, none⟩ = some vs[j] := by
  rw [cell_of_row _ _ j _ _ _ S.cells]
  simp [hj]
theorem P1.next {base : Nat} {w0 w : World} {g0 : Nat} {vs : List Value} {i n : Nat} (S : P1 base w0 w g0 vs i) (hi : i < vs.length) (hn : n ≤ 1000000) (ho : w.ownsRow base 50 2 vs[i] n (marks (mkP i) n)) : P1 base w0 w g0 vs (i + 1) := by
  refine ⟨S.below, S.cells, fun j hj => ?_⟩
  by_cases h : j = i
  · subst h
    exact ⟨n, _, hn, ho, fun _ => rfl⟩
  · obtain ⟨n', xs, h1, h2, h3⟩ := S.rows j hj
    exact ⟨n', xs, h1, h2, fun hl => h3 (by omega)⟩
theorem P1.upd {base : Nat} {w0 w w' : World} {g0 : Nat} {vs : List Value} {i n g cap : Nat} {xs : List Value} (S : P1 base w0 w g0 vs i) (hi : i < vs.length) (hv : vs[i] = .slice (some ⟨g, 0, none⟩) n cap) (hbw : base ≤ w.heap.size)
    (ap : ∀ a b (ha : a < vs.length) (hb : b < vs.length), a ≠ b → ∀ k, vs[a].ownBlock = some k → vs[b].ownBlock ≠ some k) (hbg : base ≤ g) (hne : g0 ≠ g) (u : Upd (fun j => j = g) w w') (hn : n ≤ 1000000) (ho : w'.ownsRow base 50 2 vs[i] n xs) : P1 base w0 w' g0 vs i := by
  refine ⟨S.below.trans (u.below hbw (fun k hk e => by omega)), (u.block _ (lt_of_block S.cells) hne).trans S.cells, fun j hj => ?_⟩
  by_cases h : j = i
  · subst h
    exact ⟨n, xs, hn, ho, fun h => absurd h (Nat.lt_irrefl _)⟩
  · obtain ⟨n', xs', h1, h2, h3⟩ := S.rows j hj
    exact ⟨n', xs', h1, ownsRow_upd h2 u (fun k hk e => ap i j hi hj (fun e => h e.symm) g (by rw [hv]; rfl) (e ▸ hk)), h3⟩

theorem own_block {base : Nat} {e : TypeId} {s : Nat} {w : World} {v : Value} {n : Nat} {xs : List Value} (h : w.ownsRow base e s v n xs) {k : Nat} (hk : v.ownBlock = some k) : ∃ cur, w.heap[k]? = some (.cells cur e (0, 0)) := by
  rcases h.2 with ⟨rfl, _⟩ | ⟨g, cap, cur, rfl, hb, hg, _⟩
  · simp [Value.ownBlock] at hk
  · simp [Value.ownBlock] at hk
    subst hk
    exact ⟨cur, hg⟩
/-- Rows full of marks, the list of all that were made of them. -/
structure P2 (base : Nat) (w0 w : World) (g0 : Nat) (vs : List Value) (L : Value) (us : List Value) (F : Nat → Value → Prop) : Prop where
  below : Below base w0 w
  cells : w.heap[g0]? = some (.cells vs.toArray 37 (0, 0))
  long : w.ownsRow base 37 1 L us.length us
  fams : Fams base 50 mkP w F
  ne : L.ownBlock ≠ some g0
def famP (vs us : List Value) : Nat → Value → Prop := fun j v => vs[j]? = some v ∨ ∃ t : Nat, us[t]? = some v ∧ t / 3 = j
theorem P2.cell {base : Nat} {w0 w : World} {g0 : Nat} {vs : List Value} {L : Value} {us : List Value} {F : Nat → Value → Prop} (S : P2 base w0 w g0 vs L us F) (j : Nat) (hj : j < vs.length) : w.cell? ⟨g0, j, none⟩ = some vs[j] := by
  rw [cell_of_row _ _ j _ _ _ S.cells]
  simp [hj]
theorem P2.less {base : Nat} {w0 w : World} {g0 : Nat} {vs : List Value} {L : Value} {us : List Value} {F F' : Nat → Value → Prop} (S : P2 base w0 w g0 vs L us F) (h : ∀ i u, F' i u → F i u) : P2 base w0 w g0 vs L us F' :=
  ⟨S.below, S.cells, S.long, S.fams.less h, S.ne⟩
theorem P2.alloc {base : Nat} {w0 w : World} {g0 : Nat} {vs : List Value} {L : Value} {us : List Value} {F : Nat → Value → Prop} (S : P2 base w0 w g0 vs L us F) (hb : base ≤ w.heap.size) (o : Obj) : P2 base w0 (w.alloc o) g0 vs L us F := by
  have u : Upd (fun _ => False) w (w.alloc o) := (Upd.refl _ _).alloc o
  exact ⟨S.below.alloc hb o, (u.block _ (lt_of_block S.cells) (fun h => h)).trans S.cells, ownsRow_upd S.long u (fun _ _ h => h), S.fams.upd u (fun _ _ _ _ _ h => h), S.ne⟩
theorem P2.grow {base : Nat} {w0 w w' : World} {g0 : Nat} {vs : List Value} {L : Value} {us : List Value} {F : Nat → Value → Prop} {i n : Nat} {g g' : Value} (S : P2 base w0 w g0 vs L us F) (hb : base ≤ w.heap.size) (hm : F i g)
    (ho : w'.ownsRow base 50 2 g' (n + 1) (marks (mkP i) n ++ mkP i)) (hg : w.grownBy w' g.ownBlock) (mv : Moved w g g') (ov : Over w w' g 50 (n * 2) (mkP i)) : P2 base w0 w' g0 vs L us (plus i g' F) := by
  have u : Upd (fun j => g.ownBlock = some j) w w' := (Upd.refl _ _).grown hg (fun _ _ e => e)
  obtain ⟨nn, hgo⟩ := S.fams.full i g hm
  have hty : ∀ k, g.ownBlock = some k → ∃ cur, w.heap[k]? = some (.cells cur 50 (0, 0)) := fun k hk => own_block hgo hk
  refine ⟨S.below.trans (u.below hb (fun k hk e => by have := ((S.fams.full i g hm).lt e).2; omega)), (u.block _ (lt_of_block S.cells) (fun e => ?_)).trans S.cells, ownsRow_upd S.long u (fun k hk e => ?_), S.fams.step hm ho hg mv ov, S.ne⟩
  · obtain ⟨cur, hc⟩ := hty _ e
    rw [S.cells] at hc
    simp at hc
  · obtain ⟨cur, hc⟩ := hty _ e
    obtain ⟨cur', hc'⟩ := own_block S.long hk
    rw [hc'] at hc
    simp at hc
theorem P2.more {base : Nat} {w0 w w' : World} {g0 : Nat} {vs : List Value} {L L' : Value} {us new : List Value} {F : Nat → Value → Prop} (S : P2 base w0 w g0 vs L us F) (hb : base ≤ w.heap.size)
    (ho : w'.ownsRow base 37 1 L' (us.length + new.length) (us ++ new)) (hg : w.grownBy w' L.ownBlock) (mv : Moved w L L') : P2 base w0 w' g0 vs L' (us ++ new) F := by
  have u : Upd (fun j => L.ownBlock = some j) w w' := (Upd.refl _ _).grown hg (fun _ _ e => e)
  refine ⟨S.below.trans (u.below hb (fun k hk e => ?_)), (u.block _ (lt_of_block S.cells) S.ne).trans S.cells, by rw [List.length_append]; exact ho, S.fams.upd u (fun i v k hf hk e => ?_), fun e => ?_⟩
  · rcases S.long.2 with ⟨h, _⟩ | ⟨g, cap, cur, h, hbg, _⟩
    · rw [h] at e; simp [Value.ownBlock] at e
    · rw [h] at e; simp [Value.ownBlock] at e; omega
  · obtain ⟨nn, hgo⟩ := S.fams.full i v hf
    obtain ⟨cur, hc⟩ := own_block hgo hk
    obtain ⟨cur', hc'⟩ := own_block S.long e
    rw [hc'] at hc
    simp at hc
  · rcases mv with h | ⟨k, h, hk⟩
    · exact S.ne (h ▸ e)
    · rw [e] at h
      simp at h
      have := lt_of_block S.cells
      omega
theorem P1.start {base : Nat} {w0 w : World} {g0 : Nat} {vs : List Value} (S : P1 base w0 w g0 vs vs.length)
    (ap : ∀ a b (ha : a < vs.length) (hb : b < vs.length), a ≠ b → ∀ k, vs[a].ownBlock = some k → vs[b].ownBlock ≠ some k) : P2 base w0 w g0 vs (.slice none 0 0) [] (famP vs []) := by
  refine ⟨S.below, S.cells, World.ownsRow_nil _ _ _ _, ⟨fun i u h => ?_, fun i u j v h1 h2 hne k hk => ?_⟩, by simp [Value.ownBlock]⟩
  · rcases h with h | ⟨t, h, _⟩
    · obtain ⟨hi, rfl⟩ := List.getElem?_eq_some_iff.1 h
      obtain ⟨n, xs, _, ho, hx⟩ := S.rows i hi
      rw [hx hi] at ho
      exact ⟨n, ho⟩
    · simp at h
  · rcases h1 with h1 | ⟨t, h1, _⟩
    · rcases h2 with h2 | ⟨t, h2, _⟩
      · obtain ⟨hi, rfl⟩ := List.getElem?_eq_some_iff.1 h1
        obtain ⟨hj, rfl⟩ := List.getElem?_eq_some_iff.1 h2
        exact ap i j hi hj hne k hk
      · simp at h2
    · simp at h1
theorem fam_more (vs us : List Value) (j i : Nat) (u : Value) (a a2 a3 : Option Addr) (l l2 l3 c c2 c3 : Nat) (hul : us.length = 3 * j) (h0 : famP vs us j (.slice a l c)) (h : famP vs (us ++ [.slice a l c, .slice a2 l2 c2, .slice a3 l3 c3]) i u) :
    plus j (.slice a3 l3 c3) (plus j (.slice a2 l2 c2) (famP vs us)) i u := by
  rcases h with h | ⟨t, h, ht⟩
  · exact Or.inr (Or.inr (Or.inl h))
  · by_cases hl : t < us.length
    · rw [List.getElem?_append_left hl] at h
      exact Or.inr (Or.inr (Or.inr ⟨t, h, ht⟩))
    · rw [List.getElem?_append_right (by omega)] at h
      have hlt : t - us.length < 3 := by have := (List.getElem?_eq_some_iff.1 h).1; simpa using this
      have hij : i = j := by omega
      subst hij
      obtain ⟨d, hd⟩ : ∃ d, t - us.length = d := ⟨_, rfl⟩
      rw [hd] at h hlt
      match d, hlt, h with
      | 0, _, h => simp at h; subst h; exact Or.inr (Or.inr h0)
      | 1, _, h => simp at h; subst h; exact Or.inr (Or.inl ⟨rfl, rfl⟩)
      | 2, _, h => simp at h; subst h; exact Or.inl ⟨rfl, rfl⟩
theorem Tryz.infoL : (Tryz.prog.info? 37).map (fun i => (i.zero, i.size, i.bytes)) = some (some (.slice none 0 0), 1, 24) := by kernel_rfl

set_option maxHeartbeats 1000000 in
theorem ob_any (base g0 : Nat) (vs : List Value) (w : World) (S0 : P1 base w w g0 vs 0) (hb0 : base ≤ w.heap.size)
    (ap : ∀ a b (ha : a < vs.length) (hb : b < vs.length), a ≠ b → ∀ k, vs[a].ownBlock = some k → vs[b].ownBlock ≠ some k) (hvl : vs.length ≤ 1000) (m : Nat) (hm : vs.length = m) :
    Calls Tryz.prog 23 #[.slice (some ⟨g0, 0, none⟩) m m] w fun e w' => e = .returned (.bool true) ∧ Below base w w' := by
  have HAP : Hid (∀ a b (ha : a < vs.length) (hb : b < vs.length), a ≠ b → ∀ k, vs[a].ownBlock = some k → vs[b].ownBlock ≠ some k) := ap
  clear ap
  obtain ⟨i0, hip, hp0, hp1, hp2⟩ := info_parts Tryz.info50
  obtain ⟨i1, hiq, hq0, hq1, hq2⟩ := info_parts Tryz.infoL
  have HLN : Hid (∀ j (hj : j < vs.length), ∃ ao l c, vs[j] = .slice ao l c ∧ l ≤ 1000000) := fun j hj => by
    obtain ⟨n, xs, h1, h2, _⟩ := S0.rows j hj
    obtain ⟨ao, l, c, e⟩ := row_shape h2
    rw [e] at h2
    obtain ⟨h3, _⟩ := own_cap h2
    exact ⟨ao, l, c, e, by omega⟩
  have HAP2 := HAP
  rw [hm] at hvl
  go_enter Tryz.func23, Tryz.ntmps23
  go_wp2
  go_loopw [3] (fun a wr => ∃ i : Nat, a = .int .i64 i ∧ i ≤ m ∧ P1 base w wr g0 vs i) (fun a _ => m - (intOf a).toNat)
  case atStart => exact ⟨0, rfl, by omega, S0⟩
  case round =>
    obtain ⟨i, rfl, him, S⟩ := hrel
    by_cases hlt : i < m
    · have hz : (i : Int) < (m : Int) := by omega
      have hiv : i < vs.length := by omega
      obtain ⟨n, xs, hn, ho, hx⟩ := S.rows i hiv
      have hc := S.cell i hiv
      obtain ⟨v, hv⟩ : ∃ v, vs[i] = v := ⟨_, rfl⟩
      rw [hv] at ho hc
      obtain ⟨ao, l, c, rfl⟩ := row_shape ho
      obtain ⟨hl1, hl2, hl3⟩ := own_cap ho
      obtain rfl : n = l := hl1.symm
      clear hx hc
      go_wp2
      go_loopw [4] (fun a w2 => ∃ (k : Nat) (ys : List Value), a = .int .i64 k ∧ k ≤ n ∧ w2.ownsRow base 50 2 (.slice ao n c) n (marks (mkP i) k ++ ys) ∧ P1 base w w2 g0 vs i) (fun a _ => n - (intOf a).toNat)
      case atStart => exact ⟨0, xs, rfl, by omega, by simpa [marks] using ho, S⟩
      case round =>
        obtain ⟨k, ys, rfl, hkn, ho2, S2⟩ := hrel
        have hc2 := S2.cell i hiv
        rw [hv] at hc2
        by_cases hk : k < n
        · have hzk : (k : Int) < (n : Int) := by omega
          obtain ⟨g, cap, e, -⟩ := own_some ho2 (by omega)
          simp only [Value.slice.injEq] at e
          obtain ⟨rfl, -, rfl⟩ := e
          have hne : g0 ≠ g := fun e => by
            have h1 := S2.cells
            rcases ho2.2 with ⟨e', _⟩ | ⟨g', cap', cur, e', hbg, hg, _⟩
            · cases e'
            · cases e'
              rw [e, hg] at h1
              simp at h1
          have hbg : base ≤ g := by
            rcases ho2.2 with ⟨e', _⟩ | ⟨g', cap', cur, e', hbg, hg, _⟩
            · cases e'
            · cases e'
              exact hbg
          have HO2 : Hid (wr.ownsRow base 50 2 (.slice (some ⟨g, 0, none⟩) n c) n (marks (mkP i) k ++ ys)) := ho2
          have HS2 : Hid (P1 base w wr g0 vs i) := S2
          have HV : Hid (vs[i] = .slice (some ⟨g, 0, none⟩) n c) := hv
          have HNG : Hid (g0 ≠ g ∧ base ≤ g ∧ base ≤ wr.heap.size ∧ i < vs.length) := ⟨hne, hbg, by have := S2.below.size; omega, hiv⟩
          have hw7 : IntKind.i64.wrap (7000 + (i : Int)) = 7000 + (i : Int) := by rw [IntKind.wrap_i64]; omega
          have hu7 : IntKind.u64.wrap (7000 + (i : Int)) = 7000 + (i : Int) := by rw [IntKind.wrap_u64]; omega
          clear ho2 S2 hv hne hbg S ho
          go_wp2_with (refine wpList_stM rfl _ _ rfl base g k n c _ (mkP i) rfl (mkP_one i) HO2.out hk rfl rfl ?_; intro w4 o4 u4; have O4 : Hid (w4.ownsRow base 50 2 (.slice (some ⟨g, 0, none⟩) n c) n (marks (mkP i) (k + 1) ++ ys.drop 2)) := marks_put o4; have HS4 : Hid (P1 base w w4 g0 vs i) := HS2.out.upd HNG.out.2.2.2 HV.out HNG.out.2.2.1 HAP.out HNG.out.2.1 HNG.out.1 u4 hn (by rw [HV.out]; exact O4.out); clear o4 u4)
          (try simp only [Act.put])
          go_roundw
          case rel => exact ⟨k + 1, _, by go_num, by omega, O4.out, HS4.out⟩
          case measure => simp [intOf]; omega
        · obtain rfl : k = n := by omega
          have hys : ys = [] := by
            have h1 := ho2.1
            rw [List.length_append, marks_len] at h1
            have hm4 : (mkP i).length = 2 := rfl
            rw [hm4] at h1
            exact List.eq_nil_of_length_eq_zero (by omega)
          subst hys
          rw [List.append_nil] at ho2
          have S5 := S2.next hiv hn (by rw [hv]; exact ho2)
          have HS5 : Hid (P1 base w wr g0 vs (i + 1)) := S5
          clear S5 ho2 S2
          go_wp2
          go_roundw
          case rel => exact ⟨i + 1, by go_num, by omega, HS5.out⟩
          case measure => simp [intOf]; omega
    · obtain rfl : i = m := by omega
      have T0 : P2 base w wr g0 vs (.slice none 0 0) [] (famP vs []) := by
        rw [← hm] at S
        exact S.start HAP.out
      clear S S0
      go_wp2
      go_loopw [5, 6] (fun a b wr => ∃ (j : Nat) (us : List Value), b = .int .i64 j ∧ j ≤ i ∧ us.length = 3 * j ∧ P2 base w wr g0 vs a us (famP vs us)) (fun _ b _ => i - (intOf b).toNat)
      case atStart => exact ⟨0, [], rfl, by omega, rfl, T0⟩
      case round =>
        obtain ⟨j, us, rfl, hji, hul, T⟩ := hrel
        have HUL : Hid (us.length = 3 * j) := hul
        have hub : us.length ≤ 3000 := by omega
        clear hul
        have hbs := T.below.size
        obtain ⟨aL, lL, cL, rfl⟩ := row_shape T.long
        by_cases hlt : j < i
        · have hz : (j : Int) < (i : Int) := by omega
          have hjv : j < vs.length := by omega
          obtain ⟨ao, l, c, hv, hlb⟩ := HLN.out j hjv
          have hc := T.cell j hjv
          rw [hv] at hc
          have HF0 : famP vs us j (.slice ao l c) := Or.inl (by rw [List.getElem?_eq_getElem hjv, hv])
          have A0 : wr.ownsRow base 50 2 (.slice ao l c) (l + 0) (marks (mkP j) (l + 0)) := by
            obtain ⟨n, ho⟩ := T.fams.full _ _ HF0
            obtain ⟨h1, _⟩ := own_cap ho
            rw [← h1] at ho
            exact ho
          go_wp2
          go_loopw [7, 8] (fun a b w2 => ∃ k : Nat, b = .int .i64 k ∧ k ≤ 20 ∧ w2.ownsRow base 50 2 a (l + k) (marks (mkP j) (l + k)) ∧ P2 base w w2 g0 vs (.slice aL lL cL) us (plus j a (famP vs us))) (fun _ b _ => 20 - (intOf b).toNat)
          case atStart => exact ⟨0, rfl, by omega, A0, T.less (fun i u h => by rcases h with ⟨rfl, rfl⟩ | h <;> first | exact HF0 | exact h)⟩
          case round =>
            obtain ⟨k, rfl, hk20, A, T2⟩ := hrel
            have hbs2 := T2.below.size
            obtain ⟨a2, l2, c2, rfl⟩ := row_shape A
            by_cases hk : k < 20
            · have hzk : (k : Int) < 20 := by omega
              have T3 := T2.alloc (by omega) (.cells (mkP j).toArray 50)
              have HT3 : Hid (P2 base w _ g0 vs (.slice aL lL cL) us (plus j (.slice a2 l2 c2) (famP vs us))) := T3
              clear T2 T3
              go_wp2_with (at_builtin; refine wpList_appX _ rfl _ _ 37 37 rfl base 50 i0 _ 2 16 Tryz.underlying37 hip hp0 hp1 hp2 rfl _ _ _ rfl (A.alloc _) _ 1 (mkP j) rfl (Src.ofSlice _ Tryz.underlying37 ⟨_, 0, none⟩ 1 1 _ rfl ?c1 ?c2) ?c3 ?c4 ?c5 ?_)
              case c1 =>
                intro t u ht
                rw [Addr.add_lit, Nat.zero_add, cell_of_row _ _ t _ _ _ (heap_alloc_new _ _)]
                simpa [mkP] using ht
              case c2 => intro u hu; simp [mkP] at hu; rcases hu with rfl | rfl <;> rfl
              case c3 => unfold maxLen; omega
              case c4 => omega
              case c5 => simp; omega
              intro v' w5 ho hg hmv hov
              have T4 := (HT3.out.grow (by simp; omega) (Or.inl ⟨rfl, rfl⟩) ho hg hmv hov).less (F' := plus j v' (famP vs us)) (fun i u h => by rcases h with h | h; exact Or.inl h; exact Or.inr (Or.inr h))
              rw [marks_succ] at ho
              have HO4 : Hid (w5.ownsRow base 50 2 v' (l + k + 1) (marks (mkP j) (l + k + 1))) := ho
              have HT4 : Hid (P2 base w w5 g0 vs (.slice aL lL cL) us (plus j v' (famP vs us))) := T4
              obtain ⟨a5, l5, c5, rfl⟩ := row_shape ho
              clear ho hg hmv hov T4 A
              go_wp2
              go_roundw
              case rel => exact ⟨k + 1, by go_num, by omega, HO4.out, HT4.out⟩
              case measure => simp [intOf]; omega
            · have hz20 : ¬ ((k : Int) < 20) := by omega
              clear hk
              have hc4 := T2.cell j hjv
              rw [hv] at hc4
              have HF1 : (plus j (.slice a2 l2 c2) (famP vs us)) j (.slice ao l c) := Or.inr HF0
              have A1 : wr.ownsRow base 50 2 (.slice ao l c) (l + 0) (marks (mkP j) (l + 0)) := by
                obtain ⟨n, ho⟩ := T2.fams.full _ _ HF1
                obtain ⟨h1, _⟩ := own_cap ho
                rw [← h1] at ho
                exact ho
              go_wp2
              go_loopw [9, 10] (fun a b w2 => ∃ k : Nat, b = .int .i64 k ∧ k ≤ 80 ∧ w2.ownsRow base 50 2 a (l + k) (marks (mkP j) (l + k)) ∧ P2 base w w2 g0 vs (.slice aL lL cL) us (plus j a (plus j (.slice a2 l2 c2) (famP vs us)))) (fun _ b _ => 80 - (intOf b).toNat)
              case atStart => exact ⟨0, rfl, by omega, A1, T2.less (fun i u h => by rcases h with ⟨rfl, rfl⟩ | h <;> first | exact HF1 | exact h)⟩
              case round =>
                obtain ⟨k, rfl, hk80, A, T6⟩ := hrel
                have hbs6 := T6.below.size
                obtain ⟨a3, l3, c3, rfl⟩ := row_shape A
                by_cases hk : k < 80
                · have hzk : (k : Int) < 80 := by omega
                  have T3 := T6.alloc (by omega) (.cells (mkP j).toArray 50)
                  have HT3 : Hid (P2 base w _ g0 vs (.slice aL lL cL) us (plus j (.slice a3 l3 c3) (plus j (.slice a2 l2 c2) (famP vs us)))) := T3
                  clear T6 T3
                  go_wp2_with (at_builtin; refine wpList_appX _ rfl _ _ 37 37 rfl base 50 i0 _ 2 16 Tryz.underlying37 hip hp0 hp1 hp2 rfl _ _ _ rfl (A.alloc _) _ 1 (mkP j) rfl (Src.ofSlice _ Tryz.underlying37 ⟨_, 0, none⟩ 1 1 _ rfl ?c1 ?c2) ?c3 ?c4 ?c5 ?_)
                  case c1 =>
                    intro t u ht
                    rw [Addr.add_lit, Nat.zero_add, cell_of_row _ _ t _ _ _ (heap_alloc_new _ _)]
                    simpa [mkP] using ht
                  case c2 => intro u hu; simp [mkP] at hu; rcases hu with rfl | rfl <;> rfl
                  case c3 => unfold maxLen; omega
                  case c4 => omega
                  case c5 => simp; omega
                  intro v' w5 ho hg hmv hov
                  have T4 := (HT3.out.grow (by simp; omega) (Or.inl ⟨rfl, rfl⟩) ho hg hmv hov).less (F' := plus j v' (plus j (.slice a2 l2 c2) (famP vs us))) (fun i u h => by rcases h with h | h; exact Or.inl h; exact Or.inr (Or.inr h))
                  rw [marks_succ] at ho
                  have HO4 : Hid (w5.ownsRow base 50 2 v' (l + k + 1) (marks (mkP j) (l + k + 1))) := ho
                  have HT4 : Hid (P2 base w w5 g0 vs (.slice aL lL cL) us (plus j v' (plus j (.slice a2 l2 c2) (famP vs us)))) := T4
                  obtain ⟨a5, l5, c5, rfl⟩ := row_shape ho
                  clear ho hg hmv hov T4 A
                  go_wp2
                  go_roundw
                  case rel => exact ⟨k + 1, by go_num, by omega, HO4.out, HT4.out⟩
                  case measure => simp [intOf]; omega
                · have hz80 : ¬ ((k : Int) < 80) := by omega
                  clear hk
                  have hc6 := T6.cell j hjv
                  rw [hv] at hc6
                  have T7 := T6.alloc (by omega) (.cells #[.slice ao l c, .slice a2 l2 c2, .slice a3 l3 c3] 37)
                  have HT7 : Hid (P2 base w _ g0 vs (.slice aL lL cL) us (plus j (.slice a3 l3 c3) (plus j (.slice a2 l2 c2) (famP vs us)))) := T7
                  have A7 := T7.long
                  clear T6 T7 A
                  go_wp2_with (at_builtin; refine wpList_appX _ rfl _ _ 52 52 rfl base 37 i1 _ 1 24 Tryz.underlying52 hiq hq0 hq1 hq2 rfl _ _ _ rfl A7 _ 3 [.slice ao l c, .slice a2 l2 c2, .slice a3 l3 c3] rfl (Src.ofSlice _ Tryz.underlying52 ⟨_, 0, none⟩ 3 3 _ rfl ?d1 ?d2) ?d3 ?d4 ?d5 ?_)
                  case d2 => exact ⟨rfl, rfl, rfl⟩
                  case d3 => unfold maxLen; omega
                  case d4 => omega
                  case d5 => omega
                  intro v' w5 ho hg hmv hov
                  have T8 := (HT7.out.more (by simp; omega) ho hg hmv).less (F' := famP vs (us ++ [.slice ao l c, .slice a2 l2 c2, .slice a3 l3 c3])) (fun i u h => fam_more vs us j i u ao a2 a3 l l2 l3 c c2 c3 HUL.out HF0 h)
                  have HT8 : Hid (P2 base w w5 g0 vs v' (us ++ [.slice ao l c, .slice a2 l2 c2, .slice a3 l3 c3]) (famP vs (us ++ [.slice ao l c, .slice a2 l2 c2, .slice a3 l3 c3]))) := T8
                  obtain ⟨a5, l5, c5, rfl⟩ := row_shape ho
                  clear ho hg hmv hov T8 A7
                  go_wp2
                  go_roundw
                  case rel => exact ⟨j + 1, _, by go_num, by omega, by have := HUL.out; simp; omega, HT8.out⟩
                  case measure => simp [intOf]; omega
        · obtain rfl : j = i := by omega
          obtain ⟨hlL, hlL2, _⟩ := own_cap T.long
          have hzL : (lL : Int) ≤ 3000 := by omega
          have HNU : Hid (us.length = lL) := hlL.symm
          clear HUL hlL hlL2
          go_wp2
          go_loopw [2, 11] (fun z a w2 => ∃ t : Nat, z = .bool false ∧ a = .int .i64 t ∧ t ≤ lL ∧ P2 base w w2 g0 vs (.slice aL lL cL) us (famP vs us)) (fun _ a _ => lL - (intOf a).toNat)
          case atStart => exact ⟨0, rfl, rfl, by omega, T⟩
          case round =>
            obtain ⟨t, rfl, rfl, htl, T2⟩ := hrel
            by_cases ht : t < lL
            · have hzt : (t : Int) < (lL : Int) := by omega
              have htu : t < us.length := by have := HNU.out; omega
              obtain ⟨gL, capL, eL, _, _, _, hxL⟩ := own_some T2.long (by omega)
              simp only [Value.slice.injEq] at eL
              obtain ⟨rfl, eL2, eL3⟩ := eL
              clear eL2 eL3
              have hcL := hxL t us[t] (List.getElem?_eq_getElem htu)
              have HF : famP vs us (t / 3) us[t] := Or.inr ⟨t, List.getElem?_eq_getElem htu, rfl⟩
              obtain ⟨n, ho⟩ := T2.fams.full _ _ HF
              obtain ⟨u, hu⟩ : ∃ u, us[t] = u := ⟨_, rfl⟩
              rw [hu] at ho hcL
              obtain ⟨au, lu, cu, rfl⟩ := row_shape ho
              obtain ⟨hlu, hlu2, hlu3⟩ := own_cap ho
              obtain rfl : n = lu := hlu.symm
              clear hxL ho hcL
              have HU : Hid (us[t]? = some (.slice au n cu)) := by rw [← hu]; exact List.getElem?_eq_getElem htu
              rw [hu] at HF
              have HF' : Hid (famP vs us (t / 3) (.slice au n cu)) := HF
              clear HF hu htu
              go_wp2
              go_loopw [2, 12] (fun z a w2 => ∃ k : Nat, z = .bool false ∧ a = .int .i64 k ∧ k ≤ n ∧ P2 base w w2 g0 vs (.slice (some ⟨gL, 0, none⟩) lL cL) us (famP vs us)) (fun _ a _ => n - (intOf a).toNat)
              case atStart => exact ⟨0, rfl, rfl, by omega, T2⟩
              case round =>
                obtain ⟨k, rfl, rfl, hkn, T4⟩ := hrel
                obtain ⟨gL', capL', eL, _, _, _, hxL⟩ := own_some T4.long (by have := HNU.out; omega)
                simp only [Value.slice.injEq, Option.some.injEq, Addr.mk.injEq] at eL
                obtain ⟨⟨rfl, _⟩, eL2, eL3⟩ := eL
                clear eL2 eL3
                have hcL := hxL t _ HU.out
                clear hxL
                by_cases hk : k < n
                · have hzk : (k : Int) < (n : Int) := by omega
                  obtain ⟨n', ho⟩ := T4.fams.full _ _ HF'.out
                  obtain ⟨hn', _⟩ := own_cap ho
                  obtain rfl : n = n' := hn'
                  obtain ⟨gu, capu, eu, _, _, _, hxu⟩ := own_some ho (by omega)
                  cases eu
                  have hm4 : (mkP (t / 3)).length = 2 := rfl
                  have hget : ∀ r y, r < 2 → (mkP (t / 3))[r]? = some y → wr.cell? ⟨gu, k * 2 + r, none⟩ = some y := fun r y hr hy => hxu _ _ (by rw [marks_get _ _ _ (by rw [hm4]; omega), hm4, Nat.add_comm, Nat.add_mul_mod_self_right, Nat.mod_eq_of_lt hr]; exact hy)
                  have RG : Hid (wr.rangeAt gu (k * 2) (mkP (t / 3))) := fun r y hy => hget r y (by have h1 := (List.getElem?_eq_some_iff.1 hy).1; rw [hm4] at h1; exact h1) hy
                  obtain ⟨q3, hq3⟩ : ∃ q, t / 3 = q := ⟨_, rfl⟩
                  have hd3 : (t : Int).tdiv 3 = (q3 : Int) := by rw [Int.tdiv_eq_ediv_of_nonneg (by omega)]; omega
                  have hd4 : (t : Int) / 3 = (q3 : Int) := by omega
                  have hw7 : IntKind.i64.wrap (7000 + (q3 : Int)) = 7000 + (q3 : Int) := by rw [IntKind.wrap_i64]; omega
                  have hu7 : IntKind.u64.wrap (7000 + (q3 : Int)) = 7000 + (q3 : Int) := by rw [IntKind.wrap_u64]; omega
                  have NQ := neqM q3
                  rw [hq3] at RG
                  unfold mkP at NQ RG
                  clear hq3 hm4
                  have HT4 : Hid (P2 base w wr g0 vs (.slice (some ⟨gL, 0, none⟩) lL cL) us (famP vs us)) := T4
                  clear hget hxu ho T4
                  have hnb : (n : Int) ≤ 9223372036854775807 := by unfold maxLen at hlu3; omega
                  go_wp2_with (refine wpList_load_mid rfl 50 _ rfl gu (k * 2) rfl [.int .i64 0, .int .u64 (7000 + (q3 : Int))] _ RG.out Tryz.underlying50 rfl (by kernel_rfl) ?_)
                  go_roundw
                  case rel => exact ⟨k + 1, rfl, by go_num, by omega, HT4.out⟩
                  case measure => simp [intOf]; omega
                · obtain rfl : k = n := by omega
                  have HT4 : Hid (P2 base w wr g0 vs (.slice (some ⟨gL, 0, none⟩) lL cL) us (famP vs us)) := T4
                  clear T4
                  go_wp2
                  go_roundw
                  case rel => exact ⟨t + 1, rfl, by go_num, by omega, HT4.out⟩
                  case measure => simp [intOf]; omega
            · obtain rfl : t = lL := by omega
              have HB := T2.below
              clear T2 T
              go_wp2
              go_ret
              exact ⟨rfl, HB⟩
end Go.Proofs.YtkpkdikogoalkaaGreatDoor.sk.ob
