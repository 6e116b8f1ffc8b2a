/-
  QVD.
-/
import Derived.Test.YtobjjdggjgnfcaaGreatDoorQVAq
namespace Go.Proofs.YtobjjdggjgnfcaaGreatDoor.iv
open Go.RowKit
set_option maxRecDepth 100000

theorem closeU_skip (u : Bool) (s : Wk) (t : Int) (h : s.at_ = t ∨ s.n0 ≤ 0 ∨ decide (0 < s.n1) ≠ u) : closeL (wantW u) s t = s.out := by
  unfold closeL
  rw [if_neg]
  rintro ⟨h1, h2⟩
  unfold wantW at h2
  simp only [Bool.and_eq_true, decide_eq_true_eq, beq_iff_eq] at h2
  rcases h with h | h | h
  · exact h1 h
  · omega
  · exact h h2.2
theorem closeU_tell (u : Bool) (s : Wk) (t : Int) (h0 : s.at_ ≠ t) (h1 : 0 < s.n0) (h2 : decide (0 < s.n1) = u) : closeL (wantW u) s t = tellL s.out (s.at_, t) := by
  unfold closeL
  rw [if_pos]
  refine ⟨h0, ?_⟩
  unfold wantW
  simp [h1, h2]
theorem tellU_same {pre : List (Int × Int)} {x a : Int × Int} (h : x.2 = a.1) : tellL (pre ++ [x]) a = pre ++ [(x.1, a.2)] := by
  unfold tellL
  rw [List.getLast?_concat, List.dropLast_concat]
  simp [h]
theorem tellU_next {pre : List (Int × Int)} {x a : Int × Int} (h : x.2 ≠ a.1) : tellL (pre ++ [x]) a = (pre ++ [x]) ++ [a] := by
  unfold tellL
  rw [List.getLast?_concat, List.dropLast_concat]
  simp [h]
theorem set_two {n0 n1 x : Int} {q : Nat} (hq : q < 2) : (#[Value.int .i64 n0, Value.int .i64 n1]).setIfInBounds q (.int .i64 x) = #[.int .i64 (if (q : Int) = 0 then x else n0), .int .i64 (if (q : Int) = 1 then x else n1)] := by
  rcases q with _ | _ | q
  · rfl
  · rfl
  · omega
theorem get_two {n0 n1 : Int} {q : Nat} (hq : q < 2) : (#[Value.int .i64 n0, Value.int .i64 n1])[q]? = some (.int .i64 (if (q : Int) = 0 then n0 else n1)) := by
  rcases q with _ | _ | q
  · rfl
  · rfl
  · omega

structure PcAt (u : Bool) (E : List (Int × Int × Int)) (i : Nat) (w3 wr : World) (v : Value) : Prop where
  blk : wr.heap[w3.heap.size]? = some (.cells #[.int .i64 (runL (wantW u) (E.take i)).n0, .int .i64 (runL (wantW u) (E.take i)).n1] 255 (0, 0))
  own : OwnI (w3.heap.size + 1) wr v (runL (wantW u) (E.take (i + 1))).out
  bel : Below w3.heap.size w3 wr
theorem below_cell {w w' : World} (hb : Below w.heap.size w w') {a : Addr} {v : Value} (h : w.cell? a = some v) : w'.cell? a = some v :=
  cell_upd (Upd.ofBelow (S := fun _ => False) hb (fun k hk hk' => by omega)) h (fun h => h)
theorem below_drewN (w : World) (n : Nat) : Below w.heap.size w (w.drewN n) := ⟨rfl, rfl, rfl, Nat.le_refl _, fun _ _ => rfl⟩
theorem tellU_len (out : List (Int × Int)) (a : Int × Int) : (tellL out a).length ≤ out.length + 1 := by
  unfold tellL
  split
  · simp
  · split
    · simp
    · simp
theorem closeU_len (want : Bool → Bool → Bool) (s : Wk) (t : Int) : (closeL want s t).length ≤ s.out.length + 1 := by
  unfold closeL
  split
  · exact tellU_len _ _
  · omega
theorem runU_b (want : Bool → Bool → Bool) : ∀ (n : Nat) (E : List (Int × Int × Int)), E.length = n → (-(n : Int) ≤ (runL want E).n0 ∧ (runL want E).n0 ≤ n) ∧ (-(n : Int) ≤ (runL want E).n1 ∧ (runL want E).n1 ≤ n) ∧ (runL want E).out.length ≤ n
  | 0, E, h => by
    have : E = [] := List.eq_nil_of_length_eq_zero h
    subst this
    exact ⟨⟨Int.le_refl _, Int.le_refl _⟩, ⟨Int.le_refl _, Int.le_refl _⟩, Nat.le_refl _⟩
  | n + 1, E, h => by
    rcases List.eq_nil_or_concat E with rfl | ⟨P, e, rfl⟩
    · simp at h
    rw [List.concat_eq_append] at *
    have IH := runU_b want n P (by simpa using h)
    rw [runL_snoc]
    have hs : -1 ≤ stepE e ∧ stepE e ≤ 1 := by unfold stepE; split <;> omega
    have hc := closeU_len want (runL want P) e.1
    obtain ⟨⟨a, b⟩, ⟨c, d⟩, f⟩ := IH
    unfold passL
    refine ⟨?_, ?_, ?_⟩
    · simp only
      split <;> omega
    · simp only
      split <;> omega
    · simp only
      omega
theorem endU_list : ∀ (a : List (Int × Int)) (j : Int), ∀ e ∈ endsL j a, e.2.2 = j
  | [], _, _, h => by cases h
  | i :: a, j, e, h => by
    unfold endsL at h
    split at h
    · exact endU_list a j e h
    · rcases List.mem_cons.mp h with rfl | h
      · rfl
      · rcases List.mem_cons.mp h with rfl | h
        · rfl
        · exact endU_list a j e h
theorem ivl_app {base : Nat} {w : World} {v : Value} {out : List (Int × Int)} {a : Int × Int} {gg cap L : Nat} (hL : L = out.length) (h : w.ownsRow base 46 2 (.slice (some ⟨gg, 0, none⟩) (L + 1) cap) (L + 1) (out.flatMap ivC ++ [.int .i64 a.1, .int .i64 a.2])) (hv : v = .slice (some ⟨gg, 0, none⟩) (L + 1) cap) : OwnI base w v (out ++ [a]) := by
  subst hv
  unfold OwnI
  rw [List.length_append, List.flatMap_append, ← hL]
  exact h
theorem ivl_set {base g L cap k : Nat} {w : World} {pre : List (Int × Int)} {x : Int × Int} {t : Int} (hk : pre.length = k) (h : OwnI base w (.slice (some ⟨g, 0, none⟩) L cap) (pre ++ [x])) : OwnI base (w.setCell ⟨g, k * 2 + 1, none⟩ (.int .i64 t)) (.slice (some ⟨g, 0, none⟩) L cap) (pre ++ [(x.1, t)]) := by
  have hl := (own_cap h).1
  unfold OwnI at h ⊢
  rw [List.length_append] at h hl ⊢
  simp only [List.length_singleton] at h hl ⊢
  rw [← hl] at h ⊢
  have h2 := ownsRow_set h (k * 2 + 1) (.int .i64 t)
  have e : ((pre ++ [x]).flatMap ivC).set (k * 2 + 1) (.int .i64 t) = (pre ++ [(x.1, t)]).flatMap ivC := by
    rw [List.flatMap_append, List.flatMap_append, List.set_append_right _ _ (by rw [ivC_len, hk]; omega), ivC_len, hk, show k * 2 + 1 - k * 2 = 1 by omega]
    rfl
  rw [e] at h2
  exact h2
structure PcMid (s : Wk) (eb p q : Nat) (e0 f0 : Int) (w3 w : World) (v : Value) : Prop where
  blk : w.heap[w3.heap.size]? = some (.cells #[.int .i64 s.n0, .int .i64 s.n1] 255 (0, 0))
  c0 : w.cell? ⟨eb, p, none⟩ = some (.int .i64 e0)
  c1 : w.cell? ⟨eb, q, none⟩ = some (.int .i64 f0)
  own : OwnI (w3.heap.size + 1) w v s.out
  bel : Below w3.heap.size w3 w
theorem PcMid.drewN {s : Wk} {eb p q : Nat} {e0 f0 : Int} {w3 w : World} {v : Value} (h : PcMid s eb p q e0 f0 w3 w v) (n : Nat) : PcMid s eb p q e0 f0 w3 (w.drewN n) v :=
  ⟨h.blk, h.c0, h.c1, h.own, ⟨h.bel.os, h.bel.tape, h.bel.output, h.bel.size, h.bel.block⟩⟩
theorem PcMid.grown {s : Wk} {eb p q : Nat} {e0 f0 : Int} {w3 w w' : World} {v v' : Value} {out : List (Int × Int)} {o : Obj} (h : PcMid s eb p q e0 f0 w3 w v) (g : ((w.alloc o).drew).grownBy w' v.ownBlock) (ho : OwnI (w3.heap.size + 1) w' v' out) :
    w'.heap[w3.heap.size]? = some (.cells #[.int .i64 s.n0, .int .i64 s.n1] 255 (0, 0)) ∧ OwnI (w3.heap.size + 1) w' v' out ∧ Below w3.heap.size w3 w' := by
  have hlt := lt_of_block h.blk
  have hz : ((w.alloc o).drew).heap.size = w.heap.size + 1 := World.size_alloc w o
  have key : ∀ k, k ≤ w3.heap.size → w'.heap[k]? = w.heap[k]? := fun k hk =>
    (g.block k (by omega) (fun e => by have := (own_block h.own e.symm).1; omega)).trans (Below.heap_alloc w o k (by omega))
  refine ⟨(key _ (Nat.le_refl _)).trans h.blk, ho, ?_⟩
  exact h.bel.trans ⟨g.os, g.tape, g.output, by have := g.size; omega, fun k hk => key k (by omega)⟩
theorem PcMid.set {s : Wk} {eb p q : Nat} {e0 f0 : Int} {w3 w : World} {g i : Nat} {x : Value} {v v' : Value} {out : List (Int × Int)} (h : PcMid s eb p q e0 f0 w3 w v) (hv : v.ownBlock = some g) (ho : OwnI (w3.heap.size + 1) (w.setCell ⟨g, i, none⟩ x) v' out) :
    (w.setCell ⟨g, i, none⟩ x).heap[w3.heap.size]? = some (.cells #[.int .i64 s.n0, .int .i64 s.n1] 255 (0, 0)) ∧ OwnI (w3.heap.size + 1) (w.setCell ⟨g, i, none⟩ x) v' out ∧ Below w3.heap.size w3 (w.setCell ⟨g, i, none⟩ x) := by
  have hg := (own_block h.own hv).1
  refine ⟨(Below.heap_setCell w ⟨g, i, none⟩ x _ (by show w3.heap.size ≠ g; omega)).trans h.blk, ho, h.bel.setCell (by show w3.heap.size ≤ g; omega) _⟩
theorem PcMid.count {w3 wr : World} {v : Value} {s : Wk} {a b sa M nq : Int} {q eb p r : Nat} {e0 f0 : Int} (hb : wr.heap[w3.heap.size]? = some (.cells #[.int .i64 a, .int .i64 b] 255 (0, 0))) (ho : OwnI (w3.heap.size + 1) wr v s.out) (hbel : Below w3.heap.size w3 wr)
    (h0 : s.n0 = if (q : Int) = 0 then a + sa else a) (h1 : s.n1 = if (q : Int) = 1 then b + sa else b) (hM : M = nq + sa ∧ nq = (if (q : Int) = 0 then a else b)) (hq : q < 2) (heb : eb < w3.heap.size) (x0 : wr.cell? ⟨eb, p, none⟩ = some (.int .i64 e0)) (y0 : wr.cell? ⟨eb, r, none⟩ = some (.int .i64 f0)) :
    PcMid s eb p r e0 f0 w3 (wr.setCell ⟨w3.heap.size, q, none⟩ (.int .i64 M)).drew v := by
  have us := upd_one wr w3.heap.size q (.int .i64 M)
  refine ⟨?_, cell_upd us x0 (by show ¬ eb = _; omega), cell_upd us y0 (by show ¬ eb = _; omega), ownsRow_upd ho us.drew (fun k hk e => ?_), ?_⟩
  · show (wr.setCell ⟨w3.heap.size, q, none⟩ (.int .i64 M)).heap[w3.heap.size]? = _
    rw [set_block hb q, set_two hq, h0, h1, hM.1, hM.2]
    rcases q with _ | _ | q
    · rfl
    · rfl
    · omega
  · have := (own_block ho hk).1
    omega
  · exact (hbel.setCell (by show w3.heap.size ≤ w3.heap.size; omega) _).drew
theorem cuts_sort {w w2 : World} {a2 : Option Addr} {l2 c2 : Nat} {A B : List (Int × Int)} (o2 : OwnU w.heap.size w2 (.slice a2 l2 c2) ([] ++ endsL 0 A ++ endsL 1 B)) (h : (endsL 0 A).length + (endsL 1 B).length ≤ 549755813888) : Calls Tryz.prog 176 #[.slice a2 l2 c2] w2 (OrdU (endsL 0 A ++ endsL 1 B) w2) := by
  rw [List.nil_append] at o2
  have hl := o2.len
  rw [List.length_append] at hl
  have hc := own_cap o2
  exact rSorted_any l2 l2 (Nat.le_refl _) a2 c2 _ w2 o2.at (by omega) (by rw [hl, ← List.length_append]; exact hc.2.1) hc.2.2
set_option maxHeartbeats 16000000 in
theorem pieces_any (ad bd : Option Addr) (n m ca cb : Nat) (A B : List (Int × Int)) (u : Bool) (w : World) (hA : IvAt w ad n A) (hB : IvAt w bd m B) (hn : n + m ≤ 274877906944) :
    Calls Tryz.prog 137 #[.slice ad n ca, .slice bd m cb, .bool u] w fun e w' => ∃ v E, e = .returned v ∧ Hid ((endsL 0 A ++ endsL 1 B).Perm E ∧ SortE E ∧ OwnI w.heap.size w' v (runL (wantW u) E).out ∧ Below w.heap.size w w') := by
  obtain ⟨i0, hi0, hz0, hz1, hz2⟩ := info_parts Tryz.info46
  have HA : Hid (IvAt w ad n A) := hA
  have HB : Hid (IvAt w bd m B) := hB
  have HLA : Hid ((endsL 0 A).length ≤ 2 * n) := by have := cutU_len 0 A; rw [hA.len] at this; exact this
  have HLB : Hid ((endsL 1 B).length ≤ 2 * m) := by have := cutU_len 1 B; rw [hB.len] at this; exact this
  have HLS : Hid ((endsL 0 A).length + (endsL 1 B).length ≤ 549755813888) := by have x1 := HLA.out; have x2 := HLB.out; show _ ≤ _; omega
  have HLA2 : Hid (([] ++ endsL 0 A).length ≤ 1099511627776) := by have x1 := HLA.out; show _ ≤ _; rw [List.nil_append]; omega
  have C1 := cuts_any w ad n ca A 0 hA (by omega) (.slice none 0 0) [] w (Below.refl _ _) (OwnU.nil _ _) (by simp)
  clear hA hB
  go_enter Tryz.func137, Tryz.ntmps137
  go_wp2_with (first
    | (go_at_call 175; (with_reducible refine C1.mono ?_); clear C1; rintro e w1 ⟨v1, rfl, o1, b1⟩; obtain ⟨a1, l1, c1, rfl⟩ := row_shape o1; have C2 := cuts_any w bd m cb B 1 HB.out (by omega) (.slice a1 l1 c1) ([] ++ endsL 0 A) w1 b1 o1 HLA2.out; clear o1 b1)
    | (go_at_call 175; (with_reducible refine C2.mono ?_); clear C2; rintro e w2 ⟨v2, rfl, o2, b2⟩; obtain ⟨a2, l2, c2, rfl⟩ := row_shape o2; have SO := cuts_sort o2 HLS.out; have HB2 : Hid (Below w.heap.size w w2) := b2; clear o2 b2)
    | (go_at_call 176; (with_reducible refine SO.mono ?_); clear SO; rintro e w3 ⟨a3, l3, c3, E, rfl, HE, k3, k3', b3⟩; have HB3 : Hid (Below w.heap.size w w3) := HB2.out.trans (b3.mono HB2.out.size); clear b3))
  have HE3 : Hid (CuAt w3 a3 l3 E) := HE.out.1
  have HP3 : Hid ((endsL 0 A ++ endsL 1 B).Perm E ∧ SortE E) := HE.out.2
  have HOK : Hid (∀ e ∈ E, e.2.2 = 0 ∨ e.2.2 = 1) := fun e he => by
    rcases List.mem_append.mp (HP3.out.1.mem_iff.mpr he) with h | h
    · exact Or.inl (endU_list A 0 e h)
    · exact Or.inr (endU_list B 1 e h)
  have hl3 : l3 ≤ 549755813888 := by
    have x0 := HE3.out.len
    have x1 := HLA.out
    have x2 := HLB.out
    have x3 := HP3.out.1.length_eq
    rw [List.length_append] at x3
    omega
  have HEl : Hid (E.length = l3) := HE3.out.len
  clear HE HLA HLB HLS HLA2 HA HB
  unfold maxLen at k3'
  go_loopw [9, 10] (fun a b wr => ∃ (i : Nat), b = .int .i64 i ∧ i ≤ l3 ∧ (0 < l3 → i + 1 ≤ l3) ∧ Hid (PcAt u E i w3 wr a)) (fun _ b _ => l3 - (intOf b).toNat)
  case atStart =>
    refine ⟨0, rfl, by omega, by omega, ?_, ?_, ?_⟩
    · exact heap_alloc_new _ _
    · rw [run_one (wantW u) (wantW_no u) E]; exact World.ownsRow_nil _ _ _ _
    · exact (Below.refl _ _).alloc (Nat.le_refl _) _
  case round =>
    obtain ⟨i, rfl, hil, hil2, HR⟩ := hrel
    obtain ⟨va, vl, vc, hsh⟩ := row_shape HR.out.own
    subst hsh
    obtain ⟨j, hj⟩ : ∃ j, j = i + 1 := ⟨_, rfl⟩
    have HJ : Hid (j = i + 1) := hj
    have hw1 : IntKind.i64.wrap ((i : Int) + 1) = (j : Int) := by rw [wrap_i64_in _ (by omega) (by omega)]; omega
    by_cases hlt : j < l3
    · have hlt' : (j : Int) < (l3 : Int) := by omega
      have hil' : (i : Int) < (l3 : Int) := by omega
      obtain ⟨eb, eo, had, hc⟩ := (HE3.out.below HR.out.bel).lies (by omega)
      have HEB : Hid (eb < w3.heap.size) := by
        obtain ⟨b', o', hx, hy⟩ := HE3.out.lies (by omega)
        have hz := had.symm.trans hx
        injection hz with hz
        injection hz with hz
        subst hz
        have := (hy i (by have := HEl.out; omega)).1
        exact World.block_lt_of_cell? w3 _ this
      subst had
      obtain ⟨x0, x1, x2⟩ := hc i (by have := HEl.out; omega)
      obtain ⟨y0, -, -⟩ := hc j (by have := HEl.out; omega)
      have HAT := run_at (wantW u) E i (by have := HEl.out; omega)
      have HN0 := run_n0 (wantW u) E i (by have := HEl.out; omega)
      have HN1 := run_n1 (wantW u) E i (by have := HEl.out; omega)
      have HOT := run_out (wantW u) E j (by have := HEl.out; omega)
      have hq2 := HOK.out (E[i]'(by have := HEl.out; omega)) (List.getElem_mem _)
      obtain ⟨⟨e0, e1, e2⟩, hei⟩ : ∃ c, E[i]'(by have := HEl.out; omega) = c := ⟨_, rfl⟩
      rw [hei] at x0 x1 x2 HAT HN0 HN1 hq2
      obtain ⟨f0, hf0⟩ : ∃ c, (E[j]'(by have := HEl.out; omega)).1 = c := ⟨_, rfl⟩
      rw [hf0] at y0 HOT
      obtain ⟨sa, hsa⟩ : ∃ s, stepE (e0, e1, e2) = s := ⟨_, rfl⟩
      have hsb : -1 ≤ sa ∧ sa ≤ 1 := by rw [← hsa]; unfold stepE; split <;> omega
      rw [hsa] at x1 HN0 HN1
      simp only at x0 x1 x2 HAT HN0 HN1 hq2
      obtain ⟨q, rfl⟩ : ∃ q : Nat, e2 = (q : Int) := by rcases hq2 with h | h; exact ⟨0, h⟩; exact ⟨1, h⟩
      have hq : q < 2 := by omega
      have hq' : (q : Int) < 2 := by omega
      have hbs := runU_b (wantW u) i (E.take i) (by rw [List.length_take]; have := HEl.out; omega)
      have hos := (runU_b (wantW u) (i + 1) (E.take (i + 1)) (by rw [List.length_take]; have := HEl.out; omega)).2.2
      have hblk := HR.out.blk
      have how : OwnI (w3.heap.size + 1) wr (.slice va vl vc) (runL (wantW u) (E.take (i + 1))).out := HR.out.own
      have HBL : Hid (Below w3.heap.size w3 wr) := HR.out.bel
      rw [HJ.out] at HOT
      obtain ⟨s, hs⟩ : ∃ s, runL (wantW u) (E.take (i + 1)) = s := ⟨_, rfl⟩
      rw [hs] at HAT HN0 HN1 HOT how hos
      have HMK : Hid (∀ W v', W.heap[w3.heap.size]? = some (.cells #[.int .i64 s.n0, .int .i64 s.n1] 255 (0, 0)) ∧ OwnI (w3.heap.size + 1) W v' (closeL (wantW u) s f0) ∧ Below w3.heap.size w3 W → PcAt u E j w3 W v') := fun W v' h => by
        refine ⟨?_, ?_, h.2.2⟩
        · rw [HJ.out, hs]; exact h.1
        · rw [HJ.out, HOT]; exact h.2.1
      have HAT : Hid (s.at_ = e0) := HAT
      generalize (runL (wantW u) (E.take i)).n0 = a at HN0 hbs hblk
      generalize (runL (wantW u) (E.take i)).n1 = b at HN1 hbs hblk
      obtain ⟨nq, hnq⟩ : ∃ x, (if (q : Int) = 0 then a else b) = x := ⟨_, rfl⟩
      obtain ⟨M, hM⟩ : ∃ x, nq + sa = x := ⟨_, rfl⟩
      have hwq : IntKind.i64.wrap (nq + sa) = M := by rw [wrap_i64_in _ (by split at hnq <;> omega) (by split at hnq <;> omega), hM]
      have n0c : wr.cell? ⟨w3.heap.size, q, none⟩ = some (.int .i64 nq) := by rw [← hnq]; exact blk_cell hblk q (get_two hq)
      have n0f : wr.frozen? ⟨w3.heap.size, q, none⟩ = false := blk_free hblk q
      have HMID : Hid (PcMid s eb (eo + i * 3) (eo + j * 3) e0 f0 w3 (wr.setCell ⟨w3.heap.size, q, none⟩ (.int .i64 M)).drew (.slice va vl vc)) := PcMid.count hblk how HBL.out HN0 HN1 ⟨hM.symm, hnq.symm⟩ hq HEB.out x0 y0
      have hosl := (own_cap how).1
      have HOL : Hid (vl = s.out.length) := hosl
      have hvl : vl ≤ 549755813888 := by omega
      clear hc hei hf0 hj hM hnq hbs hsa hsb hq2 HN0 HN1 HOT hs hos how hblk HR hosl
      go_wp2
      go_region
      obtain ⟨w5, hw5⟩ : ∃ V, (wr.setCell ⟨w3.heap.size, q, none⟩ (.int .i64 M)).drew = V := ⟨_, rfl⟩
      rw [hw5] at HMID
      rw [hw5]
      clear hw5 n0c n0f hwq x0 x1 x2 y0
      have p0 := HMID.out.c0
      have p1 := HMID.out.c1
      have n0 : w5.cell? ⟨w3.heap.size, 0, none⟩ = some (.int .i64 s.n0) := blk_cell HMID.out.blk 0 rfl
      have n1 : w5.cell? ⟨w3.heap.size, 1, none⟩ = some (.int .i64 s.n1) := blk_cell HMID.out.blk 1 rfl
      obtain ⟨g0, hg0⟩ : ∃ x, s.n0 = x := ⟨_, rfl⟩
      obtain ⟨g1, hg1⟩ : ∃ x, s.n1 = x := ⟨_, rfl⟩
      rw [hg0] at n0
      rw [hg1] at n1
      have HG : Hid (s.n0 = g0 ∧ s.n1 = g1) := ⟨hg0, hg1⟩
      clear hg0 hg1
      by_cases hAt : e0 = f0
      · have hq1 : (e0 == f0) = true := beq_iff_eq.mpr hAt
        have HSK : Hid (closeL (wantW u) s f0 = s.out) := closeU_skip u s f0 (Or.inl (HAT.out.trans hAt))
        clear hAt
        go_wp2
        go_quiet (fail)
        go_wp2
        go_roundw
        case rel => exact ⟨j, rfl, by omega, by omega, HMK.out _ _ ⟨(HMID.out.drewN _).blk, by rw [HSK.out]; exact (HMID.out.drewN _).own, (HMID.out.drewN _).bel⟩⟩
        case measure => have := HJ.out; simp [intOf]; omega
      · have hq1 : (e0 == f0) = false := beq_eq_false_iff_ne.mpr hAt
        by_cases h0 : g0 ≤ 0
        · have hd0 : decide (g0 ≤ 0) = true := decide_eq_true h0
          have HSK : Hid (closeL (wantW u) s f0 = s.out) := closeU_skip u s f0 (Or.inr (Or.inl (by rw [HG.out.1]; exact h0)))
          clear hAt h0
          go_wp2
          go_quiet (fail)
          go_wp2
          go_roundw
          case rel => exact ⟨j, rfl, by omega, by omega, HMK.out _ _ ⟨(HMID.out.drewN _).blk, by rw [HSK.out]; exact (HMID.out.drewN _).own, (HMID.out.drewN _).bel⟩⟩
          case measure => have := HJ.out; simp [intOf]; omega
        · have hd0 : decide (g0 ≤ 0) = false := decide_eq_false h0
          obtain ⟨p, hp⟩ : ∃ p, decide (0 < g1) = p := ⟨_, rfl⟩
          by_cases hpu : p = u
          · have hpu' : (p == u) = true := beq_iff_eq.mpr hpu
            have HSK : Hid (closeL (wantW u) s f0 = tellL s.out (e0, f0)) := by
              have h := closeU_tell u s f0 (by rw [HAT.out]; exact hAt) (by rw [HG.out.1]; omega) (by rw [HG.out.2, hp]; exact hpu)
              rw [HAT.out] at h
              exact h
            clear hAt h0 hpu
            rcases List.eq_nil_or_concat s.out with hout | ⟨pre, x, hout⟩
            · have hv0 : vl = 0 := by rw [HOL.out, hout]; rfl
              have hv1 : decide ((0 : Int) < (vl : Int)) = false := decide_eq_false (by omega)
              have hv2 : decide (0 < vl) = false := decide_eq_false (by omega)
              have hv3 : ¬ 0 < vl := by omega
              have HTL : Hid (tellL s.out (e0, f0) = s.out ++ [(e0, f0)]) := by show _ = _; rw [hout]; rfl
              clear hout hv0
              go_wp2
              go_quiet (fail)
              obtain ⟨w6, hw6⟩ : ∃ V, w5.drewN nq = V := ⟨_, rfl⟩
              have HM6 : Hid (PcMid s eb (eo + i * 3) (eo + j * 3) e0 f0 w3 w6 (.slice va vl vc)) := by rw [← hw6]; exact HMID.out.drewN _
              rw [hw6]
              clear hw6 p0 p1 n0 n1 HMID
              have p0 := HM6.out.c0
              have p1 := HM6.out.c1
              go_wp2
              go_quiet (fail)
              obtain ⟨w7, hw7⟩ : ∃ V, w6.drewN nq = V := ⟨_, rfl⟩
              have HM7 : Hid (PcMid s eb (eo + i * 3) (eo + j * 3) e0 f0 w3 w7 (.slice va vl vc)) := by rw [← hw7]; exact HM6.out.drewN _
              rw [hw7]
              clear hw7 HM6 p0 p1
              have p0 := HM7.out.c0
              have p1 := HM7.out.c1
              have HOW : Hid (w7.ownsRow (w3.heap.size + 1) 46 2 (.slice va vl vc) vl (s.out.flatMap ivC)) := by
                have h := HM7.out.own
                unfold OwnI at h
                rw [← HOL.out] at h
                exact h
              have hsz7 : w3.heap.size + 1 ≤ w7.heap.size := lt_of_block HM7.out.blk
              have hc6 : ∀ q u, ([.int .i64 e0, .int .i64 f0] : List Value)[q]? = some u → ((w7.alloc (.cells #[.int .i64 e0, .int .i64 f0] 46)).drew).cell? ((⟨w7.heap.size, 0, none⟩ : Addr).add q) = some u := World.news_of_block (cs := #[.int .i64 e0, .int .i64 f0]) (t := 46) (fr := (0, 0)) (heap_alloc_new w7 _)
              have hc3 : vl + 1 ≤ maxLen := by unfold maxLen; omega
              have hc4 : (vl + 1) * 16 ≤ 140737488355328 := by omega
              have hc5 : w3.heap.size + 1 ≤ ((w7.alloc (.cells #[.int .i64 e0, .int .i64 f0] 46)).drew).heap.size := by show w3.heap.size + 1 ≤ (w7.alloc _).heap.size; rw [World.size_alloc]; omega
              have hbn : Below w7.heap.size w7 (w7.alloc (.cells #[.int .i64 e0, .int .i64 f0] 46)) := (Below.refl _ _).alloc (Nat.le_refl _) _
              have r0 : (w7.alloc (.cells #[.int .i64 e0, .int .i64 f0] 46)).cell? ⟨eb, eo + i * 3, none⟩ = some (.int .i64 e0) := below_cell hbn p0
              have r1 : (w7.alloc (.cells #[.int .i64 e0, .int .i64 f0] 46)).cell? ⟨eb, eo + j * 3, none⟩ = some (.int .i64 f0) := below_cell hbn p1
              have HFIN : Hid (∀ gg cap w8, w8.ownsRow (w3.heap.size + 1) 46 2 (.slice (some ⟨gg, 0, none⟩) (vl + 1) cap) (vl + 1) (s.out.flatMap ivC ++ [.int .i64 e0, .int .i64 f0]) → ((w7.alloc (.cells #[.int .i64 e0, .int .i64 f0] 46)).drew).grownBy w8 (Value.slice va vl vc).ownBlock → Hid (PcAt u E j w3 w8 (.slice (some ⟨gg, 0, none⟩) (vl + 1) cap))) := fun gg cap w8 o8 g8 => HMK.out _ _ (HM7.out.grown g8 (by rw [HSK.out, HTL.out]; exact ivl_app (a := (e0, f0)) HOL.out o8 rfl))
              clear hbn hsz7
              go_wp2
              go_region_law ((refine step_append_lies _ (by rfl) _ _ _ (by rfl) (w3.heap.size + 1) 46 i0 _ 2 16 Tryz.underlying101 hi0 hz0 hz1 hz2 rfl (by omega) (.slice va vl vc) vl (s.out.flatMap ivC) (by rfl) ((HOW.out.alloc _).drew) ⟨w7.heap.size, 0, none⟩ 1 1 [.int .i64 e0, .int .i64 f0] (by rfl) (by rfl) hc6 (by simp [Value.oneCell']) (by omega) hc3 hc4 hc5 (w7.heap.size + 1) (by simp) ?_; intro gg cap w8 o8 g8 at8 lt8; have HO8 := HFIN.out gg cap w8 o8 g8; clear o8 g8 at8 lt8))
              all_goals go_wp2
              all_goals go_roundw
              all_goals first
                | exact ⟨j, rfl, by omega, by omega, HO8⟩
                | (have := HJ.out; simp [intOf]; omega)
            · rw [List.concat_eq_append] at hout
              obtain ⟨x1, x2⟩ := x
              obtain ⟨k, hpk⟩ : ∃ k, pre.length = k := ⟨_, rfl⟩
              have hLk : vl = k + 1 := by rw [HOL.out, hout]; simp; omega
              have ho5 := HMID.out.own
              obtain ⟨gB, cap', ev, _, _, hbg, hcells⟩ := own_some ho5 (by rw [hout]; simp)
              simp at ev
              obtain ⟨rfl, ev1, ev2⟩ := ev
              clear ev1 ev2
              have hat := ivC_at s.out k (by rw [hout]; simp; omega)
              have hxk : s.out[k]'(by rw [hout]; simp; omega) = (x1, x2) := by simp [hout, ← hpk]
              rw [hxk] at hat
              have g5 : w5.cell? ⟨gB, k * 2 + 1, none⟩ = some (.int .i64 x2) := hcells _ _ hat.2
              have hl : IntKind.i64.wrap ((vl : Int) - 1) = (k : Int) := by rw [wrap_i64_in _ (by omega) (by omega)]; omega
              have hv1 : decide ((0 : Int) < (vl : Int)) = true := decide_eq_true (by omega)
              have hv2 : decide (0 < vl) = true := decide_eq_true (by omega)
              have hv3 : 0 < vl := by omega
              have hkL : (k : Int) < (vl : Int) := by omega
              have hkL' : k < vl := by omega
              have HOUT : Hid (s.out = pre ++ [(x1, x2)]) := hout
              have HPK : Hid (pre.length = k) := hpk
              clear hout hat hxk hcells hbg hpk hLk ho5
              go_wp2
              go_quiet (fail)
              obtain ⟨w6, hw6⟩ : ∃ V, w5.drewN nq = V := ⟨_, rfl⟩
              have HM6 : Hid (PcMid s eb (eo + i * 3) (eo + j * 3) e0 f0 w3 w6 (.slice (some ⟨gB, 0, none⟩) vl vc)) := by rw [← hw6]; exact HMID.out.drewN _
              have g6 : w6.cell? ⟨gB, k * 2 + 1, none⟩ = some (.int .i64 x2) := by rw [← hw6]; exact g5
              rw [hw6]
              clear hw6 p0 p1 n0 n1 HMID g5
              have p0 := HM6.out.c0
              have p1 := HM6.out.c1
              by_cases hx : x2 = e0
              · have hx1 : (x2 == e0) = true := beq_iff_eq.mpr hx
                have HTL : Hid (tellL s.out (e0, f0) = pre ++ [(x1, f0)]) := by show _ = _; rw [HOUT.out]; exact tellU_same hx
                clear hx
                go_wp2
                go_quiet (fail)
                obtain ⟨w7, hw7⟩ : ∃ V, w6.drewN nq = V := ⟨_, rfl⟩
                have HM7 : Hid (PcMid s eb (eo + i * 3) (eo + j * 3) e0 f0 w3 w7 (.slice (some ⟨gB, 0, none⟩) vl vc)) := by rw [← hw7]; exact HM6.out.drewN _
                have g7 : w7.cell? ⟨gB, k * 2 + 1, none⟩ = some (.int .i64 x2) := by rw [← hw7]; exact g6
                rw [hw7]
                clear hw7 HM6 p0 p1 g6
                have p1 := HM7.out.c1
                have fz : w7.frozen? ⟨gB, k * 2 + 1, none⟩ = false := own_free HM7.out.own rfl _
                have HFIN : Hid (PcAt u E j w3 (w7.setCell ⟨gB, k * 2 + 1, none⟩ (.int .i64 f0)) (.slice (some ⟨gB, 0, none⟩) vl vc)) := HMK.out _ _ (HM7.out.set rfl (by rw [HSK.out, HTL.out]; have h := HM7.out.own; rw [HOUT.out] at h; exact ivl_set HPK.out h))
                go_wp2
                go_roundw
                case rel => exact ⟨j, rfl, by omega, by omega, HFIN⟩
                case measure => have := HJ.out; simp [intOf]; omega
              · have hx1 : (x2 == e0) = false := beq_eq_false_iff_ne.mpr hx
                have HTL : Hid (tellL s.out (e0, f0) = s.out ++ [(e0, f0)]) := by show _ = _; rw [HOUT.out]; exact tellU_next hx
                clear hx
                go_wp2
                go_quiet (fail)
                obtain ⟨w7, hw7⟩ : ∃ V, w6.drewN nq = V := ⟨_, rfl⟩
                have HM7 : Hid (PcMid s eb (eo + i * 3) (eo + j * 3) e0 f0 w3 w7 (.slice (some ⟨gB, 0, none⟩) vl vc)) := by rw [← hw7]; exact HM6.out.drewN _
                rw [hw7]
                clear hw7 HM6 p0 p1 g6
                have p0 := HM7.out.c0
                have p1 := HM7.out.c1
                have HOW : Hid (w7.ownsRow (w3.heap.size + 1) 46 2 (.slice (some ⟨gB, 0, none⟩) vl vc) vl (s.out.flatMap ivC)) := by
                  have h := HM7.out.own
                  unfold OwnI at h
                  rw [← HOL.out] at h
                  exact h
                have hsz7 : w3.heap.size + 1 ≤ w7.heap.size := lt_of_block HM7.out.blk
                have hc6 : ∀ q u, ([.int .i64 e0, .int .i64 f0] : List Value)[q]? = some u → ((w7.alloc (.cells #[.int .i64 e0, .int .i64 f0] 46)).drew).cell? ((⟨w7.heap.size, 0, none⟩ : Addr).add q) = some u := World.news_of_block (cs := #[.int .i64 e0, .int .i64 f0]) (t := 46) (fr := (0, 0)) (heap_alloc_new w7 _)
                have hc3 : vl + 1 ≤ maxLen := by unfold maxLen; omega
                have hc4 : (vl + 1) * 16 ≤ 140737488355328 := by omega
                have hc5 : w3.heap.size + 1 ≤ ((w7.alloc (.cells #[.int .i64 e0, .int .i64 f0] 46)).drew).heap.size := by show w3.heap.size + 1 ≤ (w7.alloc _).heap.size; rw [World.size_alloc]; omega
                have hbn : Below w7.heap.size w7 (w7.alloc (.cells #[.int .i64 e0, .int .i64 f0] 46)) := (Below.refl _ _).alloc (Nat.le_refl _) _
                have r0 : (w7.alloc (.cells #[.int .i64 e0, .int .i64 f0] 46)).cell? ⟨eb, eo + i * 3, none⟩ = some (.int .i64 e0) := below_cell hbn p0
                have r1 : (w7.alloc (.cells #[.int .i64 e0, .int .i64 f0] 46)).cell? ⟨eb, eo + j * 3, none⟩ = some (.int .i64 f0) := below_cell hbn p1
                have HFIN : Hid (∀ gg cap w8, w8.ownsRow (w3.heap.size + 1) 46 2 (.slice (some ⟨gg, 0, none⟩) (vl + 1) cap) (vl + 1) (s.out.flatMap ivC ++ [.int .i64 e0, .int .i64 f0]) → ((w7.alloc (.cells #[.int .i64 e0, .int .i64 f0] 46)).drew).grownBy w8 (Value.slice (some ⟨gB, 0, none⟩) vl vc).ownBlock → Hid (PcAt u E j w3 w8 (.slice (some ⟨gg, 0, none⟩) (vl + 1) cap))) := fun gg cap w8 o8 g8 => HMK.out _ _ (HM7.out.grown g8 (by rw [HSK.out, HTL.out]; exact ivl_app (a := (e0, f0)) HOL.out o8 rfl))
                clear hbn hsz7
                go_wp2
                go_region_law ((refine step_append_lies _ (by rfl) _ _ _ (by rfl) (w3.heap.size + 1) 46 i0 _ 2 16 Tryz.underlying101 hi0 hz0 hz1 hz2 rfl (by omega) (.slice (some ⟨gB, 0, none⟩) vl vc) vl (s.out.flatMap ivC) (by rfl) ((HOW.out.alloc _).drew) ⟨w7.heap.size, 0, none⟩ 1 1 [.int .i64 e0, .int .i64 f0] (by rfl) (by rfl) hc6 (by simp [Value.oneCell']) (by omega) hc3 hc4 hc5 (w7.heap.size + 1) (by simp) ?_; intro gg cap w8 o8 g8 at8 lt8; have HO8 := HFIN.out gg cap w8 o8 g8; clear o8 g8 at8 lt8))
                all_goals go_wp2
                all_goals go_roundw
                all_goals first
                  | exact ⟨j, rfl, by omega, by omega, HO8⟩
                  | (have := HJ.out; simp [intOf]; omega)
          · have hpu' : (p == u) = false := beq_eq_false_iff_ne.mpr hpu
            have HSK : Hid (closeL (wantW u) s f0 = s.out) := closeU_skip u s f0 (Or.inr (Or.inr (by rw [HG.out.2, hp]; exact hpu)))
            clear hAt h0 hpu
            go_wp2
            go_quiet (fail)
            go_wp2
            go_roundw
            case rel => exact ⟨j, rfl, by omega, by omega, HMK.out _ _ ⟨(HMID.out.drewN _).blk, by rw [HSK.out]; exact (HMID.out.drewN _).own, (HMID.out.drewN _).bel⟩⟩
            case measure => have := HJ.out; simp [intOf]; omega
    · have hlt' : ¬ (j : Int) < (l3 : Int) := by omega
      have HT : Hid (E.take (i + 1) = E) := List.take_of_length_le (by have := HEl.out; omega)
      go_wp2
      go_ret
      refine ⟨_, rfl, E, HP3.out.1, HP3.out.2, ?_, HB3.out.trans (HR.out.bel.mono HB3.out.size)⟩
      have h := HR.out.own
      rw [HT.out] at h
      exact own_base h (by have := HB3.out.size; omega)
end Go.Proofs.YtobjjdggjgnfcaaGreatDoor.iv
