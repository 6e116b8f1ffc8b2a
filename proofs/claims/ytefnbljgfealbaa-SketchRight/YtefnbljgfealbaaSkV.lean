/-
  Layer 13: puts in another order: moved; what sums are.
-/
import Derived.Test.YtefnbljgfealbaaSkU
namespace Go.Proofs.Ytefnbljgfealbaa.sk
open Go.RowKit
set_option maxRecDepth 100000

/-- How much of a bar there is in all. -/
def totP (l : List (Nat × Nat)) (i : Nat) : Nat := (l.map fun p => if idxN p.1 = i then p.2 else 0).sum
theorem totP_append (a b : List (Nat × Nat)) (i : Nat) : totP (a ++ b) i = totP a i + totP b i := by
  unfold totP; rw [List.map_append, List.sum_append]
theorem totP_perm {a b : List (Nat × Nat)} (h : a.Perm b) (i : Nat) : totP a i = totP b i := by
  unfold totP
  have := h.map fun p : Nat × Nat => if idxN p.1 = i then p.2 else 0
  exact this.sum_nat
theorem fold_tot : ∀ (l : List (Nat × Nat)) (f : Nat → Nat), (∀ j, f j ≤ topC) → ∀ i, l.foldl (fun f p => putF f (idxN p.1) p.2) f i = min (f i + totP l i) topC
  | [], f, hf, i => by
    have := hf i
    show f i = min (f i + 0) topC
    omega
  | p :: l, f, hf, i => by
    rw [List.foldl_cons, fold_tot l _ (putF_le hf _ _) i, putF_at]
    have e : totP (p :: l) i = (if idxN p.1 = i then p.2 else 0) + totP l i := rfl
    rw [e]
    by_cases h : i = idxN p.1
    · subst h
      rw [if_pos rfl, if_pos rfl]
      omega
    · rw [if_neg h, if_neg (fun h' => h h'.symm)]
      omega
theorem foldP_at (l : List (Nat × Nat)) (i : Nat) : foldP l i = min (totP l i) topC := by
  unfold foldP
  rw [fold_tot l _ (fun _ => Nat.zero_le _) i, Nat.zero_add]
def putC (p : Nat × Nat) : List Value := [.int .u64 (p.1 : Int), .int .u64 (p.2 : Int)]
theorem own_free {base : Nat} {w : World} {e : TypeId} {s g n cap m : Nat} {xs : List Value} (h : w.ownsRow base e s (.slice (some ⟨g, 0, none⟩) n cap) m xs) (j : Nat) : w.frozen? ⟨g, j, none⟩ = false := by
  rcases h.2 with ⟨e, _⟩ | ⟨g', cap', cur, e, _, hh, _⟩
  · cases e
  · injection e with e _ _
    injection e with e
    injection e with e
    subst e
    exact blk_free hh j
theorem Try.info64 : (Try.prog.info? 64).map (fun i => (i.zero, i.size, i.bytes)) = some (some (.agg #[.int .u64 0, .int .u64 0]), 2, 16) := by kernel_rfl
theorem putC_len (l : List (Nat × Nat)) : (l.flatMap putC).length = l.length * 2 := by
  induction l with
  | nil => rfl
  | cons i l ih => rw [List.flatMap_cons, List.length_append, ih]; simp [putC]; omega
theorem putC_one (l : List (Nat × Nat)) : ∀ u ∈ l.flatMap putC, u.oneCell' = true := by
  intro u hu
  obtain ⟨i, _, hi⟩ := List.mem_flatMap.mp hu
  simp [putC] at hi
  rcases hi with rfl | rfl <;> rfl
theorem putC_at (l : List (Nat × Nat)) : ∀ i (hi : i < l.length), (l.flatMap putC)[i * 2]? = some (.int .u64 (l[i].1 : Int)) ∧ (l.flatMap putC)[i * 2 + 1]? = some (.int .u64 (l[i].2 : Int)) := by
  induction l with
  | nil => intro i hi; simp at hi
  | cons p r ih =>
    intro i hi
    rw [List.flatMap_cons]
    cases i with
    | zero => exact ⟨rfl, rfl⟩
    | succ i =>
      have h2 : (putC p).length = 2 := rfl
      rw [List.getElem?_append_right (by omega), List.getElem?_append_right (by omega), h2, show (i + 1) * 2 - 2 = i * 2 by omega, show (i + 1) * 2 + 1 - 2 = i * 2 + 1 by omega]
      exact ih i (by simpa using hi)
theorem putC_set (l : List (Nat × Nat)) : ∀ i (p : Nat × Nat), ((l.flatMap putC).set (i * 2) (.int .u64 (p.1 : Int))).set (i * 2 + 1) (.int .u64 (p.2 : Int)) = (l.set i p).flatMap putC := by
  induction l with
  | nil => intro i p; simp
  | cons q r ih =>
    intro i p
    cases i with
    | zero => rfl
    | succ i =>
      rw [List.set_cons_succ, List.flatMap_cons, List.flatMap_cons, ← ih i p]
      have h2 : (putC q).length = 2 := rfl
      rw [List.set_append_right _ _ (by omega), List.set_append_right _ _ (by omega), h2, show (i + 1) * 2 - 2 = i * 2 by omega, show (i + 1) * 2 + 1 - 2 = i * 2 + 1 by omega]
/-- The cells of a list of puts that is read. -/
theorem PutAt.src {w : World} {ad : Option Addr} {n : Nat} {l : List (Nat × Nat)} (h : PutAt w ad n l) (c : Nat) : Src Try.prog 2 42 (.slice ad n c) n (l.flatMap putC) w := by
  by_cases hn : 0 < n
  · obtain ⟨b, off, rfl, hc⟩ := h.lies hn
    refine Src.ofSlice _ Try.underlying42 _ n c _ (by rw [putC_len, h.len]) ?_ (putC_one l)
    intro j u hj
    have hjl : j < l.length * 2 := by
      rw [← putC_len]
      exact (List.getElem?_eq_some_iff.mp hj).1
    rw [Addr.add_lit]
    obtain ⟨c0, c1⟩ := hc (j / 2) (by omega)
    obtain ⟨d0, d1⟩ := putC_at l (j / 2) (by omega)
    rcases Nat.mod_two_eq_zero_or_one j with hm | hm
    · have e : j / 2 * 2 = j := by omega
      rw [e] at c0 d0
      rw [d0] at hj
      injection hj with hj
      rw [c0, hj]
    · have e : j / 2 * 2 + 1 = j := by omega
      rw [e] at d1
      rw [Nat.add_assoc, e] at c1
      rw [d1] at hj
      injection hj with hj
      rw [c1, hj]
  · obtain rfl : n = 0 := by omega
    obtain rfl : l = [] := List.eq_nil_of_length_eq_zero h.len
    cases ad with
    | none => exact Src.ofNil _ Try.underlying42 c
    | some a => exact Src.ofSlice _ Try.underlying42 a 0 c [] rfl (fun j u h => by simp at h) (fun u h => by cases h)
/-- A row of puts of one's own. -/
def OwnPut (base : Nat) (w : World) (v : Value) (l : List (Nat × Nat)) : Prop := w.ownsRow base 64 2 v l.length (l.flatMap putC)
def MovedP (l : List (Nat × Nat)) (w : World) (e : Ending) (w' : World) : Prop := ∃ ao c l', e = .returned (.slice ao l.length c) ∧ Hid (PutAt w' ao l.length l' ∧ l.Perm l') ∧ Below w.heap.size w w'
set_option maxHeartbeats 2000000 in
theorem moved_any (ad od : Option Addr) (n ca no co : Nat) (l : List (Nat × Nat)) (r : List Int) (w : World) (hP : PutAt w ad n l) (hO : NumAt .i64 w od no r) :
    Calls Try.prog 19 #[.slice ad n ca, .slice od no co] w (MovedP l w) := by
  obtain ⟨i0, hi, hz0, hz1, hz2⟩ := info_parts Try.info64
  have hsize := hP.size
  have HL : Hid (l.length = n) := hP.len
  have OW : (w.alloc (.cells #[] 64)).ownsRow w.heap.size 64 2 (.slice (some ⟨w.heap.size, 0, none⟩) 0 0) 0 [] := ⟨rfl, Or.inr ⟨w.heap.size, 0, #[], rfl, Nat.le_refl _, heap_alloc_new w _, Nat.le_refl _, Nat.zero_le _, rfl, rfl⟩⟩
  have SR := (hP.upd ((Upd.refl (fun _ => False) w).alloc (.cells #[] 64)) (fun _ _ h => h)).src ca
  have HP : Hid _ := hP
  have HO : Hid _ := hO
  clear hP hO
  go_enter Try.func19, Try.ntmps19
  go_wp2_with (at_builtin; refine wpList_appW _ rfl _ _ 42 42 rfl w.heap.size 64 i0 _ 2 16 Try.underlying42 hi hz0 hz1 hz2 rfl _ 0 [] rfl OW _ n _ rfl SR (by unfold maxLen; omega) (by omega) (by simp) ?_; clear OW SR; intro v1 w1 o1 g1 m1)
  have hO1 : OwnPut w.heap.size w1 v1 l := by
    unfold OwnPut
    rw [HL.out]
    simpa using o1
  have hB1 : Below w.heap.size w w1 := (((Upd.refl (fun k => w.heap.size ≤ k) w).alloc (.cells #[] 64)).grown g1 (fun k hk e => by
    have : (Value.slice (some ⟨w.heap.size, 0, none⟩) 0 0).ownBlock = some k := e
    simp [Value.ownBlock] at this
    show w.heap.size ≤ k
    omega)).below (Nat.le_refl _) (fun k hk h => by omega)
  clear o1 g1 m1
  obtain ⟨ao, L, c1, rfl⟩ := row_shape hO1
  obtain ⟨hLl, -, -⟩ := own_cap hO1
  rw [HL.out] at hLl
  subst hLl
  have hno := HO.out.size
  have hno2 : (no : Int) ≤ 17592186044416 := by omega
  have HO1 : Hid _ := hO1
  have HB1 : Hid _ := hB1
  clear hO1 hB1
  by_cases hL0 : L = 0
  · have HE : Hid (MovedP l w (.returned (.slice ao L c1)) w1) := ⟨ao, c1, l, by rw [HL.out], by rw [HL.out]; exact ⟨⟨HL.out, (fun h => absurd h (by omega)), HP.out.bin, HP.out.size⟩, List.Perm.refl _⟩, HB1.out⟩
    subst hL0
    by_cases hn0 : no = 0
    · subst hn0
      go_loop [6] (fun t => t = .int .i64 0) (fun _ => 0)
      case atStart => rfl
      case round =>
        subst hrel
        go_wp2
        go_ret
        exact HE.out
    · have hn0' : (0 : Int) < (no : Int) := by omega
      clear hn0
      go_loop [6] (fun t => t = .int .i64 0) (fun _ => 0)
      case atStart => rfl
      case round =>
        subst hrel
        go_wp2
        go_ret
        exact HE.out
  · obtain ⟨g, cap, eg, -, -, hgw, -⟩ := own_some HO1.out (by rw [HL.out]; omega)
    rw [HL.out] at eg
    injection eg with eg1 eg3 eg2
    subst eg1
    subst eg2
    clear eg3
    have hLi : (0 : Int) < (L : Int) := by omega
    go_loopw [6] (fun t wr => ∃ (i : Nat) (l' : List (Nat × Nat)), t = .int .i64 i ∧ i ≤ no ∧ Hid (OwnPut w.heap.size wr (.slice (some ⟨g, 0, none⟩) L c1) l' ∧ l.Perm l') ∧ Hid (Below w.heap.size w wr)) (fun t _ => no - (intOf t).toNat)
    case atStart => exact ⟨0, l, rfl, by omega, ⟨HO1.out, List.Perm.refl _⟩, HB1⟩
    case round =>
      obtain ⟨i, l', rfl, hino, HS, HB⟩ := hrel
      have hll : l'.length = L := by rw [← HS.out.2.length_eq]; exact HL.out
      by_cases hlt : i < no
      · obtain ⟨bo, oo, rfl, hcs⟩ := (HO.out.below HB.out).lies (by omega)
        have hir : i < r.length := by rw [HO.out.len]; exact hlt
        have q0 := hcs i hir
        have qb := bounds_i64 (HO.out.bin r[i] (List.getElem_mem hir))
        have PK := pick_any r[i] L qb.1 qb.2 (by omega)
        generalize r[i] = ri at q0 PK
        have ha : i % L < L := Nat.mod_lt _ (by omega)
        have hat : (i : Int).tmod (L : Int) = ((i % L : Nat) : Int) := by rw [Int.tmod_eq_emod_of_nonneg (by omega), Int.natCast_emod]
        generalize i % L = a at ha hat
        clear hcs hir qb
        have hlt' : (i : Int) < (no : Int) := by omega
        go_wp2_with (go_at_call 17; (with_reducible refine (PK _).mono ?_); clear PK; rintro e w' ⟨b, hb, rfl, hw⟩; obtain rfl := hw.symm)
        have hal : a < l'.length := by rw [hll]; exact ha
        have hbl : b < l'.length := by rw [hll]; exact hb
        have hab : (a : Int) < (L : Int) := by omega
        have hbb : (b : Int) < (L : Int) := by omega
        obtain ⟨g', cap', eg, -, -, -, hcell⟩ := own_some HS.out.1 (by rw [hll]; omega)
        injection eg with eg1 eg2 eg3
        injection eg1 with eg1
        injection eg1 with eg1 eg4 eg5
        subst eg1
        clear eg2 eg3
        have x1 := hcell _ _ (putC_at l' a hal).1
        have x2 := hcell _ _ (putC_at l' a hal).2
        have y1 := hcell _ _ (putC_at l' b hbl).1
        have y2 := hcell _ _ (putC_at l' b hbl).2
        have fr := fun j => own_free HS.out.1 j
        have f1 := fr (a * 2)
        have f2 := fr (a * 2 + 1)
        have f3 := fr (b * 2)
        have f4 := fr (b * 2 + 1)
        have HW : Hid (∀ wz : World, wz = (((wr.setCell ⟨g, a * 2, none⟩ (.int .u64 (l'[b].1 : Int))).setCell ⟨g, a * 2 + 1, none⟩ (.int .u64 (l'[b].2 : Int))).setCell ⟨g, b * 2, none⟩ (.int .u64 (l'[a].1 : Int))).setCell ⟨g, b * 2 + 1, none⟩ (.int .u64 (l'[a].2 : Int)) → ∃ l2, OwnPut w.heap.size wz (.slice (some ⟨g, 0, none⟩) L c1) l2 ∧ l.Perm l2) := fun wz ez => by
          subst ez
          have h0 := HS.out.1
          unfold OwnPut at h0
          rw [hll] at h0
          have h1 := ownsRow_set (ownsRow_set (ownsRow_set (ownsRow_set h0 (a * 2) (.int .u64 (l'[b].1 : Int))) (a * 2 + 1) (.int .u64 (l'[b].2 : Int))) (b * 2) (.int .u64 (l'[a].1 : Int))) (b * 2 + 1) (.int .u64 (l'[a].2 : Int))
          rw [putC_set l' a l'[b], putC_set _ b l'[a]] at h1
          refine ⟨(l'.set a l'[b]).set b l'[a], ?_, HS.out.2.trans (List.set_set_perm hal hbl).symm⟩
          unfold OwnPut
          rw [List.length_set, List.length_set, hll]
          exact h1
        have HWB : Hid (Below w.heap.size w ((((wr.setCell ⟨g, a * 2, none⟩ (.int .u64 (l'[b].1 : Int))).setCell ⟨g, a * 2 + 1, none⟩ (.int .u64 (l'[b].2 : Int))).setCell ⟨g, b * 2, none⟩ (.int .u64 (l'[a].1 : Int))).setCell ⟨g, b * 2 + 1, none⟩ (.int .u64 (l'[a].2 : Int)))) := (((HB.out.setCell hgw _).setCell hgw _).setCell hgw _).setCell hgw _
        have HEQ : Hid (a = b → (l'[a].1 : Int) = (l'[b].1 : Int) ∧ (l'[a].2 : Int) = (l'[b].2 : Int)) := fun e => by subst e; exact ⟨rfl, rfl⟩
        generalize l'[a] = X at x1 x2 HW HWB HEQ
        generalize l'[b] = Y at y1 y2 HW HWB HEQ
        obtain ⟨X1, X2⟩ := X
        obtain ⟨Y1, Y2⟩ := Y
        simp only at x1 x2 y1 y2 HW HWB HEQ
        generalize (X1 : Int) = P1 at *
        generalize (X2 : Int) = P2 at *
        generalize (Y1 : Int) = Q1 at *
        generalize (Y2 : Int) = Q2 at *
        clear fr hcell q0 hat hal hbl hL0 hsize hno
        by_cases hab2 : a = b
        · obtain ⟨e1, e2⟩ := HEQ.out hab2
          subst hab2 e1 e2
          clear y1 y2
          go_region
          obtain ⟨wz, hwz⟩ : ∃ W, ((((wr.setCell ⟨g, a * 2, none⟩ (.int .u64 P1)).setCell ⟨g, a * 2 + 1, none⟩ (.int .u64 P2)).setCell ⟨g, a * 2, none⟩ (.int .u64 P1)).setCell ⟨g, a * 2 + 1, none⟩ (.int .u64 P2)).drew = W := ⟨_, rfl⟩
          rw [hwz]
          have HZ : Hid (∃ l2, OwnPut w.heap.size wz (.slice (some ⟨g, 0, none⟩) L c1) l2 ∧ l.Perm l2) := by
            obtain ⟨l2, h1, h2⟩ := HW.out _ rfl
            refine ⟨l2, ?_, h2⟩
            rw [← hwz]
            exact ownsRow_upd h1 ((Upd.refl (fun _ => False) _).drew) (fun _ _ h => h)
          have HZB : Hid (Below w.heap.size w wz) := by
            show Below _ _ _
            rw [← hwz]
            exact HWB.out.drew
          clear hwz HW HWB x1 x2 f1 f2 f3 f4 HEQ
          go_wp2
          go_roundw
          case rel =>
            obtain ⟨l2, h1, h2⟩ := HZ.out
            exact ⟨i + 1, l2, by go_num, by omega, ⟨h1, h2⟩, HZB⟩
          case measure => simp [intOf]; omega
        · have n1 : ¬ a * 2 = b * 2 := by omega
          have n2 : ¬ a * 2 = b * 2 + 1 := by omega
          have n3 : ¬ a * 2 + 1 = b * 2 := by omega
          have n4 : ¬ a * 2 + 1 = b * 2 + 1 := by omega
          go_region
          obtain ⟨wz, hwz⟩ : ∃ W, ((((wr.setCell ⟨g, a * 2, none⟩ (.int .u64 Q1)).setCell ⟨g, a * 2 + 1, none⟩ (.int .u64 Q2)).setCell ⟨g, b * 2, none⟩ (.int .u64 P1)).setCell ⟨g, b * 2 + 1, none⟩ (.int .u64 P2)).drew = W := ⟨_, rfl⟩
          rw [hwz]
          have HZ : Hid (∃ l2, OwnPut w.heap.size wz (.slice (some ⟨g, 0, none⟩) L c1) l2 ∧ l.Perm l2) := by
            obtain ⟨l2, h1, h2⟩ := HW.out _ rfl
            refine ⟨l2, ?_, h2⟩
            rw [← hwz]
            exact ownsRow_upd h1 ((Upd.refl (fun _ => False) _).drew) (fun _ _ h => h)
          have HZB : Hid (Below w.heap.size w wz) := by
            show Below _ _ _
            rw [← hwz]
            exact HWB.out.drew
          clear hwz HW HWB x1 x2 y1 y2 n1 n2 n3 n4 f1 f2 f3 f4 HEQ
          go_wp2
          go_roundw
          case rel =>
            obtain ⟨l2, h1, h2⟩ := HZ.out
            exact ⟨i + 1, l2, by go_num, by omega, ⟨h1, h2⟩, HZB⟩
          case measure => simp [intOf]; omega
      · have HE : Hid (MovedP l w (.returned (.slice (some ⟨g, 0, none⟩) L c1)) wr) := by
          refine ⟨some ⟨g, 0, none⟩, c1, l', by rw [HL.out], ⟨⟨by rw [hll, HL.out], fun _ => ?_, fun p hp => HP.out.bin p (HS.out.2.mem_iff.mpr hp), by rw [HL.out]; exact hsize⟩, HS.out.2⟩, HB.out⟩
          obtain ⟨g', cap', eg, -, -, -, hcell⟩ := own_some HS.out.1 (by rw [hll]; omega)
          injection eg with eg1 eg2 eg3
          injection eg1 with eg1
          injection eg1 with eg1 eg4 eg5
          subst eg1
          refine ⟨g, 0, rfl, fun j hj => ?_⟩
          rw [Nat.zero_add]
          exact ⟨hcell _ _ (putC_at l' j hj).1, hcell _ _ (putC_at l' j hj).2⟩
        have hlt' : ¬ (i : Int) < (no : Int) := by omega
        clear hL0 hsize hno
        go_wp2
        go_ret
        exact HE.out
end Go.Proofs.Ytefnbljgfealbaa.sk
