/-
  The reference of layer 13: Merge.
-/
import Derived.Test.YtmegmjhkjaejgaaSlE
import Derived.Test.YtmegmjhkjaejgaaMw
import Derived.Deep.RegionLaw
namespace Go.Proofs.Ytmegmjhkjaejgaa.sk
open Go.RowKit
set_option maxRecDepth 100000

theorem bar_src (w : World) (x y : Int) : Src Try.prog 2 28 (.slice (some ⟨w.heap.size, 0, none⟩) 1 1) 1 [.int .i64 x, .int .u64 y] (w.alloc (.cells #[.int .i64 x, .int .u64 y] 46)) := by
  refine Src.ofSlice _ Try.underlying28 _ 1 1 _ rfl ?_ ?_
  · intro j u hj
    match j, hj with
    | 0, hj => simp at hj; subst hj; simp [Addr.add]
    | 1, hj => simp at hj; subst hj; simp [Addr.add]
  · intro u hu; simp at hu; rcases hu with rfl | rfl <;> rfl
theorem bar_own {base : Nat} {w : World} {ao : Option Addr} {L cc : Nat} {S : List (Int × Int)} (h : OwnBar base w (.slice ao L cc) S) (hL : S.length = L) (o : Obj) : (w.alloc o).ownsRow base 46 2 (.slice ao L cc) L (S.flatMap barC) := by
  have := ownsRow_upd h ((Upd.refl (fun _ => False) w).alloc o) (fun _ _ h => h)
  rw [hL] at this
  exact this
theorem bar_app {base : Nat} {w1 : World} {v1 : Value} {L : Nat} {S : List (Int × Int)} {x y : Int} (hL : S.length = L) (o : w1.ownsRow base 46 2 v1 (L + 1) (S.flatMap barC ++ [.int .i64 x, .int .u64 y])) : OwnBar base w1 v1 (S ++ [(x, y)]) := by
  unfold OwnBar
  rw [List.length_append, hL, List.flatMap_append]
  exact o
theorem mL_step_a {a b : List (Int × Int)} {i k : Nat} {S T : List (Int × Int)} (hi : i < a.length) (h : S ++ mL (a.drop i) (b.drop k) = T) (hc : b.length ≤ k ∨ ∃ hk : k < b.length, a[i].1 < b[k].1) : (S ++ [(a[i].1, a[i].2)]) ++ mL (a.drop (i + 1)) (b.drop k) = T := by
  rw [← h, List.append_assoc, List.drop_eq_getElem_cons hi]
  congr 1
  rcases hc with hc | ⟨hk, hlt⟩
  · rw [List.drop_eq_nil_of_le hc, mL_right, mL_right]
    rfl
  · rw [List.drop_eq_getElem_cons hk, mL_cons, if_pos hlt]
    rfl
theorem mL_step_b {a b : List (Int × Int)} {i k : Nat} {S T : List (Int × Int)} (hk : k < b.length) (h : S ++ mL (a.drop i) (b.drop k) = T) (hc : a.length ≤ i ∨ ∃ hi : i < a.length, b[k].1 < a[i].1) : (S ++ [(b[k].1, b[k].2)]) ++ mL (a.drop i) (b.drop (k + 1)) = T := by
  rw [← h, List.append_assoc, List.drop_eq_getElem_cons hk]
  congr 1
  rcases hc with hc | ⟨hi, hlt⟩
  · rw [List.drop_eq_nil_of_le hc, mL_nil, mL_nil]
    rfl
  · rw [List.drop_eq_getElem_cons hi, mL_cons, if_neg (by omega), if_pos hlt]
    rfl
theorem mL_step_c {a b : List (Int × Int)} {i k : Nat} {S T : List (Int × Int)} (hi : i < a.length) (hk : k < b.length) (h : S ++ mL (a.drop i) (b.drop k) = T) (e : a[i].1 = b[k].1) : (S ++ [(a[i].1, ((min (a[i].2.toNat + b[k].2.toNat) topC : Nat) : Int))]) ++ mL (a.drop (i + 1)) (b.drop (k + 1)) = T := by
  rw [← h, List.append_assoc, List.drop_eq_getElem_cons hi, List.drop_eq_getElem_cons hk]
  congr 1
  rw [mL_cons, if_neg (by omega), if_neg (by omega)]
  rfl
/-- Where merging stands. -/
structure MgAt (a b : List (Int × Int)) (base : Nat) (w : World) (wr : World) (v : Value) (i k : Nat) (S : List (Int × Int)) : Prop where
  own : OwnBar base wr v S
  eq : S ++ mL (a.drop i) (b.drop k) = mL a b
  below : Below w.heap.size w wr
  len : S.length ≤ i + k
theorem MgAt.drewN {a b : List (Int × Int)} {base : Nat} {w wr : World} {v : Value} {i k : Nat} {S : List (Int × Int)} (h : MgAt a b base w wr v i k S) (q : Nat) : MgAt a b base w (wr.drewN q) v i k S :=
  ⟨ownsRow_upd h.own ((Upd.refl (fun _ => False) wr).drewN q) (fun _ _ h => h), h.eq, h.below.trans (((Upd.refl (fun _ => False) wr).drewN q).below (B := w.heap.size) h.below.size (fun _ _ h => h)), h.len⟩
theorem MgAt.step {a b : List (Int × Int)} {w wz w1 : World} {ao : Option Addr} {L cc : Nat} {v1 : Value} {i k i' k' : Nat} {S : List (Int × Int)} {x y : Int} {o : Obj} (h : MgAt a b w.heap.size w wz (.slice ao L cc) i k S) (hL : S.length = L)
    (o1 : w1.ownsRow w.heap.size 46 2 v1 (L + 1) (S.flatMap barC ++ [.int .i64 x, .int .u64 y])) (g1 : (wz.alloc o).grownBy w1 (Value.slice ao L cc).ownBlock)
    (he : (S ++ [(x, y)]) ++ mL (a.drop i') (b.drop k') = mL a b) (hl : i + k + 1 ≤ i' + k') : MgAt a b w.heap.size w w1 v1 i' k' (S ++ [(x, y)]) := by
  refine ⟨bar_app hL o1, he, ?_, by have := h.len; rw [List.length_append]; simp; omega⟩
  exact (((Upd.ofBelow (S := fun k => w.heap.size ≤ k) h.below (fun _ _ h => h)).alloc o).grown g1 (fun k _ e => (own_block h.own e).1)).below (Nat.le_refl _) (fun k hk h => by omega)
theorem MgAt.stepB {a b : List (Int × Int)} {w wz u2 w1 : World} {ao : Option Addr} {L cc : Nat} {v1 : Value} {i k i' k' : Nat} {S : List (Int × Int)} {x y : Int} (h : MgAt a b w.heap.size w wz (.slice ao L cc) i k S) (hL : S.length = L) (hb : Below wz.heap.size wz u2)
    (o1 : w1.ownsRow w.heap.size 46 2 v1 (L + 1) (S.flatMap barC ++ [.int .i64 x, .int .u64 y])) (g1 : u2.grownBy w1 (Value.slice ao L cc).ownBlock)
    (he : (S ++ [(x, y)]) ++ mL (a.drop i') (b.drop k') = mL a b) (hl : i + k + 1 ≤ i' + k') : MgAt a b w.heap.size w w1 v1 i' k' (S ++ [(x, y)]) := by
  refine ⟨bar_app hL o1, he, ?_, by have := h.len; rw [List.length_append]; simp; omega⟩
  exact ((Upd.ofBelow (S := fun k => w.heap.size ≤ k) (h.below.trans (hb.mono h.below.size)) (fun _ _ h => h)).grown g1 (fun k _ e => (own_block h.own e).1)).below (Nat.le_refl _) (fun k hk h => by omega)
theorem bar_src_at {u : World} {g : Nat} {x y : Int} (h : u.heap[g]? = some (.cells #[.int .i64 x, .int .u64 y] 46 (0, 0))) : Src Try.prog 2 28 (.slice (some ⟨g, 0, none⟩) 1 1) 1 [.int .i64 x, .int .u64 y] u := by
  refine Src.ofSlice _ Try.underlying28 _ 1 1 _ rfl ?_ ?_
  · exact World.news_of_block (cs := #[.int .i64 x, .int .u64 y]) (t := 46) (fr := (0, 0)) h
  · intro u hu; simp at hu; rcases hu with rfl | rfl <;> rfl
theorem plusI {x y : Int} (hx : 0 ≤ x ∧ x ≤ 18446744073709551615) (hy : 0 ≤ y ∧ y ≤ 18446744073709551615) (W : World) : Calls Try.prog 36 #[.int .u64 x, .int .u64 y] W fun e w' => e = .returned (.int .u64 ((min (x.toNat + y.toNat) topC : Nat) : Int)) ∧ w' = W := by
  obtain ⟨p, rfl⟩ := Int.eq_ofNat_of_zero_le hx.1
  obtain ⟨q, rfl⟩ := Int.eq_ofNat_of_zero_le hy.1
  exact refPlus_any p q W (by omega) (by omega)
/-- An append to a row of one's own whose elements have several cells, at a step of a region that draws its order. -/
theorem step_appB {P : Program} (w : World) {ops : Array Oper} {o : Oper} {a : Act} {K : Act → World → Prop} {Q : Exit → Act → World → Prop} {E : Prop} (hgd : o.guard = none) (s x : Operand) (t tx : TypeId)
    (ho : o.op = .call { callee := .builtin .append, args := #[s, x], argTypes := #[t, tx] })
    (base : Nat) (e : TypeId) (i : TypeInfo) (z : Value) (size bytes : Nat) (ht : P.underlying t = some (.slice e)) (hi : P.info? e = some i) (hz : i.zero = some z) (hsize : i.size = size) (hby : i.bytes = bytes) (hzs : z.cells.size = size)
    (v : Value) (n : Nat) (xs : List Value) (hv : a.eval s = v) (hown : w.ownsRow base e size v n xs) (y : Value) (m : Nat) (news : List Value) (hx : a.eval x = y) (hs : Src P size tx y m news w)
    (h63 : n + m ≤ maxLen) (hbytes : (n + m + (n + m) / 4 + 192) * bytes ≤ 281474976710656) (hbase : base ≤ w.heap.size)
    (h : ∀ v' w', w'.ownsRow base e size v' (n + m) (xs ++ news) → w.grownBy w' v.ownBlock → Moved w v v' → K (a.put o.dst v') w') : if Region.wanted o (yielded ops a.tmps) = true then Oper.wp P o a w K Q else E := by
  subst hby
  have hw : Region.wanted o (yielded ops a.tmps) = true := by simp [Region.wanted, hgd]
  rw [if_pos hw]
  obtain ⟨v', w', hr, h2, h3, h4⟩ := run_appW (P := P) w base t tx o.type e i z size ht hi hz hsize hzs v n xs hown y m news hs h63 hbytes hbase
  unfold Oper.wp execOp
  simp only [ho, resolve, invoke, builtin, Sem.run_bind, Sem.run_pure, Result.andThen_ok, List.map_toArray, List.map_cons, List.map_nil, hv, hx, hr]
  exact h v' w' h2 h3 h4
set_option maxHeartbeats 2000000 in
theorem refMerge_ok (ad bd : Option Addr) (n m ca cb : Nat) (a b : List (Int × Int)) (w : World) (hA : InAt w ad n a) (hB : InAt w bd m b) (ha : chkF (-1) a = true) (hb : chkF (-1) b = true) :
    Calls Try.prog 22 #[.slice ad n ca, .slice bd m cb] w (MadeP (some (mergeF a b)) 0 w) := by
  obtain ⟨i0, hi, hz0, hz1, hz2⟩ := info_parts Try.info46
  have n1 : n ≤ 1920 := by have := chk_len (by omega) ha; have := hA.at_.len; omega
  have m1 : m ≤ 1920 := by have := chk_len (by omega) hb; have := hB.at_.len; omega
  have HLA : Hid (a.length = n) := hA.at_.len
  have HLB : Hid (b.length = m) := hB.at_.len
  have KA := refCheck_any ad n ca a w hA.at_ hA.len hA.bin
  have KB := fun q => refCheck_any bd m cb b (w.drewN q) (hB.at_.drewN q) hB.len hB.bin
  simp only [chkE_ok ha] at KA
  simp only [chkE_ok hb] at KB
  have HE : Hid (mL a b = barsF (mergeF a b)) := mL_eq ha hb hA.bin hB.bin
  have HA : Hid _ := hA
  have HB : Hid _ := hB
  clear hA hB ha hb
  go_enter Try.func22, Try.ntmps22
  go_wp2_with (first
    | (go_at_call 18; (with_reducible refine KA.mono ?_); clear KA; rintro e w' ⟨rfl, q1, rfl⟩)
    | (go_at_call 18; (with_reducible refine (KB q1).mono ?_); clear KB; rintro e w' ⟨rfl, q2, rfl⟩))
  go_loopw [6, 7, 8] (fun o ti tk wr => ∃ (i k : Nat) (S : List (Int × Int)), ti = .int .i64 i ∧ tk = .int .i64 k ∧ i ≤ n ∧ k ≤ m ∧ Hid (MgAt a b w.heap.size w wr o i k S)) (fun _ ti tk _ => n + m - (intOf ti).toNat - (intOf tk).toNat)
  case atStart => exact ⟨0, 0, [], rfl, rfl, by omega, by omega, ⟨World.ownsRow_nil _ _ _ _, rfl, ((Upd.refl (fun _ => False) w).drewN (q1 + q2)).below (Nat.le_refl _) (fun _ _ h => h), Nat.le_refl _⟩⟩
  case round =>
    obtain ⟨i, k, S, rfl, rfl, hin, hkm, HM⟩ := hrel
    obtain ⟨ao, L, cc, rfl⟩ := row_shape HM.out.own
    obtain ⟨hL, -, -⟩ := own_cap HM.out.own
    have HL : Hid (S.length = L) := hL.symm
    have hLb : L ≤ 3840 := by have := HM.out.len; omega
    clear hL
    by_cases hk : k < m
    · have t1 : ((k : Int) == (m : Int)) = false := by simp; omega
      by_cases hi' : i < n
      · have t2 : decide ((i : Int) < (n : Int)) = true := by simp; omega
        have t4 : ((i : Int) == (n : Int)) = false := by simp; omega
        obtain ⟨bb, off, rfl, hc⟩ := (HA.out.below HM.out.below).at_.lies (by omega)
        have hil : i < a.length := by rw [HLA.out]; exact hi'
        obtain ⟨cx0, cx1⟩ := hc i hil
        clear hc
        obtain ⟨bc, of2, rfl, hc⟩ := (HB.out.below HM.out.below).at_.lies (by omega)
        have hkl : k < b.length := by rw [HLB.out]; exact hk
        obtain ⟨cy0, cy1⟩ := hc k hkl
        clear hc
        have HX : Hid _ := (HA.out.bin a[i] (List.getElem_mem hil)).2.2
        have HY : Hid _ := (HB.out.bin b[k] (List.getElem_mem hkl)).2.2
        have SA : a[i].1 < b[k].1 → _ := fun h => mL_step_a hil HM.out.eq (Or.inr ⟨hkl, h⟩)
        have SB : b[k].1 < a[i].1 → _ := fun h => mL_step_b hkl HM.out.eq (Or.inr ⟨hil, h⟩)
        have SC : a[i].1 = b[k].1 → _ := fun h => mL_step_c hil hkl HM.out.eq h
        obtain ⟨x, hx⟩ : ∃ x, a[i] = x := ⟨_, rfl⟩
        rw [hx] at cx0 cx1 HX SA SB SC
        obtain ⟨x1, x2⟩ := x
        simp only at cx0 cx1 HX SA SB SC
        clear hx
        obtain ⟨y, hy⟩ : ∃ x, b[k] = x := ⟨_, rfl⟩
        rw [hy] at cy0 cy1 HY SA SB SC
        obtain ⟨y1, y2⟩ := y
        simp only at cy0 cy1 HY SA SB SC
        clear hy
        clear hil hkl
        by_cases h1 : x1 < y1
        · have t3 : decide (x1 < y1) = true := by simpa using h1
          have HS : Hid _ := SA h1
          clear SA SB SC HX HY
          go_wp2
          go_quiet (fail)
          obtain ⟨wz, hwz⟩ : ∃ W, wr.drewN nq = W := ⟨_, rfl⟩
          have HZ : Hid _ := HM.out.drewN nq
          rw [hwz] at HZ
          have dx0 : wz.cell? ⟨bb, off + i * 2, none⟩ = some (.int .i64 x1) := by rw [← hwz]; exact cx0
          have dx1 : wz.cell? ⟨bb, off + i * 2 + 1, none⟩ = some (.int .u64 x2) := by rw [← hwz]; exact cx1
          have dy0 : wz.cell? ⟨bc, of2 + k * 2, none⟩ = some (.int .i64 y1) := by rw [← hwz]; exact cy0
          have dy1 : wz.cell? ⟨bc, of2 + k * 2 + 1, none⟩ = some (.int .u64 y2) := by rw [← hwz]; exact cy1
          rw [hwz]
          clear hwz HM cx0 cx1 cy0 cy1
          have hsz := HZ.out.below.size
          have OW := bar_own HZ.out.own HL.out (.cells #[.int .i64 x1, .int .u64 x2] 46)
          have SR := bar_src wz x1 x2
          go_wp2_with (first | (at_builtin; refine wpList_appW _ rfl _ _ 28 28 rfl w.heap.size 46 i0 _ 2 16 Try.underlying28 hi hz0 hz1 hz2 rfl (.slice ao L cc) L _ rfl OW _ 1 _ rfl SR (by unfold maxLen; omega) (by omega) (by simp; omega) ?_; clear OW SR; intro v1 w1 o1 g1 m1))
          go_roundw
          case rel => exact ⟨i + 1, k, S ++ [(x1, x2)], by go_num, by go_num, by omega, by omega, HZ.out.step HL.out o1 g1 HS.out (by omega)⟩
          case measure => simp [intOf]; omega
        · have t3 : decide (x1 < y1) = false := by simpa using h1
          by_cases h2 : y1 < x1
          · have t5 : decide (y1 < x1) = true := by simpa using h2
            have HS : Hid _ := SB h2
            clear SA SB SC HX HY
            go_wp2
            go_quiet (fail)
            obtain ⟨wz, hwz⟩ : ∃ W, wr.drewN nq = W := ⟨_, rfl⟩
            have HZ : Hid _ := HM.out.drewN nq
            rw [hwz] at HZ
            have dx0 : wz.cell? ⟨bb, off + i * 2, none⟩ = some (.int .i64 x1) := by rw [← hwz]; exact cx0
            have dx1 : wz.cell? ⟨bb, off + i * 2 + 1, none⟩ = some (.int .u64 x2) := by rw [← hwz]; exact cx1
            have dy0 : wz.cell? ⟨bc, of2 + k * 2, none⟩ = some (.int .i64 y1) := by rw [← hwz]; exact cy0
            have dy1 : wz.cell? ⟨bc, of2 + k * 2 + 1, none⟩ = some (.int .u64 y2) := by rw [← hwz]; exact cy1
            rw [hwz]
            clear hwz HM cx0 cx1 cy0 cy1
            go_wp2
            go_quiet (fail)
            obtain ⟨wu, hwz⟩ : ∃ W, wz.drewN nq = W := ⟨_, rfl⟩
            have HU : Hid _ := HZ.out.drewN nq
            rw [hwz] at HU
            have ex0 : wu.cell? ⟨bb, off + i * 2, none⟩ = some (.int .i64 x1) := by rw [← hwz]; exact dx0
            have ex1 : wu.cell? ⟨bb, off + i * 2 + 1, none⟩ = some (.int .u64 x2) := by rw [← hwz]; exact dx1
            have ey0 : wu.cell? ⟨bc, of2 + k * 2, none⟩ = some (.int .i64 y1) := by rw [← hwz]; exact dy0
            have ey1 : wu.cell? ⟨bc, of2 + k * 2 + 1, none⟩ = some (.int .u64 y2) := by rw [← hwz]; exact dy1
            rw [hwz]
            clear hwz HZ dx0 dx1 dy0 dy1
            have hsz := HU.out.below.size
            have OW := bar_own HU.out.own HL.out (.cells #[.int .i64 y1, .int .u64 y2] 46)
            have SR := bar_src wu y1 y2
            go_wp2_with (first | (at_builtin; refine wpList_appW _ rfl _ _ 28 28 rfl w.heap.size 46 i0 _ 2 16 Try.underlying28 hi hz0 hz1 hz2 rfl (.slice ao L cc) L _ rfl OW _ 1 _ rfl SR (by unfold maxLen; omega) (by omega) (by simp; omega) ?_; clear OW SR; intro v1 w1 o1 g1 m1))
            go_roundw
            case rel => exact ⟨i, k + 1, S ++ [(y1, y2)], by go_num, by go_num, by omega, by omega, HU.out.step HL.out o1 g1 HS.out (by omega)⟩
            case measure => simp [intOf]; omega
          · have h3 : x1 = y1 := by omega
            subst h3
            have t5 : decide (x1 < x1) = false := by simp
            have HS : Hid _ := SC rfl
            clear SA SB SC h1 h2
            go_wp2
            go_quiet (fail)
            obtain ⟨wz, hwz⟩ : ∃ W, wr.drewN nq = W := ⟨_, rfl⟩
            have HZ : Hid _ := HM.out.drewN nq
            rw [hwz] at HZ
            have dx0 : wz.cell? ⟨bb, off + i * 2, none⟩ = some (.int .i64 x1) := by rw [← hwz]; exact cx0
            have dx1 : wz.cell? ⟨bb, off + i * 2 + 1, none⟩ = some (.int .u64 x2) := by rw [← hwz]; exact cx1
            have dy0 : wz.cell? ⟨bc, of2 + k * 2, none⟩ = some (.int .i64 x1) := by rw [← hwz]; exact cy0
            have dy1 : wz.cell? ⟨bc, of2 + k * 2 + 1, none⟩ = some (.int .u64 y2) := by rw [← hwz]; exact cy1
            rw [hwz]
            clear hwz HM cx0 cx1 cy0 cy1
            go_wp2
            go_quiet (fail)
            obtain ⟨wu, hwz⟩ : ∃ W, wz.drewN nq = W := ⟨_, rfl⟩
            have HU : Hid _ := HZ.out.drewN nq
            rw [hwz] at HU
            have ex0 : wu.cell? ⟨bb, off + i * 2, none⟩ = some (.int .i64 x1) := by rw [← hwz]; exact dx0
            have ex1 : wu.cell? ⟨bb, off + i * 2 + 1, none⟩ = some (.int .u64 x2) := by rw [← hwz]; exact dx1
            have ey0 : wu.cell? ⟨bc, of2 + k * 2, none⟩ = some (.int .i64 x1) := by rw [← hwz]; exact dy0
            have ey1 : wu.cell? ⟨bc, of2 + k * 2 + 1, none⟩ = some (.int .u64 y2) := by rw [← hwz]; exact dy1
            rw [hwz]
            clear hwz HZ dx0 dx1 dy0 dy1
            have PL : ∀ W, Calls Try.prog 36 #[.int .u64 x2, .int .u64 y2] W fun e w' => e = .returned (.int .u64 ((min (x2.toNat + y2.toNat) topC : Nat) : Int)) ∧ w' = W := plusI HX.out HY.out
            generalize ((min (x2.toNat + y2.toNat) topC : Nat) : Int) = z at PL HS
            clear HX HY
            have hsz := HU.out.below.size
            have HOK : Hid (∀ u, Below wu.heap.size wu u → u.ownsRow w.heap.size 46 2 (.slice ao L cc) L (S.flatMap barC)) := fun u h => by
              have := ownsRow_upd HU.out.own (Upd.ofBelow (S := fun _ => False) h (fun k hk hk' => by omega)) (fun _ _ h => h)
              rw [HL.out] at this
              exact this
            have HAD : Hid (∀ u2 u3 v1, Below wu.heap.size wu u2 → u3.ownsRow w.heap.size 46 2 v1 (L + 1) (S.flatMap barC ++ [.int .i64 x1, .int .u64 z]) → u2.grownBy u3 (Value.slice ao L cc).ownBlock → MgAt a b w.heap.size w u3 v1 (i + 1) (k + 1) (S ++ [(x1, z)])) := fun u2 u3 v1 hb o1 g1 => HU.out.stepB HL.out hb o1 g1 HS.out (by omega)
            go_wp2
            go_region_law (first
              | (go_simp; go_at_call 36; (with_reducible refine (PL _).mono ?_); rintro e w5 ⟨rfl, hw5⟩; obtain rfl := hw5.symm)
              | (refine step_appB _ (by rfl) _ _ 28 28 (by rfl) w.heap.size 46 i0 _ 2 16 Try.underlying28 hi hz0 hz1 hz2 rfl (.slice ao L cc) L (S.flatMap barC) (by rfl) (HOK.out _ (by repeat' first | exact Below.refl _ _ | refine Below.alloc ?_ (by first | omega | (simp; omega) | (simp; done)) _ | refine Below.drew ?_)) (.slice (some ⟨wu.heap.size, 0, none⟩) 1 1) 1 [.int .i64 x1, .int .u64 z] (by rfl) (bar_src_at (by first | exact heap_alloc_new _ _ | exact heap_alloc_new wu.drew _)) (by unfold maxLen; omega) (by omega) (by first | (simp; omega) | omega) ?_; intro v1 w1 o1 g1 m1; have HF : Hid _ := HAD.out _ _ _ (by repeat' first | exact Below.refl _ _ | refine Below.alloc ?_ (by first | omega | (simp; omega) | (simp; done)) _ | refine Below.drew ?_) o1 g1; obtain ⟨ao1, L1, c1', rfl⟩ := row_shape HF.out.own; clear o1 g1 m1 HOK HAD HU))
            all_goals
              go_wp2
              go_roundw
              case rel => exact ⟨i + 1, k + 1, S ++ [(x1, z)], by go_num, by go_num, by omega, by omega, HF⟩
              case measure => simp [intOf]; omega
      · have t2 : decide ((i : Int) < (n : Int)) = false := by simp; omega
        have hin2 : i = n := by omega
        have t4 : ((i : Int) == (n : Int)) = true := by simp; omega
        obtain ⟨bc, of2, rfl, hc⟩ := (HB.out.below HM.out.below).at_.lies (by omega)
        have hkl : k < b.length := by rw [HLB.out]; exact hk
        obtain ⟨cy0, cy1⟩ := hc k hkl
        clear hc
        have HS : Hid _ := mL_step_b hkl HM.out.eq (Or.inl (by rw [HLA.out]; omega))
        obtain ⟨y, hy⟩ : ∃ x, b[k] = x := ⟨_, rfl⟩
        rw [hy] at cy0 cy1 HS
        obtain ⟨y1, y2⟩ := y
        simp only at cy0 cy1 HS
        clear hy
        clear hkl
        go_wp2
        go_quiet (fail)
        obtain ⟨wz, hwz⟩ : ∃ W, wr.drewN nq = W := ⟨_, rfl⟩
        have HZ : Hid _ := HM.out.drewN nq
        rw [hwz] at HZ
        have dy0 : wz.cell? ⟨bc, of2 + k * 2, none⟩ = some (.int .i64 y1) := by rw [← hwz]; exact cy0
        have dy1 : wz.cell? ⟨bc, of2 + k * 2 + 1, none⟩ = some (.int .u64 y2) := by rw [← hwz]; exact cy1
        rw [hwz]
        clear hwz HM cy0 cy1
        go_wp2
        go_quiet (fail)
        obtain ⟨wu, hwz⟩ : ∃ W, wz.drewN nq = W := ⟨_, rfl⟩
        have HU : Hid _ := HZ.out.drewN nq
        rw [hwz] at HU
        have ey0 : wu.cell? ⟨bc, of2 + k * 2, none⟩ = some (.int .i64 y1) := by rw [← hwz]; exact dy0
        have ey1 : wu.cell? ⟨bc, of2 + k * 2 + 1, none⟩ = some (.int .u64 y2) := by rw [← hwz]; exact dy1
        rw [hwz]
        clear hwz HZ dy0 dy1
        have hsz := HU.out.below.size
        have OW := bar_own HU.out.own HL.out (.cells #[.int .i64 y1, .int .u64 y2] 46)
        have SR := bar_src wu y1 y2
        go_wp2_with (first | (at_builtin; refine wpList_appW _ rfl _ _ 28 28 rfl w.heap.size 46 i0 _ 2 16 Try.underlying28 hi hz0 hz1 hz2 rfl (.slice ao L cc) L _ rfl OW _ 1 _ rfl SR (by unfold maxLen; omega) (by omega) (by simp; omega) ?_; clear OW SR; intro v1 w1 o1 g1 m1))
        go_roundw
        case rel => exact ⟨i, k + 1, S ++ [(y1, y2)], by go_num, by go_num, by omega, by omega, HU.out.step HL.out o1 g1 HS.out (by omega)⟩
        case measure => simp [intOf]; omega
    · obtain rfl : k = m := by omega
      by_cases hi' : i < n
      · have t1 : ((k : Int) == (k : Int)) = true := by simp
        obtain ⟨bb, off, rfl, hc⟩ := (HA.out.below HM.out.below).at_.lies (by omega)
        have hil : i < a.length := by rw [HLA.out]; exact hi'
        obtain ⟨cx0, cx1⟩ := hc i hil
        clear hc
        have HS : Hid _ := mL_step_a hil HM.out.eq (Or.inl (by rw [HLB.out]; omega))
        obtain ⟨x, hx⟩ : ∃ x, a[i] = x := ⟨_, rfl⟩
        rw [hx] at cx0 cx1 HS
        obtain ⟨x1, x2⟩ := x
        simp only at cx0 cx1 HS
        clear hx
        clear hil hkm hk
        go_wp2
        go_quiet (fail)
        obtain ⟨wz, hwz⟩ : ∃ W, wr.drewN nq = W := ⟨_, rfl⟩
        have HZ : Hid _ := HM.out.drewN nq
        rw [hwz] at HZ
        have dx0 : wz.cell? ⟨bb, off + i * 2, none⟩ = some (.int .i64 x1) := by rw [← hwz]; exact cx0
        have dx1 : wz.cell? ⟨bb, off + i * 2 + 1, none⟩ = some (.int .u64 x2) := by rw [← hwz]; exact cx1
        rw [hwz]
        clear hwz HM cx0 cx1
        have hsz := HZ.out.below.size
        have OW := bar_own HZ.out.own HL.out (.cells #[.int .i64 x1, .int .u64 x2] 46)
        have SR := bar_src wz x1 x2
        go_wp2_with (first | (at_builtin; refine wpList_appW _ rfl _ _ 28 28 rfl w.heap.size 46 i0 _ 2 16 Try.underlying28 hi hz0 hz1 hz2 rfl (.slice ao L cc) L _ rfl OW _ 1 _ rfl SR (by unfold maxLen; omega) (by omega) (by simp; omega) ?_; clear OW SR; intro v1 w1 o1 g1 m1))
        go_roundw
        case rel => exact ⟨i + 1, k, S ++ [(x1, x2)], by go_num, by go_num, by omega, by omega, HZ.out.step HL.out o1 g1 HS.out (by omega)⟩
        case measure => simp [intOf]; omega
      · have HR : Hid (MadeP (some (mergeF a b)) 0 w (.returned (.tuple #[.slice ao L cc, .int .i64 0])) wr) := by
          have e := HM.out.eq
          rw [List.drop_eq_nil_of_le (by rw [HLA.out]; omega), mL_nil, List.drop_eq_nil_of_le (by rw [HLB.out]; omega), List.append_nil, HE.out] at e
          have o := HM.out.own
          rw [e] at o
          exact ⟨HM.out.below, _, rfl, o⟩
        clear HM
        go_wp2
        go_returns
        exact HR.out

end Go.Proofs.Ytmegmjhkjaejgaa.sk
