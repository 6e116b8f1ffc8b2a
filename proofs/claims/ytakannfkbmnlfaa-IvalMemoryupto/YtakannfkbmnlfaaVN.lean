/-
  The walk of IvalMemory (written by gen_vn.py).
-/
import Derived.Test.YtakannfkbmnlfaaVM
namespace Go.Proofs.Ytakannfkbmnlfaa
open Go.Shelf Go.RowKit Go.Lib
set_option maxRecDepth 100000

theorem Try.info22 : (Try.prog.info? 22).map (fun i => (i.zero, i.size, i.bytes)) = some (some (.slice none 0 0), 1, 24) := by kernel_rfl
theorem hideM {p : Prop} (h : p) : Hid p := h
theorem rowS_bel {base : Nat} {w w' : World} {v : Value} {n : Nat} {xs : List Value} (h : w.ownsRow base 22 1 v n xs) (hb : Below w.heap.size w w') : w'.ownsRow base 22 1 v n xs :=
  ownsRow_upd h (Upd.ofBelow (S := fun _ => False) hb (fun k hk hk' => by omega)) (fun _ _ h => h)
theorem below_upd {B : Nat} {w0 w w' : World} {S : Nat → Prop} (h : Below B w0 w) (hu : Upd S w w') (hB : B ≤ w.heap.size) (hS : ∀ k, S k → B ≤ k) : Below B w0 w' :=
  h.trans (hu.below hB (fun k hk e => by have := hS k e; omega))
/-- Lists are appended to a row of lists. -/
theorem wpList_appS {ops : Array Oper} {rest : List Oper} {o : Oper} {a : Act} {Q : Exit → Act → World → Prop} (w : World) (hgd : o.guard = none) (s x : Operand)
    (ho : o.op = .call { callee := .builtin .append, args := #[s, x], argTypes := #[31, 31] })
    (base : Nat) (v : Value) (n m : Nat) (vs us : List Value) (hm : us.length = m) (h1 : ∀ u ∈ us, u.oneCell' = true) (hv : a.eval s = v) (hown : w.ownsRow base 22 1 v n vs) (hx : a.eval x = .slice (some ⟨w.heap.size, 0, none⟩) m m) (hlen : n + m ≤ 1000) (hbase : base ≤ w.heap.size)
    (h : ∀ v' w', w'.ownsRow base 22 1 v' (n + m) (vs ++ us) → Upd (fun k => v.ownBlock = some k) w w' → Moved w v v' → wpList Try.prog ops Q rest (a.put o.dst v') w') : wpList Try.prog ops Q (o :: rest) a (w.alloc (.cells us.toArray 22)) := by
  obtain ⟨i0, hi0, hz0, hz1, hz2⟩ := info_parts Try.info22
  have u1 : Upd (fun _ => False) w (w.alloc (.cells us.toArray 22)) := (Upd.refl _ w).alloc _
  have ho1 := ownsRow_upd hown u1 (fun _ _ h => h)
  have hs : Src Try.prog 1 31 (.slice (some ⟨w.heap.size, 0, none⟩) m m) m us (w.alloc (.cells us.toArray 22)) := by
    refine Src.ofSlice _ Try.underlying31 ⟨w.heap.size, 0, none⟩ m m _ (by omega) ?_ h1
    intro j u hj
    rw [Addr.add_lit, Nat.zero_add]
    exact blk_cell (heap_alloc_new w (.cells us.toArray 22)) j (by rw [List.getElem?_toArray]; exact hj)
  refine wpList_app _ hgd s x 31 31 ho base 22 i0 _ 24 Try.underlying31 hi0 hz0 hz1 hz2 rfl v n vs hv ho1 _ m us hx hs (by unfold maxLen; omega) (by omega) (by rw [World.size_alloc]; omega) ?_
  intro v' w' o8 g8 m8
  refine h v' w' o8 ((u1.mono (fun _ _ e => e.elim)).grown g8 (fun k _ e => e)) ?_
  rcases m8 with e | ⟨k, e, hk⟩
  · exact Or.inl e
  · exact Or.inr ⟨k, e, by rw [World.size_alloc] at hk; omega⟩
theorem LsAt.rows {base b' : Nat} {w w' : World} {vs : List Value} {Xs : List (List (Int × Int))} {lv : Value} {n : Nat} {us : List Value} (h : LsAt base w vs Xs) (ho : w.ownsRow b' 22 1 lv n us) (hu : Upd (fun k => lv.ownBlock = some k) w w') : LsAt base w' vs Xs := by
  refine ⟨h.len, fun i v X h1 h2 => ownsRow_upd (h.own i v X h1 h2) hu (fun k hk e => ?_), h.apart⟩
  obtain ⟨_, cs, fz, hx⟩ := own_block (h.own i v X h1 h2) hk
  obtain ⟨_, cs', fz', hy⟩ := own_block ho e
  exact ne_of_types hx hy (by decide) rfl
theorem one5 (a1 a2 a3 a4 a5 : Option Addr) (l1 l2 l3 l4 l5 c1 c2 c3 c4 c5 : Nat) : ∀ u ∈ ([.slice a1 l1 c1, .slice a2 l2 c2, .slice a3 l3 c3, .slice a4 l4 c4, .slice a5 l5 c5] : List Value), u.oneCell' = true := by
  intro u hu
  simp at hu
  rcases hu with rfl | rfl | rfl | rfl | rfl <;> rfl
theorem fam_rows {base b' : Nat} {w w' : World} {fam : Nat → Value → Prop} {lv : Value} {n : Nat} {us : List Value} (h : FamI base w fam) (ho : w.ownsRow b' 22 1 lv n us) (hu : Upd (fun k => lv.ownBlock = some k) w w') : FamI base w' fam :=
  h.upd hu (fun i u k hf hk e => by
    obtain ⟨n', h1⟩ := h.full i u hf
    obtain ⟨_, cs, fz, hx⟩ := own_block h1 hk
    obtain ⟨_, cs', fz', hy⟩ := own_block ho e
    exact ne_of_types hx hy (by decide) rfl)
theorem WantI.rows {base b' : Nat} {w w' : World} {vs : List Value} {Xs : List (List (Int × Int))} {lv : Value} {n : Nat} {us : List Value} (h : WantI base w vs Xs) (ho : w.ownsRow b' 22 1 lv n us) (hu : Upd (fun k => lv.ownBlock = some k) w w') : WantI base w' vs Xs :=
  h.upd hu (fun j v X hj hv hX k hk e => by
    obtain ⟨_, cs, fz, hx⟩ := own_block (h j v X hj hv hX) hk
    obtain ⟨_, cs', fz', hy⟩ := own_block ho e
    exact ne_of_types hx hy (by decide) rfl)
theorem row_ivs {b' base : Nat} {w w' : World} {lv v : Value} {n k : Nat} {us xs : List Value} (h : w.ownsRow b' 22 1 lv n us) (ho : w.ownsRow base 35 2 v k xs) (hu : Upd (fun k => v.ownBlock = some k) w w') : w'.ownsRow b' 22 1 lv n us :=
  ownsRow_upd h hu (fun j hj e => by
    obtain ⟨_, cs, fz, hx⟩ := own_block h hj
    obtain ⟨_, cs', fz', hy⟩ := own_block ho e
    exact ne_of_types hx hy (by decide) rfl)
/-- While the lists are grown: what is kept. -/
structure GrI (w : World) (gl gw : Nat) (ts gs : List Value) (Xs : List (List (Int × Int))) (b4 : Nat) (a : Value) (i : Nat) (wr : World) : Prop where
  row : wr.ownsRow b4 22 1 a i gs
  len : gs.length = i
  fam : FamI w.heap.size wr (famG ts gs)
  ms : MsI w gl gw ts wr
  want : WantI w.heap.size wr ts Xs
  few : ∀ (j : Nat) v, gs[j]? = some v → ∃ (ao : Option Addr) (l c : Nat), v = Value.slice ao l c ∧ l ≤ 8388628
/-- Behind a call of grown, ahead of the append. -/
structure GrM (w : World) (gl gw : Nat) (ts gs : List Value) (Xs : List (List (Int × Int))) (b4 : Nat) (a : Value) (i : Nat) (v : Value) (wr : World) : Prop where
  row : wr.ownsRow b4 22 1 a i gs
  fam : FamI w.heap.size wr (plus i v (famG ts gs))
  ms : MsI w gl gw ts wr
  want : WantI w.heap.size wr ts Xs
theorem GrI.mid {w : World} {gl gw : Nat} {ts gs : List Value} {Xs Ys : List (List (Int × Int))} {b4 : Nat} {a : Value} {i : Nat} {wr w5 w2 : World} {u v : Value} (h : GrI w gl gw ts gs Xs b4 a i wr) (hl : LsAt w.heap.size w2 ts Ys) (hi : i < 10) (hu : ts[i]? = some u) (hf : FamI w.heap.size w5 (plus i v (famG ts gs))) (hd : Upd (fun k => u.ownBlock = some k) wr w5) : GrM w gl gw ts gs Xs b4 a i v w5 := by
  obtain ⟨n, hn⟩ := h.fam.full i u (Or.inl ⟨hi, hu⟩)
  refine ⟨row_ivs h.row hn hd, hf, h.ms.ivs hn hd, h.want.upd hd (fun j v' X hj hv hX k hk e => ?_)⟩
  exact hl.ne hu hv (by omega) k e hk
theorem GrM.done {w : World} {gl gw : Nat} {ts gs : List Value} {Xs : List (List (Int × Int))} {b4 : Nat} {a a' : Value} {i : Nat} {w5 w8 : World} {ao : Option Addr} {l c : Nat} (h : GrM w gl gw ts gs Xs b4 a i (.slice ao l c) w5) (hlen : gs.length = i) (hfew : ∀ (j : Nat) v, gs[j]? = some v → ∃ (ao : Option Addr) (l c : Nat), v = Value.slice ao l c ∧ l ≤ 8388628) (hl : l ≤ 8388628) (hg : gl < b4 ∧ gw < b4) (hb : w.heap.size ≤ b4) (hr : w8.ownsRow b4 22 1 a' (i + 1) (gs ++ [.slice ao l c])) (hd : Upd (fun k => a.ownBlock = some k) w5 w8) : GrI w gl gw ts (gs ++ [.slice ao l c]) Xs b4 a' (i + 1) w8 := by
  refine ⟨hr, by simp [hlen], (fam_rows h.fam h.row hd).less (famG_push hlen), h.ms.upd hd (fun e => ?_) (fun e => ?_) (fun k e => ?_), h.want.rows h.row hd, fun j v hv => ?_⟩
  · have := (own_block h.row e).1; omega
  · have := (own_block h.row e).1; omega
  · have := (own_block h.row e).1; omega
  · rcases Nat.lt_trichotomy j gs.length with h1 | h1 | h1
    · rw [List.getElem?_append_left h1] at hv
      exact hfew j v hv
    · subst h1
      rw [List.getElem?_append_right (Nat.le_refl _), Nat.sub_self] at hv
      simp at hv
      subst hv
      exact ⟨ao, l, c, rfl, hl⟩
    · rw [List.getElem?_eq_none (by simp; omega)] at hv
      simp at hv
/-- The ten lists, and the five. -/
theorem ms_start {w w5 : World} {gl cap : Nat} {vs us : List Value} (hr : w5.ownsRow w.heap.size 22 1 (.slice (some ⟨gl, 0, none⟩) 10 cap) 10 vs) (hb : Below w.heap.size w w5) : MsI w gl w5.heap.size (vs ++ us) (w5.alloc (.cells us.toArray 22)) := by
  have hvl : vs.length = 10 := by have := hr.1; omega
  have hbn : Below w5.heap.size w5 (w5.alloc (.cells us.toArray 22)) := (Below.refl _ _).alloc (Nat.le_refl _) _
  have hr' := rowS_bel hr hbn
  obtain ⟨g, cap', e, _, _, _, hx⟩ := own_some hr' (by omega)
  simp at e
  obtain ⟨rfl, -⟩ := e
  refine ⟨fun i v hi hv => hx i v ?_, fun j v hj hv => blk_cell (heap_alloc_new w5 _) j ?_, ?_, ⟨_, _, heap_alloc_new w5 _⟩, hb.trans (hbn.mono hb.size)⟩
  · rw [List.getElem?_append_left (by omega)] at hv
    exact hv
  · rw [List.getElem?_append_right (by omega), hvl, Nat.add_sub_cancel_left] at hv
    rw [List.getElem?_toArray]
    exact hv
  · obtain ⟨_, cs, fz, h⟩ := own_block hr' (k := gl) rfl
    exact ⟨cs, fz, h⟩

set_option maxHeartbeats 32000000 in
theorem memory_walk (ad bd : Option Addr) (n m ca cb : Nat) (A B : List (Int × Int)) (w : World) (hA : IvAt w ad n A) (hB : IvAt w bd m B) (hn : n ≤ 1048576) (hm : m ≤ 1048576) (iA : ∀ i ∈ A, In64 i) (iB : ∀ i ∈ B, In64 i) :
    Calls Try.prog 4 #[.slice ad n ca, .slice bd m cb] w fun e w' => e = .returned (.bool true) ∧ Below w.heap.size w w' := by
  obtain ⟨CA, fA, mA, lA⟩ := norm_exists (fun x _ => x) rfl A B
  obtain ⟨CM, fM, mM, lM⟩ := norm_exists (fun x y => x && y) rfl A B
  obtain ⟨CX, fX, mX, lX⟩ := norm_exists (fun x y => x && !y) rfl A B
  obtain ⟨CB, fB, mB, lB⟩ := norm_exists (fun _ y => y) rfl A B
  obtain ⟨CY, fY, mY, lY⟩ := norm_exists (fun x y => y && !x) rfl A B
  have HPA : Hid (∀ W, Below w.heap.size w W → Calls Try.prog 8 #[.slice ad n ca] W (NewP CA W)) := fun W h => tells_new (normal_any ad n ca A W (hA.below h) (by omega) iA) ⟨fA, mA⟩
  have HRA : Hid (∀ W, Below w.heap.size w W → Calls Try.prog 9 #[.slice ad n ca] W (NewP CA W)) := fun W h => tells_new (refNormal_any ad n ca A W (hA.below h) (by omega) iA) ⟨fA, mA⟩
  have HPM : Hid (∀ W, Below w.heap.size w W → Calls Try.prog 12 #[.slice ad n ca, .slice bd m cb] W (NewP CM W)) := fun W h => tells_new (meet_any ad bd n m ca cb A B W (hA.below h) (hB.below h) (by omega) iA iB) ⟨fM, mM⟩
  have HRM : Hid (∀ W, Below w.heap.size w W → Calls Try.prog 13 #[.slice ad n ca, .slice bd m cb] W (NewP CM W)) := fun W h => tells_new (refMeet_any ad bd n m ca cb A B W (hA.below h) (hB.below h) (by omega) iA iB) ⟨fM, mM⟩
  have HPX : Hid (∀ W, Below w.heap.size w W → Calls Try.prog 14 #[.slice ad n ca, .slice bd m cb] W (NewP CX W)) := fun W h => tells_new (minus_any ad bd n m ca cb A B W (hA.below h) (hB.below h) (by omega) iA iB) ⟨fX, mX⟩
  have HRX : Hid (∀ W, Below w.heap.size w W → Calls Try.prog 15 #[.slice ad n ca, .slice bd m cb] W (NewP CX W)) := fun W h => tells_new (refMinus_any ad bd n m ca cb A B W (hA.below h) (hB.below h) (by omega) iA iB) ⟨fX, mX⟩
  have HPB : Hid (∀ W, Below w.heap.size w W → Calls Try.prog 8 #[.slice bd m cb] W (NewP CB W)) := fun W h => tells_new (normal_any bd m cb B W (hB.below h) (by omega) iB) ⟨fB, mB⟩
  have HRB : Hid (∀ W, Below w.heap.size w W → Calls Try.prog 9 #[.slice bd m cb] W (NewP CB W)) := fun W h => tells_new (refNormal_any bd m cb B W (hB.below h) (by omega) iB) ⟨fB, mB⟩
  have HPY : Hid (∀ W, Below w.heap.size w W → Calls Try.prog 14 #[.slice bd m cb, .slice ad n ca] W (NewP CY W)) := fun W h => tells_new (minus_any bd ad m n cb ca B A W (hB.below h) (hA.below h) (by omega) iB iA) ⟨fY, mY⟩
  have HRY : Hid (∀ W, Below w.heap.size w W → Calls Try.prog 15 #[.slice bd m cb, .slice ad n ca] W (NewP CY W)) := fun W h => tells_new (refMinus_any bd ad m n cb ca B A W (hB.below h) (hA.below h) (by omega) iB iA) ⟨fY, mY⟩
  have HFEW : Hid (∀ X ∈ ([CA, CM, CX, CB, CY] ++ [CA, CM, CX, CB, CY] ++ [CA, CM, CX, CB, CY] : List (List (Int × Int))), X.length ≤ 8388608) := fun X hX => by
    have h1 := hA.len
    have h2 := hB.len
    simp at hX
    rcases hX with rfl | rfl | rfl | rfl | rfl | rfl | rfl | rfl | rfl | rfl | rfl | rfl | rfl | rfl | rfl <;> omega
  clear hA hB iA iB fA fM fX fB fY mA mM mX mB mY lA lM lX lB lY
  have D0 := alive_any w
  go_enter Try.func4, Try.ntmps4
  go_wp2_with (go_at_call 5; (with_reducible refine D0.mono ?_); clear D0; rintro e w1 ⟨rfl, b1⟩; have HB1 : Hid (Below w.heap.size w w1) := b1; clear b1)
  go_loopw [6, 7] (fun a b wr => ∃ (r : Nat) (vs : List Value), b = .int .i64 r ∧ r ≤ 2 ∧ Hid (wr.ownsRow w.heap.size 22 1 a (5 * r) vs) ∧ Hid (LsAt w.heap.size wr vs (List.replicate r [CA, CM, CX, CB, CY]).flatten) ∧ Hid (Below w.heap.size w wr)) (fun _ b _ => 2 - (intOf b).toNat)
  case atStart => exact ⟨0, [], rfl, by omega, World.ownsRow_nil _ _ _ _, LsAt.nil _ _, HB1⟩
  case round =>
    obtain ⟨r, vs, rfl, hr2, HR, HL, HW⟩ := hrel
    obtain ⟨ra, rl, rc, hsh⟩ := row_shape HR.out
    subst hsh
    by_cases hlt : r < 2
    · have hlt' : (r : Int) < 2 := by omega
      have D1 := HPA.out wr HW.out
      go_wp2_with (first
        | (go_at_call 8; (with_reducible refine D1.mono ?_); clear D1; rintro e wp1 ⟨ap1, lp1, cp1, rfl, op1, bp1⟩; have Wp1 : Hid (Below w.heap.size w wp1) := HW.out.trans (bp1.mono HW.out.size); have Tp1 := hideM (LsAt.push HL.out bp1 op1.out HW.out.size); have Qp1 := hideM (rowS_bel HR.out bp1); clear op1 bp1; have D2 := HPM.out wp1 Wp1.out)
        | (go_at_call 12; (with_reducible refine D2.mono ?_); clear D2; rintro e wp2 ⟨ap2, lp2, cp2, rfl, op2, bp2⟩; have Wp2 : Hid (Below w.heap.size w wp2) := Wp1.out.trans (bp2.mono Wp1.out.size); have Tp2 := hideM (LsAt.push Tp1.out bp2 op2.out Wp1.out.size); have Qp2 := hideM (rowS_bel Qp1.out bp2); clear op2 bp2; clear Wp1 Tp1 Qp1; have D3 := HPX.out wp2 Wp2.out)
        | (go_at_call 14; (with_reducible refine D3.mono ?_); clear D3; rintro e wp3 ⟨ap3, lp3, cp3, rfl, op3, bp3⟩; have Wp3 : Hid (Below w.heap.size w wp3) := Wp2.out.trans (bp3.mono Wp2.out.size); have Tp3 := hideM (LsAt.push Tp2.out bp3 op3.out Wp2.out.size); have Qp3 := hideM (rowS_bel Qp2.out bp3); clear op3 bp3; clear Wp2 Tp2 Qp2; have D4 := HPB.out wp3 Wp3.out)
        | (go_at_call 8; (with_reducible refine D4.mono ?_); clear D4; rintro e wp4 ⟨ap4, lp4, cp4, rfl, op4, bp4⟩; have Wp4 : Hid (Below w.heap.size w wp4) := Wp3.out.trans (bp4.mono Wp3.out.size); have Tp4 := hideM (LsAt.push Tp3.out bp4 op4.out Wp3.out.size); have Qp4 := hideM (rowS_bel Qp3.out bp4); clear op4 bp4; clear Wp3 Tp3 Qp3; have D5 := HPY.out wp4 Wp4.out)
        | (go_at_call 14; (with_reducible refine D5.mono ?_); clear D5; rintro e wp5 ⟨ap5, lp5, cp5, rfl, op5, bp5⟩; have Wp5 : Hid (Below w.heap.size w wp5) := Wp4.out.trans (bp5.mono Wp4.out.size); have Tp5 := hideM (LsAt.push Tp4.out bp5 op5.out Wp4.out.size); have Qp5 := hideM (rowS_bel Qp4.out bp5); clear op5 bp5; clear Wp4 Tp4 Qp4; skip)
        | (at_builtin; refine wpList_appS wp5 rfl _ _ rfl w.heap.size (.slice ra rl rc) (5 * r) 5 vs [.slice ap1 lp1 cp1, .slice ap2 lp2 cp2, .slice ap3 lp3 cp3, .slice ap4 lp4 cp4, .slice ap5 lp5 cp5] rfl (one5 _ _ _ _ _ _ _ _ _ _ _ _ _ _ _) rfl Qp5.out rfl (by omega) Wp5.out.size ?_; intro v8 w8 o8 u8 m8; obtain ⟨a8, l8, c8, rfl⟩ := row_shape o8; have HR8 := hideM o8; have HL8 := hideM (LsAt.rows Tp5.out Qp5.out u8); have HW8 : Hid (Below w.heap.size w w8) := below_upd Wp5.out u8 Wp5.out.size (fun k e => (own_block Qp5.out e).1); clear o8 u8 m8))
      go_roundw
      case rel =>
        refine ⟨r + 1, vs ++ [.slice ap1 lp1 cp1, .slice ap2 lp2 cp2, .slice ap3 lp3 cp3, .slice ap4 lp4 cp4, .slice ap5 lp5 cp5], by go_num, by omega, (by rw [show 5 * (r + 1) = 5 * r + 5 by omega]; exact HR8.out), ?_, HW8⟩
        show LsAt _ _ _ _
        have h := HL8.out
        simp only [List.append_assoc, List.cons_append, List.nil_append] at h
        rw [List.replicate_succ', List.flatten_append]
        simpa using h
      case measure => simp [intOf]; omega
    · obtain ⟨hlt', HT⟩ : (¬ (r : Int) < 2) ∧ Hid (r = 2) := ⟨by omega, by show _ = _; omega⟩
      have HR := HR.out
      have HL := HL.out
      rw [HT.out] at HR HL
      obtain ⟨gl, rcap, ev, _, _, _, _⟩ := own_some HR (by omega)
      simp only [Value.slice.injEq] at ev
      obtain ⟨rfl, rfl, rfl⟩ := ev
      have HR : Hid (wr.ownsRow w.heap.size 22 1 (.slice (some ⟨gl, 0, none⟩) 10 rc) 10 vs) := HR
      have HL : Hid (LsAt w.heap.size wr vs [CA, CM, CX, CB, CY, CA, CM, CX, CB, CY]) := HL
      have D1 := HRA.out wr HW.out
      go_wp2_with (first
        | (go_at_call 9; (with_reducible refine D1.mono ?_); clear D1; rintro e wq1 ⟨aq1, lq1, cq1, rfl, oq1, bq1⟩; have Wq1 : Hid (Below w.heap.size w wq1) := HW.out.trans (bq1.mono HW.out.size); have Tq1 := hideM (LsAt.push HL.out bq1 oq1.out HW.out.size); have Qq1 := hideM (rowS_bel HR.out bq1); clear oq1 bq1; have D2 := HRM.out wq1 Wq1.out)
        | (go_at_call 13; (with_reducible refine D2.mono ?_); clear D2; rintro e wq2 ⟨aq2, lq2, cq2, rfl, oq2, bq2⟩; have Wq2 : Hid (Below w.heap.size w wq2) := Wq1.out.trans (bq2.mono Wq1.out.size); have Tq2 := hideM (LsAt.push Tq1.out bq2 oq2.out Wq1.out.size); have Qq2 := hideM (rowS_bel Qq1.out bq2); clear oq2 bq2; clear Wq1 Tq1 Qq1; have D3 := HRX.out wq2 Wq2.out)
        | (go_at_call 15; (with_reducible refine D3.mono ?_); clear D3; rintro e wq3 ⟨aq3, lq3, cq3, rfl, oq3, bq3⟩; have Wq3 : Hid (Below w.heap.size w wq3) := Wq2.out.trans (bq3.mono Wq2.out.size); have Tq3 := hideM (LsAt.push Tq2.out bq3 oq3.out Wq2.out.size); have Qq3 := hideM (rowS_bel Qq2.out bq3); clear oq3 bq3; clear Wq2 Tq2 Qq2; have D4 := HRB.out wq3 Wq3.out)
        | (go_at_call 9; (with_reducible refine D4.mono ?_); clear D4; rintro e wq4 ⟨aq4, lq4, cq4, rfl, oq4, bq4⟩; have Wq4 : Hid (Below w.heap.size w wq4) := Wq3.out.trans (bq4.mono Wq3.out.size); have Tq4 := hideM (LsAt.push Tq3.out bq4 oq4.out Wq3.out.size); have Qq4 := hideM (rowS_bel Qq3.out bq4); clear oq4 bq4; clear Wq3 Tq3 Qq3; have D5 := HRY.out wq4 Wq4.out)
        | (go_at_call 15; (with_reducible refine D5.mono ?_); clear D5; rintro e wq5 ⟨aq5, lq5, cq5, rfl, oq5, bq5⟩; have Wq5 : Hid (Below w.heap.size w wq5) := Wq4.out.trans (bq5.mono Wq4.out.size); have Tq5 := hideM (LsAt.push Tq4.out bq5 oq5.out Wq4.out.size); have Qq5 := hideM (rowS_bel Qq4.out bq5); clear oq5 bq5; clear Wq4 Tq4 Qq4; skip))
      have MS := ms_start (us := [.slice aq1 lq1 cq1, .slice aq2 lq2 cq2, .slice aq3 lq3 cq3, .slice aq4 lq4 cq4, .slice aq5 lq5 cq5]) Qq5.out Wq5.out
      obtain ⟨w2, hw2⟩ : ∃ V, wq5.alloc (.cells #[.slice aq1 lq1 cq1, .slice aq2 lq2 cq2, .slice aq3 lq3 cq3, .slice aq4 lq4 cq4, .slice aq5 lq5 cq5] 22) = V := ⟨_, rfl⟩
      have HZ : Hid (gl < w2.heap.size ∧ wq5.heap.size < w2.heap.size) := by
        obtain ⟨cs, fz, h1⟩ := MS.tl
        obtain ⟨cs2, fz2, h2⟩ := MS.tw
        rw [← hw2]
        exact ⟨lt_of_block h1, lt_of_block h2⟩
      have HMS : Hid (MsI w gl wq5.heap.size (vs ++ [.slice aq1 lq1 cq1, .slice aq2 lq2 cq2, .slice aq3 lq3 cq3, .slice aq4 lq4 cq4, .slice aq5 lq5 cq5]) w2) := by rw [← hw2]; exact MS
      have LS : LsAt w.heap.size w2 (vs ++ [.slice aq1 lq1 cq1, .slice aq2 lq2 cq2, .slice aq3 lq3 cq3, .slice aq4 lq4 cq4, .slice aq5 lq5 cq5]) ([CA, CM, CX, CB, CY] ++ [CA, CM, CX, CB, CY] ++ [CA, CM, CX, CB, CY]) := by
        have h := Tq5.out.below ((Below.refl _ _).alloc (Nat.le_refl _) (.cells #[.slice aq1 lq1 cq1, .slice aq2 lq2 cq2, .slice aq3 lq3 cq3, .slice aq4 lq4 cq4, .slice aq5 lq5 cq5] 22))
        rw [hw2] at h
        simp only [List.append_assoc, List.cons_append, List.nil_append] at h ⊢
        exact h
      obtain ⟨gw, hgw⟩ : ∃ g, wq5.heap.size = g := ⟨_, rfl⟩
      rw [hw2]
      rw [hgw] at HMS HZ ⊢
      generalize vs ++ [.slice aq1 lq1 cq1, .slice aq2 lq2 cq2, .slice aq3 lq3 cq3, .slice aq4 lq4 cq4, .slice aq5 lq5 cq5] = ts at HMS LS
      have HLS : Hid (LsAt w.heap.size w2 ts ([CA, CM, CX, CB, CY] ++ [CA, CM, CX, CB, CY] ++ [CA, CM, CX, CB, CY])) := LS
      have HFW : Hid (FewI ts) := LS.few HFEW.out
      have HTL : Hid (ts.length = 15) := LS.len
      clear hw2 hgw MS LS Qq5 Tq5 Wq5 HR HL HT HB1 HW hlt hlt' hr2
      go_loopw [9] (fun a wr => ∃ (i : Nat), a = .int .i64 i ∧ i ≤ 10 ∧ Hid (Below w2.heap.size w2 wr)) (fun a _ => 10 - (intOf a).toNat)
      case atStart => exact ⟨0, rfl, by omega, Below.refl _ _⟩
      case round =>
        obtain ⟨i, rfl, hi10, HW⟩ := hrel
        by_cases hlt : i < 10
        · have hlt' : (i : Int) < 10 := by omega
          obtain ⟨q, hq⟩ : ∃ q, q = i % 5 := ⟨_, rfl⟩
          have hq5 : q < 5 := by omega
          have hq5' : (q : Int) < 5 := by omega
          have hit : i < ts.length := by rw [HTL.out]; omega
          have hjt : 10 + q < ts.length := by rw [HTL.out]; omega
          obtain ⟨a1, l1, c1, e1, hl1⟩ := HFW.out i ts[i] (List.getElem?_eq_getElem hit)
          obtain ⟨a2, l2, c2, e2, hl2⟩ := HFW.out (10 + q) ts[10 + q] (List.getElem?_eq_getElem hjt)
          have k1 := (HMS.out.below HW.out).rl i ts[i] hlt (List.getElem?_eq_getElem hit)
          have k2 := (HMS.out.below HW.out).rw_ q ts[10 + q] hq5 (List.getElem?_eq_getElem hjt)
          have HX := fif_eq CA CM CX CB CY i hlt
          rw [← hq] at HX
          obtain ⟨X, hX⟩ : ∃ X, (([CA, CM, CX, CB, CY] ++ [CA, CM, CX, CB, CY] ++ [CA, CM, CX, CB, CY]) : List (List (Int × Int)))[i]? = some X := ⟨_, List.getElem?_eq_getElem (by have := HLS.out.len; omega)⟩
          have o1 := (HLS.out.below HW.out).own i ts[i] X (List.getElem?_eq_getElem hit) hX
          have o2 := (HLS.out.below HW.out).own (10 + q) ts[10 + q] X (List.getElem?_eq_getElem hjt) (by rw [← HX]; exact hX)
          rw [e1] at k1 o1
          rw [e2] at k2 o2
          have hr1 : (i : Int).tmod 5 = (q : Int) := by rw [Int.tmod_eq_emod_of_nonneg (by omega)]; omega
          have hr2 : IntKind.i64.wrap ((i : Int).tmod 5) = (q : Int) := by rw [hr1, IntKind.wrap_i64]; omega
          have SA : ∀ W, Below wr.heap.size wr W → Calls Try.prog 7 #[.slice a1 l1 c1, .slice a2 l2 c2] W fun e w' => e = .returned (.bool true) ∧ Below W.heap.size W w' := fun W hb => by
            have h := same_any a1 a2 l1 l2 c1 c2 X X W (ownI_bel o1 hb).at (ownI_bel o2 hb).at (by omega)
            rw [decide_eq_true rfl] at h
            exact h
          have KC : ∀ W, Below wr.heap.size wr W → W.cell? ⟨gl, i, none⟩ = some (.slice a1 l1 c1) ∧ W.cell? ⟨gw, q, none⟩ = some (.slice a2 l2 c2) := fun W hb => ⟨below_cell hb k1, below_cell hb k2⟩
          have B0 : Below wr.heap.size wr wr.drew := (Below.refl _ _).drew
          clear HX hX e1 e2 hq
          go_wp2
          go_region_held3 (fun W => W.cell? ⟨gl, i, none⟩ = some (.slice a1 l1 c1) ∧ W.cell? ⟨gw, q, none⟩ = some (.slice a2 l2 c2)) (exact KC _ (by assumption)) (first | (go_at_call 7; (with_reducible refine (SA _ B0).mono ?_); clear SA; rintro e w3 ⟨rfl, b3⟩; have B3 : Below wr.heap.size wr w3 := B0.trans b3; clear b3))
          have HW3 : Hid (Below w2.heap.size w2 w3) := HW.out.trans (B3.mono HW.out.size)
          clear B3 B0 KC k1 k2 o1 o2
          go_wp2
          go_roundw
          case rel => exact ⟨i + 1, by go_num, by omega, HW3⟩
          case measure => simp [intOf]; omega
        · obtain ⟨hlt', HI⟩ : (¬ (i : Int) < 10) ∧ Hid (i = 10) := ⟨by omega, by show _ = _; omega⟩
          have HMS := hideM (HMS.out.below HW.out)
          have HLS := hideM (HLS.out.below HW.out)
          have HZ : Hid (gl < wr.heap.size ∧ gw < wr.heap.size) := ⟨Nat.lt_of_lt_of_le HZ.out.1 HW.out.size, Nat.lt_of_lt_of_le HZ.out.2 HW.out.size⟩
          clear HW HI hi10 hlt
          go_wp2
          obtain ⟨w3, hw3⟩ : ∃ V, wr = V := ⟨_, rfl⟩
          rw [hw3] at HMS HLS HZ ⊢
          clear hw3 hlt'
          go_loopw [10] (fun a wr => ∃ (i : Nat), a = .int .i64 i ∧ i ≤ 10 ∧ Hid (MsI w gl gw ts wr) ∧ Hid (PhB w.heap.size wr ts ([CA, CM, CX, CB, CY] ++ [CA, CM, CX, CB, CY] ++ [CA, CM, CX, CB, CY]) i) ∧ Hid (w3.heap.size ≤ wr.heap.size)) (fun a _ => 10 - (intOf a).toNat)
          case atStart => exact ⟨0, rfl, by omega, HMS, HLS.out.phB, Nat.le_refl _⟩
          case round =>
            obtain ⟨i, rfl, hi10, HM, HPB, HZ3⟩ := hrel
            by_cases hlt : i < 10
            · have hlt' : (i : Int) < 10 := by omega
              have hit : i < ts.length := by rw [HTL.out]; omega
              have HTI : Hid (ts[i]? = some ts[i]) := List.getElem?_eq_getElem hit
              obtain ⟨a1, l1, c1, e1, hl1⟩ := HFW.out i ts[i] HTI.out
              have k1 := HM.out.rl i ts[i] hlt HTI.out
              obtain ⟨X, ho⟩ : ∃ X, OwnI w.heap.size wr ts[i] X := by
                rcases HPB.out i ts[i] HTI.out with ⟨h1, _⟩ | ⟨_, X, _, h3⟩
                · omega
                · exact ⟨X, h3⟩
              rw [e1] at k1 ho HTI
              obtain ⟨mI, hmI⟩ : ∃ m : Int, m = (i : Int) + 1 := ⟨_, rfl⟩
              have hwm : IntKind.i64.wrap ((i : Int) + 1) = mI := by rw [IntKind.wrap_i64]; omega
              have hneg : IntKind.i64.wrap (-mI) = -mI := by rw [IntKind.wrap_i64]; omega
              have MK := marked_any w.heap.size a1 l1 c1 X mI wr ho hneg (by omega)
              have HO : Hid (OwnI w.heap.size wr (.slice a1 l1 c1) X) := ho
              have HMI : Hid (mI = (i : Int) + 1) := hmI
              clear e1 ho hmI
              go_wp2_with (go_at_call 19; (with_reducible refine MK.mono ?_); clear MK; rintro e w4 ⟨rfl, o4, u4⟩)
              go_roundw
              case rel =>
                refine ⟨i + 1, by have := HMI.out; go_num, by omega, HM.out.ivs HO.out u4.out, ?_, Nat.le_trans HZ3.out u4.out.size⟩
                refine PhB.step (n := l1) HPB.out HTI.out (fun j u hj hne k hk => HLS.out.ne HTI.out hj (fun e => hne e.symm) k hk) u4.out ?_
                have h := o4.out
                rw [HMI.out] at h
                exact h
              case measure => have := HMI.out; simp [intOf]; omega
            · obtain ⟨hlt', HI⟩ : (¬ (i : Int) < 10) ∧ Hid (i = 10) := ⟨by omega, by show _ = _; omega⟩
              have HPB := HPB.out
              rw [HI.out] at HPB
              have HGR : Hid (GrI w gl gw ts [] ([CA, CM, CX, CB, CY] ++ [CA, CM, CX, CB, CY] ++ [CA, CM, CX, CB, CY]) wr.heap.size (.slice none 0 0) 0 wr) := ⟨World.ownsRow_nil _ _ _ _, rfl, HPB.fam HLS.out, HM.out, HPB.want, fun j v h => by simp at h⟩
              have HZ4 : Hid (gl < wr.heap.size ∧ gw < wr.heap.size) := ⟨Nat.lt_of_lt_of_le HZ.out.1 HZ3.out, Nat.lt_of_lt_of_le HZ.out.2 HZ3.out⟩
              have HB4 : Hid (w.heap.size ≤ wr.heap.size) := HM.out.bel.size
              clear HM HPB HI hi10 hlt HZ HZ3
              go_wp2
              obtain ⟨w4, hw4⟩ : ∃ V, wr = V := ⟨_, rfl⟩
              rw [hw4] at HGR HZ4 HB4 ⊢
              clear hw4 hlt'
              go_loopw [11, 12] (fun a b wr => ∃ (i : Nat) (gs : List Value), b = .int .i64 i ∧ i ≤ 10 ∧ Hid (GrI w gl gw ts gs ([CA, CM, CX, CB, CY] ++ [CA, CM, CX, CB, CY] ++ [CA, CM, CX, CB, CY]) w4.heap.size a i wr) ∧ Hid (w4.heap.size ≤ wr.heap.size)) (fun _ b _ => 10 - (intOf b).toNat)
              case atStart => exact ⟨0, [], rfl, by omega, HGR, Nat.le_refl _⟩
              case round =>
                obtain ⟨i, gs, rfl, hi10, HG, HZ5⟩ := hrel
                obtain ⟨ga, gn, gc, hsh⟩ := row_shape HG.out.row
                subst hsh
                by_cases hlt : i < 10
                · have hlt' : (i : Int) < 10 := by omega
                  have hit : i < ts.length := by rw [HTL.out]; omega
                  have HTI : Hid (ts[i]? = some ts[i]) := List.getElem?_eq_getElem hit
                  obtain ⟨a1, l1, c1, e1, hl1⟩ := HFW.out i ts[i] HTI.out
                  have k1 := HG.out.ms.rl i ts[i] hlt HTI.out
                  rw [e1] at k1 HTI
                  obtain ⟨mI, hmI⟩ : ∃ m : Int, m = (i : Int) + 1 := ⟨_, rfl⟩
                  have hwm : IntKind.i64.wrap ((i : Int) + 1) = mI := by rw [IntKind.wrap_i64]; omega
                  have hneg : IntKind.i64.wrap (-mI) = -mI := by rw [IntKind.wrap_i64]; omega
                  have GW := grown_any w.heap.size i (famG ts gs) a1 l1 c1 mI wr HG.out.fam (Or.inl ⟨hlt, HTI.out⟩) hmI hneg (by omega) (Nat.le_trans HB4.out HZ5.out)
                  have HMI : Hid (mI = (i : Int) + 1) := hmI
                  have HLT : Hid (i < 10) := hlt
                  have HL1 : Hid (l1 + 20 ≤ 8388628) := by show _ ≤ _; omega
                  have HI10 : Hid (i + 1 ≤ 1000) := by show _ ≤ _; omega
                  clear e1 hmI
                  go_wp2_with (first
                    | (go_at_call 20; (with_reducible refine GW.mono ?_); clear GW; rintro e w5 ⟨a5, c5, rfl, f5, u5⟩; have HM5 := hideM (HG.out.mid HLS.out HLT.out HTI.out f5.out u5.out); have HZ6 : Hid (w4.heap.size ≤ w5.heap.size) := Nat.le_trans HZ5.out u5.out.size; clear f5 u5)
                    | (at_builtin; refine wpList_appS w5 rfl _ _ rfl w4.heap.size (.slice ga gn gc) i 1 gs [.slice a5 (l1 + 20) c5] rfl (fun u hu => by rw [List.mem_singleton.mp hu]; rfl) rfl HM5.out.row rfl HI10.out HZ6.out ?_; intro v8 w8 o8 u8 m8; obtain ⟨a8, l8, c8, rfl⟩ := row_shape o8; have HG8 := hideM (GrM.done HM5.out HG.out.len HG.out.few HL1.out HZ4.out HB4.out o8 u8); have HZ8 : Hid (w4.heap.size ≤ w8.heap.size) := Nat.le_trans HZ6.out u8.size; clear o8 u8 m8))
                  go_roundw
                  case rel => exact ⟨i + 1, _, by have := HMI.out; go_num, by omega, HG8, HZ8⟩
                  case measure => have := HMI.out; simp [intOf]; omega
                · obtain ⟨hlt', HI⟩ : (¬ (i : Int) < 10) ∧ Hid (i = 10) := ⟨by omega, by show _ = _; omega⟩
                  have HG := HG.out
                  rw [HI.out] at HG
                  obtain ⟨gg, gcap, ev, _, _, _, hcg⟩ := own_some HG.row (by omega)
                  simp only [Value.slice.injEq] at ev
                  obtain ⟨rfl, rfl, rfl⟩ := ev
                  have HCG : Hid (∀ j u, gs[j]? = some u → wr.cell? ⟨gg, j, none⟩ = some u) := hcg
                  have HG : Hid (GrI w gl gw ts gs ([CA, CM, CX, CB, CY] ++ [CA, CM, CX, CB, CY] ++ [CA, CM, CX, CB, CY]) w4.heap.size (.slice (some ⟨gg, 0, none⟩) 10 gc) 10 wr) := HG
                  clear hcg HI hi10 hlt HZ5 HGR
                  go_wp2
                  obtain ⟨w6, hw6⟩ : ∃ V, wr = V := ⟨_, rfl⟩
                  rw [hw6] at HG HCG ⊢
                  clear hw6 hlt'
                  go_loopw [13] (fun a wr => ∃ (i : Nat), a = .int .i64 i ∧ i ≤ 10 ∧ Hid (Below w6.heap.size w6 wr)) (fun a _ => 10 - (intOf a).toNat)
                  case atStart => exact ⟨0, rfl, by omega, Below.refl _ _⟩
                  case round =>
                    obtain ⟨i, rfl, hi10, HW⟩ := hrel
                    by_cases hlt : i < 10
                    · have hlt' : (i : Int) < 10 := by omega
                      have hit : i < ts.length := by rw [HTL.out]; omega
                      have hig : i < gs.length := by rw [HG.out.len]; omega
                      have HTI : Hid (ts[i]? = some ts[i]) := List.getElem?_eq_getElem hit
                      have HGI : Hid (gs[i]? = some gs[i]) := List.getElem?_eq_getElem hig
                      obtain ⟨a1, l1, c1, e1, hl1⟩ := HFW.out i ts[i] HTI.out
                      obtain ⟨a2, l2, c2, e2, hl2⟩ := HG.out.few i gs[i] HGI.out
                      have k1 := (HG.out.ms.below HW.out).rl i ts[i] hlt HTI.out
                      have k2 := below_cell HW.out (HCG.out i gs[i] HGI.out)
                      rw [e1] at k1 HTI
                      rw [e2] at k2 HGI
                      have F1 := full_own (HG.out.fam.full i _ (Or.inl ⟨hlt, HTI.out⟩)) rfl
                      have F2 := full_own (HG.out.fam.full i _ (Or.inr HGI.out)) rfl
                      obtain ⟨mI, hmI⟩ : ∃ m : Int, m = (i : Int) + 1 := ⟨_, rfl⟩
                      have hwm : IntKind.i64.wrap ((i : Int) + 1) = mI := by rw [IntKind.wrap_i64]; omega
                      have hneg : IntKind.i64.wrap (-mI) = -mI := by rw [IntKind.wrap_i64]; omega
                      rw [← hmI] at F1 F2
                      have LK1 := looks_any a1 l1 c1 mI wr ((ownI_bel F1 HW.out).at) hneg (by omega)
                      have HLK2 : Hid (∀ W, Below wr.heap.size wr W → W.cell? ⟨gg, i, none⟩ = some (.slice a2 l2 c2) ∧ Calls Try.prog 21 #[.slice a2 l2 c2, .int .i64 mI] W fun e w' => e = .returned (.bool true) ∧ Below W.heap.size W w') := fun W hb => ⟨below_cell hb k2, looks_any a2 l2 c2 mI W ((ownI_bel F2 (HW.out.trans (hb.mono HW.out.size))).at) hneg (by omega)⟩
                      have HMI : Hid (mI = (i : Int) + 1) := hmI
                      clear e1 e2 F1 F2 hmI k2
                      go_wp2_with (first
                        | (go_at_call 21; (with_reducible refine LK1.mono ?_); clear LK1; rintro e w7 ⟨rfl, b7⟩; have HW7 : Hid (Below w6.heap.size w6 w7) := HW.out.trans (b7.mono HW.out.size); obtain ⟨k2, LK2⟩ := HLK2.out w7 b7; clear b7)
                        | (go_at_call 21; (with_reducible refine LK2.mono ?_); clear LK2; rintro e w8 ⟨rfl, b8⟩; have HW8 : Hid (Below w6.heap.size w6 w8) := HW7.out.trans (b8.mono HW7.out.size); clear b8))
                      go_roundw
                      case rel => exact ⟨i + 1, by have := HMI.out; go_num, by omega, HW8⟩
                      case measure => have := HMI.out; simp [intOf]; omega
                    · obtain ⟨hlt', HI⟩ : (¬ (i : Int) < 10) ∧ Hid (i = 10) := ⟨by omega, by show _ = _; omega⟩
                      have HMS := HG.out.ms.below HW.out
                      have HWB : Hid (Below w.heap.size w wr) := HMS.bel
                      have h10 : 10 < ts.length := by rw [HTL.out]; omega
                      have h11 : 11 < ts.length := by rw [HTL.out]; omega
                      have h12 : 12 < ts.length := by rw [HTL.out]; omega
                      obtain ⟨a0, l0, c0, e0, hl0⟩ := HFW.out 10 ts[10] (List.getElem?_eq_getElem h10)
                      obtain ⟨a1, l1, c1, e1, hl1⟩ := HFW.out 11 ts[11] (List.getElem?_eq_getElem h11)
                      obtain ⟨a2, l2, c2, e2, hl2⟩ := HFW.out 12 ts[12] (List.getElem?_eq_getElem h12)
                      have k0 := HMS.rw_ 0 ts[10] (by omega) (List.getElem?_eq_getElem h10)
                      have k1 := HMS.rw_ 1 ts[11] (by omega) (List.getElem?_eq_getElem h11)
                      have k2 := HMS.rw_ 2 ts[12] (by omega) (List.getElem?_eq_getElem h12)
                      have o0 := HG.out.want 0 ts[10] CA (by omega) (List.getElem?_eq_getElem h10) rfl
                      have o1 := HG.out.want 1 ts[11] CM (by omega) (List.getElem?_eq_getElem h11) rfl
                      have o2 := HG.out.want 2 ts[12] CX (by omega) (List.getElem?_eq_getElem h12) rfl
                      rw [e0] at k0 o0
                      rw [e1] at k1 o1
                      rw [e2] at k2 o2
                      have HLen : Hid (CA.length ≤ 8388608 ∧ CM.length ≤ 8388608 ∧ CX.length ≤ 8388608) := ⟨HFEW.out CA (by simp), HFEW.out CM (by simp), HFEW.out CX (by simp)⟩
                      have KC : ∀ W, Below wr.heap.size wr W → W.cell? ⟨gw, 0, none⟩ = some (.slice a0 l0 c0) ∧ W.cell? ⟨gw, 1, none⟩ = some (.slice a1 l1 c1) ∧ W.cell? ⟨gw, 2, none⟩ = some (.slice a2 l2 c2) := fun W hb => ⟨below_cell hb k0, below_cell hb k1, below_cell hb k2⟩
                      have HS0 : Hid (∀ W a l c, Below wr.heap.size wr W → OwnI w.heap.size W (.slice a l c) CA → Calls Try.prog 7 #[.slice a l c, .slice a0 l0 c0] W fun e w' => e = .returned (.bool true) ∧ Below W.heap.size W w') := fun W a l c hb ho => by
                        have h := same_any a a0 l l0 c c0 CA CA W ho.at (ownI_bel o0 (HW.out.trans (hb.mono HW.out.size))).at (by have := HLen.out.1; rw [ho.len]; omega)
                        rw [decide_eq_true rfl] at h
                        exact h
                      have HS1 : Hid (∀ W a l c, Below wr.heap.size wr W → OwnI w.heap.size W (.slice a l c) CM → Calls Try.prog 7 #[.slice a l c, .slice a1 l1 c1] W fun e w' => e = .returned (.bool true) ∧ Below W.heap.size W w') := fun W a l c hb ho => by
                        have h := same_any a a1 l l1 c c1 CM CM W ho.at (ownI_bel o1 (HW.out.trans (hb.mono HW.out.size))).at (by have := HLen.out.2.1; rw [ho.len]; omega)
                        rw [decide_eq_true rfl] at h
                        exact h
                      have HS2 : Hid (∀ W a l c, Below wr.heap.size wr W → OwnI w.heap.size W (.slice a l c) CX → Calls Try.prog 7 #[.slice a l c, .slice a2 l2 c2] W fun e w' => e = .returned (.bool true) ∧ Below W.heap.size W w') := fun W a l c hb ho => by
                        have h := same_any a a2 l l2 c c2 CX CX W ho.at (ownI_bel o2 (HW.out.trans (hb.mono HW.out.size))).at (by have := HLen.out.2.2; rw [ho.len]; omega)
                        rw [decide_eq_true rfl] at h
                        exact h
                      have B0 : Below wr.heap.size wr wr.drew := (Below.refl _ _).drew
                      have P0 : ∀ W, Below wr.heap.size wr W → Calls Try.prog 8 #[.slice ad n ca] W (NewP CA W) := fun W hb => HPA.out W (HWB.out.trans (hb.mono HWB.out.size))
                      have P1 : ∀ W, Below wr.heap.size wr W → Calls Try.prog 12 #[.slice ad n ca, .slice bd m cb] W (NewP CM W) := fun W hb => HPM.out W (HWB.out.trans (hb.mono HWB.out.size))
                      have P2 : ∀ W, Below wr.heap.size wr W → Calls Try.prog 14 #[.slice ad n ca, .slice bd m cb] W (NewP CX W) := fun W hb => HPX.out W (HWB.out.trans (hb.mono HWB.out.size))
                      have HWS : Hid (w.heap.size ≤ wr.heap.size) := HWB.out.size
                      clear e0 e1 e2 o0 o1 o2 k0 k1 k2 HMS
                      go_wp2
                      go_region_held3 (fun W => W.cell? ⟨gw, 0, none⟩ = some (.slice a0 l0 c0) ∧ W.cell? ⟨gw, 1, none⟩ = some (.slice a1 l1 c1) ∧ W.cell? ⟨gw, 2, none⟩ = some (.slice a2 l2 c2)) (exact KC _ (by assumption)) (first
                        | (go_at_call 8; (with_reducible refine (P0 _ B0).mono ?_); clear P0; rintro e x1 ⟨y1, z1, t1, rfl, o1, b1⟩; have B1 : Below wr.heap.size wr x1 := B0.trans b1; have S0 := HS0.out x1 y1 z1 t1 B1 (own_base o1.out (Nat.le_trans HWS.out B0.size)); clear o1 b1 HS0 B0)
                        | (go_at_call 7; (with_reducible refine S0.mono ?_); clear S0; rintro e x2 ⟨rfl, b2⟩; have B2 : Below wr.heap.size wr x2 := B1.trans (b2.mono B1.size); clear b2 B1)
                        | (go_at_call 12; (with_reducible refine (P1 _ B2).mono ?_); clear P1; rintro e x3 ⟨y3, z3, t3, rfl, o3, b3⟩; have B3 : Below wr.heap.size wr x3 := B2.trans (b3.mono B2.size); have S1 := HS1.out x3 y3 z3 t3 B3 (own_base o3.out (Nat.le_trans HWS.out B2.size)); clear o3 b3 HS1 B2)
                        | (go_at_call 7; (with_reducible refine S1.mono ?_); clear S1; rintro e x4 ⟨rfl, b4⟩; have B4 : Below wr.heap.size wr x4 := B3.trans (b4.mono B3.size); clear b4 B3)
                        | (go_at_call 14; (with_reducible refine (P2 _ B4).mono ?_); clear P2; rintro e x5 ⟨y5, z5, t5, rfl, o5, b5⟩; have B5 : Below wr.heap.size wr x5 := B4.trans (b5.mono B4.size); have S2 := HS2.out x5 y5 z5 t5 B5 (own_base o5.out (Nat.le_trans HWS.out B4.size)); clear o5 b5 HS2 B4)
                        | (go_at_call 7; (with_reducible refine S2.mono ?_); clear S2; rintro e x6 ⟨rfl, b6⟩; have B6 : Below wr.heap.size wr x6 := B5.trans (b6.mono B5.size); clear b6 B5))
                      go_wp2
                      go_ret
                      exact ⟨rfl, HWB.out.trans (B6.mono HWB.out.size)⟩
end Go.Proofs.Ytakannfkbmnlfaa
