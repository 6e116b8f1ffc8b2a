/-
  RzE.
-/
import Derived.Test.YtiflfapdffkcbaaGreatDoorRzAq
import Derived.Test.YtiflfapdffkcbaaGreatDoorRzCq
import Derived.Deep.RegionHeldLaw
namespace Go.Proofs.YtiflfapdffkcbaaGreatDoor
open Go Go.RowKit Go.Maps Go.WideMaps
set_option maxRecDepth 100000

theorem step_appW9 {P : Program} (w : World) {ops : Array Oper} {o : Oper} {a : Act} {K : Act → World → Prop} {Q : Exit → Act → World → Prop} {E : Prop} (hgd : o.guard = none) (s x : Operand) (t tx : TypeId)
    (ho : o.op = .call { callee := .builtin .append, args := #[s, x], argTypes := #[t, tx] })
    (base : Nat) (e : TypeId) (i : TypeInfo) (z : Value) (size bytes : Nat) (ht : P.underlying t = some (.slice e)) (hi : P.info? e = some i) (hz : i.zero = some z) (hsize : i.size = size) (hby : i.bytes = bytes) (hzs : z.cells.size = size)
    (v : Value) (n : Nat) (xs : List Value) (hv : a.eval s = v) (hown : w.ownsRow base e size v n xs) (y : Value) (m : Nat) (news : List Value) (hx : a.eval x = y) (hs : Src P size tx y m news w)
    (h63 : n + m ≤ maxLen) (hbytes : (n + m + (n + m) / 4 + 192) * bytes ≤ 281474976710656) (hbase : base ≤ w.heap.size)
    (h : ∀ v' w', w'.ownsRow base e size v' (n + m) (xs ++ news) → w.grownBy w' v.ownBlock → Moved w v v' → K (a.put o.dst v') w') : if Region.wanted o (yielded ops a.tmps) = true then Oper.wp P o a w K Q else E := by
  subst hby
  have hw : Region.wanted o (yielded ops a.tmps) = true := by simp [Region.wanted, hgd]
  rw [if_pos hw]
  obtain ⟨v', w', hr, h2, h3, h4⟩ := run_appW (P := P) w base t tx o.type e i z size ht hi hz hsize hzs v n xs hown y m news hs h63 hbytes hbase
  unfold Oper.wp execOp
  simp only [ho, resolve, invoke, builtin, Sem.run_bind, Sem.run_pure, Result.andThen_ok, List.map_toArray, List.map_cons, List.map_nil, hv, hx, hr]
  exact h v' w' h2 h3 h4
theorem RowQ.src {w : World} {g : Nat} {L : List Sq} (h : RowQ w g L) (c : Nat) : Src Tryz.prog 13 22 (.slice (some ⟨g, 0, none⟩) L.length c) L.length (L.flatMap sqL) w := by
  refine Src.ofSlice _ Tryz.underlying22 ⟨g, 0, none⟩ L.length c _ (sqF_len L) (fun j u hj => ?_) (sqF_one L)
  have hjl := (List.getElem?_eq_some_iff.1 hj).1
  rw [sqF_len] at hjl
  have e : j = j / 13 * 13 + j % 13 := by omega
  have h1 := sqF_get L (j / 13) (by omega) (j % 13) (by omega)
  rw [← e, hj] at h1
  have h2 : w.cell? ⟨g, j / 13 * 13 + j % 13, none⟩ = some u := h.cell (j / 13) (by omega) (j % 13) (by unfold sqL at h1; rw [Array.getElem?_toList] at h1; exact h1.symm)
  rw [← e] at h2
  rw [Addr.add_lit, Nat.zero_add]
  exact h2
/-- A trace's spans are appended. -/
theorem step_appZ {ops : Array Oper} {o : Oper} {a : Act} {w : World} {K : Act → World → Prop} {Q : Exit → Act → World → Prop} {E : Prop} (hgd : o.guard = none) (s x : Operand)
    (ho : o.op = .call { callee := .builtin .append, args := #[s, x], argTypes := #[22, 22] })
    (base : Nat) (v : Value) (A B : List Sq) (r n c : Nat) (hv : a.eval s = v) (hown : w.ownsRow base 41 13 v A.length (A.flatMap sqL)) (hB : RowQ w r B) (hn : B.length = n) (hx : a.eval x = .slice (some ⟨r, 0, none⟩) n c) (h1 : A.length ≤ 1000000000) (h2 : n ≤ 1000000000) (hbase : base ≤ w.heap.size)
    (h : ∀ v' w', w'.ownsRow base 41 13 v' (A ++ B).length ((A ++ B).flatMap sqL) → w.grownBy w' v.ownBlock → Moved w v v' → K (a.put o.dst v') w') : if Region.wanted o (yielded ops a.tmps) = true then Oper.wp Tryz.prog o a w K Q else E := by
  subst hn
  obtain ⟨i0, hi0, hz0, hz1, hz2⟩ := info_parts infoSp13
  refine step_appW9 w hgd s x 22 22 ho base 41 i0 _ 13 168 Tryz.underlying22 hi0 hz0 hz1 hz2 rfl v A.length _ hv hown _ B.length _ hx (hB.src c) (by unfold maxLen; omega) (by omega) hbase ?_
  intro v' w' o8 g8 m8
  refine h v' w' ?_ g8 m8
  rw [List.length_append, List.flatMap_append]
  exact o8
theorem cmpN_tc (a b : Sp) : cmpN a b = orI (cmpTc (nmS a).1 (nmS b).1) (cmpI a.id b.id) := by
  unfold cmpN cmpTc nmS
  simp only [orL, orI_zero, orI_assoc]
/-- All of a store's spans, as far as some of its traces. -/
structure SsI (w wr : World) (X : List It) (L : List Tc) (k : Nat) (v : Value) (Z : List It) : Prop where
  own : wr.ownsRow w.heap.size 41 13 v (Z.map sqI).length ((Z.map sqI).flatMap sqL)
  up : Z.Pairwise (fun x y => cmpN x.a y.a < 0)
  mem : ∀ x, x ∈ Z ↔ (x ∈ X ∧ (nmS x.a).1 ∈ L.take k)
  low : Below w.heap.size w wr
theorem cmpN_self (a : Sp) : cmpN a a = 0 := (cmpN_zero a a).2 ⟨rfl, rfl, rfl⟩
theorem up_nodup {Z : List It} (h : Z.Pairwise (fun x y => cmpN x.a y.a < 0)) : Z.Nodup :=
  List.Pairwise.imp (fun h e => by subst e; rw [cmpN_self] at h; omega) h
theorem SsI.le {w wr : World} {X : List It} {L : List Tc} {k : Nat} {v : Value} {Z : List It} (h : SsI w wr X L k v Z) : Z.length ≤ X.length :=
  (up_nodup h.up).length_le_of_subset (fun x hx => ((h.mem x).1 hx).1)
theorem rist_le {X : List It} {t : Tc} {Z : List It} (h : RisT X t Z) : Z.length ≤ X.length := by
  have hn : (Z.map (fun x => x.a.id)).Nodup := List.Pairwise.imp (fun h e => by omega) h.up
  have hz : Z.Nodup := by
    rw [List.nodup_iff_pairwise_ne] at hn ⊢
    exact List.Pairwise.imp (fun h e => h (by rw [e])) (List.pairwise_map.1 hn)
  exact hz.length_le_of_subset (fun x hx => ((h.mem x).1 hx).1)
theorem SsI.next {w wr w' : World} {X : List It} {L : List Tc} {k : Nat} {v v' : Value} {Z Y : List It} (h : SsI w wr X L k v Z) (hk : k < L.length) (hL : L.Pairwise (fun a b => cmpTc a b < 0)) (hY : RisT X L[k] Y) (ho : w'.ownsRow w.heap.size 41 13 v' (Z.map sqI ++ Y.map sqI).length ((Z.map sqI ++ Y.map sqI).flatMap sqL)) (hb : Below w.heap.size w w') : SsI w w' X L (k + 1) v' (Z ++ Y) := by
  refine ⟨by rw [List.map_append]; exact ho, ?_, fun x => ?_, hb⟩
  · rw [List.pairwise_append]
    refine ⟨h.up, ?_, fun x hx y hy => ?_⟩
    · have h1 := List.pairwise_map.1 hY.up
      refine List.Pairwise.imp_of_mem (fun {x y} hx hy hxy => ?_) h1
      rw [cmpN_tc, ((hY.mem x).1 hx).2, ((hY.mem y).1 hy).2, (good_cmpTc.eq _ _).2 rfl]
      unfold orI
      rw [if_pos rfl]
      unfold cmpI
      rw [if_pos hxy]
      omega
    · have h1 := ((h.mem x).1 hx).2
      have h2 := ((hY.mem y).1 hy).2
      obtain ⟨i, hi, e⟩ := List.mem_take_iff_getElem.1 h1
      have h3 := (List.pairwise_iff_getElem.1 hL) i k (by omega) hk (by omega)
      rw [cmpN_tc, h2, ← e]
      unfold orI
      rw [if_neg (by omega)]
      exact h3
  · rw [List.mem_append, h.mem x, hY.mem x, List.take_succ_eq_append_getElem hk, List.mem_append, List.mem_singleton]
    constructor
    · rintro (⟨h1, h2⟩ | ⟨h1, h2⟩)
      · exact ⟨h1, Or.inl h2⟩
      · exact ⟨h1, Or.inr h2⟩
    · rintro ⟨h1, h2 | h2⟩
      · exact Or.inl ⟨h1, h2⟩
      · exact Or.inr ⟨h1, h2⟩
/-- A store's spans, in a row. -/
structure RisS (X : List It) (Z : List It) : Prop where
  up : Z.Pairwise (fun x y => cmpN x.a y.a < 0)
  mem : ∀ x, x ∈ Z ↔ x ∈ X
def RissP (w : World) (X : List It) (e : Ending) (w' : World) : Prop := ∃ g c Z, e = .returned (.slice (some ⟨g, 0, none⟩) Z.length c) ∧ RisS X Z ∧ RowQ w' g (Z.map sqI) ∧ w.heap.size ≤ g ∧ Below w.heap.size w w'
theorem cellUpd9 {S : Nat → Prop} {w w' : World} (hu : Upd S w w') {p : Addr} {v : Value} (h : w.cell? p = some v) (hS : ¬ S p.block) : w'.cell? p = some v := by
  have hb := hu.block p.block (World.block_lt_of_cell? w p h) hS
  unfold World.cell? at h ⊢
  rw [hb]
  exact h
theorem TcAt.upd {w w' : World} {tg g n : Nat} {l : List Tc} (h : TcAt w (some ⟨tg, 0, none⟩) n l) (hu : Upd (fun j => j = g) w w') (hne : g ≠ tg) : TcAt w' (some ⟨tg, 0, none⟩) n l := by
  have hlt := h.lt _ rfl
  refine ⟨h.len, fun hp => ?_, fun a ha => Nat.lt_of_lt_of_le (h.lt a ha) hu.size⟩
  obtain ⟨b, o, e, hc⟩ := h.lies hp
  simp only [Option.some.injEq, Addr.mk.injEq, and_true] at e
  obtain ⟨rfl, rfl⟩ := e
  exact ⟨tg, 0, rfl, fun i hi j v hv => cellUpd9 hu (hc i hi j v hv) (fun e => hne e.symm)⟩
theorem own_rowQ {w : World} {base g n c : Nat} {A : List Sq} (h : w.ownsRow base 41 13 (.slice (some ⟨g, 0, none⟩) n c) A.length (A.flatMap sqL)) : n = A.length ∧ base ≤ g ∧ RowQ w g A := by
  rcases h.2 with ⟨e, _⟩ | ⟨g', cap, cur, e, hb, hh, _, _, hsz, ht⟩
  · simp at e
  · simp only [Value.slice.injEq, Option.some.injEq, Addr.mk.injEq, and_true] at e
    obtain ⟨rfl, rfl, rfl⟩ := e
    refine ⟨rfl, hb, cur.toList.drop (A.length * 13), ?_⟩
    unfold Blk
    rw [← ht, List.take_append_drop]
    exact hh
set_option maxHeartbeats 8000000 in
theorem srising_any (s b : Nat) (M : Tc → Nat) (T : List Tc) (X : List It) (w : World) (h : StoreAt w s b M T X) (hx : X.length ≤ 100000000) :
    Calls Tryz.prog 28 #[.pointer (some ⟨s, 0, none⟩)] w fun e w' => RissP w X e w' := by
  have HS : Hid (StoreAt w s b M T X) := h
  have HX : Hid (X.length ≤ 100000000) := hx
  obtain ⟨i0, hi0, hz0, hz1, hz2⟩ := info_parts infoSp13
  have c0 := blk_cell h.block 1 rfl
  obtain ⟨xl, hxl⟩ : ∃ n, X.length = n := ⟨_, rfl⟩
  have hxz : xl ≤ 100000000 := by omega
  have hxI : (xl : Int) ≤ 100000000 := by omega
  rw [hxl] at c0
  have TR : Hid (∀ W, Below w.heap.size w W → Calls Tryz.prog 37 #[.pointer (some ⟨s, 0, none⟩)] W fun e w' => TrsP W T e w') := fun W hb => traces_any s b M T X W (h.below hb) (by omega)
  clear h hx hxl
  go_enter Tryz.func28, Tryz.ntmps28
  go_upto_region 3 with (first
    | (at_make; refine wpList_make_own w rfl _ _ 22 rfl w.heap.size 41 i0 (.agg zSpL.toArray) 13 Tryz.underlying22 hi0 hz0 hz1 .i64 .i64 _ xl rfl rfl rfl (by rw [hz2]; omega) (by unfold maxLen; omega) (Nat.le_refl _) ?_; intro w0 o0 g0; have HO0 : Hid (w0.ownsRow w.heap.size 41 13 (.slice (some ⟨w.heap.size, 0, none⟩) 0 xl) 0 [] ∧ Below w.heap.size w w0) := ⟨o0, ((Upd.refl (fun _ => False) w).grown g0 (fun _ _ e => (by cases e))).below (Nat.le_refl _) (fun _ _ h => h)⟩; clear o0 g0 c0)
    | (go_at_call 37; (with_reducible refine (TR.out w0 HO0.out.2).mono ?_); clear TR; rintro e w1 ⟨tg, tc, L, rfl, hs, hm, hat, hg, hb⟩; have HL : Hid (L.Pairwise (fun a b => cmpTc a b < 0) ∧ (∀ t, t ∈ L ↔ t ∈ T) ∧ TcAt w1 (some ⟨tg, 0, none⟩) L.length L ∧ w0.heap.size ≤ tg) := ⟨hs, hm, hat, hg⟩; have I0 : Hid (SsI w w1 X L 0 (.slice (some ⟨w.heap.size, 0, none⟩) 0 xl) []) := ⟨ownsRow_upd HO0.out.1 (Upd.ofBelow (S := fun _ => False) hb (fun k h1 h2 => by omega)) (fun _ _ h => h), List.Pairwise.nil, fun x => ⟨fun h => (by cases h), fun h => (by have := h.2; simp at this)⟩, HO0.out.2.trans (hb.mono HO0.out.2.size)⟩; clear hs hm hat hg hb))
  obtain ⟨nl, hnl⟩ : ∃ n, L.length = n := ⟨_, rfl⟩
  have HNL : Hid (L.length = nl) := hnl
  have hnlz : nl ≤ 100000000 := by
    have hnd : L.Nodup := List.Pairwise.imp (fun {a b} h e => by
      subst e
      rw [(good_cmpTc.eq _ _).2 rfl] at h
      omega) HL.out.1
    have h1 := hnd.length_le_of_subset (l₂ := T) (fun x hx => (HL.out.2.1 x).1 hx)
    have h2 := HS.out.tl
    have h3 := HX.out
    omega
  have HO0 : Hid (w.heap.size < w0.heap.size) := (own_block HO0.out.1 (k := w.heap.size) rfl).2 |> fun ⟨_, _, h⟩ => lt_of_block h
  rw [hnl]
  clear hnl
  go_wp2
  go_loopw [3, 14] (fun z3 z14 wr => ∃ (k : Nat) (Z : List It) (g c : Nat), z14 = .int .i64 k ∧ z3 = .slice (some ⟨g, 0, none⟩) Z.length c ∧ k ≤ nl ∧ Hid (SsI w wr X L k z3 Z ∧ TcAt wr (some ⟨tg, 0, none⟩) L.length L ∧ g ≠ tg)) (fun _ z _ => nl - (intOf z).toNat)
  case atStart => exact ⟨0, [], _, _, rfl, rfl, by omega, I0.out, HL.out.2.2.1, by have := HO0.out; have := HL.out.2.2.2; omega⟩
  case round =>
    obtain ⟨k, Z, g, c, rfl, rfl, hkn, HI⟩ := hrel
    clear I0
    by_cases hlt : k < nl
    · have hltd : (k : Int) < (nl : Int) := by omega
      have hkL : k < L.length := by rw [HNL.out]; exact hlt
      obtain ⟨t, ht⟩ : ∃ t, L[k]'hkL = t := ⟨_, rfl⟩
      have htT : t ∈ T := (HL.out.2.1 t).1 (by rw [← ht]; exact List.getElem_mem hkL)
      obtain ⟨t1, t2⟩ := t
      have HT : Hid ((∃ h : k < L.length, L[k] = (t1, t2)) ∧ (t1, t2) ∈ T) := ⟨⟨hkL, ht⟩, htT⟩
      have hcell : wr.cell? ⟨tg, k * 2, none⟩ = some (.int .u64 t1) ∧ wr.cell? ⟨tg, k * 2 + 1, none⟩ = some (.int .u64 t2) := by
        obtain ⟨b', o', e, hc⟩ := HI.out.2.1.lies (by rw [HNL.out]; omega)
        simp only [Option.some.injEq, Addr.mk.injEq, and_true] at e
        obtain ⟨rfl, rfl⟩ := e
        have h1 := hc k hkL 0 (.int .u64 t1) (by rw [ht]; rfl)
        have h2 := hc k hkL 1 (.int .u64 t2) (by rw [ht]; rfl)
        rw [Nat.zero_add] at h1 h2
        exact ⟨h1, h2⟩
      obtain ⟨q0, q1⟩ := hcell
      have hZ := HI.out.1.le
      have hzz : Z.length ≤ 100000000 := Nat.le_trans hZ HX.out
      clear ht htT hkL hZ
      go_upto_region 5 with fail
      obtain ⟨U, hU⟩ : ∃ U, wr.alloc (.cells #[.int .u64 t1, .int .u64 t2] 33) = U := ⟨_, rfl⟩
      obtain ⟨tb, htb⟩ : ∃ y, wr.heap.size = y := ⟨_, rfl⟩
      have HU : Hid (Below wr.heap.size wr U ∧ Blk U tb #[.int .u64 t1, .int .u64 t2] 33) := by
        rw [← hU, ← htb]
        exact ⟨(Below.refl _ _).alloc (Nat.le_refl _) _, Blk.new _ _ _⟩
      (try rw [hU])
      (try rw [htb])
      clear hU q0 q1
      have HLW : Hid (Below w.heap.size w U) := HI.out.1.low.trans (HU.out.1.mono HI.out.1.low.size)
      have BR : Below U.heap.size U U.drew := (Below.refl _ _).drew
      have HGG : Hid (w.heap.size ≤ g ∧ tb ≠ g) := by
        have h1 := (own_block HI.out.1.own (k := g) rfl)
        obtain ⟨h2, cs, fz, h3⟩ := h1
        exact ⟨h2, by have h4 := lt_of_block h3; rw [htb] at h4; omega⟩
      clear htb
      have KP : ∀ W, Upd (fun j => j = g) U W → W.cell? ⟨s, 0, none⟩ = some (.map (some b)) ∧ W.cell? ⟨tb, 0, none⟩ = some (.int .u64 t1) ∧ W.cell? ⟨tb, 1, none⟩ = some (.int .u64 t2) := fun W hu => by
        have hbw : Below w.heap.size w W := HLW.out.trans (hu.below HLW.out.size (fun j hj e => by have := HGG.out.1; omega))
        have h2 := HU.out.2.upd hu HGG.out.2
        exact ⟨blk_cell (HS.out.below hbw).block 0 rfl, h2.cell 0 rfl, h2.cell 1 rfl⟩
      have BU : Upd (fun j => j = g) U U.drew := Upd.ofBelow BR (fun k h1 h2 => by omega)
      have SU := HS.out.below (HLW.out.trans (BR.mono HLW.out.size))
      obtain ⟨mt, hmt⟩ : ∃ m, M (t1, t2) = m := ⟨_, rfl⟩
      have LK : (Instr.lookup 53 (.map (some b)) (.agg #[.int .u64 t1, .int .u64 t2]) false).run Tryz.prog U.drew = .ok (.map (some mt)) U.drew := by
        have := SU.nest.look Tryz.underlying53 (zT _) (t1, t2) (SU.nest.ok _ HT.out.2)
        rw [inV, if_pos HT.out.2, hmt] at this
        exact this
      have RT : Hid (Calls Tryz.prog 38 #[.map (some mt)] U.drew fun e w' => TrisP U.drew X (t1, t2) e w') := by
        have := trising_any s b M T X (t1, t2) U.drew SU HT.out.2 (by have := HX.out; omega)
        rw [hmt] at this
        exact this
      have HOW : Hid (U.drew.ownsRow w.heap.size 41 13 (.slice (some ⟨g, 0, none⟩) Z.length c) (Z.map sqI).length ((Z.map sqI).flatMap sqL)) := ownsRow_upd HI.out.1.own (Upd.ofBelow (S := fun _ => False) (HU.out.1.trans (BR.mono HU.out.1.size)) (fun k h1 h2 => by omega)) (fun _ _ h => h)
      clear SU hmt
      go_region_held_law (fun W => W.cell? ⟨s, 0, none⟩ = some (.map (some b)) ∧ W.cell? ⟨tb, 0, none⟩ = some (.int .u64 t1) ∧ W.cell? ⟨tb, 1, none⟩ = some (.int .u64 t2)) (first | exact KP _ BU | exact KP _ H7.out.2.2.2 | exact KP _ H8.out.2.2)
        ((first
          | (refine step_appZ (by rfl) (.tmp 18) (.tmp 25) (by rfl) w.heap.size (.slice (some ⟨g, 0, none⟩) Z.length c) (Z.map sqI) (Y.map sqI) r6 Y.length c6 (by rfl) H7.out.1 H6.out.2.1 (by simp) (by rfl) (by simp; omega) H7.out.2.1 H7.out.2.2.1 ?_; intro v8 w8 ho8 hg8 hm8; have H9 : Hid (Moved w6 (.slice (some ⟨g, 0, none⟩) Z.length c) v8) := hm8; clear hm8; have H8 : Hid (w8.ownsRow w.heap.size 41 13 v8 (Z.map sqI ++ Y.map sqI).length ((Z.map sqI ++ Y.map sqI).flatMap sqL) ∧ w.heap.size ≤ w8.heap.size ∧ Upd (fun j => j = g) U w8) := ⟨ho8, Nat.le_trans H7.out.2.2.1 hg8.size, H7.out.2.2.2.trans ((Upd.refl (fun j => j = g) w6).grown hg8 (fun j _ e => (by simp [Value.ownBlock] at e; exact e.symm))) (fun _ _ h => h)⟩; clear ho8 hg8)
          | (go_simp; go_at_call 38; refine RT.out.mono ?_; rintro e w6 ⟨r6, c6, Y, rfl, hY, hrow, hr, hb⟩; have H6 : Hid (RisT X (t1, t2) Y ∧ RowQ w6 r6 (Y.map sqI) ∧ U.drew.heap.size ≤ r6 ∧ Below U.drew.heap.size U.drew w6) := ⟨hY, hrow, hr, hb⟩; have H7 : Hid (w6.ownsRow w.heap.size 41 13 (.slice (some ⟨g, 0, none⟩) Z.length c) (Z.map sqI).length ((Z.map sqI).flatMap sqL) ∧ Y.length ≤ 1000000000 ∧ w.heap.size ≤ w6.heap.size ∧ Upd (fun j => j = g) U w6) := ⟨ownsRow_upd HOW.out (Upd.ofBelow (S := fun _ => False) hb (fun k h1 h2 => by omega)) (fun _ _ h => h), (by have h1 := rist_le hY; have h2 := HX.out; omega), Nat.le_trans (HLW.out.trans (BR.mono HLW.out.size)).size hb.size, BU.trans (Upd.ofBelow (S := fun j => j = g) hb (fun k h1 h2 => by omega)) (fun _ _ h => h)⟩; clear hY hrow hr hb)))
      have hLk := HT.out.1
      obtain ⟨hkL, hLe⟩ := hLk
      have hYr : RisT X (L[k]'hkL) Y := by rw [hLe]; exact H6.out.1
      have hYn : 0 < Y.length := by
        obtain ⟨x, hx, e⟩ := HS.out.full _ HT.out.2
        exact List.length_pos_of_mem ((H6.out.1.mem x).2 ⟨hx, e⟩)
      have hlow8 : Below w.heap.size w w8 := HLW.out.trans (H8.out.2.2.below HLW.out.size (fun j hj e => by have := HGG.out.1; omega))
      have hS8 := HI.out.1.next hkL HL.out.1 hYr H8.out.1 hlow8
      have hT8 : TcAt w8 (some ⟨tg, 0, none⟩) L.length L := (HI.out.2.1.upd (g := g) (Upd.ofBelow HU.out.1 (fun k h1 h2 => by omega)) HI.out.2.2).upd H8.out.2.2 HI.out.2.2
      obtain ⟨g8, c8, hv8, _, _, _, _⟩ := own_some hS8.own (by rw [List.length_map, List.length_append]; omega)
      have hne8 : g8 ≠ tg := by
        rcases H9.out with h | ⟨q, h, hq⟩
        · rw [hv8] at h
          simp only [Value.ownBlock, Option.some.injEq] at h
          rw [h]
          exact HI.out.2.2
        · rw [hv8] at h
          simp only [Value.ownBlock, Option.some.injEq] at h
          have h1 := HI.out.2.1.lt _ rfl
          have h2 := HU.out.1.size
          have h3 := BR.size
          have h4 := H6.out.2.2.2.size
          simp only at h1
          omega
      rw [List.length_map] at hv8
      have HF : Hid (SsI w w8 X L (k + 1) v8 (Z ++ Y) ∧ TcAt w8 (some ⟨tg, 0, none⟩) L.length L ∧ g8 ≠ tg) := ⟨hS8, hT8, hne8⟩
      clear hkL hLe hYr hYn hlow8 hS8 hT8 hne8 KP BU BR LK
      generalize Z ++ Y = ZY at *
      subst hv8
      go_wp2
      go_roundw
      case rel => exact ⟨k + 1, ZY, g8, c8, by go_num, rfl, by omega, HF⟩
      case measure => (simp [intOf]; omega)
    · have hltd : ¬ (k : Int) < (nl : Int) := by omega
      have hkn2 : k = nl := by omega
      have hown := own_rowQ HI.out.1.own
      have hm := HI.out.1.mem
      rw [List.take_of_length_le (by rw [HNL.out]; omega)] at hm
      have HE : Hid (RisS X Z ∧ RowQ wr g (Z.map sqI) ∧ w.heap.size ≤ g ∧ Below w.heap.size w wr) := ⟨⟨HI.out.1.up, fun x => ⟨fun h => ((hm x).1 h).1, fun h => (hm x).2 ⟨h, (HL.out.2.1 _).2 (by
        have hf := find_ex HS.out.nodup h
        exact HS.out.nest.sub (nmS x.a) (spV x.a x.p) (by rw [look_ent, hf]; rfl))⟩⟩⟩, hown.2.2, hown.2.1, HI.out.1.low⟩
      clear hown hm hkn2 HI
      go_wp2
      go_ret
      exact ⟨g, c, Z, rfl, HE.out.1, HE.out.2.1, HE.out.2.2.1, HE.out.2.2.2⟩
end Go.Proofs.YtiflfapdffkcbaaGreatDoor
