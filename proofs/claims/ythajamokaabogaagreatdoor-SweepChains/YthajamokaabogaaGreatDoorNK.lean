/-
  NK.
-/
import Derived.Test.YthajamokaabogaaGreatDoorNGq
import Derived.Deep.Cut
namespace Go.Proofs.YthajamokaabogaaGreatDoor
open Go Go.RowKit Go.Maps
set_option maxRecDepth 100000

def lenR : Value → Nat
  | .slice _ n _ => n
  | _ => 0
theorem rChain_nil (W : World) : Calls Tryz.prog 13 #[.pointer none] W fun e W' => e = .returned (.slice none 0 0) ∧ W' = W := by
  go_enter Tryz.func13, Tryz.ntmps13
  go_wp2
  go_ret
  exact ⟨rfl, rfl⟩
set_option maxHeartbeats 8000000 in
theorem rChain_any {Y : List Sp} {C : List Int} {dp : Nat → Nat} {fin : Nat → Nod} {X : List Spot} {K : Nat → List Int} {R : List Int} (hB : FoB Y C dp fin X K R) (hpar : ∀ i, i < Y.length → (fin i).org ≠ 0 → (fin i).par = 0) {W : World} {g : Nat} {sa : Option Addr} {sc : Nat} {L : List Sq} {nb cn : Nat} {V : List Nod} (hZ : RZ W g sa sc L nb cn V X) {qa : Option Addr} {qc : Nat} {O : List Nat} (hO : OrdZ W g qa qc X.length O) :
    Calls Tryz.prog 13 #[.pointer (some ⟨g, 0, none⟩)] W fun e W' => ∃ ad q cap H, e = .returned (.slice ad q cap) ∧ H.length = q ∧ HopsM W.heap.size W' (spAt Y) fin (cnK fin K) (.slice ad q cap) H ∧ ChnR X Y.length fin (spAt Y) R H ∧ Below W.heap.size W W' := by
  obtain ⟨i0, hi0, hz0, hz1, hz2⟩ := infoHop_parts
  have hl := hB.fo.len
  have hn1 := hB.one.len
  have RT := rRoots_any hZ hO
  have L0 : Hid (∀ w1 va vl vc, (ordF X rtP O).length = vl → w1.ownsRow W.heap.size 24 1 (.slice va vl vc) vl ((ordF X rtP O).flatMap uL) → Below W.heap.size W w1 → Calls Tryz.prog 33 #[.pointer (some ⟨g, 0, none⟩), .slice va vl vc, .slice none 0 0] w1 fun e w2 => ∃ d b, e = .returned (.tuple #[ndV d, .bool b]) ∧ ∀ w3, Below w2.heap.size w2 w3 → Blk w3 w2.heap.size (ndL d).toArray 73 → RcI X W Y fin K R none 0 0 none 0 0 w2.heap.size b w3) := fun w1 va vl vc h1 h2 hb => by
    have hI : IdsAt w1 va (ordF X rtP O) := fun k hk => by
      obtain ⟨r, cap, e1, _, hr⟩ := RwG.of_owns h2 h1 (by omega)
      injection e1 with e1 _ _
      refine ⟨_, e1, ?_⟩
      have := hr.cell uL_len k hk 0 (u := .int .u64 (ordF X rtP O)[k]) (by simp [uL])
      rw [Nat.mul_one, Nat.add_zero] at this
      rw [Addr.add_lit, Nat.zero_add]
      exact this
    have hle := ordF_len X rtP O
    have hOl := hO.len
    have hmm : ∀ d, d ∈ latL X [] (ordF X rtP O) ↔ d ∈ latL X [] (idsOf X R) := latL_congr hB.rise (ordRt_mem hB hpar (fun i => by rw [hO.mem i, hl]))
    refine (rLatest_any w1 (hZ.below hb) hB.rise va vl vc (ordF X rtP O) none 0 0 [] hI h1 (by omega) (fun k hk => by simp at hk) rfl (by omega)).mono ?_
    rintro e w2 ⟨d, b, rfl, hor, hb2⟩
    refine ⟨d, b, rfl, fun w3 hb3 hB3 => ⟨[], d, ⟨rfl, ⟨World.ownsRow_nil _ _ _ _, fun h hh => (by cases hh), fun _ => rfl⟩, fun h hh => (by cases hh), World.ownsRow_nil _ _ _ _, (hb.trans (hb2.mono hb.size)).trans (hb3.mono (Nat.le_trans hb.size hb2.size))⟩, HopsR.nil _ _ _ _ _, hB3, Nat.le_trans hb.size hb2.size, ?_⟩⟩
    rcases hor with ⟨rfl, hd, hm⟩ | ⟨rfl, _, hn⟩
    · obtain ⟨y, rfl, hN⟩ := next_first hB (spAt Y) ((hmm d).1 hd) (fun x hx => hm x ((hmm x).2 hx))
      exact Or.inl ⟨rfl, y, rfl, hN⟩
    · refine Or.inr ⟨rfl, fun _ => first_none hB ?_, fun i hi => absurd hi (by simp)⟩
      cases hq : latL X [] (idsOf X R) with
      | nil => rfl
      | cons a r =>
        have : a ∈ latL X [] (ordF X rtP O) := (hmm a).2 (by rw [hq]; simp)
        rw [hn] at this
        cases this
  have HRD : Hid (∀ (oa : Option Addr) (ll oc : Nat) (ta : Option Addr) (tc : Nat) (gap : Int) (nb : Nat) (wr : World), RcI X W Y fin K R oa ll oc ta tc gap nb true wr → ∃ dy : Nod, Blk wr nb (ndL dy).toArray 73 ∧ Calls Tryz.prog 34 #[.pointer (some ⟨g, 0, none⟩), .int .u64 dy.tree] wr fun e w1 => ∃ dx, e = .returned (.tuple #[ndV dx, .bool true]) ∧ ∀ w2 rb, Below w1.heap.size w1 w2 → Blk w2 rb (ndL dx).toArray 73 → w1.heap.size ≤ rb → RcB X W Y fin K R g ll nb rb dy dx oa oc ta tc gap w2) := fun oa ll oc ta tc gap nb wr h => rc_round hB hpar hZ hO oa ll oc ta tc gap nb wr h
  clear hZ hO hB hpar hn1
  go_enter Tryz.func13, Tryz.ntmps13
  go_wp2_with (first
    | (go_at_call 8; refine RT.mono ?_; clear RT; rintro e w1 ⟨va, vl, vc, rfl, hv, hb1⟩; have LL := L0.out w1 va vl vc hv.out.1 hv.out.2 hb1; clear L0 hv hb1)
    | (go_at_call 33; refine LL.mono ?_; clear LL; rintro e w2 ⟨d, b, rfl, hc⟩; have HC : Hid (∀ w3, Below w2.heap.size w2 w3 → Blk w3 w2.heap.size (ndL d).toArray 73 → RcI X W Y fin K R none 0 0 none 0 0 w2.heap.size b w3) := hc; clear hc)
    | (refine wpList_stW rfl 73 _ _ rfl w2.heap.size (ndL zNd) (ndL d) 73 (Blk.new _ _ _) rfl rfl rfl (by kernel_rfl) (ndL_one d) ?_; intro w3 n3 u3; have HI3 : Hid (RcI X W Y fin K R none 0 0 none 0 0 w2.heap.size b w3) := HC.out w3 (((Below.refl _ _).alloc (Nat.le_refl _) _).trans (u3.below (by simp) (fun k hk e => by omega))) n3; clear HC n3 u3))
  obtain ⟨nb, hnb⟩ : ∃ x, w2.heap.size = x := ⟨_, rfl⟩
  rw [hnb] at HI3 ⊢
  clear hnb
  go_loopw [3, 5, 6, 7] (fun z3 z5 z6 z7 wr => ∃ (oa : Option Addr) (ll oc : Nat) (ta : Option Addr) (tc : Nat) (gap : Int) (b : Bool), z3 = .slice oa ll oc ∧ z5 = .bool b ∧ z6 = .slice ta ll tc ∧ z7 = .int .i64 gap ∧ Hid (RcI X W Y fin K R oa ll oc ta tc gap nb b wr)) (fun z3 _ _ _ _ => Y.length + 1 - lenR z3)
  case atStart => exact ⟨none, 0, 0, none, 0, 0, b, rfl, rfl, rfl, rfl, HI3⟩
  case round =>
    clear HI3
    obtain ⟨oa, ll, oc, ta, tc, gap, b, rfl, rfl, rfl, rfl, HI⟩ := hrel
    cases b with
    | false =>
      clear HRD
      go_wp2
      go_ret
      obtain ⟨H, d', hM, hR, _, _, hor⟩ := HI.out
      rcases hor with ⟨e, _⟩ | ⟨_, hn1, hn2⟩
      · cases e
      · exact ⟨_, _, _, H, rfl, hM.len, hM.hops, ⟨hR, hn1, hn2⟩, hM.bel⟩
    | true =>
      obtain ⟨dy, hnb, ND⟩ := HRD.out oa ll oc ta tc gap nb wr HI.out
      have c3 : wr.cell? ⟨nb, 3, none⟩ = some (.int .u64 dy.tree) := hnb.cell 3 rfl
      clear HRD HI hnb
      unfold ndV at ND
      go_upto_region 9 with (go_at_call 34; refine ND.mono ?_; clear ND; rintro e w1 ⟨dx, rfl, hB2⟩; have HB2 : Hid (∀ w2 rb, Below w1.heap.size w1 w2 → Blk w2 rb (ndL dx).toArray 73 → w1.heap.size ≤ rb → RcB X W Y fin K R g ll nb rb dy dx oa oc ta tc gap w2) := hB2; clear hB2 c3)
      obtain ⟨V2, hV2⟩ : ∃ V, w1.alloc (.cells #[.int .u64 dx.id, .int .u64 dx.par, .int .i64 dx.org, .int .u64 dx.tree, .int .i64 dx.dep, .int .i64 dx.fr, .int .i64 dx.til] 73) = V := ⟨_, rfl⟩
      have hRB := HB2.out V2 w1.heap.size (by rw [← hV2]; exact (Below.refl _ _).alloc (Nat.le_refl _) _) (by rw [← hV2]; exact Blk.new _ _ _) (Nat.le_refl _)
      obtain ⟨rb, hrb⟩ : ∃ x, w1.heap.size = x := ⟨_, rfl⟩
      rw [hrb] at hRB ⊢
      rw [hV2]
      clear hV2 hrb HB2
      obtain ⟨hlY, hll, hbk, hpath⟩ := hRB
      unfold ndV at hpath
      have HLL : Hid (ll < Y.length ∧ ll ≤ 1000) := ⟨hlY, hll⟩
      obtain ⟨k1, k2⟩ := hbk V2 (Below.refl _ _)
      have r0 : V2.cell? ⟨rb, 0, none⟩ = some (.int .u64 dx.id) := k1.cell 0 rfl
      have r1 : V2.cell? ⟨rb, 1, none⟩ = some (.int .u64 dx.par) := k1.cell 1 rfl
      have r2 : V2.cell? ⟨rb, 2, none⟩ = some (.int .i64 dx.org) := k1.cell 2 rfl
      have r3 : V2.cell? ⟨rb, 3, none⟩ = some (.int .u64 dx.tree) := k1.cell 3 rfl
      have r4 : V2.cell? ⟨rb, 4, none⟩ = some (.int .i64 dx.dep) := k1.cell 4 rfl
      have r5 : V2.cell? ⟨rb, 5, none⟩ = some (.int .i64 dx.fr) := k1.cell 5 rfl
      have r6 : V2.cell? ⟨rb, 6, none⟩ = some (.int .i64 dx.til) := k1.cell 6 rfl
      have n0 : V2.cell? ⟨nb, 0, none⟩ = some (.int .u64 dy.id) := k2.cell 0 rfl
      have HP : Hid (∀ V, Below V2.heap.size V2 V → Calls Tryz.prog 27 #[.pointer (some ⟨g, 0, none⟩), .agg #[.int .u64 dx.id, .int .u64 dx.par, .int .i64 dx.org, .int .u64 dx.tree, .int .i64 dx.dep, .int .i64 dx.fr, .int .i64 dx.til]] V fun e w3 => ∃ la ln lc xs, e = .returned (.slice la ln lc) ∧ Below V.heap.size V w3 ∧ RcC X W Y fin K R g ll nb rb dy dx oa oc ta tc gap xs (.slice la ln lc) w3) := hpath
      clear hlY hll hbk hpath k1 k2
      go_cut [3] from 22 to 68 (fun s3 wx => ∃ va vc, s3 = .slice va (ll + 1) vc ∧ Hid (RcD X W Y fin K R g ll nb rb dy dx ta tc va vc wx))
      case first =>
        go_region_law (first
          | (go_simp; go_at_call 27; (with_reducible refine (HP.out _ (by repeat' first | exact Below.refl _ _ | refine Below.drew ?_)).mono ?_); rintro e w3 ⟨la, ln, lc, xs, rfl, hb3, hC⟩; obtain ⟨hC1, hC2⟩ := hC; have s0 : w3.cell? ⟨rb, 0, none⟩ = some (.int .u64 dx.id) := (hC1 w3 (Below.refl _ _)).2.2.1.cell 0 rfl; have s1 : w3.cell? ⟨nb, 0, none⟩ = some (.int .u64 dy.id) := (hC1 w3 (Below.refl _ _)).2.2.2.cell 0 rfl; have HOWN : Hid (∀ u, Below w3.heap.size w3 u → u.ownsRow W.heap.size 87 4 (.slice oa ll oc) ll xs ∧ W.heap.size ≤ u.heap.size ∧ Blk u rb (ndL dx).toArray 73 ∧ Blk u nb (ndL dy).toArray 73) := hC1; have HSTEP : Hid (∀ u2 u3 va vc, Below w3.heap.size w3 u2 → u2.grownBy u3 (Value.slice oa ll oc).ownBlock → u3.ownsRow W.heap.size 87 4 (.slice va (ll + 1) vc) (ll + 1) (xs ++ [.int .u64 dx.id, .int .u64 dy.id, .int .i64 gap, .slice la ln lc]) → RcD X W Y fin K R g ll nb rb dy dx ta tc va vc u3) := hC2; clear hC1 hC2 hb3 HP r0 r1 r2 r3 r4 r5 r6 n0)
          | (refine step_appX _ (by rfl) _ _ 43 43 (by rfl) W.heap.size 87 i0 (.agg #[.int .u64 0, .int .u64 0, .int .i64 0, .slice none 0 0]) 4 48 Tryz.underlying43 hi0 hz0 hz1 hz2 rfl (.slice oa ll oc) ll xs (by rfl) (HOWN.out _ (by repeat' first | exact Below.refl _ _ | refine Below.alloc ?_ (by first | omega | (simp; omega) | (simp; done)) _ | refine Below.drew ?_)).1 (.slice (some ⟨w3.heap.size, 0, none⟩) 1 1) 1 [.int .u64 dx.id, .int .u64 dy.id, .int .i64 gap, .slice la ln lc] (by rfl) (src_at4 Tryz.underlying43 (by first | exact heap_alloc_new _ _ | exact heap_alloc_new w3.drew _) rfl rfl rfl rfl) (by have := HLL.out; unfold maxLen; omega) (by have := HLL.out; omega) (by have := (HOWN.out w3 (Below.refl _ _)).2.1; first | (simp; omega) | omega) ?_; intro v8 w8 o8 g8 m8; obtain ⟨va, vc, rfl⟩ := owns_sliceS o8; have HD8 : Hid (RcD X W Y fin K R g ll nb rb dy dx ta tc va vc w8) := HSTEP.out _ w8 va vc (by repeat' first | exact Below.refl _ _ | refine Below.alloc ?_ (by first | omega | (simp; omega) | (simp; done)) _ | refine Below.drew ?_) g8 o8; clear o8 g8 m8 HOWN HSTEP))
        all_goals
          go_wp2
          go_meet
          case rel => exact ⟨va, vc, rfl, HD8⟩
      case rest =>
        obtain ⟨va, vc, rfl, HD⟩ := hcut
        rename World => wx
        obtain ⟨M, hrb, hT, hML, hl4, hsz, hE⟩ := HD.out
        have q0 : wx.cell? ⟨rb, 0, none⟩ = some (.int .u64 dx.id) := hrb.cell 0 rfl
        have HT : Hid (wx.ownsRow W.heap.size 24 1 (.slice ta ll tc) ll (M.flatMap uL) ∧ M.length = ll ∧ W.heap.size ≤ wx.heap.size) := ⟨hT, hML, hsz⟩
        have HEE : Hid (∀ ta' tc' u4, u4.ownsRow W.heap.size 24 1 (.slice ta' (ll + 1) tc') (ll + 1) ((M ++ [dx.id]).flatMap uL) → Upd (fun q => (Value.slice ta ll tc).ownBlock = some q) wx u4 → RcE X W Y fin K R g ll nb rb dy dx va vc ta' tc' u4) := hE
        clear r0 r1 r2 r3 r4 r5 r6 n0 HP hrb hT hML hsz hE HD
        go_upto_region 11 with (at_builtin; (refine wpList_appU wx rfl _ _ rfl W.heap.size (.slice ta ll tc) ll M dx.id _ rfl rfl HT.out.1 HT.out.2.1 rfl (by omega) HT.out.2.2 ?_; intro ta' tc' u4 ho4 uu4); have hE4 := HEE.out ta' tc' u4 ho4 uu4; clear ho4 uu4 HEE HT q0)
        obtain ⟨r4, SP⟩ := hE4
        have p0 : u4.cell? ⟨rb, 0, none⟩ = some (.int .u64 dx.id) := r4.cell 0 rfl
        clear r4
        unfold spV spC at SP
        go_upto_region 12 with (go_at_call 35; refine SP.mono ?_; clear SP; rintro e w5 ⟨a, ⟨pla, plc, paa, pac, pea, pec⟩, rfl, hF6⟩; have HF6 : Hid (∀ w6, Below w5.heap.size w5 w6 → RcF X W Y fin K R g ll nb rb dy dx va vc ta' tc' a ⟨pla, plc, paa, pac, pea, pec⟩ w6) := hF6; clear hF6 p0)
        obtain ⟨l, hl⟩ : ∃ l, a.links.length = l := ⟨_, rfl⟩
        obtain ⟨V5, hV5⟩ : ∃ V, w5.alloc (.cells #[.int .u64 a.hi, .int .u64 a.lo, .int .u64 a.id, .int .u64 a.par, .slice pla a.links.length plc, .string a.svc, .string a.op, .int .i64 a.kind, .int .i64 a.status, .int .i64 a.start, .int .i64 a.fin, .slice paa a.attrs.length pac, .slice pea a.events.length pec] 97) = V := ⟨_, rfl⟩
        have LT := HF6.out V5 (by rw [← hV5]; exact (Below.refl _ _).alloc (Nat.le_refl _) _)
        have m4 : V5.cell? ⟨w5.heap.size, 4, none⟩ = some (.slice pla a.links.length plc) := by rw [← hV5]; exact (Blk.new w5 #[.int .u64 a.hi, .int .u64 a.lo, .int .u64 a.id, .int .u64 a.par, .slice pla a.links.length plc, .string a.svc, .string a.op, .int .i64 a.kind, .int .i64 a.status, .int .i64 a.start, .int .i64 a.fin, .slice paa a.attrs.length pac, .slice pea a.events.length pec] 97).cell 4 rfl
        unfold RcF at LT
        simp only at LT
        rw [hl] at m4 LT
        rw [hV5]
        obtain ⟨ab, hab⟩ : ∃ b, w5.heap.size = b := ⟨_, rfl⟩
        rw [hab] at m4 ⊢
        clear hV5 HF6 hab hl
        go_upto_region 13 with (first
          | (go_at_call 33; refine LT.mono ?_; clear LT; rintro e w7 ⟨d', b', rfl, hn7, hK⟩; have HN7 : Hid (Blk w7 nb (ndL dy).toArray 73) := hn7; have HK : Hid (∀ w8, Blk w8 nb (ndL d').toArray 73 → Upd (fun k => k = nb) w7 w8 → Blk w8 rb (ndL dx).toArray 73 ∧ ∀ w9, Below w8.heap.size w8 w9 → RcI X W Y fin K R va (ll + 1) vc ta' tc' (IntKind.i64.wrap (dx.fr - d'.til)) nb b' w9) := hK; clear hn7 hK m4)
          | (refine wpList_stW rfl 73 _ _ rfl nb (ndL dy) (ndL d') 73 HN7.out rfl rfl rfl (by kernel_rfl) (ndL_one d') ?_; intro w8 n8 u8; obtain ⟨r8, hE8⟩ := HK.out w8 n8 u8; have HE8 : Hid (RcI X W Y fin K R va (ll + 1) vc ta' tc' (IntKind.i64.wrap (dx.fr - d'.til)) nb b' w8) := hE8 w8 (Below.refl _ _); have s5 : w8.cell? ⟨rb, 5, none⟩ = some (.int .i64 dx.fr) := r8.cell 5 rfl; have s6 : w8.cell? ⟨nb, 5 + 1, none⟩ = some (.int .i64 d'.til) := n8.cell 6 rfl; clear n8 u8 r8 hE8 HK HN7))
        go_wp2
        go_roundw
        case rel => exact ⟨va, ll + 1, vc, ta', tc', IntKind.i64.wrap (dx.fr - d'.til), b', rfl, rfl, rfl, by rw [IntWalk.i64_left], HE8⟩
        case measure => (have := HLL.out.1; simp only [lenR]; omega)
end Go.Proofs.YthajamokaabogaaGreatDoor
