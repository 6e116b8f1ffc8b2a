/-
  RzI.
-/
import Derived.Test.YtiflfapdffkcbaaGreatDoorRzH
namespace Go.Proofs.YtiflfapdffkcbaaGreatDoor
open Go Go.RowKit Go.Maps Go.WideMaps Go.Shelf
set_option maxRecDepth 100000
attribute [local go_sem] Oper.semAt_some

/-- What told tells. -/
def ToldS9 (w : World) (X : List It) (e : Ending) (w' : World) : Prop := ∃ ad c Y P, e = .returned (.slice ad Y.length c) ∧ Y.Pairwise (fun x y => cmpN x y < 0) ∧ (∀ y, y ∈ Y ↔ y ∈ spsX X) ∧ (∀ V : World, w'.heap.size ≤ V.heap.size → (∀ k, w.heap.size ≤ k → k < w'.heap.size → V.heap[k]? = w'.heap[k]?) → SpsAt V ad Y.length Y P) ∧ Below w.heap.size w w'
/-- Within the loop. -/
structure TdI (X0 : World) (U : Nat) (Z : List It) (k : Nat) (V : World) : Prop where
  keep : KpU X0.heap.size U X0 V
  own : ∃ v K, Blk V U #[v] 22 ∧ OwnSF (X0.heap.size + 2) V v K ∧ K.map (·.1) = (Z.take k).map (fun z => z.a)
theorem TdI.put {X0 : World} {U : Nat} {Z : List It} {k : Nat} {V : World} (h : TdI X0 U Z k V) (hU : U < X0.heap.size) {o : Obj} (o' : Obj) (ho : V.heap[X0.heap.size + 1]? = some o) (_ : o.isCells = false) : TdI X0 U Z k (V.putObj (X0.heap.size + 1) o') := by
  obtain ⟨v, K, h1, h2, h3⟩ := h.own
  refine ⟨⟨h.keep.os, h.keep.tape, h.keep.output, by rw [World.putObj_size]; exact h.keep.size, fun j hj hn => (World.putObj_heap_other (by omega)).trans (h.keep.block j hj hn)⟩, v, K, (World.putObj_heap_other (by omega)).trans h1, h2.put o' (by omega) ho, h3⟩
theorem spsZ_of {X : List It} {Z : List It} (h : RisS X Z) : (Z.map (fun z => z.a)).Pairwise (fun x y => cmpN x y < 0) ∧ ∀ y, y ∈ Z.map (fun z => z.a) ↔ y ∈ spsX X := by
  refine ⟨List.pairwise_map.2 h.up, fun y => ?_⟩
  unfold spsX
  simp only [List.mem_map]
  constructor
  · rintro ⟨z, hz, rfl⟩
    exact ⟨z, (h.mem z).1 hz, rfl⟩
  · rintro ⟨z, hz, rfl⟩
    exact ⟨z, (h.mem z).2 hz, rfl⟩
theorem OwnSF.stay {base : Nat} {w W : World} {v : Value} {L : List Sq} (h : OwnSF base w v L) (hs : w.heap.size ≤ W.heap.size) (he : ∀ k, base ≤ k → k < w.heap.size → W.heap[k]? = w.heap[k]?) : OwnSF base W v L := by
  refine ⟨⟨h.row.1, ?_⟩, fun x hx => ?_⟩
  · rcases h.row.2 with h0 | ⟨g, cap, cur, e, hb, hh, rest⟩
    · exact Or.inl h0
    · exact Or.inr ⟨g, cap, cur, e, hb, (he g hb (lt_of_block hh)).trans hh, rest⟩
  · obtain ⟨lo, hi, h0, h1, h2, h3⟩ := h.kept x hx
    exact ⟨lo, hi, h0, Nat.le_trans h1 hs, h2, fun w5 h5 => h3 w5 (fun k k1 k2 => (h5 k k1 k2).trans (he k (by omega) (by omega)))⟩
theorem KeptF.put {base : Nat} {w : World} {v : Value} {x : Sq} (h : KeptF base w v x) {l : Nat} {o : Obj} (o' : Obj) (hl : l < base) (_ : w.heap[l]? = some o) : KeptF base (w.putObj l o') v x := by
  obtain ⟨lo, hi, h0, h1, h2, h3⟩ := h
  exact ⟨lo, hi, h0, by rw [World.putObj_size]; exact h1, h2, fun w5 h5 => h3 w5 (fun k k1 k2 => (h5 k k1 k2).trans (World.putObj_heap_other (by omega)))⟩
/-- Within a round, ahead of the append. -/
structure TdJ (X0 : World) (U : Nat) (v : Value) (K : List Sq) (x : Sq) (xb : Nat) (V : World) : Prop where
  keep : KpU X0.heap.size U X0 V
  blk : Blk V U #[v] 22
  own : OwnSF (X0.heap.size + 2) V v K
  kept : KeptF (X0.heap.size + 2) V v x
  one : Blk V xb (spC x.1 x.2) 41
theorem TdJ.put {X0 : World} {U : Nat} {v : Value} {K : List Sq} {x : Sq} {xb : Nat} {V : World} (h : TdJ X0 U v K x xb V) (hU : U < X0.heap.size) (hx : X0.heap.size + 1 < xb) {o : Obj} (o' : Obj) (ho : V.heap[X0.heap.size + 1]? = some o) (_ : o.isCells = false) : TdJ X0 U v K x xb (V.putObj (X0.heap.size + 1) o') :=
  ⟨⟨h.keep.os, h.keep.tape, h.keep.output, by rw [World.putObj_size]; exact h.keep.size, fun j hj hn => (World.putObj_heap_other (by omega)).trans (h.keep.block j hj hn)⟩, (World.putObj_heap_other (by omega)).trans h.blk, h.own.put o' (by omega) ho, h.kept.put o' (by omega) ho, (World.putObj_heap_other (by omega)).trans h.one⟩
theorem OwnSF.lt {base : Nat} {w : World} {v : Value} {L : List Sq} (h : OwnSF base w v L) {k : Nat} (hk : v.ownBlock = some k) : base ≤ k ∧ k < w.heap.size := by
  obtain ⟨h1, cs, fz, h2⟩ := own_block h.row hk
  exact ⟨h1, lt_of_block h2⟩
/-- A round begins. -/
theorem TdI.begin {X0 A B : World} {U : Nat} {Z : List It} {k : Nat} {z : It} {p' : Pl} (h : TdI X0 U Z k A) (hA : X0.heap.size + 2 ≤ A.heap.size) (hb : Below A.heap.size A B) (hst : ∀ w5 : World, (∀ j, A.heap.size ≤ j → j < B.heap.size → w5.heap[j]? = B.heap[j]?) → SpAt w5 z.a p') : ∃ v K, K.map (·.1) = (Z.take k).map (fun z => z.a) ∧ TdJ X0 U v K (z.a, p') B.heap.size (B.alloc (.cells (spC z.a p') 41)) := by
  obtain ⟨v, K, h1, h2, h3⟩ := h.own
  have hb2 : Below B.heap.size B (B.alloc (.cells (spC z.a p') 41)) := (Below.refl _ _).alloc (Nat.le_refl _) _
  have hb3 := hb.trans (hb2.mono hb.size)
  have hk : KeptF (X0.heap.size + 2) B v (z.a, p') := ⟨A.heap.size, B.heap.size, hA, Nat.le_refl _, fun g hg hl => by have := (h2.lt hg).2; omega, hst⟩
  exact ⟨v, K, h3, h.keep.trans (Upd.ofBelow (S := fun j => j = U ∨ X0.heap.size ≤ j) hb3 (fun j h1 h2 => by omega)), h1.below hb3 h1.lt, h2.below hb3, hk.below hb2, Blk.new _ _ _⟩
/-- A round ends. -/
theorem TdJ.done {X0 V w6 : World} {U : Nat} {Z : List It} {k : Nat} {z : It} {p' : Pl} {v v' : Value} {K : List Sq} {xb : Nat} (h : TdJ X0 U v K (z.a, p') xb V) (hU : U < X0.heap.size) (hK : K.map (·.1) = (Z.take k).map (fun z => z.a)) (hk : k < Z.length) (hz : Z[k] = z) (ho : OwnSF (X0.heap.size + 2) w6 v' (K ++ [((z.a, p') : Sq)])) (hu : Upd (fun j => v.ownBlock = some j) V w6) : KeepsFrom X0.heap.size V (w6.setCell ⟨U, 0, none⟩ v') ∧ KpU X0.heap.size U V (w6.setCell ⟨U, 0, none⟩ v') ∧ TdI X0 U Z (k + 1) (w6.setCell ⟨U, 0, none⟩ v') := by
  have hne : ∀ j, v.ownBlock = some j → X0.heap.size + 2 ≤ j := fun j hj => (h.own.lt hj).1
  have hUU : Upd (fun j => j = U ∨ v.ownBlock = some j) V (w6.setCell ⟨U, 0, none⟩ v') := Upd.setCell (S := fun j => j = U ∨ v.ownBlock = some j) (hu.mono (fun _ _ e => Or.inr e)) (p := ⟨U, 0, none⟩) (fun _ => Or.inl rfl) v'
  have hkp : KpU X0.heap.size U V (w6.setCell ⟨U, 0, none⟩ v') := hUU.mono (fun j _ e => by
    rcases e with e | e
    · exact Or.inl e
    · exact Or.inr (by have := hne j e; omega))
  have hb6 : Blk w6 U #[v] 22 := h.blk.upd hu (fun e => by have := hne U e; omega)
  refine ⟨⟨hUU.size, fun j o hj hjo hc => ?_⟩, hkp, h.keep.trans hkp, v', K ++ [((z.a, p') : Sq)], ?_, ?_, ?_⟩
  · refine (hUU.block j (lt_of_block hjo) (fun e => ?_)).trans hjo
    rcases e with e | e
    · omega
    · obtain ⟨_, cs, fz, h9⟩ := own_block h.own.row e
      rw [hjo] at h9
      injection h9 with h9
      subst h9
      simp [Obj.isCells] at hc
  · exact hb6.set 0 v'
  · have hs : Upd (fun j => j = U) w6 (w6.setCell ⟨U, 0, none⟩ v') := Upd.setCell (S := fun j => j = U) (Upd.refl _ _) (p := ⟨U, 0, none⟩) (fun _ => rfl) v'
    refine ⟨ownsRow_upd ho.row hs (fun j hj e => by have := (ho.lt hj).1; omega), fun x hx => ?_⟩
    obtain ⟨lo, hi, h0, h1, h2, h3⟩ := ho.kept x hx
    exact ⟨lo, hi, h0, Nat.le_trans h1 hs.size, h2, fun w5 h5 => h3 w5 (fun j k1 k2 => (h5 j k1 k2).trans (hs.block j (by omega) (by omega)))⟩
  · rw [List.map_append, hK, List.take_succ_eq_append_getElem hk, List.map_append, hz]
    rfl
set_option maxHeartbeats 8000000 in
theorem told_any (s b : Nat) (M : Tc → Nat) (T : List Tc) (X : List It) (w : World) (h : StoreAt w s b M T X) (hx : X.length ≤ 100000000) :
    Calls Tryz.prog 10 #[.pointer (some ⟨s, 0, none⟩)] w fun e w' => ToldS9 w X e w' := by
  have HS : Hid (StoreAt w s b M T X) := h
  have HX : Hid (X.length ≤ 100000000) := hx
  have b0 : Below w.heap.size w (w.alloc (.cells #[.slice none 0 0] 22)) := (Below.refl _ _).alloc (Nat.le_refl _) _
  have HB0 : Hid (Below w.heap.size w (w.alloc (.cells #[.slice none 0 0] 22))) := b0
  have AL := all_any s b M T X (w.alloc (.cells #[.slice none 0 0] 22)) (h.below b0) hx
  have hnf : ∀ W lb, (binOp .eql 58 (.func (.func 33) #[] lb) .nilFunc).run Tryz.prog W = .ok (.bool false) W := fun _ _ => rfl
  clear h hx b0
  refine (callsIn_wide (n := 9)).1 ?_
  refine callsIn_of_wp_marks Tryz.func10 rfl trivial ?_
  simp only [Tryz.ntmps10, List.size_toArray, List.length_cons, List.length_nil, Nat.reduceSub, Nat.reduceAdd, Array.replicate_succ, Array.replicate_zero, List.push_toArray, List.append_toArray, List.nil_append, List.cons_append]
  gi_wp2_with (first
    | (gi_at_call 19; (with_reducible refine (callsIn_wide.2 AL).mono ?_); clear AL; rintro e X0 ⟨bx, g, c, Z, rfl, hZ, hbx, hrow, hg, hxx, hb⟩; have HA : Hid (RisS X Z ∧ Blk X0 bx #[.slice (some ⟨g, 0, none⟩) Z.length c] 22 ∧ RowQ X0 g (Z.map sqI) ∧ w.heap.size < g ∧ Below (w.alloc (.cells #[.slice none 0 0] 22)).heap.size (w.alloc (.cells #[.slice none 0 0] 22)) X0) := ⟨hZ, hbx, hrow, (by rw [World.size_alloc] at hg; omega), hb⟩; clear hZ hbx hrow hg hxx hb)
    | (refine ⟨trivial, ?_⟩; gi_at_call 19; (with_reducible refine (callsIn_wide.2 AL).mono ?_); clear AL; rintro e X0 ⟨bx, g, c, Z, rfl, hZ, hbx, hrow, hg, hxx, hb⟩; have HA : Hid (RisS X Z ∧ Blk X0 bx #[.slice (some ⟨g, 0, none⟩) Z.length c] 22 ∧ RowQ X0 g (Z.map sqI) ∧ w.heap.size < g ∧ Below (w.alloc (.cells #[.slice none 0 0] 22)).heap.size (w.alloc (.cells #[.slice none 0 0] 22)) X0) := ⟨hZ, hbx, hrow, (by rw [World.size_alloc] at hg; omega), hb⟩; clear hZ hbx hrow hg hxx hb))
  have hsz : w.heap.size < X0.heap.size := by have := HA.out.2.2.2.2.size; rw [World.size_alloc] at this; omega
  have hlow : Below w.heap.size w X0 := HB0.out.trans (HA.out.2.2.2.2.mono HB0.out.size)
  have hU0 : Blk X0 w.heap.size #[.slice none 0 0] 22 := (Blk.new w #[.slice none 0 0] 22).below HA.out.2.2.2.2 (by rw [World.size_alloc]; omega)
  have hZl : Z.length ≤ 100000000 := Nat.le_trans ((up_nodup HA.out.1.up).length_le_of_subset (fun x hx => (HA.out.1.mem x).1 hx)) HX.out
  have HG : Hid (w.heap.size < X0.heap.size ∧ Below w.heap.size w X0 ∧ Z.length ≤ 100000000) := ⟨hsz, hlow, hZl⟩
  refine wpIn_stepsB (F := Fence.wide) rfl (by omega) (gf := 33) (lb := #[.pointer (some ⟨bx, 0, none⟩)]) rfl trivial (enters_of Tryz.func33 (by kernel_rfl) rfl)
    (all_steps 8 bx g c w.heap.size (by omega) Z w X0 (fun z hz => HS.out.each z ((HA.out.1.mem z).1 hz)) (Nat.le_refl _) hsz hlow HA.out.2.1 HA.out.2.2.1 (by have := HA.out.2.2.2.1; omega) hZl)
    KpU.trans KpU.put ?_
    (fun k V => TdI X0 w.heap.size Z k V) (fun k V o o' h1 h2 h3 => h1.put hsz o' h2 h3)
    (fun W1 hb1 _ => ⟨Upd.ofBelow hb1 (fun j h1 h2 => by omega), .slice none 0 0, [], hU0.below hb1 hsz, ⟨World.ownsRow_nil _ _ _ _, fun x hx => by cases hx⟩, rfl⟩) ?_ ?_
  · rintro k A B args ⟨z, p', _, rfl, _⟩
    rfl
  · rintro l k A B args hk hA hI hAB ⟨z, p', hz, rfl, hst⟩
    obtain ⟨v, K, hK, hJ⟩ := hI.begin hA hAB hst
    have hkz : k < Z.length := hk
    have hzz : Z[k] = z := by rw [List.getElem?_eq_getElem hkz] at hz; exact Option.some.inj hz
    have HJ : Hid (TdJ X0 w.heap.size v K (z.a, p') B.heap.size (B.alloc (.cells (spC z.a p') 41)) ∧ K.map (·.1) = (Z.take k).map (fun z => z.a) ∧ (∃ h : k < Z.length, Z[k] = z) ∧ X0.heap.size + 2 ≤ B.heap.size) := ⟨hJ, hK, ⟨hkz, hzz⟩, Nat.le_trans hA hAB.size⟩
    clear hI hst hJ hK hzz hz hkz hnf hsz hlow hU0 hZl hA hAB
    unfold spV
    unfold spC at HJ ⊢
    gi_wp2
    refine ⟨(KeepsOthers.alloc _ _).from _, Upd.ofBelow (S := fun j => j = w.heap.size ∨ X0.heap.size ≤ j) ((Below.refl _ _).alloc (Nat.le_refl _) _) (fun j h1 h2 => by omega), TdJ X0 w.heap.size v K (z.a, p') B.heap.size, fun V o o' h1 h2 h3 => h1.put HG.out.1 (by have := HJ.out.2.2.2; omega) o' h2 h3, HJ.out.1, ?_⟩
    rintro V hV _ hVs
    clear hVs
    have HV : Hid (TdJ X0 w.heap.size v K (z.a, p') B.heap.size V) := hV
    obtain ⟨vo, vl, vc, rfl⟩ := row_shape hV.own.row
    have cu : V.cell? ⟨w.heap.size, 0, none⟩ = some (.slice vo vl vc) := hV.blk.cell 0 rfl
    have HKL : Hid (K.length ≤ 100000000) := by
      have := congrArg List.length HJ.out.2.1
      simp at this
      have h2 := HG.out.2.2
      show K.length ≤ 100000000
      omega
    have q0 : V.cell? ⟨B.heap.size, 0, none⟩ = some (.int .u64 z.a.hi) := HV.out.one.cell 0 rfl
    have q1 : V.cell? ⟨B.heap.size, 1, none⟩ = some (.int .u64 z.a.lo) := HV.out.one.cell 1 rfl
    have q2 : V.cell? ⟨B.heap.size, 2, none⟩ = some (.int .u64 z.a.id) := HV.out.one.cell 2 rfl
    have q3 : V.cell? ⟨B.heap.size, 3, none⟩ = some (.int .u64 z.a.par) := HV.out.one.cell 3 rfl
    have q4 : V.cell? ⟨B.heap.size, 4, none⟩ = some (.slice p'.la z.a.links.length p'.lc) := HV.out.one.cell 4 rfl
    have q5 : V.cell? ⟨B.heap.size, 5, none⟩ = some (.string z.a.svc) := HV.out.one.cell 5 rfl
    have q6 : V.cell? ⟨B.heap.size, 6, none⟩ = some (.string z.a.op) := HV.out.one.cell 6 rfl
    have q7 : V.cell? ⟨B.heap.size, 7, none⟩ = some (.int .i64 z.a.kind) := HV.out.one.cell 7 rfl
    have q8 : V.cell? ⟨B.heap.size, 8, none⟩ = some (.int .i64 z.a.status) := HV.out.one.cell 8 rfl
    have q9 : V.cell? ⟨B.heap.size, 9, none⟩ = some (.int .i64 z.a.start) := HV.out.one.cell 9 rfl
    have q10 : V.cell? ⟨B.heap.size, 10, none⟩ = some (.int .i64 z.a.fin) := HV.out.one.cell 10 rfl
    have q11 : V.cell? ⟨B.heap.size, 11, none⟩ = some (.slice p'.aa z.a.attrs.length p'.ac) := HV.out.one.cell 11 rfl
    have q12 : V.cell? ⟨B.heap.size, 12, none⟩ = some (.slice p'.ea z.a.events.length p'.ec) := HV.out.one.cell 12 rfl
    clear hV
    have HVS : Hid (X0.heap.size + 2 ≤ V.heap.size) := by
      have h1 := HV.out.one.lt
      have h2 := HJ.out.2.2.2
      show X0.heap.size + 2 ≤ V.heap.size
      omega
    gi_wp2_with (refine wpListIn_appS V rfl (.tmp 14) (.tmp 16) rfl (X0.heap.size + 2) (.slice vo vl vc) K (z.a, p') _ rfl V.heap.size rfl rfl HV.out.own HV.out.kept rfl (by have := HKL.out; omega) HVS.out ?_; intro v' w6 ho6 hu6; obtain ⟨vo', vl', vc', rfl⟩ := row_shape ho6.row; have H6 : Hid (OwnSF (X0.heap.size + 2) w6 (.slice vo' vl' vc') (K ++ [((z.a, p') : Sq)]) ∧ Upd (fun j => (Value.slice vo vl vc).ownBlock = some j) V w6) := ⟨ho6, hu6⟩; have cb : Blk w6 w.heap.size #[.slice vo vl vc] 22 := HV.out.blk.upd hu6 (fun e => by have h1 := (HV.out.own.lt e).1; have h2 := HG.out.1; omega); have c6 : w6.cell? ⟨w.heap.size, 0, none⟩ = some (.slice vo vl vc) := cb.cell 0 rfl; have f6 : w6.frozen? ⟨w.heap.size, 0, none⟩ = false := cb.frozen 0; clear ho6 hu6 cb)
    obtain ⟨hkz, hzz⟩ := HJ.out.2.2.1
    exact HV.out.done HG.out.1 HJ.out.2.1 hkz hzz H6.out.1 H6.out.2
  · rintro D W hD hI hDf
    obtain ⟨v, K, h1, h2, h3⟩ := hI.own
    have HI : Hid (OwnSF (X0.heap.size + 2) W v K ∧ K.map (·.1) = (Z.take Z.length).map (fun z => z.a) ∧ KpU X0.heap.size w.heap.size X0 W ∧ D = X0.heap.size) := ⟨h2, h3, hI.keep, hD⟩
    obtain ⟨vo, vl, vc, rfl⟩ := row_shape h2.row
    have cu : W.cell? ⟨w.heap.size, 0, none⟩ = some (.slice vo vl vc) := h1.cell 0 rfl
    have HDf : Hid (W.heap[D]? = some (.deferred (some []))) := hDf
    clear h1 h2 h3 hI hDf hnf hU0 hZl
    gi_wp2
    refine ⟨by simp, .inl ⟨_, _, rfl, run_takeDeferred HDf.out, ?_⟩⟩
    have hown := HI.out.1.put (l := D) (.deferred none) (by have := HI.out.2.2.2; omega) HDf.out
    obtain ⟨ad, c9, hv, _, hsp⟩ := hown.own.sps
    have hK := HI.out.2.1
    rw [List.take_of_length_le (Nat.le_refl _)] at hK
    have hlen : K.length = (Z.map (fun z => z.a)).length := by rw [← hK, List.length_map]
    have hS : ∀ V : World, (W.putObj D (.deferred none)).heap.size ≤ V.heap.size → (∀ k, w.heap.size ≤ k → k < (W.putObj D (.deferred none)).heap.size → V.heap[k]? = (W.putObj D (.deferred none)).heap[k]?) → SpsAt V ad (Z.map (fun z => z.a)).length (Z.map (fun z => z.a)) (fun i => (K.map (·.2)).getD i plQ) := fun V h1 h2 => by
      obtain ⟨ad', c', hv', _, hsp'⟩ := (hown.stay h1 (fun k k1 k2 => h2 k (by have := HG.out.1; omega) k2)).own.sps
      rw [hv] at hv'
      simp only [Value.slice.injEq, true_and] at hv'
      obtain ⟨rfl, _⟩ := hv'
      have := hsp' _ rfl
      rw [hK, hlen] at this
      exact this
    rw [hlen] at hv
    have hDl : Upd (fun j => j = D) W (W.putObj D (.deferred none)) := ⟨rfl, rfl, rfl, by rw [World.putObj_size]; exact Nat.le_refl _, fun k _ hn => World.putObj_heap_other (fun e => hn (by omega))⟩
    have hlow : Below w.heap.size w (W.putObj D (.deferred none)) := by
      have hs := HG.out.2.1.size
      have h1 : Below w.heap.size X0 W := HI.out.2.2.1.below hs (fun j hj e => by omega)
      exact (HG.out.2.1.trans h1).trans (hDl.below (Nat.le_trans hs HI.out.2.2.1.size) (fun j hj e => by have := HI.out.2.2.2; omega))
    refine ⟨_, results_tmp rfl _ _ _, ?_⟩
    exact ⟨ad, c9, Z.map (fun z => z.a), _, by rw [← hv]; rfl, (spsZ_of HA.out.1).1, (spsZ_of HA.out.1).2, hS, hlow⟩
end Go.Proofs.YtiflfapdffkcbaaGreatDoor
