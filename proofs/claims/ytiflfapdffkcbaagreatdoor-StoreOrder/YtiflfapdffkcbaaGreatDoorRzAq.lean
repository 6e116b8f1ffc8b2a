/-
  Merged: RzA, RzB.
-/
import Derived.Test.YtiflfapdffkcbaaGreatDoorSAq
import Derived.Test.YtiflfapdffkcbaaGreatDoorSYq
import Derived.Test.YtiflfapdffkcbaaGreatDoorSdF
import Derived.OwnWalk
import Derived.Handy
namespace Go.Proofs.YtiflfapdffkcbaaGreatDoor
open Go Go.RowKit Go.Maps Go.WideMaps
set_option maxRecDepth 100000

/-- IDs in a row of one's own. -/
def OwnD (base : Nat) (w : World) (v : Value) (L : List Int) : Prop := w.ownsRow base 34 1 v L.length (L.map (Value.int .u64))
theorem OwnD.below {base : Nat} {w w' : World} {v : Value} {L : List Int} (h : OwnD base w v L) (hb : Below w.heap.size w w') : OwnD base w' v L := ownsRow_upd h (Upd.ofBelow (S := fun _ => False) hb (fun k hk hk' => by omega)) (fun _ _ h => h)
/-- An ID is appended. -/
theorem wpList_appD {ops : Array Oper} {rest : List Oper} {o : Oper} {a : Act} {Q : Exit → Act → World → Prop} (w : World) (hgd : o.guard = none) (s x : Operand)
    (ho : o.op = .call { callee := .builtin .append, args := #[s, x], argTypes := #[35, 35] })
    (base : Nat) (v : Value) (L : List Int) (c : Int) (b : Nat) (hb : b = w.heap.size) (hv : a.eval s = v) (hown : OwnD base w v L) (hx : a.eval x = .slice (some ⟨b, 0, none⟩) 1 1) (hlen : L.length ≤ 1000000000000) (hbase : base ≤ w.heap.size)
    (h : ∀ v' w', OwnD base w' v' (L ++ [c]) → Upd (fun k => v.ownBlock = some k) w w' → wpList Tryz.prog ops Q rest (a.put o.dst v') w') : wpList Tryz.prog ops Q (o :: rest) a (w.alloc (.cells #[.int .u64 c] 34)) := by
  subst hb
  obtain ⟨i0, hi0, hz0, hz1, hz2⟩ := info_parts infoSIx
  have hbw : Below w.heap.size w (w.alloc (.cells #[.int .u64 c] 34)) := (Below.refl _ _).alloc (Nat.le_refl _) _
  have ho' : OwnD base (w.alloc (.cells #[.int .u64 c] 34)) v L := hown.below hbw
  have hs : Src Tryz.prog 1 35 (.slice (some ⟨w.heap.size, 0, none⟩) 1 1) 1 [.int .u64 c] (w.alloc (.cells #[.int .u64 c] 34)) := by
    refine Src.ofSlice _ Tryz.underlying35 ⟨w.heap.size, 0, none⟩ 1 1 _ rfl ?_ ?_
    · intro j u hj
      match j, hj with
      | 0, hj => simp at hj; subst hj; simp [Addr.add]
      | j + 1, hj => simp at hj
    · intro u hu
      simp at hu
      subst hu
      rfl
  refine wpList_app _ hgd s x 35 35 ho base 34 i0 _ 8 Tryz.underlying35 hi0 hz0 hz1 hz2 rfl v L.length (L.map (Value.int .u64)) hv ho' _ 1 [.int .u64 c] hx hs (by unfold maxLen; omega) (by omega) (by rw [World.size_alloc]; omega) ?_
  intro v' w' o8 g8 m8
  have hu1 : Upd (fun k => v.ownBlock = some k) (w.alloc (.cells #[.int .u64 c] 34)) w' := (Upd.refl _ _).grown g8 (fun k hk e => e)
  refine h v' w' ?_ ((Upd.ofBelow hbw (fun k h1 h2 => by omega)).trans hu1 (fun _ _ h => h))
  unfold OwnD
  rw [List.length_append, List.map_append]
  simpa using o8
theorem ranges_updV {S : Nat → Prop} {w w' : World} {k : TypeId} {R : Value → Option (DataW Value × List MemPlace)} {b r n : Nat} {D : DataW Value} {left : Lit → Bool} {cnt : Nat} (h : w.ranges Tryz.prog k R b r n D left cnt) (hu : Upd S w w') (hb' : ¬ S b) (hr' : ¬ S r) : w'.ranges Tryz.prog k R b r n D left cnt := by
  obtain ⟨es, clock, since, seen, c0, hb, hF, hs, hD, hr, rest⟩ := h
  exact ⟨es, clock, since, seen, c0, (hu.block b (lt_of_block hb) hb').trans hb, hF, hs, hD, (hu.block r (lt_of_block hr) hr').trans hr, rest⟩
theorem ranges_iterV {w : World} {k : TypeId} {R : Value → Option (DataW Value × List MemPlace)} {b r n : Nat} {D : DataW Value} {left : Lit → Bool} {cnt : Nat} (h : w.ranges Tryz.prog k R b r n D left cnt) {g : Nat} {cs : Array Value} {t : TypeId} {fz : Nat × Nat} (hg : w.heap[g]? = some (.cells cs t fz)) : g ≠ b ∧ g ≠ r := by
  obtain ⟨es, clock, since, seen, c0, hb, hF, hs, hD, hr, rest⟩ := h
  constructor
  · rintro rfl; rw [hb] at hg; simp at hg
  · rintro rfl; rw [hr] at hg; simp at hg
/-- Within the loop over a trace's map. -/
structure RsI (w : World) (D : DataW Value) (mb r : Nat) (wr : World) (left : Lit → Bool) (cnt : Nat) (I : List Int) (v : Value) : Prop where
  rg : wr.ranges Tryz.prog 34 valR mb r (Maps.size D) D left cnt
  own : OwnD w.heap.size wr v I
  nd : I.Nodup
  mem : ∀ i, i ∈ I ↔ (u64J i ∧ Maps.has D (ikey i) = true ∧ left (ikey i) = false)
  len : I.length + cnt ≤ Maps.size D
  low : Below w.heap.size w wr
theorem RsI.step {w wr w1 : World} {D : DataW Value} {mb r : Nat} {left : Lit → Bool} {cnt cnt1 : Nat} {I : List Int} {v : Value} {x : Int} {kl : Lit} {y : DataW Value × List MemPlace} (h : RsI w D mb r wr left cnt I v) (hr : w.heap.size ≤ r) (hkey : keyOf Tryz.prog 34 (.int .u64 x) = some kl) (hlk : left kl = true) (hat : ∀ zd, D.atKey kl zd = y.1) (hrg : w1.ranges Tryz.prog 34 valR mb r (Maps.size D) D (fun z => left z && !z.sameKey kl) cnt1) (hlt : cnt1 < cnt) (hg : wr.grownBy w1 (some r)) :
    OwnD w.heap.size w1 v I ∧ I.length ≤ Maps.size D ∧ w.heap.size ≤ w1.heap.size ∧ ∀ v' w', OwnD w.heap.size w' v' (I ++ [x]) → Upd (fun k => v.ownBlock = some k) w1 w' → RsI w D mb r w' (fun z => left z && !z.sameKey kl) cnt1 (I ++ [x]) v' := by
  obtain ⟨x', ex, rfl, hwf⟩ := Maps.keyOf_int_inv Tryz.underlying34 hkey
  simp only [Value.int.injEq, true_and] at ex
  subst ex
  have hx := wf_back hwf
  have hu : Upd (fun k => k = r) wr w1 := (Upd.refl _ _).grown hg (fun _ _ e => (Option.some.inj e).symm)
  have ho1 : OwnD w.heap.size w1 v I := by
    refine ownsRow_upd h.own hu (fun k hk e => ?_)
    obtain ⟨_, cs, fz, hc⟩ := own_block h.own hk
    exact (ranges_iterV h.rg hc).2 e
  have hl1 : Below w.heap.size w w1 := h.low.trans (hu.below h.low.size (fun k hk e => by omega))
  have hlen := h.len
  refine ⟨ho1, by omega, hl1.size, fun v' w' ho' hu' => ⟨?_, ho', ?_, ?_, ?_, ?_⟩⟩
  · refine ranges_updV hrg hu' (fun e => ?_) (fun e => ?_)
    · obtain ⟨_, cs, fz, hc⟩ := own_block ho1 e
      exact (ranges_iterV hrg hc).1 rfl
    · obtain ⟨_, cs, fz, hc⟩ := own_block ho1 e
      exact (ranges_iterV hrg hc).2 rfl
  · rw [List.nodup_append]
    refine ⟨h.nd, by simp, fun a ha b hb => ?_⟩
    simp at hb
    subst hb
    rintro rfl
    have := ((h.mem a).1 ha).2.2
    rw [show ikey a = Lit.int .u64 a from rfl, hlk] at this
    cases this
  · intro i
    rw [List.mem_append, List.mem_singleton, h.mem i, Bool.and_eq_false_iff, Bool.not_eq_false']
    constructor
    · rintro (⟨h1, h2, h3⟩ | rfl)
      · exact ⟨h1, h2, Or.inl h3⟩
      · exact ⟨hx, has_true_of_atKey hat, Or.inr (WideAt.sameKey_self (lawD.key hkey))⟩
    · rintro ⟨h1, h2, h3 | h3⟩
      · exact Or.inl ⟨h1, h2, h3⟩
      · exact Or.inr (ikey_inj (WideAt.sameKey_eq h3))
  · rw [List.length_append, List.length_singleton]; omega
  · exact hl1.trans (hu'.below hl1.size (fun k hk e => by have := (own_block ho1 e).1; omega))
theorem OwnD.row {base : Nat} {w : World} {v : Value} {L : List Int} (h : OwnD base w v L) (hp : L ≠ []) : ∃ g c R, v = .slice (some ⟨g, 0, none⟩) L.length c ∧ qs.U64R w g L R ∧ base ≤ g := by
  have hl : 0 < L.length := List.length_pos_iff.2 hp
  rcases h.2 with ⟨_, h0⟩ | ⟨g, cap, cur, rfl, hb, hh, _, _, hsz, ht⟩
  · omega
  · refine ⟨g, cap, cur.toList.drop (L.length * 1), rfl, ?_, hb⟩
    unfold qs.U64R Blk
    rw [← ht, List.take_append_drop]
    exact hh
/-- The spans of a trace, by rising IDs. -/
structure RisT (X : List It) (t : Tc) (Z : List It) : Prop where
  up : (Z.map (fun x => x.a.id)).Pairwise (· < ·)
  mem : ∀ x, x ∈ Z ↔ (x ∈ X ∧ (nmS x.a).1 = t)
def sqI (x : It) : Sq := (x.a, x.p)
theorem nmS_eq {a : Sp} {t : Tc} {i : Int} : nmS a = (t, i) ↔ ((nmS a).1 = t ∧ a.id = i) := by
  unfold nmS
  simp [Prod.ext_iff]
theorem find_ex {X : List It} (hn : (X.map (fun x => nmS x.a)).Nodup) {x : It} (hx : x ∈ X) : findX X (nmS x.a) = some x := by
  unfold findX
  induction X with
  | nil => cases hx
  | cons y r ih =>
    rw [List.map_cons, List.nodup_cons] at hn
    rcases List.mem_cons.1 hx with rfl | h
    · simp
    · have hne : nmS y.a ≠ nmS x.a := fun e => hn.1 (by rw [e]; exact List.mem_map.2 ⟨x, h, rfl⟩)
      rw [List.find?_cons_of_neg (by simpa using hne)]
      exact ih hn.2 h
theorem rist_of {X : List It} (hn : (X.map (fun x => nmS x.a)).Nodup) (t : Tc) (L : List Int) (hs : L.Pairwise (· < ·)) (hm : ∀ i, i ∈ L ↔ (findX X (t, i)).isSome = true) : ∃ Z, RisT X t Z ∧ Z.length = L.length ∧ ∀ k (h : k < L.length) (h2 : k < Z.length), findX X (t, L[k]) = some Z[k] := by
  have hall : ∀ i ∈ L, ∃ y, findX X (t, i) = some y := fun i hi => Option.isSome_iff_exists.1 ((hm i).1 hi)
  have key : ∀ K : List Int, (∀ i ∈ K, ∃ y, findX X (t, i) = some y) → ∃ Z : List It, Z.length = K.length ∧ Z.map (fun x => x.a.id) = K ∧ (∀ k (h : k < K.length) (h2 : k < Z.length), findX X (t, K[k]) = some Z[k]) := by
    intro K
    induction K with
    | nil => exact fun _ => ⟨[], rfl, rfl, fun k h => by simp at h⟩
    | cons i r ih =>
      intro h
      obtain ⟨y, hy⟩ := h i (by simp)
      obtain ⟨Z, h1, h2, h3⟩ := ih (fun j hj => h j (by simp [hj]))
      refine ⟨y :: Z, by simp [h1], ?_, fun k hk hk2 => ?_⟩
      · rw [List.map_cons, h2, (nmS_eq.1 (find_mem hy).2).2]
      · cases k with
        | zero => exact hy
        | succ k => exact h3 k (by simpa using hk) (by simpa using hk2)
  obtain ⟨Z, h1, h2, h3⟩ := key L hall
  refine ⟨Z, ⟨by rw [h2]; exact hs, fun x => ⟨fun hx => ?_, fun ⟨hx, ht⟩ => ?_⟩⟩, h1, h3⟩
  · obtain ⟨k, hk, rfl⟩ := List.mem_iff_getElem.1 hx
    have := find_mem (h3 k (by omega) hk)
    exact ⟨this.1, (nmS_eq.1 this.2).1⟩
  · have hf := find_ex hn hx
    have e : nmS x.a = (t, x.a.id) := nmS_eq.2 ⟨ht, rfl⟩
    rw [e] at hf
    have hi : x.a.id ∈ L := (hm _).2 (by rw [hf]; rfl)
    obtain ⟨k, hk, ek⟩ := List.mem_iff_getElem.1 hi
    have h4 := h3 k hk (by omega)
    rw [ek, hf] at h4
    rw [Option.some.inj h4]
    exact List.getElem_mem _
theorem Nest.get2 {w : World} {b : Nat} {M : Tc → Nat} {T : List Tc} {E : List (Nm × Value)} (h : Nest w b M T E) {ty e : TypeId} (hty : Tryz.prog.underlying ty = some (.map 34 e)) {z : Value} (hz : (zeroValue e).run Tryz.prog w = .ok z w) (t : Tc) (i : Int) (hi : u64J i) (hm : t ∈ T) {u : Value} (hu : lookE E (t, i) = some u) :
    (Instr.lookup ty (.map (some (M t))) (.int .u64 i) false).run Tryz.prog w = .ok u w := by
  obtain ⟨D, h1, h2, h3, h4⟩ := h.inner t hm
  obtain ⟨v, ps, hr, hv⟩ := World.ownsMap.lookup h1 lawD hty hz (valR_mk _) (key_d i hi)
  rw [hr]
  rw [h3 i u hu] at hv
  rw [valR_inv hv]
def zq9 : Sq := (zS0, plZ)
theorem made_q (n : Nat) : madeCells (Value.agg zSpL.toArray).cells (n * 13) = ((List.replicate n zq9).flatMap sqL).toArray := by
  have hm : ∀ t, t < n * 13 → (madeCells (Value.agg zSpL.toArray).cells (n * 13))[t]? = zSpL[t % 13]? := fun t ht => by
    have hl : t % 13 < zSpL.length := by show t % 13 < 13; omega
    have h13 : zSpL.length = 13 := rfl
    simp [madeCells, Value.cells, ht, hl]
    rw [h13]
    simp [hl]
  apply Array.ext_getElem?
  intro t
  by_cases ht : t < n * 13
  · rw [hm t ht]
    have e : t = t / 13 * 13 + t % 13 := by omega
    rw [List.getElem?_toArray]
    conv => rhs; rw [e]
    rw [sqF_get _ (t / 13) (by simp; omega) (t % 13) (by omega)]
    simp [show sqL zq9 = zSpL from rfl]
  · rw [Array.getElem?_eq_none (by simp [madeCells]; omega), Array.getElem?_eq_none (by rw [List.size_toArray, sqF_len]; simp; omega)]
end Go.Proofs.YtiflfapdffkcbaaGreatDoor

namespace Go.Proofs.YtiflfapdffkcbaaGreatDoor
open Go Go.RowKit Go.Maps Go.WideMaps
set_option maxRecDepth 100000

theorem infoSp14 : (Tryz.prog.info? 41).map (fun i => (i.zero, i.size, i.bytes)) = some (some (.agg zSpL.toArray), 13, 168) := by kernel_rfl
/-- What the sort leaves: the names of a trace, rising. -/
theorem ids_done {w wr : World} {D : DataW Value} {mb r : Nat} {cnt : Nat} {left : Lit → Bool} {I : List Int} {v : Value} {X : List It} {t : Tc} (h : RsI w D mb r wr left cnt I v) (hl : ∀ kl, left kl = false) (hD : ∀ i, u64J i → Maps.has D (ikey i) = (lookE (entE X) (t, i)).isSome) (hok : ∀ i, (findX X (t, i)).isSome = true → u64J i) {L : List Int} (hp : qs.PermOn 0 I.length I L) (hs : qs.SortedOn 0 I.length L) : L.length = I.length ∧ L.Pairwise (· < ·) ∧ ∀ i, i ∈ L ↔ (findX X (t, i)).isSome = true := by
  have hperm := PermOnU.perm hp (Nat.le_refl _)
  have hlen := hp.len
  have hnd : L.Nodup := hperm.nodup_iff.2 h.nd
  refine ⟨hlen, ?_, fun i => ?_⟩
  · rw [List.pairwise_iff_getElem]
    intro i j hi hj hij
    have h1 := hs i j (Nat.zero_le _) hij (by omega)
    rw [← qs.atL_get hi, ← qs.atL_get hj] at h1
    have h2 : L[i] ≠ L[j] := fun e => by
      have := (List.getElem_inj hnd).1 e
      omega
    omega
  · rw [hperm.mem_iff, h.mem i]
    have e : ∀ i, (lookE (entE X) (t, i)).isSome = (findX X (t, i)).isSome := fun i => by rw [look_ent, Option.isSome_map]
    constructor
    · rintro ⟨h1, h2, _⟩
      rw [hD i h1, e] at h2
      exact h2
    · intro h2
      have h1 := hok i h2
      exact ⟨h1, by rw [hD i h1, e]; exact h2, hl _⟩
/-- Where the second loop stands. -/
structure RlI (w wr : World) (g r : Nat) (L : List Int) (R : List Value) (Z : List It) (k : Nat) : Prop where
  ids : qs.U64R wr g L R
  row : RowQ wr r ((Z.take k).map sqI ++ List.replicate (Z.length - k) zq9)
  low : Below w.heap.size w wr
theorem rlI_set (Z : List It) (k : Nat) (hk : k < Z.length) : ((Z.take k).map sqI ++ List.replicate (Z.length - k) zq9).set k (sqI Z[k]) = (Z.take (k + 1)).map sqI ++ List.replicate (Z.length - (k + 1)) zq9 := by
  have e1 : ((Z.take k).map sqI).length = k := by simp; omega
  rw [List.set_append_right _ _ (by omega), e1, Nat.sub_self]
  obtain ⟨m, hm⟩ : ∃ m, Z.length - k = m + 1 := ⟨Z.length - k - 1, by omega⟩
  have hm2 : Z.length - (k + 1) = m := by omega
  rw [hm, hm2, List.replicate_succ, List.set_cons_zero, List.take_succ_eq_append_getElem hk, List.map_append, List.append_assoc]
  rfl
theorem RlI.next {w wr w' : World} {g r : Nat} {L : List Int} {R : List Value} {Z : List It} {k : Nat} (h : RlI w wr g r L R Z k) (hk : k < Z.length) (hgr : g ≠ r) (hr : w.heap.size ≤ r) (hq : RowQ w' r (((Z.take k).map sqI ++ List.replicate (Z.length - k) zq9).set k (sqI Z[k]))) (hu : Upd (fun j => j = r) wr w') : RlI w w' g r L R Z (k + 1) := by
  refine ⟨Blk.upd h.ids hu (fun e => hgr e), ?_, h.low.trans (hu.below h.low.size (fun j hj e => by omega))⟩
  rw [rlI_set Z k hk] at hq
  exact hq
/-- Spans of a store, as they lie in a row. -/
def TrisP (w : World) (X : List It) (t : Tc) (e : Ending) (w' : World) : Prop := ∃ r c Z, e = .returned (.slice (some ⟨r, 0, none⟩) Z.length c) ∧ RisT X t Z ∧ RowQ w' r (Z.map sqI) ∧ w.heap.size ≤ r ∧ Below w.heap.size w w'
set_option maxHeartbeats 4000000 in
theorem trising_any (s b : Nat) (M : Tc → Nat) (T : List Tc) (X : List It) (t : Tc) (w : World) (h : StoreAt w s b M T X) (ht : t ∈ T) (hx : X.length ≤ 1000000000) :
    Calls Tryz.prog 38 #[.map (some (M t))] w fun e w' => TrisP w X t e w' := by
  obtain ⟨D, d1, d2, d3, d4⟩ := h.nest.inner t ht
  have hsz : Maps.size D ≤ 1000000000 := by
    rw [d4]
    have := cnt_le (entE X) t
    have e : (entE X).length = X.length := by simp [entE]
    omega
  have HS : Hid (StoreAt w s b M T X ∧ t ∈ T) := ⟨h, ht⟩
  obtain ⟨i0, hi0, hz0, hz1, hz2⟩ := info_parts infoSIx
  have d5 : ∀ w', Below w.heap.size w w' → ownM w' 34 (M t) D := fun w' hb => d1.upd (S := fun _ => False) (Upd.ofBelow hb (fun k h1 h2 => by omega)) (fun h => h)
  have hlen : ∀ r W, Below w.heap.size w W → (Builtin.len_ #[61] r #[.map (some (M t))]).run Tryz.prog W = .ok (.int .i64 (Maps.size D)) W := fun r W hb => by
    have := (h.below hb).nest.len Tryz.underlying61 t r
    rw [inV, if_pos ht, ← d4] at this
    exact this
  have hne : ∃ i, (findX X (t, i)).isSome = true := by
    obtain ⟨x, hxX, e⟩ := h.full t ht
    have hf := find_ex h.nodup hxX
    exact ⟨x.a.id, by rw [← (nmS_eq.2 ⟨e, rfl⟩ : nmS x.a = (t, x.a.id)), hf]; rfl⟩
  have hok : ∀ i, (findX X (t, i)).isSome = true → u64J i := fun i hi => by
    obtain ⟨y, hy⟩ := Option.isSome_iff_exists.1 hi
    have := find_mem hy
    rw [← (nmS_eq.1 this.2).2]
    exact (h.each y this.1).fits.id
  have HDN : Hid (∀ r wr left cnt I v, RsI w D (M t) r wr left cnt I v → (∀ kl, left kl = false) → I ≠ [] ∧ ∀ L, qs.PermOn 0 I.length I L → qs.SortedOn 0 I.length L → L.length = I.length ∧ L.Pairwise (· < ·) ∧ ∀ i, i ∈ L ↔ (findX X (t, i)).isSome = true) := fun r wr left cnt I v hr hl => by
    refine ⟨fun e => ?_, fun L hp hs => ids_done hr hl d2 hok hp hs⟩
    obtain ⟨i, hi⟩ := hne
    have hu := hok i hi
    have := (hr.mem i).2 ⟨hu, by rw [d2 i hu, look_ent, Option.isSome_map]; exact hi, hl _⟩
    rw [e] at this
    cases this
  have HOK : Hid (∀ i, (findX X (t, i)).isSome = true → u64J i) := hok
  have HST : Hid (∀ w0 w1, OwnD w.heap.size w0 (.slice (some ⟨w.heap.size, 0, none⟩) 0 (Maps.size D)) [] → w.grownBy w0 none → w1.ranges Tryz.prog 34 valR (M t) w0.heap.size (Maps.size D) D (Maps.has D) (Maps.size D) → w0.grownBy w1 none → RsI w D (M t) w0.heap.size w1 (Maps.has D) (Maps.size D) [] (.slice (some ⟨w.heap.size, 0, none⟩) 0 (Maps.size D))) := fun w0 w1 ho hg hrg hg1 => by
    have b0 : Below w.heap.size w w0 := ((Upd.refl (fun _ => False) w).grown hg (fun _ _ e => by cases e)).below (Nat.le_refl _) (fun _ _ h => h)
    have u1 : Upd (fun _ => False) w0 w1 := (Upd.refl _ _).grown hg1 (fun _ _ e => by cases e)
    refine ⟨hrg, ownsRow_upd ho u1 (fun _ _ h => h), List.nodup_nil, fun i => ⟨fun hi => (by cases hi), fun hi => ?_⟩, by simp, b0.trans (u1.below b0.size (fun _ _ h => h))⟩
    rw [hi.2.1] at hi
    exact absurd hi.2.2 (by decide)
  have hl0 := fun r => hlen r w (Below.refl _ _)
  have HD5 : Hid (∀ w', w.grownBy w' none → ownM w' 34 (M t) D) := fun w' hg => d5 w' (((Upd.refl (fun _ => False) w).grown hg (fun _ _ e => by cases e)).below (Nat.le_refl _) (fun _ _ h => h))
  obtain ⟨mt, hmt⟩ : ∃ m, M t = m := ⟨_, rfl⟩
  have HMT : Hid (M t = mt) := hmt
  rw [hmt] at HDN HST hl0 HD5 ⊢
  obtain ⟨sz, hszz⟩ : ∃ z, Maps.size D = z := ⟨_, rfl⟩
  have HSZ : Hid (Maps.size D = sz) := hszz
  rw [hszz] at hl0 hsz
  have hszI : (sz : Int) ≤ 1000000000 := by omega
  clear h ht d1 d2 d3 d4 d5 hlen hne hok hmt hszz
  go_enter Tryz.func38, Tryz.ntmps38
  go_wp2_with (first
    | (at_make; refine wpList_make_own w rfl _ _ 35 rfl w.heap.size 34 i0 (.int .u64 0) 1 Tryz.underlying35 hi0 hz0 hz1 .i64 .i64 _ sz rfl rfl rfl (by rw [hz2]; omega) (by unfold maxLen; omega) (Nat.le_refl _) ?_; intro w0 o0 g0; have HO0 : Hid (OwnD w.heap.size w0 (.slice (some ⟨w.heap.size, 0, none⟩) 0 sz) [] ∧ w.grownBy w0 none) := ⟨o0, g0⟩; have d6 := HD5.out w0 g0; clear o0 g0 hl0)
    | (at_range; refine wpList_range_own w0 rfl _ 61 rfl 34 41 lawD Tryz.underlying61 _ mt _ D rfl d6 ?_; intro w1 hrg0 hg1 hs1; have P0 : Hid (RsI w D mt w0.heap.size w1 (Maps.has D) (Maps.size D) [] (.slice (some ⟨w.heap.size, 0, none⟩) 0 sz)) := (by rw [← HSZ.out]; exact HST.out w0 w1 (by rw [HSZ.out]; exact HO0.out.1) HO0.out.2 hrg0 hg1); have HR0 : Hid (w.heap.size ≤ w0.heap.size) := HO0.out.2.size; clear hrg0 hg1 hs1 d6 HST HD5 HO0))
  try go_frame
  generalize w0.heap.size = r at *
  go_loopw [3] (fun v wr => ∃ (left : Lit → Bool) (cnt : Nat) (I : List Int), RsI w D mt r wr left cnt I v) (fun _ wr => wr.rangeLeft mt r)
  case atStart => exact ⟨_, _, [], P0.out⟩
  case round =>
    obtain ⟨left, cnt, I, hR⟩ := hrel
    clear P0
    obtain ⟨ao, al, ac, rfl⟩ := row_shape hR.own
    obtain ⟨hal, _, _⟩ := own_cap hR.own
    subst hal
    have hrg := hR.rg
    have HR : Hid (RsI w D mt r wr left cnt I (.slice ao I.length ac)) := hR
    go_wp2_with (first
      | (at_next; refine wpList_next_ranges _ rfl _ rfl 34 lawD valR (Value.int .u64) id (fun key kl hk => by obtain ⟨x, rfl, _⟩ := Maps.keyOf_int_inv Tryz.underlying34 hk; exact ⟨x, rfl⟩) (fun v y hv => ⟨v, rfl⟩) mt r _ D left cnt rfl hrg ?_ ?_)
      | go_in)
    · intro _ hl0
      obtain ⟨hIne, hfin⟩ := HDN.out r wr left cnt I _ HR.out hl0
      have hIl := HR.out.len
      rw [HSZ.out] at hIl
      obtain ⟨g, c, R, hv, hU, hgb⟩ := HR.out.own.row hIne
      simp only [Value.slice.injEq, true_and] at hv
      obtain ⟨rfl, rfl⟩ := hv
      have HLW : Hid (Below w.heap.size w wr) := HR.out.low
      have HU : Hid (qs.U64R wr g I R ∧ w.heap.size ≤ g) := ⟨hU, hgb⟩
      have HF : Hid (∀ L, qs.PermOn 0 I.length I L → qs.SortedOn 0 I.length L → L.length = I.length ∧ L.Pairwise (· < ·) ∧ ∀ i, i ∈ L ↔ (findX X (t, i)).isSome = true) := hfin
      obtain ⟨n, hn⟩ : ∃ n, I.length = n := ⟨_, rfl⟩
      have SU := qs.sortU_any g n ac I R wr HU.out.1 hn (by omega)
      rw [hn] at HF ⊢
      have hnz : n ≤ 1000000000 := by omega
      clear hIne hfin hU hgb hrg hR hl0 HR HDN hIl hn
      go_upto_region 8 with (first
        | (go_at_call 48; (with_reducible refine SU.mono ?_); clear SU; rintro e w3 ⟨rfl, L, hp, hs, ht⟩; have HT : Hid (qs.U64R w3 g L R ∧ Upd (fun k => k = g) wr w3) := ht; have HLL : Hid (L.length = n ∧ L.Pairwise (· < ·) ∧ ∀ i, i ∈ L ↔ (findX X (t, i)).isSome = true) := HF.out L hp hs; clear hp hs ht HF)
        | (at_make; refine wpList_mk rfl _ _ 22 rfl 41 (.agg zSpL.toArray) 13 168 Tryz.underlying22 infoSp14 n rfl rfl (by omega) (by unfold maxLen; omega) ?_; intro w4 b4 hb4; have HN4 : Hid (RowQ w4 w3.heap.size (List.replicate n zq9) ∧ Below w3.heap.size w3 w4) := ⟨⟨[], by rw [List.append_nil, ← made_q]; exact b4⟩, hb4⟩; clear b4 hb4))
      obtain ⟨Z, hZ, hZl, hZk⟩ := rist_of HS.out.1.nodup t L HLL.out.2.1 HLL.out.2.2
      have hZn : Z.length = n := by rw [hZl]; exact HLL.out.1
      have HZ : Hid (RisT X t Z ∧ Z.length = n ∧ ∀ k (h : k < L.length) (h2 : k < Z.length), findX X (t, L[k]) = some Z[k]) := ⟨hZ, hZn, hZk⟩
      have hgl := HU.out.1.lt
      have hls := HT.out.2.size
      have HI0 : Hid (RlI w w4 g w3.heap.size L R Z 0) := by
        refine ⟨HT.out.1.below HN4.out.2, ?_, ?_⟩
        · have := HN4.out.1
          rw [← hZn] at this
          exact this
        · have h3 := HLW.out.trans (HT.out.2.below HLW.out.size (fun k hk e => by have := HU.out.2; omega))
          exact h3.trans (HN4.out.2.mono h3.size)
      have HG : Hid (g ≠ w3.heap.size ∧ w.heap.size ≤ w3.heap.size) := ⟨by omega, by have := HLW.out.size; omega⟩
      clear hZ hZl hZk hZn hgl hls HN4 HT HU HLW
      generalize w3.heap.size = r2 at *
      go_wp2
      go_loopw [28] (fun x wq => ∃ k : Nat, x = .int .i64 k ∧ k ≤ n ∧ Hid (RlI w wq g r2 L R Z k)) (fun x _ => n - (intOf x).toNat)
      case atStart => exact ⟨0, rfl, by omega, HI0⟩
      case round =>
        obtain ⟨k, rfl, hkn, HI⟩ := hrel
        clear HI0
        by_cases hlt : k < n
        · have hltd : (k : Int) < (n : Int) := by omega
          have hkL : k < L.length := by rw [HLL.out.1]; exact hlt
          have hkZ : k < Z.length := by rw [HZ.out.2.1]; exact hlt
          have hf := HZ.out.2.2 k hkL hkZ
          have c0 : wr.cell? ⟨g, k, none⟩ = some (.int .u64 (qs.atL L k)) := HI.out.ids.cell k hkL
          rw [qs.atL_get hkL] at hf
          obtain ⟨i, hi⟩ : ∃ i, qs.atL L k = i := ⟨_, rfl⟩
          rw [hi] at hf c0
          obtain ⟨z, hz⟩ : ∃ z, Z[k]'hkZ = z := ⟨_, rfl⟩
          rw [hz] at hf
          have hij : u64J i := HOK.out i (by rw [hf]; rfl)
          have hlk : (Instr.lookup 61 (.map (some mt)) (.int .u64 i) false).run Tryz.prog wr = .ok (.agg (spC z.a z.p)) wr := by
            have h9 := (HS.out.1.below HI.out.low).nest.get2 Tryz.underlying61 (zS wr) t i hij HS.out.2 (u := spV z.a z.p) (by rw [look_ent, hf]; rfl)
            rw [HMT.out] at h9
            exact h9
          have hrl : k < ((Z.take k).map sqI ++ List.replicate (Z.length - k) zq9).length := by simp; omega
          have HRL : Hid (∃ h : k < Z.length, Z[k] = z) := ⟨hkZ, hz⟩
          clear hf hi hz hij hkL hkZ
          go_wp2_with (refine wpList_stQ rfl (.tmp 38) (.tmp 37) rfl r2 k _ (sqI z) HI.out.row hrl rfl rfl ?_; intro w5 hq hu; have HI5 : Hid (RlI w w5 g r2 L R Z (k + 1)) := (by obtain ⟨h1, h2⟩ := HRL.out; subst h2; exact HI.out.next h1 HG.out.1 HG.out.2 hq hu); clear hq hu)
          go_roundw
          case rel => exact ⟨k + 1, by simp, by omega, HI5⟩
          case measure => (simp [intOf]; omega)
        · have hltd : ¬ (k : Int) < (n : Int) := by omega
          have hk : k = n := by omega
          have hrow := HI.out.row
          rw [List.take_of_length_le (by rw [HZ.out.2.1]; omega), show Z.length - k = 0 by rw [HZ.out.2.1]; omega, List.replicate_zero, List.append_nil] at hrow
          have HE : Hid (RowQ wr r2 (Z.map sqI) ∧ Below w.heap.size w wr) := ⟨hrow, HI.out.low⟩
          clear hrow HI hk
          go_wp2
          go_ret
          exact ⟨r2, n, Z, by rw [HZ.out.2.1]; rfl, HZ.out.1, HE.out.1, HG.out.2, HE.out.2⟩
    · intro x c kl y1 y2 w1' cnt1 hkey hlk hv hat hrg1 hlt hg1 hs1 hen
      obtain ⟨o1, l1, s1, hN⟩ := HR.out.step (y := (y1, y2)) HR0.out hkey hlk hat hrg1 hlt hg1
      have hlz : I.length ≤ 1000000000000 := by rw [HSZ.out] at l1; omega
      have HN : Hid (∀ v' w', OwnD w.heap.size w' v' (I ++ [x]) → Upd (fun k => (Value.slice ao I.length ac).ownBlock = some k) w1' w' → RsI w D mt r w' (fun z => left z && !z.sameKey kl) cnt1 (I ++ [x]) v') := hN
      have HO1 : Hid (OwnD w.heap.size w1' (.slice ao I.length ac) I ∧ w.heap.size ≤ w1'.heap.size) := ⟨o1, s1⟩
      have HLT : Hid (cnt1 < cnt) := hlt
      clear o1 s1 l1 hN hkey hlk hv hat hrg1 hg1 hs1 hlt hR hrg HDN
      go_wp2_with (at_builtin; refine wpList_appD w1' rfl (.tmp 17) (.tmp 19) rfl w.heap.size (.slice ao I.length ac) I x _ rfl rfl HO1.out.1 rfl hlz HO1.out.2 ?_; intro v' w6 ho6 hu6; have HI6 : Hid (RsI w D mt r w6 (fun z => left z && !z.sameKey kl) cnt1 (I ++ [x]) v') := HN.out v' w6 ho6 hu6; clear ho6 hu6)
      go_roundw
      case rel => exact ⟨_, cnt1, _, HI6.out⟩
      case measure => rw [HI6.out.rg.left_eq, HR.out.rg.left_eq]; exact HLT.out
end Go.Proofs.YtiflfapdffkcbaaGreatDoor
