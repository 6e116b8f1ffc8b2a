/-
  Merged: HG, HJ.
-/
import Derived.Test.YtipkolmkpfpjjaaGreatDoorHAq
import Derived.Test.YtipkolmkpfpjjaaGreatDoorHFq
import Derived.Test.YtipkolmkpfpjjaaGreatDoorOY
import Derived.Test.YtipkolmkpfpjjaaGreatDoorQAq
import Derived.Test.YtipkolmkpfpjjaaGreatDoorGH
namespace Go.Proofs.YtipkolmkpfpjjaaGreatDoor
open Go Go.RowKit
set_option maxRecDepth 100000

theorem step_appF {P : Program} (w : World) {ops : Array Oper} {o : Oper} {a : Act} {K : Act → World → Prop} {Q : Exit → Act → World → Prop} {E : Prop} (hgd : o.guard = none) (s x : Operand) (t tx : TypeId)
    (ho : o.op = .call { callee := .builtin .append, args := #[s, x], argTypes := #[t, tx] })
    (base : Nat) (e : TypeId) (i : TypeInfo) (z : Value) (size bytes : Nat) (ht : P.underlying t = some (.slice e)) (hi : P.info? e = some i) (hz : i.zero = some z) (hsize : i.size = size) (hby : i.bytes = bytes) (hzs : z.cells.size = size)
    (v : Value) (n : Nat) (xs : List Value) (hv : a.eval s = v) (hown : w.ownsRow base e size v n xs) (y : Value) (m : Nat) (news : List Value) (hx : a.eval x = y) (hs : Src P size tx y m news w)
    (h63 : n + m ≤ maxLen) (hbytes : (n + m + (n + m) / 4 + 192) * bytes ≤ 281474976710656) (hbase : base ≤ w.heap.size)
    (h : ∀ v' w', w'.ownsRow base e size v' (n + m) (xs ++ news) → w.grownBy w' v.ownBlock → Moved w v v' → K (a.put o.dst v') w') : if Region.wanted o (yielded ops a.tmps) = true then Oper.wp P o a w K Q else E := by
  subst hby
  have hw : Region.wanted o (yielded ops a.tmps) = true := by simp [Region.wanted, hgd]
  rw [if_pos hw]
  obtain ⟨v', w', hr, h2, h3, h4⟩ := run_appW (P := P) w base t tx o.type e i z size ht hi hz hsize hzs v n xs hown y m news hs h63 hbytes hbase
  unfold Oper.wp execOp
  simp only [ho, resolve, invoke, builtin, Sem.run_bind, Sem.run_pure, Result.andThen_ok, List.map_toArray, List.map_cons, List.map_nil, hv, hx, hr]
  exact h v' w' h2 h3 h4
theorem src_ndA {P : Program} {tx e : TypeId} (hu : P.underlying tx = some (.slice e)) {W : World} {b : Nat} (d : Nod) {t : TypeId} (h : W.heap[b]? = some (.cells #[.int .u64 d.id, .int .u64 d.par, .int .i64 d.org, .int .u64 d.tree, .int .i64 d.dep, .int .i64 d.fr, .int .i64 d.til] t (0, 0))) : Src P 7 tx (.slice (some ⟨b, 0, none⟩) 1 1) 1 (ndL d) W := by
  refine Src.ofSlice _ hu ⟨b, 0, none⟩ 1 1 _ rfl ?_ ?_
  · intro j u hj
    unfold ndL at hj
    match j, hj with
    | 0, hj => simp at hj; subst hj; simp [Addr.add, World.cell?, h]
    | 1, hj => simp at hj; subst hj; simp [Addr.add, World.cell?, h]
    | 2, hj => simp at hj; subst hj; simp [Addr.add, World.cell?, h]
    | 3, hj => simp at hj; subst hj; simp [Addr.add, World.cell?, h]
    | 4, hj => simp at hj; subst hj; simp [Addr.add, World.cell?, h]
    | 5, hj => simp at hj; subst hj; simp [Addr.add, World.cell?, h]
    | 6, hj => simp at hj; subst hj; simp [Addr.add, World.cell?, h]
    | j + 7, hj => simp at hj
  · intro u hu
    simp only [ndL, List.mem_cons, List.not_mem_nil, or_false] at hu
    rcases hu with rfl | rfl | rfl | rfl | rfl | rfl | rfl <;> rfl
theorem owns_cut {w : World} {base s n d cap : Nat} {e : TypeId} {ad : Option Addr} {xs : List Value} (h : w.ownsRow base e s (.slice ad n cap) n xs) (hd : d ≤ n) : w.ownsRow base e s (.slice ad d cap) d (xs.take (d * s)) := by
  have hm : d * s ≤ n * s := Nat.mul_le_mul_right _ hd
  refine ⟨by rw [List.length_take, h.1]; omega, ?_⟩
  rcases h.2 with ⟨h', hn⟩ | ⟨g, cp, cur, e1, hb, hg, r1, r2, r3, r4⟩
  · cases h'
    exact Or.inl ⟨by obtain rfl : d = 0 := (by omega); rfl, by omega⟩
  · simp only [Value.slice.injEq] at e1
    obtain ⟨rfl, _, rfl⟩ := e1
    refine Or.inr ⟨g, cap, cur, rfl, hb, hg, by omega, r2, r3, ?_⟩
    rw [← r4, List.take_take, Nat.min_eq_left hm]
theorem flat_take (fin : Nat → Nod) (P : List Nat) (d : Nat) : (P.flatMap (fun x => ndL (fin x))).take (d * 7) = (P.take d).flatMap (fun x => ndL (fin x)) := by
  induction P generalizing d with
  | nil => simp
  | cons x r ih =>
    cases d with
    | zero => simp
    | succ d =>
      rw [List.take_succ_cons, List.flatMap_cons, List.flatMap_cons, ← ih d, show (d + 1) * 7 = (ndL (fin x)).length + d * 7 by simp [ndL]; omega, List.take_length_add_append]
theorem flat_cell (fin : Nat → Nod) : ∀ (P : List Nat) (i j : Nat) (h : i < P.length) (v : Value), (ndL (fin P[i]))[j]? = some v → (P.flatMap (fun x => ndL (fin x)))[i * 7 + j]? = some v
  | [], i, _, h, _, _ => by simp at h
  | x :: r, 0, j, _, v, hv => by
    simp only [List.flatMap_cons, Nat.zero_mul, Nat.zero_add, List.getElem_cons_zero] at hv ⊢
    rw [List.getElem?_append_left (List.getElem?_eq_some_iff.1 hv).1]
    exact hv
  | x :: r, i + 1, j, h, v, hv => by
    rw [List.flatMap_cons, show (i + 1) * 7 + j = (ndL (fin x)).length + (i * 7 + j) by simp [ndL]; omega, List.getElem?_append_right (by omega), Nat.add_sub_cancel_left]
    exact flat_cell fin r i j (by simpa using h) v (by simpa using hv)
end Go.Proofs.YtipkolmkpfpjjaaGreatDoor

namespace Go.Proofs.YtipkolmkpfpjjaaGreatDoor
open Go Go.RowKit
set_option maxRecDepth 100000

section
variable {Y : List Sp} {C : List Int} {dp : Nat → Nat} {fin : Nat → Nod} {X : List Spot} {K : Nat → List Int} {R : List Int}
theorem FoB.nd (h : FoB Y C dp fin X K R) (i : Nat) (hi : i < X.length) : X[i].nd = fin i := (h.fo.each i (by rw [← h.fo.len]; exact hi) hi).2
theorem FoB.kn (h : FoB Y C dp fin X K R) (i : Nat) (hi : i < X.length) : K i = (knK K i).map (fun c : Nat => (c : Int)) ∧ (∀ c ∈ knK K i, c < X.length) ∧ (knK K i).length ≤ 1000 := by
  have hi' : i < Y.length := by rw [← h.fo.len]; exact hi
  have hlen := h.fo.len
  have hl := h.one.len
  refine ⟨?_, fun c hc => by rw [hlen]; exact ((h.mem i hi' c).1 hc).1, ?_⟩
  · rw [List.map_map]
    have : ∀ z ∈ K i, ((fun c : Nat => (c : Int)) ∘ Int.toNat) z = z := fun z hz => by
      have := h.pos i hi' z hz
      show ((z.toNat : Nat) : Int) = z
      omega
    exact (List.map_congr_left this).trans (List.map_id _) |>.symm
  · have := sub_len _ (List.range Y.length) (h.nodup i hi') (fun c hc => List.mem_range.2 ((h.mem i hi' c).1 hc).1)
    simp only [List.length_range] at this
    omega
theorem FoB.idInjR (h : FoB Y C dp fin X K R) {i j : Nat} (hi : i < Y.length) (hj : j < Y.length) (e : (fin i).id = (fin j).id) : i = j := by
  have hl := h.fo.len
  refine rise_same h.rise (by omega) (by omega) ?_
  rw [h.nd i (by omega), h.nd j (by omega)]
  exact e
theorem FoB.ltOf (h : FoB Y C dp fin X K R) {a b : Nat} (ha : a < Y.length) (hb : b < Y.length) (hab : a ≠ b) (hn : ¬ ltK (fin b) (fin a)) : ltK (fin a) (fin b) := by
  have : (fin a).id ≠ (fin b).id := fun e => hab (h.idInjR ha hb e)
  unfold ltK at hn ⊢
  omega
theorem FoB.sortL (h : FoB Y C dp fin X K R) (L : List Int) (hm : ∀ z ∈ L, 0 ≤ z ∧ z < Y.length) (hn : (L.map Int.toNat).Nodup) (hs : L.Pairwise (fun a b => ¬ ltK (fin b.toNat) (fin a.toNat))) (i : Nat) (hi : i + 1 < (L.map Int.toNat).length) : ltK (fin ((L.map Int.toNat)[i]'(by omega))) (fin (L.map Int.toNat)[i + 1]) := by
  have hi' : i + 1 < L.length := by simpa using hi
  simp only [List.getElem_map]
  have m0 := hm _ (List.getElem_mem (show i < L.length by omega))
  have m1 := hm _ (List.getElem_mem hi')
  refine h.ltOf (by omega) (by omega) (fun e => ?_) (List.pairwise_iff_getElem.1 hs i (i + 1) (by omega) hi' (by omega))
  have := List.pairwise_iff_getElem.1 (List.nodup_iff_pairwise_ne.1 hn) i (i + 1) (by simpa using (show i < L.length by omega)) (by simpa using hi') (by omega)
  exact this (by simp only [List.getElem_map]; exact e)
theorem FoB.idsL (h : FoB Y C dp fin X K R) (L : List Int) (hm : ∀ z ∈ L, 0 ≤ z ∧ z < Y.length) : idsOf X L = (L.map Int.toNat).map (fun c => (fin c).id) := by
  unfold idsOf
  rw [List.map_map]
  refine List.map_congr_left fun z hz => ?_
  obtain ⟨z0, z1⟩ := hm z hz
  have hl : z.toNat < X.length := by rw [h.fo.len]; omega
  simp [hl, h.nd z.toNat hl]
theorem FoB.orgZ (h : FoB Y C dp fin X K R) (i : Nat) (hi : i < Y.length) : (dp i = 0 → (fin i).org ≠ 0) ∧ (0 < dp i → (fin i).org = 0) := by
  have hcl : (cutX C (zs Y)).length = Y.length := by rw [cutX_len, zs_len]
  have hi' : i < (cutX C (zs Y)).length := by omega
  obtain ⟨hz, z1, z2⟩ := zs_get Y i hi
  obtain ⟨o1, o2, o3⟩ := cutX_org C (zs Y) i hz hi'
  have zo : (zs Y)[i].nd.org = 0 := by simp [zs, ndOf]
  rcases nmC_range Y C i hi with hn | ⟨j, hj, hn⟩
  · obtain ⟨e0, e⟩ := h.sh.rt i hi' hn
    refine ⟨fun _ => ?_, fun h0 => by omega⟩
    rw [e]
    unfold rootN
    simp only
    split
    · omega
    · split <;> omega
  · obtain ⟨e0, e⟩ := h.sh.kd i j hi' (by omega) hn
    refine ⟨fun h0 => by omega, fun _ => ?_⟩
    rw [e]
    unfold hangN
    simp only
    rw [o3, zo]
    rintro ⟨c, hc, hci⟩
    have hg := cutN_get C (nmY Y) i (by rw [nmY_len]; exact hi)
    have hcn : i < (cutN C (nmY Y)).length := by rw [cutN_len, nmY_len]; exact hi
    rw [getD_eq hcn 0 (-1), if_pos ⟨c, hc, hci⟩] at hg
    have : (cutN C (nmY Y)).getD i (-1) = (j : Int) := hn
    omega
theorem FoB.rtI (h : FoB Y C dp fin X K R) (i : Nat) (hi : i < Y.length) : (fin i).id ∈ (rtN R).map (fun c => (fin c).id) ↔ dp i = 0 := by
  have key : i ∈ rtN R ↔ dp i = 0 := by
    rw [h.rts.2.1 i]
    rcases h.two i hi with ⟨e, e1, _⟩ | ⟨j, hj, e, e1, _⟩
    · exact ⟨fun _ => e1, fun _ => ⟨hi, e⟩⟩
    · exact ⟨fun hh => by omega, fun hh => by omega⟩
  rw [← key]
  constructor
  · intro hm
    obtain ⟨c, hc, e⟩ := List.mem_map.1 hm
    rwa [← h.idInjR ((h.rts.2.1 c).1 hc).1 hi e]
  · exact fun hm => List.mem_map.2 ⟨i, hm, rfl⟩
theorem FoB.riseY (h : FoB Y C dp fin X K R) : Y.Pairwise (fun a b => a.id < b.id) := by
  refine List.pairwise_iff_getElem.2 fun i j hi hj hij => ?_
  have hl := h.fo.len
  have := h.rise i j (by omega) (by omega) hij
  rw [h.nd i (by omega), h.nd j (by omega), ← h.ids i hi, ← h.ids j hj] at this
  simpa [spAt, List.getD, hi, hj] using this
/-- One that hangs: on whom, and how. -/
structure HangK (Y : List Sp) (dp : Nat → Nat) (fin : Nat → Nod) (K : Nat → List Int) (i j : Nat) : Prop where
  jY : j < Y.length
  par : (fin i).par = (fin j).id
  own : (fin i).par = (spAt Y i).par
  tree : (fin j).tree = (fin i).tree
  dep : (fin j).dep = (fin i).dep - 1
  fr : (fin j).fr ≤ (fin i).fr
  til : (fin i).til ≤ (fin j).til
  kid : (fin i).id ∈ (knK K j).map (fun c => (fin c).id)
theorem FoB.hangK (h : FoB Y C dp fin X K R) {i j : Nat} {A : List Nat} (hi : i < Y.length) (hA : AncR (cutN C (nmOf (zs Y))) Y.length i (j :: A)) : HangK Y dp fin K i j := by
  rcases hA.inv with ⟨_, e9⟩ | ⟨j9, B9, hn, hj, _, e9⟩
  · cases e9
  · injection e9 with e9 _
    subst e9
    rcases h.two i hi with ⟨e, _⟩ | ⟨j', hj', e, e1, e2, e3, e4, e5⟩
    · omega
    · have : j' = j := by omega
      subst this
      have hk : i ∈ knK K j' := (h.mem j' hj i).2 ⟨hi, hn⟩
      obtain ⟨k1, k2, _⟩ := h.kid j' hj i hk
      refine ⟨hj, e5, ?_, e4.symm, by omega, k1, k2, List.mem_map.2 ⟨i, hk, rfl⟩⟩
      have hg := cutN_get C (nmY Y) i (by rw [nmY_len]; exact hi)
      have hcn : i < (cutN C (nmY Y)).length := by rw [cutN_len, nmY_len]; exact hi
      rw [getD_eq hcn 0 (-1)] at hg
      have hn' : (cutN C (nmY Y)).getD i (-1) = (j' : Int) := hn
      by_cases hc : ∃ c ∈ C, c.toNat = i
      · rw [if_pos hc] at hg
        omega
      · rw [if_neg hc, hn'] at hg
        have h1 := (nmY_some h.riseY hi hj).1 hg.symm
        rw [e5, ← h.ids j' hj]
        have s1 : spAt Y i = Y[i] := by simp [spAt, List.getD, hi]
        have s2 : spAt Y j' = Y[j'] := by simp [spAt, List.getD, hj]
        rw [s1, s2]
        exact h1
/-- All nodes, as a list. -/
theorem nodesB {f sb : Nat} {rv : Value} {w W : World} (hF : ForestAt w f sb X K rv R) (h : FoB Y C dp fin X K R) (hb : Below w.heap.size w W) (n : Nat) (hn : Y.length = n) :
    Calls Tryz.prog 7 #[.pointer (some ⟨f, 0, none⟩)] W fun e w' => ∃ ad cap, e = .returned (.slice ad n cap) ∧ w'.ownsRow W.heap.size 49 7 (.slice ad n cap) n ((allN K R).flatMap (fun x => ndL (fin x))) ∧ Below W.heap.size W w' := by
  obtain ⟨r1, _, _⟩ := h.rts
  obtain ⟨a1, a2, a3, a4⟩ := h.all
  have e := h.preF_eq 1001 R r1
  have hl : (preF K 1001 R).length = n := by rw [e, List.length_map, ← hn]; exact a4
  have hl1 := h.one.len
  refine (nodesL_any f sb 1001 X K rv R W (hF.below hb) (h.deepF 1001 R r1 a1) _ rfl (by omega)).mono ?_
  rintro e' w' ⟨ad, cap, rfl, h1, h2⟩
  rw [hl] at h1 ⊢
  refine ⟨ad, cap, rfl, ?_, h2⟩
  have e2 : ndsL X (preF K 1001 R) = (allN K R).flatMap (fun x => ndL (fin x)) := by
    unfold ndsL
    rw [e, List.flatMap_map]
    refine flat_ext _ _ _ fun x hx => ?_
    have hx' : x < X.length := by rw [h.fo.len]; exact (a3 x).1 hx
    rw [nthN_get hx', h.nd x hx']
  rw [e2] at h1
  exact h1
theorem rootsB {f sb : Nat} {rv : Value} {w W : World} (hF : ForestAt w f sb X K rv R) (h : FoB Y C dp fin X K R) (hb : Below w.heap.size w W) :
    Calls Tryz.prog 13 #[.pointer (some ⟨f, 0, none⟩)] W fun e w' => ∃ rc, e = .returned (.slice (some ⟨rc, 0, none⟩) (rtN R).length (rtN R).length) ∧ Blk w' rc (fillC .u64 ((rtN R).map (fun c => (fin c).id)) 0) 35 ∧ Below W.heap.size W w' := by
  refine (roots_any f sb X K rv R W (hF.below hb)).mono ?_
  rintro e w' ⟨rc, rfl, h1, _, h3⟩
  rw [h.idsL R h.rts.1] at h1
  exact ⟨rc, by rw [List.length_map], h1, h3⟩
theorem FoB.rlen (h : FoB Y C dp fin X K R) : (rtN R).length ≤ 1000 := by
  have h1 := sub_len _ (List.range Y.length) h.rts.2.2 (fun c hc => List.mem_range.2 ((h.rts.2.1 c).1 hc).1)
  have h2 := h.one.len
  simp only [List.length_range] at h1
  omega
/-- A span's children, in their order; the span is among its parent's. -/
theorem kidsB {f sb : Nat} {rv : Value} {w W : World} (hF : ForestAt w f sb X K rv R) (h : FoB Y C dp fin X K R) (hb : Below w.heap.size w W) (j : Nat) (hj : j < Y.length) :
    Calls Tryz.prog 11 #[.pointer (some ⟨f, 0, none⟩), .int .u64 (fin j).id] W fun e w' => ∃ r, e = .returned (.slice (some ⟨r, 0, none⟩) (knK K j).length (knK K j).length) ∧ Blk w' r (fillC .u64 ((knK K j).map (fun c => (fin c).id)) 0) 35 ∧ Below W.heap.size W w' := by
  have hx : j < X.length := by rw [h.fo.len]; exact hj
  obtain ⟨k1, k2, _⟩ := h.kn j hx
  refine (children_at f sb X K rv R fin (knK K) W (hF.below hb) h.nd j hx k1 k2).mono ?_
  rintro e w' ⟨r, rfl, h1, _, h3⟩
  exact ⟨r, rfl, h1, h3⟩
end
end Go.Proofs.YtipkolmkpfpjjaaGreatDoor
