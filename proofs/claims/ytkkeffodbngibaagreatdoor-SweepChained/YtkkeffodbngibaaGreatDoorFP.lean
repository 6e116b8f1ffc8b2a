/-
  FP.
-/
import Derived.Test.YtkkeffodbngibaaGreatDoorFIq
namespace Go.Proofs.YtkkeffodbngibaaGreatDoor
open Go Go.RowKit
set_option maxRecDepth 100000

theorem src_one {P : Program} {tx e : TypeId} (hu : P.underlying tx = some (.slice e)) (w : World) (x : Value) (t : TypeId) (h1 : x.oneCell' = true) : Src P 1 tx (.slice (some ⟨w.heap.size, 0, none⟩) 1 1) 1 [x] (w.alloc (.cells #[x] t)) := by
  refine Src.ofSlice _ hu ⟨w.heap.size, 0, none⟩ 1 1 _ rfl ?_ ?_
  · intro j u hj
    match j, hj with
    | 0, hj => simp at hj; subst hj; simp [Addr.add]
  · intro u hu; simp at hu; subst hu; exact h1
theorem step_app {P : Program} (w : World) {ops : Array Oper} {o : Oper} {a : Act} {K : Act → World → Prop} {Q : Exit → Act → World → Prop} {E : Prop} (hgd : o.guard = none) (s x : Operand) (t tx : TypeId)
    (ho : o.op = .call { callee := .builtin .append, args := #[s, x], argTypes := #[t, tx] })
    (base : Nat) (e : TypeId) (i : TypeInfo) (z : Value) (bytes : Nat) (ht : P.underlying t = some (.slice e)) (hi : P.info? e = some i) (hz : i.zero = some z) (hsize : i.size = 1) (hby : i.bytes = bytes) (hzs : z.cells.size = 1)
    (v : Value) (n : Nat) (xs : List Value) (hv : a.eval s = v) (hown : w.ownsRow base e 1 v n xs) (y : Value) (m : Nat) (news : List Value) (hx : a.eval x = y) (hs : Src P 1 tx y m news w)
    (h63 : n + m ≤ maxLen) (hbytes : (n + m) * bytes ≤ 140737488355328) (hbase : base ≤ w.heap.size)
    (h : ∀ v' w', w'.ownsRow base e 1 v' (n + m) (xs ++ news) → w.grownBy w' v.ownBlock → Moved w v v' → K (a.put o.dst v') w') : if Region.wanted o (yielded ops a.tmps) = true then Oper.wp P o a w K Q else E := by
  subst hby
  have hw : Region.wanted o (yielded ops a.tmps) = true := by simp [Region.wanted, hgd]
  rw [if_pos hw]
  obtain ⟨v', w', hr, h2, h3, h4⟩ := run_app (P := P) w base t tx o.type e i z ht hi hz hsize hzs v n xs hown y m news hs h63 hbytes hbase
  unfold Oper.wp execOp
  simp only [ho, resolve, invoke, builtin, Sem.run_bind, Sem.run_pure, Result.andThen_ok, List.map_toArray, List.map_cons, List.map_nil, hv, hx, hr]
  exact h v' w' h2 h3 h4
theorem src_at {P : Program} {tx e : TypeId} (hu : P.underlying tx = some (.slice e)) {W : World} {b : Nat} {x : Value} {t : TypeId} (h : W.heap[b]? = some (.cells #[x] t (0, 0))) (h1 : x.oneCell' = true) : Src P 1 tx (.slice (some ⟨b, 0, none⟩) 1 1) 1 [x] W := by
  refine Src.ofSlice _ hu ⟨b, 0, none⟩ 1 1 _ rfl ?_ ?_
  · intro j u hj
    match j, hj with
    | 0, hj => simp at hj; subst hj; simp [Addr.add, World.cell?, h]
    | j + 1, hj => simp at hj
  · intro u hu; simp at hu; subst hu; exact h1
theorem PlR.start {w W : World} {f sb : Nat} {X0 : List Spot} {nm : List Int} (hb : Below w.heap.size w W) (hh : Blk w f #[.slice (some ⟨sb, 0, none⟩) X0.length X0.length, .slice none 0 0] 65) (hB : Blk w sb (rowS X0) 68) (hne : f ≠ sb) (hk : ∀ i (h : i < X0.length), X0[i].kv = .slice none 0 0) : PlR w W W.heap.size f sb X0 nm 0 X0 (.slice none 0 0) := by
  have hs := hb.size
  have h1 := hh.lt
  have h2 := hB.lt
  refine ⟨⟨hh.below hb h1, hB.below hb h2, by omega, by omega, hne, Nat.le_refl _, ?_, fun i hi => ?_, fun i j hi hj _ g hg => ?_, fun i hi g hg => ?_⟩, ⟨rfl, fun i hi => ⟨rfl, rfl⟩, fun i hi => by rw [if_neg (by omega)]⟩, Upd.ofBelow hb (fun k h1 h2 => by omega)⟩
  · exact World.ownsRow_nil _ _ _ _
  · rw [hk i hi]; exact World.ownsRow_nil _ _ _ _
  · rw [hk i hi] at hg; simp [Value.ownBlock] at hg
  · simp [Value.ownBlock] at hg
theorem PlAt.rootCell {base : Nat} {w w2 w3 : World} {f sb : Nat} {X : List Spot} {K : Nat → List Int} {rv : Value} {R : List Int} (h : PlAt base w f sb X K rv R) (hb : Below w.heap.size w w2) (hg : w2.grownBy w3 rv.ownBlock) : w3.cell? ⟨f, 1, none⟩ = some rv ∧ w3.frozen? ⟨f, 1, none⟩ = false := by
  have hu : Upd (fun k => rv.ownBlock = some k) w w3 := h.others hb rv (fun g e => (owns_lt h.roots e).1) hg
  have hB := h.head.upd hu (fun e => by have := (owns_lt h.roots e).1; have := h.fb; omega)
  exact ⟨hB.cell 1 rfl, hB.frozen 1⟩
theorem PlAt.kidCell {base : Nat} {w w2 w3 : World} {f sb : Nat} {X : List Spot} {K : Nat → List Int} {rv : Value} {R : List Int} (h : PlAt base w f sb X K rv R) {j : Nat} (hj : j < X.length) (hb : Below w.heap.size w w2) (hg : w2.grownBy w3 X[j].kv.ownBlock) : w3.cell? ⟨sb, j * 21 + 20, none⟩ = some X[j].kv ∧ w3.frozen? ⟨sb, j * 21 + 20, none⟩ = false ∧ w3.cell? ⟨f, 0, none⟩ = some (.slice (some ⟨sb, 0, none⟩) X.length X.length) := by
  have hu : Upd (fun k => X[j].kv.ownBlock = some k) w w3 := h.others hb X[j].kv (fun g e => (owns_lt (h.kids j hj) e).1) hg
  have hB := h.head.upd hu (fun e => by have := (owns_lt (h.kids j hj) e).1; have := h.fb; omega)
  have hS := h.row.upd hu (fun e => by have := (owns_lt (h.kids j hj) e).1; have := h.sbb; omega)
  exact ⟨(hS.spots j hj).c20, hS.frozen _, hB.cell 0 rfl⟩
theorem kids_cast {base : Nat} {w : World} {f sb : Nat} {X : List Spot} {K K' : Nat → List Int} {rv : Value} {R R' : List Int} (h : PlAt base w f sb X K rv R) (hK : ∀ i, i < X.length → K i = K' i) (hR : R = R') : PlAt base w f sb X K' rv R' := by
  subst hR
  exact ⟨h.head, h.row, h.fb, h.sbb, h.ne, h.le, h.roots, fun i hi => by rw [← hK i hi]; exact h.kids i hi, h.apart, h.apartR⟩
set_option maxHeartbeats 8000000 in
theorem plant_any (f sb : Nat) (X0 : List Spot) (w : World) (hh : Blk w f #[.slice (some ⟨sb, 0, none⟩) X0.length X0.length, .slice none 0 0] 65) (hB : Blk w sb (rowS X0) 68) (hne : f ≠ sb) (hk : ∀ i (h : i < X0.length), X0[i].kv = .slice none 0 0) (hr : RiseS X0) (hl : X0.length ≤ 1000) (hno : NoRing (nmOf X0) X0.length) :
    Calls Tryz.prog 19 #[.pointer (some ⟨f, 0, none⟩)] w fun e w' => e = .returned (.tuple #[]) ∧ Planted w f sb X0 (nmOf X0) w' := by
  have hnl : (nmOf X0).length = X0.length := by simp [nmOf]
  have hnr : ∀ x ∈ nmOf X0, -1 ≤ x ∧ x < X0.length := fun x hx => by
    unfold nmOf at hx
    obtain ⟨s, _, rfl⟩ := List.mem_map.1 hx
    exact idx_range X0 _
  have NA := named_any f sb X0 w (hh.cell 0 rfl) hB hr hl
  have CU := fun r W (hB1 : Blk W r (intB (nmOf X0)) 3) => cuts_none r X0.length X0.length (nmOf X0) W hB1 hnl hl hnr hno
  have HCU : Hid (∀ r W, Blk W r (intB (nmOf X0)) 3 → Calls Tryz.prog 35 #[.slice (some ⟨r, 0, none⟩) X0.length X0.length] W fun e w' => e = .returned (.slice none 0 0) ∧ Below W.heap.size W w') := CU
  have ST : Hid (∀ W, Below w.heap.size w W → PlR w W W.heap.size f sb X0 (nmOf X0) 0 X0 (.slice none 0 0)) := fun W hb => PlR.start hb hh hB hne hk
  obtain ⟨i0, hi0, hz0, hz1, hz2⟩ := infoI_parts
  have HNL : Hid ((nmOf X0).length = X0.length) := hnl
  have HNR : Hid (∀ x ∈ nmOf X0, -1 ≤ x ∧ x < X0.length) := hnr
  have HFB : Hid (f < w.heap.size ∧ sb < w.heap.size) := ⟨hh.lt, hB.lt⟩
  have HNE : Hid (f ≠ sb) := hne
  obtain ⟨n, hn⟩ : ∃ n, X0.length = n := ⟨_, rfl⟩
  have HN : Hid (X0.length = n) := hn
  clear hh hB hk hr hno hnl hnr CU hne
  rw [hn] at NA HCU hl
  clear hn
  go_enter Tryz.func19, Tryz.ntmps19
  go_wp2_with (first
    | (go_at_call 34; refine NA.mono ?_; clear NA; rintro e w1 ⟨r, rfl, b1, l1, hb1⟩)
    | (go_at_call 35; refine (HCU.out r w1 b1).mono ?_; rintro e w2 ⟨rfl, hb2⟩))
  have HB2 : Hid (Below w.heap.size w w2) := hb1.trans (hb2.mono hb1.size)
  have HR2 : Hid (Blk w2 r (intB (nmOf X0)) 3) := Blk.below b1 hb2 (Blk.lt b1)
  have HRL : Hid (w.heap.size ≤ r ∧ r < w2.heap.size) := ⟨l1, by have := Blk.lt b1; have := hb2.size; omega⟩
  clear b1 l1 hb1 hb2 HCU
  go_loopw [12] (fun x wr => x = .int .i64 0 ∧ wr = w2) (fun _ _ => 0)
  case atStart => exact ⟨rfl, rfl⟩
  case round =>
    obtain ⟨rfl, rfl⟩ := hrel
    go_wp2
    obtain ⟨base, hbase⟩ : ∃ base, wr.heap.size = base := ⟨_, rfl⟩
    have HBASE : Hid (wr.heap.size = base) := hbase
    have P0 : Hid (PlR w wr base f sb X0 (nmOf X0) 0 X0 (.slice none 0 0)) := by rw [← hbase]; exact ST.out wr HB2.out
    have HB3 : Hid (w.heap.size ≤ base) := by rw [← hbase]; exact HB2.out.size
    have HRB : Hid (r < base) := by rw [← hbase]; exact HRL.out.2
    have HR3 : Hid (∀ W, Upd (fun j => j = f ∨ j = sb ∨ base ≤ j) wr W → Blk W r (intB (nmOf X0)) 3) := fun W hu => Blk.upd HR2.out hu (fun hh => by
      have := HRL.out.1; have := HFB.out.1; have := HFB.out.2; have := HRB.out
      rcases hh with h | h | h <;> omega)
    have HUP : Hid (Upd (fun j => j = f ∨ j = sb ∨ base ≤ j) wr wr) := Upd.refl _ _
    clear hbase
    go_loopw [30] (fun x wq => ∃ (k : Nat) (X : List Spot) (rv : Value), x = .int .i64 k ∧ k ≤ n ∧ PlR w wq base f sb X0 (nmOf X0) k X rv ∧ Upd (fun j => j = f ∨ j = sb ∨ base ≤ j) wr wq) (fun x _ => n - (intOf x).toNat)
    case atStart => exact ⟨0, X0, _, rfl, by omega, P0.out, HUP.out⟩
    case round =>
      obtain ⟨k, X, rv, rfl, hkn, hP, hU⟩ := hrel
      have HP : Hid (PlR w wr base f sb X0 (nmOf X0) k X rv) := hP
      have HR4 : Hid (Blk wr r (intB (nmOf X0)) 3) := HR3.out wr hU
      have HU : Hid _ := hU
      have HXL : Hid (X.length = n) := by have := hP.fl.len; rw [← HN.out]; exact this
      clear hP hU
      by_cases hlt : k < n
      · have hkX : k < X.length := by rw [HXL.out]; exact hlt
        have hkN : k < (nmOf X0).length := by rw [HNL.out, HN.out]; exact hlt
        have g1 : wr.cell? ⟨r, k, none⟩ = some (.int .i64 (nmOf X0)[k]) := Blk.cell HR4.out k (intB_get _ k hkN)
        have c0 : wr.cell? ⟨f, 0, none⟩ = some (.slice (some ⟨sb, 0, none⟩) n n) := by have := HP.out.at_.head.cell 0 rfl; rwa [HXL.out] at this
        have hmr := HNR.out _ (List.getElem_mem hkN)
        have hgd : (nmOf X0).getD k (-1) = (nmOf X0)[k] := by simp [hkN]
        by_cases hm : (nmOf X0)[k] = -1
        · have RT := root_any sb k X wr HP.out.at_.row hkX
          have FR : Hid (PlF X0 (X.set k (rootS X[k])) (nmOf X0) (k + 1)) := HP.out.fl.root hkX (by rw [hgd]; exact hm)
          have HP1 : Hid (∀ w1, Blk w1 sb (rowS (X.set k (rootS X[k]))) 68 → Upd (fun j => j = sb) wr w1 → PlAt base w1 f sb (X.set k (rootS X[k])) (fun i => kidsF (nmOf X0) k i) rv (kidsF (nmOf X0) k (-1))) := fun w1 hB hu => HP.out.at_.spot hkX _ rfl hB hu
          have HKL : Hid ((kidsF (nmOf X0) k (-1)).length ≤ k) := kidsF_len _ _ _
          have HKS : Hid (kidsF (nmOf X0) (k + 1) (-1) = kidsF (nmOf X0) k (-1) ++ [(k : Int)] ∧ ∀ i : Nat, kidsF (nmOf X0) (k + 1) i = kidsF (nmOf X0) k i) := ⟨by rw [kidsF_succ _ _ _ hkN, if_pos hm], fun i => by rw [kidsF_succ _ _ _ hkN, if_neg (by rw [hm]; omega)]⟩
          rw [hm] at g1
          generalize X.set k (rootS X[k]) = X1 at RT FR HP1
          clear hm hgd hmr
          go_wp2_with (first
            | (go_at_call 36; refine RT.mono ?_; clear RT; rintro e w1 ⟨rfl, b1, u1⟩; have Q1 := HP1.out w1 b1 u1; have HQ1 : Hid (PlAt base w1 f sb X1 (fun i => kidsF (nmOf X0) k i) rv (kidsF (nmOf X0) k (-1))) := Q1; have d1 : w1.cell? ⟨f, 1, none⟩ = some rv := Q1.head.cell 1 rfl; have hle := Q1.le; have HU1 : Hid (Upd (fun j => j = sb) wr w1) := u1; have y1 := fun (o : Obj) => (World.cell?_alloc_lt w1 o ⟨f, 1, none⟩ (World.block_lt_of_cell? w1 _ d1)).trans d1; clear b1 u1 Q1 HP1)
            | (at_builtin; refine wpList_app _ rfl _ _ 63 63 rfl base 3 i0 (.int .i64 0) 8 Tryz.underlying63 hi0 hz0 hz1 hz2 rfl rv (kidsF (nmOf X0) k (-1)).length ((kidsF (nmOf X0) k (-1)).map (Value.int .i64)) rfl (HQ1.out.roots.alloc _) _ 1 [.int .i64 (k : Int)] rfl (src_one Tryz.underlying63 w1 _ 3 rfl) (by have := HKL.out; unfold maxLen; omega) (by have := HKL.out; omega) (by rw [World.size_alloc]; omega) ?_; intro v2 w3 o3 g3 m3; obtain ⟨ad2, cap2, rfl⟩ := owns_slice o3; have A3 := HQ1.out.addRoot ((Below.refl _ _).alloc (Nat.le_refl _) _) g3 m3 k o3; have HA3 : Hid (PlAt base (w3.setCell ⟨f, 1, none⟩ (.slice ad2 ((kidsF (nmOf X0) k (-1)).length + 1) cap2)) f sb X1 (fun i => kidsF (nmOf X0) k i) (.slice ad2 ((kidsF (nmOf X0) k (-1)).length + 1) cap2) (kidsF (nmOf X0) k (-1) ++ [(k : Int)]) ∧ Upd (fun k => k = f ∨ base ≤ k) w1 (w3.setCell ⟨f, 1, none⟩ (.slice ad2 ((kidsF (nmOf X0) k (-1)).length + 1) cap2))) := A3; obtain ⟨e1, e2⟩ := HQ1.out.rootCell ((Below.refl _ _).alloc (Nat.le_refl _) _) g3; clear A3 o3 g3 m3))
          go_roundw
          case rel =>
            have hu2 := (HU1.out.mono (S' := fun j => j = f ∨ j = sb ∨ base ≤ j) (fun j _ h => Or.inr (Or.inl h))).trans (HA3.out.2.mono (S' := fun j => j = f ∨ j = sb ∨ base ≤ j) (fun j _ h => by rcases h with h | h; exact Or.inl h; exact Or.inr (Or.inr h))) (fun _ _ h => h)
            refine ⟨k + 1, X1, .slice ad2 ((kidsF (nmOf X0) k (-1)).length + 1) cap2, by simp, by omega, ⟨?_, FR.out, HP.out.upd.trans hu2 (fun _ _ h => h)⟩, HU.out.trans hu2 (fun _ _ h => h)⟩
            exact kids_cast HA3.out.1 (fun i _ => (HKS.out.2 i).symm) HKS.out.1.symm
          case measure => simp [intOf]; omega
        · obtain ⟨j, hj⟩ : ∃ j : Nat, (nmOf X0)[k] = (j : Int) := ⟨((nmOf X0)[k]).toNat, by omega⟩
          have hjX : j < X.length := by rw [HXL.out]; have := HN.out; omega
          have hjn : j < n := by have := HN.out; omega
          have e20 : wr.cell? ⟨sb, j * 21 + 20, none⟩ = some X[j].kv := (HP.out.at_.row.spots j hjX).c20
          have HKL : Hid ((kidsF (nmOf X0) k j).length ≤ k) := kidsF_len _ _ _
          have HKS : Hid (kidsF (nmOf X0) (k + 1) (-1) = kidsF (nmOf X0) k (-1) ∧ ∀ i : Nat, (if i = j then kidsF (nmOf X0) k j ++ [(k : Int)] else kidsF (nmOf X0) k i) = kidsF (nmOf X0) (k + 1) i) := ⟨by rw [kidsF_succ _ _ _ hkN, if_neg hm], fun i => by
            rw [kidsF_succ _ _ _ hkN, hj]
            by_cases e : i = j
            · subst e; simp
            · rw [if_neg e, if_neg (by omega)]⟩
          have FK : Hid (∀ y : Spot, y.a = X[j].a → y.p = X[j].p → y.nd = X[j].nd → PlF X0 (X.set j y) (nmOf X0) (k + 1)) := fun y h1 h2 h3 => HP.out.fl.kid hkX (by rw [hgd]; exact hm) hjX y h1 h2 h3
          have HOK : Hid (∀ W, Below wr.heap.size wr W → W.ownsRow base 3 1 X[j].kv (kidsF (nmOf X0) k j).length ((kidsF (nmOf X0) k j).map (Value.int .i64))) := fun W hb => ownsRow_upd (S := fun _ => False) (HP.out.at_.kids j hjX) (Upd.ofBelow hb (fun k h1 h2 => by omega)) (fun _ _ h => h)
          have HAD : Hid (∀ (w2 w3 : World) (v' : Value), Below wr.heap.size wr w2 → w2.grownBy w3 X[j].kv.ownBlock → Moved w2 X[j].kv v' → w3.ownsRow base 3 1 v' ((kidsF (nmOf X0) k j).length + 1) ((kidsF (nmOf X0) k j).map (Value.int .i64) ++ [.int .i64 (k : Int)]) → (∃ y : Spot, y.a = X[j].a ∧ y.p = X[j].p ∧ y.nd = X[j].nd ∧ PlAt base (w3.setCell ⟨sb, j * 21 + 20, none⟩ v') f sb (X.set j y) (fun i => if i = j then kidsF (nmOf X0) k j ++ [(k : Int)] else kidsF (nmOf X0) k i) rv (kidsF (nmOf X0) k (-1)) ∧ Upd (fun k => k = sb ∨ base ≤ k) wr (w3.setCell ⟨sb, j * 21 + 20, none⟩ v')) ∧ w3.cell? ⟨sb, j * 21 + 20, none⟩ = some X[j].kv ∧ w3.frozen? ⟨sb, j * 21 + 20, none⟩ = false ∧ w3.cell? ⟨f, 0, none⟩ = some (.slice (some ⟨sb, 0, none⟩) n n)) := fun w2 w3 v' hb hg hmv ho => by
            have h1 := HP.out.at_.kidCell hjX hb hg
            rw [HXL.out] at h1
            exact ⟨HP.out.at_.addKid hjX hb hg hmv k ho, h1⟩
          have hle := HP.out.at_.le
          rw [hj] at g1
          generalize X[j].kv = kv at *
          have y0 := fun (o : Obj) => (World.cell?_alloc_lt wr o ⟨f, 0, none⟩ (World.block_lt_of_cell? wr _ c0)).trans c0
          have y1 := fun (o : Obj) => (World.cell?_alloc_lt wr o ⟨sb, j * 21 + 20, none⟩ (World.block_lt_of_cell? wr _ e20)).trans e20
          clear hm hgd hmr hj
          go_wp2
          go_region_law (refine step_app _ (by rfl) _ _ 63 63 (by rfl) base 3 i0 (.int .i64 0) 8 Tryz.underlying63 hi0 hz0 hz1 hz2 rfl kv (kidsF (nmOf X0) k j).length ((kidsF (nmOf X0) k j).map (Value.int .i64)) (by rfl) (HOK.out _ (by repeat' first | exact Below.refl _ _ | refine Below.alloc ?_ (by first | omega | (simp; omega) | (simp; done)) _ | refine Below.drew ?_)) (.slice (some ⟨wr.heap.size, 0, none⟩) 1 1) 1 [.int .i64 (k : Int)] (by rfl) (src_at Tryz.underlying63 (by first | exact heap_alloc_new _ _ | exact heap_alloc_new wr.drew _) rfl) (by have := HKL.out; unfold maxLen; omega) (by have := HKL.out; omega) (by first | (simp; omega) | omega) ?_; intro v8 w8 o8 g8 m8; obtain ⟨ad8, cap8, rfl⟩ := owns_slice o8; obtain ⟨A8, e8, f8, z8⟩ := HAD.out _ w8 _ (by repeat' first | exact Below.refl _ _ | refine Below.alloc ?_ (by first | omega | (simp; omega) | (simp; done)) _ | refine Below.drew ?_) g8 m8 o8; have HA8 : Hid _ := A8; clear A8 o8 g8 m8 HOK)
          all_goals
            go_wp2
            go_roundw
            case rel =>
              obtain ⟨y, h1, h2, h3, hP8, u8⟩ := HA8.out
              have hu2 := u8.mono (S' := fun j => j = f ∨ j = sb ∨ base ≤ j) (fun j _ h => Or.inr h)
              refine ⟨k + 1, X.set j y, rv, by simp, by omega, ⟨?_, FK.out y h1 h2 h3, HP.out.upd.trans hu2 (fun _ _ h => h)⟩, HU.out.trans hu2 (fun _ _ h => h)⟩
              exact kids_cast hP8 (fun i _ => HKS.out.2 i) HKS.out.1.symm
            case measure => simp [intOf]; omega
      · obtain rfl : k = n := by omega
        go_wp2
        go_end0
        refine ⟨rfl, base, X, rv, HB3.out, ?_, ?_, ?_⟩
        · rw [HN.out]; exact HP.out.at_
        · rw [HN.out]; exact HP.out.fl
        · exact ⟨HP.out.upd.os, HP.out.upd.tape, HP.out.upd.output, HP.out.upd.size, fun j hj hn => HP.out.upd.block j hj (fun hh => by
            have := HB3.out
            rcases hh with h | h | h
            · exact hn (Or.inl h)
            · exact hn (Or.inr h)
            · omega)⟩
end Go.Proofs.YtkkeffodbngibaaGreatDoor
