/-
  Layer 7 (disk): Copy of a disk whose one file is a (written by gen_dl.py).
-/
import Derived.Test.YtgoafinbaiepmaaGreatDoorDk
import Derived.Ground.SlmcProg
import Derived.Ground.SlgnProg
namespace Go.Proofs.YtgoafinbaiepmaaGreatDoor
open Go.RowKit Go.Shelf Go.Maps Go.WideMaps
set_option maxRecDepth 100000

def Tryz.mclone_ren : Go.Shelf.Ren := ⟨fun | 5 => 58 | 7 => 115 | n => n, fun | 23 => 91 | 25 => 9 | 3 => 3 | 4 => 4 | 20 => 20 | n => n, fun | n => n⟩
theorem Tryz.mclone : Go.Proofs.SlLaysW.n5 Tryz.prog Tryz.mclone_ren := {
  mixed := by kernel_rfl
  f5 := ⟨Tryz.f58.name, by decide, Tryz.func58.trans (congrArg some (by kernel_rfl))⟩
  f7 := Tryz.func115.trans (congrArg some (by kernel_rfl))
  t4 := Tryz.underlying4
  a4 := Tryz.isAgg4
  z4 := Tryz.sizeOf4
  v4 := Tryz.zeroValue4
  t20 := Tryz.underlying20
  a20 := Tryz.isAgg20
  z20 := Tryz.sizeOf20
  v20 := Tryz.zeroValue20
  t23 := Tryz.underlying91
  a23 := Tryz.isAgg91
  z23 := Tryz.sizeOf91
  v23 := Tryz.zeroValue91 }
theorem mclone_any (b n : Nat) (D : DataW Unit) (w : World) (h : w.ownsMap Tryz.prog 9 (plainElem (H := Unit) Tryz.prog 3) b n D) :
    Calls Tryz.prog 58 #[.map (some b)] w fun e w' => e = .returned (.map (some w.heap.size)) ∧ w'.ownsMap Tryz.prog 9 (plainElem (H := Unit) Tryz.prog 3) w.heap.size n D ∧ Below w.heap.size w w' := by
  have C := AnyW.maps_Clone_owns Tryz.mclone 9 (plainElem (H := Unit) Tryz.prog 3) b n D w h
  change Calls Tryz.prog 58 _ _ _ at C
  exact C.mono fun e w' ⟨h1, h2, _, h4⟩ => ⟨h1, h2, h4⟩
theorem made_hint (t k e : TypeId) (ht : Tryz.prog.underlying t = some (.map k e)) (n : Int) (w : World) : (Instr.makeMap t (some (.int .i64 n))).run Tryz.prog w = .ok (.map (some w.heap.size)) (w.alloc (.map #[] 0)) := by
  simp [Instr.makeMap, run_underlying ht, asInt, Result.andThen, go_sem]
/-- A disk that is as another one is, in memory of its own. -/
def DCopied (N : Nat) (K : Dk) (F : Fl) (w w' : World) (c : Nat) : Prop := ∃ (mf mn ml : Nat) (sv : Value) (f' : Nat) (G : Fl), One w.heap.size w' c (N + 1) { K with mf := mf, mn := mn, ml := ml, sv := sv, DF := DataW.put (.map []) (.int .i64 ((0 : Nat) : Int)) (.lit (.int .i64 (f' : Int))) } 0 f' G ∧ G.B = F.B ∧ G.L = F.L ∧ G.S.map St.abs = F.S.map St.abs ∧ Below w.heap.size w w'
/-- Midway in Copy. -/
structure Cpd (w : World) (K : Dk) (F : Fl) (c m r N : Nat) (wr : World) (left : Lit → Bool) (cnt : Nat) : Prop where
  rg : wr.ranges Tryz.prog 3 ptrR K.mf r N K.DF left cnt
  sub : ∀ kl, left kl = true → Maps.has K.DF kl = true
  below : Below w.heap.size w wr
  blk : wr.heap[c]? = some (.cells ({ K with mf := m } : Dk).cells 96 (0, 0))
  low : w.heap.size ≤ c ∧ w.heap.size ≤ m ∧ K.mf < w.heap.size
  st : ∃ D n, wr.ownsMap Tryz.prog 3 ptrR m n D ∧ (left (.int .i64 ((0 : Nat) : Int)) = true → n = 0 ∧ D = .map []) ∧ (left (.int .i64 ((0 : Nat) : Int)) = false → ∃ (f' : Nat) (G : Fl), n = 1 ∧ D = DataW.put (.map []) (.int .i64 ((0 : Nat) : Int)) (.lit (.int .i64 (f' : Int))) ∧ FileAt w.heap.size wr f' G ∧ G.B = F.B ∧ G.L = F.L ∧ G.S.map St.abs = F.S.map St.abs)
theorem StAt.base {b b' : Nat} {w : World} {s : St} (h : StAt b w s) (hb : b' ≤ b) : StAt b' w s := ⟨fun hc => (h.own hc).base hb, h.big⟩
theorem FileAt.base {b b' : Nat} {w : World} {f : Nat} {F : Fl} (h : FileAt b w f F) (hb : b' ≤ b) : FileAt b' w f F :=
  ⟨h.block, Nat.le_trans hb h.low, h.bown.base hb, h.lown.base hb, own_base h.sown hb, fun s hs => (h.steps s hs).base hb, h.bl, h.bs, h.legal, h.sum⟩
theorem FileAt.map {b : Nat} {w w' : World} {f : Nat} {F : Fl} (h : FileAt b w f F) {m : Nat} (hu : Upd (fun k => k = m) w w') {es : Array MapEntry} {x : Nat} (hm : w.heap[m]? = some (.map es x)) : FileAt b w' f F :=
  h.upd hu (fun k hk hh => by subst hh; exact h.not_map hm hk) (fun s hs k e hh => by subst hh; obtain ⟨cs, hc⟩ := (h.steps s hs).type e; rw [hm] at hc; simp at hc)
theorem FileAt.cell {b : Nat} {w w' : World} {f : Nat} {F : Fl} (h : FileAt b w f F) {m : Nat} (hu : Upd (fun k => k = m) w w') {cs : Array Value} (hm : w.heap[m]? = some (.cells cs 96 (0, 0))) : FileAt b w' f F :=
  h.upd hu (fun k hk hh => by subst hh; exact h.not_cells hm (by decide) (by decide) (by decide) hk) (fun s hs k e hh => by subst hh; obtain ⟨cs2, hc⟩ := (h.steps s hs).type e; rw [hm] at hc; simp at hc)
theorem map_below {w w' : World} {k : TypeId} {R : Value → Option (DataW Unit × List MemPlace)} {b n : Nat} {D : DataW Unit} (h : w.ownsMap Tryz.prog k R b n D) (hb : Below w.heap.size w w') : w'.ownsMap Tryz.prog k R b n D :=
  map_upd h (Upd.ofBelow (S := fun _ => False) hb (fun k hk hk' => by omega)) (fun h => h)
theorem ranges_map {w : World} {k : TypeId} {R : Value → Option (DataW Unit × List MemPlace)} {b r n : Nat} {D : DataW Unit} {left : Lit → Bool} {cnt : Nat} (h : w.ranges Tryz.prog k R b r n D left cnt) {m : Nat} {es : Array MapEntry} {x : Nat} (hm : w.heap[m]? = some (.map es x)) : m ≠ r := by
  obtain ⟨es, clock, since, seen, c0, hb, hF, hs, hD, hr, rest⟩ := h
  rintro rfl; rw [hr] at hm; simp at hm
theorem Cpd.next {w : World} {K : Dk} {F : Fl} {c m r N : Nat} {wr w1 : World} {left left' : Lit → Bool} {cnt cnt' : Nat} (h : Cpd w K F c m r N wr left cnt) (hg1 : wr.grownBy w1 (some r)) (hrg : w1.ranges Tryz.prog 3 ptrR K.mf r N K.DF left' cnt') (hsub : ∀ kl, left' kl = true → left kl = true) (hl : left (.int .i64 ((0 : Nat) : Int)) = true) (hl' : left' (.int .i64 ((0 : Nat) : Int)) = false) (hwr : w.heap.size ≤ r) :
    Below w.heap.size w w1 ∧ (∀ W, Below w1.heap.size w1 W → W.cell? ⟨c, 0, none⟩ = some (.map (some m))) ∧ (∀ W w3 c', Below w1.heap.size w1 W → Copied W.heap.size F W w3 c' → ∃ w4, (Instr.mapUpdate 90 (.map (some m)) (.int .i64 0) (.pointer (some ⟨c', 0, none⟩))).run Tryz.prog w3 = .ok () w4 ∧ Cpd w K F c m r N w4 left' cnt') := by
  have u1 : Upd (fun k => k = r) wr w1 := (Upd.refl _ _).grown hg1 (fun _ _ e => (Option.some.inj e).symm)
  have n1 := ranges_iter h.rg h.blk
  have k1 := (u1.block c (lt_of_block h.blk) n1.2).trans h.blk
  have B1 : Below w.heap.size w w1 := h.below.trans (u1.below h.below.size (fun k hk e => by omega))
  obtain ⟨D, n, hm, hD, _⟩ := h.st
  obtain ⟨rfl, rfl⟩ := hD hl
  obtain ⟨es, x, hmb⟩ := map_block hm
  have hm1 := map_upd hm u1 (ranges_map h.rg hmb)
  have hlow := h.low
  refine ⟨B1, fun W b => blk_cell ((b.block c (lt_of_block k1)).trans k1) 0 rfl, fun W w3 c' bW hc => ?_⟩
  obtain ⟨G, FG, g1, g2, g3, b3⟩ := hc
  have hm3 := map_below (map_below hm1 bW) b3
  have hs1 := B1.size
  have hsW := bW.size
  have hs3 := b3.size
  obtain ⟨w4, hrun, o4, t4⟩ := hm3.store law_i Tryz.underlying90 (by unfold maxLen; omega) (keyI 0 (by omega)) (ptrR_mk c')
  have u4 : Upd (fun k => k = m) w3 w4 := turned_upd t4
  obtain ⟨es3, x3, hmb3⟩ := map_block hm3
  have uW := Upd.ofBelow (S := fun _ => False) bW (fun k hk hk' => by omega)
  have u3 := Upd.ofBelow (S := fun _ => False) b3 (fun k hk hk' => by omega)
  have k3 := (b3.block c (by have := lt_of_block k1; omega)).trans ((bW.block c (lt_of_block k1)).trans k1)
  have ncm : c ≠ m := map_not hm h.blk
  have rg3 := ranges_upd (ranges_upd hrg uW (fun h => h) (fun h => h)) u3 (fun h => h) (fun h => h)
  refine ⟨w4, hrun, ⟨ranges_upd rg3 u4 (by omega) (fun e => ranges_map rg3 hmb3 e.symm), fun kl hk => h.sub kl (hsub kl hk), ?_, (u4.block c (lt_of_block k3) ncm).trans k3, hlow, ⟨_, _, o4, (fun e => by rw [hl'] at e; cases e), (fun _ => ⟨c', G, rfl, rfl, (FG.base (by omega)).map u4 hmb3, g1, g2, g3⟩)⟩⟩⟩
  exact B1.trans ((bW.mono hs1).trans ((b3.mono (by omega)).trans (u4.below (by omega) (fun k hk e => by omega))))
theorem only_put (f' : Nat) : ∀ kl, Maps.has (DataW.put (H := Unit) (.map []) (.int .i64 ((0 : Nat) : Int)) (.lit (.int .i64 (f' : Int)))) kl = true → kl = .int .i64 ((0 : Nat) : Int) := by
  intro kl h
  by_cases e : kl = .int .i64 ((0 : Nat) : Int)
  · exact e
  · rw [has_put_other e] at h
    simp [Maps.has] at h
theorem cells_set2 (K : Dk) (m : Nat) : K.cells.setIfInBounds 2 (.map (some m)) = ({ K with mn := m } : Dk).cells := rfl
theorem cells_set3 (K : Dk) (m : Nat) : K.cells.setIfInBounds 3 (.map (some m)) = ({ K with ml := m } : Dk).cells := rfl
/-- The end of Copy. -/
theorem Cpd.fin {base d f : Nat} {w : World} {K : Dk} {F : Fl} {c m r N : Nat} {wL : World} {left : Lit → Bool} {cnt : Nat} (h : Cpd w K F c m r N wL left cnt) (h0 : One base w d N K 0 f F) (hl : ∀ kl, left kl = false) {mn ml : Nat} {w5 w6 : World}
    (o5 : w5.ownsMap Tryz.prog 9 (plainElem (H := Unit) Tryz.prog 3) mn N K.DN) (b5 : Below wL.heap.size wL w5) (h5 : wL.heap.size ≤ mn) (o6 : w6.ownsMap Tryz.prog 9 (plainElem (H := Unit) Tryz.prog 3) ml N K.DL) (b6 : Below w5.heap.size w5 w6) (h6 : w5.heap.size ≤ ml) :
    w6.heap[c]? = some (.cells ({ K with mf := m } : Dk).cells 96 (0, 0)) ∧ Below w.heap.size w ((w6.setCell ⟨c, 2, none⟩ (.map (some mn))).setCell ⟨c, 3, none⟩ (.map (some ml))) ∧ ∀ (w8 : World) (v : Value), w8.ownsRow ((w6.setCell ⟨c, 2, none⟩ (.map (some mn))).setCell ⟨c, 3, none⟩ (.map (some ml))).heap.size 128 1 v K.ns.length K.ns → Below ((w6.setCell ⟨c, 2, none⟩ (.map (some mn))).setCell ⟨c, 3, none⟩ (.map (some ml))).heap.size ((w6.setCell ⟨c, 2, none⟩ (.map (some mn))).setCell ⟨c, 3, none⟩ (.map (some ml))) w8 → w8.cell? ⟨c, 4, none⟩ = some K.sv ∧ w8.frozen? ⟨c, 4, none⟩ = false ∧ DCopied N K F w (w8.setCell ⟨c, 4, none⟩ v) c := by
  have hlow := h.low
  have hsL := h.below.size
  have hs5 := b5.size
  have hs6 := b6.size
  have k6 := (b6.block c (by have := lt_of_block h.blk; omega)).trans ((b5.block c (lt_of_block h.blk)).trans h.blk)
  have k7 := blk_set k6 2 (.map (some mn))
  rw [cells_set2] at k7
  have k8 := blk_set k7 3 (.map (some ml))
  rw [cells_set3] at k8
  obtain ⟨D, n, hm, _, hD⟩ := h.st
  obtain ⟨f', G, rfl, rfl, FG, g1, g2, g3⟩ := hD (hl _)
  have us : Upd (fun k => k = c) w6 ((w6.setCell ⟨c, 2, none⟩ (.map (some mn))).setCell ⟨c, 3, none⟩ (.map (some ml))) := ((Upd.refl (fun k => k = c) w6).setCell (p := ⟨c, 2, none⟩) (fun _ => rfl) _).setCell (p := ⟨c, 3, none⟩) (fun _ => rfl) _
  have BX : Below w.heap.size w ((w6.setCell ⟨c, 2, none⟩ (.map (some mn))).setCell ⟨c, 3, none⟩ (.map (some ml))) := h.below.trans ((b5.mono hsL).trans ((b6.mono (by omega)).trans (us.below (by omega) (fun k hk e => by omega))))
  have hm6 := map_below (map_below hm b5) b6
  have o56 := map_below o5 b6
  have FG6 := (FG.below b5).below b6
  have nm : c ≠ m := map_not hm6 k6
  have nmn : c ≠ mn := map_not o56 k6
  have nml : c ≠ ml := map_not o6 k6
  have hmL := hm.lt
  have ho5 := o5.lt
  have hm7 := map_upd hm6 us (fun e => nm e.symm)
  have o57 := map_upd o56 us (fun e => nmn e.symm)
  have o67 := map_upd o6 us (fun e => nml e.symm)
  have FG7 := FG6.cell us k6
  generalize ((w6.setCell ⟨c, 2, none⟩ (.map (some mn))).setCell ⟨c, 3, none⟩ (.map (some ml))) = X at *
  refine ⟨k6, BX, fun w8 v o8 b8 => ?_⟩
  have k9 := (b8.block c (lt_of_block k8)).trans k8
  have us9 : Upd (fun k => k = c) w8 (w8.setCell ⟨c, 4, none⟩ v) := (Upd.refl (fun k => k = c) w8).setCell (p := ⟨c, 4, none⟩) (fun _ => rfl) _
  have k10 := blk_set k9 4 v
  rw [cells_set4] at k10
  have hsX := BX.size
  have nv : v.ownBlock ≠ some c := fun e => by have := (own_lt o8 e).2; have := lt_of_block k8; omega
  refine ⟨blk_cell k9 4 rfl, free3 k9 4, m, mn, ml, v, f', G, ⟨⟨k10, (map_upd (map_below hm7 b8) us9 (fun e => nm e.symm)).mono (by omega), (map_upd (map_below o57 b8) us9 (fun e => nmn e.symm)).mono (by omega), (map_upd (map_below o67 b8) us9 (fun e => nml e.symm)).mono (by omega), ?_, by simp only; omega, by simp only; omega, by simp only; omega, by simp only; omega⟩, (FG7.below b8).cell us9 k9, ⟨h0.has.has, h0.has.at_, atKey_put_same isMap_empty (law_i.key (keyI 0 (by omega))) _ _, by omega⟩, h0.on, h0.arm⟩, g1, g2, g3, ?_⟩
  · exact ownsRow_upd (own_base o8 hsX) us9 (fun k e hh => by subst hh; exact nv e)
  · exact BX.trans ((b8.mono hsX).trans (us9.below (by have := b8.size; omega) (fun k hk e => by omega)))
end Go.Proofs.YtgoafinbaiepmaaGreatDoor
