/-
  Layer 7 (disk): Copy of a disk whose one file is a (written by gen_dl.py).
-/
import Derived.Test.YtoedeoilaeppnaaDk
import Derived.Ground.SlmcProg
import Derived.Ground.SlgnProg
namespace Go.Proofs.Ytoedeoilaeppnaa
open Go.RowKit Go.Shelf Go.Maps Go.WideMaps
set_option maxRecDepth 100000

def Try.mclone_ren : Go.Shelf.Ren := ⟨fun | 5 => 27 | 7 => 39 | n => n, fun | 23 => 49 | 25 => 9 | 3 => 3 | 4 => 4 | 20 => 20 | n => n, fun | n => n⟩
theorem Try.mclone : Go.Proofs.SlLaysW.n5 Try.prog Try.mclone_ren := {
  mixed := by kernel_rfl
  f5 := ⟨Try.f27.name, by decide, Try.func27.trans (congrArg some (by kernel_rfl))⟩
  f7 := Try.func39.trans (congrArg some (by kernel_rfl))
  t4 := Try.underlying4
  a4 := Try.isAgg4
  z4 := Try.sizeOf4
  v4 := Try.zeroValue4
  t20 := Try.underlying20
  a20 := Try.isAgg20
  z20 := Try.sizeOf20
  v20 := Try.zeroValue20
  t23 := Try.underlying49
  a23 := Try.isAgg49
  z23 := Try.sizeOf49
  v23 := Try.zeroValue49 }
theorem mclone_any (b n : Nat) (D : DataW Unit) (w : World) (h : w.ownsMap Try.prog 9 (plainElem (H := Unit) Try.prog 3) b n D) :
    Calls Try.prog 27 #[.map (some b)] w fun e w' => e = .returned (.map (some w.heap.size)) ∧ w'.ownsMap Try.prog 9 (plainElem (H := Unit) Try.prog 3) w.heap.size n D ∧ Below w.heap.size w w' := by
  have C := AnyW.maps_Clone_owns Try.mclone 9 (plainElem (H := Unit) Try.prog 3) b n D w h
  change Calls Try.prog 27 _ _ _ at C
  exact C.mono fun e w' ⟨h1, h2, _, h4⟩ => ⟨h1, h2, h4⟩
def Try.nclone_ren : Go.Shelf.Ren := ⟨fun | 41 => 34 | n => n, fun | 22 => 50 | 23 => 70 | 4 => 4 | n => n, fun | n => n⟩
theorem Try.nclone : Go.Proofs.SlLaysE0.n41 Try.prog Try.nclone_ren := {
  mixed := by kernel_rfl
  f41 := ⟨Try.f34.name, by decide, Try.func34.trans (congrArg some (by kernel_rfl))⟩
  t4 := Try.underlying4
  a4 := Try.isAgg4
  z4 := Try.sizeOf4
  v4 := Try.zeroValue4
  t22 := Try.underlying50
  a22 := Try.isAgg50
  z22 := Try.sizeOf50
  v22 := Try.zeroValue50 }
theorem nclone_any (base : Nat) (v : Value) (ns : List Value) (w : World) (h : w.ownsRow base 70 1 v ns.length ns) (h1 : ∀ u ∈ ns, u.oneCell' = true) (hl : ns.length ≤ 1000000000000) :
    Calls Try.prog 34 #[v] w fun e w' => ∃ v', e = .returned v' ∧ w'.ownsRow w.heap.size 70 1 v' ns.length ns ∧ Below w.heap.size w w' := by
  obtain ⟨i0, hi, hz0, hz1, hz2⟩ := info_parts Try.info70
  rcases h.2 with ⟨e, hn⟩ | ⟨g, c, cur, e, _⟩
  · subst e
    have hk : ns = [] := List.eq_nil_of_length_eq_zero hn
    subst hk
    have C := AnyE.slices_Clone_nil Try.nclone 0 0 w
    change Calls Try.prog 34 _ _ _ at C
    refine C.mono ?_
    rintro e w' ⟨rfl, rfl⟩
    exact ⟨_, rfl, World.ownsRow_nil _ _ _ _, Below.refl _ _⟩
  · subst e
    have C := AnyE.slices_Clone Try.nclone i0 .nilIface 1 16 hi hz0 hz1 hz2 rfl (by omega) (fun w => by kernel_rfl) g 0 ns.length c ns w (by simp) (by unfold maxLen; omega) (by omega) (fun j u hj => by rw [Nat.zero_add]; have := h.cells (g := g) rfl j u hj; rwa [Addr.add_lit, Nat.zero_add] at this) h1
    change Calls Try.prog 34 _ _ _ at C
    exact C.mono fun e w' ⟨v', h2, h3, _, h4⟩ => ⟨v', h2, h3, h4⟩

theorem made_hint (t k e : TypeId) (ht : Try.prog.underlying t = some (.map k e)) (n : Int) (w : World) : (Instr.makeMap t (some (.int .i64 n))).run Try.prog w = .ok (.map (some w.heap.size)) (w.alloc (.map #[] 0)) := by
  simp [Instr.makeMap, run_underlying ht, asInt, Result.andThen, go_sem]
/-- A disk that is as another one is, in memory of its own. -/
def DCopied (N : Nat) (K : Dk) (F : Fl) (w w' : World) (c : Nat) : Prop := ∃ (mf mn ml : Nat) (sv : Value) (f' : Nat) (G : Fl), One w.heap.size w' c (N + 1) { K with mf := mf, mn := mn, ml := ml, sv := sv, DF := DataW.put (.map []) (.int .i64 ((0 : Nat) : Int)) (.lit (.int .i64 (f' : Int))) } 0 f' G ∧ G.B = F.B ∧ G.L = F.L ∧ G.S.map St.abs = F.S.map St.abs ∧ Below w.heap.size w w'
/-- Midway in Copy. -/
structure Cpd (w : World) (K : Dk) (F : Fl) (c m r N : Nat) (wr : World) (left : Lit → Bool) (cnt : Nat) : Prop where
  rg : wr.ranges Try.prog 3 ptrR K.mf r N K.DF left cnt
  sub : ∀ kl, left kl = true → Maps.has K.DF kl = true
  below : Below w.heap.size w wr
  blk : wr.heap[c]? = some (.cells ({ K with mf := m } : Dk).cells 55 (0, 0))
  low : w.heap.size ≤ c ∧ w.heap.size ≤ m ∧ K.mf < w.heap.size
  st : ∃ D n, wr.ownsMap Try.prog 3 ptrR m n D ∧ (left (.int .i64 ((0 : Nat) : Int)) = true → n = 0 ∧ D = .map []) ∧ (left (.int .i64 ((0 : Nat) : Int)) = false → ∃ (f' : Nat) (G : Fl), n = 1 ∧ D = DataW.put (.map []) (.int .i64 ((0 : Nat) : Int)) (.lit (.int .i64 (f' : Int))) ∧ FileAt w.heap.size wr f' G ∧ G.B = F.B ∧ G.L = F.L ∧ G.S.map St.abs = F.S.map St.abs)
theorem StAt.base {b b' : Nat} {w : World} {s : St} (h : StAt b w s) (hb : b' ≤ b) : StAt b' w s := ⟨fun hc => (h.own hc).base hb, h.big⟩
theorem FileAt.base {b b' : Nat} {w : World} {f : Nat} {F : Fl} (h : FileAt b w f F) (hb : b' ≤ b) : FileAt b' w f F :=
  ⟨h.block, Nat.le_trans hb h.low, h.bown.base hb, h.lown.base hb, own_base h.sown hb, fun s hs => (h.steps s hs).base hb, h.bl, h.bs, h.legal, h.sum⟩
theorem FileAt.map {b : Nat} {w w' : World} {f : Nat} {F : Fl} (h : FileAt b w f F) {m : Nat} (hu : Upd (fun k => k = m) w w') {es : Array MapEntry} {x : Nat} (hm : w.heap[m]? = some (.map es x)) : FileAt b w' f F :=
  h.upd hu (fun k hk hh => by subst hh; exact h.not_map hm hk) (fun s hs k e hh => by subst hh; obtain ⟨cs, hc⟩ := (h.steps s hs).type e; rw [hm] at hc; simp at hc)
theorem FileAt.cell {b : Nat} {w w' : World} {f : Nat} {F : Fl} (h : FileAt b w f F) {m : Nat} (hu : Upd (fun k => k = m) w w') {cs : Array Value} (hm : w.heap[m]? = some (.cells cs 55 (0, 0))) : FileAt b w' f F :=
  h.upd hu (fun k hk hh => by subst hh; exact h.not_cells hm (by decide) (by decide) (by decide) hk) (fun s hs k e hh => by subst hh; obtain ⟨cs2, hc⟩ := (h.steps s hs).type e; rw [hm] at hc; simp at hc)
theorem map_below {w w' : World} {k : TypeId} {R : Value → Option (DataW Unit × List MemPlace)} {b n : Nat} {D : DataW Unit} (h : w.ownsMap Try.prog k R b n D) (hb : Below w.heap.size w w') : w'.ownsMap Try.prog k R b n D :=
  map_upd h (Upd.ofBelow (S := fun _ => False) hb (fun k hk hk' => by omega)) (fun h => h)
theorem ranges_map {w : World} {k : TypeId} {R : Value → Option (DataW Unit × List MemPlace)} {b r n : Nat} {D : DataW Unit} {left : Lit → Bool} {cnt : Nat} (h : w.ranges Try.prog k R b r n D left cnt) {m : Nat} {es : Array MapEntry} {x : Nat} (hm : w.heap[m]? = some (.map es x)) : m ≠ r := by
  obtain ⟨es, clock, since, seen, c0, hb, hF, hs, hD, hr, rest⟩ := h
  rintro rfl; rw [hr] at hm; simp at hm
theorem Cpd.next {w : World} {K : Dk} {F : Fl} {c m r N : Nat} {wr w1 : World} {left left' : Lit → Bool} {cnt cnt' : Nat} (h : Cpd w K F c m r N wr left cnt) (hg1 : wr.grownBy w1 (some r)) (hrg : w1.ranges Try.prog 3 ptrR K.mf r N K.DF left' cnt') (hsub : ∀ kl, left' kl = true → left kl = true) (hl : left (.int .i64 ((0 : Nat) : Int)) = true) (hl' : left' (.int .i64 ((0 : Nat) : Int)) = false) (hwr : w.heap.size ≤ r) :
    Below w.heap.size w w1 ∧ (∀ W, Below w1.heap.size w1 W → W.cell? ⟨c, 0, none⟩ = some (.map (some m))) ∧ (∀ W w3 c', Below w1.heap.size w1 W → Copied W.heap.size F W w3 c' → ∃ w4, (Instr.mapUpdate 48 (.map (some m)) (.int .i64 0) (.pointer (some ⟨c', 0, none⟩))).run Try.prog w3 = .ok () w4 ∧ Cpd w K F c m r N w4 left' cnt') := by
  have u1 : Upd (fun k => k = r) wr w1 := (Upd.refl _ _).grown hg1 (fun _ _ e => (Option.some.inj e).symm)
  have n1 := ranges_iter h.rg h.blk
  have k1 := (u1.block c (lt_of_block h.blk) n1.2).trans h.blk
  have B1 : Below w.heap.size w w1 := h.below.trans (u1.below h.below.size (fun k hk e => by omega))
  obtain ⟨D, n, hm, hD, _⟩ := h.st
  obtain ⟨rfl, rfl⟩ := hD hl
  obtain ⟨es, x, hmb⟩ := map_block hm
  have hm1 := map_upd hm u1 (ranges_map h.rg hmb)
  have hlow := h.low
  refine ⟨B1, fun W b => blk_cell ((b.block c (lt_of_block k1)).trans k1) 0 rfl, fun W w3 c' bW hc => ?_⟩
  obtain ⟨G, FG, g1, g2, g3, b3⟩ := hc
  have hm3 := map_below (map_below hm1 bW) b3
  have hs1 := B1.size
  have hsW := bW.size
  have hs3 := b3.size
  obtain ⟨w4, hrun, o4, t4⟩ := hm3.store law_i Try.underlying48 (by unfold maxLen; omega) (keyI 0 (by omega)) (ptrR_mk c')
  have u4 : Upd (fun k => k = m) w3 w4 := turned_upd t4
  obtain ⟨es3, x3, hmb3⟩ := map_block hm3
  have uW := Upd.ofBelow (S := fun _ => False) bW (fun k hk hk' => by omega)
  have u3 := Upd.ofBelow (S := fun _ => False) b3 (fun k hk hk' => by omega)
  have k3 := (b3.block c (by have := lt_of_block k1; omega)).trans ((bW.block c (lt_of_block k1)).trans k1)
  have ncm : c ≠ m := map_not hm h.blk
  have rg3 := ranges_upd (ranges_upd hrg uW (fun h => h) (fun h => h)) u3 (fun h => h) (fun h => h)
  refine ⟨w4, hrun, ⟨ranges_upd rg3 u4 (by omega) (fun e => ranges_map rg3 hmb3 e.symm), fun kl hk => h.sub kl (hsub kl hk), ?_, (u4.block c (lt_of_block k3) ncm).trans k3, hlow, ⟨_, _, o4, (fun e => by rw [hl'] at e; cases e), (fun _ => ⟨c', G, rfl, rfl, (FG.base (by omega)).map u4 hmb3, g1, g2, g3⟩)⟩⟩⟩
  exact B1.trans ((bW.mono hs1).trans ((b3.mono (by omega)).trans (u4.below (by omega) (fun k hk e => by omega))))
theorem only_put (f' : Nat) : ∀ kl, Maps.has (DataW.put (H := Unit) (.map []) (.int .i64 ((0 : Nat) : Int)) (.lit (.int .i64 (f' : Int)))) kl = true → kl = .int .i64 ((0 : Nat) : Int) := by
  intro kl h
  by_cases e : kl = .int .i64 ((0 : Nat) : Int)
  · exact e
  · rw [has_put_other e] at h
    simp [Maps.has] at h
theorem cells_set2 (K : Dk) (m : Nat) : K.cells.setIfInBounds 2 (.map (some m)) = ({ K with mn := m } : Dk).cells := rfl
theorem cells_set3 (K : Dk) (m : Nat) : K.cells.setIfInBounds 3 (.map (some m)) = ({ K with ml := m } : Dk).cells := rfl
/-- The end of Copy. -/
theorem Cpd.fin {base d f : Nat} {w : World} {K : Dk} {F : Fl} {c m r N : Nat} {wL : World} {left : Lit → Bool} {cnt : Nat} (h : Cpd w K F c m r N wL left cnt) (h0 : One base w d N K 0 f F) (hl : ∀ kl, left kl = false) {mn ml : Nat} {w5 w6 : World}
    (o5 : w5.ownsMap Try.prog 9 (plainElem (H := Unit) Try.prog 3) mn N K.DN) (b5 : Below wL.heap.size wL w5) (h5 : wL.heap.size ≤ mn) (o6 : w6.ownsMap Try.prog 9 (plainElem (H := Unit) Try.prog 3) ml N K.DL) (b6 : Below w5.heap.size w5 w6) (h6 : w5.heap.size ≤ ml) :
    w6.heap[c]? = some (.cells ({ K with mf := m } : Dk).cells 55 (0, 0)) ∧ Below w.heap.size w ((w6.setCell ⟨c, 2, none⟩ (.map (some mn))).setCell ⟨c, 3, none⟩ (.map (some ml))) ∧ ∀ (w8 : World) (v : Value), w8.ownsRow ((w6.setCell ⟨c, 2, none⟩ (.map (some mn))).setCell ⟨c, 3, none⟩ (.map (some ml))).heap.size 70 1 v K.ns.length K.ns → Below ((w6.setCell ⟨c, 2, none⟩ (.map (some mn))).setCell ⟨c, 3, none⟩ (.map (some ml))).heap.size ((w6.setCell ⟨c, 2, none⟩ (.map (some mn))).setCell ⟨c, 3, none⟩ (.map (some ml))) w8 → w8.cell? ⟨c, 4, none⟩ = some K.sv ∧ w8.frozen? ⟨c, 4, none⟩ = false ∧ DCopied N K F w (w8.setCell ⟨c, 4, none⟩ v) c := by
  have hlow := h.low
  have hsL := h.below.size
  have hs5 := b5.size
  have hs6 := b6.size
  have k6 := (b6.block c (by have := lt_of_block h.blk; omega)).trans ((b5.block c (lt_of_block h.blk)).trans h.blk)
  have k7 := blk_set k6 2 (.map (some mn))
  rw [cells_set2] at k7
  have k8 := blk_set k7 3 (.map (some ml))
  rw [cells_set3] at k8
  obtain ⟨D, n, hm, _, hD⟩ := h.st
  obtain ⟨f', G, rfl, rfl, FG, g1, g2, g3⟩ := hD (hl _)
  have us : Upd (fun k => k = c) w6 ((w6.setCell ⟨c, 2, none⟩ (.map (some mn))).setCell ⟨c, 3, none⟩ (.map (some ml))) := ((Upd.refl (fun k => k = c) w6).setCell (p := ⟨c, 2, none⟩) (fun _ => rfl) _).setCell (p := ⟨c, 3, none⟩) (fun _ => rfl) _
  have BX : Below w.heap.size w ((w6.setCell ⟨c, 2, none⟩ (.map (some mn))).setCell ⟨c, 3, none⟩ (.map (some ml))) := h.below.trans ((b5.mono hsL).trans ((b6.mono (by omega)).trans (us.below (by omega) (fun k hk e => by omega))))
  have hm6 := map_below (map_below hm b5) b6
  have o56 := map_below o5 b6
  have FG6 := (FG.below b5).below b6
  have nm : c ≠ m := map_not hm6 k6
  have nmn : c ≠ mn := map_not o56 k6
  have nml : c ≠ ml := map_not o6 k6
  have hmL := hm.lt
  have ho5 := o5.lt
  have hm7 := map_upd hm6 us (fun e => nm e.symm)
  have o57 := map_upd o56 us (fun e => nmn e.symm)
  have o67 := map_upd o6 us (fun e => nml e.symm)
  have FG7 := FG6.cell us k6
  generalize ((w6.setCell ⟨c, 2, none⟩ (.map (some mn))).setCell ⟨c, 3, none⟩ (.map (some ml))) = X at *
  refine ⟨k6, BX, fun w8 v o8 b8 => ?_⟩
  have k9 := (b8.block c (lt_of_block k8)).trans k8
  have us9 : Upd (fun k => k = c) w8 (w8.setCell ⟨c, 4, none⟩ v) := (Upd.refl (fun k => k = c) w8).setCell (p := ⟨c, 4, none⟩) (fun _ => rfl) _
  have k10 := blk_set k9 4 v
  rw [cells_set4] at k10
  have hsX := BX.size
  have nv : v.ownBlock ≠ some c := fun e => by have := (own_lt o8 e).2; have := lt_of_block k8; omega
  refine ⟨blk_cell k9 4 rfl, free3 k9 4, m, mn, ml, v, f', G, ⟨⟨k10, (map_upd (map_below hm7 b8) us9 (fun e => nm e.symm)).mono (by omega), (map_upd (map_below o57 b8) us9 (fun e => nmn e.symm)).mono (by omega), (map_upd (map_below o67 b8) us9 (fun e => nml e.symm)).mono (by omega), ?_, by simp only; omega, by simp only; omega, by simp only; omega, by simp only; omega⟩, (FG7.below b8).cell us9 k9, ⟨h0.has.has, h0.has.at_, atKey_put_same isMap_empty (law_i.key (keyI 0 (by omega))) _ _, by omega⟩, h0.on, h0.arm⟩, g1, g2, g3, ?_⟩
  · exact ownsRow_upd (own_base o8 hsX) us9 (fun k e hh => by subst hh; exact nv e)
  · exact BX.trans ((b8.mono hsX).trans (us9.below (by have := b8.size; omega) (fun k hk e => by omega)))
set_option maxHeartbeats 4000000 in
theorem copy_a (base d N : Nat) (K : Dk) (f : Nat) (F : Fl) (w : World) (h : One base w d N K 0 f F) (hon : Only K 0) (hns : ∀ u ∈ K.ns, u.oneCell' = true) (hnl : K.ns.length ≤ 1000000000000) (hB : F.B.length ≤ 140737488355328) (hL : F.L.length ≤ 140737488355328) (hmany : F.S.length ≤ 1000000000000) :
    Calls Try.prog 17 #[.pointer (some ⟨d, 0, none⟩)] w fun e w' => ∃ c, e = .returned (.pointer (some ⟨c, 0, none⟩)) ∧ DCopied N K F w w' c := by
  have FC := fun W (b : Below w.heap.size w W) => fcopy_any base f F W (h.file.below b) hB hL hmany
  have NC := fun W (b : Below w.heap.size w W) => nclone_any base K.sv K.ns W (h.disk.below b).sown hns hnl
  have MN := fun W (b : Below w.heap.size w W) => mclone_any K.mn N K.DN W (h.disk.below b).mN
  have ML := fun W (b : Below w.heap.size w W) => mclone_any K.ml N K.DL W (h.disk.below b).mL
  have CX : ∀ W, Below w.heap.size w W → W.cell? ⟨d, 2, none⟩ = some (.map (some K.mn)) ∧ W.cell? ⟨d, 3, none⟩ = some (.map (some K.ml)) := fun W b => ⟨(h.disk.below b).cells.c2, (h.disk.below b).cells.c3⟩
  have C4 : ∀ W, Below w.heap.size w W → W.cell? ⟨d, 4, none⟩ = some K.sv := fun W b => (h.disk.below b).cells.c4
  have hmf : K.mf < w.heap.size := h.disk.mF.lt
  have HFA : Hid (K.DF.atKey (.int .i64 ((0 : Nat) : Int)) .nil = .lit (.int .i64 (f : Int))) := h.has.fat
  have HHA : Hid (Maps.has K.DF (.int .i64 ((0 : Nat) : Int)) = true) := has_true_of_atKey' h.has.fat
  have HON : Hid _ := hon
  have H0 : Hid _ := h
  obtain ⟨c0, c1, c2, c3, c4, c5, c6, c7, c8⟩ := h.disk.cells
  obtain ⟨ao, l, cc, hsv⟩ := row_shape h.disk.sown
  have hso := h.disk.sown
  rw [hsv] at hso c4
  obtain ⟨e1, _, _⟩ := own_len hso
  subst e1
  have HSV : Hid _ := hsv
  rw [hsv] at C4 NC
  have HFC : Hid _ := FC
  have HNC : Hid _ := NC
  have HMN : Hid _ := MN
  have HML : Hid _ := ML
  have HCX : Hid _ := CX
  have HC4 : Hid _ := C4
  have MF := fun W (b : Below w.heap.size w W) => (h.disk.below b).mF
  have C0 := fun W (b : Below w.heap.size w W) => (h.disk.below b).cells.c0
  have hmk := made_hint 48 _ _ Try.underlying48
  have HMF : Hid _ := MF
  have HC0 : Hid _ := C0
  clear MF C0 h hso hsv FC NC MN ML CX C4 hon hns
  have BA : Below w.heap.size w (w.alloc (.cells #[.map (some K.mf), .int .i64 (K.cr : Int), .map (some K.mn), .map (some K.ml), .slice ao K.ns.length cc, .int .i64 K.a1, .int .i64 K.a2, .int .i64 K.a3, .bool K.off] 55)) := (Below.refl _ _).alloc (Nat.le_refl _) _
  have BB : Below w.heap.size w ((w.alloc (.cells #[.map (some (w.heap.size + 1)), .int .i64 (K.cr : Int), .map (some K.mn), .map (some K.ml), .slice ao K.ns.length cc, .int .i64 K.a1, .int .i64 K.a2, .int .i64 K.a3, .bool K.off] 55)).alloc (.map #[] 0)) := (((Below.refl _ _).alloc (Nat.le_refl _) _).alloc (by rw [World.size_alloc]; omega) _)
  have XB : ((w.alloc (.cells #[.map (some (w.heap.size + 1)), .int .i64 (K.cr : Int), .map (some K.mn), .map (some K.ml), .slice ao K.ns.length cc, .int .i64 K.a1, .int .i64 K.a2, .int .i64 K.a3, .bool K.off] 55)).alloc (.map #[] 0)).heap[w.heap.size]? = some (.cells ({ K with mf := w.heap.size + 1 } : Dk).cells 55 (0, 0)) := by
    rw [Below.heap_alloc _ _ _ (by rw [World.size_alloc]; omega), heap_alloc_new]
    unfold Dk.cells
    rw [HSV.out]
  have MB : ((w.alloc (.cells #[.map (some (w.heap.size + 1)), .int .i64 (K.cr : Int), .map (some K.mn), .map (some K.ml), .slice ao K.ns.length cc, .int .i64 K.a1, .int .i64 K.a2, .int .i64 K.a3, .bool K.off] 55)).alloc (.map #[] 0)).ownsMap Try.prog 3 ptrR (w.heap.size + 1) 0 (.map []) := by
    have := World.ownsMap_made (H := Unit) (w.alloc (.cells #[.map (some (w.heap.size + 1)), .int .i64 (K.cr : Int), .map (some K.mn), .map (some K.ml), .slice ao K.ns.length cc, .int .i64 K.a1, .int .i64 K.a2, .int .i64 K.a3, .bool K.off] 55)) Try.prog 3 ptrR
    rw [World.size_alloc] at this
    exact this
  have SB : ((w.alloc (.cells #[.map (some (w.heap.size + 1)), .int .i64 (K.cr : Int), .map (some K.mn), .map (some K.ml), .slice ao K.ns.length cc, .int .i64 K.a1, .int .i64 K.a2, .int .i64 K.a3, .bool K.off] 55)).alloc (.map #[] 0)).heap.size = w.heap.size + 2 := by simp
  have a0 := HC0.out _ BA
  have b0 := HC0.out _ BB
  have B0 : Below w.heap.size w w := Below.refl _ _
  go_enter Try.func17, Try.ntmps17
  go_wp2_with (first
    | (at_len; refine wpList_len_own _ rfl _ 48 rfl 3 58 Try.underlying48 _ K.mf N K.DF rfl (HMF.out _ (by repeat' first | exact Below.refl _ _ | assumption | refine Below.alloc ?_ (by first | omega | (simp; omega) | (simp; done)) _ | refine Below.setCell ?_ (by first | omega | (simp; omega) | (simp; done)) _ | refine Below.drew ?_)) ?_)
    | (at_range; refine wpList_range_own _ rfl _ 48 rfl 3 58 law_i Try.underlying48 _ K.mf N K.DF rfl (HMF.out _ BB) ?_; intro w0 hrg0 hg0 hs0)
    | go_in)
  go_frame
  rw [SB]
  have hbw : Below ((w.alloc (.cells #[.map (some (w.heap.size + 1)), .int .i64 (K.cr : Int), .map (some K.mn), .map (some K.ml), .slice ao K.ns.length cc, .int .i64 K.a1, .int .i64 K.a2, .int .i64 K.a3, .bool K.off] 55)).alloc (.map #[] 0)).heap.size ((w.alloc (.cells #[.map (some (w.heap.size + 1)), .int .i64 (K.cr : Int), .map (some K.mn), .map (some K.ml), .slice ao K.ns.length cc, .int .i64 K.a1, .int .i64 K.a2, .int .i64 K.a3, .bool K.off] 55)).alloc (.map #[] 0)) w0 := (Below.refl _ _).grown hg0 (Nat.le_refl _) (fun k e => by cases e)
  have P0 : Cpd w K F w.heap.size (w.heap.size + 1) (w.heap.size + 2) N w0 (Maps.has K.DF) (Maps.size K.DF) := by
    refine ⟨by rw [SB] at hrg0; exact hrg0, fun kl h => h, BB.trans (hbw.mono BB.size), (hbw.block _ (lt_of_block XB)).trans XB, by omega, ⟨_, _, map_below MB hbw, fun _ => ⟨rfl, rfl⟩, fun e => by rw [HHA.out] at e; cases e⟩⟩
  clear hrg0 hg0 hs0 XB MB SB hbw BB BA b0 a0 HMF HC0 c0 c1 c2 c3 c4 c5 c6 c7 c8 hmk
  go_loopw [4] (fun _ wr => ∃ (left : Lit → Bool) (cnt : Nat), Cpd w K F w.heap.size (w.heap.size + 1) (w.heap.size + 2) N wr left cnt) (fun _ wr => wr.rangeLeft K.mf (w.heap.size + 2))
  case atStart => exact ⟨_, _, P0⟩
  case round =>
    obtain ⟨left, cnt, hP⟩ := hrel
    have hrg := hP.rg
    go_wp2_with (first
      | (at_next; refine wpList_next_ranges _ rfl _ rfl 3 law_i ptrR (Value.int .i64) Value.pointer (fun key kl hk => by obtain ⟨x, rfl, _⟩ := Maps.keyOf_int_inv Try.underlying3 hk; exact ⟨x, rfl⟩) (fun v y hv => ptrR_shape hv) K.mf (w.heap.size + 2) N K.DF left cnt rfl hrg ?_ ?_)
      | go_in)
    · intro _ hl0
      have Bw := hP.below
      have HP : Hid _ := hP
      have HL0 : Hid _ := hl0
      have hzw := Bw.size
      clear hP hrg hl0
      go_wp2
      go_region_held3 (fun W => W.cell? ⟨d, 2, none⟩ = some (.map (some K.mn)) ∧ W.cell? ⟨d, 3, none⟩ = some (.map (some K.ml))) (exact HCX.out _ (by repeat' first | exact Below.refl _ _ | assumption | refine Below.alloc ?_ (by first | omega | (simp; omega) | (simp; done)) _ | refine Below.setCell ?_ (by first | omega | (simp; omega) | (simp; done)) _ | refine Below.drew ?_)) (first
        | (go_at_call 27; (with_reducible refine (HMN.out _ (by repeat' first | exact Below.refl _ _ | assumption | refine Below.alloc ?_ (by first | omega | (simp; omega) | (simp; done)) _ | refine Below.setCell ?_ (by first | omega | (simp; omega) | (simp; done)) _ | refine Below.drew ?_)).mono ?_); clear HMN; rintro e w5 ⟨rfl, o5, b5⟩; have B5 : Below wr.heap.size wr w5 := Below.trans (by repeat' first | exact Below.refl _ _ | assumption | refine Below.alloc ?_ (by first | omega | (simp; omega) | (simp; done)) _ | refine Below.setCell ?_ (by first | omega | (simp; omega) | (simp; done)) _ | refine Below.drew ?_) (b5.mono (by first | exact Nat.le_refl _ | omega | (simp; omega) | (simp; done))); have Bw5 : Below w.heap.size w w5 := Bw.trans (B5.mono hzw); have z5 := Bw5.size; have zz5 := B5.size; clear b5)
        | (go_at_call 27; (with_reducible refine (HML.out _ (by repeat' first | exact Below.refl _ _ | assumption | refine Below.alloc ?_ (by first | omega | (simp; omega) | (simp; done)) _ | refine Below.setCell ?_ (by first | omega | (simp; omega) | (simp; done)) _ | refine Below.drew ?_)).mono ?_); clear HML; rintro e w6 ⟨rfl, o6, b6⟩; have B6 : Below w5.heap.size w5 w6 := Below.trans (by repeat' first | exact Below.refl _ _ | assumption | refine Below.alloc ?_ (by first | omega | (simp; omega) | (simp; done)) _ | refine Below.setCell ?_ (by first | omega | (simp; omega) | (simp; done)) _ | refine Below.drew ?_) (b6.mono (by first | exact Nat.le_refl _ | omega | (simp; omega) | (simp; done))); have Bw6 : Below w.heap.size w w6 := Bw5.trans (B6.mono z5); have z6 := Bw6.size; have zz6 := B6.size; clear b6; have ck := (HP.out.fin H0.out HL0.out o5 B5 (by first | exact Nat.le_refl _ | omega | (simp; omega) | (simp; done)) o6 B6 (by first | exact Nat.le_refl _ | omega | (simp; omega) | (simp; done))).1; have q2 := blk_cell ck 2 (v := .map (some K.mn)) rfl; have q3 := blk_cell ck 3 (v := .map (some K.ml)) rfl; have qf2 := free3 ck 2; have qf3 := free3 ck 3))
      obtain ⟨ck2, BX, FIN⟩ := HP.out.fin (mn := wr.heap.size) (ml := w5.heap.size) H0.out HL0.out o5 B5 (Nat.le_refl _) o6 B6 (Nat.le_refl _)
      have NCX := HNC.out _ BX
      have x4 := HC4.out _ BX
      have HFIN : Hid _ := FIN
      clear FIN ck2 ck q2 q3 qf2 qf3 HCX
      generalize ((w6.setCell ⟨w.heap.size, 2, none⟩ (.map (some wr.heap.size))).setCell ⟨w.heap.size, 3, none⟩ (.map (some w5.heap.size))) = X at *
      go_wp2_with (go_at_call 34; refine NCX.mono ?_; clear NCX; rintro e w8 ⟨v8, rfl, o8, b8⟩; obtain ⟨y4, yf4, q8⟩ := HFIN.out w8 v8 o8 b8; rw [HSV.out] at y4; obtain ⟨a8, l8, c8, rfl⟩ := row_shape o8)
      go_ret
      exact ⟨_, rfl, q8⟩
    · intro x c9 kl y1 y2 w1 cnt1 hkey hlk hv hat hrg1 hlt1 hgr1 hsz1 hen
      have ekl := HON.out kl (hP.sub kl hlk)
      subst ekl
      obtain ⟨x', ex, ey, _⟩ := Maps.keyOf_int_inv Try.underlying3 hkey
      simp at ex ey
      subst ex
      subst ey
      have hy := hat .nil
      rw [HFA.out] at hy
      subst hy
      obtain ⟨k9, e9, h9⟩ := ptrR_inv hv
      simp at e9
      subst e9
      obtain rfl : k9 = f := by omega
      obtain ⟨B2, J2, NX⟩ := hP.next hgr1 hrg1 (fun kl h => by simp at h; exact h.1) hlk (by simp [Lit.sameKey]) (by omega)
      have HNX : Hid _ := NX
      have HRG := hrg.left_eq
      have j2 := J2 _ (Below.refl _ _)
      have B20 : Below w1.heap.size w1 w1 := Below.refl _ _
      have hz2 := B2.size
      clear NX hP hrg hrg1 hat hv hkey hlk hgr1
      go_wp2
      go_region_with (first
        | (go_at_call 33; refine (HFC.out _ (by repeat' first | exact Below.refl _ _ | assumption | refine Below.alloc ?_ (by first | omega | (simp; omega) | (simp; done)) _ | refine Below.setCell ?_ (by first | omega | (simp; omega) | (simp; done)) _ | refine Below.drew ?_)).mono ?_; rintro e w3 ⟨c3, rfl, cp3⟩; obtain ⟨w4, hrun4, P4⟩ := HNX.out _ _ _ (by repeat' first | exact Below.refl _ _ | assumption | refine Below.alloc ?_ (by first | omega | (simp; omega) | (simp; done)) _ | refine Below.setCell ?_ (by first | omega | (simp; omega) | (simp; done)) _ | refine Below.drew ?_) cp3; have B3 : Below w1.heap.size w1 w3 := Below.trans (by repeat' first | exact Below.refl _ _ | assumption | refine Below.alloc ?_ (by first | omega | (simp; omega) | (simp; done)) _ | refine Below.setCell ?_ (by first | omega | (simp; omega) | (simp; done)) _ | refine Below.drew ?_) (cp3.choose_spec.2.2.2.2.mono (by first | exact Nat.le_refl _ | omega | (simp; omega) | (simp; done))); have j3 := J2 _ B3))
      all_goals (
        go_roundw
        case rel => exact ⟨_, _, _, _, _, _, _, _, _, _, _, _, ⟨_, cnt1, P4⟩, rfl⟩
        case measure => (rw [P4.rg.left_eq, HRG]; exact hlt1))
end Go.Proofs.Ytoedeoilaeppnaa
