/-
  Layer 7 (disk): restartFiles of a disk whose one file is a, or of one without names (written by gen_dm.py).
-/
import Derived.Test.YtgoafinbaiepmaaGreatDoorDl
namespace Go.Proofs.YtgoafinbaiepmaaGreatDoor
open Go.RowKit Go.Shelf Go.Maps Go.WideMaps
set_option maxRecDepth 100000

theorem FileAt.not_obj {base : Nat} {w : World} {f : Nat} {F : Fl} (h : FileAt base w f F) {k : Nat} {o : Obj} (hk : w.heap[k]? = some o) (ho : ∀ cs t fz, o ≠ .cells cs t fz) : ¬ FW f F k := by
  rintro (rfl | hk' | hk' | hk')
  · rw [h.block] at hk; exact ho _ _ _ (Option.some.inj hk).symm
  · exact own_not h.bown hk (fun cs => ho cs _ _) hk'
  · exact own_not h.lown hk (fun cs => ho cs _ _) hk'
  · exact own_not h.sown hk (fun cs => ho cs _ _) hk'
theorem DiskAt.setF {base d N : Nat} {w : World} {K : Dk} (h : DiskAt base w d N K) {m : Nat} {D : DataW Unit} (hm : w.ownsMap Tryz.prog 3 ptrR m N D) (h1 : m ≠ K.mn) (h2 : m ≠ K.ml) (hb : base ≤ m) : DiskAt base (w.setCell ⟨d, 0, none⟩ (.map (some m))) d N { K with mf := m, DF := D } := by
  have us : Upd (fun k => k = d) w (w.setCell ⟨d, 0, none⟩ (.map (some m))) := (Upd.refl (fun k => k = d) w).setCell (p := ⟨d, 0, none⟩) (fun _ => rfl) _
  exact ⟨blk_set h.block 0 _, map_upd hm us (fun e => map_not hm h.block e.symm), map_upd h.mN us (fun e => map_not h.mN h.block e.symm), map_upd h.mL us (fun e => map_not h.mL h.block e.symm), ownsRow_upd h.sown us (fun k e hh => by subst hh; exact own_not h.sown h.block (fun cs h => by simp at h) e), h1, h2, h.n3, ⟨h.low.1, hb, h.low.2.2⟩⟩
theorem DiskAt.setN {base d N : Nat} {w : World} {K : Dk} (h : DiskAt base w d N K) {m : Nat} {D : DataW Unit} (hm : w.ownsMap Tryz.prog 9 (plainElem (H := Unit) Tryz.prog 3) m N D) (h1 : K.mf ≠ m) (h2 : m ≠ K.ml) (hb : base ≤ m) : DiskAt base (w.setCell ⟨d, 2, none⟩ (.map (some m))) d N { K with mn := m, DN := D } := by
  have us : Upd (fun k => k = d) w (w.setCell ⟨d, 2, none⟩ (.map (some m))) := (Upd.refl (fun k => k = d) w).setCell (p := ⟨d, 2, none⟩) (fun _ => rfl) _
  exact ⟨blk_set h.block 2 _, map_upd h.mF us (fun e => map_not h.mF h.block e.symm), map_upd hm us (fun e => map_not hm h.block e.symm), map_upd h.mL us (fun e => map_not h.mL h.block e.symm), ownsRow_upd h.sown us (fun k e hh => by subst hh; exact own_not h.sown h.block (fun cs h => by simp at h) e), h1, h.n2, h2, ⟨h.low.1, h.low.2.1, hb, h.low.2.2.2⟩⟩
theorem DiskAt.setS {base d N : Nat} {w : World} {K : Dk} (h : DiskAt base w d N K) : DiskAt base (w.setCell ⟨d, 4, none⟩ (.slice none 0 0)) d N { K with sv := .slice none 0 0, ns := [] } := by
  have us : Upd (fun k => k = d) w (w.setCell ⟨d, 4, none⟩ (.slice none 0 0)) := (Upd.refl (fun k => k = d) w).setCell (p := ⟨d, 4, none⟩) (fun _ => rfl) _
  exact ⟨blk_set h.block 4 _, map_upd h.mF us (fun e => map_not h.mF h.block e.symm), map_upd h.mN us (fun e => map_not h.mN h.block e.symm), map_upd h.mL us (fun e => map_not h.mL h.block e.symm), World.ownsRow_nil _ _ _ _, h.n1, h.n2, h.n3, h.low⟩
theorem DiskAt.setA {base d N : Nat} {w : World} {K K' : Dk} (h : DiskAt base w d N K) (i : Nat) (v : Value) (hc : K.cells.setIfInBounds i v = K'.cells) (e1 : K'.mf = K.mf) (e2 : K'.mn = K.mn) (e3 : K'.ml = K.ml) (e4 : K'.sv = K.sv) (e5 : K'.ns = K.ns) (e6 : K'.DF = K.DF) (e7 : K'.DN = K.DN) (e8 : K'.DL = K.DL) : DiskAt base (w.setCell ⟨d, i, none⟩ v) d N K' := by
  have us : Upd (fun k => k = d) w (w.setCell ⟨d, i, none⟩ v) := (Upd.refl (fun k => k = d) w).setCell (p := ⟨d, i, none⟩) (fun _ => rfl) _
  have kb := blk_set h.block i v
  rw [hc] at kb
  refine ⟨kb, ?_, ?_, ?_, ?_, by rw [e1, e2]; exact h.n1, by rw [e1, e3]; exact h.n2, by rw [e2, e3]; exact h.n3, by rw [e1, e2, e3]; exact h.low⟩
  · rw [e1, e6]; exact map_upd h.mF us (fun e => map_not h.mF h.block e.symm)
  · rw [e2, e7]; exact map_upd h.mN us (fun e => map_not h.mN h.block e.symm)
  · rw [e3, e8]; exact map_upd h.mL us (fun e => map_not h.mL h.block e.symm)
  · rw [e4, e5]; exact ownsRow_upd h.sown us (fun k e hh => by subst hh; exact own_not h.sown h.block (fun cs h => by simp at h) e)
theorem DiskAt.mono {base d N N' : Nat} {w : World} {K : Dk} (h : DiskAt base w d N K) (hN : N ≤ N') : DiskAt base w d N' K := ⟨h.block, h.mF.mono hN, h.mN.mono hN, h.mL.mono hN, h.sown, h.n1, h.n2, h.n3, h.low⟩
theorem keyS_inv {key : Value} {kl : Lit} (h : keyOf Tryz.prog 9 key = some kl) : ∃ s : ByteArray, key = .string s := by
  cases key <;> simp [keyOf, Tryz.underlying9, mapKey] at h
  exact ⟨_, rfl⟩
theorem intR_inv {v : Value} {y : DataW Unit × List MemPlace} (h : plainElem (H := Unit) Tryz.prog 3 v = some y) : ∃ c, v = .int .i64 c := by
  obtain ⟨c, rfl, _⟩ := plainElem_int_inv Tryz.underlying3 h
  exact ⟨c, rfl⟩

/-- Without names: no files. -/
def NoFiles (base d N : Nat) (K : Dk) (w w' : World) : Prop := ∃ m, DiskAt base w' d N { K with mf := m, DF := .map [] } ∧ Below base w w' ∧ Upd (fun k => k = d) w w'
set_option maxHeartbeats 4000000 in
theorem restartFiles_none (base d N : Nat) (K : Dk) (dv : Value) (w : World) (h : DiskAt base w d N K) (hb : base ≤ w.heap.size) (hno : K.DN = .map []) :
    Calls Tryz.prog 59 #[.pointer (some ⟨d, 0, none⟩), dv] w fun e w' => e = .returned (.tuple #[]) ∧ NoFiles base d N K w w' := by
  have MN := h.mN
  have c2 := h.cells.c2
  have BA : Below w.heap.size w (w.alloc (.map #[] 0)) := (Below.refl _ _).alloc (Nat.le_refl _) _
  have a2 := (h.below BA).cells.c2
  have MNA := (h.below BA).mN
  have hmk := made_hint 90 _ _ Tryz.underlying90
  have END : ∀ wr, Below (w.alloc (.map #[] 0)).heap.size (w.alloc (.map #[] 0)) wr → wr.cell? ⟨d, 0, none⟩ = some (.map (some K.mf)) ∧ wr.frozen? ⟨d, 0, none⟩ = false ∧ NoFiles base d N K w (wr.setCell ⟨d, 0, none⟩ (.map (some w.heap.size))) := by
    intro wr br
    have D1 := (h.below BA).below br
    have hm := (map_below (World.ownsMap_made (H := Unit) w Tryz.prog 3 ptrR) br).mono (Nat.zero_le N)
    have l1 := h.mN.lt
    have l2 := h.mL.lt
    have ub : Upd (fun k => k = d) w wr := Upd.ofBelow (BA.trans (br.mono BA.size)) (fun k h1 h2 => by omega)
    refine ⟨D1.cells.c0, free3 D1.block 0, w.heap.size, D1.setF hm (by omega) (by omega) hb, ?_, ub.setCell (p := ⟨d, 0, none⟩) (fun _ => rfl) _⟩
    have b3 := (BA.trans (br.mono BA.size)).mono hb
    exact b3.trans (((Upd.refl (fun k => k = d) wr).setCell (p := ⟨d, 0, none⟩) (fun _ => rfl) _).below (by have := b3.size; omega) (fun k hk e => by have := h.low.1; omega))
  have HEND : Hid _ := END
  have HNO : Hid _ := hno
  clear END h hno
  go_enter Tryz.func59, Tryz.ntmps59
  go_wp2_with (first
    | (at_len; refine wpList_len_own _ rfl _ 91 rfl 9 3 Tryz.underlying91 _ K.mn N K.DN rfl MN ?_)
    | (at_range; refine wpList_range_own _ rfl _ 91 rfl 9 3 law_s Tryz.underlying91 _ K.mn N K.DN rfl MNA ?_; intro w0 hrg0 hg0 hs0)
    | go_in)
  go_frame
  have B0 : Below (w.alloc (.map #[] 0)).heap.size (w.alloc (.map #[] 0)) w0 := (Below.refl _ _).grown hg0 (Nat.le_refl _) (fun k e => by cases e)
  rw [World.size_alloc] at hrg0
  rw [World.size_alloc]
  go_loopw [6] (fun _ wr => wr = w0) (fun _ _ => 0)
  case atStart => rfl
  case round =>
    subst hrel
    go_wp2_with (first
      | (at_next; refine wpList_next_ranges _ rfl _ rfl 9 law_s _ Value.string (Value.int .i64) (fun key kl hk => keyS_inv hk) (fun v y hv => intR_inv hv) K.mn (w.heap.size + 1) N K.DN _ _ rfl hrg0 ?_ ?_)
      | go_in)
    · intro _ hl0
      obtain ⟨e0, e1, q⟩ := HEND.out _ B0
      clear HEND
      go_wp2
      go_returns
      exact ⟨rfl, q⟩
    · intro x c9 kl y1 y2 w1 cnt1 hkey hlk
      rw [HNO.out] at hlk
      simp [Maps.has] at hlk

/-- The names are the one alone. -/
def OnlyN (K : Dk) : Prop := ∀ kl, Maps.has K.DN kl = true → kl = .string [97]
/-- Midway in restartFiles. -/
structure Rsf (base d N : Nat) (K : Dk) (f : Nat) (F : Fl) (u g : Nat) (w : World) (m r : Nat) (wr : World) (left : Lit → Bool) (cnt : Nat) : Prop where
  rg : wr.ranges Tryz.prog 9 (plainElem (H := Unit) Tryz.prog 3) K.mn r N K.DN left cnt
  sub : ∀ kl, left kl = true → Maps.has K.DN kl = true
  disk : DiskAt base wr d N K
  below : Below base w wr
  low : w.heap.size ≤ m ∧ w.heap.size ≤ r ∧ DW d K d ∧ ∀ k, DW d K k → k < w.heap.size
  dat : wr.heap[g]? = some (.cells #[.int .i64 (u : Int)] 3 (0, 0))
  st : ∃ D n, wr.ownsMap Tryz.prog 3 ptrR m n D ∧ (left (.string [97]) = true → n = 0 ∧ D = .map [] ∧ FileAt base wr f F) ∧ (left (.string [97]) = false → n = 1 ∧ D = DataW.put (.map []) (.int .i64 ((0 : Nat) : Int)) (.lit (.int .i64 (f : Int))) ∧ ∃ G, FileAt base wr f G ∧ G.B = firstOn F.L F.S u ∧ G.L = firstOn F.L F.S u ∧ G.S = [])
theorem Rsf.next {base d N : Nat} {K : Dk} {f : Nat} {F : Fl} {u g : Nat} {w : World} {m r : Nat} {wr w1 : World} {left left' : Lit → Bool} {cnt cnt' : Nat} (h : Rsf base d N K f F u g w m r wr left cnt) (ha : HasA K 0 f) (hb : base ≤ w.heap.size) (hg1 : wr.grownBy w1 (some r)) (hrg : w1.ranges Tryz.prog 9 (plainElem (H := Unit) Tryz.prog 3) K.mn r N K.DN left' cnt') (hsub : ∀ kl, left' kl = true → left kl = true) (hl : left (.string [97]) = true) (hl' : left' (.string [97]) = false) (hu : u ≤ 9223372036854775807) (hbig : F.L.length + unitsL F.S ≤ 140737488355328) :
    w1.cell? ⟨g, 0, none⟩ = some (.int .i64 (u : Int)) ∧ w1.cell? ⟨d, 0, none⟩ = some (.map (some K.mf)) ∧ (Instr.lookup 90 (.map (some K.mf)) (.int .i64 0) false).run Tryz.prog w1 = .ok (.pointer (some ⟨f, 0, none⟩)) w1 ∧ ∃ w2, (Instr.mapUpdate 90 (.map (some m)) (.int .i64 0) (.pointer (some ⟨f, 0, none⟩))).run Tryz.prog w1 = .ok () w2 ∧ (Instr.lookup 90 (.map (some m)) (.int .i64 0) false).run Tryz.prog w2 = .ok (.pointer (some ⟨f, 0, none⟩)) w2 ∧ Calls Tryz.prog 116 #[.pointer (some ⟨f, 0, none⟩), .int .i64 (u : Int)] w2 fun e w3 => e = .returned (.tuple #[]) ∧ Rsf base d N K f F u g w m r w3 left' cnt' := by
  have u1 : Upd (fun k => k = r) wr w1 := (Upd.refl _ _).grown hg1 (fun _ _ e => (Option.some.inj e).symm)
  obtain ⟨D, n, hm, hD, _⟩ := h.st
  obtain ⟨rfl, rfl, FF⟩ := hD hl
  obtain ⟨hlow1, hlow2, _, hlow3⟩ := h.low
  have hs := h.below.size
  have D1 : DiskAt base w1 d N K := h.disk.upd u1 (fun k hk e => by have := hlow3 k hk; omega)
  obtain ⟨es, x, hmb⟩ := map_block hm
  have nr : m ≠ r := ranges_map h.rg hmb
  have hm1 := map_upd hm u1 nr
  have hrI : ∃ a b c e, wr.heap[r]? = some (.mapIter a b c e) := by obtain ⟨es, clock, since, seen, c0, hb, hF, hs, hD, hr, rest⟩ := h.rg; exact ⟨_, _, _, _, hr⟩
  obtain ⟨ia, ib, ic, ie, hrI⟩ := hrI
  have F1 : FileAt base w1 f F := FF.upd u1 (fun k hk e => by subst e; exact FF.not_obj hrI (by simp) hk) (fun s hs k e hh => by subst hh; obtain ⟨cs, hc⟩ := (FF.steps s hs).type e; rw [hrI] at hc; simp at hc)
  have ng : g ≠ r := (ranges_iter h.rg h.dat).2
  have dat1 := (u1.block g (lt_of_block h.dat) ng).trans h.dat
  have zP : ∀ w, (zeroValue 157).run Tryz.prog w = .ok (.pointer none) w := by intro w; kernel_rfl
  obtain ⟨v2, ps2, L2, V2⟩ := D1.mF.lookup law_i Tryz.underlying90 (zP w1) ptrR_nil (keyI 0 (by omega))
  rw [ha.fat] at V2
  obtain ⟨k, rfl, hk⟩ := ptrR_inv V2
  obtain rfl : k = f := by omega
  obtain ⟨w2, hrun, o2, t2⟩ := hm1.store law_i Tryz.underlying90 (by unfold maxLen; omega) (keyI 0 (by omega)) (ptrR_mk k)
  have u2 : Upd (fun k => k = m) w1 w2 := turned_upd t2
  obtain ⟨v3, ps3, L3, V3⟩ := o2.lookup law_i Tryz.underlying90 (zP w2) ptrR_nil (keyI 0 (by omega))
  rw [atKey_put_same isMap_empty (law_i.key (keyI 0 (by omega)))] at V3
  obtain ⟨k3, rfl, hk3⟩ := ptrR_inv V3
  obtain rfl : k3 = k := by omega
  obtain ⟨es1, x1, hmb1⟩ := map_block hm1
  have F2 := F1.map u2 hmb1
  have D2 : DiskAt base w2 d N K := D1.upd u2 (fun k hk e => by have := hlow3 k hk; omega)
  have ngm : g ≠ m := map_not hm1 dat1
  have dat2 := (u2.block g (lt_of_block dat1) ngm).trans dat1
  have hs1 := u1.size
  have hs2 := u2.size
  refine ⟨blk_cell dat1 0 rfl, D1.cells.c0, L2, w2, hrun, L3, ?_⟩
  refine (frestart_any base k3 F u w2 F2 (by omega) hu hbig).mono ?_
  rintro e w3 ⟨rfl, G, FG, g1, g2, g3, u3, _⟩
  have rg2 := ranges_upd hrg u2 (fun e => by have := hlow3 K.mn (Or.inr (Or.inr (Or.inl rfl))); omega) (fun e => nr e.symm)
  have hrI2 : ∃ a b c e, w2.heap[r]? = some (.mapIter a b c e) := by obtain ⟨es, clock, since, seen, c0, hb, hF, hs, hD, hr, rest⟩ := rg2; exact ⟨_, _, _, _, hr⟩
  obtain ⟨ia2, ib2, ic2, ie2, hrI2⟩ := hrI2
  obtain ⟨es2, x2, hmb2⟩ := map_block o2
  obtain ⟨es4, x4, hmn2⟩ := map_block D2.mN
  refine ⟨rfl, ⟨ranges_upd rg2 u3 (F2.not_map hmn2) (F2.not_obj hrI2 (by simp)), fun kl hk => h.sub kl (hsub kl hk), D2.file F2 u3, ?_, h.low, (u3.block g (lt_of_block dat2) (F2.not_cells dat2 (by decide) (by decide) (by decide))).trans dat2, ⟨_, _, map_upd o2 u3 (F2.not_map hmb2), (fun e => by rw [hl'] at e; cases e), (fun _ => ⟨rfl, rfl, G, FG, g1, g2, g3⟩)⟩⟩⟩
  exact h.below.trans ((u1.below (by omega) (fun k hk e => by omega)).trans ((u2.below (by omega) (fun k hk e => by omega)).trans (u3.below (by omega) (fun k hk e => by have := (F2.lt e).1; omega))))
/-- The one file restarted. -/
def OneRe (base d N : Nat) (K : Dk) (f : Nat) (F : Fl) (u : Nat) (w w' : World) : Prop := ∃ m G, One base w' d N { K with mf := m, DF := DataW.put (.map []) (.int .i64 ((0 : Nat) : Int)) (.lit (.int .i64 (f : Int))) } 0 f G ∧ G.B = firstOn F.L F.S u ∧ G.L = firstOn F.L F.S u ∧ G.S = [] ∧ Below base w w'
set_option maxHeartbeats 4000000 in
theorem restartFiles_one (base d N : Nat) (K : Dk) (f : Nat) (F : Fl) (u g : Nat) (w : World) (h : One base w d N K 0 f F) (hb : base ≤ w.heap.size) (hon : OnlyN K) (hN : 1 ≤ N) (hd : w.heap[g]? = some (.cells #[.int .i64 (u : Int)] 3 (0, 0))) (hu : u ≤ 4611686018427387904) (hbig : F.L.length + unitsL F.S ≤ 140737488355328) :
    Calls Tryz.prog 59 #[.pointer (some ⟨d, 0, none⟩), .slice (some ⟨g, 0, none⟩) 1 1] w fun e w' => e = .returned (.tuple #[]) ∧ OneRe base d N K f F u w w' := by
  have MN := h.disk.mN
  have c2 := h.disk.cells.c2
  have BA : Below w.heap.size w (w.alloc (.map #[] 0)) := (Below.refl _ _).alloc (Nat.le_refl _) _
  have a2 := (h.disk.below BA).cells.c2
  have MNA := (h.disk.below BA).mN
  have hmk := made_hint 90 _ _ Tryz.underlying90
  have START : ∀ w0, (w.alloc (.map #[] 0)).grownBy w0 none → w0.ranges Tryz.prog 9 (plainElem (H := Unit) Tryz.prog 3) K.mn (w.heap.size + 1) N K.DN (Maps.has K.DN) (Maps.size K.DN) → Rsf base d N K f F u g w w.heap.size (w.heap.size + 1) w0 (Maps.has K.DN) (Maps.size K.DN) := by
    intro w0 hg0 hrg0
    have br : Below (w.alloc (.map #[] 0)).heap.size (w.alloc (.map #[] 0)) w0 := (Below.refl _ _).grown hg0 (Nat.le_refl _) (fun k e => by cases e)
    have hh := h.has.has
    refine ⟨hrg0, fun kl h => h, (h.disk.below BA).below br, (BA.trans (br.mono BA.size)).mono hb, ⟨Nat.le_refl _, by omega, Or.inl rfl, fun k hk => (h.disk.lt hk).2⟩, (br.block g (by rw [World.size_alloc]; have := lt_of_block hd; omega)).trans ((BA.block g (lt_of_block hd)).trans hd), ⟨_, _, map_below (World.ownsMap_made (H := Unit) w Tryz.prog 3 ptrR) br, (fun _ => ⟨rfl, rfl, (h.file.below BA).below br⟩), (fun e => by rw [hh] at e; cases e)⟩⟩
  have END : ∀ wr left cnt, Rsf base d N K f F u g w w.heap.size (w.heap.size + 1) wr left cnt → (∀ kl, left kl = false) → wr.cell? ⟨d, 0, none⟩ = some (.map (some K.mf)) ∧ wr.frozen? ⟨d, 0, none⟩ = false ∧ OneRe base d N K f F u w (wr.setCell ⟨d, 0, none⟩ (.map (some w.heap.size))) := by
    intro wr left cnt hR hl
    obtain ⟨D, n, hm, _, hD⟩ := hR.st
    obtain ⟨rfl, rfl, G, FG, g1, g2, g3⟩ := hD (hl _)
    have D1 := hR.disk
    have l1 := hR.low.2.2.2 _ (Or.inr (Or.inr (Or.inl rfl)))
    have l2 := hR.low.2.2.2 _ (Or.inr (Or.inr (Or.inr (Or.inl rfl))))
    have us : Upd (fun k => k = d) wr (wr.setCell ⟨d, 0, none⟩ (.map (some w.heap.size))) := (Upd.refl (fun k => k = d) wr).setCell (p := ⟨d, 0, none⟩) (fun _ => rfl) _
    refine ⟨D1.cells.c0, free3 D1.block 0, w.heap.size, G, ⟨D1.setF (hm.mono hN) (by omega) (by omega) hb, FG.cell us D1.block, ⟨h.has.has, h.has.at_, atKey_put_same isMap_empty (law_i.key (keyI 0 (by omega))) _ _, by omega⟩, h.on, h.arm⟩, g1, g2, g3, ?_⟩
    exact hR.below.trans (us.below (by have := hR.below.size; omega) (fun k hk e => by have := h.disk.low.1; omega))
  have NX := fun (wr w1 : World) left left' cnt cnt' (hR : Rsf base d N K f F u g w w.heap.size (w.heap.size + 1) wr left cnt) hg1 hrg hsub hl hl' => @Rsf.next base d N K f F u g w w.heap.size (w.heap.size + 1) wr w1 left left' cnt cnt' hR h.has hb hg1 hrg hsub hl hl' (by omega) hbig
  have HAT : Hid (K.DN.atKey (.string [97]) (.lit (.int .i64 0)) = .lit (.int .i64 ((0 : Nat) : Int))) := h.has.at_
  have HON : Hid _ := hon
  have HEND : Hid _ := END
  have HNX : Hid _ := NX
  have HST : Hid _ := START
  have k1 : ¬ ((u : Int) < 0) := by omega
  have k2 : (0 : Int) ≤ (u : Int) := by omega
  have k3 : max (u : Int) 0 = (u : Int) := by omega
  clear END NX START h hd hbig hon
  go_enter Tryz.func59, Tryz.ntmps59
  go_wp2_with (first
    | (at_len; refine wpList_len_own _ rfl _ 91 rfl 9 3 Tryz.underlying91 _ K.mn N K.DN rfl MN ?_)
    | (at_range; refine wpList_range_own _ rfl _ 91 rfl 9 3 law_s Tryz.underlying91 _ K.mn N K.DN rfl MNA ?_; intro w0 hrg0 hg0 hs0)
    | go_in)
  try go_frame
  rw [World.size_alloc] at hrg0
  try rw [World.size_alloc]
  have P0 := HST.out w0 hg0 hrg0
  clear hrg0 hg0 hs0 HST MN MNA c2 a2 BA hmk
  go_loopw [6] (fun _ wr => ∃ (left : Lit → Bool) (cnt : Nat), Rsf base d N K f F u g w w.heap.size (w.heap.size + 1) wr left cnt) (fun _ wr => wr.rangeLeft K.mn (w.heap.size + 1))
  case atStart => exact ⟨_, _, P0⟩
  case round =>
    obtain ⟨left, cnt, hR⟩ := hrel
    have hrg := hR.rg
    go_wp2_with (first
      | (at_next; refine wpList_next_ranges _ rfl _ rfl 9 law_s _ Value.string (Value.int .i64) (fun key kl hk => keyS_inv hk) (fun v y hv => intR_inv hv) K.mn (w.heap.size + 1) N K.DN left cnt rfl hrg ?_ ?_)
      | go_in)
    · intro _ hl0
      obtain ⟨e0, e1, q⟩ := HEND.out _ _ _ hR hl0
      clear HEND HNX hR hrg hl0
      go_wp2
      go_returns
      exact ⟨rfl, q⟩
    · intro x c9 kl y1 y2 w1 cnt1 hkey hlk hv hat hrg1 hlt1 hgr1 hsz1 hen
      have ekl := HON.out kl (hR.sub kl hlk)
      subst ekl
      have hy := hat (.lit (.int .i64 0))
      rw [HAT.out] at hy
      subst hy
      obtain ⟨c8, e8, h8, _⟩ := plainElem_int_inv Tryz.underlying3 hv
      simp at e8 h8
      subst e8
      obtain rfl : c9 = 0 := by omega
      obtain ⟨q1, q2, q3, w2, q4, q5, RS⟩ := HNX.out wr w1 left _ cnt cnt1 hR hgr1 hrg1 (fun kl h => by simp at h; exact h.1) hlk (by simp [Lit.sameKey])
      have HRG := hrg.left_eq
      clear hR hrg hrg1 hat hv hkey hlk hgr1 HNX HEND
      go_wp2_with (go_at_call 116; refine RS.mono ?_; clear RS; rintro e w3 ⟨rfl, R3⟩)
      exact ⟨⟨_, cnt1, R3⟩, by rw [R3.rg.left_eq, HRG]; exact hlt1⟩
end Go.Proofs.YtgoafinbaiepmaaGreatDoor
