/-
  Layer 7 (disk): restartFiles of a disk of many files.
-/
import Derived.Test.YtgoafinbaiepmaaGreatDoorDx
namespace Go.Proofs.YtgoafinbaiepmaaGreatDoor
open Go.RowKit Go.Shelf Go.Maps Go.WideMaps
set_option maxRecDepth 100000

/-- A slice of ints that lies below. -/
structure HoldI (base : Nat) (w : World) (ad : Option Addr) (n : Nat) (Ks : List Int) : Prop where
  len : Ks.length = n
  cells : ∀ (j : Nat) x, Ks[j]? = some x → ∃ b o, ad = some ⟨b, o, none⟩ ∧ w.cell? ⟨b, o + j, none⟩ = some (.int .i64 x) ∧ b < base
  fit : ∀ x ∈ Ks, x ≤ 9223372036854775807
theorem HoldI.below {base : Nat} {w w' : World} {ad : Option Addr} {n : Nat} {Ks : List Int} (h : HoldI base w ad n Ks) (hb : Below base w w') : HoldI base w' ad n Ks :=
  ⟨h.len, fun j x hx => by
    obtain ⟨b, o, e, hc, hl⟩ := h.cells j x hx
    exact ⟨b, o, e, (hb.cell (p := ⟨b, o + j, none⟩) hl).trans hc, hl⟩, h.fit⟩
/-- Types of blocks that no disk has. -/
def OT (t : TypeId) : Prop := t ≠ 96 ∧ t ≠ 128 ∧ t ≠ 174 ∧ t ≠ 5 ∧ t ≠ 254
/-- Blocks of others. -/
def Oth (w : World) (k : Nat) : Prop := ∃ cs t fz, w.heap[k]? = some (.cells cs t fz) ∧ OT t
theorem ot_of {e : TypeId} (he : e = 9 ∨ e = 3) : OT e := by
  rcases he with rfl | rfl
  · exact ⟨by decide, by decide, by decide, by decide, by decide⟩
  · exact ⟨by decide, by decide, by decide, by decide, by decide⟩
theorem DiskAt.oth {base d N : Nat} {w : World} {K : Dk} (h : DiskAt base w d N K) {k : Nat} (hk : Oth w k) : ¬ DW d K k := by
  obtain ⟨cs, t, fz, hc, ht⟩ := hk
  rintro (rfl | rfl | rfl | rfl | hk)
  · rw [h.block] at hc
    simp at hc
    obtain ⟨_, rfl, _⟩ := hc
    exact ht.1 rfl
  · obtain ⟨es, c, hb⟩ := map_block h.mF; rw [hb] at hc; cases hc
  · obtain ⟨es, c, hb⟩ := map_block h.mN; rw [hb] at hc; cases hc
  · obtain ⟨es, c, hb⟩ := map_block h.mL; rw [hb] at hc; cases hc
  · obtain ⟨cs2, hc2⟩ := own_type h.sown hk
    rw [hc2] at hc
    simp at hc
    obtain ⟨_, rfl, _⟩ := hc
    exact ht.2.1 rfl
theorem FileAt.oth {base : Nat} {w : World} {f : Nat} {F : Fl} (h : FileAt base w f F) {k : Nat} (hk : Oth w k) : ¬ BW f F k := by
  obtain ⟨cs, t, fz, hc, ht⟩ := hk
  rintro (hk | ⟨s, hs, hk⟩)
  · exact h.not_cells hc ht.2.2.1 ht.2.2.2.1 ht.2.2.2.2 hk
  · obtain ⟨cs2, hc2⟩ := (h.steps s hs).type hk
    rw [hc2] at hc
    simp at hc
    obtain ⟨_, rfl, _⟩ := hc
    exact ht.2.2.2.1 rfl
/-- Such blocks stay as they are. -/
def KeepC (w w' : World) : Prop := ∀ k, Oth w k → w'.heap[k]? = w.heap[k]?
theorem KeepC.refl (w : World) : KeepC w w := fun _ _ => rfl
theorem KeepC.trans {a b c : World} (h : KeepC a b) (k : KeepC b c) : KeepC a c := fun i hi => by
  have e := h i hi
  obtain ⟨cs, t, fz, hc, ht⟩ := hi
  exact (k i ⟨cs, t, fz, e.trans hc, ht⟩).trans e
theorem Oth.lt {w : World} {k : Nat} (h : Oth w k) : k < w.heap.size := by
  obtain ⟨cs, t, fz, hc, _⟩ := h
  exact lt_of_block hc
theorem KeepC.of {S : Nat → Prop} {w w' : World} (u : Upd S w w') (h : ∀ k, S k → ¬ Oth w k) : KeepC w w' := fun k hk => u.block k hk.lt (fun e => h k e hk)
theorem KeepC.ofBelow {w w' : World} (b : Below w.heap.size w w') : KeepC w w' := fun k hk => b.block k hk.lt
theorem oth_obj {w : World} {k : Nat} {o : Obj} (hk : w.heap[k]? = some o) (ho : ∀ cs t fz, o ≠ .cells cs t fz) : ¬ Oth w k := by
  rintro ⟨cs, t, fz, hc, _⟩
  rw [hk] at hc
  exact ho _ _ _ (Option.some.inj hc)
/-- What is kept of a file, by its number. -/
def unitK (Ks : List Int) (i : Nat) : Nat := (Ks.getD i 0).toNat
/-- Midway in restartFiles. -/
structure Rsm (nm : Nat → ByteArray) (base d N : Nat) (K : Dk) (Fs : List (Nat × Fl)) (Ks : List Int) (w : World) (m r : Nat) (wr : World) (left : Lit → Bool) (cnt : Nat) (Gs : List (Nat × Fl)) : Prop where
  rg : wr.ranges Tryz.prog 9 (plainElem (H := Unit) Tryz.prog 3) K.mn r N K.DN left cnt
  sub : ∀ kl, left kl = true → Maps.has K.DN kl = true
  many : Many nm base wr d N K Gs
  len : Gs.length = Fs.length
  below : Below base w wr
  keep : KeepC w wr
  low : w.heap.size ≤ m ∧ w.heap.size ≤ r ∧ ∀ k, DW d K k → k < w.heap.size
  st : ∃ D n, wr.ownsMap Tryz.prog 3 ptrR m n D ∧ n + cnt ≤ N ∧ ∀ (i : Nat) p, Gs[i]? = some p → ∃ F, Fs[i]? = some (p.1, F) ∧ (left (.string (nm i).data.toList) = true → p.2 = F) ∧ (left (.string (nm i).data.toList) = false → p.2.B = firstOn F.L F.S (unitK Ks i) ∧ p.2.L = firstOn F.L F.S (unitK Ks i) ∧ p.2.S = [] ∧ D.atKey (.int .i64 (i : Int)) .nil = .lit (.int .i64 (p.1 : Int)))
theorem same_str (a b : List UInt8) : (Lit.string a).sameKey (.string b) = decide (a = b) := by
  by_cases h : a = b
  · subst h
    simp [Lit.sameKey]
  · simp [Lit.sameKey, h]
theorem Rsm.next {nm : Nat → ByteArray} {base d N : Nat} {K : Dk} {Fs : List (Nat × Fl)} {Ks : List Int} {w : World} {m r : Nat} {wr w1 : World} {left : Lit → Bool} {cnt cnt' : Nat} {Gs : List (Nat × Fl)} (h : Rsm nm base d N K Fs Ks w m r wr left cnt Gs) {i f : Nat} {F : Fl} (hi : Gs[i]? = some (f, F)) (hb : base ≤ w.heap.size) (hinj : ∀ j : Nat, j < Fs.length → j ≠ i → (nm j).data.toList ≠ (nm i).data.toList) (hg1 : wr.grownBy w1 (some r)) (hrg : w1.ranges Tryz.prog 9 (plainElem (H := Unit) Tryz.prog 3) K.mn r N K.DN (fun z => left z && !z.sameKey (.string (nm i).data.toList)) cnt') (hcnt : cnt' < cnt) (hl : left (.string (nm i).data.toList) = true) (hN : N ≤ maxLen) (hu : unitK Ks i ≤ 9223372036854775807) (hbig : F.L.length + unitsL F.S ≤ 140737488355328) :
    w1.cell? ⟨d, 0, none⟩ = some (.map (some K.mf)) ∧ (Instr.lookup 90 (.map (some K.mf)) (.int .i64 (i : Int)) false).run Tryz.prog w1 = .ok (.pointer (some ⟨f, 0, none⟩)) w1 ∧ ∃ w2, (Instr.mapUpdate 90 (.map (some m)) (.int .i64 (i : Int)) (.pointer (some ⟨f, 0, none⟩))).run Tryz.prog w1 = .ok () w2 ∧ (Instr.lookup 90 (.map (some m)) (.int .i64 (i : Int)) false).run Tryz.prog w2 = .ok (.pointer (some ⟨f, 0, none⟩)) w2 ∧ Calls Tryz.prog 116 #[.pointer (some ⟨f, 0, none⟩), .int .i64 (unitK Ks i : Int)] w2 fun e w3 => e = .returned (.tuple #[]) ∧ ∃ Hs, Rsm nm base d N K Fs Ks w m r w3 (fun z => left z && !z.sameKey (.string (nm i).data.toList)) cnt' Hs := by
  have u1 : Upd (fun k => k = r) wr w1 := (Upd.refl _ _).grown hg1 (fun _ _ e => (Option.some.inj e).symm)
  obtain ⟨D, n, hm, hn, hD⟩ := h.st
  obtain ⟨hlow1, hlow2, hlow3⟩ := h.low
  have hs := h.below.size
  have hil : i < Gs.length := (List.getElem?_eq_some_iff.1 hi).1
  have ha := h.many.has i _ hi
  have hi63 := ha.lt
  have hrI : ∃ a b c e, wr.heap[r]? = some (.mapIter a b c e) := by obtain ⟨es, clock, since, seen, c0, hb, hF, hs, hD, hr, rest⟩ := h.rg; exact ⟨_, _, _, _, hr⟩
  obtain ⟨ia, ib, ic, ie, hrI⟩ := hrI
  have M1 : Many nm base w1 d N K Gs := h.many.upd u1 (fun k hk e => by have := hlow3 k hk; omega) (fun j p hp k hk e => by subst e; exact (h.many.files j p hp).bw_not hrI (by simp) hk)
  obtain ⟨es, x, hmb⟩ := map_block hm
  have nr : m ≠ r := ranges_map h.rg hmb
  have hm1 := map_upd hm u1 nr
  have zP : ∀ w, (zeroValue 157).run Tryz.prog w = .ok (.pointer none) w := by intro w; kernel_rfl
  obtain ⟨v2, ps2, L2, V2⟩ := M1.disk.mF.lookup law_i Tryz.underlying90 (zP w1) ptrR_nil (keyI i (by omega))
  rw [ha.fat] at V2
  obtain ⟨k, rfl, hk⟩ := ptrR_inv V2
  obtain rfl : k = f := by simp only at hk; omega
  obtain ⟨w2, hrun, o2, t2⟩ := hm1.store law_i Tryz.underlying90 (by omega) (keyI i (by omega)) (ptrR_mk k)
  have u2 : Upd (fun k => k = m) w1 w2 := turned_upd t2
  obtain ⟨v3, ps3, L3, V3⟩ := o2.lookup law_i Tryz.underlying90 (zP w2) ptrR_nil (keyI i (by omega))
  rw [atKey_put_same hm1.isMap (law_i.key (keyI i (by omega)))] at V3
  obtain ⟨k3, rfl, hk3⟩ := ptrR_inv V3
  obtain rfl : k3 = k := by omega
  obtain ⟨es1, x1, hmb1⟩ := map_block hm1
  have M2 : Many nm base w2 d N K Gs := M1.upd u2 (fun k hk e => by have := hlow3 k hk; omega) (fun j p hp k hk e => by subst e; exact (M1.files j p hp).bw_not hmb1 (by simp) hk)
  have F2 := M2.files i _ hi
  have hs1 := u1.size
  have hs2 := u2.size
  refine ⟨M1.disk.cells.c0, L2, w2, hrun, L3, ?_⟩
  refine (frestart_any base k3 F (unitK Ks i) w2 F2 (by omega) hu hbig).mono ?_
  rintro e w3 ⟨rfl, G, FG, g1, g2, g3, u3, nx⟩
  have rg2 := ranges_upd hrg u2 (fun e => by have := hlow3 K.mn (Or.inr (Or.inr (Or.inl rfl))); omega) (fun e => nr e.symm)
  have hrI2 : ∃ a b c e, w2.heap[r]? = some (.mapIter a b c e) := by obtain ⟨es, clock, since, seen, c0, hb, hF, hs, hD, hr, rest⟩ := rg2; exact ⟨_, _, _, _, hr⟩
  obtain ⟨ia2, ib2, ic2, ie2, hrI2⟩ := hrI2
  obtain ⟨es2, x2, hmb2⟩ := map_block o2
  obtain ⟨es4, x4, hmn2⟩ := map_block M2.disk.mN
  have M3 := M2.turn hi (M2.disk.file F2 u3) FG nx (u3.mono (fun _ _ h => Or.inr h))
  refine ⟨rfl, Gs.set i (k3, G), ⟨ranges_upd rg2 u3 (F2.not_map hmn2) (F2.not_obj hrI2 (by simp)), fun kl hk => h.sub kl (by simp at hk; exact hk.1), M3, by rw [List.length_set]; exact h.len, ?_, ?_, h.low, ⟨_, n + 1, map_upd o2 u3 (F2.not_map hmb2), by omega, fun j p hp => ?_⟩⟩⟩
  · exact h.below.trans ((u1.below (by omega) (fun k hk e => by omega)).trans ((u2.below (by omega) (fun k hk e => by omega)).trans (u3.below (by omega) (fun k hk e => by have := (F2.lt e).1; omega))))
  · exact h.keep.trans ((KeepC.of u1 (fun k hk ho => by subst hk; exact oth_obj hrI (by simp) ho)).trans ((KeepC.of u2 (fun k hk ho => by subst hk; exact oth_obj hmb1 (by simp) ho)).trans (KeepC.of u3 (fun k hk ho => F2.oth ho (Or.inl hk)))))
  · by_cases hji : j = i
    · subst hji
      rw [List.getElem?_set_self hil] at hp
      obtain rfl := Option.some.inj hp
      obtain ⟨F', hF', h1, h2⟩ := hD j _ hi
      obtain rfl : F = F' := h1 hl
      refine ⟨F, hF', fun e => ?_, fun _ => ⟨g1, g2, g3, atKey_put_same hm1.isMap (law_i.key (keyI j (by omega))) _ _⟩⟩
      simp [same_str] at e
    · rw [List.getElem?_set_ne (fun e => hji e.symm)] at hp
      obtain ⟨F', hF', h1, h2⟩ := hD j p hp
      have hjl : j < Fs.length := by rw [← h.len]; exact (List.getElem?_eq_some_iff.1 hp).1
      have hne := hinj j hjl hji
      have ell : (left (.string (nm j).data.toList) && !(Lit.string (nm j).data.toList).sameKey (.string (nm i).data.toList)) = left (.string (nm j).data.toList) := by
        rw [same_str, decide_eq_false hne]; simp
      refine ⟨F', hF', fun e => h1 (by rw [← ell]; exact e), fun e => ?_⟩
      obtain ⟨q1, q2, q3, q4⟩ := h2 (by rw [← ell]; exact e)
      exact ⟨q1, q2, q3, (atKey_put_other (fun e => hji (by simp at e; omega)) _ _).trans q4⟩
/-- The files restarted. -/
def ManyRe (nm : Nat → ByteArray) (base d N : Nat) (K : Dk) (Fs : List (Nat × Fl)) (Ks : List Int) (w w' : World) : Prop := ∃ m D Gs, Many nm base w' d N { K with mf := m, DF := D } Gs ∧ Gs.length = Fs.length ∧ (∀ (i : Nat) p, Gs[i]? = some p → ∃ F, Fs[i]? = some (p.1, F) ∧ p.2.B = firstOn F.L F.S (unitK Ks i) ∧ p.2.L = firstOn F.L F.S (unitK Ks i) ∧ p.2.S = []) ∧ Below base w w' ∧ KeepC w w'
set_option maxHeartbeats 4000000 in
theorem restartFiles_many (nm : Nat → ByteArray) (base d N : Nat) (K : Dk) (Fs : List (Nat × Fl)) (Ks : List Int) (ad : Option Addr) (n c : Nat) (w : World) (h : Many nm base w d N K Fs) (hb : base ≤ w.heap.size) (hon : ∀ kl, Maps.has K.DN kl = true → ∃ i : Nat, i < Fs.length ∧ kl = .string (nm i).data.toList) (hinj : ∀ i j : Nat, i < Fs.length → j < Fs.length → j ≠ i → (nm j).data.toList ≠ (nm i).data.toList) (hN : N ≤ maxLen) (hd : HoldI base w ad n Ks) (hc : n ≤ c) (hbig : ∀ (i : Nat) p, Fs[i]? = some p → p.2.L.length + unitsL p.2.S ≤ 140737488355328) :
    Calls Tryz.prog 59 #[.pointer (some ⟨d, 0, none⟩), .slice ad n c] w fun e w' => e = .returned (.tuple #[]) ∧ ManyRe nm base d N K Fs Ks w w' := by
  have MN := h.disk.mN
  have c2 := h.disk.cells.c2
  have BA : Below w.heap.size w (w.alloc (.map #[] 0)) := (Below.refl _ _).alloc (Nat.le_refl _) _
  have a2 := (h.disk.below BA).cells.c2
  have MNA := (h.disk.below BA).mN
  have hmk := made_hint 90 _ _ Tryz.underlying90
  have START : ∀ w0, (w.alloc (.map #[] 0)).grownBy w0 none → w0.ranges Tryz.prog 9 (plainElem (H := Unit) Tryz.prog 3) K.mn (w.heap.size + 1) N K.DN (Maps.has K.DN) (Maps.size K.DN) → Rsm nm base d N K Fs Ks w w.heap.size (w.heap.size + 1) w0 (Maps.has K.DN) (Maps.size K.DN) Fs := by
    intro w0 hg0 hrg0
    have br : Below (w.alloc (.map #[] 0)).heap.size (w.alloc (.map #[] 0)) w0 := (Below.refl _ _).grown hg0 (Nat.le_refl _) (fun k e => by cases e)
    refine ⟨hrg0, fun kl h => h, (h.below BA).below br, rfl, (BA.trans (br.mono BA.size)).mono hb, KeepC.ofBelow (BA.trans (br.mono BA.size)), ⟨Nat.le_refl _, by omega, fun k hk => (h.disk.lt hk).2⟩, ⟨_, 0, map_below (World.ownsMap_made (H := Unit) w Tryz.prog 3 ptrR) br, by have := h.disk.mN.size_le; omega, fun i p hp => ⟨p.2, hp, fun _ => rfl, fun e => by rw [(h.has i p hp).has] at e; cases e⟩⟩⟩
  have END : ∀ wr left cnt Gs, Rsm nm base d N K Fs Ks w w.heap.size (w.heap.size + 1) wr left cnt Gs → (∀ kl, left kl = false) → wr.cell? ⟨d, 0, none⟩ = some (.map (some K.mf)) ∧ wr.frozen? ⟨d, 0, none⟩ = false ∧ ManyRe nm base d N K Fs Ks w (wr.setCell ⟨d, 0, none⟩ (.map (some w.heap.size))) := by
    intro wr left cnt Gs hR hl
    obtain ⟨D, n, hm, hn, hD⟩ := hR.st
    have D1 := hR.many.disk
    have l1 := hR.low.2.2 _ (Or.inr (Or.inr (Or.inl rfl)))
    have l2 := hR.low.2.2 _ (Or.inr (Or.inr (Or.inr (Or.inl rfl))))
    have us : Upd (fun k => k = d) wr (wr.setCell ⟨d, 0, none⟩ (.map (some w.heap.size))) := (Upd.refl (fun k => k = d) wr).setCell (p := ⟨d, 0, none⟩) (fun _ => rfl) _
    refine ⟨D1.cells.c0, free3 D1.block 0, w.heap.size, D, Gs, hR.many.setF (hm.mono (by omega)) (by omega) (by omega) hb (fun i p hp => ?_), hR.len, fun i p hp => ?_, ?_, hR.keep.trans (KeepC.of us (fun k hk ho => D1.oth ho (Or.inl hk)))⟩
    · obtain ⟨F, _, _, h2⟩ := hD i p hp
      exact (h2 (hl _)).2.2.2
    · obtain ⟨F, hF, _, h2⟩ := hD i p hp
      exact ⟨F, hF, (h2 (hl _)).1, (h2 (hl _)).2.1, (h2 (hl _)).2.2.1⟩
    · exact hR.below.trans (us.below (by have := hR.below.size; omega) (fun k hk e => by have := h.disk.low.1; omega))
  have UK : ∀ i, unitK Ks i ≤ 9223372036854775807 := fun i => by
    unfold unitK
    rw [List.getD_eq_getElem?_getD]
    cases e : Ks[i]? with
    | none => simp
    | some x =>
      have := hd.fit x (List.mem_of_getElem? e)
      simp only [Option.getD_some]
      omega
  have NX := fun (wr w1 : World) left cnt cnt' Gs (hR : Rsm nm base d N K Fs Ks w w.heap.size (w.heap.size + 1) wr left cnt Gs) (i : Nat) (f : Nat) (F : Fl) (hi : Gs[i]? = some (f, F)) hg1 hrg hcnt (hl : left (.string (nm i).data.toList) = true) => @Rsm.next nm base d N K Fs Ks w w.heap.size (w.heap.size + 1) wr w1 left cnt cnt' Gs hR i f F hi hb (fun j hj hji => hinj i j (by rw [← hR.len]; exact (List.getElem?_eq_some_iff.1 hi).1) hj hji) hg1 hrg hcnt hl hN (UK i) (by
    obtain ⟨D, n, hm, hn, hD⟩ := hR.st
    obtain ⟨F', hF', h1, _⟩ := hD i _ hi
    obtain rfl : F = F' := h1 hl
    exact hbig i _ hF')
  have WH : ∀ wr left cnt Gs, Rsm nm base d N K Fs Ks w w.heap.size (w.heap.size + 1) wr left cnt Gs → ∀ kl, left kl = true → ∃ (i f : Nat) (F : Fl), kl = .string (nm i).data.toList ∧ Gs[i]? = some (f, F) ∧ K.DN.atKey kl (.lit (.int .i64 0)) = .lit (.int .i64 (i : Int)) ∧ (i : Int) < 9223372036854775808 := by
    intro wr left cnt Gs hR kl hl
    obtain ⟨i, hi, rfl⟩ := hon kl (hR.sub kl hl)
    have hi' : i < Gs.length := by rw [hR.len]; exact hi
    have he : Gs[i]? = some (Gs[i].1, Gs[i].2) := List.getElem?_eq_getElem hi'
    have ha := hR.many.has i _ he
    have := ha.lt
    exact ⟨i, Gs[i].1, Gs[i].2, rfl, he, ha.at_, by omega⟩
  have HD : ∀ w1, Below base w w1 → HoldI base w1 ad n Ks := fun w1 b => hd.below b
  have HDD : Hid _ := HD
  have HEND : Hid _ := END
  have HNX : Hid _ := NX
  have HST : Hid _ := START
  have HWH : Hid _ := WH
  have HC : Hid (n ≤ c) := hc
  have HLN : Hid (Ks.length = n) := hd.len
  clear END NX START WH HD h hd hbig hon hinj UK hc
  go_enter Tryz.func59, Tryz.ntmps59
  go_wp2_with (first
    | (at_len; refine wpList_len_own _ rfl _ 91 rfl 9 3 Tryz.underlying91 _ K.mn N K.DN rfl MN ?_)
    | (at_range; refine wpList_range_own _ rfl _ 91 rfl 9 3 law_s Tryz.underlying91 _ K.mn N K.DN rfl MNA ?_; intro w0 hrg0 hg0 hs0)
    | go_in)
  try go_frame
  rw [World.size_alloc] at hrg0
  try rw [World.size_alloc]
  have P0 := HST.out w0 hg0 hrg0
  clear hrg0 hg0 hs0 HST MN MNA c2 a2 BA hmk
  go_loopw [6] (fun _ wr => ∃ (left : Lit → Bool) (cnt : Nat) (Gs : List (Nat × Fl)), Rsm nm base d N K Fs Ks w w.heap.size (w.heap.size + 1) wr left cnt Gs) (fun _ wr => wr.rangeLeft K.mn (w.heap.size + 1))
  case atStart => exact ⟨_, _, _, P0⟩
  case round =>
    obtain ⟨left, cnt, Gs, hR⟩ := hrel
    have hrg := hR.rg
    go_wp2_with (first
      | (at_next; refine wpList_next_ranges _ rfl _ rfl 9 law_s _ Value.string (Value.int .i64) (fun key kl hk => keyS_inv hk) (fun v y hv => intR_inv hv) K.mn (w.heap.size + 1) N K.DN left cnt rfl hrg ?_ ?_)
      | go_in)
    · intro _ hl0
      obtain ⟨e0, e1, q⟩ := HEND.out _ _ _ _ hR hl0
      clear HEND HNX hR hrg hl0
      go_wp2
      go_returns
      exact ⟨rfl, q⟩
    · intro x c9 kl y1 y2 w1 cnt1 hkey hlk hv hat hrg1 hlt1 hgr1 hsz1 hen
      obtain ⟨i, f, F, rfl, hi, hati, hi63⟩ := HWH.out _ _ _ _ hR kl hlk
      have hy := hat (.lit (.int .i64 0))
      rw [hati] at hy
      subst hy
      obtain ⟨c8, e8, h8, _⟩ := plainElem_int_inv Tryz.underlying3 hv
      simp at e8 h8
      subst e8
      obtain rfl : c9 = (i : Int) := by omega
      obtain ⟨q2, q3, w2, q4, q5, RS⟩ := HNX.out wr w1 left cnt cnt1 Gs hR i f F hi hgr1 hrg1 hlt1 hlk
      have hU1 : Upd (fun k => k = w.heap.size + 1) wr w1 := (Upd.refl _ _).grown hgr1 (fun _ _ e => (Option.some.inj e).symm)
      have B1 : Below base w w1 := hR.below.trans (hU1.below (by have := hR.below.size; omega) (fun k hk e => by omega))
      have HO := HDD.out _ B1
      have HRG := hrg.left_eq
      have HLT : Hid _ := hlt1
      by_cases hin : i < n
      · have hik : i < Ks.length := by rw [HO.len]; exact hin
        obtain ⟨b0, o0, rfl, hcell, _⟩ := HO.cells i _ (List.getElem?_eq_getElem hik)
        obtain ⟨x0, hx0⟩ : ∃ x, Ks[i] = x := ⟨_, rfl⟩
        rw [hx0] at hcell
        have hun : (unitK Ks i : Int) = max x0 0 := by
          unfold unitK
          rw [List.getD_eq_getElem?_getD, List.getElem?_eq_getElem hik, hx0]
          simp only [Option.getD_some]
          omega
        rw [hun] at RS
        have k1 : (i : Int) < (n : Int) := by omega
        have k2 : (0 : Int) ≤ (i : Int) := by omega
        clear hR hrg hrg1 hat hv hkey hlk hgr1 HNX HEND HWH HDD HO hU1 B1 hi hlt1 hun hx0
        go_wp2_with (go_at_call 116; refine RS.mono ?_; clear RS; rintro e w3 ⟨rfl, Hs, R3⟩)
        exact ⟨⟨_, cnt1, Hs, R3⟩, by rw [R3.rg.left_eq, HRG]; exact HLT.out⟩
      · have hun : (unitK Ks i : Int) = 0 := by
          unfold unitK
          rw [List.getD_eq_getElem?_getD, List.getElem?_eq_none (by rw [HO.len]; omega)]
          simp
        rw [hun] at RS
        have k1 : ¬ (i : Int) < (n : Int) := by omega
        clear hR hrg hrg1 hat hv hkey hlk hgr1 HNX HEND HWH HDD HO hU1 B1 hi hlt1 hun
        go_wp2_with (go_at_call 116; refine RS.mono ?_; clear RS; rintro e w3 ⟨rfl, Hs, R3⟩)
        exact ⟨⟨_, cnt1, Hs, R3⟩, by rw [R3.rg.left_eq, HRG]; exact HLT.out⟩
end Go.Proofs.YtgoafinbaiepmaaGreatDoor
