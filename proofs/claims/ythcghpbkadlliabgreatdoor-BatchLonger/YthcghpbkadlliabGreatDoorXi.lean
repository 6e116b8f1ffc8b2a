/-
  Xi.
-/
import Derived.Test.YthcghpbkadlliabGreatDoorXk
namespace Go.Proofs.YthcghpbkadlliabGreatDoor
open Go.Shelf Go.RowKit
set_option maxRecDepth 100000

/-- What hear has so far. -/
structure HSR (w0 w : World) (H Tb mb R g : Nat) (v pv : Value) (K : List Int) (t : Dst) : Prop where
  hb : w.heap[H]? = some (.cells #[.pointer (some ⟨Tb, 0, none⟩), pv, .int .u64 0] 144 (0, 0))
  tb : IsTr w0.heap.size w Tb mb v t.traces
  row : w.ownsRow w0.heap.size 3 1 pv t.rpl.length (natsV t.rpl)
  len : t.rpl.length = t.traces.length
  isR : IsR w R g K t.pos
  upd : Upd (fun k => k = R) w0 w
  lo : w0.heap.size ≤ Tb ∧ w0.heap.size ≤ mb ∧ w0.heap.size ≤ H
  hi : R < w0.heap.size ∧ g < w0.heap.size
theorem HSR.step {w0 w w' : World} {H Tb mb R g : Nat} {v pv : Value} {K : List Int} {t : Dst} (h : HSR w0 w H Tb mb R g v pv K t) {S : Nat → Prop} (hu : Upd S w w') (h1 : ∀ k, S k → w.heap.size ≤ k) : HSR w0 w' H Tb mb R g v pv K t := by
  have big : ∀ k, k < w.heap.size → ¬ S k := fun k hk hS => by have := h1 k hS; omega
  have hz := h.upd.size
  refine ⟨(hu.block _ (lt_of_block h.hb) (big _ (lt_of_block h.hb))).trans h.hb, h.tb.upd hu (big _ (lt_of_block h.tb.block)) (big _ h.tb.mp.lt) (fun k hk => big _ (by obtain ⟨_, cs, fz, hh⟩ := own_block h.tb.own hk; exact lt_of_block hh)), ownsRow_upd h.row hu (fun k hk => big _ (by obtain ⟨_, cs, fz, hh⟩ := own_block h.row hk; exact lt_of_block hh)), h.len, h.isR.upd hu (big _ (by have := h.hi.1; omega)) (big _ (by have := h.hi.2; omega)), h.upd.trans hu (fun k hk hS => by have := h1 k hS; omega), h.lo, h.hi⟩
theorem HSR.move {w0 w w' : World} {H Tb mb R g : Nat} {v pv : Value} {K : List Int} {t : Dst} {p : Nat} (h : HSR w0 w H Tb mb R g v pv K t) (hR : IsR w' R g K p) (hu : Upd (fun k => k = R) w w') : HSR w0 w' H Tb mb R g v pv K (t.to p) := by
  obtain ⟨l1, l2, l3⟩ := h.lo
  have l4 := h.hi.1
  have ne : ∀ k, w0.heap.size ≤ k → ¬ k = R := fun k hk e => by omega
  exact ⟨(hu.block _ (lt_of_block h.hb) (ne _ l3)).trans h.hb, h.tb.upd hu (ne _ l1) (ne _ l2) (fun k hk => ne _ (own_block h.tb.own hk).1), ownsRow_upd h.row hu (fun k hk => ne _ (own_block h.row hk).1), h.len, hR, h.upd.trans hu (fun _ _ h => h), h.lo, h.hi⟩
theorem HSR.num {w0 w w' : World} {H Tb mb R g : Nat} {v pv : Value} {K : List Int} {t : Dst} (h : HSR w0 w H Tb mb R g v pv K t) (hu : Upd (fun k => k = Tb ∨ k = mb ∨ v.ownBlock = some k) w w') :
    w'.heap[H]? = some (.cells #[.pointer (some ⟨Tb, 0, none⟩), pv, .int .u64 0] 144 (0, 0)) ∧ w'.ownsRow w0.heap.size 3 1 pv t.rpl.length (natsV t.rpl) ∧ IsR w' R g K t.pos ∧ Upd (fun k => k = R) w0 w' := by
  obtain ⟨l1, l2, l3⟩ := h.lo
  obtain ⟨l4, l5⟩ := h.hi
  have lo : ∀ k, (k = Tb ∨ k = mb ∨ v.ownBlock = some k) → w0.heap.size ≤ k := fun k hk => by
    rcases hk with rfl | rfl | hk
    · exact l1
    · exact l2
    · exact (own_block h.tb.own hk).1
  refine ⟨(hu.block _ (lt_of_block h.hb) ?_).trans h.hb, ownsRow_upd h.row hu (fun k hk hS => ?_), h.isR.upd hu (fun e => by have := lo _ e; omega) (fun e => by have := lo _ e; omega), h.upd.trans hu (fun k hk e => by have := lo _ e; omega)⟩
  · rintro (e | e | e)
    · exact ne_of_types h.hb h.tb.block (by decide) e
    · exact h.tb.mp.ne h.hb e.symm
    · exact own_neW h.tb.own h.hb (by decide) e
  · obtain ⟨_, cs, fz, hh⟩ := own_block h.row hk
    rcases hS with e | e | e
    · exact ne_of_types hh h.tb.block (by decide) e
    · exact h.tb.mp.ne hh e.symm
    · exact own_neW h.tb.own hh (by decide) e
theorem HSR.put {w0 w4 w5 : World} {H Tb mb R g n n' p : Nat} {v pv v5 : Value} {xs ys : List Value} {X : List (Int × Int)} {K : List Int} {O : Obj} (hb : w4.heap[H]? = some (.cells #[.pointer (some ⟨Tb, 0, none⟩), pv, .int .u64 0] 144 (0, 0))) (tb : IsTr w0.heap.size w4 Tb mb v X) (row : w4.ownsRow w0.heap.size 3 1 pv n xs) (r : IsR w4 R g K p) (u : Upd (fun k => k = R) w0 w4) (lo : w0.heap.size ≤ Tb ∧ w0.heap.size ≤ mb ∧ w0.heap.size ≤ H) (hi : R < w0.heap.size ∧ g < w0.heap.size) (hg : (w4.alloc O).grownBy w5 pv.ownBlock) (ho : w5.ownsRow w0.heap.size 3 1 v5 n' ys) :
    (w5.setCell ⟨H, 1, none⟩ v5).heap[H]? = some (.cells #[.pointer (some ⟨Tb, 0, none⟩), v5, .int .u64 0] 144 (0, 0)) ∧ IsTr w0.heap.size (w5.setCell ⟨H, 1, none⟩ v5) Tb mb v X ∧ (w5.setCell ⟨H, 1, none⟩ v5).ownsRow w0.heap.size 3 1 v5 n' ys ∧ IsR (w5.setCell ⟨H, 1, none⟩ v5) R g K p ∧ Upd (fun k => k = R) w0 (w5.setCell ⟨H, 1, none⟩ v5) := by
  obtain ⟨l1, l2, l3⟩ := lo
  obtain ⟨l4, l5⟩ := hi
  have ug : Upd (fun j => pv.ownBlock = some j) w4 w5 := ((Upd.refl _ w4).alloc O).grown hg (fun j _ e => e)
  have hb5 := (ug.block H (lt_of_block hb) (fun e => own_neW row hb (by decide) e)).trans hb
  have uu : Upd (fun j => pv.ownBlock = some j ∨ j = H) w4 (w5.setCell ⟨H, 1, none⟩ v5) := (ug.mono (fun _ _ h => Or.inl h)).trans (upd_one w5 H 1 v5) (fun _ _ h => Or.inr h)
  have big : ∀ k, (pv.ownBlock = some k ∨ k = H) → w0.heap.size ≤ k := fun k hk => by
    rcases hk with hk | rfl
    · exact (own_block row hk).1
    · exact l3
  refine ⟨by rw [set_block hb5 1]; rfl, tb.upd uu ?_ ?_ ?_, ownsRow_upd ho (upd_one w5 H 1 v5) (fun k hk e => own_neW ho hb5 (by decide) (e ▸ hk)), r.upd uu (fun e => by have := big _ e; omega) (fun e => by have := big _ e; omega), u.trans uu (fun k hk e => by have := big _ e; omega)⟩
  · rintro (e | e)
    · exact own_neW row tb.block (by decide) e
    · exact ne_of_types hb tb.block (by decide) e.symm
  · rintro (e | e)
    · obtain ⟨_, cs, fz, hh⟩ := own_block row e; exact tb.mp.ne hh rfl
    · exact tb.mp.ne hb e
  · intro k hk
    obtain ⟨_, cs, fz, hh⟩ := own_block tb.own hk
    rintro (e | e)
    · exact own_neW row hh (by decide) e
    · exact ne_of_types hb hh (by decide) e.symm
def PostHR (w : World) (R g : Nat) (K : List Int) (r : Res (List Unit × Dst)) (e : Ending) (w' : World) : Prop := match r with
  | .ok (_, s') => ∃ H Tb mb v pv, e = .returned (.pointer (some ⟨H, 0, none⟩)) ∧ HSR w w' H Tb mb R g v pv K s'
  | .error (a, n) => Ups w' a n e ∧ Upd (fun k => k = R) w w'
theorem infoIntR : (Tryz.prog.info? 3).map (fun i => (i.zero, i.size, i.bytes)) = some (some (.int .i64 0), 1, 8) := by kernel_rfl
set_option maxHeartbeats 4000000 in
theorem hearR_any (C T R g : Nat) (K : List Int) (s : Dst) (w : World) (hC : VarT w C T) (hT : TkB w T R) (h : IsR w R g K s.pos) (ht : Tabs w) (hK : ∀ x ∈ K, 0 ≤ x ∧ x < 256) (hKl : K.length ≤ 65536) (hs : s.traces = [] ∧ s.rpl = []) (hp : s.pos ≤ K.length) (hg1 : ¬ 1 = R) (hg2 : ¬ 2 = R) :
    Calls Tryz.prog 33 #[.pointer (some ⟨T, 0, none⟩), .func (.func 34) #[] #[.pointer (some ⟨C, 0, none⟩)]] w fun e w' => PostHR w R g K (hearRD K s) e w' := by
  obtain ⟨i0, hi, hz0, hz1, hz2⟩ := info_parts infoIntR
  have NT := newTabR_any w.heap.size w
  have nC : C ≠ R := ne_of_types hC h.block (by decide)
  have nT := hT.ne h
  have lR := lt_of_block h.block
  have lg := lt_of_block h.row
  have D0 : ∀ w', Upd (fun k => k = R) w w' → w'.cell? ⟨T, 0, none⟩ = some (.pointer (some ⟨R, 0, none⟩)) := fun w' u => (hT.upd u nT).c0
  have TK := fun w' (u : Upd (fun k => k = R) w w') => hT.upd u nT
  have CK := fun w' (u : Upd (fun k => k = R) w w') => hC.upd u nC
  have TB := fun w' (u : Upd (fun k => k = R) w w') => ht.upd u hg1 hg2
  have N := fun w' (h' : IsR w' R g K s.pos) => getUint_any R g K s.pos w' h'
  have hv := scan_val (K.drop s.pos) 0 0
  have hsz := scan_size (K.drop s.pos) 0 0
  have hby : ∀ x ∈ K.drop s.pos, 0 ≤ x ∧ x < 256 := fun x hx => hK x (List.mem_of_mem_drop hx)
  have IB := fun w' (b : Below w.heap.size w w') => h.below b
  unfold hearRD bindD uintD
  generalize scanN (K.drop s.pos) 0 0 = r at N hv hsz ⊢
  cases r using NumRes.each with
  | form =>
    clear hv hsz hby
    unfold UintPost at N
    unfold PostHR
    simp only at N ⊢
    go_enter Tryz.func33, Tryz.ntmps33
    go_wp2_with (first
      | (go_at_call 22; refine NT.mono ?_; clear NT; rintro e w1 ⟨rfl, t1, b1⟩; have ba := b1.alloc b1.size (.cells #[.pointer (some ⟨w.heap.size + 1, 0, none⟩), .slice none 0 0, .int .u64 0] 144); have d1 := D0 _ (Upd.ofBelow ba (fun k hk hk' => by omega)); have r1 := IB _ ba)
      | (go_at_call 63; refine (N _ r1).mono ?_; clear N; rintro e w2 ⟨p2, rfl, F2, q2, b2⟩)
      | (go_at_call 62; refine (mustU_bad _ p2 _ _ _ F2).mono ?_; rintro e w3 ⟨⟨q3, p3, rfl, G3⟩, b3⟩))
    exact ⟨rfl, ⟨q3, p3, rfl, G3⟩, Upd.ofBelow (ba.trans ((b2.trans (b3.mono b2.size)).mono ba.size)) (fun k hk hk' => by omega)⟩
  | ended =>
    clear hv hsz hby
    unfold UintPost at N
    unfold PostHR
    simp only at N ⊢
    go_enter Tryz.func33, Tryz.ntmps33
    go_wp2_with (first
      | (go_at_call 22; refine NT.mono ?_; clear NT; rintro e w1 ⟨rfl, t1, b1⟩; have ba := b1.alloc b1.size (.cells #[.pointer (some ⟨w.heap.size + 1, 0, none⟩), .slice none 0 0, .int .u64 0] 144); have d1 := D0 _ (Upd.ofBelow ba (fun k hk hk' => by omega)); have r1 := IB _ ba)
      | (go_at_call 63; refine (N _ r1).mono ?_; clear N; rintro e w2 ⟨p2, rfl, F2, q2, b2⟩)
      | (go_at_call 62; refine (mustU_bad _ p2 _ _ _ F2).mono ?_; rintro e w3 ⟨⟨q3, p3, rfl, G3⟩, b3⟩))
    exact ⟨rfl, ⟨q3, p3, rfl, G3⟩, Upd.ofBelow (ba.trans ((b2.trans (b3.mono b2.size)).mono ba.size)) (fun k hk hk' => by omega)⟩
  | ok N0 n0 =>
    have hv64 := hv N0 n0 hby (by omega) (fun _ => by simp) rfl
    have hs2 := hsz N0 n0 rfl
    simp only [List.length_drop] at hs2
    clear hv hsz hby
    unfold UintPost at N
    simp only at N ⊢
    obtain ⟨RR, hRR⟩ : ∃ r, iterF (fun _ => hearR1) N0 [] K (s.to (s.pos + n0)) = r := ⟨_, rfl⟩
    rw [hRR]
    have HR : Hid (iterF (fun _ => hearR1) N0 [] K (s.to (s.pos + n0)) = RR) := hRR
    clear hRR
    have NI : (N0 : Int) < 18446744073709551616 := by omega
    go_enter Tryz.func33, Tryz.ntmps33
    go_wp2_with (first
      | (go_at_call 22; refine NT.mono ?_; clear NT; rintro e w1 ⟨rfl, t1, b1⟩; have ba := b1.alloc b1.size (.cells #[.pointer (some ⟨w.heap.size + 1, 0, none⟩), .slice none 0 0, .int .u64 0] 144); have d1 := D0 _ (Upd.ofBelow ba (fun k hk hk' => by omega)); have r1 := IB _ ba; have X1 := heap_alloc_new w1 (.cells #[.pointer (some ⟨w.heap.size + 1, 0, none⟩), .slice none 0 0, .int .u64 0] 144); have hS0 : HSR w (w1.alloc (.cells #[.pointer (some ⟨w.heap.size + 1, 0, none⟩), .slice none 0 0, .int .u64 0] 144)) w1.heap.size (w.heap.size + 1) w.heap.size R g (.slice none 0 0) (.slice none 0 0) K s := ⟨X1, (by rw [hs.1]; exact t1.upd ((Upd.refl (fun _ => False) w1).alloc (.cells #[.pointer (some ⟨w.heap.size + 1, 0, none⟩), .slice none 0 0, .int .u64 0] 144)) (fun h => h) (fun h => h) (fun _ _ h => h)), (by rw [hs.2]; exact World.ownsRow_nil _ _ _ _), (by rw [hs.1, hs.2]; rfl), r1, Upd.ofBelow ba (fun k hk hk' => by omega), ⟨by omega, by omega, b1.size⟩, ⟨lR, lg⟩⟩)
      | (go_at_call 63; refine (N _ r1).mono ?_; clear N; rintro e w2 ⟨rfl, r2, u2⟩; have hS1 := hS0.move r2 u2)
      | (go_at_call 62; refine (mustU_ok _ _).mono ?_; rintro e w3 ⟨rfl, hw3⟩; obtain rfl := hw3.symm))
    generalize hHe : w1.heap.size = H at hS0 hS1 ⊢
    clear hS0 X1 hHe
    go_loopw [20] (fun d wr => ∃ (k : Nat) (acc : List Unit) (t : Dst) (v pv : Value), d = .int .u64 k ∧ k ≤ N0 ∧ t.traces.length = k ∧ k ≤ t.pos ∧ t.pos ≤ K.length ∧ iterF (fun _ => hearR1) (N0 - k) acc K t = RR ∧ HSR w wr H (w.heap.size + 1) w.heap.size R g v pv K t) (fun d _ => N0 - (intOf d).toNat)
    case atStart => exact ⟨0, [], _, _, _, rfl, by omega, by simp [Dst.to, hs.1], by omega, by simp only [Dst.to]; omega, HR.out, hS1⟩
    case round =>
      obtain ⟨k, acc, t, v, pv, rfl, hk, hal, hkp, htp, hit, hS⟩ := hrel
      clear hS1 r1 r2 u2 d1 t1 b1 ba HR
      have hlen := hS.len
      have d1 := D0 _ hS.upd
      have x0 := blk_cell hS.hb 0 rfl
      by_cases hlt : k < N0
      · obtain ⟨m, hm⟩ : ∃ m, N0 - k = m + 1 := ⟨N0 - k - 1, by omega⟩
        have hm2 : N0 - (k + 1) = m := by omega
        rw [hm] at hit
        have HM : Hid (N0 - (k + 1) = m) := hm2
        have hki : (k : Int) < (N0 : Int) := by omega
        clear hm hm2
        change bindD hearR1 (fun v => iterF (fun _ => hearR1) m (acc ++ [v])) K t = RR at hit
        have ud : ∀ m, Upd (fun _ => False) wr (wr.drewN m) := fun m => (Upd.refl _ wr).drewN m
        have hSd := fun m => hS.step (ud m) (fun _ h => h.elim)
        have M1 := fun m => tkTrace_b C T R g K t (wr.drewN m) (CK _ (hSd m).upd) (TK _ (hSd m).upd) (hSd m).isR hK
        rcases hr : traceD K t with ⟨a, no⟩ | ⟨x, t2⟩
        · have hs1 : hearR1 K t = .error (a, no) := step_er hr
          rw [bind_er hs1] at hit
          have HF : Hid (Except.error (a, no) = RR) := hit
          rw [hr] at M1
          unfold PostR at M1
          simp only at M1
          clear hit hs1 hr
          go_wp2_with (go_at_call 64; refine (at_any R g K t.pos _ hS.isR).mono ?_; rintro e w1 ⟨rfl, hw1⟩; obtain rfl := hw1.symm)
          go_region_with (first
            | (go_at_call 34; refine (M1 1).mono ?_; clear M1; rintro e w4 ⟨⟨q4, p4, e4, G4⟩, u4⟩; rcases e with v4 | ch | _; rotate_left; (focus (cases e4; exact ⟨rfl, by rw [← HF.out]; exact ⟨⟨q4, p4, rfl, G4⟩, (hSd 1).upd.trans u4 (fun _ _ h => h)⟩⟩)); (focus (cases e4)); have habs : Abs := Abs.mk (by cases e4); have x4 : w4.cell? ⟨H, 0, none⟩ = some (.pointer (some ⟨w.heap.size + 1, 0, none⟩)) := habs.el; obtain ⟨y4, rfl⟩ : ∃ y, v4 = trV y := habs.el; clear e4 G4 u4)
            | (go_at_call 47; refine (calls_abs (R := fun e w' => e = .returned (.tuple #[.int .u64 0, .bool false]) ∧ w' = w4) habs).mono ?_; rintro e w5 ⟨rfl, hw5⟩; obtain rfl := hw5.symm))
          all_goals exact habs.el
        obtain ⟨et2, -, a3, a4⟩ := trace_read hK htp hr
        have hpos : 0 < (traceL x).length := by have : (traceL x).length = 16 := rfl; omega
        have et3 : t2.pos = t.pos + (traceL x).length := by rw [et2]; rfl
        rw [hr] at M1
        unfold PostR at M1
        simp only at M1
        have tt : t.to t2.pos = t2 := by rw [et3]; exact et2.symm
        have e5 : t2.traces = t.traces := by rw [et2]; rfl
        have e6 : t2.rpl = t.rpl := by rw [et2]; rfl
        have HSz := hS.upd.size
        have NU := fun w3 (h3 : HSR w w3 H (w.heap.size + 1) w.heap.size R g v pv K t2) => numR_any w.heap.size (w.heap.size + 1) w.heap.size v t.traces x w3 (by have := h3.tb; rw [e5] at this; exact this) a4 h3.upd.size (by omega)
        have MV := fun w3 (r3 : IsR w3 R g K t2.pos) (u3 : Upd (fun k => k = R) (wr.drewN 1) w3) => by have := (hSd 1).move r3 u3; rw [tt] at this; exact this
        by_cases hx : idxL t.traces x < t.traces.length
        · have hs1 : hearR1 K t = .error (t.pos, 54) := step_no hr (by simp only [hx, if_true])
          rw [bind_er hs1] at hit
          have HF : Hid (Except.error (t.pos, 54) = RR) := hit
          simp only [hx, decide_true, Bool.not_true] at NU
          generalize idxL t.traces x = ix at NU
          clear hit hs1 hr et2 tt hx hal
          go_wp2_with (go_at_call 64; refine (at_any R g K t.pos _ hS.isR).mono ?_; rintro e w1 ⟨rfl, hw1⟩; obtain rfl := hw1.symm)
          go_region_held3 (fun w' => w'.cell? ⟨H, 0, none⟩ = some (.pointer (some ⟨w.heap.size + 1, 0, none⟩))) (first | exact x4 | exact x3 | exact x0) (first
            | (go_at_call 34; refine (M1 1).mono ?_; clear M1; rintro e w3 ⟨rfl, r3, u3⟩; have h3 := MV _ r3 u3; have x3 : w3.cell? ⟨H, 0, none⟩ = some (.pointer (some ⟨w.heap.size + 1, 0, none⟩)) := blk_cell h3.hb 0 rfl)
            | (go_at_call 47; refine (NU w3 h3).mono ?_; clear NU; rintro e w4 ⟨rfl, v4, t4, u4, m4⟩; obtain ⟨hb4, row4, r4, uw4⟩ := h3.num u4; have x4 : w4.cell? ⟨H, 0, none⟩ = some (.pointer (some ⟨w.heap.size + 1, 0, none⟩)) := blk_cell hb4 0 rfl))
          go_wp2_with (go_at_call 18; refine (giveUp_any _ _ _).mono ?_; rintro e w5 ⟨⟨q5, p5, rfl, G5⟩, b5⟩)
          exact ⟨rfl, by rw [← HF.out]; exact ⟨⟨q5, p5, rfl, G5⟩, upd_bel2 uw4 b5⟩⟩
        · have hs1 : hearR1 K t = .ok ((), { t2 with traces := t.traces ++ [x], rpl := t.rpl ++ [t.pos] }) := step_mk hr (by simp only [hx, if_false])
          rw [bind_mk hs1] at hit
          have HI : Hid (iterF (fun _ => hearR1) m (acc ++ [()]) K { t2 with traces := t.traces ++ [x], rpl := t.rpl ++ [t.pos] } = RR) := hit
          have hins : insL t.traces x = t.traces ++ [x] := by unfold insL; rw [if_neg hx]
          simp only [hx, decide_false, Bool.not_false, hins] at NU
          generalize idxL t.traces x = ix at NU
          clear hit hs1 hr et2 tt hx hins
          go_wp2_with (go_at_call 64; refine (at_any R g K t.pos _ hS.isR).mono ?_; rintro e w1 ⟨rfl, hw1⟩; obtain rfl := hw1.symm)
          go_region_held3 (fun w' => w'.cell? ⟨H, 0, none⟩ = some (.pointer (some ⟨w.heap.size + 1, 0, none⟩))) (first | exact x4 | exact x3 | exact x0) (first
            | (go_at_call 34; refine (M1 1).mono ?_; clear M1; rintro e w3 ⟨rfl, r3, u3⟩; have h3 := MV _ r3 u3; have x3 : w3.cell? ⟨H, 0, none⟩ = some (.pointer (some ⟨w.heap.size + 1, 0, none⟩)) := blk_cell h3.hb 0 rfl)
            | (go_at_call 47; refine (NU w3 h3).mono ?_; clear NU; rintro e w4 ⟨rfl, v4, t4, u4, m4⟩; obtain ⟨hb4, row4, r4, uw4⟩ := h3.num u4; have x4 : w4.cell? ⟨H, 0, none⟩ = some (.pointer (some ⟨w.heap.size + 1, 0, none⟩)) := blk_cell hb4 0 rfl))
          have y4 : w4.cell? ⟨H, 1, none⟩ = some pv := blk_cell hb4 1 rfl
          have row5 := row4.alloc (.cells #[.int .i64 (t.pos : Int)] 3)
          have z4 := uw4.size
          have hc5 : w.heap.size ≤ (w4.alloc (.cells #[.int .i64 (t.pos : Int)] 3)).heap.size := le_al _ _ _ z4
          have lh4 := lt_of_block hb4
          rw [e6] at row4 row5
          have HLK : Hid (t.rpl.length ≤ 65536) := (by omega : t.rpl.length ≤ 65536)
          have HP : Hid (k + 1 ≤ t2.pos ∧ t2.pos ≤ K.length) := ⟨by omega, by omega⟩
          have HL : Hid (t.rpl.length = t.traces.length) := hlen
          have HA : Hid (t.traces.length = k) := hal
          clear et3 e5 e6 hlen hal hpos a3 m4 u4 h3 u3 MV HSz x0 x3 hSd hkp D0 TK CK TB IB hs2 hv64 hs r3 d1 hC hT h ht hp hg1 hg2 nC nT lR lg ud a4 hKl htp
          have hw1 : IntKind.u64.wrap ((k : Int) + 1) = (k : Int) + 1 := by rw [IntKind.wrap_u64]; omega
          have HKN : Hid (k < N0) := hlt
          clear NI hki hk hlt
          go_wp2_with (at_builtin; refine wpList_app _ rfl (.tmp 45) (.tmp 47) 133 133 rfl w.heap.size 3 i0 (.int .i64 0) 8 Tryz.underlying133 hi hz0 hz1 hz2 rfl _ _ _ rfl row5 _ 1 [.int .i64 (t.pos : Int)] rfl (src_one Tryz.underlying133 w4 (.int .i64 (t.pos : Int)) 3 rfl) (by have := HLK.out; unfold maxLen; omega) (by have := HLK.out; omega) hc5 ?_; intro v5 w5 ho5 hg5 hm5; obtain ⟨ao5, l5, c5, rfl⟩ := row_shape ho5; have ug : Upd (fun j => pv.ownBlock = some j) w4 w5 := ((Upd.refl _ w4).alloc (.cells #[.int .i64 (t.pos : Int)] 3)).grown hg5 (fun j _ e => e); have hb5 := (ug.block H lh4 (fun e => own_neW row4 hb4 (by decide) e)).trans hb4; have y5 := blk_cell hb5 1 rfl; have f5 := blk_free hb5 1; clear ug)
          obtain ⟨g1, g2, g3, g4, g5⟩ := HSR.put hb4 t4 row4 r4 uw4 hS.lo hS.hi hg5 ho5
          go_roundw
          case rel => exact ⟨k + 1, acc ++ [()], { t2 with traces := t.traces ++ [x], rpl := t.rpl ++ [t.pos] }, v4, _, by go_num, HKN.out, by simp [HA.out], HP.out.1, HP.out.2, by rw [HM.out]; exact HI.out, ⟨g1, g2, by simpa [natsV] using g3, by simp [HL.out], g4, g5, hS.lo, hS.hi⟩⟩
          case measure => have := HKN.out; simp [intOf]; omega
      · obtain rfl : k = N0 := by omega
        rw [Nat.sub_self] at hit
        have HF : Hid (Except.ok (acc, t) = RR) := hit
        clear hit
        go_wp2
        go_ret
        show PostHR w R g K RR _ _
        rw [← HF.out]
        exact ⟨H, _, _, v, pv, rfl, hS⟩
end Go.Proofs.YthcghpbkadlliabGreatDoor
