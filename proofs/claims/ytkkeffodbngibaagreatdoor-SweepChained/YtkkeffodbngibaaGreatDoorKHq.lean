/-
  Merged: KH, KJ.
-/
import Derived.Test.YtkkeffodbngibaaGreatDoorKCq
import Derived.Test.YtkkeffodbngibaaGreatDoorPQ
namespace Go.Proofs.YtkkeffodbngibaaGreatDoor
open Go Go.RowKit Go.Maps
set_option maxRecDepth 100000

set_option maxHeartbeats 8000000 in
theorem ended_any (f sb : Nat) (X : List Spot) (K : Nat → List Int) (rv : Value) (R : List Int) (Y : List Sp) (C : List Int) (dp : Nat → Nat) (fin : Nat → Nod) (W : World) (hF : ForestAt W f sb X K rv R) (hB : FoB Y C dp fin X K R) (rc m : Nat) (hm : R.length = m) (hrc : Blk W rc (fillC .u64 (idsOf X R) 0) 33) (d : Nod) (hd : ∀ z : Nat, (z : Int) ∈ R → ¬ cmpEnd (fin z) d < 0) :
    Calls Tryz.prog 11 #[.pointer (some ⟨f, 0, none⟩), .slice (some ⟨rc, 0, none⟩) m m, ndV d] W fun e w' => e = .returned (.bool true) ∧ Below W.heap.size W w' := by
  have hm1 : m ≤ 1000 := by
    have q1 := hB.fo.roots.1.length_eq
    have q2 := kidsF_len (cutN C (nmOf (zs Y))) Y.length (-1)
    have q3 := hB.one.len
    omega
  have RD : Hid (∀ (i : Nat), i < m → ∃ z : Nod, z.til ≤ d.til ∧ (z.til = d.til → d.id ≤ z.id) ∧ ∀ wr, Below W.heap.size W wr → wr.cell? ⟨rc, i, none⟩ = some (.int .u64 z.id) ∧ Calls Tryz.prog 8 #[.pointer (some ⟨f, 0, none⟩), .int .u64 z.id] wr fun e w' => e = .returned (.tuple #[ndV z, .bool true]) ∧ Below wr.heap.size wr w') := fun i hi => by
    have hi' : i < R.length := by omega
    obtain ⟨x, hz, hx, _, _⟩ := hB.root R[i] (List.getElem_mem hi')
    have hl := hB.fo.len
    have e := (hB.fo.each x hx (by omega)).2
    have hc := hd x (by rw [← hz]; exact List.getElem_mem hi')
    rw [cmpEnd_lt] at hc
    refine ⟨fin x, by omega, by omega, fun wr hb => ⟨?_, ?_⟩⟩
    · refine (hrc.below hb hrc.lt).cell i ?_
      simp [fillC, idsOf, hi', hz, hl, hx, e]
    · have := node_at (hF.below hb) x (by omega) (fin x).id (by rw [e])
      rwa [e] at this
  clear hF hB hrc hd hm
  unfold ndV
  go_enter Tryz.func11, Tryz.ntmps11
  go_wp2
  obtain ⟨W1, hW1⟩ : ∃ V, W.alloc (.cells #[.int .u64 d.id, .int .u64 d.par, .int .i64 d.org, .int .u64 d.tree, .int .i64 d.dep, .int .i64 d.fr, .int .i64 d.til] 38) = V := ⟨_, rfl⟩
  have HW1 : Hid (Below W.heap.size W W1 ∧ W.heap.size < W1.heap.size ∧ Blk W1 W.heap.size (ndL d).toArray 38) := by rw [← hW1]; exact ⟨(Below.refl _ _).alloc (Nat.le_refl _) _, by simp, Blk.new _ _ _⟩
  rw [hW1]
  clear hW1
  go_loopw [7] (fun z wr => ∃ i : Nat, z = .int .i64 i ∧ i ≤ m ∧ Hid (Below W1.heap.size W1 wr)) (fun z _ => m - (intOf z).toNat)
  case atStart => exact ⟨0, rfl, by omega, Below.refl _ _⟩
  case round =>
    obtain ⟨i, rfl, him, HBR⟩ := hrel
    by_cases hlt : i < m
    · obtain ⟨z, h1, h2, hz⟩ := RD.out i hlt
      have H12 : Hid (z.til ≤ d.til ∧ (z.til = d.til → d.id ≤ z.id)) := ⟨h1, h2⟩
      clear h1 h2
      have hbw : Below W.heap.size W wr := HW1.out.1.trans (HBR.out.mono (Nat.le_of_lt HW1.out.2.1))
      obtain ⟨cr, ND⟩ := hz wr hbw
      have hin : (i : Int) < (m : Int) := by omega
      have hcs : Hid (∀ V, Below wr.heap.size wr V → V.cell? ⟨W.heap.size, 0, none⟩ = some (.int .u64 d.id) ∧ V.cell? ⟨W.heap.size, 5 + 1, none⟩ = some (.int .i64 d.til) ∧ Below W1.heap.size W1 V) := fun V hb => by
        have hb' := HBR.out.trans (hb.mono HBR.out.size)
        have := HW1.out.2.2.below hb' HW1.out.2.1
        exact ⟨this.cell 0 rfl, this.cell 6 rfl, hb'⟩
      clear hz hbw RD
      unfold ndV at ND
      go_upto_region 5 with (go_at_call 8; refine ND.mono ?_; clear ND; rintro e w2 ⟨rfl, hb2⟩; have HB2 : Hid (∀ o, Below wr.heap.size wr (w2.alloc o)) := fun o => hb2.alloc hb2.size o; clear hb2)
      obtain ⟨V, hV⟩ : ∃ V, w2.alloc (.cells #[.int .u64 z.id, .int .u64 z.par, .int .i64 z.org, .int .u64 z.tree, .int .i64 z.dep, .int .i64 z.fr, .int .i64 z.til] 38) = V := ⟨_, rfl⟩
      have nV : Blk V w2.heap.size (ndL z).toArray 38 := by rw [← hV]; exact Blk.new _ _ _
      have hbV : Below wr.heap.size wr V := by rw [← hV]; exact HB2.out _
      obtain ⟨r0, r6, _⟩ := hcs.out V hbV
      have HV : Hid (Below W1.heap.size W1 V) := (hcs.out _ hbV).2.2
      have n0 : V.cell? ⟨w2.heap.size, 0, none⟩ = some (.int .u64 z.id) := nV.cell 0 rfl
      have n6 : V.cell? ⟨w2.heap.size, 5 + 1, none⟩ = some (.int .i64 z.til) := nV.cell 6 rfl
      rw [hV]
      clear hV nV hbV HB2 hcs cr
      have d1 : decide (d.til < z.til) = false := decide_eq_false (by have := H12.out.1; omega)
      by_cases he : z.til = d.til
      · have d2 : decide (z.til = d.til) = true := decide_eq_true he
        have d3 : decide (z.id < d.id) = false := decide_eq_false (by have := H12.out.2 he; omega)
        clear H12
        go_wp2
        go_roundw
        case rel => exact ⟨i + 1, by go_num, by omega, HV⟩
        case measure => (simp [intOf]; omega)
      · have d2 : decide (z.til = d.til) = false := decide_eq_false he
        clear H12
        go_wp2
        go_roundw
        case rel => exact ⟨i + 1, by go_num, by omega, HV⟩
        case measure => (simp [intOf]; omega)
    · obtain rfl : i = m := by omega
      go_wp2
      go_ret
      exact ⟨rfl, HW1.out.1.trans (HBR.out.mono (Nat.le_of_lt HW1.out.2.1))⟩
end Go.Proofs.YtkkeffodbngibaaGreatDoor

namespace Go.Proofs.YtkkeffodbngibaaGreatDoor
open Go Go.RowKit Go.Maps
set_option maxRecDepth 100000

theorem hopL_len (fin : Nat → Nod) (h : Hop) : (hopL fin h).length = 4 := rfl
theorem sameLegs_nil (a b : Option Addr) (c d : Nat) (w : World) :
    Calls Tryz.prog 10 #[.slice a 0 c, .slice b 0 d] w fun e w' => e = .returned (.bool true) ∧ Below w.heap.size w w' := by
  go_enter Tryz.func10, Tryz.ntmps10
  go_wp2
  go_loopw [5] (fun y wr => y = .int .i64 0 ∧ wr = w) (fun _ _ => 0)
  case atStart => exact ⟨rfl, rfl⟩
  case round =>
    obtain ⟨rfl, rfl⟩ := hrel
    go_wp2
    go_ret
    exact ⟨rfl, Below.refl _ _⟩
/-- What the law asks of a hop. -/
structure HopF (f rc m g : Nat) (w4 : World) (i : Nat) (dx dy : Nod) (gap : Int) (lv : Value) : Prop where
  cells : ∀ wr, Below w4.heap.size w4 wr → wr.cell? ⟨g, i * 4, none⟩ = some (.int .u64 dx.id) ∧ wr.cell? ⟨g, i * 4 + 1, none⟩ = some (.int .u64 dy.id) ∧ wr.cell? ⟨g, i * 4 + 2, none⟩ = some (.int .i64 gap) ∧ wr.cell? ⟨g, i * 4 + 3, none⟩ = some lv
  nx : ∀ wr, Below w4.heap.size w4 wr → Calls Tryz.prog 8 #[.pointer (some ⟨f, 0, none⟩), .int .u64 dx.id] wr fun e w' => e = .returned (.tuple #[ndV dx, .bool true]) ∧ Below wr.heap.size wr w'
  ny : ∀ wr, Below w4.heap.size w4 wr → Calls Tryz.prog 8 #[.pointer (some ⟨f, 0, none⟩), .int .u64 dy.id] wr fun e w' => e = .returned (.tuple #[ndV dy, .bool true]) ∧ Below wr.heap.size wr w'
  tree : dy.tree = dx.id
  path : ∀ wr, Below w4.heap.size w4 wr → Calls Tryz.prog 9 #[.pointer (some ⟨f, 0, none⟩), .int .u64 dx.id] wr fun e w' => ∃ a l c, e = .returned (.tuple #[.slice a l c, .int .i64 0]) ∧ Below wr.heap.size wr w' ∧ ∀ wz, Below w'.heap.size w' wz → Calls Tryz.prog 10 #[.slice a l c, lv] wz fun e w' => e = .returned (.bool true) ∧ Below wz.heap.size wz w'
  two : ∀ k, k < i → ∃ id : Int, id ≠ dx.id ∧ ∀ wr, Below w4.heap.size w4 wr → wr.cell? ⟨g, k * 4, none⟩ = some (.int .u64 id)
  first : i = 0 → dy = dx ∧ gap = 0 ∧ ∀ wr, Below w4.heap.size w4 wr → Calls Tryz.prog 11 #[.pointer (some ⟨f, 0, none⟩), .slice (some ⟨rc, 0, none⟩) m m, ndV dx] wr fun e w' => e = .returned (.bool true) ∧ Below wr.heap.size wr w'
  next : ∀ k, i = k + 1 → ∃ (a : Sp) (d : Nod), a.id = d.id ∧ dy.id ∈ a.links ∧ a.links.length ≤ 16 ∧ gap = IntKind.i64.wrap (d.fr - dy.til) ∧ (∀ wr, Below w4.heap.size w4 wr → wr.cell? ⟨g, k * 4, none⟩ = some (.int .u64 d.id)) ∧ (∀ wr, Below w4.heap.size w4 wr → Calls Tryz.prog 8 #[.pointer (some ⟨f, 0, none⟩), .int .u64 d.id] wr fun e w' => e = .returned (.tuple #[ndV d, .bool true]) ∧ Below wr.heap.size wr w') ∧ ∀ wr, Below w4.heap.size w4 wr → Calls Tryz.prog 12 #[.pointer (some ⟨f, 0, none⟩), .int .u64 d.id] wr fun e w' => ∃ p, e = .returned (.tuple #[spV a p, .bool true]) ∧ IdsAt w' p.la a.links ∧ Below wr.heap.size wr w'
theorem hop_facts (f sb : Nat) (X : List Spot) (K : Nat → List Int) (rv : Value) (R : List Int) (Y : List Sp) (C : List Int) (dp : Nat → Nat) (fin : Nat → Nod) (w4 : World) (base : Nat) (hF : ForestAt w4 f sb X K rv R) (hB : FoB Y C dp fin X K R) (rc m : Nat) (hm : R.length = m) (hrc : Blk w4 rc (fillC .u64 (idsOf X R) 0) 33) (ha : Option Addr) (q hcap : Nat) (H : List Hop) (hq : H.length = q) (hM : HopsM base w4 (spAt Y) fin (cnK fin K) (.slice ha q hcap) H) (hR : HopsR Y.length fin (spAt Y) R H) (h0 : 0 < q) :
    ∃ g, ha = some ⟨g, 0, none⟩ ∧ ∀ i, i < q → ∃ dx dy gap lv, HopF f rc m g w4 i dx dy gap lv := by
  have hown := hM.own
  rw [hq] at hown
  obtain ⟨g, cap, e1, hg, hRw⟩ := RwG.of_owns hown hq h0
  injection e1 with e1 _ _
  have hl := hB.fo.len
  have hn1 := hB.one.len
  have each := fun (x : Nat) (hx : x < Y.length) => (hB.fo.each x hx (by omega)).2
  have spx := fun (x : Nat) (hx : x < Y.length) => (hB.fo.each x hx (by omega)).1
  have node : ∀ x, x < Y.length → ∀ wr, Below w4.heap.size w4 wr → Calls Tryz.prog 8 #[.pointer (some ⟨f, 0, none⟩), .int .u64 (fin x).id] wr fun e w' => e = .returned (.tuple #[ndV (fin x), .bool true]) ∧ Below wr.heap.size wr w' := fun x hx wr hb => by
    have := node_at (hF.below hb) x (by omega) (fin x).id (by rw [each x hx])
    rwa [each x hx] at this
  have cell : ∀ i (hi : i < H.length) (j : Nat) (u : Value), (hopL fin H[i])[j]? = some u → ∀ wr, Below w4.heap.size w4 wr → wr.cell? ⟨g, i * 4 + j, none⟩ = some u := fun i hi j u hu wr hb => (hRw.below hb).cell (hopL_len fin) i hi j hu
  refine ⟨g, e1, fun i hi => ?_⟩
  have hi' : i < H.length := by omega
  obtain ⟨x1, x2, x3, x4⟩ := hR.each H[i] (List.getElem_mem hi')
  refine ⟨fin H[i].1, fin H[i].2.1, H[i].2.2.1, H[i].2.2.2.1, fun wr hb => ⟨cell i hi' 0 _ rfl wr hb, cell i hi' 1 _ rfl wr hb, cell i hi' 2 _ rfl wr hb, cell i hi' 3 _ rfl wr hb⟩, node _ x1, node _ x2, x3, fun wr hb => ?_, fun k hk => ?_, fun e => ?_, fun k e => ?_⟩
  · refine (path_any f sb X K rv R (spAt Y) fin (knK K) (cnK fin K) 1001 H[i].1 wr (hF.below hb) (hB.senv _ x1) x4).mono ?_
    rintro e w' ⟨a, c, L, rfl, h1, h2, h3, h4⟩
    refine ⟨a, L.length, c, rfl, h4, fun wz hz => ?_⟩
    obtain ⟨la, lc, e5, h6, h7, h8⟩ := hM.legs H[i] (List.getElem_mem hi')
    have eL := h6.one L h1
    rw [e5]
    by_cases hL : L = []
    · rw [← eL, hL]
      exact sameLegs_nil _ _ _ _ wz
    · obtain ⟨g1, rfl, l1, k1⟩ := h3 hL
      obtain ⟨g2, rfl, l2, k2⟩ := h8 (by rw [← eL]; exact hL)
      rw [← eL] at k2 ⊢
      refine sameLegsW_any g1 g2 L.length c lc ((L.map (legX (spAt Y))).reverse) wz (by simp) (by omega) (legsIn_below k1 hz l1) (legsIn_below k2 ((hb.trans (h4.mono hb.size)).trans (hz.mono (Nat.le_trans hb.size h4.size))) l2)
  · refine ⟨(fin (H[k]'(by omega)).1).id, fun e => ?_, fun wr hb => cell k (by omega) 0 _ rfl wr hb⟩
    have hnd := hR.two
    rw [List.Nodup, List.pairwise_iff_getElem] at hnd
    exact hnd k i (by simp; omega) (by simp; omega) hk (by simpa using e)
  · subst e
    obtain ⟨a1, a2, a3⟩ := hR.first (by omega)
    exact ⟨by rw [a1], a2, fun wr hb => ended_any f sb X K rv R Y C dp fin wr (hF.below hb) hB rc m hm (hrc.below hb hrc.lt) _ a3⟩
  · subst e
    obtain ⟨a1, a2⟩ := hR.next k (by omega)
    have y1 := (hR.each (H[k]'(by omega)) (List.getElem_mem _)).1
    refine ⟨spAt Y (H[k]'(by omega)).1, fin (H[k]'(by omega)).1, hB.ids _ y1, a1, ?_, a2, fun wr hb => cell k (by omega) 0 _ rfl wr hb, node _ y1, fun wr hb => ?_⟩
    · have e : spAt Y (H[k]'(by omega)).1 = Y[(H[k]'(by omega)).1] := by
        unfold spAt
        rw [List.getD_eq_getElem?_getD, List.getElem?_eq_getElem y1]
        rfl
      have := (chk_good (hB.one.chk _ (List.getElem_mem y1))).links
      rw [e]
      exact this
    · refine (span_at (hF.below hb) (H[k]'(by omega)).1 (by omega) _ (by rw [each _ y1])).mono ?_
      rintro e w' ⟨p, rfl, hr, hb'⟩
      have e : spAt Y (H[k]'(by omega)).1 = Y[(H[k]'(by omega)).1] := by
        unfold spAt
        rw [List.getD_eq_getElem?_getD, List.getElem?_eq_getElem y1]
        rfl
      rw [e, ← spx _ y1]
      refine ⟨p, rfl, fun j hj => ?_, hb'⟩
      exact (hr w' (fun _ _ _ => rfl)).links.cells j _ (by simp [intsV, hj])
end Go.Proofs.YtkkeffodbngibaaGreatDoor
