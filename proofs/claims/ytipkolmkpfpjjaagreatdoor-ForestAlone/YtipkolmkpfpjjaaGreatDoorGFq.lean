/-
  Merged: GF, GG.
-/
import Derived.Test.YtipkolmkpfpjjaaGreatDoorGE
namespace Go.Proofs.YtipkolmkpfpjjaaGreatDoor
open Go Go.RowKit Go.Shelf
set_option maxRecDepth 100000

attribute [local go_sem] Oper.semAt_some

set_option maxHeartbeats 4000000 in
theorem walkD_in (f sb bY l B U fuel : Nat) (X : List Spot) (K : Nat → List Int) (rv : Value) (R : List Int) (J : Nat → World → Prop) (W : World)
    (hF : ∀ V, KpN B U W V → ForestAt V f sb X K rv R) (hB : B ≤ W.heap.size) (hU : U < W.heap.size) (hyU : bY ≠ U) (cy : Blk W bY #[.func (.yield l) #[] #[]] 87)
    (hJ : ∀ k V V', J k V → Below V.heap.size V V' → J k V') (hJW : ∀ k V, J k W → Below W.heap.size W V → J k V)
    (hY : ∀ k V, k < (preF K fuel R).length → J k V → YieldAt Fence.wide 2 Tryz.prog l #[ndV (nthN X ((preF K fuel R)[k]?.getD 0))] V fun e V' => e = .returned (.bool true) ∧ J (k + 1) V' ∧ KpN B U V V')
    (hD : Deep K fuel R) (h0 : J 0 W) :
    CallsIn Fence.wide 3 Tryz.prog 31 #[.pointer (some ⟨f, 0, none⟩), .func (.func 32) #[] #[.pointer (some ⟨bY, 0, none⟩)]] W fun e V => (∃ v, e = .returned v) ∧ J (preF K fuel R).length V := by
  have F0 := hF W (KpN.refl _ _ _)
  obtain ⟨ad, cap, rfl, _, hRl, hRr⟩ := F0.roots
  have DOWN : Hid (∀ V, Below W.heap.size W V → BoxD V f W.heap.size (W.heap.size + 1) (W.heap.size + 1 + 1) bY l → V.cell? ⟨f, 1, none⟩ = some (.slice ad R.length cap) ∧ CallsIn Fence.wide 3 Tryz.prog 48 #[.slice ad R.length cap, .pointer (some ⟨W.heap.size, 0, none⟩), .pointer (some ⟨W.heap.size + 1, 0, none⟩), .pointer (some ⟨W.heap.size + 1 + 1, 0, none⟩)] V fun e V' => e = .returned (.bool true) ∧ J (preF K fuel R).length V') := fun V hb hbx => by
    have hk : KpN B U W V := KpN.ofBelow hb hB
    have FV := hF V hk
    refine ⟨FV.head.cell 1 rfl, ?_⟩
    refine (down_in f sb W.heap.size (W.heap.size + 1) (W.heap.size + 1 + 1) bY l B U X K (.slice ad R.length cap) R (preF K fuel R) J V (fun V' hV' => hF V' (hk.trans hV')) (by omega) (by omega) (by omega) hyU hbx (by have := hb.size; omega) hJ hY fuel V 0 R ad cap hD (KpN.refl _ _ _) (fun V' hV' => ?_) hRr hRl (fun j hj => by rw [Nat.zero_add]) (hJW 0 V h0 hb)).mono ?_
    · obtain ⟨ad6, cap6, hkv6, hH6, _⟩ := (hF V' (hk.trans hV')).roots
      cases hkv6
      exact hH6
    · rintro e V' ⟨rfl, h1, _⟩
      exact ⟨rfl, by simpa using h1⟩
  have hfl : Hid (f < W.heap.size) := F0.head.lt
  obtain ⟨m, hm⟩ : ∃ m, R.length = m := ⟨_, rfl⟩
  obtain ⟨W3, hW3⟩ : ∃ W3, ((W.alloc (.cells #[.pointer (some ⟨f, 0, none⟩)] 25)).alloc (.cells #[(.func (.func 32) #[] #[.pointer (some ⟨bY, 0, none⟩)])] 90)).alloc (.cells #[.nilFunc] 106) = W3 := ⟨_, rfl⟩
  have b0 : Blk W3 W.heap.size #[.pointer (some ⟨f, 0, none⟩)] 25 := by rw [← hW3]; exact ((Blk.new W _ _).alloc _).alloc _
  have b1 : Blk W3 (W.heap.size + 1) #[(.func (.func 32) #[] #[.pointer (some ⟨bY, 0, none⟩)])] 90 := by
    rw [← hW3]
    have := Blk.new (W.alloc (.cells #[.pointer (some ⟨f, 0, none⟩)] 25)) #[(.func (.func 32) #[] #[.pointer (some ⟨bY, 0, none⟩)])] 90
    rw [World.size_alloc] at this
    exact this.alloc _
  have b2 : Blk W3 (W.heap.size + 1 + 1) #[.nilFunc] 106 := by
    rw [← hW3]
    have := Blk.new ((W.alloc (.cells #[.pointer (some ⟨f, 0, none⟩)] 25)).alloc (.cells #[(.func (.func 32) #[] #[.pointer (some ⟨bY, 0, none⟩)])] 90)) #[.nilFunc] 106
    rw [World.size_alloc, World.size_alloc] at this
    exact this
  have hb3 : Below W.heap.size W W3 := by rw [← hW3]; exact (((Below.refl _ _).alloc (Nat.le_refl _) _).alloc (by simp) _).alloc (by simp; omega) _
  have k2 : W3.cell? ⟨W.heap.size + 1 + 1, 0, none⟩ = some .nilFunc := b2.cell 0 rfl
  have kz : W3.frozen? ⟨W.heap.size + 1 + 1, 0, none⟩ = false := b2.frozen 0
  obtain ⟨W4, hW4⟩ : ∃ W4, W3.setCell ⟨W.heap.size + 1 + 1, 0, none⟩ (.func (.func 48) #[] #[.pointer (some ⟨W.heap.size, 0, none⟩), .pointer (some ⟨W.heap.size + 1, 0, none⟩), .pointer (some ⟨W.heap.size + 1 + 1, 0, none⟩)]) = W4 := ⟨_, rfl⟩
  have hb4 : Below W.heap.size W W4 := by rw [← hW4]; exact Below.setCell hb3 (by simp; omega) _
  have q0 : Blk W4 W.heap.size #[.pointer (some ⟨f, 0, none⟩)] 25 := by rw [← hW4]; exact b0.other _ _ (by simp; omega)
  have q1 : Blk W4 (W.heap.size + 1) #[(.func (.func 32) #[] #[.pointer (some ⟨bY, 0, none⟩)])] 90 := by rw [← hW4]; exact b1.other _ _ (by simp)
  have q2 : Blk W4 (W.heap.size + 1 + 1) #[.func (.func 48) #[] #[.pointer (some ⟨W.heap.size, 0, none⟩), .pointer (some ⟨W.heap.size + 1, 0, none⟩), .pointer (some ⟨W.heap.size + 1 + 1, 0, none⟩)]] 106 := by rw [← hW4]; exact b2.set 0 _
  have q3 : Blk W4 bY #[.func (.yield l) #[] #[]] 87 := cy.below hb4 cy.lt
  obtain ⟨q4, DN⟩ := DOWN.out W4.drew hb4.drew ⟨q0, q1, q2, q3⟩
  have e0 := q0.cell 0 rfl
  have e2 := q2.cell 0 rfl
  have q4' : W4.cell? ⟨f, 1, none⟩ = some (.slice ad R.length cap) := q4
  rw [hm] at q4' DN
  have hst : (store ⟨W.heap.size + 1 + 1, 0, none⟩ (.func (.func 48) #[] #[.pointer (some ⟨W.heap.size, 0, none⟩), .pointer (some ⟨W.heap.size + 1, 0, none⟩), .pointer (some ⟨W.heap.size + 1 + 1, 0, none⟩)])).run Tryz.prog W3 = .ok () W4 := by
    rw [run_store _ _ _ _ _ rfl, k2, ← hW4]
    simp [kz]
  rw [← hW3] at k2 kz hW4 hst
  clear hW3 q0 q1 q2 q3 q4
  clear hF hY hD hJ hJW h0 F0 cy b0 b1 b2 hb3 hb4 DOWN hRr hRl hyU hB hU hm
  refine callsIn_of_wp Tryz.func31 rfl trivial ?_ rfl
  simp only [Tryz.ntmps31, List.size_toArray, List.length_cons, List.length_nil, Nat.reduceAdd, Nat.reduceSub, Array.replicate_succ, Array.replicate_zero, List.push_toArray, List.append_toArray, List.nil_append, List.cons_append]
  gi_wp2
  gi_region_with (first
    | (gi_at_call 48; (with_reducible refine (callsIn_wide.2 (callsIn_wide.1 DN)).mono ?_); clear DN; rintro e w6 ⟨rfl, h6⟩; have H6 : Hid (J (preF K fuel R).length w6) := h6; clear h6)
    | (refine ⟨trivial, ?_⟩; gi_at_call 48; (with_reducible refine (callsIn_wide.2 (callsIn_wide.1 DN)).mono ?_); clear DN; rintro e w6 ⟨rfl, h6⟩; have H6 : Hid (J (preF K fuel R).length w6) := h6; clear h6))
  all_goals
    gi_wp2
    go_end0
    exact ⟨⟨_, rfl⟩, H6.out⟩
set_option maxHeartbeats 4000000 in
theorem down_steps (n f sb bx B U fuel : Nat) (X : List Spot) (K : Nat → List Int) (rv : Value) (R : List Int) (w0 w : World) (h : ForestAt w0 f sb X K rv R) (hB : w0.heap.size ≤ B) (hw : Below B w0 w) (hUw : U < w.heap.size) (hBw : B ≤ w.heap.size)
    (cx : Blk w bx #[.pointer (some ⟨f, 0, none⟩)] 25) (hD : Deep K fuel R) :
    StepsA Fence.wide n Tryz.prog 30 #[.pointer (some ⟨bx, 0, none⟩)] (preF K fuel R).length (fun k => #[ndV (nthN X ((preF K fuel R)[k]?.getD 0))]) (KpN B U) w := fun l J W hW hJ hY h0 => by
  have hsW := hW.size
  have cxW := cx.below hW cx.lt
  have k1 : W.cell? ⟨bx, 0, none⟩ = some (.pointer (some ⟨f, 0, none⟩)) := cxW.cell 0 rfl
  obtain ⟨W1, hW1⟩ : ∃ W1, W.alloc (.cells #[.func (.yield l) #[] #[]] 87) = W1 := ⟨_, rfl⟩
  have hb1 : Below W.heap.size W W1 := by rw [← hW1]; exact (Below.refl _ _).alloc (Nat.le_refl _) _
  have s1 : W1.heap.size = W.heap.size + 1 := by rw [← hW1]; simp
  have cy : Blk W1 W.heap.size #[.func (.yield l) #[] #[]] 87 := by rw [← hW1]; exact Blk.new _ _ _
  have k2 : W1.cell? ⟨bx, 0, none⟩ = some (.pointer (some ⟨f, 0, none⟩)) := (hb1.cell (p := ⟨bx, 0, none⟩) cxW.lt).trans k1
  have WK := walkD_in f sb W.heap.size l B U fuel X K rv R (fun k V => J k V ∧ W.heap.size ≤ V.heap.size) W1
    (fun V hV => h.below ((hw.mono hB).trans ((hW.mono (by omega)).trans ((hb1.mono (by omega)).trans (hV.below.mono hB))))) (by omega) (by omega) (by omega) cy
    (fun k V V' hj hb => ⟨hJ k V V' hj.2 hj.1 (Upd.ofBelow hb (fun j h1 h2 => by omega)), by have := hb.size; omega⟩)
    (fun k V hj hb => ⟨hJ k W1 V hj.2 hj.1 (Upd.ofBelow hb (fun j h1 h2 => by omega)), by have := hb.size; omega⟩)
    (fun k V hk hj => (yieldAnyDepth rfl 2 (hY k V hk hj.1)).mono (fun e V' hh => ⟨hh.1, ⟨hh.2.1, by have := hh.2.2.below.size; omega⟩, hh.2.2⟩)) hD
    ⟨hJ 0 W W1 (Nat.le_refl _) h0 (Upd.ofBelow hb1 (fun j _ h => h)), by omega⟩
  refine callsIn_wide.2 (callsIn_wide (n := 3).1 ?_)
  clear hJ hY h0 hW hw h hD cx cxW cy hb1 s1
  rw [← hW1] at WK k2
  clear hW1
  refine callsIn_of_wp Tryz.func30 rfl trivial ?_ rfl
  simp only [Tryz.ntmps30, List.size_toArray, List.length_cons, List.length_nil, Nat.reduceAdd, Nat.reduceSub, Array.replicate_succ, Array.replicate_zero, List.push_toArray, List.append_toArray, List.nil_append, List.cons_append]
  gi_wp2_with (first
    | (gi_at_call 31; (with_reducible refine (callsIn_wide.2 (callsIn_wide.1 WK)).mono ?_); clear WK; rintro e w6 ⟨⟨v, rfl⟩, h6⟩)
    | (refine ⟨trivial, ?_⟩; gi_at_call 31; (with_reducible refine (callsIn_wide.2 (callsIn_wide.1 WK)).mono ?_); clear WK; rintro e w6 ⟨⟨v, rfl⟩, h6⟩))
  go_end0
  exact ⟨⟨_, rfl⟩, h6.1⟩
theorem downF_any (f : Nat) (w : World) :
    Calls Tryz.prog 17 #[.pointer (some ⟨f, 0, none⟩)] w fun e w' => e = .returned (.func (.func 30) #[] #[.pointer (some ⟨w.heap.size, 0, none⟩)]) ∧ w' = w.alloc (.cells #[.pointer (some ⟨f, 0, none⟩)] 25) := by
  go_enter Tryz.func17, Tryz.ntmps17
  go_wp2
  go_ret
  exact ⟨rfl, rfl⟩
end Go.Proofs.YtipkolmkpfpjjaaGreatDoor

namespace Go.Proofs.YtipkolmkpfpjjaaGreatDoor
open Go Go.RowKit
set_option maxRecDepth 100000

/-- The first example of the chapter. -/
def eX : List Sp := [spE svA 3 2 0 5, spE svA 4 9 2 4, spE svA 1 0 0 10, spE svA 2 1 3 12]
def eY : List Sp := [spE svA 1 0 0 10, spE svA 2 1 3 12, spE svA 3 2 0 5, spE svA 4 9 2 4]
theorem eXY : eX.Perm eY := List.perm_append_comm (l₁ := [spE svA 3 2 0 5, spE svA 4 9 2 4]) (l₂ := [spE svA 1 0 0 10, spE svA 2 1 3 12])
theorem eRise : eY.Pairwise (fun a b => a.id < b.id) := by
  simp [eY, spE]
theorem eOne : OneT eX := by
  refine oneE (fun a ha => ?_) (by simp [eX]) (by simp [eX, spE])
  simp only [eX, List.mem_cons, List.not_mem_nil, or_false] at ha
  rcases ha with rfl | rfl | rfl | rfl
  all_goals exact ⟨_, _, _, _, _, rfl, by decide, by omega, by omega, by decide +kernel⟩
theorem eNm : nmOf (zs eY) = [-1, 0, 1, -1] := by decide +kernel
def eDp : Nat → Nat
  | 1 => 1
  | 2 => 2
  | _ => 0
def eFin : Nat → Nod
  | 0 => ⟨1, 0, 1, 1, 0, 0, 10⟩
  | 1 => ⟨2, 1, 0, 1, 1, 3, 10⟩
  | 2 => ⟨3, 2, 0, 1, 2, 3, 5⟩
  | _ => ⟨4, 0, 2, 4, 0, 2, 4⟩
theorem eNo : NoRing (nmOf (zs eY)) eY.length := by
  rw [eNm]
  intro i hi
  rcases four (show i < 4 from hi) with rfl | rfl | rfl | rfl
  · exact Or.inl (by decide +kernel)
  · exact Or.inr (by decide +kernel)
  · exact Or.inr (by decide +kernel)
  · exact Or.inl (by decide +kernel)
theorem eShape : Shape (zs eY) (nmOf (zs eY)) eDp eFin := by
  rw [eNm]
  refine ⟨fun i hi hn => ?_, fun i j hi hj hn => ?_, fun i hi => ?_⟩
  · rcases four (show i < 4 from hi) with rfl | rfl | rfl | rfl
    · exact ⟨rfl, rfl⟩
    · exact absurd hn (by decide)
    · exact absurd hn (by decide)
    · exact ⟨rfl, rfl⟩
  · rcases four (show i < 4 from hi) with rfl | rfl | rfl | rfl
    · exact absurd hn (by simp)
    · have : j = 0 := by simp at hn; omega
      subst this
      exact ⟨rfl, rfl⟩
    · have : j = 1 := by simp at hn; omega
      subst this
      exact ⟨rfl, rfl⟩
    · exact absurd hn (by simp)
  · rcases four (show i < 4 from hi) with rfl | rfl | rfl | rfl <;> exact ⟨by decide, by decide, by decide⟩
/-- What is known of the example's forest. -/
structure ExF (X : List Spot) (K : Nat → List Int) (R : List Int) : Prop where
  len : X.length = 4
  at_ : ∀ i (h : i < X.length), X[i].nd = eFin i ∧ X[i].a = eY[i]?.getD (spE svA 0 0 0 0)
  k0 : K 0 = [1]
  k1 : K 1 = [2]
  k2 : K 2 = []
  k3 : K 3 = []
  r : R = [0, 3]
theorem exF {X : List Spot} {K : Nat → List Int} {R : List Int} (h : FoR eY eFin X K R) : ExF X K R := by
  have hl : X.length = 4 := h.len
  have k := fun i hi => (h.kids i hi).1
  have r := h.roots
  rw [eNm] at k r
  have hk0 : kidsF [-1, 0, 1, -1] eY.length ((0 : Nat) : Int) = [1] := by decide +kernel
  have hk1 : kidsF [-1, 0, 1, -1] eY.length ((1 : Nat) : Int) = [2] := by decide +kernel
  have hk2 : kidsF [-1, 0, 1, -1] eY.length ((2 : Nat) : Int) = [] := by decide +kernel
  have hk3 : kidsF [-1, 0, 1, -1] eY.length ((3 : Nat) : Int) = [] := by decide +kernel
  have hkr : kidsF [-1, 0, 1, -1] eY.length (-1) = [0, 3] := by decide +kernel
  have c0 := k 0 (by decide)
  have c1 := k 1 (by decide)
  have c2 := k 2 (by decide)
  have c3 := k 3 (by decide)
  rw [hk0] at c0
  rw [hk1] at c1
  rw [hk2] at c2
  rw [hk3] at c3
  rw [hkr] at r
  refine ⟨hl, fun i hi => ?_, List.singleton_perm.1 c0 |>.symm, List.singleton_perm.1 c1 |>.symm, List.nil_perm.1 c2, List.nil_perm.1 c3, ?_⟩
  · have hiY : i < eY.length := by rw [← h.len]; exact hi
    obtain ⟨e1, e2⟩ := h.each i hiY hi
    exact ⟨e2, by rw [e1]; simp [hiY]⟩
  · refine pair_of r.1 (by decide) fun x y hR hxy => ?_
    obtain ⟨rfl, rfl⟩ := hxy
    have := r.2
    rw [hR, List.pairwise_cons] at this
    refine this.1 0 (by simp) ?_
    left
    decide
theorem ExF.pre {X : List Spot} {K : Nat → List Int} {R : List Int} (h : ExF X K R) : preF K 4 R = [0, 1, 2, 3] ∧ Deep K 4 R := by
  rw [h.r]
  constructor
  · simp [preF, h.k0, h.k1, h.k2, h.k3]
  · simp [Deep, h.k0, h.k1, h.k2, h.k3]
theorem ExF.up {X : List Spot} {K : Nat → List Int} {R : List Int} (h : ExF X K R) : UpL X 3 [2, 1] := by
  have hl := h.len
  refine ⟨Or.inl ⟨2, by omega, ?_, ?_⟩, by decide, Or.inl ⟨1, by omega, ?_, ?_⟩, by decide, Or.inl ⟨0, by omega, ?_, ?_⟩⟩
  all_goals rw [(h.at_ _ _).1]; rfl
end Go.Proofs.YtipkolmkpfpjjaaGreatDoor
