/-
  GE.
-/
import Derived.Test.YtipkolmkpfpjjaaGreatDoorGD
import Derived.Stop.RegionWithIn
namespace Go.Proofs.YtipkolmkpfpjjaaGreatDoor
open Go Go.RowKit Go.Shelf
set_option maxRecDepth 100000

attribute [local go_sem] Oper.semAt_some

/-- Spots, each ahead of those below it. -/
def preF (K : Nat → List Int) : Nat → List Int → List Int
  | 0, _ => []
  | fu + 1, L => L.flatMap (fun x => x :: preF K fu (K x.toNat))
/-- No way down is longer. -/
def Deep (K : Nat → List Int) : Nat → List Int → Prop
  | 0, L => L = []
  | fu + 1, L => ∀ x ∈ L, Deep K fu (K x.toNat)
theorem preF_take (K : Nat → List Int) (fu : Nat) (L : List Int) (q : Nat) (hq : q < L.length) : preF K (fu + 1) (L.take (q + 1)) = preF K (fu + 1) (L.take q) ++ (L[q] :: preF K fu (K L[q].toNat)) := by
  show (L.take (q + 1)).flatMap (fun x => x :: preF K fu (K x.toNat)) = (L.take q).flatMap (fun x => x :: preF K fu (K x.toNat)) ++ _
  rw [List.take_succ_eq_append_getElem hq, List.flatMap_append]
  simp
theorem preF_split (K : Nat → List Int) (fu : Nat) (L : List Int) (q : Nat) : preF K (fu + 1) L = preF K (fu + 1) (L.take q) ++ preF K (fu + 1) (L.drop q) := by
  show L.flatMap (fun x => x :: preF K fu (K x.toNat)) = (L.take q).flatMap (fun x => x :: preF K fu (K x.toNat)) ++ (L.drop q).flatMap (fun x => x :: preF K fu (K x.toNat))
  rw [← List.flatMap_append, List.take_append_drop]
def nthN (X : List Spot) (x : Int) : Nod := ((X[x.toNat]?).map (fun s => s.nd)).getD zNd
theorem nthN_get {X : List Spot} {x : Nat} (h : x < X.length) : nthN X (x : Int) = X[x].nd := by simp [nthN, h]
/-- The boxes of the way down. -/
structure BoxD (W : World) (f bf bv bd bY l : Nat) : Prop where
  cf : Blk W bf #[.pointer (some ⟨f, 0, none⟩)] 25
  cv : Blk W bv #[.func (.func 32) #[] #[.pointer (some ⟨bY, 0, none⟩)]] 90
  cd : Blk W bd #[.func (.func 48) #[] #[.pointer (some ⟨bf, 0, none⟩), .pointer (some ⟨bv, 0, none⟩), .pointer (some ⟨bd, 0, none⟩)]] 106
  cy : Blk W bY #[.func (.yield l) #[] #[]] 87
theorem BoxD.keep {B U : Nat} {W W' : World} {f bf bv bd bY l : Nat} (h : BoxD W f bf bv bd bY l) (hk : KpN B U W W') (h1 : bf ≠ U) (h2 : bv ≠ U) (h3 : bd ≠ U) (h4 : bY ≠ U) : BoxD W' f bf bv bd bY l :=
  ⟨hk.blk h.cf h1, hk.blk h.cv h2, hk.blk h.cd h3, hk.blk h.cy h4⟩
theorem visitD (m sb bY l x : Nat) (X : List Spot) (w : World) (R : Ending → World → Prop) (hB : Blk w sb (rowS X) 71) (hx : x < X.length) (cy : Blk w bY #[.func (.yield l) #[] #[]] 87) (hY : YieldAt Fence.wide m Tryz.prog l #[ndV X[x].nd] w.drew fun e w' => e = .returned (.bool true) ∧ R e w') :
    CallsIn Fence.wide 3 Tryz.prog 32 #[.pointer (some ⟨sb, x * 21, none⟩), .pointer (some ⟨bY, 0, none⟩)] w fun e w' => e = .returned (.bool true) ∧ R e w' := by
  obtain ⟨fn, tmps, assign, body, hy, hR⟩ := yieldAnyDepth rfl 2 hY
  have c0 : w.cell? ⟨bY, 0, none⟩ = some (.func (.yield l) #[] #[]) := cy.cell 0 rfl
  have s := hB.spots x hx
  have s13 := s.c13
  have s14 := s.c14
  have s15 := s.c15
  have s16 := s.c16
  have s17 := s.c17
  have s18 := s.c18
  have s19 := s.c19
  generalize hnd : X[x].nd = d at hy hR s13 s14 s15 s16 s17 s18 s19
  unfold ndV at hy
  clear s cy hB hY hnd hx
  refine callsIn_of_wp Tryz.func32 rfl trivial ?_ rfl
  simp only [Tryz.ntmps32, List.size_toArray, List.length_cons, List.length_nil, Nat.reduceAdd, Nat.reduceSub, Array.replicate_succ, Array.replicate_zero, List.push_toArray, List.append_toArray, List.nil_append, List.cons_append]
  gi_wp2
  gi_region_with (first | (refine hR.mono ?_; rintro e W3 ⟨rfl, h3⟩) | (refine ⟨trivial, ?_⟩; refine hR.mono ?_; rintro e W3 ⟨rfl, h3⟩))
  all_goals
    gi_wp2
    go_ret
    exact ⟨rfl, h3⟩
set_option maxHeartbeats 4000000 in
theorem down_in (f sb bf bv bd bY l B U : Nat) (X : List Spot) (K : Nat → List Int) (rv : Value) (R : List Int) (A : List Int) (J : Nat → World → Prop) (W0 : World)
    (hF : ∀ V, KpN B U W0 V → ForestAt V f sb X K rv R) (hn1 : bf ≠ U) (hn2 : bv ≠ U) (hn3 : bd ≠ U) (hn4 : bY ≠ U) (hbx : BoxD W0 f bf bv bd bY l) (hBW : B ≤ W0.heap.size)
    (hJ : ∀ k V V', J k V → Below V.heap.size V V' → J k V')
    (hY : ∀ k V, k < A.length → J k V → YieldAt Fence.wide 2 Tryz.prog l #[ndV (nthN X (A[k]?.getD 0))] V fun e V' => e = .returned (.bool true) ∧ J (k + 1) V' ∧ KpN B U V V') :
    ∀ (fuel : Nat) (W : World) (k : Nat) (L : List Int) (ad : Option Addr) (cap : Nat), Deep K fuel L → KpN B U W0 W → (∀ V, KpN B U W0 V → HoldsV V ad L.length (intsV .i64 L)) → (∀ x ∈ L, 0 ≤ x ∧ x < X.length) → L.length ≤ 1000 → (∀ j, j < (preF K fuel L).length → A[k + j]? = (preF K fuel L)[j]?) → J k W →
    CallsIn Fence.wide 3 Tryz.prog 48 #[.slice ad L.length cap, .pointer (some ⟨bf, 0, none⟩), .pointer (some ⟨bv, 0, none⟩), .pointer (some ⟨bd, 0, none⟩)] W fun e V => e = .returned (.bool true) ∧ J (k + (preF K fuel L).length) V ∧ KpN B U W V := by
  intro fuel
  induction fuel with
  | zero =>
    intro W k L ad cap hD _ _ _ _ _ hJk
    have hL : L = [] := hD
    subst hL
    refine callsIn_of_wp Tryz.func48 rfl trivial ?_ rfl
    simp only [Tryz.ntmps48, List.size_toArray, List.length_cons, List.length_nil, Nat.reduceAdd, Nat.reduceSub, Array.replicate_succ, Array.replicate_zero, List.push_toArray, List.append_toArray, List.nil_append, List.cons_append]
    gi_wp2
    gi_loopw [11] (fun x wr => x = .int .i64 0 ∧ wr = W) (fun _ _ => 0)
    case atStart => exact ⟨rfl, rfl⟩
    case round =>
      obtain ⟨rfl, rfl⟩ := hrel
      gi_wp2
      go_ret
      exact ⟨rfl, by simpa [preF] using hJk, KpN.refl _ _ _⟩
  | succ fuel ih =>
    intro W k L ad cap hD hKW hH hr hl hA hJk
    have hDx : ∀ x ∈ L, Deep K fuel (K x.toNat) := hD
    obtain ⟨m, hm⟩ : ∃ m, L.length = m := ⟨_, rfl⟩
    have HM : Hid (L.length = m) := hm
    have NEXT : Hid (∀ (q : Nat) (hq : q < L.length) (wr : World), J (k + (preF K (fuel + 1) (L.take q)).length) wr → KpN B U W wr → ∃ x : Nat, L[q] = (x : Int) ∧ x < X.length ∧ HoldsV wr ad L.length (intsV .i64 L) ∧ BoxD wr f bf bv bd bY l ∧ wr.cell? ⟨f, 0, none⟩ = some (.slice (some ⟨sb, 0, none⟩) X.length X.length) ∧ CallsIn Fence.wide 3 Tryz.prog 32 #[.pointer (some ⟨sb, x * 21, none⟩), .pointer (some ⟨bY, 0, none⟩)] wr.drew fun e w5 => e = .returned (.bool true) ∧ ∃ ad5 m5 cap5, w5.cell? ⟨sb, x * 21 + 20, none⟩ = some (.slice ad5 m5 cap5) ∧ w5.cell? ⟨bd, 0, none⟩ = some (.func (.func 48) #[] #[.pointer (some ⟨bf, 0, none⟩), .pointer (some ⟨bv, 0, none⟩), .pointer (some ⟨bd, 0, none⟩)]) ∧ CallsIn Fence.wide 3 Tryz.prog 48 #[.slice ad5 m5 cap5, .pointer (some ⟨bf, 0, none⟩), .pointer (some ⟨bv, 0, none⟩), .pointer (some ⟨bd, 0, none⟩)] w5 fun e V => e = .returned (.bool true) ∧ J (k + (preF K (fuel + 1) (L.take (q + 1))).length) V ∧ KpN B U W V) := fun q hq wr hJr hKr => by
      have hmem := List.getElem_mem hq
      obtain ⟨x, hx⟩ : ∃ x : Nat, L[q] = (x : Int) := ⟨L[q].toNat, by have := hr _ hmem; omega⟩
      have hxX : x < X.length := by have := hr _ hmem; omega
      have hK0 : KpN B U W0 wr := hKW.trans hKr
      have hKd : KpN B U W0 wr.drew := hK0.trans (KpN.ofBelow ((Below.refl _ _).drew) (by have := hK0.below.size; omega))
      have FR := hF wr hK0
      have FD := hF wr.drew hKd
      have BX := hbx.keep hK0 hn1 hn2 hn3 hn4
      have BD := hbx.keep hKd hn1 hn2 hn3 hn4
      -- the place of this one in the whole list
      have hpl : A[k + (preF K (fuel + 1) (L.take q)).length]? = some (L[q]) := by
        have hsp := preF_split K fuel L (q + 1)
        have htk := preF_take K fuel L q hq
        rw [hA _ (by rw [hsp, htk]; simp), hsp, htk]
        simp
      have hcont : ∀ j, j < (preF K fuel (K x)).length → A[k + (preF K (fuel + 1) (L.take q)).length + 1 + j]? = (preF K fuel (K x))[j]? := fun j hj => by
        have hsp := preF_split K fuel L (q + 1)
        have htk := preF_take K fuel L q hq
        rw [hx] at htk
        simp only [Int.toNat_natCast] at htk
        have := hA ((preF K (fuel + 1) (L.take q)).length + 1 + j) (by rw [hsp, htk]; simp; omega)
        rw [show k + (preF K (fuel + 1) (L.take q)).length + 1 + j = k + ((preF K (fuel + 1) (L.take q)).length + 1 + j) by omega, this, hsp, htk, List.append_assoc, List.getElem?_append_right (by omega)]
        rw [show (preF K (fuel + 1) (L.take q)).length + 1 + j - (preF K (fuel + 1) (L.take q)).length = j + 1 by omega, List.cons_append, List.getElem?_cons_succ, List.getElem?_append_left hj]
      have hlen : k + (preF K (fuel + 1) (L.take (q + 1))).length = k + (preF K (fuel + 1) (L.take q)).length + 1 + (preF K fuel (K x)).length := by
        have htk := preF_take K fuel L q hq
        rw [hx] at htk
        simp only [Int.toNat_natCast] at htk
        rw [htk]; simp; omega
      have hkA : k + (preF K (fuel + 1) (L.take q)).length < A.length := (List.getElem?_eq_some_iff.1 hpl).1
      have YY := hY _ wr.drew.drew hkA (hJ _ wr _ hJr (((Below.refl _ _).drew).drew))
      rw [hpl, Option.getD_some, hx, nthN_get hxX] at YY
      refine ⟨x, hx, hxX, hH wr hK0, BX, FR.head.cell 0 rfl, ?_⟩
      refine (visitD 2 sb bY l x X wr.drew (fun e V' => e = .returned (.bool true) ∧ J (k + (preF K (fuel + 1) (L.take q)).length + 1) V' ∧ KpN B U wr.drew.drew V') FD.row hxX BD.cy (YY.mono (fun e V' h => ⟨h.1, h⟩))).mono ?_
      rintro e w5 ⟨rfl, _, hJ5, hK5⟩
      have hK5' : KpN B U wr w5 := (KpN.ofBelow (((Below.refl _ _).drew).drew) (by have := hK0.below.size; omega)).trans hK5
      have hK50 : KpN B U W0 w5 := hK0.trans hK5'
      have F5 := hF w5 hK50
      obtain ⟨ad5, cap5, hkv, _, hl5, hr5⟩ := F5.kids x hxX
      refine ⟨rfl, ad5, (K x).length, cap5, by rw [← hkv]; exact (F5.row.spots x hxX).c20, (hbx.keep hK50 hn1 hn2 hn3 hn4).cd.cell 0 rfl, ?_⟩
      have hDK : Deep K fuel (K x) := by have := hDx _ hmem; rwa [hx, Int.toNat_natCast] at this
      refine (ih w5 _ (K x) ad5 cap5 hDK hK50 (fun V hV => ?_) hr5 hl5 hcont hJ5).mono ?_
      · obtain ⟨ad6, cap6, hkv6, hH6, _⟩ := (hF V hV).kids x hxX
        rw [hkv] at hkv6
        cases hkv6
        exact hH6
      · rintro e V ⟨rfl, hJV, hKV⟩
        refine ⟨rfl, ?_, hKr.trans (hK5'.trans hKV)⟩
        rw [hlen]; exact hJV
    have START : Hid (J (k + (preF K (fuel + 1) (L.take 0)).length) W ∧ KpN B U W W) := ⟨by simpa [preF] using hJk, KpN.refl _ _ _⟩
    obtain ⟨N, hN⟩ : ∃ N, X.length = N := ⟨_, rfl⟩
    have HN : Hid (X.length = N) := hN
    rw [hN] at NEXT
    rw [hm] at hl ⊢
    clear hF hJ hY ih hD hH hr hA hJk hDx hm hbx hKW hBW
    refine callsIn_of_wp Tryz.func48 rfl trivial ?_ rfl
    simp only [Tryz.ntmps48, List.size_toArray, List.length_cons, List.length_nil, Nat.reduceAdd, Nat.reduceSub, Array.replicate_succ, Array.replicate_zero, List.push_toArray, List.append_toArray, List.nil_append, List.cons_append]
    gi_wp2
    gi_loopw [11] (fun y wr => ∃ q : Nat, y = .int .i64 q ∧ q ≤ m ∧ J (k + (preF K (fuel + 1) (L.take q)).length) wr ∧ KpN B U W wr) (fun y _ => m - (intOf y).toNat)
    case atStart => exact ⟨0, rfl, by omega, START.out.1, START.out.2⟩
    case round =>
      obtain ⟨q, rfl, hqm, hJq, hKq⟩ := hrel
      by_cases hlt : q < m
      · obtain ⟨x, hx, hxX, hHq, hBx, hf, VI⟩ := NEXT.out q (by rw [HM.out]; exact hlt) wr hJq hKq
        obtain ⟨b, o, rfl, hcs⟩ := hHq.plain (intsV_get (show q < L.length by rw [HM.out]; exact hlt))
        have hc := hcs q _ (intsV_get (show q < L.length by rw [HM.out]; exact hlt))
        rw [hx] at hc
        have c1 := hBx.cf.cell 0 rfl
        have c2 := hBx.cv.cell 0 rfl
        have hxi : (x : Int) < (N : Int) := by omega
        have hx0 : (0 : Int) ≤ (x : Int) := by omega
        clear hcs hx hHq hBx hJq hKq NEXT
        gi_wp2
        gi_region_with (first
          | (gi_at_call 32; (with_reducible refine (callsIn_wide.2 (callsIn_wide.1 VI)).mono ?_); clear VI; rintro e w5 ⟨rfl, ad5, m5, cap5, h20, hcd5, NX⟩)
          | (refine ⟨trivial, ?_⟩; gi_at_call 32; (with_reducible refine (callsIn_wide.2 (callsIn_wide.1 VI)).mono ?_); clear VI; rintro e w5 ⟨rfl, ad5, m5, cap5, h20, hcd5, NX⟩)
          | (gi_at_call 48; (with_reducible refine (callsIn_wide.2 (callsIn_wide.1 NX)).mono ?_); clear NX; rintro e w6 ⟨rfl, h6⟩; have H6 : Hid (J (k + (preF K (fuel + 1) (L.take (q + 1))).length) w6 ∧ KpN B U W w6) := h6; clear h6)
          | (refine ⟨trivial, ?_⟩; gi_at_call 48; (with_reducible refine (callsIn_wide.2 (callsIn_wide.1 NX)).mono ?_); clear NX; rintro e w6 ⟨rfl, h6⟩; have H6 : Hid (J (k + (preF K (fuel + 1) (L.take (q + 1))).length) w6 ∧ KpN B U W w6) := h6; clear h6))
        all_goals
          gi_wp2
          go_roundw
          case rel => exact ⟨q + 1, by simp, by omega, H6.out.1, H6.out.2⟩
          case measure => simp [intOf]; omega
      · obtain rfl : q = m := by omega
        gi_wp2
        go_ret
        refine ⟨rfl, ?_, hKq⟩
        rwa [List.take_of_length_le (by rw [HM.out]; exact Nat.le_refl _)] at hJq
end Go.Proofs.YtipkolmkpfpjjaaGreatDoor
