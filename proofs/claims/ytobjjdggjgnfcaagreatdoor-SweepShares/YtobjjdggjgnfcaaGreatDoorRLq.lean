/-
  Merged: RL, RM, RN.
-/
import Derived.Test.YtobjjdggjgnfcaaGreatDoorRAq
import Derived.Test.YtobjjdggjgnfcaaGreatDoorRIq
import Derived.Test.YtobjjdggjgnfcaaGreatDoorFXq
import Derived.OrdersHeld
import Derived.Test.YtobjjdggjgnfcaaGreatDoorPIq
import Derived.Test.YtobjjdggjgnfcaaGreatDoorPAq
import Derived.Test.YtobjjdggjgnfcaaGreatDoorPMq
import Derived.Test.YtobjjdggjgnfcaaGreatDoorVRq
import Derived.Test.YtobjjdggjgnfcaaGreatDoorYcq
import Derived.Test.YtobjjdggjgnfcaaGreatDoorSOq
import Derived.Test.YtobjjdggjgnfcaaGreatDoorMwq
import Derived.Test.YtobjjdggjgnfcaaGreatDoorPR
import Derived.Test.YtobjjdggjgnfcaaGreatDoorZmq
import Derived.Test.YtobjjdggjgnfcaaGreatDoorFSq
import Derived.Test.YtobjjdggjgnfcaaGreatDoorFIq
import Derived.Test.YtobjjdggjgnfcaaGreatDoorOZ
import Derived.BigQuiet
import Derived.Test.YtobjjdggjgnfcaaGreatDoorOXq
import Derived.RangeFuncNested
import Derived.RangeFuncBound
import Derived.RangeFuncCalls
import Derived.RangeFuncLeaves
import Derived.RangeFuncBox
import Derived.Shelf.Abstract
import Derived.Shelf.RegionOpen
import Derived.WalkKit
import Derived.OwnWalkIn
import Derived.TacticsInMore
import Derived.LoopNIn
import Derived.LoopIn
import Derived.Stop.RegionWithIn
import Derived.Test.YtobjjdggjgnfcaaGreatDoorFKq
import Derived.Test.YtobjjdggjgnfcaaGreatDoorGMq
import Derived.Test.YtobjjdggjgnfcaaGreatDoorGAq
import Derived.Test.YtobjjdggjgnfcaaGreatDoorZvq
import Derived.Test.YtobjjdggjgnfcaaGreatDoorWaq
import Derived.Laws.BytesString
import Derived.Laws.Strings2
import Derived.Lib.IndexBytes
import Derived.Test.YtobjjdggjgnfcaaGreatDoorWrq
import Derived.Test.YtobjjdggjgnfcaaGreatDoorZhq
import Derived.Test.YtobjjdggjgnfcaaGreatDoorZg
import Derived.Test.YtobjjdggjgnfcaaGreatDoorPLq
namespace Go.Proofs.YtobjjdggjgnfcaaGreatDoor
open Go Go.RowKit Go.Maps
set_option maxRecDepth 100000

theorem NmH.isMap {w : World} {b : Nat} {A : Nat → Sp} {h : Nat → Int} {zs : List Nat} (hm : NmH w b A h zs) : ∃ es cl, w.heap[b]? = some (.map es cl) := by
  obtain ⟨D, ⟨es, cl, hb, _⟩, _⟩ := hm
  exact ⟨es, cl, hb⟩
theorem swept_map (f sb : Nat) (X : List Spot) (K : Nat → List Int) (rvv : Value) (R : List Int) (A : Nat → Sp) (fin : Nat → Nod) (KN C : Nat → List Nat) (fuel x : Nat) (W : World) (hF : ForestAt W f sb X K rvv R) (T : SvE X K A fin KN C fuel x) (b : Nat) (hb : ∃ es cl, W.heap[b]? = some (.map es cl)) :
    Calls Tryz.prog 37 #[.pointer (some ⟨f, 0, none⟩), .int .u64 (fin x).id] W fun e W' => e = .returned (.pointer (some ⟨W.heap.size, 0, none⟩)) ∧ (∃ a n c L B, Hid (PathR fin C x (fin x).til L ∧ n = (preN KN fuel [x]).length ∧ ∀ w5, Upd (fun k => k = b) W' w5 → SpotsP w5 W.heap.size (.slice a n c) A fin L (preN KN fuel [x]) B)) ∧ Below W.heap.size W W' := by
  refine (swept_any f sb X K rvv R A fin KN C fuel x W hF T).mono ?_
  rintro e W' ⟨rfl, ⟨lv, L, h⟩, hbl⟩
  refine ⟨rfl, ?_, hbl⟩
  obtain ⟨es, cl, hm⟩ := hb
  have hbs : b < W.heap.size := by
    rcases Nat.lt_or_ge b W.heap.size with h1 | h1
    · exact h1
    · rw [Array.getElem?_eq_none h1] at hm; simp at hm
  have hm' : W'.heap[b]? = some (.map es cl) := (hbl.block b hbs).trans hm
  have ne : ∀ {k : Nat} {c : Array Value} {T : TypeId}, Blk W' k c T → ¬ k = b := fun hk e => by
    unfold Blk at hk
    rw [e, hm'] at hk
    simp at hk
  obtain ⟨B, sv, ht, ⟨p, cv, hbk, _, hxD, _⟩, hrow⟩ := h.tree
  obtain ⟨a, c, rfl⟩ := owns_sliceS hrow
  refine ⟨a, _, c, L, B, h.path, rfl, fun w5 h5 => ?_⟩
  have b5 : ∀ y ∈ preN KN fuel [x], Blk w5 (B y) (swL (A y) (p y) (fin y) (cv y) (hungI L y)) 125 := fun y hy => (hbk y hy).upd h5 (ne (hbk y hy))
  refine ⟨(ht.upd h5 (ne ht)).cell 1 rfl, fun k hk => ?_, fun y hy => (b5 y hy).cell 2 rfl, fun y hy => (b5 y hy).cell 5 rfl, fun y hy => (b5 y hy).cell 16 rfl⟩
  have hr5 : w5.ownsRow W.heap.size 94 1 (.slice a (preN KN fuel [x]).length c) (preN KN fuel [x]).length ((preN KN fuel [x]).map (pB B)) := ownsRow_upd hrow h5 (fun k e hk => by have := (owns_lt hrow e).1; omega)
  rcases hr5.2 with ⟨e, h0⟩ | ⟨g, cap, cur, e, _⟩
  · omega
  · have e' := e
    injection e' with e' _ _
    refine ⟨g, ⟨_, _, by rw [e']⟩, ?_⟩
    have := World.ownsRow.cells hr5 (g := g) (by rw [e']; rfl) k (pB B (preN KN fuel [x])[k]) (by simp [hk])
    rw [Addr.add_lit, Nat.zero_add] at this
    exact this
theorem subU_len : ∀ (l m : List (List UInt8)), l.Nodup → (∀ x ∈ l, x ∈ m) → l.length ≤ m.length
  | [], _, _, _ => Nat.zero_le _
  | a :: r, m, hn, hm => by
    rw [List.nodup_cons] at hn
    have ha := hm a (by simp)
    have := subU_len r (m.erase a) hn.2 (fun x hx => (List.mem_erase_of_ne (fun e => by subst e; exact hn.1 hx)).2 (hm x (by simp [hx])))
    rw [List.length_erase_of_mem ha] at this
    have h0 := List.length_pos_of_mem ha
    simp only [List.length_cons]
    omega
theorem SvL.len {A : Nat → Sp} {zs : List Nat} {l : List (List UInt8)} (h : SvL A zs l) : l.length ≤ zs.length := by
  have := subU_len l (zs.map (fun y => svB (A y))) (h.rise.imp (fun hab e => by subst e; exact absurd hab (List.lt_irrefl _))) (fun s hs => by obtain ⟨y, h1, h2⟩ := (h.mem s).1 hs; exact List.mem_map.2 ⟨y, h1, h2⟩)
  simpa using this
theorem FoB.svc {Y : List Sp} {C : List Int} {dp : Nat → Nat} {fin : Nat → Nod} {X : List Spot} {K : Nat → List Int} {R : List Int} (h : FoB Y C dp fin X K R) {y : Nat} (hy : y < Y.length) : (svB (spAt Y y)).length ≤ 1000000 := by
  have e2 : spAt Y y = Y[y] := by simp [spAt, List.getD, hy]
  have hc := h.one.chk Y[y] (List.getElem_mem hy)
  rw [e2]
  by_cases hp : plainB Y[y].svc 60 33 = true
  · unfold plainB at hp
    simp only [Bool.and_eq_true, decide_eq_true_eq] at hp
    have : (svB Y[y]).length = Y[y].svc.size := by unfold svB; exact Array.length_toList
    omega
  · exfalso
    unfold chkS at hc
    simp only [Bool.not_eq_true] at hp
    simp only [hp, Bool.not_false, Bool.true_or, if_true] at hc
    split at hc
    · omega
    · split at hc <;> omega
theorem sorted_by (fin : Nat → Nod) (l : List Nat) : ∃ l' : List Nat, l.Perm l' ∧ l'.Pairwise (fun a b => (fin a).id ≤ (fin b).id) := by
  refine ⟨l.mergeSort (fun a b => decide ((fin a).id ≤ (fin b).id)), (List.mergeSort_perm _ _).symm, ?_⟩
  have := List.pairwise_mergeSort (le := fun a b : Nat => decide ((fin a).id ≤ (fin b).id)) (fun a b c h1 h2 => by simp only [decide_eq_true_eq] at *; omega) (fun a b => by simp only [Bool.or_eq_true, decide_eq_true_eq]; omega) l
  exact this.imp (fun h => by simpa using h)
theorem enc_flat : ∀ l : List (List UInt8), l.flatMap (fun s => [encStr s]) = l.map encStr
  | [] => rfl
  | a :: r => by rw [List.flatMap_cons, List.map_cons, enc_flat r]; rfl
def NvI (w2 : World) (b : Nat) (A : Nat → Sp) (L : List (Nat × Int × Int)) (D : List Nat) (k : Nat) (wr : World) : Prop := NmH wr b A (hungI L) ((D.take k).filter (fun y => decide (0 < hungI L y))) ∧ Upd (fun q => q = b) w2 wr
def NwI (w8 : World) (A : Nat → Sp) (h : Nat → Int) (zs : List Nat) (l : List (List UInt8)) (j : Nat) (va : Option Addr) (vc : Nat) (wr : World) : Prop := wr.ownsRow w8.heap.size 61 2 (.slice va j vc) j ((l.take j).flatMap (svC A h zs)) ∧ Below w8.heap.size w8 wr
set_option maxHeartbeats 8000000 in
theorem services_any (f sb : Nat) (X : List Spot) (K : Nat → List Int) (rv : Value) (R : List Int) (Y : List Sp) (C : List Int) (dp : Nat → Nat) (fin : Nat → Nod) (W : World) (hF : ForestAt W f sb X K rv R) (hB : FoB Y C dp fin X K R) (x : Nat) (hx : x < Y.length) (ho : (fin x).org ≠ 0) :
    Calls Tryz.prog 16 #[.pointer (some ⟨f, 0, none⟩), .int .u64 (fin x).id] W (SvcP Y fin K x W) := by
  have hl := hB.fo.len
  have each := (hB.fo.each x hx (by omega)).2
  have LA := lacksW_any f sb X K rv R W hF x (by omega) (fin x) each ho
  have SW : Hid (∀ W1 b t, W1.heap.size = t → Below W.heap.size W W1 → (∃ es cl, W1.heap[b]? = some (.map es cl)) → Calls Tryz.prog 37 #[.pointer (some ⟨f, 0, none⟩), .int .u64 (fin x).id] W1 fun e W' => e = .returned (.pointer (some ⟨t, 0, none⟩)) ∧ (∃ a n c L B, Hid (PathR fin (cnK fin K) x (fin x).til L ∧ n = (preN (knK K) 1001 [x]).length ∧ ∀ w5, Upd (fun k => k = b) W' w5 → SpotsP w5 t (.slice a n c) (spAt Y) fin L (preN (knK K) 1001 [x]) B)) ∧ Below t W1 W') := fun W1 b t ht hb hm => by
    subst ht
    exact swept_map f sb X K rv R (spAt Y) fin (knK K) (cnK fin K) 1001 x W1 (hF.below hb) (hB.senv x hx) b hm
  have HBB : Hid (FoB Y C dp fin X K R ∧ x < Y.length) := ⟨hB, hx⟩
  have HD : Hid ((preN (knK K) 1001 [x]).length ≤ 1000 ∧ ∀ y ∈ preN (knK K) 1001 [x], (svB (spAt Y y)).length ≤ 1000000) := ⟨(hB.senv x hx).ln, fun y hy => hB.svc (hB.tree.above 1001 [x] (by simpa using hx) y hy).1⟩
  have HE : Hid (∀ ad n cap L l w', PathR fin (cnK fin K) x (fin x).til L ∧ l.length = n ∧ SvL (spAt Y) (shL L Y.length) l ∧ LieIn (svC (spAt Y) (hungI L) (shL L Y.length)) 2 w' ad l ∧ n ≤ 1000 → Below W.heap.size W w' → SvcP Y fin K x W (.returned (.tuple #[.slice ad n cap, .int .i64 0])) w') := fun ad n cap L l w' h1 h2 => ⟨ad, n, cap, L, l, rfl, h1, h2⟩
  generalize SvcP Y fin K x W = POST at *
  clear hF hB hx ho each hl
  generalize hDD : preN (knK K) 1001 [x] = D at SW HD
  have HDD : Hid (preN (knK K) 1001 [x] = D) := hDD
  clear hDD
  obtain ⟨A, hA⟩ : ∃ A, spAt Y = A := ⟨_, rfl⟩
  have HAA : Hid (spAt Y = A) := hA
  rw [hA] at SW HD HE
  clear hA
  have hmm := @run_makeMap Tryz.prog
  go_enter Tryz.func16, Tryz.ntmps16
  go_wp2_with (first
    | (go_at_call 36; refine LA.mono ?_; clear LA; rintro e w1 ⟨rfl, hb1⟩; have HB1 : Hid (Below W.heap.size W w1) := hb1; have HM1 : Hid (∀ h, NmH (w1.alloc (.map #[] 0)) w1.heap.size A h []) := fun h => NmH.made w1 A h; have SW1 := SW.out (w1.alloc (.map #[] 0)) w1.heap.size (w1.heap.size + 1) (by simp) (hb1.alloc hb1.size _) (HM1.out (fun _ => 0)).isMap; clear hb1 SW)
    | (go_at_call 37; refine SW1.mono ?_; clear SW1; rintro e w2 ⟨rfl, ⟨a, n, c, L, B, HS⟩, hb2⟩; have HM2 : Hid (NmH w2 w1.heap.size A (hungI L) [] ∧ w1.heap.size < w2.heap.size) := ⟨(HM1.out _).upd (Upd.ofBelow (S := fun k => w1.heap.size + 1 ≤ k) hb2 (fun k h1 h2 => h2)) (by omega), Nat.lt_of_lt_of_le (by simp) hb2.size⟩; have HB2 : Hid (Below w1.heap.size w1 w2) := ((Below.refl w1.heap.size w1).alloc (Nat.le_refl _) _).trans (hb2.mono (Nat.le_succ _)); have c1 := (HS.out.2.2 w2 (Upd.refl _ _)).c1; clear hb2 HM1))
  obtain ⟨b, hbb⟩ : ∃ b, w1.heap.size = b := ⟨_, rfl⟩
  rw [hbb] at HS HM2 ⊢
  have HI0 : Hid (NvI w2 b A L D 0 w2) := ⟨HM2.out.1, Upd.refl _ _⟩
  have HBB1 : Hid (w1.heap.size = b) := hbb
  have hn1 : n ≤ 1000 := by have := HS.out.2.1; have := HD.out.1; omega
  clear c1 hbb hmm
  go_loopw [27] (fun z27 wr => ∃ k : Nat, z27 = .int .i64 k ∧ k ≤ n ∧ Hid (NvI w2 b A L D k wr)) (fun z27 _ => n - (intOf z27).toNat)
  case atStart => exact ⟨0, rfl, by omega, HI0⟩
  case round =>
    clear HI0
    obtain ⟨k, rfl, hk, HI⟩ := hrel
    by_cases hlt : k < n
    · have hkn : (k : Int) < (n : Int) := by omega
      have hkD : k < D.length := by rw [← HS.out.2.1]; exact hlt
      have hS := HS.out.2.2 wr HI.out.2
      obtain ⟨sb', ⟨n', c', e⟩, cp⟩ := hS.ptr k hkD
      simp only [Value.slice.injEq] at e
      obtain ⟨rfl, -, -⟩ := e
      have hm := List.getElem_mem hkD
      have ch : wr.cell? ⟨B D[k], 16, none⟩ = some (.int .u64 (hungI L D[k])) := hS.hung _ hm
      have cv := hS.svc _ hm
      have HTK : Hid (D.take (k + 1) = D.take k ++ [D[k]]) := (by rw [List.take_add_one, List.getElem?_eq_getElem hkD]; rfl : D.take (k + 1) = D.take k ++ [D[k]])
      have hnn := hungI_nn L D[k]
      have HHP : Hid ((0 < hungI L D[k] → (D.take (k + 1)).filter (fun y => decide (0 < hungI L y)) = (D.take k).filter (fun y => decide (0 < hungI L y)) ++ [D[k]]) ∧ (¬ 0 < hungI L D[k] → (D.take (k + 1)).filter (fun y => decide (0 < hungI L y)) = (D.take k).filter (fun y => decide (0 < hungI L y)))) := by
        refine ⟨fun h0 => ?_, fun h0 => ?_⟩
        · rw [HTK.out, List.filter_append]
          simp [h0]
        · rw [HTK.out, List.filter_append]
          simp [h0]
      have HSV := HD.out.2 _ hm
      have HZL : Hid (((D.take k).filter (fun y => decide (0 < hungI L y))).length < 1000000) := by
        have := List.length_filter_le (fun y => decide (0 < hungI L y)) (D.take k)
        rw [List.length_take] at this
        show _ < _
        omega
      have hb0 : b < wr.heap.size := Nat.lt_of_lt_of_le HM2.out.2 HI.out.2.size
      clear hS hm HTK
      by_cases h0 : 0 < hungI L D[k]
      · have HMD : Hid (NmH wr.drew b A (hungI L) ((D.take k).filter (fun y => decide (0 < hungI L y)))) := HI.out.1.upd ((Upd.refl (fun _ => False) wr).drew) (fun h => h)
        have LK := HMD.out.ask (svB (A D[k])) HSV
        obtain ⟨w9, UP9, M9, U9⟩ := HMD.out.add D[k] HZL.out HSV
        rw [strV_sv] at LK UP9
        have HI9 : Hid (NvI w2 b A L D (k + 1) w9) := ⟨by rw [HHP.out.1 h0]; exact M9, HI.out.2.trans (((Upd.refl (fun q => q = b) wr).drew).trans U9 (fun _ _ h => h)) (fun _ _ h => h)⟩
        have HSD : Hid (wr.drew.cell? ⟨B D[k], 5, none⟩ = some (.string (A D[k]).svc) ∧ wr.drew.cell? ⟨B D[k], 16, none⟩ = some (.int .u64 (hungI L D[k]))) := ⟨cv, ch⟩
        have HS9 : w9.cell? ⟨B D[k], 5, none⟩ = some (.string (A D[k]).svc) ∧ w9.cell? ⟨B D[k], 16, none⟩ = some (.int .u64 (hungI L D[k])) := by
          have h9 := HS.out.2.2 w9 HI9.out.2
          have hm := List.getElem_mem hkD
          exact ⟨h9.svc _ hm, h9.hung _ hm⟩
        have UP : Hid ((Instr.mapUpdate 128 (.map (some b)) (.string (A D[k]).svc) (.int .u64 (IntKind.u64.wrap (valS A (hungI L) ((D.take k).filter (fun y => decide (0 < hungI L y))) (svB (A D[k])) + hungI L D[k])))).run Tryz.prog wr.drew = .ok () w9 ∧ (w9.cell? ⟨B D[k], 5, none⟩ = some (.string (A D[k]).svc) ∧ w9.cell? ⟨B D[k], 16, none⟩ = some (.int .u64 (hungI L D[k]))) ∧ True) := ⟨UP9, HS9, trivial⟩
        clear HHP HI HMD M9 U9 UP9 HS9 HSV HZL
        generalize valS A (hungI L) ((D.take k).filter (fun y => decide (0 < hungI L y))) (svB (A D[k])) = vo at *
        generalize (A D[k]).svc = sv at *
        generalize hungI L D[k] = hv at *
        generalize B D[k] = by_ at *
        have d0 : decide (0 < hv) = true := decide_eq_true h0
        clear h0
        go_upto_region 9 with fail
        refine wp_region_held (S := fun U => U.cell? ⟨by_, 5, none⟩ = some (.string sv) ∧ U.cell? ⟨by_, 16, none⟩ = some (.int .u64 hv)) (by kernel_rfl) ?_
        change wpAnyH _ _ _ _ _ _ _ _ (World.drew _)
        have hS := HSD.out
        refine takeH (i := 0) (v := .map (some b)) rfl (by kernel_rfl) (by kernel_rfl) (by kernel_rfl) (fun _ _ _ h => h) (Or.inl ⟨by rfl, fun W hW => by go_simp⟩) hS ?_
        simp only [Act.put, List.setIfInBounds_toArray, List.set_cons_zero, List.set_cons_succ]
        refine takeH (i := 1) (v := .pointer (some ⟨by_, 0, none⟩)) rfl (by kernel_rfl) (by kernel_rfl) (by kernel_rfl) (fun _ _ _ h => h) (Or.inl ⟨by rfl, fun W hW => by go_simp⟩) hS ?_
        simp only [Act.put, List.setIfInBounds_toArray, List.set_cons_zero, List.set_cons_succ]
        refine takeH (i := 2) (v := .pointer (some ⟨by_, 0, none⟩)) rfl (by kernel_rfl) (by kernel_rfl) (by kernel_rfl) (fun _ _ _ h => h) (Or.inl ⟨by rfl, fun W hW => by go_simp⟩) hS ?_
        simp only [Act.put, List.setIfInBounds_toArray, List.set_cons_zero, List.set_cons_succ]
        refine takeH (i := 3) (v := .pointer (some ⟨by_, 0, none⟩)) rfl (by kernel_rfl) (by kernel_rfl) (by kernel_rfl) (fun _ _ _ h => h) (Or.inl ⟨by rfl, fun W hW => by go_simp⟩) hS ?_
        simp only [Act.put, List.setIfInBounds_toArray, List.set_cons_zero, List.set_cons_succ]
        refine takeH (i := 4) (v := .pointer (some ⟨by_, 5, none⟩)) rfl (by kernel_rfl) (by kernel_rfl) (by kernel_rfl) (fun _ _ _ h => h) (Or.inl ⟨by rfl, fun W hW => by go_simp⟩) hS ?_
        simp only [Act.put, List.setIfInBounds_toArray, List.set_cons_zero, List.set_cons_succ]
        refine takeH (i := 5) (v := .string sv) rfl (by kernel_rfl) (by kernel_rfl) (by kernel_rfl) (fun _ _ _ h => h) (Or.inl ⟨by rfl, fun W hW => by obtain ⟨s0, s1⟩ := hW; go_simp⟩) hS ?_
        simp only [Act.put, List.setIfInBounds_toArray, List.set_cons_zero, List.set_cons_succ]
        refine takeH (i := 7) (v := .pointer (some ⟨by_, 0, none⟩)) rfl (by kernel_rfl) (by kernel_rfl) (by kernel_rfl) (fun _ _ _ h => h) (Or.inl ⟨by rfl, fun W hW => by go_simp⟩) hS ?_
        simp only [Act.put, List.setIfInBounds_toArray, List.set_cons_zero, List.set_cons_succ]
        refine takeH (i := 8) (v := .pointer (some ⟨by_, 0, none⟩)) rfl (by kernel_rfl) (by kernel_rfl) (by kernel_rfl) (fun _ _ _ h => h) (Or.inl ⟨by rfl, fun W hW => by go_simp⟩) hS ?_
        simp only [Act.put, List.setIfInBounds_toArray, List.set_cons_zero, List.set_cons_succ]
        refine takeH (i := 9) (v := .pointer (some ⟨by_, 13, none⟩)) rfl (by kernel_rfl) (by kernel_rfl) (by kernel_rfl) (fun _ _ _ h => h) (Or.inl ⟨by rfl, fun W hW => by go_simp⟩) hS ?_
        simp only [Act.put, List.setIfInBounds_toArray, List.set_cons_zero, List.set_cons_succ]
        refine takeH (i := 10) (v := .pointer (some ⟨by_, 16, none⟩)) rfl (by kernel_rfl) (by kernel_rfl) (by kernel_rfl) (fun _ _ _ h => h) (Or.inl ⟨by rfl, fun W hW => by go_simp⟩) hS ?_
        simp only [Act.put, List.setIfInBounds_toArray, List.set_cons_zero, List.set_cons_succ]
        refine takeH (i := 11) (v := .int .u64 hv) rfl (by kernel_rfl) (by kernel_rfl) (by kernel_rfl) (fun _ _ _ h => h) (Or.inl ⟨by rfl, fun W hW => by obtain ⟨s0, s1⟩ := hW; go_simp⟩) hS ?_
        simp only [Act.put, List.setIfInBounds_toArray, List.set_cons_zero, List.set_cons_succ]
        refine onlyH (i := 6) rfl (by kernel_rfl) (fun K hK => ?_)
        go_simp
        refine hK _ _ ⟨hS, ?_⟩
        clear hK K
        refine takeH (i := 12) (v := .int .u64 (IntKind.u64.wrap (vo + hv))) rfl (by kernel_rfl) (by kernel_rfl) (by kernel_rfl) (fun _ _ _ h => h) (Or.inl ⟨by rfl, fun W hW => by go_simp⟩) hS ?_
        simp only [Act.put, List.setIfInBounds_toArray, List.set_cons_zero, List.set_cons_succ]
        refine onlyH (i := 13) rfl (by kernel_rfl) (fun K hK => ?_)
        have UPR := UP.out.1
        go_simp
        refine hK _ _ ⟨UP.out.2.1, ?_⟩
        clear hK K
        refine wpAnyH_done (by kernel_rfl) ?_ _
        go_wp2
        go_roundw
        case rel => exact ⟨k + 1, by go_num, by omega, HI9⟩
        case measure => (simp [intOf]; omega)
      · have HI9 : Hid (NvI w2 b A L D (k + 1) wr) := ⟨by rw [HHP.out.2 h0]; exact HI.out.1, HI.out.2⟩
        obtain ⟨hv, hhv⟩ : ∃ hv, hungI L D[k] = hv := ⟨_, rfl⟩
        rw [hhv] at ch h0 hnn
        obtain rfl : hv = 0 := by omega
        clear HHP HI h0 hhv cv
        go_wp2
        go_roundw
        case rel => exact ⟨k + 1, by go_num, by omega, HI9⟩
        case measure => (simp [intOf]; omega)
    · obtain rfl : k = n := by omega
      have hTD : D.take k = D := List.take_of_length_le (by have := HS.out.2.1; omega)
      have hzl : (D.filter (fun y => decide (0 < hungI L y))).length ≤ 1000 := by
        have := List.length_filter_le (fun y => decide (0 < hungI L y)) D
        have := HD.out.1
        omega
      have hM := HI.out.1
      rw [hTD] at hM
      have HMP : Hid (NmH wr b A (hungI L) (D.filter (fun y => decide (0 < hungI L y))) ∧ Below w1.heap.size w1 wr) := ⟨hM, HB2.out.trans (HI.out.2.below HB2.out.size (fun q hq e => by have := HBB1.out; omega))⟩
      obtain ⟨D0, ho, hh, hsz, _⟩ := hM
      have SO := sortedU_any b (Maps.size D0) D0 wr ho (by unfold maxLen; omega) (by omega)
      have HSV : Hid (∀ ss : List (List UInt8), ss.Perm (strKeys D0) → SvL A (D.filter (fun y => decide (0 < hungI L y))) (ss.mergeSort (fun x y => decide (x ≤ y)))) := fun ss hp => names_svl ho hh hp
      clear ho hh hsz HI
      go_wp2_with (first
        | (go_at_call 51; refine (keysU_any (some b) wr).mono ?_; rintro e w6 ⟨rfl, hw6⟩; subst hw6)
        | (go_at_call 50; refine SO.mono ?_; clear SO; rintro e w8 ⟨v8, ss, rfl, hp8, ho8, -, hb8⟩; obtain ⟨na, nc, rfl⟩ := owns_sliceS ho8; have HSS := HSV.out ss hp8; have HR8 : Hid (w8.ownsRow (wr.alloc (.cells #[.map (some b)] 128)).heap.size 9 1 (.slice na ss.length nc) ss.length ((ss.mergeSort (fun x y => decide (x ≤ y))).map encStr)) := ho8; have HB8 : Hid (Below wr.heap.size wr w8) := ((Below.refl wr.heap.size wr).alloc (Nat.le_refl _) _).trans (hb8.mono (by simp)); clear ho8 hb8 hp8 HSV))
      have hsl : (ss.mergeSort (fun x y => decide (x ≤ y))).length = ss.length := List.length_mergeSort ss
      obtain ⟨l, hll⟩ : ∃ l, ss.mergeSort (fun x y => decide (x ≤ y)) = l := ⟨_, rfl⟩
      rw [hll] at HSS HR8 hsl
      obtain ⟨m, hm⟩ : ∃ m, ss.length = m := ⟨_, rfl⟩
      rw [hm] at hsl HR8 ⊢
      clear hll hm
      have hm1 : m ≤ 1000 := by have := HSS.len; omega
      have HSVL : Hid (SvL A (D.filter (fun y => decide (0 < hungI L y))) l) := HSS
      have HNM : Hid (∀ V, Below w8.heap.size w8 V → NmH V b A (hungI L) (D.filter (fun y => decide (0 < hungI L y)))) := fun V hV => HMP.out.1.upd (Upd.ofBelow (S := fun _ => False) (HB8.out.trans (hV.mono HB8.out.size)) (fun k h1 h2 => by omega)) (fun h => h)
      have HBW : Hid (Below W.heap.size W w8) := (HB1.out.trans (HMP.out.2.mono HB1.out.size)).trans (HB8.out.mono (Nat.le_trans HB1.out.size HMP.out.2.size))
      have HLI : Hid (LieIn (fun s : List UInt8 => [encStr s]) 1 w8 na l) := LieIn.of_owns (f := fun s : List UInt8 => [encStr s]) (fun _ => rfl) (by rw [enc_flat]; exact HR8.out) hsl
      have HEN : Hid (∀ va vc w', w'.ownsRow w8.heap.size 61 2 (.slice va m vc) m (l.flatMap (svC A (hungI L) (D.filter (fun y => decide (0 < hungI L y))))) → Below w8.heap.size w8 w' → POST (.returned (.tuple #[.slice va m vc, .int .i64 0])) w') := fun va vc w' h1 h2 => by
        have hl := LieIn.of_owns (f := svC A (hungI L) (D.filter (fun y => decide (0 < hungI L y)))) (fun _ => rfl) h1 hsl
        have hpm : (D.filter (fun y => decide (0 < hungI L y))).Perm (shL L Y.length) := by
          have h3 := HDD.out
          obtain ⟨l', h4, h5⟩ := sorted_by fin (D.filter (fun y => decide (0 < hungI L y)))
          have h6 := h4
          rw [← h3] at h6
          have := FoB.shares HBB.out.1 HBB.out.2 HS.out.1 h6 h5
          rw [← this]
          exact h4
        rw [svC_perm hpm] at hl
        exact HE.out va m vc L l w' ⟨HS.out.1, hsl, HSVL.out.perm hpm, hl, hm1⟩ (HBW.out.trans (h2.mono HBW.out.size))
      have HJ0 : Hid (NwI w8 A (hungI L) (D.filter (fun y => decide (0 < hungI L y))) l 0 none 0 w8) := ⟨World.ownsRow_nil _ _ _ _, Below.refl _ _⟩
      have HLN : Hid (l.length = m) := hsl
      have HSM : Hid (∀ s ∈ l, s.length ≤ 1000000) := fun s hs => by
        obtain ⟨y, h1, h2⟩ := (HSS.mem s).1 hs
        rw [← h2]
        exact HD.out.2 y (List.mem_filter.1 h1).1
      clear HSS hsl HMP HB8 HR8 HB1 HB2 HM2 HS HD HBB HDD HE hTD hzl hlt hn1 HBW HSVL HBB1 HAA
      generalize D.filter (fun y => decide (0 < hungI L y)) = zs at *
      generalize hungI L = hF at *
      go_loopw [10, 55] (fun z10 z55 wq => ∃ (j : Nat) (va : Option Addr) (vc : Nat), z10 = .slice va j vc ∧ z55 = .int .i64 j ∧ j ≤ m ∧ Hid (NwI w8 A hF zs l j va vc wq)) (fun _ z55 _ => m - (intOf z55).toNat)
      case atStart => exact ⟨0, none, 0, rfl, rfl, by omega, HJ0⟩
      case round =>
        clear HJ0
        obtain ⟨j, va, vc, rfl, rfl, hj, HJ⟩ := hrel
        by_cases hjm : j < m
        · have hjn : (j : Int) < (m : Int) := by omega
          have hjl : j < l.length := by rw [HLN.out]; exact hjm
          obtain ⟨nb, e, _, hc⟩ := (HLI.out.below HJ.out.2) (fun e => by rw [e] at hjl; simp at hjl)
          subst e
          have c0 : wr.cell? ⟨nb, j, none⟩ = some (.string ⟨l[j].toArray⟩) := by
            have := hc j hjl 0 (encStr l[j]) rfl
            simpa [encStr] using this
          have LK := (HNM.out wr HJ.out.2).ask l[j] (HSM.out _ (List.getElem_mem hjl))
          unfold strV at LK
          have HNX : Hid (∀ va' vc' w', w'.ownsRow w8.heap.size 61 2 (.slice va' (j + 1) vc') (j + 1) ((l.take j).flatMap (svC A hF zs) ++ [.string ⟨l[j].toArray⟩, .int .u64 (valS A hF zs l[j])]) → Upd (fun q => (Value.slice va j vc).ownBlock = some q) wr w' → NwI w8 A hF zs l (j + 1) va' vc' w') := fun va' vc' w' ho hu => by
            refine ⟨?_, HJ.out.2.trans (hu.below HJ.out.2.size (fun k hk e => by have := (owns_lt HJ.out.1 e).1; omega))⟩
            have e : l.take (j + 1) = l.take j ++ [l[j]] := by rw [List.take_add_one, List.getElem?_eq_getElem hjl]; rfl
            rw [e, List.flatMap_append]
            have e1 : [l[j]].flatMap (svC A hF zs) = [.string ⟨l[j].toArray⟩, .int .u64 (valS A hF zs l[j])] := by rw [List.flatMap_cons, List.flatMap_nil, List.append_nil]; rfl
            rw [e1]
            exact ho
          clear hc
          generalize l[j] = s at *
          generalize valS A hF zs s = v at *
          go_wp2_with (at_builtin; (refine wpList_appV wr rfl _ _ rfl w8.heap.size (.slice va j vc) j _ ⟨s.toArray⟩ v _ rfl rfl HJ.out.1 rfl (by omega) HJ.out.2.size ?_; intro va9 vc9 w9 o9 u9); have HI9 : Hid (NwI w8 A hF zs l (j + 1) va9 vc9 w9) := HNX.out va9 vc9 w9 o9 u9; clear o9 u9 HNX)
          go_roundw
          case rel => exact ⟨j + 1, va9, vc9, rfl, by go_num, by omega, HI9⟩
          case measure => (simp [intOf]; omega)
        · obtain rfl : j = m := by omega
          have HX : Hid (POST (.returned (.tuple #[.slice va j vc, .int .i64 0])) wr) := HEN.out va vc wr (by have h := HJ.out.1; rwa [List.take_of_length_le (by rw [HLN.out]; exact Nat.le_refl _)] at h) HJ.out.2
          clear HJ HEN
          go_wp2
          exact HX.out
end Go.Proofs.YtobjjdggjgnfcaaGreatDoor

namespace Go.Proofs.YtobjjdggjgnfcaaGreatDoor
open Go Go.RowKit
set_option maxRecDepth 100000

def LstP {α : Type} (f : α → List Value) (s : Nat) (L : List α) (er : Int) (W : World) (e : Ending) (W' : World) : Prop := ∃ a c, e = .returned (.tuple #[.slice a L.length c, .int .i64 er]) ∧ Hid (LieIn f s W' a L) ∧ Below W.heap.size W W'
def shQ (p : Int × Int) : List Value := [.int .u64 p.1, .int .u64 p.2]
def svQ (p : List UInt8 × Int) : List Value := [.string ⟨p.1.toArray⟩, .int .u64 p.2]
end Go.Proofs.YtobjjdggjgnfcaaGreatDoor

namespace Go.Proofs.YtobjjdggjgnfcaaGreatDoor
open Go Go.RowKit
set_option maxRecDepth 100000

theorem calls_ex {P : Program} {f : FuncId} {args : Array Value} {w : World} {R : Ending → World → Prop} (h : Calls P f args w R) : ∃ e w', R e w' := by
  obtain ⟨e, w', _, hR, _⟩ := h []
  exact ⟨e, w', hR⟩
theorem LieIn.map {α β : Type} {f : α → List Value} {g : β → List Value} {k : α → β} {s : Nat} {W : World} {ad : Option Addr} {l : List α} (h : LieIn f s W ad l) (he : ∀ x ∈ l, f x = g (k x)) : LieIn g s W ad (l.map k) := fun hn => by
  obtain ⟨b, e, hb, hc⟩ := h (fun e => hn (by rw [e]; rfl))
  refine ⟨b, e, hb, fun i hi j v hv => ?_⟩
  have hi' : i < l.length := by simpa using hi
  refine hc i hi' j v ?_
  rw [he _ (List.getElem_mem hi')]
  simpa using hv
end Go.Proofs.YtobjjdggjgnfcaaGreatDoor
