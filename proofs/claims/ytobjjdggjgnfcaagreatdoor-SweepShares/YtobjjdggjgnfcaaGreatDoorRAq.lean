/-
  Merged: RA, RB, RC, RG, RH.
-/
import Derived.Test.YtobjjdggjgnfcaaGreatDoorPMq
import Derived.Test.YtobjjdggjgnfcaaGreatDoorPIq
import Derived.Test.YtobjjdggjgnfcaaGreatDoorFSq
import Derived.Test.YtobjjdggjgnfcaaGreatDoorVRq
import Derived.Test.YtobjjdggjgnfcaaGreatDoorZmq
import Derived.Test.YtobjjdggjgnfcaaGreatDoorFIq
import Derived.Test.YtobjjdggjgnfcaaGreatDoorWaq
import Derived.Test.YtobjjdggjgnfcaaGreatDoorFXq
import Derived.Test.YtobjjdggjgnfcaaGreatDoorOXq
import Derived.Test.YtobjjdggjgnfcaaGreatDoorOZ
import Derived.Shelf.SlSortCmp.WholeK
import Derived.Shelf.SlSortCmp.NoneTotal
import Derived.Ground.SlsfProg
import Derived.Test.YtobjjdggjgnfcaaGreatDoorSA
import Derived.StringKeys
import Derived.Shelf.SlIter.Nil
import Derived.Shelf.SortM.Plain
import Derived.Shelf.SortM.SortNone
import Derived.Ground.GgzProg
import Derived.Ground.SlgmProg
namespace Go.Proofs.YtobjjdggjgnfcaaGreatDoor
open Go Go.RowKit
set_option maxRecDepth 100000

def sumH (L : List (Nat × Int × Int)) (y : Nat) : Int := (L.map (fun l => if l.1 = y then lenI (l.2.1, l.2.2) else 0)).sum
theorem hungF (y : Nat) : ∀ (L : List (Nat × Int × Int)) (h : Int), 0 ≤ h → h < 18446744073709551616 → L.foldl (fun h l => if l.1 = y then IntKind.u64.wrap (h + lenI (l.2.1, l.2.2)) else h) h = IntKind.u64.wrap (h + sumH L y)
  | [], h, h0, h1 => by
    simp only [List.foldl_nil, sumH, List.map_nil, List.sum_nil, IntKind.wrap_u64]
    omega
  | l :: r, h, h0, h1 => by
    rw [List.foldl_cons]
    have e : sumH (l :: r) y = (if l.1 = y then lenI (l.2.1, l.2.2) else 0) + sumH r y := by simp [sumH]
    rw [e]
    by_cases hl : l.1 = y
    · rw [if_pos hl, if_pos hl, hungF y r _ (by rw [IntKind.wrap_u64]; omega) (by rw [IntKind.wrap_u64]; omega)]
      simp only [IntKind.wrap_u64]
      omega
    · rw [if_neg hl, if_neg hl, hungF y r h h0 h1, Int.zero_add]
theorem hungI_sum (L : List (Nat × Int × Int)) (y : Nat) : hungI L y = IntKind.u64.wrap (sumH L y) := by
  unfold hungI
  rw [hungF y L 0 (by omega) (by omega), Int.zero_add]
theorem sumH_app (y : Nat) : ∀ (L M : List (Nat × Int × Int)), sumH (L ++ M) y = sumH L y + sumH M y
  | [], M => by simp [sumH]
  | l :: r, M => by
    have e1 : sumH (l :: r ++ M) y = (if l.1 = y then lenI (l.2.1, l.2.2) else 0) + sumH (r ++ M) y := by simp [sumH]
    have e2 : sumH (l :: r) y = (if l.1 = y then lenI (l.2.1, l.2.2) else 0) + sumH r y := by simp [sumH]
    rw [e1, e2, sumH_app y r M, Int.add_assoc]
theorem sumH_rev (y : Nat) : ∀ (L : List (Nat × Int × Int)), sumH L.reverse y = sumH L y
  | [] => rfl
  | l :: r => by
    have e2 : sumH (l :: r) y = sumH [l] y + sumH r y := sumH_app y [l] r
    rw [List.reverse_cons, sumH_app, sumH_rev y r, e2, Int.add_comm]
theorem hungI_zero {L : List (Nat × Int × Int)} {y : Nat} (h : ∀ l ∈ L, l.1 ≠ y) : hungI L y = 0 := by
  have : sumH L y = 0 := by
    induction L with
    | nil => rfl
    | cons l r ih =>
      have e2 : sumH (l :: r) y = (if l.1 = y then lenI (l.2.1, l.2.2) else 0) + sumH r y := by simp [sumH]
      rw [e2, if_neg (h l (by simp)), ih (fun l hl => h l (by simp [hl]))]
      rfl
  rw [hungI_sum, this]
  rfl
theorem hungI_nn (L : List (Nat × Int × Int)) (y : Nat) : 0 ≤ hungI L y ∧ hungI L y < 18446744073709551616 := by
  rw [hungI_sum, IntKind.wrap_u64]
  omega
def shL (L : List (Nat × Int × Int)) (n : Nat) : List Nat := (List.range n).filter (fun y => decide (0 < hungI L y))
def shC (fin : Nat → Nod) (L : List (Nat × Int × Int)) (y : Nat) : List Value := [.int .u64 (fin y).id, .int .u64 (hungI L y)]
theorem shC_len (fin : Nat → Nod) (L : List (Nat × Int × Int)) (y : Nat) : (shC fin L y).length = 2 := rfl
theorem shL_len (L : List (Nat × Int × Int)) (n : Nat) : (shL L n).length ≤ n := by
  have := List.length_filter_le (fun y => decide (0 < hungI L y)) (List.range n)
  simpa [shL] using this
theorem shL_mem {L : List (Nat × Int × Int)} {n y : Nat} : y ∈ shL L n ↔ y < n ∧ 0 < hungI L y := by simp [shL]
theorem FoB.idRise {Y : List Sp} {C : List Int} {dp : Nat → Nat} {fin : Nat → Nod} {X : List Spot} {K : Nat → List Int} {R : List Int} (h : FoB Y C dp fin X K R) {i j : Nat} (hij : i < j) (hj : j < Y.length) : (fin i).id < (fin j).id := by
  have hl := h.fo.len
  have := h.rise i j (by omega) (by omega) hij
  rwa [(h.fo.each i (by omega) (by omega)).2, (h.fo.each j hj (by omega)).2] at this
theorem FoB.shares {Y : List Sp} {C : List Int} {dp : Nat → Nat} {fin : Nat → Nod} {X : List Spot} {K : Nat → List Int} {R : List Int} (h : FoB Y C dp fin X K R) {x : Nat} (hx : x < Y.length) {L : List (Nat × Int × Int)} (hP : PathR fin (cnK fin K) x (fin x).til L) {l' : List Nat} (hp : ((preN (knK K) 1001 [x]).filter (fun y => decide (0 < hungI L y))).Perm l') (hs : l'.Pairwise (fun a b => (fin a).id ≤ (fin b).id)) : l' = shL L Y.length := by
  have T := h.senv x hx
  have hlt : ∀ y ∈ preN (knK K) 1001 [x], y < Y.length := fun y hy => (h.tree.above 1001 [x] (by simpa using hx) y hy).1
  have hmem : ∀ y, y < Y.length → 0 < hungI L y → y ∈ preN (knK K) 1001 [x] := fun y hy h0 => by
    have : ∃ l ∈ L, l.1 = y := by
      refine Classical.byContradiction fun hn => ?_
      rw [hungI_zero (fun l hl e => hn ⟨l, hl, e⟩)] at h0
      omega
    obtain ⟨l, hl, rfl⟩ := this
    have hb := hP.bel l hl
    have down : ∀ s z, BelN (cnK fin K) s z → s ∈ preN (knK K) 1001 [x] → z ∈ preN (knK K) 1001 [x] := fun s z hb => by
      induction hb using BelN.ind with
      | here => exact fun h => h
      | down hc _ ih => exact fun hs => ih (preN_down (knK K) 1001 [x] T.dp _ hs _ (by unfold cnK at hc; exact (List.mem_filter.1 hc).1))
    exact down _ _ hb (preN_mem (knK K) 1001 [x] T.dp x (by simp))
  have hnd : ((preN (knK K) 1001 [x]).filter (fun y => decide (0 < hungI L y))).Nodup := T.nd2.filter _
  have hnd2 : (shL L Y.length).Nodup := List.nodup_range.filter _
  have hpm : l'.Perm (shL L Y.length) := by
    refine hp.symm.trans ((List.perm_ext_iff_of_nodup hnd hnd2).2 fun y => ?_)
    rw [shL_mem, List.mem_filter]
    simp only [decide_eq_true_eq]
    exact ⟨fun ⟨a, b⟩ => ⟨hlt y a, b⟩, fun ⟨a, b⟩ => ⟨hmem y a b, b⟩⟩
  have hl' : ∀ y ∈ l', y < Y.length := fun y hy => (shL_mem.1 (hpm.mem_iff.1 hy)).1
  refine List.Perm.eq_of_pairwise (le := fun a b : Nat => (fin a).id ≤ (fin b).id) (fun a b ha hb h1 h2 => h.idInj (hl' a ha) (shL_mem.1 hb).1 (by omega)) hs ?_ hpm
  rw [shL]
  refine List.Pairwise.filter _ ?_
  rw [List.pairwise_iff_getElem]
  intro i j hi hj hij
  simp at hi hj
  have := h.idRise hij hj
  simpa using Int.le_of_lt this
end Go.Proofs.YtobjjdggjgnfcaaGreatDoor

namespace Go.Proofs.YtobjjdggjgnfcaaGreatDoor
open Go Go.Shelf Go.RowKit Go.Lib Go.Sort
set_option maxRecDepth 100000

def Tryz.sortSh_ren : Go.Shelf.Ren := ⟨fun | 6 => 48 | 15 => 77 | 14 => 88 | 28 => 119 | 29 => 120 | 20 => 127 | 21 => 128 | 22 => 129 | 23 => 130 | 24 => 131 | 25 => 132 | 26 => 133 | 27 => 134 | 46 => 163 | 47 => 156 | 48 => 157 | 49 => 164 | 50 => 165 | 57 => 192 | n => n, fun | 22 => 51 | 24 => 58 | 25 => 127 | 3 => 3 | 39 => 171 | 0 => 0 | 53 => 211 | 55 => 23 | 4 => 4 | 46 => 205 | 45 => 204 | 50 => 120 | 5 => 5 | 9 => 9 | 66 => 236 | 70 => 240 | 76 => 266 | 77 => 267 | n => n, fun | n => n⟩
theorem Tryz.sortSh : Go.Proofs.SlLaysF0.n6 Tryz.prog Tryz.sortSh_ren := {
  mixed := by kernel_rfl
  f6 := ⟨Tryz.f48.name, by decide, Tryz.func48.trans (congrArg some (by kernel_rfl))⟩
  f14 := ⟨Tryz.f88.name, by decide, Tryz.func88.trans (congrArg some (by kernel_rfl))⟩
  f15 := Tryz.func77.trans (congrArg some (by kernel_rfl))
  f20 := ⟨Tryz.f127.name, by decide, Tryz.func127.trans (congrArg some (by kernel_rfl))⟩
  f21 := ⟨Tryz.f128.name, by decide, Tryz.func128.trans (congrArg some (by kernel_rfl))⟩
  f22 := ⟨Tryz.f129.name, by decide, Tryz.func129.trans (congrArg some (by kernel_rfl))⟩
  f23 := ⟨Tryz.f130.name, by decide, Tryz.func130.trans (congrArg some (by kernel_rfl))⟩
  f24 := ⟨Tryz.f131.name, by decide, Tryz.func131.trans (congrArg some (by kernel_rfl))⟩
  f25 := ⟨Tryz.f132.name, by decide, Tryz.func132.trans (congrArg some (by kernel_rfl))⟩
  f26 := ⟨Tryz.f133.name, by decide, Tryz.func133.trans (congrArg some (by kernel_rfl))⟩
  f27 := ⟨Tryz.f134.name, by decide, Tryz.func134.trans (congrArg some (by kernel_rfl))⟩
  f28 := Tryz.func119.trans (congrArg some (by kernel_rfl))
  f29 := Tryz.func120.trans (congrArg some (by kernel_rfl))
  f46 := ⟨Tryz.f163.name, by decide, Tryz.func163.trans (congrArg some (by kernel_rfl))⟩
  f47 := Tryz.func156.trans (congrArg some (by kernel_rfl))
  f48 := Tryz.func157.trans (congrArg some (by kernel_rfl))
  f49 := ⟨Tryz.f164.name, by decide, Tryz.func164.trans (congrArg some (by kernel_rfl))⟩
  f50 := ⟨Tryz.f165.name, by decide, Tryz.func165.trans (congrArg some (by kernel_rfl))⟩
  f57 := ⟨Tryz.f192.name, by decide, Tryz.func192.trans (congrArg some (by kernel_rfl))⟩
  t0 := Tryz.underlying0
  a0 := Tryz.isAgg0
  z0 := Tryz.sizeOf0
  v0 := Tryz.zeroValue0
  t3 := Tryz.underlying3
  a3 := Tryz.isAgg3
  z3 := Tryz.sizeOf3
  v3 := Tryz.zeroValue3
  t4 := Tryz.underlying4
  a4 := Tryz.isAgg4
  z4 := Tryz.sizeOf4
  v4 := Tryz.zeroValue4
  t5 := Tryz.underlying5
  a5 := Tryz.isAgg5
  z5 := Tryz.sizeOf5
  v5 := Tryz.zeroValue5
  t9 := Tryz.underlying9
  a9 := Tryz.isAgg9
  z9 := Tryz.sizeOf9
  v9 := Tryz.zeroValue9
  t22 := Tryz.underlying51
  a22 := Tryz.isAgg51
  z22 := Tryz.sizeOf51
  v22 := Tryz.zeroValue51
  t25 := Tryz.underlying127
  a25 := Tryz.isAgg127
  z25 := Tryz.sizeOf127
  v25 := Tryz.zeroValue127
  t39 := Tryz.underlying171
  a39 := Tryz.isAgg171
  z39 := Tryz.sizeOf171
  v39 := Tryz.zeroValue171
  t45 := Tryz.underlying204
  a45 := Tryz.isAgg204
  z45 := Tryz.sizeOf204
  v45 := Tryz.zeroValue204
  t46 := Tryz.underlying205
  a46 := Tryz.isAgg205
  z46 := Tryz.sizeOf205
  v46 := Tryz.zeroValue205
  t50 := Tryz.underlying120
  a50 := Tryz.isAgg120
  z50 := Tryz.sizeOf120
  v50 := Tryz.zeroValue120
  t53 := Tryz.underlying211
  a53 := Tryz.isAgg211
  z53 := Tryz.sizeOf211
  v53 := Tryz.zeroValue211
  t55 := Tryz.underlying23
  a55 := Tryz.isAgg23
  z55 := Tryz.sizeOf23
  v55 := Tryz.zeroValue23
  t66 := Tryz.underlying236
  a66 := Tryz.isAgg236
  z66 := Tryz.sizeOf236
  v66 := Tryz.zeroValue236
  t70 := Tryz.underlying240
  a70 := Tryz.isAgg240
  z70 := Tryz.sizeOf240
  v70 := Tryz.zeroValue240
  t76 := Tryz.underlying266
  a76 := Tryz.isAgg266
  z76 := Tryz.sizeOf266
  v76 := Tryz.zeroValue266
  t77 := Tryz.underlying267
  a77 := Tryz.isAgg267
  z77 := Tryz.sizeOf267
  v77 := Tryz.zeroValue267 }

def LieIn {α : Type} (f : α → List Value) (s : Nat) (W : World) (ad : Option Addr) (l : List α) : Prop := l ≠ [] → ∃ g, ad = some ⟨g, 0, none⟩ ∧ g < W.heap.size ∧ ∀ i (hi : i < l.length) j v, (f l[i])[j]? = some v → W.cell? ⟨g, i * s + j, none⟩ = some v
theorem LieIn.below {α : Type} {f : α → List Value} {s : Nat} {W W' : World} {ad : Option Addr} {l : List α} (h : LieIn f s W ad l) (hb : Below W.heap.size W W') : LieIn f s W' ad l := fun hn => by
  obtain ⟨g, e, hg, hc⟩ := h hn
  refine ⟨g, e, Nat.lt_of_lt_of_le hg hb.size, fun i hi j v hv => ?_⟩
  exact (hb.cell (p := ⟨g, i * s + j, none⟩) hg).trans (hc i hi j v hv)
theorem LieIn.of_owns {α : Type} {f : α → List Value} {s : Nat} (hf : ∀ x, (f x).length = s) {T : TypeId} {W : World} {base : Nat} {ad : Option Addr} {n c : Nat} {l : List α} (h : W.ownsRow base T s (.slice ad n c) n (l.flatMap f)) (hn : l.length = n) : LieIn f s W ad l := fun hne => by
  have h0 := List.length_pos_iff.2 hne
  obtain ⟨g, cap, e1, _, hr⟩ := RwG.of_owns h hn (by omega)
  injection e1 with e1 _ _
  exact ⟨g, e1, hr.lt, fun i hi j v hv => hr.cell hf i hi j hv⟩
theorem infoShare_parts : ∃ i, Tryz.prog.info? 58 = some i ∧ i.zero = some (.agg #[.int .u64 0, .int .u64 0]) ∧ i.size = 2 ∧ i.bytes = 16 := by
  have h : (Tryz.prog.info? 58).map (fun i => (i.zero, i.size, i.bytes)) = some (some (.agg #[.int .u64 0, .int .u64 0]), 2, 16) := by kernel_rfl
  cases hi : Tryz.prog.info? 58 with
  | none => rw [hi] at h; simp at h
  | some i => rw [hi] at h; simp at h; exact ⟨i, rfl, h.1, h.2.1, h.2.2⟩
theorem shareCmp_any (a b c d : Int) (W : World) :
    Calls Tryz.prog 49 #[.agg #[.int .u64 a, .int .u64 b], .agg #[.int .u64 c, .int .u64 d]] W fun e w' => e = .returned (.int .i64 (cmpI a c)) ∧ ∃ q os', w' = grow (W.drewN q) os' := by
  have C := fun W' => cmp_id a c W'
  generalize cmpI a c = r at C ⊢
  go_enter Tryz.func49, Tryz.ntmps49
  go_wp2_with (go_at_call 43; refine (C _).mono ?_; rintro e w' ⟨rfl, rfl⟩)
  go_ret
  exact ⟨rfl, 0, _, by rw [alloc_eq_grow, alloc_eq_grow, grow_grow]; rfl⟩
def cmpH (fin : Nat → Nod) (a b : Nat) : Int := cmpI (fin a).id (fin b).id
theorem ltH (fin : Nat → Nod) (i j : Nat) : ltOf (cmpH fin) i j = decide ((fin i).id < (fin j).id) := by
  unfold ltOf cmpH cmpI
  by_cases h1 : (fin i).id < (fin j).id
  · simp [h1]
  · by_cases h2 : (fin j).id < (fin i).id <;> simp [h1, h2]
theorem swoH (fin : Nat → Nod) : SWO (ltOf (cmpH fin)) where
  irrefl x := by rw [ltH]; simp
  trans x y z h1 h2 := by rw [ltH] at *; simp at *; omega
  ntrans x y z h1 h2 := by rw [ltH] at *; simp at *; omega
theorem sortSh_any (fin : Nat → Nod) (L : List (Nat × Int × Int)) (base : Nat) (ad : Option Addr) (n cap : Nat) (l : List Nat) (w : World) (h : w.ownsRow base 58 2 (.slice ad n cap) n (l.flatMap (shC fin L))) (hl : l.length = n) (hn : n ≤ 1000) :
    Calls Tryz.prog 48 #[.slice ad n cap, .func (.func 49) #[] #[]] w fun e w' => e = .returned (.tuple #[]) ∧ Hid (∃ l' : List Nat, l.Perm l' ∧ l'.Pairwise (fun a b => (fin a).id ≤ (fin b).id) ∧ LieIn (shC fin L) 2 w' ad l') ∧ Upd (fun k => base ≤ k) w w' := by
  by_cases h0 : n = 0
  · subst h0
    obtain rfl : l = [] := List.eq_nil_of_length_eq_zero hl
    have C := Go.Proofs.AnyF.slices_SortFunc_none Tryz.sortSh ad cap (.func (.func 49) #[] #[]) w
    change Calls Tryz.prog 48 _ _ _ at C
    refine C.mono ?_
    rintro e w' ⟨rfl, rfl⟩
    exact ⟨rfl, ⟨[], List.Perm.refl _, List.Pairwise.nil, fun hn => absurd rfl hn⟩, Upd.refl _ _⟩
  · obtain ⟨g, c', e1, hbg, hr⟩ := RwG.of_owns h hl (by omega)
    injection e1 with e1 _ e2
    subst e1 e2
    have hg := hr.lt
    have eg : ∀ args w, (callFunc 49 args).run Tryz.prog w = .ok (.enter 49 args) w := enters_of Tryz.func49 (by kernel_rfl) rfl
    have hz : l.toArray.size = n := by simp [hl]
    have hK : HoldsK (shC fin L) 2 w g 0 l.toArray := by
      intro t ht
      rw [size_flatK] at ht
      have ht' : t < l.length * 2 := by simpa using ht
      rw [get_flatK (shC fin L) 2 l.toArray t ht]
      refine ⟨?_, hr.free _⟩
      have hi : t / 2 < l.length := by omega
      have e : l.toArray[t / 2]! = l[t / 2] := by simp [hi]
      rw [e, Nat.zero_add]
      have h3 : t % 2 < (shC fin L l[t / 2]).length := by show t % 2 < 2; omega
      have := hr.cell (shC_len fin L) (t / 2) hi (t % 2) (u := (shC fin L l[t / 2])[t % 2]) (List.getElem?_eq_getElem h3)
      rw [show t / 2 * 2 + t % 2 = t by omega] at this
      rw [getElem!_pos (shC fin L l[t / 2]) (t % 2) h3]
      exact this
    have S := AnyQ.slices_SortFunc Tryz.sortSh 2 Tryz.isAgg58 Tryz.sizeOf58 (shC fin L) (fun _ => rfl) (fun x v hv => by simp [shC] at hv; rcases hv with rfl | rfl <;> rfl) (cmpH fin) (swoH fin) 49 #[] g 0 cap l.toArray w eg (fun _ _ _ _ x y => shareCmp_any _ _ _ _ _) hK hg (by rw [hz]; omega)
    rw [hz] at S
    refine S.mono ?_
    rintro e w' ⟨rfl, d', m, os, hp, hs, rfl⟩
    have hd : d'.size = l.toArray.size := by have := hp.1; simpa using this
    have hH := holdsK_sortWorldK_c (shC fin L) 2 w g 0 l.toArray d' m os hK hg hd
    refine ⟨rfl, ⟨d'.toList, ?_, ?_, fun _ => ⟨g, rfl, ?_, fun i hi j v hv => ?_⟩⟩, ?_⟩
    · obtain ⟨h1, _, h3⟩ := hp
      have e1 : l.toArray.extract 0 n = l.toArray := by rw [← hz]; simp
      have e2 : d'.extract 0 n = d' := by rw [← hz, ← hd]; simp
      rw [e1, e2] at h3
      have := h3.symm
      simpa using this
    · rw [List.pairwise_iff_getElem]
      intro i j hi hj hij
      simp at hi hj
      have := hs i j (Nat.zero_le _) hij (by omega)
      rw [ltH] at this
      have a : d'[i]! = d'[i] := by simp [hi]
      have b : d'[j]! = d'[j] := by simp [hj]
      rw [a, b] at this
      simp at this
      simpa using this
    · exact Nat.lt_of_lt_of_le hg (by unfold sortWorldK putRowK; exact (upd_put w g 0 m _ os).size)
    · have hi' : i < d'.size := by simpa using hi
      have e : d'[i]! = d'.toList[i] := by simp [hi']
      have hj : j < 2 := by
        rcases Nat.lt_or_ge j 2 with h1 | h1
        · exact h1
        · rw [List.getElem?_eq_none (by rw [shC_len]; omega)] at hv; simp at hv
      have c0 := (hH.cell hi' hj).1
      rw [e, Nat.zero_add] at c0
      rw [List.getElem?_eq_getElem (by rw [shC_len]; exact hj)] at hv
      injection hv with hv
      rw [← hv]
      have e2 : (shC fin L d'.toList[i])[j]! = (shC fin L d'.toList[i])[j]'(by rw [shC_len]; exact hj) := getElem!_pos (shC fin L d'.toList[i]) j (by rw [shC_len]; exact hj)
      rw [← e2]
      exact c0
    · have hu : Upd (fun k => k = g) w (sortWorldK (shC fin L) 2 w g 0 m d' os) := by
        unfold sortWorldK putRowK
        exact upd_put w g 0 m _ os
      exact ⟨hu.os, hu.tape, hu.output, hu.size, fun k hk hn => hu.block k hk (fun e => hn (by omega))⟩
end Go.Proofs.YtobjjdggjgnfcaaGreatDoor

namespace Go.Proofs.YtobjjdggjgnfcaaGreatDoor
open Go Go.RowKit
set_option maxRecDepth 100000

theorem src_two {P : Program} {tx e : TypeId} (hu : P.underlying tx = some (.slice e)) {W : World} {b : Nat} {x y : Value} {t : TypeId} (h : W.heap[b]? = some (.cells #[x, y] t (0, 0))) (h1 : x.oneCell' = true) (h2 : y.oneCell' = true) : Src P 2 tx (.slice (some ⟨b, 0, none⟩) 1 1) 1 [x, y] W := by
  refine Src.ofSlice _ hu ⟨b, 0, none⟩ 1 1 _ rfl ?_ ?_
  · intro j u hj
    match j, hj with
    | 0, hj => simp at hj; subst hj; simp [Addr.add, World.cell?, h]
    | 1, hj => simp at hj; subst hj; simp [Addr.add, World.cell?, h]
    | j + 2, hj => simp at hj
  · intro u hu
    simp at hu
    rcases hu with rfl | rfl <;> assumption
structure SpotsP (w5 : World) (t : Nat) (sv : Value) (A : Nat → Sp) (fin : Nat → Nod) (L : List (Nat × Int × Int)) (D : List Nat) (B : Nat → Nat) : Prop where
  c1 : w5.cell? ⟨t, 1, none⟩ = some sv
  ptr : ∀ k (hk : k < D.length), ∃ b, (∃ n c, sv = .slice (some ⟨b, 0, none⟩) n c) ∧ w5.cell? ⟨b, k, none⟩ = some (.pointer (some ⟨B D[k], 0, none⟩))
  id : ∀ y ∈ D, w5.cell? ⟨B y, 2, none⟩ = some (.int .u64 (A y).id)
  svc : ∀ y ∈ D, w5.cell? ⟨B y, 5, none⟩ = some (.string (A y).svc)
  hung : ∀ y ∈ D, w5.cell? ⟨B y, 13 + 3, none⟩ = some (.int .u64 (hungI L y))
theorem swept_spots (f sb : Nat) (X : List Spot) (K : Nat → List Int) (rvv : Value) (R : List Int) (A : Nat → Sp) (fin : Nat → Nod) (KN C : Nat → List Nat) (fuel x : Nat) (W : World) (hF : ForestAt W f sb X K rvv R) (T : SvE X K A fin KN C fuel x) :
    Calls Tryz.prog 37 #[.pointer (some ⟨f, 0, none⟩), .int .u64 (fin x).id] W fun e W' => e = .returned (.pointer (some ⟨W.heap.size, 0, none⟩)) ∧ (∃ a n c L B, Hid (PathR fin C x (fin x).til L ∧ n = (preN KN fuel [x]).length ∧ ∀ w5, Below W'.heap.size W' w5 → SpotsP w5 W.heap.size (.slice a n c) A fin L (preN KN fuel [x]) B)) ∧ Below W.heap.size W W' := by
  refine (swept_any f sb X K rvv R A fin KN C fuel x W hF T).mono ?_
  rintro e W' ⟨rfl, ⟨lv, L, h⟩, hb⟩
  refine ⟨rfl, ?_, hb⟩
  obtain ⟨B, sv, ht, ⟨p, cv, hbk, _, hxD, _⟩, hrow⟩ := h.tree
  obtain ⟨a, c, rfl⟩ := owns_sliceS hrow
  refine ⟨a, _, c, L, B, h.path, rfl, fun w5 h5 => ?_⟩
  have b5 : ∀ y ∈ preN KN fuel [x], Blk w5 (B y) (swL (A y) (p y) (fin y) (cv y) (hungI L y)) 125 := fun y hy => (hbk y hy).below h5 (hbk y hy).lt
  refine ⟨(ht.below h5 ht.lt).cell 1 rfl, fun k hk => ?_, fun y hy => (b5 y hy).cell 2 rfl, fun y hy => (b5 y hy).cell 5 rfl, fun y hy => (b5 y hy).cell 16 rfl⟩
  have hr5 : w5.ownsRow W.heap.size 94 1 (.slice a (preN KN fuel [x]).length c) (preN KN fuel [x]).length ((preN KN fuel [x]).map (pB B)) := ownsRow_upd hrow (Upd.ofBelow (S := fun _ => False) h5 (fun k h1 h2 => by omega)) (fun _ _ h => h)
  rcases hr5.2 with ⟨e, h0⟩ | ⟨g, cap, cur, e, _⟩
  · omega
  · have e' := e
    injection e' with e' _ _
    refine ⟨g, ⟨_, _, by rw [e']⟩, ?_⟩
    have := World.ownsRow.cells hr5 (g := g) (by rw [e']; rfl) k (pB B (preN KN fuel [x])[k]) (by simp [hk])
    rw [Addr.add_lit, Nat.zero_add] at this
    exact this
def ShI (W1 : World) (fin : Nat → Nod) (L : List (Nat × Int × Int)) (D : List Nat) (k ll : Nat) (va : Option Addr) (vc : Nat) (wr : World) : Prop := ((D.take k).filter (fun y => decide (0 < hungI L y))).length = ll ∧ wr.ownsRow W1.heap.size 58 2 (.slice va ll vc) ll (((D.take k).filter (fun y => decide (0 < hungI L y))).flatMap (shC fin L)) ∧ Below W1.heap.size W1 wr
set_option maxHeartbeats 4000000 in
theorem shares_any (f sb : Nat) (X : List Spot) (K : Nat → List Int) (rv : Value) (R : List Int) (Y : List Sp) (C : List Int) (dp : Nat → Nat) (fin : Nat → Nod) (W : World) (hF : ForestAt W f sb X K rv R) (hB : FoB Y C dp fin X K R) (x : Nat) (hx : x < Y.length) (ho : (fin x).org ≠ 0) :
    Calls Tryz.prog 15 #[.pointer (some ⟨f, 0, none⟩), .int .u64 (fin x).id] W fun e W' => ∃ ad n cap L, e = .returned (.tuple #[.slice ad n cap, .int .i64 0]) ∧ Hid (PathR fin (cnK fin K) x (fin x).til L ∧ (shL L Y.length).length = n ∧ LieIn (shC fin L) 2 W' ad (shL L Y.length)) ∧ Below W.heap.size W W' := by
  obtain ⟨i0, hi0, hz0, hz1, hz2⟩ := infoShare_parts
  have hl := hB.fo.len
  have each := (hB.fo.each x hx (by omega)).2
  have LA := lacksW_any f sb X K rv R W hF x (by omega) (fin x) each ho
  have SW : Hid (∀ W1, Below W.heap.size W W1 → Calls Tryz.prog 37 #[.pointer (some ⟨f, 0, none⟩), .int .u64 (fin x).id] W1 fun e W' => e = .returned (.pointer (some ⟨W1.heap.size, 0, none⟩)) ∧ (∃ a n c L B, Hid (PathR fin (cnK fin K) x (fin x).til L ∧ n = (preN (knK K) 1001 [x]).length ∧ ∀ w5, Below W'.heap.size W' w5 → SpotsP w5 W1.heap.size (.slice a n c) (spAt Y) fin L (preN (knK K) 1001 [x]) B)) ∧ Below W1.heap.size W1 W') := fun W1 hb => swept_spots f sb X K rv R (spAt Y) fin (knK K) (cnK fin K) 1001 x W1 (hF.below hb) (hB.senv x hx)
  have HBB : Hid (FoB Y C dp fin X K R ∧ x < Y.length) := ⟨hB, hx⟩
  have HD : Hid ((preN (knK K) 1001 [x]).length ≤ 1000 ∧ ∀ y ∈ preN (knK K) 1001 [x], (spAt Y y).id = (fin y).id) := ⟨(hB.senv x hx).ln, fun y hy => hB.ids y (hB.tree.above 1001 [x] (by simpa using hx) y hy).1⟩
  clear hF hB hx ho each hl
  generalize hDD : preN (knK K) 1001 [x] = D at SW HD
  have HDD : Hid (preN (knK K) 1001 [x] = D) := hDD
  clear hDD
  go_enter Tryz.func15, Tryz.ntmps15
  go_wp2_with (first
    | (go_at_call 36; refine LA.mono ?_; clear LA; rintro e w1 ⟨rfl, hb1⟩; have SW1 := SW.out w1 hb1; have HB1 : Hid (Below W.heap.size W w1) := hb1; clear hb1 SW)
    | (go_at_call 37; refine SW1.mono ?_; clear SW1; rintro e w2 ⟨rfl, ⟨a, n, c, L, B, HS⟩, hb2⟩; have HB2 : Hid (Below W.heap.size W w2) := HB1.out.trans (hb2.mono HB1.out.size); have c1 := (HS.out.2.2 w2 (Below.refl _ _)).c1; clear hb2 HB1))
  have HI0 : Hid (ShI w2 fin L D 0 0 none 0 w2) := ⟨rfl, World.ownsRow_nil _ _ _ _, Below.refl _ _⟩
  have hn1 : n ≤ 1000 := by have := HS.out.2.1; have := HD.out.1; omega
  clear c1
  go_loopw [7, 23] (fun z7 z23 wr => ∃ (k ll : Nat) (va : Option Addr) (vc : Nat), z7 = .slice va ll vc ∧ z23 = .int .i64 k ∧ k ≤ n ∧ Hid (ShI w2 fin L D k ll va vc wr)) (fun _ z23 _ => n - (intOf z23).toNat)
  case atStart => exact ⟨0, 0, none, 0, rfl, rfl, by omega, HI0⟩
  case round =>
    clear HI0
    obtain ⟨k, ll, va, vc, rfl, rfl, hk, HI⟩ := hrel
    by_cases hlt : k < n
    · have hkn : (k : Int) < (n : Int) := by omega
      have hkD : k < D.length := by rw [← HS.out.2.1]; exact hlt
      have hS := HS.out.2.2 wr HI.out.2.2
      obtain ⟨b, ⟨n', c', e⟩, cp⟩ := hS.ptr k hkD
      simp only [Value.slice.injEq] at e
      obtain ⟨rfl, -, -⟩ := e
      have hm := List.getElem_mem hkD
      have ch := hS.hung _ hm
      have ci := hS.id _ hm
      rw [HD.out.2 _ hm] at ci
      have HTK : Hid (D.take (k + 1) = D.take k ++ [D[k]]) := (by rw [List.take_add_one, List.getElem?_eq_getElem hkD]; rfl : D.take (k + 1) = D.take k ++ [D[k]])
      have hnn := hungI_nn L D[k]
      have HSH : Hid (shC fin L D[k] = [.int .u64 (fin D[k]).id, .int .u64 (hungI L D[k])]) := (rfl : shC fin L D[k] = _)
      have HHP : Hid ((0 < hungI L D[k] → (D.take (k + 1)).filter (fun y => decide (0 < hungI L y)) = (D.take k).filter (fun y => decide (0 < hungI L y)) ++ [D[k]]) ∧ (¬ 0 < hungI L D[k] → (D.take (k + 1)).filter (fun y => decide (0 < hungI L y)) = (D.take k).filter (fun y => decide (0 < hungI L y)))) := by
        refine ⟨fun h0 => ?_, fun h0 => ?_⟩
        · rw [HTK.out, List.filter_append]
          simp [h0]
        · rw [HTK.out, List.filter_append]
          simp [h0]
      have hll : ll ≤ 1000 := by
        have e := HI.out.1
        have := List.length_filter_le (fun y => decide (0 < hungI L y)) (D.take k)
        rw [List.length_take] at this
        omega
      generalize D[k] = y at *
      generalize hungI L y = h at *
      generalize (fin y).id = id at *
      clear hS hm
      by_cases h0 : 0 < h
      · have HOWN : Hid (∀ u, Below wr.heap.size wr u → u.ownsRow w2.heap.size 58 2 (.slice va ll vc) ll (((D.take k).filter (fun y => decide (0 < hungI L y))).flatMap (shC fin L))) := fun u hu => ownsRow_upd HI.out.2.1 (Upd.ofBelow (S := fun _ => False) hu (fun k h1 h2 => by omega)) (fun _ _ h => h)
        have HNX : Hid (∀ u2 u3 va' vc', Below wr.heap.size wr u2 → u2.grownBy u3 (Value.slice va ll vc).ownBlock → u3.ownsRow w2.heap.size 58 2 (.slice va' (ll + 1) vc') (ll + 1) (((D.take k).filter (fun y => decide (0 < hungI L y))).flatMap (shC fin L) ++ [.int .u64 id, .int .u64 h]) → ShI w2 fin L D (k + 1) (ll + 1) va' vc' u3) := fun u2 u3 va' vc' hu hg ho => by
          have uu : Upd (fun q => (Value.slice va ll vc).ownBlock = some q) u2 u3 := ⟨hg.os, hg.tape, hg.output, hg.size, fun k hk hn => hg.block k hk (fun e => hn e.symm)⟩
          have bu := HI.out.2.2.trans (hu.mono HI.out.2.2.size)
          refine ⟨by rw [HHP.out.1 h0, List.length_append, HI.out.1]; rfl, ?_, bu.trans (uu.below bu.size (fun k hk e => by have := (owns_lt HI.out.2.1 e).1; omega))⟩
          rw [HHP.out.1 h0, List.flatMap_append]
          have : [y].flatMap (shC fin L) = [.int .u64 id, .int .u64 h] := by rw [List.flatMap_cons, List.flatMap_nil, List.append_nil]; exact HSH.out
          rw [this]
          exact ho
        have HSZ : Hid (w2.heap.size ≤ wr.heap.size) := HI.out.2.2.size
        clear HHP HI HTK HSH
        go_upto_region 9 with fail
        go_region_law (refine step_appX _ (by rfl) _ _ 51 51 (by rfl) w2.heap.size 58 i0 (.agg #[.int .u64 0, .int .u64 0]) 2 16 Tryz.underlying51 hi0 hz0 hz1 hz2 rfl (.slice va ll vc) ll _ (by rfl) (HOWN.out _ (by repeat' first | exact Below.refl _ _ | refine Below.alloc ?_ (by first | omega | (simp; omega) | (simp; done)) _ | refine Below.drew ?_)) (.slice (some ⟨wr.heap.size, 0, none⟩) 1 1) 1 [.int .u64 id, .int .u64 h] (by rfl) (src_two Tryz.underlying51 (by first | exact heap_alloc_new _ _ | exact heap_alloc_new wr.drew _) rfl rfl) (by unfold maxLen; omega) (by omega) (by have := HSZ.out; first | (simp; omega) | omega) ?_; intro v8 w8 o8 g8 m8; obtain ⟨va9, vc9, rfl⟩ := owns_sliceS o8; have HI9 : Hid (ShI w2 fin L D (k + 1) (ll + 1) va9 vc9 w8) := HNX.out _ w8 va9 vc9 (by repeat' first | exact Below.refl _ _ | refine Below.alloc ?_ (by first | omega | (simp; omega) | (simp; done)) _ | refine Below.drew ?_) g8 o8; clear o8 g8 m8 HOWN HNX)
        all_goals
          (try simp only [Act.put, List.getElem_toArray, List.getElem_cons_succ, List.getElem_cons_zero, List.setIfInBounds_toArray, List.set_cons_zero, List.set_cons_succ])
          go_wp2
          go_roundw
          case rel => exact ⟨k + 1, ll + 1, va9, vc9, rfl, by go_num, by omega, HI9⟩
          case measure => (simp [intOf]; omega)
      · have HI9 : Hid (ShI w2 fin L D (k + 1) ll va vc wr) := ⟨by rw [HHP.out.2 h0]; exact HI.out.1, by rw [HHP.out.2 h0]; exact HI.out.2.1, HI.out.2.2⟩
        obtain rfl : h = 0 := by omega
        clear HHP HI HTK HSH h0
        go_wp2
        go_roundw
        case rel => exact ⟨k + 1, ll, va, vc, rfl, by go_num, by omega, HI9⟩
        case measure => (simp [intOf]; omega)
    · obtain rfl : k = n := by omega
      have hTD : D.take k = D := List.take_of_length_le (by have := HS.out.2.1; omega)
      have hll : ll ≤ 1000 := by
        have e := HI.out.1
        have := List.length_filter_le (fun y => decide (0 < hungI L y)) (D.take k)
        rw [List.length_take] at this
        omega
      have hown := HI.out.2.1
      have hlen := HI.out.1
      rw [hTD] at hown hlen
      have SO := sortSh_any fin L w2.heap.size va ll vc (D.filter (fun y => decide (0 < hungI L y))) wr hown hlen hll
      have HEND : Hid (∀ w', (∃ l' : List Nat, (D.filter (fun y => decide (0 < hungI L y))).Perm l' ∧ l'.Pairwise (fun a b => (fin a).id ≤ (fin b).id) ∧ LieIn (shC fin L) 2 w' va l') → Upd (fun k => w2.heap.size ≤ k) wr w' → (PathR fin (cnK fin K) x (fin x).til L ∧ (shL L Y.length).length = ll ∧ LieIn (shC fin L) 2 w' va (shL L Y.length)) ∧ Below W.heap.size W w') := fun w' ⟨l', h1, h2, h3⟩ hu => by
        have h1' := h1
        rw [← HDD.out] at h1'
        have e := FoB.shares HBB.out.1 HBB.out.2 HS.out.1 h1' h2
        subst e
        refine ⟨⟨HS.out.1, by rw [← h1.length_eq]; exact hlen, h3⟩, ?_⟩
        have b3 := HB2.out.trans (HI.out.2.2.mono HB2.out.size)
        exact b3.trans (hu.below b3.size (fun k hk e => by have := HB2.out.size; omega))
      clear hown hlen HI HDD HBB HS HD hTD
      go_wp2_with (go_at_call 48; refine SO.mono ?_; clear SO; rintro e w9 ⟨rfl, hs9, hu9⟩; have HE9 : Hid ((PathR fin (cnK fin K) x (fin x).til L ∧ (shL L Y.length).length = ll ∧ LieIn (shC fin L) 2 w9 va (shL L Y.length)) ∧ Below W.heap.size W w9) := HEND.out w9 hs9.out hu9; clear hs9 hu9 HEND)
      go_ret2
      exact ⟨va, ll, vc, L, rfl, HE9.out.1, HE9.out.2⟩
end Go.Proofs.YtobjjdggjgnfcaaGreatDoor

namespace Go.Proofs.YtobjjdggjgnfcaaGreatDoor
open Go Go.RowKit Go.Maps
set_option maxRecDepth 100000

def svB (a : Sp) : List UInt8 := a.svc.data.toList
def strV (s : List UInt8) : Value := .string ⟨s.toArray⟩
theorem strV_sv (a : Sp) : strV (svB a) = .string a.svc := by
  unfold strV svB
  simp
def sumS (A : Nat → Sp) (h : Nat → Int) (zs : List Nat) (s : List UInt8) : Int := (zs.map (fun y => if svB (A y) = s then h y else 0)).sum
def valS (A : Nat → Sp) (h : Nat → Int) (zs : List Nat) (s : List UInt8) : Int := IntKind.u64.wrap (sumS A h zs s)
theorem sumS_app (A : Nat → Sp) (h : Nat → Int) (s : List UInt8) : ∀ (zs : List Nat) (y : Nat), sumS A h (zs ++ [y]) s = sumS A h zs s + (if svB (A y) = s then h y else 0)
  | [], y => by simp [sumS]
  | z :: r, y => by
    have ih := sumS_app A h s r y
    have e1 : sumS A h (z :: r ++ [y]) s = (if svB (A z) = s then h z else 0) + sumS A h (r ++ [y]) s := by simp [sumS]
    have e2 : sumS A h (z :: r) s = (if svB (A z) = s then h z else 0) + sumS A h r s := by simp [sumS]
    rw [e1, e2, ih]
    omega
theorem valS_app (A : Nat → Sp) (h : Nat → Int) (s : List UInt8) (zs : List Nat) (y : Nat) : valS A h (zs ++ [y]) s = if svB (A y) = s then IntKind.u64.wrap (valS A h zs s + h y) else valS A h zs s := by
  unfold valS
  rw [sumS_app]
  by_cases e : svB (A y) = s
  · rw [if_pos e, if_pos e]
    simp only [IntKind.wrap_u64]
    omega
  · rw [if_neg e, if_neg e, Int.add_zero]
theorem sumS_perm {A : Nat → Sp} {h : Nat → Int} {s : List UInt8} {l m : List Nat} (hp : l.Perm m) : sumS A h l s = sumS A h m s := by
  unfold sumS
  induction hp with
  | nil => rfl
  | cons x _ ih => simp only [List.map_cons, List.sum_cons, ih]
  | swap x y l => simp only [List.map_cons, List.sum_cons]; omega
  | trans _ _ i1 i2 => rw [i1, i2]
structure SvL (A : Nat → Sp) (zs : List Nat) (l : List (List UInt8)) : Prop where
  mem : ∀ s, s ∈ l ↔ ∃ y ∈ zs, svB (A y) = s
  rise : l.Pairwise (fun a b => a < b)
theorem SvL.one {A : Nat → Sp} {zs : List Nat} {l m : List (List UInt8)} (h1 : SvL A zs l) (h2 : SvL A zs m) : l = m := by
  have nd : ∀ {l : List (List UInt8)}, l.Pairwise (fun a b => a < b) → l.Nodup := fun h => h.imp (fun hab e => by subst e; exact absurd hab (List.lt_irrefl _))
  refine List.Perm.eq_of_pairwise (le := fun a b : List UInt8 => a ≤ b) (fun a b _ _ h1 h2 => List.le_antisymm h1 h2) (h1.rise.imp (fun h => List.le_of_lt h)) (h2.rise.imp (fun h => List.le_of_lt h)) ?_
  exact (List.perm_ext_iff_of_nodup (nd h1.rise) (nd h2.rise)).2 fun s => by rw [h1.mem, h2.mem]
theorem SvL.perm {A : Nat → Sp} {zs ys : List Nat} {l : List (List UInt8)} (h : SvL A zs l) (hp : zs.Perm ys) : SvL A ys l :=
  ⟨fun s => by rw [h.mem]; exact ⟨fun ⟨y, a, b⟩ => ⟨y, hp.mem_iff.1 a, b⟩, fun ⟨y, a, b⟩ => ⟨y, hp.mem_iff.2 a, b⟩⟩, h.rise⟩
def svC (A : Nat → Sp) (h : Nat → Int) (zs : List Nat) (s : List UInt8) : List Value := [strV s, .int .u64 (valS A h zs s)]
theorem svC_perm {A : Nat → Sp} {h : Nat → Int} {zs ys : List Nat} (hp : zs.Perm ys) : svC A h zs = svC A h ys := by
  funext s
  unfold svC valS
  rw [sumS_perm hp]
theorem law_str : Keyed Tryz.prog 9 := string_keyed Tryz.underlying9
theorem key_str (s : List UInt8) (hs : s.length ≤ 1000000) : keyOf Tryz.prog 9 (strV s) = some (.string s) := by
  have h := Go.WideMaps.keyOf_string_mk (P := Tryz.prog) Tryz.underlying9 (s := ⟨s.toArray⟩) (by show s.toArray.size ≤ _; rw [List.size_toArray]; unfold maxLen; omega)
  simpa [strV] using h
theorem zero_u64 (w : World) (e : TypeId) (he : Tryz.prog.underlying 128 = some (.map 9 e)) : (zeroValue e).run Tryz.prog w = .ok (.int .u64 0) w := by
  have h : Tryz.prog.underlying 128 = some (.map 9 23) := Tryz.underlying128
  rw [h] at he
  injection he with he
  injection he with _ he
  subst he
  rfl
def NmH (w : World) (b : Nat) (A : Nat → Sp) (h : Nat → Int) (zs : List Nat) : Prop := ∃ D, ownM w 9 b D ∧ (∀ s, Maps.has D (.string s) = decide (s ∈ zs.map (fun y => svB (A y)))) ∧ Maps.size D ≤ zs.length ∧ ∀ s, D.atKey (.string s) (.held (.int .u64 0)) = .held (.int .u64 (valS A h zs s))
theorem NmH.made (w : World) (A : Nat → Sp) (h : Nat → Int) : NmH (w.alloc (.map #[] 0)) w.heap.size A h [] := ⟨.map [], World.ownsMap_made w Tryz.prog 9 valR, fun _ => rfl, Nat.le_refl _, fun _ => rfl⟩
theorem NmH.upd {S : Nat → Prop} {w w' : World} {b : Nat} {A : Nat → Sp} {h : Nat → Int} {zs : List Nat} (hm : NmH w b A h zs) (hu : Upd S w w') (hS : ¬ S b) : NmH w' b A h zs := by
  obtain ⟨D, h1, h2⟩ := hm
  exact ⟨D, h1.upd hu hS, h2⟩
theorem NmH.ask {w : World} {b : Nat} {A : Nat → Sp} {h : Nat → Int} {zs : List Nat} (hm : NmH w b A h zs) (s : List UInt8) (hs : s.length ≤ 1000000) : (Instr.lookup 128 (.map (some b)) (strV s) false).run Tryz.prog w = .ok (.int .u64 (valS A h zs s)) w := by
  obtain ⟨D, h1, h2, _, h5⟩ := hm
  obtain ⟨v, ps, hr, hv⟩ := World.ownsMap.lookup h1 law_str Tryz.underlying128 (zero_u64 w _ Tryz.underlying128) (valR_mk (.int .u64 0)) (key_str s hs)
  rw [h5 s, valR_mk] at hv
  injection hv with hv
  injection hv with hv _
  injection hv with hv
  subst hv
  exact hr
theorem NmH.add {w : World} {b : Nat} {A : Nat → Sp} {h : Nat → Int} {zs : List Nat} (hm : NmH w b A h zs) (y : Nat) (hl : zs.length < 1000000) (hs : (svB (A y)).length ≤ 1000000) : ∃ w', (Instr.mapUpdate 128 (.map (some b)) (strV (svB (A y))) (.int .u64 (IntKind.u64.wrap (valS A h zs (svB (A y)) + h y)))).run Tryz.prog w = .ok () w' ∧ NmH w' b A h (zs ++ [y]) ∧ Upd (fun k => k = b) w w' := by
  obtain ⟨D, h1, h2, h4, h5⟩ := hm
  obtain ⟨w', hr, o1, t1⟩ := World.ownsMap.store h1 law_str Tryz.underlying128 (by unfold maxLen; omega) (key_str (svB (A y)) hs) (valR_mk (.int .u64 (IntKind.u64.wrap (valS A h zs (svB (A y)) + h y))))
  refine ⟨w', hr, ⟨_, own_tight o1, fun s => ?_, ?_, fun s => ?_⟩, turned_updM t1⟩
  · by_cases hs' : s = svB (A y)
    · subst hs'
      rw [has_put_same (World.ownsMap.isMap h1) (law_str.key (key_str _ hs))]
      simp
    · rw [has_put_other (fun e => hs' (by injection e)), h2 s]
      simp [hs']
  · rw [size_put (World.ownsMap.tidy h1 law_str), List.length_append]
    simp only [List.length_singleton]
    split <;> omega
  · rw [valS_app]
    by_cases hs' : s = svB (A y)
    · subst hs'
      rw [atKey_put_same (World.ownsMap.isMap h1) (law_str.key (key_str _ hs)), if_pos rfl]
    · rw [atKey_put_other (fun e => hs' (by injection e)), h5 s, if_neg (fun e => hs' e.symm)]
end Go.Proofs.YtobjjdggjgnfcaaGreatDoor

namespace Go.Proofs.YtobjjdggjgnfcaaGreatDoor
open Go Go.RowKit Go.Maps Go.Sort Go.Shelf
set_option maxRecDepth 100000

def Tryz.keysU_ren : Go.Shelf.Ren := ⟨fun | 7 => 51 | 10 => 91 | n => n, fun | 23 => 128 | 26 => 9 | 3 => 23 | 28 => 132 | 0 => 0 | 27 => 131 | 33 => 183 | 4 => 4 | n => n, fun | n => n⟩
theorem Tryz.keysU : Go.Proofs.SlLaysZ.n7 Tryz.prog Tryz.keysU_ren := {
  mixed := by kernel_rfl
  f7 := ⟨Tryz.f51.name, by decide, Tryz.func51.trans (congrArg some (by kernel_rfl))⟩
  f10 := ⟨Tryz.f91.name, by decide, Tryz.func91.trans (congrArg some (by kernel_rfl))⟩
  t0 := Tryz.underlying0
  a0 := Tryz.isAgg0
  z0 := Tryz.sizeOf0
  v0 := Tryz.zeroValue0
  t4 := Tryz.underlying4
  a4 := Tryz.isAgg4
  z4 := Tryz.sizeOf4
  v4 := Tryz.zeroValue4
  t23 := Tryz.underlying128
  a23 := Tryz.isAgg128
  z23 := Tryz.sizeOf128
  v23 := Tryz.zeroValue128
  t26 := Tryz.underlying9
  a26 := Tryz.isAgg9
  z26 := Tryz.sizeOf9
  v26 := Tryz.zeroValue9
  t27 := Tryz.underlying131
  a27 := Tryz.isAgg131
  z27 := Tryz.sizeOf131
  v27 := Tryz.zeroValue131
  t28 := Tryz.underlying132
  a28 := Tryz.isAgg132
  z28 := Tryz.sizeOf132
  v28 := Tryz.zeroValue132
  t33 := Tryz.underlying183
  a33 := Tryz.isAgg183
  z33 := Tryz.sizeOf183
  v33 := Tryz.zeroValue183 }
def Tryz.sortedU_ren : Go.Shelf.Ren := ⟨fun | 6 => 50 | 8 => 89 | 9 => 90 | 11 => 135 | 13 => 77 | 12 => 136 | 23 => 119 | 24 => 120 | 14 => 166 | 15 => 167 | 16 => 168 | 17 => 169 | 18 => 170 | 19 => 171 | 20 => 172 | 21 => 173 | 22 => 174 | 25 => 193 | 26 => 156 | 27 => 157 | 28 => 194 | 29 => 195 | 30 => 196 | 31 => 202 | n => n, fun | 26 => 9 | 28 => 132 | 24 => 129 | 0 => 0 | 3 => 3 | 37 => 171 | 48 => 211 | 50 => 23 | 4 => 4 | 40 => 205 | 39 => 204 | 45 => 120 | 5 => 5 | 9 => 9 | 51 => 236 | 55 => 240 | 57 => 266 | 58 => 267 | 33 => 183 | n => n, fun | n => n⟩
theorem Tryz.sortedU : Go.Proofs.SlLaysZ.n6 Tryz.prog Tryz.sortedU_ren := {
  mixed := by kernel_rfl
  f6 := ⟨Tryz.f50.name, by decide, Tryz.func50.trans (congrArg some (by kernel_rfl))⟩
  f8 := ⟨Tryz.f89.name, by decide, Tryz.func89.trans (congrArg some (by kernel_rfl))⟩
  f11 := ⟨Tryz.f135.name, by decide, Tryz.func135.trans (congrArg some (by kernel_rfl))⟩
  t0 := Tryz.underlying0
  a0 := Tryz.isAgg0
  z0 := Tryz.sizeOf0
  v0 := Tryz.zeroValue0
  t24 := Tryz.underlying129
  a24 := Tryz.isAgg129
  z24 := Tryz.sizeOf129
  v24 := Tryz.zeroValue129
  t26 := Tryz.underlying9
  a26 := Tryz.isAgg9
  z26 := Tryz.sizeOf9
  v26 := Tryz.zeroValue9
  t28 := Tryz.underlying132
  a28 := Tryz.isAgg132
  z28 := Tryz.sizeOf132
  v28 := Tryz.zeroValue132
  i26 := by kernel_rfl }
def Tryz.sortU_ren : Go.Shelf.Ren := ⟨fun | 6 => 90 | 8 => 77 | 9 => 136 | 19 => 119 | 20 => 120 | 21 => 166 | 22 => 167 | 23 => 168 | 24 => 169 | 25 => 170 | 26 => 171 | 27 => 172 | 28 => 173 | 29 => 174 | 36 => 193 | 31 => 156 | 32 => 157 | 37 => 194 | 38 => 195 | 39 => 196 | 41 => 202 | n => n, fun | 27 => 129 | 29 => 9 | 3 => 3 | 32 => 171 | 26 => 129 | 0 => 0 | 44 => 211 | 46 => 23 | 4 => 4 | 36 => 205 | 35 => 204 | 41 => 120 | 5 => 5 | 9 => 9 | 53 => 236 | 57 => 240 | 63 => 266 | 64 => 267 | n => n, fun | n => n⟩
theorem Tryz.sortU : Go.Proofs.SlLaysM.n6 Tryz.prog Tryz.sortU_ren := {
  mixed := by kernel_rfl
  f6 := ⟨Tryz.f90.name, by decide, Tryz.func90.trans (congrArg some (by kernel_rfl))⟩
  f8 := Tryz.func77.trans (congrArg some (by kernel_rfl))
  f9 := ⟨Tryz.f136.name, by decide, Tryz.func136.trans (congrArg some (by kernel_rfl))⟩
  f19 := Tryz.func119.trans (congrArg some (by kernel_rfl))
  f20 := Tryz.func120.trans (congrArg some (by kernel_rfl))
  f21 := ⟨Tryz.f166.name, by decide, Tryz.func166.trans (congrArg some (by kernel_rfl))⟩
  f22 := ⟨Tryz.f167.name, by decide, Tryz.func167.trans (congrArg some (by kernel_rfl))⟩
  f23 := ⟨Tryz.f168.name, by decide, Tryz.func168.trans (congrArg some (by kernel_rfl))⟩
  f24 := ⟨Tryz.f169.name, by decide, Tryz.func169.trans (congrArg some (by kernel_rfl))⟩
  f25 := ⟨Tryz.f170.name, by decide, Tryz.func170.trans (congrArg some (by kernel_rfl))⟩
  f26 := ⟨Tryz.f171.name, by decide, Tryz.func171.trans (congrArg some (by kernel_rfl))⟩
  f27 := ⟨Tryz.f172.name, by decide, Tryz.func172.trans (congrArg some (by kernel_rfl))⟩
  f28 := ⟨Tryz.f173.name, by decide, Tryz.func173.trans (congrArg some (by kernel_rfl))⟩
  f29 := ⟨Tryz.f174.name, by decide, Tryz.func174.trans (congrArg some (by kernel_rfl))⟩
  f31 := Tryz.func156.trans (congrArg some (by kernel_rfl))
  f32 := Tryz.func157.trans (congrArg some (by kernel_rfl))
  f36 := ⟨Tryz.f193.name, by decide, Tryz.func193.trans (congrArg some (by kernel_rfl))⟩
  f37 := ⟨Tryz.f194.name, by decide, Tryz.func194.trans (congrArg some (by kernel_rfl))⟩
  f38 := ⟨Tryz.f195.name, by decide, Tryz.func195.trans (congrArg some (by kernel_rfl))⟩
  f39 := ⟨Tryz.f196.name, by decide, Tryz.func196.trans (congrArg some (by kernel_rfl))⟩
  f41 := ⟨Tryz.f202.name, by decide, Tryz.func202.trans (congrArg some (by kernel_rfl))⟩
  t0 := Tryz.underlying0
  a0 := Tryz.isAgg0
  z0 := Tryz.sizeOf0
  v0 := Tryz.zeroValue0
  t3 := Tryz.underlying3
  a3 := Tryz.isAgg3
  z3 := Tryz.sizeOf3
  v3 := Tryz.zeroValue3
  t4 := Tryz.underlying4
  a4 := Tryz.isAgg4
  z4 := Tryz.sizeOf4
  v4 := Tryz.zeroValue4
  t5 := Tryz.underlying5
  a5 := Tryz.isAgg5
  z5 := Tryz.sizeOf5
  v5 := Tryz.zeroValue5
  t9 := Tryz.underlying9
  a9 := Tryz.isAgg9
  z9 := Tryz.sizeOf9
  v9 := Tryz.zeroValue9
  t26 := Tryz.underlying129
  a26 := Tryz.isAgg129
  z26 := Tryz.sizeOf129
  v26 := Tryz.zeroValue129
  t27 := Tryz.underlying129
  a27 := Tryz.isAgg129
  z27 := Tryz.sizeOf129
  v27 := Tryz.zeroValue129
  t29 := Tryz.underlying9
  a29 := Tryz.isAgg9
  z29 := Tryz.sizeOf9
  v29 := Tryz.zeroValue9
  t32 := Tryz.underlying171
  a32 := Tryz.isAgg171
  z32 := Tryz.sizeOf171
  v32 := Tryz.zeroValue171
  t35 := Tryz.underlying204
  a35 := Tryz.isAgg204
  z35 := Tryz.sizeOf204
  v35 := Tryz.zeroValue204
  t36 := Tryz.underlying205
  a36 := Tryz.isAgg205
  z36 := Tryz.sizeOf205
  v36 := Tryz.zeroValue205
  t41 := Tryz.underlying120
  a41 := Tryz.isAgg120
  z41 := Tryz.sizeOf120
  v41 := Tryz.zeroValue120
  t44 := Tryz.underlying211
  a44 := Tryz.isAgg211
  z44 := Tryz.sizeOf211
  v44 := Tryz.zeroValue211
  t46 := Tryz.underlying23
  a46 := Tryz.isAgg23
  z46 := Tryz.sizeOf23
  v46 := Tryz.zeroValue23
  t53 := Tryz.underlying236
  a53 := Tryz.isAgg236
  z53 := Tryz.sizeOf236
  v53 := Tryz.zeroValue236
  t57 := Tryz.underlying240
  a57 := Tryz.isAgg240
  z57 := Tryz.sizeOf240
  v57 := Tryz.zeroValue240
  t63 := Tryz.underlying266
  a63 := Tryz.isAgg266
  z63 := Tryz.sizeOf266
  v63 := Tryz.zeroValue266
  t64 := Tryz.underlying267
  a64 := Tryz.isAgg267
  z64 := Tryz.sizeOf267
  v64 := Tryz.zeroValue267 }

theorem sortsU (m : Nat) : AnyZ.SortsIn Tryz.prog Tryz.sortedU_ren Fence.wide m :=
  ⟨fun blk off cap ss W hH hblk hsz => callsIn_wide.2 (AnyM.slices_Sort_string Tryz.sortU blk off cap ss W hH hblk hsz),
   fun p cap W => callsIn_wide.2 (AnyM.slices_Sort_string_none Tryz.sortU p cap W)⟩
theorem keysU_any (mb : Option Nat) (W : World) : Calls Tryz.prog 51 #[.map mb] W fun e w' => e = .returned (.func (.func 91) #[] #[.pointer (some ⟨W.heap.size, 0, none⟩)]) ∧ w' = W.alloc (.cells #[.map mb] 128) :=
  (callsIn_wide (n := 5)).1 (AnyZ.keys_in Tryz.keysU Fence.wide 5 trivial rfl mb W)
set_option maxHeartbeats 1000000 in
theorem sortedU_any (b nn : Nat) (D0 : DataW Value) (w : World) (hown : w.ownsMap Tryz.prog 9 valR b nn D0) (hmax : Maps.size D0 ≤ maxLen) (hbytes : Maps.size D0 * 16 ≤ 140737488355328) :
    Calls Tryz.prog 50 #[.func (.func 91) #[] #[.pointer (some ⟨w.heap.size, 0, none⟩)]] (w.alloc (.cells #[.map (some b)] 128)) fun e w' => ∃ (v : Value) (ss : List (List UInt8)), e = .returned v ∧ ss.Perm (strKeys D0) ∧
      w'.ownsRow (w.alloc (.cells #[.map (some b)] 128)).heap.size 9 1 v ss.length ((ss.mergeSort (fun x y => decide (x ≤ y))).map encStr) ∧ (v = .slice none 0 0 ↔ ss = []) ∧ Below (w.alloc (.cells #[.map (some b)] 128)).heap.size (w.alloc (.cells #[.map (some b)] 128)) w' := by
  have hbl := hown.lt
  have hseq : SeqGives Fence.wide 2 Tryz.prog 91 #[.pointer (some ⟨w.heap.size, 0, none⟩)] encStr (fun ss => ss.Perm (strKeys D0)) (Maps.size D0) (w.alloc (.cells #[.map (some b)] 128)) :=
    AnyZ.keys_gives (ρ := Tryz.keysU_ren) { Tryz.keysU with } Fence.wide _ trivial rfl (by omega) w.heap.size b nn D0 _ (by simp) (by simp) (by
      obtain ⟨es, clock, hb, Ft, hs, hD⟩ := hown
      exact ⟨es, clock, (Below.heap_alloc _ _ b hbl).trans hb, Ft, hs, hD⟩)
  exact (callsIn_wide (n := 5)).1 (AnyZ.sorted_in Tryz.sortedU Fence.wide 5 trivial trivial trivial trivial rfl (by omega) (sortsU _) (enters_of Tryz.func90 (by kernel_rfl) rfl) 91 #[.pointer (some ⟨w.heap.size, 0, none⟩)] trivial (enters_of Tryz.func91 (by kernel_rfl) rfl) _ _ hmax hbytes _ hseq)
theorem nub_any : ∀ m : List (List UInt8), ∃ l : List (List UInt8), l.Nodup ∧ ∀ x, x ∈ l ↔ x ∈ m
  | [] => ⟨[], List.nodup_nil, fun _ => Iff.rfl⟩
  | a :: r => by
    obtain ⟨l, h1, h2⟩ := nub_any r
    by_cases ha : a ∈ r
    · exact ⟨l, h1, fun x => by rw [h2, List.mem_cons]; exact ⟨Or.inr, fun h => h.elim (fun e => by rw [e]; exact ha) id⟩⟩
    · exact ⟨a :: l, List.nodup_cons.2 ⟨fun h => ha ((h2 a).1 h), h1⟩, fun x => by rw [List.mem_cons, List.mem_cons, h2]⟩
theorem names_svl {w : World} {b nn : Nat} {D : DataW Value} {A : Nat → Sp} {zs : List Nat} (h1 : w.ownsMap Tryz.prog 9 valR b nn D) (h2 : ∀ s, Maps.has D (.string s) = decide (s ∈ zs.map (fun y => svB (A y)))) {ss : List (List UInt8)} (hp : ss.Perm (strKeys D)) : SvL A zs (ss.mergeSort (fun x y => decide (x ≤ y))) := by
  obtain ⟨l, l1, l2⟩ := nub_any (zs.map (fun y => svB (A y)))
  have hc : Collected D (fun _ => false) l := ⟨l1, fun x => by rw [l2, h2]; simp⟩
  have hpl : ss.Perm l := hp.trans (hc.perm h1 law_str Tryz.underlying9 (fun _ => rfl)).symm
  have hm := List.mergeSort_perm ss (fun x y => decide (x ≤ y))
  have tr : ∀ a b c : List UInt8, decide (a ≤ b) = true → decide (b ≤ c) = true → decide (a ≤ c) = true := fun a b c h1 h2 => by simp only [decide_eq_true_eq] at *; exact List.le_trans h1 h2
  have to' : ∀ a b : List UInt8, (decide (a ≤ b) || decide (b ≤ a)) = true := fun a b => by simp only [Bool.or_eq_true, decide_eq_true_eq]; exact List.le_total a b
  have hs := List.pairwise_mergeSort tr to' ss
  have hnd : (ss.mergeSort (fun x y => decide (x ≤ y))).Nodup := (hm.trans hpl).nodup_iff.2 l1
  refine ⟨fun s => ?_, ?_⟩
  · rw [(hm.trans hpl).mem_iff, l2, List.mem_map]
  · refine (hs.and hnd).imp (fun {a b} h => ?_)
    have h1 := h.1
    simp only [decide_eq_true_eq] at h1
    rcases List.le_iff_lt_or_eq.1 h1 with h3 | h3
    · exact h3
    · exact absurd h3 h.2
end Go.Proofs.YtobjjdggjgnfcaaGreatDoor
