/-
  Merged: RA, KC, RB, RC, RG, RH, RI, RL, RP.
-/
import Derived.Test.YtnffedmcblbkoaaGreatDoorPCq
import Derived.Test.YtnffedmcblbkoaaGreatDoorTQq
import Derived.Test.YtnffedmcblbkoaaGreatDoorFSq
import Derived.Test.YtnffedmcblbkoaaGreatDoorWaq
import Derived.Test.YtnffedmcblbkoaaGreatDoorFXq
import Derived.Test.YtnffedmcblbkoaaGreatDoorOXq
import Derived.Test.YtnffedmcblbkoaaGreatDoorOZ
import Derived.Shelf.SlSortCmp.WholeK
import Derived.Shelf.SlSortCmp.NoneTotal
import Derived.Ground.SlsfProg
import Derived.Test.YtnffedmcblbkoaaGreatDoorSA
import Derived.StringKeys
import Derived.Shelf.SlIter.Nil
import Derived.Shelf.SortM.Plain
import Derived.Shelf.SortM.SortNone
import Derived.Ground.GgzProg
import Derived.Ground.SlgmProg
import Derived.Test.YtnffedmcblbkoaaGreatDoorTJq
import Derived.Test.YtnffedmcblbkoaaGreatDoorFKq
import Derived.Test.YtnffedmcblbkoaaGreatDoorQAq
import Derived.Sort.Walk0
import Derived.Deep.Cut
import Derived.Deep.RegionHeld3
import Derived.OrdersHeld
namespace Go.Proofs.YtnffedmcblbkoaaGreatDoor
open Go Go.RowKit
set_option maxRecDepth 100000
def sumH (L : List (Nat × Int × Int)) (y : Nat) : Int := (L.map (fun l => if l.1 = y then lenI (l.2.1, l.2.2) else 0)).sum
theorem FoB.top {Y : List Sp} {C : List Int} {dp : Nat → Nat} {fin : Nat → Nod} {X : List Spot} {K : Nat → List Int} {R : List Int} (h : FoB Y C dp fin X K R) : ∀ (d i : Nat), dp i = d → i < Y.length → ∃ x : Nat, (x : Int) ∈ R ∧ x < Y.length ∧ (fin x).org ≠ 0 ∧ (fin x).tree = (fin x).id ∧ (fin i).tree = (fin x).id := by
 intro d
 induction d using Nat.strongRecOn with
 | ind d ih =>
  intro i hd hi
  rcases nmC_range Y C i hi with hn | ⟨j, hj, hn⟩
  ·have hm : (i : Int) ∈ R := h.fo.roots.1.mem_iff.1 (kidsF_iff.2 ⟨i, rfl, hi, hn⟩)
   obtain ⟨x, e, hx, h1, h2⟩ := h.root _ hm
   have : i = x := by omega
   subst this
   exact ⟨i, hm, hx, h1, h2, h2⟩
  ·have hc : i ∈ knK K j := (h.mem j hj i).2 ⟨hi, hn⟩
   have e := h.tree.hdp j hj i hc
   obtain ⟨x, a1, a2, a3, a4, a5⟩ := ih (dp j) (by omega) j rfl hj
   exact ⟨x, a1, a2, a3, a4, by rw [(h.kid j hj i hc).2.2]; exact a5⟩
theorem FoB.u64 {Y : List Sp} {C : List Int} {dp : Nat → Nat} {fin : Nat → Nod} {X : List Spot} {K : Nat → List Int} {R : List Int} (h : FoB Y C dp fin X K R) (i : Nat) (hi : i < Y.length) : u64J (fin i).id ∧ u64J (fin i).tree := by
 have h1 : ∀ x, x < Y.length → u64J (fin x).id := fun x hx => by
  rw [← h.ids x hx]
  unfold spAt
  rw [List.getD_eq_getElem?_getD, List.getElem?_eq_getElem hx]
  exact (h.one.fits _ (List.getElem_mem hx)).id
 obtain ⟨x, _, hx, _, _, e⟩ := h.top (dp i) i rfl hi
 exact ⟨h1 i hi, by rw [e]; exact h1 x hx⟩
end Go.Proofs.YtnffedmcblbkoaaGreatDoor
namespace Go.Proofs.YtnffedmcblbkoaaGreatDoor
open Go Go.Shelf Go.RowKit Go.Lib Go.Sort
set_option maxRecDepth 100000
def LieIn {α : Type} (f : α → List Value) (s : Nat) (W : World) (ad : Option Addr) (l : List α) : Prop := l ≠ [] → ∃ g, ad = some ⟨g, 0, none⟩ ∧ g < W.heap.size ∧ ∀ i (hi : i < l.length) j v, (f l[i])[j]? = some v → W.cell? ⟨g, i * s + j, none⟩ = some v
theorem LieIn.below {α : Type} {f : α → List Value} {s : Nat} {W W' : World} {ad : Option Addr} {l : List α} (h : LieIn f s W ad l) (hb : Below W.heap.size W W') : LieIn f s W' ad l := fun hn => by
 obtain ⟨g, e, hg, hc⟩ := h hn
 refine ⟨g, e, Nat.lt_of_lt_of_le hg hb.size, fun i hi j v hv => ?_⟩
 exact (hb.cell (p := ⟨g, i * s + j, none⟩) hg).trans (hc i hi j v hv)
theorem LieIn.of_owns {α : Type} {f : α → List Value} {s : Nat} (hf : ∀ x, (f x).length = s) {T : TypeId} {W : World} {base : Nat} {ad : Option Addr} {n c : Nat} {l : List α} (h : W.ownsRow base T s (.slice ad n c) n (l.flatMap f)) (hn : l.length = n) : LieIn f s W ad l := fun hne => by
 have h0 := List.length_pos_iff.2 hne
 obtain ⟨g, cap, e1, _, hr⟩ := RwG.of_owns h hn (by omega)
 injection e1 with e1 _ _
 exact ⟨g, e1, hr.lt, fun i hi j v hv => hr.cell hf i hi j hv⟩
end Go.Proofs.YtnffedmcblbkoaaGreatDoor
namespace Go.Proofs.YtnffedmcblbkoaaGreatDoor
open Go Go.RowKit
set_option maxRecDepth 100000
theorem src_two {P : Program} {tx e : TypeId} (hu : P.underlying tx = some (.slice e)) {W : World} {b : Nat} {x y : Value} {t : TypeId} (h : W.heap[b]? = some (.cells #[x, y] t (0, 0))) (h1 : x.oneCell' = true) (h2 : y.oneCell' = true) : Src P 2 tx (.slice (some ⟨b, 0, none⟩) 1 1) 1 [x, y] W := by
 refine Src.ofSlice _ hu ⟨b, 0, none⟩ 1 1 _ rfl ?_ ?_
 ·intro j u hj
  match j, hj with
  | 0, hj => simp at hj; subst hj; simp [Addr.add, World.cell?, h]
  | 1, hj => simp at hj; subst hj; simp [Addr.add, World.cell?, h]
  | j + 2, hj => simp at hj
 ·intro u hu
  simp at hu
  rcases hu with rfl | rfl <;> assumption
end Go.Proofs.YtnffedmcblbkoaaGreatDoor
namespace Go.Proofs.YtnffedmcblbkoaaGreatDoor
open Go Go.RowKit Go.Maps
set_option maxRecDepth 100000
def svB (a : Sp) : List UInt8 := a.svc.data.toList
def strV (s : List UInt8) : Value := .string ⟨s.toArray⟩
theorem strV_sv (a : Sp) : strV (svB a) = .string a.svc := by
 unfold strV svB
 simp
def sumS (A : Nat → Sp) (h : Nat → Int) (zs : List Nat) (s : List UInt8) : Int := (zs.map (fun y => if svB (A y) = s then h y else 0)).sum
def valS (A : Nat → Sp) (h : Nat → Int) (zs : List Nat) (s : List UInt8) : Int := IntKind.u64.wrap (sumS A h zs s)
theorem sumS_app (A : Nat → Sp) (h : Nat → Int) (s : List UInt8) : ∀ (zs : List Nat) (y : Nat), sumS A h (zs ++ [y]) s = sumS A h zs s + (if svB (A y) = s then h y else 0)
 | [], y => by simp [sumS]
 | z :: r, y => by
  have ih := sumS_app A h s r y
  have e1 : sumS A h (z :: r ++ [y]) s = (if svB (A z) = s then h z else 0) + sumS A h (r ++ [y]) s := by simp [sumS]
  have e2 : sumS A h (z :: r) s = (if svB (A z) = s then h z else 0) + sumS A h r s := by simp [sumS]
  rw [e1, e2, ih]
  omega
theorem valS_app (A : Nat → Sp) (h : Nat → Int) (s : List UInt8) (zs : List Nat) (y : Nat) : valS A h (zs ++ [y]) s = if svB (A y) = s then IntKind.u64.wrap (valS A h zs s + h y) else valS A h zs s := by
 unfold valS
 rw [sumS_app]
 by_cases e : svB (A y) = s
 ·rw [if_pos e, if_pos e]
  simp only [IntKind.wrap_u64]
  omega
 ·rw [if_neg e, if_neg e, Int.add_zero]
structure SvL (A : Nat → Sp) (zs : List Nat) (l : List (List UInt8)) : Prop where
 mem : ∀ s, s ∈ l ↔ ∃ y ∈ zs, svB (A y) = s
 rise : l.Pairwise (fun a b => a < b)
def svC (A : Nat → Sp) (h : Nat → Int) (zs : List Nat) (s : List UInt8) : List Value := [strV s, .int .u64 (valS A h zs s)]
theorem law_str : Keyed Tryz.prog 9 := string_keyed Tryz.underlying9
theorem key_str (s : List UInt8) (hs : s.length ≤ 1000000) : keyOf Tryz.prog 9 (strV s) = some (.string s) := by
 have h := Go.WideMaps.keyOf_string_mk (P := Tryz.prog) Tryz.underlying9 (s := ⟨s.toArray⟩) (by show s.toArray.size ≤ _; rw [List.size_toArray]; unfold maxLen; omega)
 simpa [strV] using h
theorem zero_u64 (w : World) (e : TypeId) (he : Tryz.prog.underlying 109 = some (.map 9 e)) : (zeroValue e).run Tryz.prog w = .ok (.int .u64 0) w := by
 have h : Tryz.prog.underlying 109 = some (.map 9 32) := Tryz.underlying109
 rw [h] at he
 injection he with he
 injection he with _ he
 subst he
 rfl
def NmH (w : World) (b : Nat) (A : Nat → Sp) (h : Nat → Int) (zs : List Nat) : Prop := ∃ D, ownM w 9 b D ∧ (∀ s, Maps.has D (.string s) = decide (s ∈ zs.map (fun y => svB (A y)))) ∧ Maps.size D ≤ zs.length ∧ ∀ s, D.atKey (.string s) (.held (.int .u64 0)) = .held (.int .u64 (valS A h zs s))
theorem NmH.made (w : World) (A : Nat → Sp) (h : Nat → Int) : NmH (w.alloc (.map #[] 0)) w.heap.size A h [] := ⟨.map [], World.ownsMap_made w Tryz.prog 9 valR, fun _ => rfl, Nat.le_refl _, fun _ => rfl⟩
theorem NmH.upd {S : Nat → Prop} {w w' : World} {b : Nat} {A : Nat → Sp} {h : Nat → Int} {zs : List Nat} (hm : NmH w b A h zs) (hu : Upd S w w') (hS : ¬ S b) : NmH w' b A h zs := by
 obtain ⟨D, h1, h2⟩ := hm
 exact ⟨D, h1.upd hu hS, h2⟩
theorem NmH.ask {w : World} {b : Nat} {A : Nat → Sp} {h : Nat → Int} {zs : List Nat} (hm : NmH w b A h zs) (s : List UInt8) (hs : s.length ≤ 1000000) : (Instr.lookup 109 (.map (some b)) (strV s) false).run Tryz.prog w = .ok (.int .u64 (valS A h zs s)) w := by
 obtain ⟨D, h1, h2, _, h5⟩ := hm
 obtain ⟨v, ps, hr, hv⟩ := World.ownsMap.lookup h1 law_str Tryz.underlying109 (zero_u64 w _ Tryz.underlying109) (valR_mk (.int .u64 0)) (key_str s hs)
 rw [h5 s, valR_mk] at hv
 injection hv with hv
 injection hv with hv _
 injection hv with hv
 subst hv
 exact hr
theorem NmH.add {w : World} {b : Nat} {A : Nat → Sp} {h : Nat → Int} {zs : List Nat} (hm : NmH w b A h zs) (y : Nat) (hl : zs.length < 1000000) (hs : (svB (A y)).length ≤ 1000000) : ∃ w', (Instr.mapUpdate 109 (.map (some b)) (strV (svB (A y))) (.int .u64 (IntKind.u64.wrap (valS A h zs (svB (A y)) + h y)))).run Tryz.prog w = .ok () w' ∧ NmH w' b A h (zs ++ [y]) ∧ Upd (fun k => k = b) w w' := by
 obtain ⟨D, h1, h2, h4, h5⟩ := hm
 obtain ⟨w', hr, o1, t1⟩ := World.ownsMap.store h1 law_str Tryz.underlying109 (by unfold maxLen; omega) (key_str (svB (A y)) hs) (valR_mk (.int .u64 (IntKind.u64.wrap (valS A h zs (svB (A y)) + h y))))
 refine ⟨w', hr, ⟨_, own_tight o1, fun s => ?_, ?_, fun s => ?_⟩, turned_updM t1⟩
 ·by_cases hs' : s = svB (A y)
  ·subst hs'
   rw [has_put_same (World.ownsMap.isMap h1) (law_str.key (key_str _ hs))]
   simp
  ·rw [has_put_other (fun e => hs' (by injection e)), h2 s]
   simp [hs']
 ·rw [size_put (World.ownsMap.tidy h1 law_str), List.length_append]
  simp only [List.length_singleton]
  split <;> omega
 ·rw [valS_app]
  by_cases hs' : s = svB (A y)
  ·subst hs'
   rw [atKey_put_same (World.ownsMap.isMap h1) (law_str.key (key_str _ hs)), if_pos rfl]
  ·rw [atKey_put_other (fun e => hs' (by injection e)), h5 s, if_neg (fun e => hs' e.symm)]
end Go.Proofs.YtnffedmcblbkoaaGreatDoor
namespace Go.Proofs.YtnffedmcblbkoaaGreatDoor
open Go Go.RowKit Go.Maps Go.Sort Go.Shelf
set_option maxRecDepth 100000
def Tryz.keysU_ren : Go.Shelf.Ren := ⟨fun | 7 => 42 | 10 => 72 | n => n, fun | 23 => 109 | 26 => 9 | 3 => 32 | 28 => 115 | 0 => 0 | 27 => 114 | 33 => 161 | 4 => 4 | n => n, fun | n => n⟩
theorem Tryz.keysU : Go.Proofs.SlLaysZ.n7 Tryz.prog Tryz.keysU_ren := {
  mixed := by kernel_rfl
  f7 := ⟨Tryz.f42.name, by decide, Tryz.func42.trans (congrArg some (by kernel_rfl))⟩
  f10 := ⟨Tryz.f72.name, by decide, Tryz.func72.trans (congrArg some (by kernel_rfl))⟩
  t0 := Tryz.underlying0
  a0 := Tryz.isAgg0
  z0 := Tryz.sizeOf0
  v0 := Tryz.zeroValue0
  t4 := Tryz.underlying4
  a4 := Tryz.isAgg4
  z4 := Tryz.sizeOf4
  v4 := Tryz.zeroValue4
  t23 := Tryz.underlying109
  a23 := Tryz.isAgg109
  z23 := Tryz.sizeOf109
  v23 := Tryz.zeroValue109
  t26 := Tryz.underlying9
  a26 := Tryz.isAgg9
  z26 := Tryz.sizeOf9
  v26 := Tryz.zeroValue9
  t27 := Tryz.underlying114
  a27 := Tryz.isAgg114
  z27 := Tryz.sizeOf114
  v27 := Tryz.zeroValue114
  t28 := Tryz.underlying115
  a28 := Tryz.isAgg115
  z28 := Tryz.sizeOf115
  v28 := Tryz.zeroValue115
  t33 := Tryz.underlying161
  a33 := Tryz.isAgg161
  z33 := Tryz.sizeOf161
  v33 := Tryz.zeroValue161 }
def Tryz.sortedU_ren : Go.Shelf.Ren := ⟨fun | 6 => 41 | 8 => 70 | 9 => 71 | 11 => 105 | 13 => 79 | 12 => 106 | 23 => 119 | 24 => 120 | 14 => 159 | 15 => 160 | 16 => 161 | 17 => 162 | 18 => 163 | 19 => 164 | 20 => 165 | 21 => 166 | 22 => 167 | 25 => 210 | 26 => 177 | 27 => 178 | 28 => 211 | 29 => 212 | 30 => 213 | 31 => 235 | n => n, fun | 26 => 9 | 28 => 115 | 24 => 112 | 0 => 0 | 3 => 3 | 37 => 168 | 48 => 214 | 50 => 32 | 4 => 4 | 40 => 208 | 39 => 207 | 45 => 93 | 5 => 5 | 9 => 9 | 51 => 256 | 55 => 260 | 57 => 290 | 58 => 291 | 33 => 161 | n => n, fun | n => n⟩
theorem Tryz.sortedU : Go.Proofs.SlLaysZ.n6 Tryz.prog Tryz.sortedU_ren := {
  mixed := by kernel_rfl
  f6 := ⟨Tryz.f41.name, by decide, Tryz.func41.trans (congrArg some (by kernel_rfl))⟩
  f8 := ⟨Tryz.f70.name, by decide, Tryz.func70.trans (congrArg some (by kernel_rfl))⟩
  f11 := ⟨Tryz.f105.name, by decide, Tryz.func105.trans (congrArg some (by kernel_rfl))⟩
  t0 := Tryz.underlying0
  a0 := Tryz.isAgg0
  z0 := Tryz.sizeOf0
  v0 := Tryz.zeroValue0
  t24 := Tryz.underlying112
  a24 := Tryz.isAgg112
  z24 := Tryz.sizeOf112
  v24 := Tryz.zeroValue112
  t26 := Tryz.underlying9
  a26 := Tryz.isAgg9
  z26 := Tryz.sizeOf9
  v26 := Tryz.zeroValue9
  t28 := Tryz.underlying115
  a28 := Tryz.isAgg115
  z28 := Tryz.sizeOf115
  v28 := Tryz.zeroValue115
  i26 := by kernel_rfl }
def Tryz.sortU_ren : Go.Shelf.Ren := ⟨fun | 6 => 71 | 8 => 79 | 9 => 106 | 19 => 119 | 20 => 120 | 21 => 159 | 22 => 160 | 23 => 161 | 24 => 162 | 25 => 163 | 26 => 164 | 27 => 165 | 28 => 166 | 29 => 167 | 36 => 210 | 31 => 177 | 32 => 178 | 37 => 211 | 38 => 212 | 39 => 213 | 41 => 235 | n => n, fun | 27 => 112 | 29 => 9 | 3 => 3 | 32 => 168 | 26 => 112 | 0 => 0 | 44 => 214 | 46 => 32 | 4 => 4 | 36 => 208 | 35 => 207 | 41 => 93 | 5 => 5 | 9 => 9 | 53 => 256 | 57 => 260 | 63 => 290 | 64 => 291 | n => n, fun | n => n⟩
theorem Tryz.sortU : Go.Proofs.SlLaysM.n6 Tryz.prog Tryz.sortU_ren := {
  mixed := by kernel_rfl
  f6 := ⟨Tryz.f71.name, by decide, Tryz.func71.trans (congrArg some (by kernel_rfl))⟩
  f8 := Tryz.func79.trans (congrArg some (by kernel_rfl))
  f9 := ⟨Tryz.f106.name, by decide, Tryz.func106.trans (congrArg some (by kernel_rfl))⟩
  f19 := Tryz.func119.trans (congrArg some (by kernel_rfl))
  f20 := Tryz.func120.trans (congrArg some (by kernel_rfl))
  f21 := ⟨Tryz.f159.name, by decide, Tryz.func159.trans (congrArg some (by kernel_rfl))⟩
  f22 := ⟨Tryz.f160.name, by decide, Tryz.func160.trans (congrArg some (by kernel_rfl))⟩
  f23 := ⟨Tryz.f161.name, by decide, Tryz.func161.trans (congrArg some (by kernel_rfl))⟩
  f24 := ⟨Tryz.f162.name, by decide, Tryz.func162.trans (congrArg some (by kernel_rfl))⟩
  f25 := ⟨Tryz.f163.name, by decide, Tryz.func163.trans (congrArg some (by kernel_rfl))⟩
  f26 := ⟨Tryz.f164.name, by decide, Tryz.func164.trans (congrArg some (by kernel_rfl))⟩
  f27 := ⟨Tryz.f165.name, by decide, Tryz.func165.trans (congrArg some (by kernel_rfl))⟩
  f28 := ⟨Tryz.f166.name, by decide, Tryz.func166.trans (congrArg some (by kernel_rfl))⟩
  f29 := ⟨Tryz.f167.name, by decide, Tryz.func167.trans (congrArg some (by kernel_rfl))⟩
  f31 := Tryz.func177.trans (congrArg some (by kernel_rfl))
  f32 := Tryz.func178.trans (congrArg some (by kernel_rfl))
  f36 := ⟨Tryz.f210.name, by decide, Tryz.func210.trans (congrArg some (by kernel_rfl))⟩
  f37 := ⟨Tryz.f211.name, by decide, Tryz.func211.trans (congrArg some (by kernel_rfl))⟩
  f38 := ⟨Tryz.f212.name, by decide, Tryz.func212.trans (congrArg some (by kernel_rfl))⟩
  f39 := ⟨Tryz.f213.name, by decide, Tryz.func213.trans (congrArg some (by kernel_rfl))⟩
  f41 := ⟨Tryz.f235.name, by decide, Tryz.func235.trans (congrArg some (by kernel_rfl))⟩
  t0 := Tryz.underlying0
  a0 := Tryz.isAgg0
  z0 := Tryz.sizeOf0
  v0 := Tryz.zeroValue0
  t3 := Tryz.underlying3
  a3 := Tryz.isAgg3
  z3 := Tryz.sizeOf3
  v3 := Tryz.zeroValue3
  t4 := Tryz.underlying4
  a4 := Tryz.isAgg4
  z4 := Tryz.sizeOf4
  v4 := Tryz.zeroValue4
  t5 := Tryz.underlying5
  a5 := Tryz.isAgg5
  z5 := Tryz.sizeOf5
  v5 := Tryz.zeroValue5
  t9 := Tryz.underlying9
  a9 := Tryz.isAgg9
  z9 := Tryz.sizeOf9
  v9 := Tryz.zeroValue9
  t26 := Tryz.underlying112
  a26 := Tryz.isAgg112
  z26 := Tryz.sizeOf112
  v26 := Tryz.zeroValue112
  t27 := Tryz.underlying112
  a27 := Tryz.isAgg112
  z27 := Tryz.sizeOf112
  v27 := Tryz.zeroValue112
  t29 := Tryz.underlying9
  a29 := Tryz.isAgg9
  z29 := Tryz.sizeOf9
  v29 := Tryz.zeroValue9
  t32 := Tryz.underlying168
  a32 := Tryz.isAgg168
  z32 := Tryz.sizeOf168
  v32 := Tryz.zeroValue168
  t35 := Tryz.underlying207
  a35 := Tryz.isAgg207
  z35 := Tryz.sizeOf207
  v35 := Tryz.zeroValue207
  t36 := Tryz.underlying208
  a36 := Tryz.isAgg208
  z36 := Tryz.sizeOf208
  v36 := Tryz.zeroValue208
  t41 := Tryz.underlying93
  a41 := Tryz.isAgg93
  z41 := Tryz.sizeOf93
  v41 := Tryz.zeroValue93
  t44 := Tryz.underlying214
  a44 := Tryz.isAgg214
  z44 := Tryz.sizeOf214
  v44 := Tryz.zeroValue214
  t46 := Tryz.underlying32
  a46 := Tryz.isAgg32
  z46 := Tryz.sizeOf32
  v46 := Tryz.zeroValue32
  t53 := Tryz.underlying256
  a53 := Tryz.isAgg256
  z53 := Tryz.sizeOf256
  v53 := Tryz.zeroValue256
  t57 := Tryz.underlying260
  a57 := Tryz.isAgg260
  z57 := Tryz.sizeOf260
  v57 := Tryz.zeroValue260
  t63 := Tryz.underlying290
  a63 := Tryz.isAgg290
  z63 := Tryz.sizeOf290
  v63 := Tryz.zeroValue290
  t64 := Tryz.underlying291
  a64 := Tryz.isAgg291
  z64 := Tryz.sizeOf291
  v64 := Tryz.zeroValue291 }
theorem sortsU (m : Nat) : AnyZ.SortsIn Tryz.prog Tryz.sortedU_ren Fence.wide m :=
  ⟨fun blk off cap ss W hH hblk hsz => callsIn_wide.2 (AnyM.slices_Sort_string Tryz.sortU blk off cap ss W hH hblk hsz),
   fun p cap W => callsIn_wide.2 (AnyM.slices_Sort_string_none Tryz.sortU p cap W)⟩
theorem keysU_any (mb : Option Nat) (W : World) : Calls Tryz.prog 42 #[.map mb] W fun e w' => e = .returned (.func (.func 72) #[] #[.pointer (some ⟨W.heap.size, 0, none⟩)]) ∧ w' = W.alloc (.cells #[.map mb] 109) :=
  (callsIn_wide (n := 5)).1 (AnyZ.keys_in Tryz.keysU Fence.wide 5 trivial rfl mb W)
set_option maxHeartbeats 1000000 in
theorem sortedU_any (b nn : Nat) (D0 : DataW Value) (w : World) (hown : w.ownsMap Tryz.prog 9 valR b nn D0) (hmax : Maps.size D0 ≤ maxLen) (hbytes : Maps.size D0 * 16 ≤ 140737488355328) :
    Calls Tryz.prog 41 #[.func (.func 72) #[] #[.pointer (some ⟨w.heap.size, 0, none⟩)]] (w.alloc (.cells #[.map (some b)] 109)) fun e w' => ∃ (v : Value) (ss : List (List UInt8)), e = .returned v ∧ ss.Perm (strKeys D0) ∧
      w'.ownsRow (w.alloc (.cells #[.map (some b)] 109)).heap.size 9 1 v ss.length ((ss.mergeSort (fun x y => decide (x ≤ y))).map encStr) ∧ (v = .slice none 0 0 ↔ ss = []) ∧ Below (w.alloc (.cells #[.map (some b)] 109)).heap.size (w.alloc (.cells #[.map (some b)] 109)) w' := by
  have hbl := hown.lt
  have hseq : SeqGives Fence.wide 2 Tryz.prog 72 #[.pointer (some ⟨w.heap.size, 0, none⟩)] encStr (fun ss => ss.Perm (strKeys D0)) (Maps.size D0) (w.alloc (.cells #[.map (some b)] 109)) :=
    AnyZ.keys_gives (ρ := Tryz.keysU_ren) { Tryz.keysU with } Fence.wide _ trivial rfl (by omega) w.heap.size b nn D0 _ (by simp) (by simp) (by
      obtain ⟨es, clock, hb, Ft, hs, hD⟩ := hown
      exact ⟨es, clock, (Below.heap_alloc _ _ b hbl).trans hb, Ft, hs, hD⟩)
  exact (callsIn_wide (n := 5)).1 (AnyZ.sorted_in Tryz.sortedU Fence.wide 5 trivial trivial trivial trivial rfl (by omega) (sortsU _) (enters_of Tryz.func71 (by kernel_rfl) rfl) 72 #[.pointer (some ⟨w.heap.size, 0, none⟩)] trivial (enters_of Tryz.func72 (by kernel_rfl) rfl) _ _ hmax hbytes _ hseq)
theorem nub_any : ∀ m : List (List UInt8), ∃ l : List (List UInt8), l.Nodup ∧ ∀ x, x ∈ l ↔ x ∈ m
  | [] => ⟨[], List.nodup_nil, fun _ => Iff.rfl⟩
  | a :: r => by
    obtain ⟨l, h1, h2⟩ := nub_any r
    by_cases ha : a ∈ r
    · exact ⟨l, h1, fun x => by rw [h2, List.mem_cons]; exact ⟨Or.inr, fun h => h.elim (fun e => by rw [e]; exact ha) id⟩⟩
    · exact ⟨a :: l, List.nodup_cons.2 ⟨fun h => ha ((h2 a).1 h), h1⟩, fun x => by rw [List.mem_cons, List.mem_cons, h2]⟩
theorem names_svl {w : World} {b nn : Nat} {D : DataW Value} {A : Nat → Sp} {zs : List Nat} (h1 : w.ownsMap Tryz.prog 9 valR b nn D) (h2 : ∀ s, Maps.has D (.string s) = decide (s ∈ zs.map (fun y => svB (A y)))) {ss : List (List UInt8)} (hp : ss.Perm (strKeys D)) : SvL A zs (ss.mergeSort (fun x y => decide (x ≤ y))) := by
  obtain ⟨l, l1, l2⟩ := nub_any (zs.map (fun y => svB (A y)))
  have hc : Collected D (fun _ => false) l := ⟨l1, fun x => by rw [l2, h2]; simp⟩
  have hpl : ss.Perm l := hp.trans (hc.perm h1 law_str Tryz.underlying9 (fun _ => rfl)).symm
  have hm := List.mergeSort_perm ss (fun x y => decide (x ≤ y))
  have tr : ∀ a b c : List UInt8, decide (a ≤ b) = true → decide (b ≤ c) = true → decide (a ≤ c) = true := fun a b c h1 h2 => by simp only [decide_eq_true_eq] at *; exact List.le_trans h1 h2
  have to' : ∀ a b : List UInt8, (decide (a ≤ b) || decide (b ≤ a)) = true := fun a b => by simp only [Bool.or_eq_true, decide_eq_true_eq]; exact List.le_total a b
  have hs := List.pairwise_mergeSort tr to' ss
  have hnd : (ss.mergeSort (fun x y => decide (x ≤ y))).Nodup := (hm.trans hpl).nodup_iff.2 l1
  refine ⟨fun s => ?_, ?_⟩
  · rw [(hm.trans hpl).mem_iff, l2, List.mem_map]
  · refine (hs.and hnd).imp (fun {a b} h => ?_)
    have h1 := h.1
    simp only [decide_eq_true_eq] at h1
    rcases List.le_iff_lt_or_eq.1 h1 with h3 | h3
    · exact h3
    · exact absurd h3 h.2
end Go.Proofs.YtnffedmcblbkoaaGreatDoor
namespace Go.Proofs.YtnffedmcblbkoaaGreatDoor
open Go Go.RowKit
set_option maxRecDepth 100000
theorem infoSv_parts : ∃ i, Tryz.prog.info? 54 = some i ∧ i.zero = some (.agg #[.string ⟨#[]⟩, .int .u64 0]) ∧ i.size = 2 ∧ i.bytes = 24 := by
 have h : (Tryz.prog.info? 54).map (fun i => (i.zero, i.size, i.bytes)) = some (some (.agg #[.string ⟨#[]⟩, .int .u64 0]), 2, 24) := by kernel_rfl
 cases hi : Tryz.prog.info? 54 with
 | none => rw [hi] at h; simp at h
 | some i => rw [hi] at h; simp at h; exact ⟨i, rfl, h.1, h.2.1, h.2.2⟩
theorem wpList_appV {ops : Array Oper} {rest : List Oper} {o : Oper} {a : Act} {Q : Exit → Act → World → Prop} (wr : World) (hgd : o.guard = none) (s x : Operand)
  (ho : o.op = .call { callee := .builtin .append, args := #[s, x], argTypes := #[45, 45] })
  (base : Nat) (v : Value) (n : Nat) (xs : List Value) (p : ByteArray) (q : Int) (b : Nat) (hb : b = wr.heap.size) (hv : a.eval s = v) (hown : wr.ownsRow base 54 2 v n xs) (hx : a.eval x = .slice (some ⟨b, 0, none⟩) 1 1) (hn : n ≤ 1000000) (hbase : base ≤ wr.heap.size)
  (h : ∀ va vc w', w'.ownsRow base 54 2 (.slice va (n + 1) vc) (n + 1) (xs ++ [.string p, .int .u64 q]) → Upd (fun k => v.ownBlock = some k) wr w' → wpList Tryz.prog ops Q rest (a.put o.dst (.slice va (n + 1) vc)) w') : wpList Tryz.prog ops Q (o :: rest) a (wr.alloc (.cells #[.string p, .int .u64 q] 54)) := by
 subst hb
 obtain ⟨i0, hi0, hz0, hz1, hz2⟩ := infoSv_parts
 have hown' : (wr.alloc (.cells #[.string p, .int .u64 q] 54)).ownsRow base 54 2 v n xs := ownsRow_upd hown ((Upd.refl (fun _ => False) wr).alloc _) (fun _ _ h => h)
 refine wpList_appW _ hgd s x 45 45 ho base 54 i0 (.agg #[.string ⟨#[]⟩, .int .u64 0]) 2 24 Tryz.underlying45 hi0 hz0 hz1 hz2 rfl v n _ hv hown' _ 1 [.string p, .int .u64 q] hx (src_two Tryz.underlying45 (heap_alloc_new wr _) rfl rfl) (by unfold maxLen; omega) (by omega) (by simp; omega) ?_
 intro v1 w1 o1 g1 m1
 obtain ⟨va, vc, rfl⟩ := owns_sliceS o1
 exact h va vc w1 o1 (((Upd.refl _ wr).alloc _).grown g1 (fun k _ e => e))
end Go.Proofs.YtnffedmcblbkoaaGreatDoor
namespace Go.Proofs.YtnffedmcblbkoaaGreatDoor
open Go Go.RowKit Go.Maps
set_option maxRecDepth 100000
theorem subU_len : ∀ (l m : List (List UInt8)), l.Nodup → (∀ x ∈ l, x ∈ m) → l.length ≤ m.length
 | [], _, _, _ => Nat.zero_le _
 | a :: r, m, hn, hm => by
  rw [List.nodup_cons] at hn
  have ha := hm a (by simp)
  have := subU_len r (m.erase a) hn.2 (fun x hx => (List.mem_erase_of_ne (fun e => by subst e; exact hn.1 hx)).2 (hm x (by simp [hx])))
  rw [List.length_erase_of_mem ha] at this
  have h0 := List.length_pos_of_mem ha
  simp only [List.length_cons]
  omega
theorem SvL.len {A : Nat → Sp} {zs : List Nat} {l : List (List UInt8)} (h : SvL A zs l) : l.length ≤ zs.length := by
 have := subU_len l (zs.map (fun y => svB (A y))) (h.rise.imp (fun hab e => by subst e; exact absurd hab (List.lt_irrefl _))) (fun s hs => by obtain ⟨y, h1, h2⟩ := (h.mem s).1 hs; exact List.mem_map.2 ⟨y, h1, h2⟩)
 simpa using this
theorem FoB.svc {Y : List Sp} {C : List Int} {dp : Nat → Nat} {fin : Nat → Nod} {X : List Spot} {K : Nat → List Int} {R : List Int} (h : FoB Y C dp fin X K R) {y : Nat} (hy : y < Y.length) : (svB (spAt Y y)).length ≤ 1000000 := by
 have e2 : spAt Y y = Y[y] := by simp [spAt, List.getD, hy]
 have hc := h.one.chk Y[y] (List.getElem_mem hy)
 rw [e2]
 by_cases hp : plainB Y[y].svc 60 33 = true
 ·unfold plainB at hp
  simp only [Bool.and_eq_true, decide_eq_true_eq] at hp
  have : (svB Y[y]).length = Y[y].svc.size := by unfold svB; exact Array.length_toList
  omega
 ·exfalso
  unfold chkS at hc
  simp only [Bool.not_eq_true] at hp
  simp only [hp, Bool.not_false, Bool.true_or, if_true] at hc
  split at hc
  ·omega
  ·split at hc <;> omega
theorem enc_flat : ∀ l : List (List UInt8), l.flatMap (fun s => [encStr s]) = l.map encStr
 | [] => rfl
 | a :: r => by rw [List.flatMap_cons, List.map_cons, enc_flat r]; rfl
end Go.Proofs.YtnffedmcblbkoaaGreatDoor
namespace Go.Proofs.YtnffedmcblbkoaaGreatDoor
open Go Go.RowKit
set_option maxRecDepth 100000
def lenL (l : Nat × Int × Int) : Int := lenI (l.2.1, l.2.2)
theorem lenL_nn (l : Nat × Int × Int) : 0 ≤ lenL l := by
 unfold lenL lenI
 split <;> simp only at * <;> omega
theorem tile_sum {hi : Int} : ∀ (lo : Int) (M : List (Nat × Int × Int)), TileF hi lo M → (M.map lenL).sum = hi - lo
 | lo, [], h => by
  have e : lo = hi := h
  simp [e]
 | lo, (y, a, b) :: r, h => by
  obtain ⟨h1, h2, h3⟩ := h
  have ih := tile_sum b r h3
  have e : lenL (y, a, b) = b - a := by unfold lenL lenI; simp only; rw [if_neg (by omega)]
  rw [List.map_cons, List.sum_cons, ih, e]
  omega
def sumN (f : Nat → Int) (n : Nat) : Int := ((List.range n).map f).sum
theorem sumN_succ (f : Nat → Int) (n : Nat) : sumN f (n + 1) = sumN f n + f n := by
 unfold sumN
 rw [List.range_succ, List.map_append, List.sum_append]
 simp
theorem sumN_add (f g : Nat → Int) : ∀ n, sumN (fun y => f y + g y) n = sumN f n + sumN g n
 | 0 => rfl
 | n + 1 => by rw [sumN_succ, sumN_succ, sumN_succ, sumN_add f g n]; omega
theorem sumN_one (k : Nat) (v : Int) : ∀ n, sumN (fun y => if k = y then v else 0) n = if k < n then v else 0
 | 0 => rfl
 | n + 1 => by
  rw [sumN_succ, sumN_one k v n]
  by_cases h1 : k = n
  ·subst h1
   simp
  ·by_cases h2 : k < n
   ·rw [if_pos h2, if_neg h1, if_pos (by omega)]; omega
   ·rw [if_neg h2, if_neg h1, if_neg (by omega)]; rfl
theorem sumN_zero : ∀ n, sumN (fun _ => 0) n = 0
 | 0 => rfl
 | n + 1 => by rw [sumN_succ, sumN_zero n]; rfl
theorem sumH_cons (l : Nat × Int × Int) (r : List (Nat × Int × Int)) (y : Nat) : sumH (l :: r) y = (if l.1 = y then lenL l else 0) + sumH r y := by simp [sumH, lenL]
theorem sumH_all : ∀ (L : List (Nat × Int × Int)) (n : Nat), (∀ l ∈ L, l.1 < n) → sumN (sumH L) n = (L.map lenL).sum
 | [], n, _ => by
  have : sumH [] = fun _ => 0 := by funext y; rfl
  rw [this, sumN_zero]; rfl
 | l :: r, n, h => by
  have : sumH (l :: r) = fun y => (if l.1 = y then lenL l else 0) + sumH r y := by funext y; exact sumH_cons l r y
  rw [this, sumN_add, sumN_one, sumH_all r n (fun m hm => h m (by simp [hm])), if_pos (h l (by simp)), List.map_cons, List.sum_cons]
theorem sumH_nn : ∀ (L : List (Nat × Int × Int)) (y : Nat), 0 ≤ sumH L y
 | [], _ => Int.le_refl _
 | l :: r, y => by
  rw [sumH_cons]
  have := sumH_nn r y
  have := lenL_nn l
  split <;> omega
def sumZ (h : Nat → Int) (zs : List Nat) : Int := (zs.map h).sum
theorem sumZ_filter (h : Nat → Int) (hn : ∀ y, 0 ≤ h y) : ∀ zs : List Nat, sumZ h (zs.filter (fun y => decide (0 < h y))) = sumZ h zs
 | [] => rfl
 | z :: r => by
  have ih := sumZ_filter h hn r
  have e2 : sumZ h (z :: r) = h z + sumZ h r := by simp [sumZ]
  by_cases h0 : 0 < h z
  ·rw [List.filter_cons_of_pos (by simpa using h0)]
   have e1 : sumZ h (z :: r.filter (fun y => decide (0 < h y))) = h z + sumZ h (r.filter (fun y => decide (0 < h y))) := by simp [sumZ]
   rw [e1, ih, e2]
  ·rw [List.filter_cons_of_neg (by simpa using h0), ih, e2]
   have := hn z
   omega
theorem sumS_names (A : Nat → Sp) (h : Nat → Int) : ∀ (zs : List Nat) (l : List (List UInt8)), l.Nodup → (∀ y ∈ zs, svB (A y) ∈ l) → (l.map (sumS A h zs)).sum = sumZ h zs
 | [], l, _, _ => by
  have : sumS A h [] = fun _ => 0 := by funext s; rfl
  have e : ∀ m : List (List UInt8), (m.map (fun _ => (0 : Int))).sum = 0 := fun m => by
   induction m with
   | nil => rfl
   | cons a r ih => rw [List.map_cons, List.sum_cons, ih]; rfl
  rw [this, e]
  rfl
 | z :: r, l, hn, hm => by
  have ih := sumS_names A h r l hn (fun y hy => hm y (by simp [hy]))
  have e2 : sumZ h (z :: r) = h z + sumZ h r := by simp [sumZ]
  have e1 : sumS A h (z :: r) = fun s => (if svB (A z) = s then h z else 0) + sumS A h r s := by funext s; simp [sumS]
  have e3 : ∀ m : List (List UInt8), (m.map (fun s => (if svB (A z) = s then h z else 0) + sumS A h r s)).sum = (m.map (fun s => if svB (A z) = s then h z else 0)).sum + (m.map (sumS A h r)).sum := fun m => by
   induction m with
   | nil => rfl
   | cons a r' ih' => simp only [List.map_cons, List.sum_cons, ih']; omega
  have e4 : ∀ m : List (List UInt8), m.Nodup → (m.map (fun s => if svB (A z) = s then h z else 0)).sum = if svB (A z) ∈ m then h z else 0 := fun m => by
   induction m with
   | nil => intro _; rfl
   | cons a r' ih' =>
    intro hd
    rw [List.nodup_cons] at hd
    simp only [List.map_cons, List.sum_cons, ih' hd.2, List.mem_cons]
    by_cases ea : svB (A z) = a
    ·have : svB (A z) ∉ r' := by rw [ea]; exact hd.1
     simp [ea, hd.1]
    ·simp [ea]
  rw [e1, e3, ih, e4 l hn, if_pos (hm z (by simp)), e2]
theorem sumS_nn (A : Nat → Sp) (h : Nat → Int) (hn : ∀ y, 0 ≤ h y) (s : List UInt8) : ∀ zs : List Nat, 0 ≤ sumS A h zs s
 | [] => Int.le_refl _
 | z :: r => by
  have := sumS_nn A h hn s r
  have := hn z
  have e : sumS A h (z :: r) s = (if svB (A z) = s then h z else 0) + sumS A h r s := by simp [sumS]
  rw [e]
  split <;> omega
theorem sumS_le (A : Nat → Sp) (h : Nat → Int) (hn : ∀ y, 0 ≤ h y) (s : List UInt8) : ∀ zs : List Nat, sumS A h zs s ≤ sumZ h zs
 | [] => Int.le_refl _
 | z :: r => by
  have := sumS_le A h hn s r
  have := hn z
  have e : sumS A h (z :: r) s = (if svB (A z) = s then h z else 0) + sumS A h r s := by simp [sumS]
  have e2 : sumZ h (z :: r) = h z + sumZ h r := by simp [sumZ]
  rw [e, e2]
  split <;> omega
theorem sumS_pos (A : Nat → Sp) (h : Nat → Int) (hn : ∀ y, 0 ≤ h y) (s : List UInt8) : ∀ (zs : List Nat) (y : Nat), y ∈ zs → svB (A y) = s → 0 < h y → 0 < sumS A h zs s
 | [], _, hm, _, _ => by cases hm
 | z :: r, y, hm, hs, h0 => by
  have hr := sumS_nn A h hn s r
  have := hn z
  have e : sumS A h (z :: r) s = (if svB (A z) = s then h z else 0) + sumS A h r s := by simp [sumS]
  rw [e]
  rcases List.mem_cons.1 hm with rfl | hm
  ·rw [if_pos hs]; omega
  ·have := sumS_pos A h hn s r y hm hs h0
   split <;> omega
theorem tile_cnt (y : Nat) {hi lo0 : Int} {n : Nat} : ∀ (lo : Int) (M : List (Nat × Int × Int)), TileF hi lo M → lo0 ≤ lo → hi ≤ lo0 + n → sumH M y = cntM (memI ((M.filter (fun l => decide (l.1 = y))).map (fun l => (l.2.1, l.2.2)))) lo0 n ∧ lo ≤ hi ∧ ∀ x, memI ((M.filter (fun l => decide (l.1 = y))).map (fun l => (l.2.1, l.2.2))) x = true → lo ≤ x
 | lo, [], h, h0, h1 => by
  have e : lo = hi := h
  refine ⟨?_, by omega, fun x hx => by simp [memI] at hx⟩
  have : ∀ k : Nat, cntM (memI []) lo0 k = 0 := fun k => by
   induction k with
   | zero => rfl
   | succ k ih => simp [cntM, ih, memI]
  simp [sumH, this]
 | lo, (z, a, b) :: r, h, h0, h1 => by
  obtain ⟨g1, g2, g3⟩ := h
  obtain ⟨i1, i2, i3⟩ := tile_cnt y b r g3 (by omega) h1
  rw [sumH_cons]
  have e : lenL (z, a, b) = b - a := by unfold lenL lenI; simp only; rw [if_neg (by omega)]
  by_cases hz : z = y
  ·rw [List.filter_cons_of_pos (by simpa using hz), List.map_cons, if_pos hz, e]
   refine ⟨?_, by omega, fun x hx => ?_⟩
   ·have ec : ∀ x, memI ((a, b) :: (r.filter (fun l => decide (l.1 = y))).map (fun l => (l.2.1, l.2.2))) x = ((decide (a ≤ x) && decide (x < b)) || memI ((r.filter (fun l => decide (l.1 = y))).map (fun l => (l.2.1, l.2.2))) x) := fun x => memI_cons _ _ _
    rw [cntM_congr ec, cntM_or _ _ _ (fun x hx => ?_), cntM_iv a b lo0 (by omega) (by omega), if_neg (by omega), i1]
    ·split <;> omega
    ·simp only [Bool.and_eq_true, decide_eq_true_eq] at hx
     cases hq : memI ((r.filter (fun l => decide (l.1 = y))).map (fun l => (l.2.1, l.2.2))) x with
     | false => rfl
     | true => have := i3 x hq; omega
   ·rw [memI_cons] at hx
    simp only [Bool.or_eq_true, Bool.and_eq_true, decide_eq_true_eq] at hx
    rcases hx with hx | hx
    ·omega
    ·have := i3 x hx; omega
  ·rw [List.filter_cons_of_neg (by simpa using hz), if_neg hz, Int.zero_add]
   exact ⟨i1, by omega, fun x hx => by have := i3 x hx; omega⟩
theorem cntM_le {p q : Int → Bool} (h : ∀ x, p x = true → q x = true) (lo : Int) : ∀ n, cntM p lo n ≤ cntM q lo n
 | 0 => Int.le_refl _
 | n + 1 => by
  have := cntM_le h lo n
  have hx := h (lo + n)
  unfold cntM
  cases hp : p (lo + n) <;> cases hq : q (lo + n) <;> simp_all <;> omega
section
variable {Y : List Sp} {C : List Int} {dp : Nat → Nat} {fin : Nat → Nod} {X : List Spot} {K : Nat → List Int} {R : List Int}
def kidI (fin : Nat → Nod) (K : Nat → List Int) (y : Nat) : List (Int × Int) := (knK K y).map (fun c => ((fin c).fr, (fin c).til))
end
end Go.Proofs.YtnffedmcblbkoaaGreatDoor
