/-
  Merged: FS, FT, FU.
-/
import Derived.Test.YtnffedmcblbkoaaGreatDoorYcq
import Derived.Shelf.SlSortCmp.WholeK
import Derived.Ground.SlsfProg
import Derived.Deep.RegionHeld3
import Derived.Shelf.SlSortCmp.Whole1
import Derived.Shelf.SlSortCmp.NoneTotal
namespace Go.Proofs.YtnffedmcblbkoaaGreatDoor
open Go Go.Shelf Go.RowKit Go.Lib Go.Sort
set_option maxRecDepth 100000
def Tryz.sortSp_ren : Go.Shelf.Ren := ⟨fun | 6 => 53 | 15 => 79 | 14 => 85 | 28 => 119 | 29 => 120 | 20 => 126 | 21 => 127 | 22 => 128 | 23 => 129 | 24 => 130 | 25 => 131 | 26 => 132 | 27 => 133 | 46 => 189 | 47 => 177 | 48 => 178 | 49 => 190 | 50 => 191 | 57 => 218 | n => n, fun | 22 => 89 | 24 => 104 | 25 => 139 | 3 => 3 | 39 => 168 | 0 => 0 | 53 => 214 | 55 => 32 | 4 => 4 | 46 => 208 | 45 => 207 | 50 => 93 | 5 => 5 | 9 => 9 | 66 => 256 | 70 => 260 | 76 => 290 | 77 => 291 | n => n, fun | n => n⟩
theorem Tryz.sortSp : Go.Proofs.SlLaysF0.n6 Tryz.prog Tryz.sortSp_ren := {
 mixed := by kernel_rfl
 f6 := ⟨Tryz.f53.name, by decide, Tryz.func53.trans (congrArg some (by kernel_rfl))⟩
 f14 := ⟨Tryz.f85.name, by decide, Tryz.func85.trans (congrArg some (by kernel_rfl))⟩
 f15 := Tryz.func79.trans (congrArg some (by kernel_rfl))
 f20 := ⟨Tryz.f126.name, by decide, Tryz.func126.trans (congrArg some (by kernel_rfl))⟩
 f21 := ⟨Tryz.f127.name, by decide, Tryz.func127.trans (congrArg some (by kernel_rfl))⟩
 f22 := ⟨Tryz.f128.name, by decide, Tryz.func128.trans (congrArg some (by kernel_rfl))⟩
 f23 := ⟨Tryz.f129.name, by decide, Tryz.func129.trans (congrArg some (by kernel_rfl))⟩
 f24 := ⟨Tryz.f130.name, by decide, Tryz.func130.trans (congrArg some (by kernel_rfl))⟩
 f25 := ⟨Tryz.f131.name, by decide, Tryz.func131.trans (congrArg some (by kernel_rfl))⟩
 f26 := ⟨Tryz.f132.name, by decide, Tryz.func132.trans (congrArg some (by kernel_rfl))⟩
 f27 := ⟨Tryz.f133.name, by decide, Tryz.func133.trans (congrArg some (by kernel_rfl))⟩
 f28 := Tryz.func119.trans (congrArg some (by kernel_rfl))
 f29 := Tryz.func120.trans (congrArg some (by kernel_rfl))
 f46 := ⟨Tryz.f189.name, by decide, Tryz.func189.trans (congrArg some (by kernel_rfl))⟩
 f47 := Tryz.func177.trans (congrArg some (by kernel_rfl))
 f48 := Tryz.func178.trans (congrArg some (by kernel_rfl))
 f49 := ⟨Tryz.f190.name, by decide, Tryz.func190.trans (congrArg some (by kernel_rfl))⟩
 f50 := ⟨Tryz.f191.name, by decide, Tryz.func191.trans (congrArg some (by kernel_rfl))⟩
 f57 := ⟨Tryz.f218.name, by decide, Tryz.func218.trans (congrArg some (by kernel_rfl))⟩
 t0 := Tryz.underlying0
 a0 := Tryz.isAgg0
 z0 := Tryz.sizeOf0
 v0 := Tryz.zeroValue0
 t3 := Tryz.underlying3
 a3 := Tryz.isAgg3
 z3 := Tryz.sizeOf3
 v3 := Tryz.zeroValue3
 t4 := Tryz.underlying4
 a4 := Tryz.isAgg4
 z4 := Tryz.sizeOf4
 v4 := Tryz.zeroValue4
 t5 := Tryz.underlying5
 a5 := Tryz.isAgg5
 z5 := Tryz.sizeOf5
 v5 := Tryz.zeroValue5
 t9 := Tryz.underlying9
 a9 := Tryz.isAgg9
 z9 := Tryz.sizeOf9
 v9 := Tryz.zeroValue9
 t22 := Tryz.underlying89
 a22 := Tryz.isAgg89
 z22 := Tryz.sizeOf89
 v22 := Tryz.zeroValue89
 t25 := Tryz.underlying139
 a25 := Tryz.isAgg139
 z25 := Tryz.sizeOf139
 v25 := Tryz.zeroValue139
 t39 := Tryz.underlying168
 a39 := Tryz.isAgg168
 z39 := Tryz.sizeOf168
 v39 := Tryz.zeroValue168
 t45 := Tryz.underlying207
 a45 := Tryz.isAgg207
 z45 := Tryz.sizeOf207
 v45 := Tryz.zeroValue207
 t46 := Tryz.underlying208
 a46 := Tryz.isAgg208
 z46 := Tryz.sizeOf208
 v46 := Tryz.zeroValue208
 t50 := Tryz.underlying93
 a50 := Tryz.isAgg93
 z50 := Tryz.sizeOf93
 v50 := Tryz.zeroValue93
 t53 := Tryz.underlying214
 a53 := Tryz.isAgg214
 z53 := Tryz.sizeOf214
 v53 := Tryz.zeroValue214
 t55 := Tryz.underlying32
 a55 := Tryz.isAgg32
 z55 := Tryz.sizeOf32
 v55 := Tryz.zeroValue32
 t66 := Tryz.underlying256
 a66 := Tryz.isAgg256
 z66 := Tryz.sizeOf256
 v66 := Tryz.zeroValue256
 t70 := Tryz.underlying260
 a70 := Tryz.isAgg260
 z70 := Tryz.sizeOf260
 v70 := Tryz.zeroValue260
 t76 := Tryz.underlying290
 a76 := Tryz.isAgg290
 z76 := Tryz.sizeOf290
 v76 := Tryz.zeroValue290
 t77 := Tryz.underlying291
 a77 := Tryz.isAgg291
 z77 := Tryz.sizeOf291
 v77 := Tryz.zeroValue291 }
def nthS (X : List Spot) (x0 : Spot) (i : Nat) : Spot := X.getD i x0
def encX (X : List Spot) (x0 : Spot) (i : Nat) : List Value := enS (nthS X x0 i)
def cmpX (X : List Spot) (x0 : Spot) (i j : Nat) : Int := cmpI (nthS X x0 i).nd.id (nthS X x0 j).nd.id
theorem ltX (X : List Spot) (x0 : Spot) (i j : Nat) : ltOf (cmpX X x0) i j = decide ((nthS X x0 i).nd.id < (nthS X x0 j).nd.id) := by
 unfold ltOf cmpX cmpI
 by_cases h1 : (nthS X x0 i).nd.id < (nthS X x0 j).nd.id
 ·simp [h1]
 ·by_cases h2 : (nthS X x0 j).nd.id < (nthS X x0 i).nd.id <;> simp [h1, h2]
theorem swoX (X : List Spot) (x0 : Spot) : SWO (ltOf (cmpX X x0)) where
 irrefl x := by rw [ltX]; simp
 trans x y z h1 h2 := by rw [ltX] at *; simp at *; omega
 ntrans x y z h1 h2 := by rw [ltX] at *; simp at *; omega
theorem buildCmp_any (x y : Spot) (W : World) :
  Calls Tryz.prog 54 #[.agg (enS x).toArray, .agg (enS y).toArray] W fun e w' => e = .returned (.int .i64 (cmpI x.nd.id y.nd.id)) ∧ ∃ q os', w' = grow (W.drewN q) os' := by
 have C := fun W' => cmp_id x.nd.id y.nd.id W'
 generalize cmpI x.nd.id y.nd.id = r at C ⊢
 unfold enS
 go_enter Tryz.func54, Tryz.ntmps54
 go_wp2_with (go_at_call 49; refine (C _).mono ?_; rintro e w' ⟨rfl, rfl⟩)
 go_ret
 exact ⟨rfl, 0, _, by rw [alloc_eq_grow, alloc_eq_grow, grow_grow]; rfl⟩
theorem flatX (X : List Spot) (x0 : Spot) (d : Array Nat) : flatK (encX X x0) 21 d = rowS (d.toList.map (nthS X x0)) := by
 have hsz : (rowS (d.toList.map (nthS X x0))).size = d.size * 21 := by unfold rowS; rw [List.size_toArray, flatS_len]; simp
 refine Array.ext (by rw [size_flatK, hsz]) fun t h1 h2 => ?_
 rw [size_flatK] at h1
 have g1 := get_flatK (encX X x0) 21 d t h1
 have hi : t / 21 < d.size := by omega
 have g2 : (rowS (d.toList.map (nthS X x0)))[t]? = (enS (nthS X x0 d[t / 21]))[t % 21]? := by
  have e : t = t / 21 * 21 + t % 21 := by omega
  unfold rowS
  rw [List.getElem?_toArray]
  conv => lhs; rw [e]
  rw [flatS_get _ (t / 21) (by simpa using hi) (t % 21) (by omega)]
  simp
 have e1 : (flatK (encX X x0) 21 d)[t]! = (flatK (encX X x0) 21 d)[t]'(by rw [size_flatK]; exact h1) := by simp [h1]
 rw [← e1, g1]
 have e2 : d[t / 21]! = d[t / 21] := by simp [hi]
 rw [e2]
 have hl : t % 21 < (enS (nthS X x0 d[t / 21])).length := by rw [enS_len]; omega
 rw [List.getElem?_eq_getElem hl] at g2
 have h3 := (Array.getElem?_eq_some_iff.1 g2).2
 rw [h3]
 unfold encX
 simp [hl]
theorem range_nth (X : List Spot) (x0 : Spot) : (Array.range X.length).toList.map (nthS X x0) = X := by
 apply List.ext_getElem
 ·simp
 ·intro i h1 h2
  simp [nthS, h2]
theorem blk_put {w : World} {b : Nat} {cs F : Array Value} {T : TypeId} (h : Blk w b cs T) (hs : cs.size = F.size) (n : Nat) (os : Array Obj) : Blk (grow (putRow id (Sort.ahead w n) b 0 F) os) b F T := by
 unfold Blk at h ⊢
 have hlt : b < (putRow id (Sort.ahead w n) b 0 F).heap.size := by
  rw [size_putRow]; exact (Array.getElem?_eq_some_iff.1 h).1
 show ((putRow id (Sort.ahead w n) b 0 F).heap ++ os)[b]? = _
 rw [Array.getElem?_append_left hlt]
 show (w.heap.modify b _)[b]? = _
 rw [Array.getElem?_modify, if_pos rfl, h]
 simp only [Option.map_some, onCells]
 congr 2
 unfold putCells
 refine Array.ext (by simp [hs]) fun i h1 h2 => ?_
 simp [h2]
theorem upd_put (w : World) (b off n : Nat) (F : Array Value) (os : Array Obj) : Upd (fun k => k = b) w (grow (putRow id (Sort.ahead w n) b off F) os) := by
 refine ⟨rfl, rfl, rfl, ?_, fun k hk hn => ?_⟩
 ·rw [size_grow, size_putRow]; exact Nat.le_add_right _ _
 ·show ((putRow id (Sort.ahead w n) b off F).heap ++ os)[k]? = _
  rw [Array.getElem?_append_left (by rw [size_putRow]; exact hk)]
  show (w.heap.modify b _)[k]? = _
  rw [Array.getElem?_modify, if_neg (fun e => hn e.symm)]
theorem sortSp_any (sb : Nat) (X : List Spot) (w : World) (hB : Blk w sb (rowS X) 104) (hl : X.length ≤ 1000) :
  Calls Tryz.prog 53 #[.slice (some ⟨sb, 0, none⟩) X.length X.length, .func (.func 54) #[] #[]] w fun e w' => e = .returned (.tuple #[]) ∧ ∃ X' : List Spot, X.Perm X' ∧ X'.Pairwise (fun x y => x.nd.id ≤ y.nd.id) ∧ Blk w' sb (rowS X') 104 ∧ Upd (fun k => k = sb) w w' := by
 obtain ⟨x0, _⟩ : ∃ x0 : Spot, True := ⟨⟨⟨0, 0, 0, 0, [], ⟨#[]⟩, ⟨#[]⟩, 0, 0, 0, 0, [], []⟩, ⟨none, 0, none, 0, none, 0⟩, ⟨0, 0, 0, 0, 0, 0, 0⟩, none, 0, 0⟩, trivial⟩
 have eg : ∀ args w, (callFunc 54 args).run Tryz.prog w = .ok (.enter 54 args) w := enters_of Tryz.func54 (by kernel_rfl) rfl
 have hH : HoldsK (encX X x0) 21 w sb 0 (Array.range X.length) := by
  intro t ht
  rw [flatX, range_nth] at ht ⊢
  refine ⟨?_, hB.frozen _⟩
  rw [Nat.zero_add]
  refine hB.cell t ?_
  simp [ht]
 have hcon := AnyQ.slices_SortFunc Tryz.sortSp 21 Tryz.isAgg104 Tryz.sizeOf104 (encX X x0) (fun _ => rfl) (fun x v hv => by have := enS_one _ v hv; cases v <;> simp_all [Value.oneCell']) (cmpX X x0) (swoX X x0) 54 #[] sb 0 X.length (Array.range X.length) w eg (fun _ _ _ _ x y => buildCmp_any _ _ _) hH hB.lt (by simp; omega)
 rw [Array.size_range] at hcon
 refine hcon.mono ?_
 rintro e w' ⟨rfl, d', n, os, hp, hs, rfl⟩
 refine ⟨rfl, d'.toList.map (nthS X x0), ?_, ?_, ?_, ?_⟩
 ·obtain ⟨h1, _, h3⟩ := hp
  have e1 : (Array.range X.length).extract 0 X.length = Array.range X.length := by
   have := Array.extract_size (xs := Array.range X.length)
   rwa [Array.size_range] at this
  have e2 : d'.extract 0 X.length = d' := by
   rw [Array.size_range] at h1
   rw [← h1]; simp
  rw [e1, e2] at h3
  have h4 : (Array.range X.length).toList.Perm d'.toList := h3.symm
  have h5 := h4.map (nthS X x0)
  rwa [range_nth] at h5
 ·have hd : d'.size = X.length := by have := hp.1; rwa [Array.size_range] at this
  rw [List.pairwise_iff_getElem]
  intro i j hi hj hij
  simp at hi hj
  have := hs i j (Nat.zero_le _) hij (by omega)
  rw [ltX] at this
  have a : d'[i]! = d'[i] := by simp [hi]
  have b : d'[j]! = d'[j] := by simp [hj]
  rw [a, b] at this
  simp at this
  simpa using this
 ·have hd : d'.size = X.length := by have := hp.1; rwa [Array.size_range] at this
  unfold sortWorldK putRowK
  rw [flatX]
  refine blk_put hB ?_ n os
  unfold rowS
  rw [List.size_toArray, List.size_toArray, flatS_len, flatS_len]
  simp [hd]
 ·unfold sortWorldK putRowK
  exact upd_put w sb 0 n _ os
def cmpK (a b : Nod) : Int := orL [cmpI a.fr b.fr, cmpI a.id b.id]
theorem grown3 (W : World) (o1 o2 o3 : Obj) (n m : Nat) : ∃ q os', ((((W.alloc o1).alloc o2).drewN n).alloc o3).drewN m = grow (W.drewN q) os' := by
 refine ⟨n + m, #[o1] ++ #[o2] ++ #[o3], ?_⟩
 have e : ((W.heap.push o1).push o2).push o3 = W.heap ++ (#[o1] ++ #[o2] ++ #[o3]) := by
  apply Array.toList_inj.1
  simp
 simp only [World.alloc, World.drewN, grow]
 simp only [e, Nat.add_assoc]
structure CmpF (w : World) (f sb bx N i j : Nat) (x y : Spot) : Prop where
 all : w.cell? ⟨bx, 0, none⟩ = some (.pointer (some ⟨f, 0, none⟩)) ∧ w.cell? ⟨f, 0, none⟩ = some (.slice (some ⟨sb, 0, none⟩) N N) ∧ w.cell? ⟨sb, i * 21 + 13, none⟩ = some (.int .u64 x.nd.id) ∧ w.cell? ⟨sb, i * 21 + 13 + 1, none⟩ = some (.int .u64 x.nd.par) ∧ w.cell? ⟨sb, i * 21 + 13 + 2, none⟩ = some (.int .i64 x.nd.org) ∧ w.cell? ⟨sb, i * 21 + 13 + 3, none⟩ = some (.int .u64 x.nd.tree) ∧ w.cell? ⟨sb, i * 21 + 13 + 4, none⟩ = some (.int .i64 x.nd.dep) ∧ w.cell? ⟨sb, i * 21 + 13 + 5, none⟩ = some (.int .i64 x.nd.fr) ∧ w.cell? ⟨sb, i * 21 + 13 + 6, none⟩ = some (.int .i64 x.nd.til) ∧ w.cell? ⟨sb, j * 21 + 13, none⟩ = some (.int .u64 y.nd.id) ∧ w.cell? ⟨sb, j * 21 + 13 + 1, none⟩ = some (.int .u64 y.nd.par) ∧ w.cell? ⟨sb, j * 21 + 13 + 2, none⟩ = some (.int .i64 y.nd.org) ∧ w.cell? ⟨sb, j * 21 + 13 + 3, none⟩ = some (.int .u64 y.nd.tree) ∧ w.cell? ⟨sb, j * 21 + 13 + 4, none⟩ = some (.int .i64 y.nd.dep) ∧ w.cell? ⟨sb, j * 21 + 13 + 5, none⟩ = some (.int .i64 y.nd.fr) ∧ w.cell? ⟨sb, j * 21 + 13 + 6, none⟩ = some (.int .i64 y.nd.til)
set_option maxHeartbeats 4000000 in
theorem sortCmp_any (f sb bx : Nat) (X : List Spot) (i j N : Nat) (W : World) (hx : W.cell? ⟨bx, 0, none⟩ = some (.pointer (some ⟨f, 0, none⟩))) (hf : W.cell? ⟨f, 0, none⟩ = some (.slice (some ⟨sb, 0, none⟩) N N)) (hN : X.length = N) (hB : Blk W sb (rowS X) 104) (hi : i < N) (hj : j < N) :
  Calls Tryz.prog 137 #[.int .i64 i, .int .i64 j, .pointer (some ⟨bx, 0, none⟩)] W fun e w' => e = .returned (.int .i64 (cmpK (X[i]'(by omega)).nd (X[j]'(by omega)).nd)) ∧ ∃ q os', w' = grow (W.drewN q) os' := by
 have KP : ∀ w', Below W.heap.size W w' → CmpF w' f sb bx N i j (X[i]'(by omega)) (X[j]'(by omega)) := fun w' hb => by
  have hB' := hB.below hb hB.lt
  have si := hB'.spots i (by omega)
  have sj := hB'.spots j (by omega)
  exact ⟨(hb.cell (World.block_lt_of_cell? W _ hx)).trans hx, (hb.cell (World.block_lt_of_cell? W _ hf)).trans hf, si.c13, si.c14, si.c15, si.c16, si.c17, si.c18, si.c19, sj.c13, sj.c14, sj.c15, sj.c16, sj.c17, sj.c18, sj.c19⟩
 generalize (X[i]'(by omega)) = x at KP ⊢
 generalize (X[j]'(by omega)) = y at KP ⊢
 have K0 := (KP W (Below.refl _ _)).all
 have K1 := fun o => (KP (W.alloc o) ((Below.refl _ _).alloc (Nat.le_refl _) _)).all
 have K2 := fun o o' => (KP ((W.alloc o).alloc o') (((Below.refl _ _).alloc (Nat.le_refl _) _).alloc (by simp) _)).all
 obtain ⟨p0, p1, p2, p3, p4, p5, p6, p7, p8, p9, p10, p11, p12, p13, p14, p15⟩ := K0
 have q0 := fun o => (K1 o).1
 have r0 := fun o o' => (K2 o o').1
 have q1 := fun o => (K1 o).2.1
 have r1 := fun o o' => (K2 o o').2.1
 have q2 := fun o => (K1 o).2.2.1
 have r2 := fun o o' => (K2 o o').2.2.1
 have q3 := fun o => (K1 o).2.2.2.1
 have r3 := fun o o' => (K2 o o').2.2.2.1
 have q4 := fun o => (K1 o).2.2.2.2.1
 have r4 := fun o o' => (K2 o o').2.2.2.2.1
 have q5 := fun o => (K1 o).2.2.2.2.2.1
 have r5 := fun o o' => (K2 o o').2.2.2.2.2.1
 have q6 := fun o => (K1 o).2.2.2.2.2.2.1
 have r6 := fun o o' => (K2 o o').2.2.2.2.2.2.1
 have q7 := fun o => (K1 o).2.2.2.2.2.2.2.1
 have r7 := fun o o' => (K2 o o').2.2.2.2.2.2.2.1
 have q8 := fun o => (K1 o).2.2.2.2.2.2.2.2.1
 have r8 := fun o o' => (K2 o o').2.2.2.2.2.2.2.2.1
 have q9 := fun o => (K1 o).2.2.2.2.2.2.2.2.2.1
 have r9 := fun o o' => (K2 o o').2.2.2.2.2.2.2.2.2.1
 have q10 := fun o => (K1 o).2.2.2.2.2.2.2.2.2.2.1
 have r10 := fun o o' => (K2 o o').2.2.2.2.2.2.2.2.2.2.1
 have q11 := fun o => (K1 o).2.2.2.2.2.2.2.2.2.2.2.1
 have r11 := fun o o' => (K2 o o').2.2.2.2.2.2.2.2.2.2.2.1
 have q12 := fun o => (K1 o).2.2.2.2.2.2.2.2.2.2.2.2.1
 have r12 := fun o o' => (K2 o o').2.2.2.2.2.2.2.2.2.2.2.2.1
 have q13 := fun o => (K1 o).2.2.2.2.2.2.2.2.2.2.2.2.2.1
 have r13 := fun o o' => (K2 o o').2.2.2.2.2.2.2.2.2.2.2.2.2.1
 have q14 := fun o => (K1 o).2.2.2.2.2.2.2.2.2.2.2.2.2.2.1
 have r14 := fun o o' => (K2 o o').2.2.2.2.2.2.2.2.2.2.2.2.2.2.1
 have q15 := fun o => (K1 o).2.2.2.2.2.2.2.2.2.2.2.2.2.2.2
 have r15 := fun o o' => (K2 o o').2.2.2.2.2.2.2.2.2.2.2.2.2.2.2
 clear K1 K2
 clear hB hx hf KP
 have OR := fun w' n h => or_at w' n [cmpI x.nd.fr y.nd.fr, cmpI x.nd.id y.nd.id] h (by simp)
 simp only [List.map, List.length] at OR
 unfold cmpK
 go_enter Tryz.func137, Tryz.ntmps137
 go_wp2
 go_region
 ·clear p0 p1 p2 p3 p4 p5 p6 p7 p8 p9 p10 p11 p12 p13 p14 p15 q0 r0 q1 r1 q2 r2 q3 r3 q4 r4 q5 r5 q6 r6 q7 r7 q8 r8 q9 r9 q10 r10 q11 r11 q12 r12 q13 r13 q14 r14 q15 r15
  obtain ⟨V, hV⟩ : ∃ V, (((W.alloc (.cells #[.int .u64 x.nd.id, .int .u64 x.nd.par, .int .i64 x.nd.org, .int .u64 x.nd.tree, .int .i64 x.nd.dep, .int .i64 x.nd.fr, .int .i64 x.nd.til] 38)).alloc (.cells #[.int .u64 y.nd.id, .int .u64 y.nd.par, .int .i64 y.nd.org, .int .u64 y.nd.tree, .int .i64 y.nd.dep, .int .i64 y.nd.fr, .int .i64 y.nd.til] 38)).drew) = V := ⟨_, rfl⟩
  have v0 : V.cell? ⟨W.heap.size, 5, none⟩ = some (.int .i64 x.nd.fr) := by rw [← hV]; simp [go_sem, World.cell?_alloc_past]
  have v1 : V.cell? ⟨W.heap.size, 0, none⟩ = some (.int .u64 x.nd.id) := by rw [← hV]; simp [go_sem, World.cell?_alloc_past]
  have v2 : V.cell? ⟨W.heap.size + 1, 5, none⟩ = some (.int .i64 y.nd.fr) := by rw [← hV]; simp [go_sem]
  have v3 : V.cell? ⟨W.heap.size + 1, 0, none⟩ = some (.int .u64 y.nd.id) := by rw [← hV]; simp [go_sem]
  have n0 : ∀ o, (V.alloc o).cell? ⟨W.heap.size, 5, none⟩ = some (.int .i64 x.nd.fr) := fun o => (((Below.refl V.heap.size V).alloc (Nat.le_refl _) o).cell (p := ⟨_, 5, none⟩) (World.block_lt_of_cell? V _ v0)).trans v0
  have n1 : ∀ o, (V.alloc o).cell? ⟨W.heap.size, 0, none⟩ = some (.int .u64 x.nd.id) := fun o => (((Below.refl V.heap.size V).alloc (Nat.le_refl _) o).cell (p := ⟨_, 0, none⟩) (World.block_lt_of_cell? V _ v1)).trans v1
  have n2 : ∀ o, (V.alloc o).cell? ⟨W.heap.size + 1, 5, none⟩ = some (.int .i64 y.nd.fr) := fun o => (((Below.refl V.heap.size V).alloc (Nat.le_refl _) o).cell (p := ⟨_, 5, none⟩) (World.block_lt_of_cell? V _ v2)).trans v2
  have n3 : ∀ o, (V.alloc o).cell? ⟨W.heap.size + 1, 0, none⟩ = some (.int .u64 y.nd.id) := fun o => (((Below.refl V.heap.size V).alloc (Nat.le_refl _) o).cell (p := ⟨_, 0, none⟩) (World.block_lt_of_cell? V _ v3)).trans v3
  have HG : Hid (∀ o, ∃ q os', (V.alloc o).drew = grow (W.drewN q) os') := fun o => by rw [← hV]; exact grown3 W _ _ o 1 1
  rw [hV]
  clear hV
  go_wp2
  go_region_held3 (fun w' => w'.cell? ⟨W.heap.size, 5, none⟩ = some (.int .i64 x.nd.fr) ∧ w'.cell? ⟨W.heap.size, 0, none⟩ = some (.int .u64 x.nd.id) ∧ w'.cell? ⟨W.heap.size + 1, 5, none⟩ = some (.int .i64 y.nd.fr) ∧ w'.cell? ⟨W.heap.size + 1, 0, none⟩ = some (.int .u64 y.nd.id)) (simp [go_sem, v0, v1, v2, v3, n0, n1, n2, n3])
   (first
    | (go_at_call 102; refine (cmp_i64 _ _ _).mono ?_; rintro e w' ⟨rfl, rfl⟩)
    | (go_at_call 49; refine (cmp_id _ _ _).mono ?_; rintro e w' ⟨rfl, rfl⟩)
    | (go_at_call 101; refine (OR _ _ rfl).mono ?_; rintro e w' ⟨rfl, rfl⟩))
  go_wp2
  go_ret
  refine ⟨rfl, ?_⟩
  exact HG.out _
 ·clear p0 p1 p2 p3 p4 p5 p6 p7 p8 p9 p10 p11 p12 p13 p14 p15 q0 r0 q1 r1 q2 r2 q3 r3 q4 r4 q5 r5 q6 r6 q7 r7 q8 r8 q9 r9 q10 r10 q11 r11 q12 r12 q13 r13 q14 r14 q15 r15
  obtain ⟨V, hV⟩ : ∃ V, (((W.alloc (.cells #[.int .u64 y.nd.id, .int .u64 y.nd.par, .int .i64 y.nd.org, .int .u64 y.nd.tree, .int .i64 y.nd.dep, .int .i64 y.nd.fr, .int .i64 y.nd.til] 38)).alloc (.cells #[.int .u64 x.nd.id, .int .u64 x.nd.par, .int .i64 x.nd.org, .int .u64 x.nd.tree, .int .i64 x.nd.dep, .int .i64 x.nd.fr, .int .i64 x.nd.til] 38)).drew) = V := ⟨_, rfl⟩
  have v0 : V.cell? ⟨W.heap.size + 1, 5, none⟩ = some (.int .i64 x.nd.fr) := by rw [← hV]; simp [go_sem]
  have v1 : V.cell? ⟨W.heap.size + 1, 0, none⟩ = some (.int .u64 x.nd.id) := by rw [← hV]; simp [go_sem]
  have v2 : V.cell? ⟨W.heap.size, 5, none⟩ = some (.int .i64 y.nd.fr) := by rw [← hV]; simp [go_sem, World.cell?_alloc_past]
  have v3 : V.cell? ⟨W.heap.size, 0, none⟩ = some (.int .u64 y.nd.id) := by rw [← hV]; simp [go_sem, World.cell?_alloc_past]
  have n0 : ∀ o, (V.alloc o).cell? ⟨W.heap.size + 1, 5, none⟩ = some (.int .i64 x.nd.fr) := fun o => (((Below.refl V.heap.size V).alloc (Nat.le_refl _) o).cell (p := ⟨_, 5, none⟩) (World.block_lt_of_cell? V _ v0)).trans v0
  have n1 : ∀ o, (V.alloc o).cell? ⟨W.heap.size + 1, 0, none⟩ = some (.int .u64 x.nd.id) := fun o => (((Below.refl V.heap.size V).alloc (Nat.le_refl _) o).cell (p := ⟨_, 0, none⟩) (World.block_lt_of_cell? V _ v1)).trans v1
  have n2 : ∀ o, (V.alloc o).cell? ⟨W.heap.size, 5, none⟩ = some (.int .i64 y.nd.fr) := fun o => (((Below.refl V.heap.size V).alloc (Nat.le_refl _) o).cell (p := ⟨_, 5, none⟩) (World.block_lt_of_cell? V _ v2)).trans v2
  have n3 : ∀ o, (V.alloc o).cell? ⟨W.heap.size, 0, none⟩ = some (.int .u64 y.nd.id) := fun o => (((Below.refl V.heap.size V).alloc (Nat.le_refl _) o).cell (p := ⟨_, 0, none⟩) (World.block_lt_of_cell? V _ v3)).trans v3
  have HG : Hid (∀ o, ∃ q os', (V.alloc o).drew = grow (W.drewN q) os') := fun o => by rw [← hV]; exact grown3 W _ _ o 1 1
  rw [hV]
  clear hV
  go_wp2
  go_region_held3 (fun w' => w'.cell? ⟨W.heap.size + 1, 5, none⟩ = some (.int .i64 x.nd.fr) ∧ w'.cell? ⟨W.heap.size + 1, 0, none⟩ = some (.int .u64 x.nd.id) ∧ w'.cell? ⟨W.heap.size, 5, none⟩ = some (.int .i64 y.nd.fr) ∧ w'.cell? ⟨W.heap.size, 0, none⟩ = some (.int .u64 y.nd.id)) (simp [go_sem, v0, v1, v2, v3, n0, n1, n2, n3])
   (first
    | (go_at_call 102; refine (cmp_i64 _ _ _).mono ?_; rintro e w' ⟨rfl, rfl⟩)
    | (go_at_call 49; refine (cmp_id _ _ _).mono ?_; rintro e w' ⟨rfl, rfl⟩)
    | (go_at_call 101; refine (OR _ _ rfl).mono ?_; rintro e w' ⟨rfl, rfl⟩))
  go_wp2
  go_ret
  refine ⟨rfl, ?_⟩
  exact HG.out _
def Tryz.sortIn_ren : Go.Shelf.Ren := ⟨fun | 6 => 136 | 15 => 79 | 14 => 192 | 28 => 119 | 29 => 120 | 20 => 219 | 21 => 220 | 22 => 221 | 23 => 222 | 24 => 223 | 25 => 224 | 26 => 225 | 27 => 226 | 46 => 237 | 47 => 177 | 48 => 178 | 49 => 238 | 50 => 239 | 57 => 245 | n => n, fun | 22 => 90 | 24 => 3 | 25 => 229 | 3 => 3 | 39 => 168 | 0 => 0 | 53 => 214 | 55 => 32 | 4 => 4 | 46 => 208 | 45 => 207 | 50 => 93 | 5 => 5 | 9 => 9 | 66 => 256 | 70 => 260 | 76 => 290 | 77 => 291 | n => n, fun | n => n⟩
theorem Tryz.sortIn : Go.Proofs.SlLaysF.n6 Tryz.prog Tryz.sortIn_ren := {
 mixed := by kernel_rfl
 f6 := ⟨Tryz.f136.name, by decide, Tryz.func136.trans (congrArg some (by kernel_rfl))⟩
 f14 := ⟨Tryz.f192.name, by decide, Tryz.func192.trans (congrArg some (by kernel_rfl))⟩
 f15 := Tryz.func79.trans (congrArg some (by kernel_rfl))
 f20 := ⟨Tryz.f219.name, by decide, Tryz.func219.trans (congrArg some (by kernel_rfl))⟩
 f21 := ⟨Tryz.f220.name, by decide, Tryz.func220.trans (congrArg some (by kernel_rfl))⟩
 f22 := ⟨Tryz.f221.name, by decide, Tryz.func221.trans (congrArg some (by kernel_rfl))⟩
 f23 := ⟨Tryz.f222.name, by decide, Tryz.func222.trans (congrArg some (by kernel_rfl))⟩
 f24 := ⟨Tryz.f223.name, by decide, Tryz.func223.trans (congrArg some (by kernel_rfl))⟩
 f25 := ⟨Tryz.f224.name, by decide, Tryz.func224.trans (congrArg some (by kernel_rfl))⟩
 f26 := ⟨Tryz.f225.name, by decide, Tryz.func225.trans (congrArg some (by kernel_rfl))⟩
 f27 := ⟨Tryz.f226.name, by decide, Tryz.func226.trans (congrArg some (by kernel_rfl))⟩
 f28 := Tryz.func119.trans (congrArg some (by kernel_rfl))
 f29 := Tryz.func120.trans (congrArg some (by kernel_rfl))
 f46 := ⟨Tryz.f237.name, by decide, Tryz.func237.trans (congrArg some (by kernel_rfl))⟩
 f47 := Tryz.func177.trans (congrArg some (by kernel_rfl))
 f48 := Tryz.func178.trans (congrArg some (by kernel_rfl))
 f49 := ⟨Tryz.f238.name, by decide, Tryz.func238.trans (congrArg some (by kernel_rfl))⟩
 f50 := ⟨Tryz.f239.name, by decide, Tryz.func239.trans (congrArg some (by kernel_rfl))⟩
 f57 := ⟨Tryz.f245.name, by decide, Tryz.func245.trans (congrArg some (by kernel_rfl))⟩
 t0 := Tryz.underlying0
 a0 := Tryz.isAgg0
 z0 := Tryz.sizeOf0
 v0 := Tryz.zeroValue0
 t3 := Tryz.underlying3
 a3 := Tryz.isAgg3
 z3 := Tryz.sizeOf3
 v3 := Tryz.zeroValue3
 t4 := Tryz.underlying4
 a4 := Tryz.isAgg4
 z4 := Tryz.sizeOf4
 v4 := Tryz.zeroValue4
 t5 := Tryz.underlying5
 a5 := Tryz.isAgg5
 z5 := Tryz.sizeOf5
 v5 := Tryz.zeroValue5
 t9 := Tryz.underlying9
 a9 := Tryz.isAgg9
 z9 := Tryz.sizeOf9
 v9 := Tryz.zeroValue9
 t22 := Tryz.underlying90
 a22 := Tryz.isAgg90
 z22 := Tryz.sizeOf90
 v22 := Tryz.zeroValue90
 a24 := Tryz.isAgg3
 z24 := Tryz.sizeOf3
 t25 := Tryz.underlying229
 a25 := Tryz.isAgg229
 z25 := Tryz.sizeOf229
 v25 := Tryz.zeroValue229
 t39 := Tryz.underlying168
 a39 := Tryz.isAgg168
 z39 := Tryz.sizeOf168
 v39 := Tryz.zeroValue168
 t45 := Tryz.underlying207
 a45 := Tryz.isAgg207
 z45 := Tryz.sizeOf207
 v45 := Tryz.zeroValue207
 t46 := Tryz.underlying208
 a46 := Tryz.isAgg208
 z46 := Tryz.sizeOf208
 v46 := Tryz.zeroValue208
 t50 := Tryz.underlying93
 a50 := Tryz.isAgg93
 z50 := Tryz.sizeOf93
 v50 := Tryz.zeroValue93
 t53 := Tryz.underlying214
 a53 := Tryz.isAgg214
 z53 := Tryz.sizeOf214
 v53 := Tryz.zeroValue214
 t55 := Tryz.underlying32
 a55 := Tryz.isAgg32
 z55 := Tryz.sizeOf32
 v55 := Tryz.zeroValue32
 t66 := Tryz.underlying256
 a66 := Tryz.isAgg256
 z66 := Tryz.sizeOf256
 v66 := Tryz.zeroValue256
 t70 := Tryz.underlying260
 a70 := Tryz.isAgg260
 z70 := Tryz.sizeOf260
 v70 := Tryz.zeroValue260
 t76 := Tryz.underlying290
 a76 := Tryz.isAgg290
 z76 := Tryz.sizeOf290
 v76 := Tryz.zeroValue290
 t77 := Tryz.underlying291
 a77 := Tryz.isAgg291
 z77 := Tryz.sizeOf291
 v77 := Tryz.zeroValue291 }
def Tryz.sortIn0_ren : Go.Shelf.Ren := ⟨fun | 6 => 136 | 15 => 79 | 14 => 192 | 28 => 119 | 29 => 120 | 20 => 219 | 21 => 220 | 22 => 221 | 23 => 222 | 24 => 223 | 25 => 224 | 26 => 225 | 27 => 226 | 46 => 237 | 47 => 177 | 48 => 178 | 49 => 238 | 50 => 239 | 57 => 245 | n => n, fun | 22 => 90 | 24 => 3 | 25 => 229 | 3 => 3 | 39 => 168 | 0 => 0 | 53 => 214 | 55 => 32 | 4 => 4 | 46 => 208 | 45 => 207 | 50 => 93 | 5 => 5 | 9 => 9 | 66 => 256 | 70 => 260 | 76 => 290 | 77 => 291 | n => n, fun | n => n⟩
theorem Tryz.sortIn0 : Go.Proofs.SlLaysF0.n6 Tryz.prog Tryz.sortIn0_ren := {
 mixed := by kernel_rfl
 f6 := ⟨Tryz.f136.name, by decide, Tryz.func136.trans (congrArg some (by kernel_rfl))⟩
 f14 := ⟨Tryz.f192.name, by decide, Tryz.func192.trans (congrArg some (by kernel_rfl))⟩
 f15 := Tryz.func79.trans (congrArg some (by kernel_rfl))
 f20 := ⟨Tryz.f219.name, by decide, Tryz.func219.trans (congrArg some (by kernel_rfl))⟩
 f21 := ⟨Tryz.f220.name, by decide, Tryz.func220.trans (congrArg some (by kernel_rfl))⟩
 f22 := ⟨Tryz.f221.name, by decide, Tryz.func221.trans (congrArg some (by kernel_rfl))⟩
 f23 := ⟨Tryz.f222.name, by decide, Tryz.func222.trans (congrArg some (by kernel_rfl))⟩
 f24 := ⟨Tryz.f223.name, by decide, Tryz.func223.trans (congrArg some (by kernel_rfl))⟩
 f25 := ⟨Tryz.f224.name, by decide, Tryz.func224.trans (congrArg some (by kernel_rfl))⟩
 f26 := ⟨Tryz.f225.name, by decide, Tryz.func225.trans (congrArg some (by kernel_rfl))⟩
 f27 := ⟨Tryz.f226.name, by decide, Tryz.func226.trans (congrArg some (by kernel_rfl))⟩
 f28 := Tryz.func119.trans (congrArg some (by kernel_rfl))
 f29 := Tryz.func120.trans (congrArg some (by kernel_rfl))
 f46 := ⟨Tryz.f237.name, by decide, Tryz.func237.trans (congrArg some (by kernel_rfl))⟩
 f47 := Tryz.func177.trans (congrArg some (by kernel_rfl))
 f48 := Tryz.func178.trans (congrArg some (by kernel_rfl))
 f49 := ⟨Tryz.f238.name, by decide, Tryz.func238.trans (congrArg some (by kernel_rfl))⟩
 f50 := ⟨Tryz.f239.name, by decide, Tryz.func239.trans (congrArg some (by kernel_rfl))⟩
 f57 := ⟨Tryz.f245.name, by decide, Tryz.func245.trans (congrArg some (by kernel_rfl))⟩
 t0 := Tryz.underlying0
 a0 := Tryz.isAgg0
 z0 := Tryz.sizeOf0
 v0 := Tryz.zeroValue0
 t3 := Tryz.underlying3
 a3 := Tryz.isAgg3
 z3 := Tryz.sizeOf3
 v3 := Tryz.zeroValue3
 t4 := Tryz.underlying4
 a4 := Tryz.isAgg4
 z4 := Tryz.sizeOf4
 v4 := Tryz.zeroValue4
 t5 := Tryz.underlying5
 a5 := Tryz.isAgg5
 z5 := Tryz.sizeOf5
 v5 := Tryz.zeroValue5
 t9 := Tryz.underlying9
 a9 := Tryz.isAgg9
 z9 := Tryz.sizeOf9
 v9 := Tryz.zeroValue9
 t22 := Tryz.underlying90
 a22 := Tryz.isAgg90
 z22 := Tryz.sizeOf90
 v22 := Tryz.zeroValue90
 t25 := Tryz.underlying229
 a25 := Tryz.isAgg229
 z25 := Tryz.sizeOf229
 v25 := Tryz.zeroValue229
 t39 := Tryz.underlying168
 a39 := Tryz.isAgg168
 z39 := Tryz.sizeOf168
 v39 := Tryz.zeroValue168
 t45 := Tryz.underlying207
 a45 := Tryz.isAgg207
 z45 := Tryz.sizeOf207
 v45 := Tryz.zeroValue207
 t46 := Tryz.underlying208
 a46 := Tryz.isAgg208
 z46 := Tryz.sizeOf208
 v46 := Tryz.zeroValue208
 t50 := Tryz.underlying93
 a50 := Tryz.isAgg93
 z50 := Tryz.sizeOf93
 v50 := Tryz.zeroValue93
 t53 := Tryz.underlying214
 a53 := Tryz.isAgg214
 z53 := Tryz.sizeOf214
 v53 := Tryz.zeroValue214
 t55 := Tryz.underlying32
 a55 := Tryz.isAgg32
 z55 := Tryz.sizeOf32
 v55 := Tryz.zeroValue32
 t66 := Tryz.underlying256
 a66 := Tryz.isAgg256
 z66 := Tryz.sizeOf256
 v66 := Tryz.zeroValue256
 t70 := Tryz.underlying260
 a70 := Tryz.isAgg260
 z70 := Tryz.sizeOf260
 v70 := Tryz.zeroValue260
 t76 := Tryz.underlying290
 a76 := Tryz.isAgg290
 z76 := Tryz.sizeOf290
 v76 := Tryz.zeroValue290
 t77 := Tryz.underlying291
 a77 := Tryz.isAgg291
 z77 := Tryz.sizeOf291
 v77 := Tryz.zeroValue291 }
def ltK (a b : Nod) : Prop := a.fr < b.fr ∨ a.fr = b.fr ∧ a.id < b.id
theorem cmpK_lt (a b : Nod) : cmpK a b < 0 ↔ ltK a b := by
 unfold cmpK ltK orL orL orL orI cmpI
 by_cases h1 : a.fr < b.fr
 ·simp [h1]
 ·by_cases h2 : b.fr < a.fr
  ·simp [h1, h2]; omega
  ·have h3 : a.fr = b.fr := by omega
   by_cases h4 : a.id < b.id
   ·simp [h4, h3]
   ·by_cases h5 : b.id < a.id <;> simp [h4, h5, h3]
def encF {m : Nat} (i : Fin m) : Value := .int .i64 (i.val : Int)
def cmpF (X : List Spot) (x0 : Spot) {m : Nat} (i j : Fin m) : Int := cmpK (nthS X x0 i).nd (nthS X x0 j).nd
theorem ltF (X : List Spot) (x0 : Spot) {m : Nat} (i j : Fin m) : ltOf (cmpF X x0) i j = true ↔ ltK (nthS X x0 i).nd (nthS X x0 j).nd := by
 unfold ltOf cmpF
 rw [← cmpK_lt]
 simp
theorem swoF (X : List Spot) (x0 : Spot) (m : Nat) : SWO (ltOf (cmpF X x0 (m := m))) where
 irrefl x := by
  rw [Bool.eq_false_iff, ne_eq, ltF]; unfold ltK; omega
 trans x y z h1 h2 := by
  rw [ltF] at *; unfold ltK at *; omega
 ntrans x y z h1 h2 := by
  rw [Bool.eq_false_iff, ne_eq, ltF] at *; unfold ltK at *; omega
theorem upd_sortW {α : Type} [Inhabited α] (enc : α → Value) (w : World) (b off n : Nat) (d : Array α) (os : Array Obj) : Upd (fun k => k = b) w (sortWorld enc w b off n d os) := by
 unfold sortWorld
 refine ⟨rfl, rfl, rfl, ?_, fun k hk hn => ?_⟩
 ·rw [size_grow, size_putRow]; exact Nat.le_add_right _ _
 ·show ((putRow enc (Sort.ahead w n) b off d).heap ++ os)[k]? = _
  rw [Array.getElem?_append_left (by rw [size_putRow]; exact hk)]
  show (w.heap.modify b _)[k]? = _
  rw [Array.getElem?_modify, if_neg (fun e => hn e.symm)]
theorem heap_sortW {α : Type} [Inhabited α] (enc : α → Value) {w : World} {b : Nat} {cs : Array Value} {T : TypeId} (h : w.heap[b]? = some (.cells cs T (0, 0))) (n : Nat) (d : Array α) (os : Array Obj) : (sortWorld enc w b 0 n d os).heap[b]? = some (.cells (putCells enc 0 d cs) T (0, 0)) := by
 unfold sortWorld
 have hlt : b < (putRow enc (Sort.ahead w n) b 0 d).heap.size := by
  rw [size_putRow]; exact (Array.getElem?_eq_some_iff.1 h).1
 show ((putRow enc (Sort.ahead w n) b 0 d).heap ++ os)[b]? = _
 rw [Array.getElem?_append_left hlt]
 show (w.heap.modify b _)[b]? = _
 rw [Array.getElem?_modify, if_pos rfl, h]
 rfl
theorem take_put {α : Type} [Inhabited α] (enc : α → Value) (d : Array α) (cs : Array Value) (h : d.size ≤ cs.size) : (putCells enc 0 d cs).toList.take d.size = d.toList.map enc := by
 apply List.ext_getElem
 ·simp [putCells]; omega
 ·intro i h1 h2
  have hi : i < d.size := by simpa using h2
  simp [putCells, hi]
theorem sort_any (f sb base : Nat) (X : List Spot) (v : Value) (n : Nat) (L : List Int) (w : World) (hf : w.cell? ⟨f, 0, none⟩ = some (.slice (some ⟨sb, 0, none⟩) X.length X.length)) (hB : Blk w sb (rowS X) 104) (hv : w.ownsRow base 3 1 v n (L.map (Value.int .i64))) (hm : ∀ x ∈ L, 0 ≤ x ∧ x < X.length) (hnn : n ≤ 1000) (hfb : v.ownBlock ≠ some f) (hsb : v.ownBlock ≠ some sb) :
  Calls Tryz.prog 89 #[.pointer (some ⟨f, 0, none⟩), v] w fun e w' => e = .returned (.tuple #[]) ∧ ∃ L' : List Int, L.Perm L' ∧ L'.Pairwise (fun i j => ∀ (hi : i.toNat < X.length) (hj : j.toNat < X.length), ¬ ltK X[j.toNat].nd X[i.toNat].nd) ∧ w'.ownsRow base 3 1 v n (L'.map (Value.int .i64)) ∧ Upd (fun k => v.ownBlock = some k) w w' := by
 obtain ⟨W, hW⟩ : ∃ W, w.alloc (.cells #[.pointer (some ⟨f, 0, none⟩)] 24) = W := ⟨_, rfl⟩
 have hbW : Below w.heap.size w W := by rw [← hW]; exact (Below.refl _ _).alloc (Nat.le_refl _) _
 have hsz : W.heap.size = w.heap.size + 1 := by rw [← hW]; simp
 have cx : W.cell? ⟨w.heap.size, 0, none⟩ = some (.pointer (some ⟨f, 0, none⟩)) := by rw [← hW]; simp [go_sem]
 have cf : W.cell? ⟨f, 0, none⟩ = some (.slice (some ⟨sb, 0, none⟩) X.length X.length) := (hbW.cell (World.block_lt_of_cell? w _ hf)).trans hf
 have hBW := hB.below hbW hB.lt
 have hflt : f < w.heap.size := World.block_lt_of_cell? w _ hf
 have hslt := hB.lt
 have huW : Upd (fun _ => False) w W := Upd.ofBelow hbW (fun k h1 h2 => by omega)
 have hvW := ownsRow_upd hv huW (fun _ _ h => h)
 have SORT : Calls Tryz.prog 136 #[v, .func (.func 137) #[] #[.pointer (some ⟨w.heap.size, 0, none⟩)]] W fun e w' => e = .returned (.tuple #[]) ∧ ∃ L' : List Int, L.Perm L' ∧ L'.Pairwise (fun i j => ∀ (hi : i.toNat < X.length) (hj : j.toNat < X.length), ¬ ltK X[j.toNat].nd X[i.toNat].nd) ∧ w'.ownsRow base 3 1 v n (L'.map (Value.int .i64)) ∧ Upd (fun k => v.ownBlock = some k) W w' := by
  have hln : L.length = n := by have := hvW.1; simp at this; omega
  rcases hvW.2 with ⟨rfl, rfl⟩ | ⟨g, cap, cur, rfl, hbg, hh, hnc, hcm, hcs, ht⟩
  ·have hL : L = [] := List.eq_nil_of_length_eq_zero hln
   subst hL
   refine (AnyF.slices_SortFunc_none Tryz.sortIn0 none 0 _ W).mono ?_
   rintro e w' ⟨rfl, rfl⟩
   exact ⟨rfl, [], List.Perm.refl _, List.Pairwise.nil, hvW, Upd.refl _ _⟩
  ·by_cases hX : X.length = 0
   ·have hL : L = [] := by
     cases L with
     | nil => rfl
     | cons x r => have := hm x (by simp); omega
    subst hL
    simp at hln
    subst hln
    refine (AnyF.slices_SortFunc_none Tryz.sortIn0 _ cap _ W).mono ?_
    rintro e w' ⟨rfl, rfl⟩
    exact ⟨rfl, [], List.Perm.refl _, List.Pairwise.nil, hvW, Upd.refl _ _⟩
   ·obtain ⟨m, hmX⟩ : ∃ m, X.length = m + 1 := ⟨X.length - 1, by omega⟩
    have x0 : Spot := X[0]'(by omega)
    obtain ⟨d, hd⟩ : ∃ d : Array (Fin (m + 1)), d = (L.map (fun x => Fin.ofNat (m + 1) x.toNat)).toArray := ⟨_, rfl⟩
    have hds : d.size = n := by rw [hd]; simp [hln]
    have henc : ∀ x ∈ L, encF (Fin.ofNat (m + 1) x.toNat) = Value.int .i64 x := fun x hx => by
     have := hm x hx
     unfold encF
     have e : (Fin.ofNat (m + 1) x.toNat).val = x.toNat := by simp [Fin.ofNat]; omega
     rw [e]
     congr 1
     omega
    have hdm : d.toList.map encF = L.map (Value.int .i64) := by
     rw [hd]
     simp only [List.map_map]
     exact List.map_congr_left fun x hx => henc x hx
    have hgl : g < W.heap.size := lt_of_block hh
    have hgf : g ≠ f := fun e => hfb (by simp [Value.ownBlock, e])
    have hgs : g ≠ sb := fun e => hsb (by simp [Value.ownBlock, e])
    have hgw : g ≠ w.heap.size := fun e => by
     rw [e, ← hW, heap_alloc_new] at hh
     have := hv
     rcases hv.2 with ⟨h1, _⟩ | ⟨g2, cap2, cur2, h1, _, h2, _⟩
     ·simp at h1
     ·simp at h1
      have := lt_of_block h2
      omega
    have hH : Go.Sort.Holds encF W g 0 d := by
     intro j hj
     rw [hds] at hj
     have hjc : j < cur.size := by omega
     have hge : cur.toList[j]'(by simpa using hjc) = encF d[j]! := by
      have e1 : (cur.toList.take (n * 1))[j]? = (d.toList.map encF)[j]? := by rw [ht, hdm]
      rw [List.getElem?_take_of_lt (by omega), List.getElem?_eq_getElem (by simpa using hjc)] at e1
      rw [List.getElem?_eq_getElem (by simp; omega)] at e1
      simp at e1
      rw [show d[j]! = d[j]'(by omega) by simp [hds, hj]]
      simpa using e1
     refine ⟨?_, by simp [World.frozen?, hh]⟩
     simp only [Nat.zero_add, World.cell?, hh]
     simp at hge
     simp [hjc, hge]
    have eg : ∀ args w, (callFunc 137 args).run Tryz.prog w = .ok (.enter 137 args) w := enters_of Tryz.func137 (by kernel_rfl) rfl
    have hcmp : CmpLays1 Tryz.prog 137 #[.pointer (some ⟨w.heap.size, 0, none⟩)] (encF (m := m + 1)) (cmpF X x0) g 0 d.size W := by
     intro q os dk _ x y
     have hu := upd_sortW encF W g 0 q dk os
     have c1 : (sortWorld encF W g 0 q dk os).cell? ⟨w.heap.size, 0, none⟩ = some (.pointer (some ⟨f, 0, none⟩)) := by
      have := hu.block w.heap.size (by omega) (fun e => hgw e.symm)
      simp only [World.cell?, this] at cx ⊢; exact cx
     have c2 : (sortWorld encF W g 0 q dk os).cell? ⟨f, 0, none⟩ = some (.slice (some ⟨sb, 0, none⟩) X.length X.length) := by
      have := hu.block f (by omega) (fun e => hgf e.symm)
      simp only [World.cell?, this] at cf ⊢; exact cf
     have c3 := hBW.upd hu (fun e => hgs e.symm)
     have hx : x.val < X.length := by have := x.isLt; omega
     have hy : y.val < X.length := by have := y.isLt; omega
     have := sortCmp_any f sb w.heap.size X x.val y.val X.length _ c1 c2 rfl c3 hx hy
     have e1 : cmpF X x0 x y = cmpK (X[x.val]'hx).nd (X[y.val]'hy).nd := by unfold cmpF nthS; simp [hx, hy]
     rw [e1]
     exact this
    have hcon := Any.slices_SortFunc Tryz.sortIn encF (fun _ => rfl) (cmpF X x0) (swoF X x0 (m + 1)) 137 #[.pointer (some ⟨w.heap.size, 0, none⟩)] g 0 cap d W eg hcmp hH hgl (by rw [hds]; omega)
    rw [hds] at hcon
    refine hcon.mono ?_
    rintro e w' ⟨rfl, d', q, os, hp, hs, rfl⟩
    have hd' : d'.size = n := by have := hp.1; omega
    refine ⟨rfl, d'.toList.map (fun i => (i.val : Int)), ?_, ?_, ?_, ?_⟩
    ·obtain ⟨h1, _, h3⟩ := hp
     have e1 : d.extract 0 n = d := by rw [← hds]; simp
     have e2 : d'.extract 0 n = d' := by rw [← hd']; simp
     rw [e1, e2] at h3
     have h4 : d.toList.Perm d'.toList := h3.symm
     have h5 := h4.map (fun i : Fin (m + 1) => (i.val : Int))
     have e3 : d.toList.map (fun i : Fin (m + 1) => (i.val : Int)) = L := by
      rw [hd]
      simp only [List.map_map]
      conv => rhs; rw [← List.map_id L]
      refine List.map_congr_left fun x hx => ?_
      have := hm x hx
      have e : (Fin.ofNat (m + 1) x.toNat).val = x.toNat := by simp [Fin.ofNat]; omega
      simp only [Function.comp, e, id]
      omega
     rwa [e3] at h5
    ·rw [List.pairwise_map, List.pairwise_iff_getElem]
     intro i j hi hj hij h1 h2 hlt
     simp at hi hj
     have h3 := hs i j (Nat.zero_le _) hij (by omega)
     rw [Bool.eq_false_iff, ne_eq, ltF] at h3
     refine h3 ?_
     have a1 : d'[i]! = d'[i] := by simp [hi]
     have a2 : d'[j]! = d'[j] := by simp [hj]
     rw [a1, a2]
     unfold nthS
     simp at hlt
     have b1 : (d'[i]'hi).val < X.length := by have := (d'[i]'hi).isLt; omega
     have b2 : (d'[j]'hj).val < X.length := by have := (d'[j]'hj).isLt; omega
     simpa [b1, b2] using hlt
    ·refine ⟨by simp; omega, Or.inr ⟨g, cap, putCells encF 0 d' cur, rfl, hbg, heap_sortW encF hh q d' os, hnc, hcm, by simp [putCells, hcs], ?_⟩⟩
     have := take_put encF d' cur (by omega)
     rw [hd'] at this
     rw [Nat.mul_one, this, List.map_map]
     rfl
    ·exact (upd_sortW encF W g 0 q d' os).mono (fun k _ e => by simp [Value.ownBlock, e])
 have HW : Hid (∀ w', Upd (fun k => v.ownBlock = some k) W w' → Upd (fun k => v.ownBlock = some k) w w') := fun w' hu => (huW.mono (fun _ _ h => h.elim)).trans hu (fun _ _ h => h)
 clear huW hvW hBW cx cf hB hv hm hf hfb hsb hbW hflt hslt
 rw [← hW] at SORT HW
 clear hW hsz
 go_enter Tryz.func89, Tryz.ntmps89
 go_wp2_with (go_at_call 136; refine SORT.mono ?_; rintro e w1 ⟨rfl, L', h1, h2, h3, h4⟩)
 go_end0
 exact ⟨rfl, L', h1, h2, h3, HW.out _ h4⟩
end Go.Proofs.YtnffedmcblbkoaaGreatDoor
