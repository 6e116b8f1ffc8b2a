/-
  FS.
-/
import Derived.Test.YtkdgnhohecifoaaDoorMa17
import Derived.Shelf.SlSortCmp.WholeK
import Derived.Shelf.Lay
import Derived.Ground.SlsfProg
namespace Go.Proofs.YtkdgnhohecifoaaDoor
open Go Go.Shelf Go.RowKit Go.Lib Go.Sort
set_option maxRecDepth 100000

def Tryd.sortSp_ren : Go.Shelf.Ren := ⟨fun | 6 => 17 | 15 => 33 | 14 => 32 | 28 => 57 | 29 => 58 | 20 => 49 | 21 => 50 | 22 => 51 | 23 => 52 | 24 => 53 | 25 => 54 | 26 => 55 | 27 => 56 | 46 => 74 | 47 => 75 | 48 => 76 | 49 => 77 | 50 => 78 | 57 => 86 | n => n, fun | 22 => 59 | 24 => 65 | 25 => 68 | 3 => 3 | 39 => 92 | 0 => 0 | 53 => 113 | 55 => 27 | 4 => 4 | 46 => 107 | 45 => 106 | 50 => 69 | 5 => 5 | 9 => 9 | 66 => 129 | 70 => 133 | 76 => 145 | 77 => 146 | n => n, fun | n => n⟩
theorem Tryd.sortSp : Go.Proofs.SlLaysF0.n6 Tryd.prog Tryd.sortSp_ren := {
  mixed := by kernel_rfl
  f6 := ⟨Tryd.f17.name, by decide, Tryd.func17.trans (congrArg some (by kernel_rfl))⟩
  f14 := ⟨Tryd.f32.name, by decide, Tryd.func32.trans (congrArg some (by kernel_rfl))⟩
  f15 := Tryd.func33.trans (congrArg some (by kernel_rfl))
  f20 := ⟨Tryd.f49.name, by decide, Tryd.func49.trans (congrArg some (by kernel_rfl))⟩
  f21 := ⟨Tryd.f50.name, by decide, Tryd.func50.trans (congrArg some (by kernel_rfl))⟩
  f22 := ⟨Tryd.f51.name, by decide, Tryd.func51.trans (congrArg some (by kernel_rfl))⟩
  f23 := ⟨Tryd.f52.name, by decide, Tryd.func52.trans (congrArg some (by kernel_rfl))⟩
  f24 := ⟨Tryd.f53.name, by decide, Tryd.func53.trans (congrArg some (by kernel_rfl))⟩
  f25 := ⟨Tryd.f54.name, by decide, Tryd.func54.trans (congrArg some (by kernel_rfl))⟩
  f26 := ⟨Tryd.f55.name, by decide, Tryd.func55.trans (congrArg some (by kernel_rfl))⟩
  f27 := ⟨Tryd.f56.name, by decide, Tryd.func56.trans (congrArg some (by kernel_rfl))⟩
  f28 := Tryd.func57.trans (congrArg some (by kernel_rfl))
  f29 := Tryd.func58.trans (congrArg some (by kernel_rfl))
  f46 := ⟨Tryd.f74.name, by decide, Tryd.func74.trans (congrArg some (by kernel_rfl))⟩
  f47 := Tryd.func75.trans (congrArg some (by kernel_rfl))
  f48 := Tryd.func76.trans (congrArg some (by kernel_rfl))
  f49 := ⟨Tryd.f77.name, by decide, Tryd.func77.trans (congrArg some (by kernel_rfl))⟩
  f50 := ⟨Tryd.f78.name, by decide, Tryd.func78.trans (congrArg some (by kernel_rfl))⟩
  f57 := ⟨Tryd.f86.name, by decide, Tryd.func86.trans (congrArg some (by kernel_rfl))⟩
  t0 := Tryd.underlying0
  a0 := Tryd.isAgg0
  z0 := Tryd.sizeOf0
  v0 := Tryd.zeroValue0
  t3 := Tryd.underlying3
  a3 := Tryd.isAgg3
  z3 := Tryd.sizeOf3
  v3 := Tryd.zeroValue3
  t4 := Tryd.underlying4
  a4 := Tryd.isAgg4
  z4 := Tryd.sizeOf4
  v4 := Tryd.zeroValue4
  t5 := Tryd.underlying5
  a5 := Tryd.isAgg5
  z5 := Tryd.sizeOf5
  v5 := Tryd.zeroValue5
  t9 := Tryd.underlying9
  a9 := Tryd.isAgg9
  z9 := Tryd.sizeOf9
  v9 := Tryd.zeroValue9
  t22 := Tryd.underlying59
  a22 := Tryd.isAgg59
  z22 := Tryd.sizeOf59
  v22 := Tryd.zeroValue59
  t25 := Tryd.underlying68
  a25 := Tryd.isAgg68
  z25 := Tryd.sizeOf68
  v25 := Tryd.zeroValue68
  t39 := Tryd.underlying92
  a39 := Tryd.isAgg92
  z39 := Tryd.sizeOf92
  v39 := Tryd.zeroValue92
  t45 := Tryd.underlying106
  a45 := Tryd.isAgg106
  z45 := Tryd.sizeOf106
  v45 := Tryd.zeroValue106
  t46 := Tryd.underlying107
  a46 := Tryd.isAgg107
  z46 := Tryd.sizeOf107
  v46 := Tryd.zeroValue107
  t50 := Tryd.underlying69
  a50 := Tryd.isAgg69
  z50 := Tryd.sizeOf69
  v50 := Tryd.zeroValue69
  t53 := Tryd.underlying113
  a53 := Tryd.isAgg113
  z53 := Tryd.sizeOf113
  v53 := Tryd.zeroValue113
  t55 := Tryd.underlying27
  a55 := Tryd.isAgg27
  z55 := Tryd.sizeOf27
  v55 := Tryd.zeroValue27
  t66 := Tryd.underlying129
  a66 := Tryd.isAgg129
  z66 := Tryd.sizeOf129
  v66 := Tryd.zeroValue129
  t70 := Tryd.underlying133
  a70 := Tryd.isAgg133
  z70 := Tryd.sizeOf133
  v70 := Tryd.zeroValue133
  t76 := Tryd.underlying145
  a76 := Tryd.isAgg145
  z76 := Tryd.sizeOf145
  v76 := Tryd.zeroValue145
  t77 := Tryd.underlying146
  a77 := Tryd.isAgg146
  z77 := Tryd.sizeOf146
  v77 := Tryd.zeroValue146 }

/-- A spot by its number in a list. -/
def nthS (X : List Spot) (x0 : Spot) (i : Nat) : Spot := X.getD i x0
def encX (X : List Spot) (x0 : Spot) (i : Nat) : List Value := enS (nthS X x0 i)
def cmpX (X : List Spot) (x0 : Spot) (i j : Nat) : Int := cmpI (nthS X x0 i).nd.id (nthS X x0 j).nd.id
theorem ltX (X : List Spot) (x0 : Spot) (i j : Nat) : ltOf (cmpX X x0) i j = decide ((nthS X x0 i).nd.id < (nthS X x0 j).nd.id) := by
  unfold ltOf cmpX cmpI
  by_cases h1 : (nthS X x0 i).nd.id < (nthS X x0 j).nd.id
  · simp [h1]
  · by_cases h2 : (nthS X x0 j).nd.id < (nthS X x0 i).nd.id <;> simp [h1, h2]
theorem swoX (X : List Spot) (x0 : Spot) : SWO (ltOf (cmpX X x0)) where
  irrefl x := by rw [ltX]; simp
  trans x y z h1 h2 := by rw [ltX] at *; simp at *; omega
  ntrans x y z h1 h2 := by rw [ltX] at *; simp at *; omega
theorem buildCmp_any (x y : Spot) (W : World) :
    Calls Tryd.prog 18 #[.agg (enS x).toArray, .agg (enS y).toArray] W fun e w' => e = .returned (.int .i64 (cmpI x.nd.id y.nd.id)) ∧ ∃ q os', w' = grow (W.drewN q) os' := by
  have C := fun W' => cmp_id x.nd.id y.nd.id W'
  generalize cmpI x.nd.id y.nd.id = r at C ⊢
  unfold enS
  go_enter Tryd.func18, Tryd.ntmps18
  go_wp2_with (go_at_call 19; refine (C _).mono ?_; rintro e w' ⟨rfl, rfl⟩)
  go_ret
  exact ⟨rfl, 0, _, by rw [alloc_eq_grow, alloc_eq_grow, grow_grow]; rfl⟩
theorem flatX (X : List Spot) (x0 : Spot) (d : Array Nat) : flatK (encX X x0) 21 d = rowS (d.toList.map (nthS X x0)) := by
  have hsz : (rowS (d.toList.map (nthS X x0))).size = d.size * 21 := by unfold rowS; rw [List.size_toArray, flatS_len]; simp
  refine Array.ext (by rw [size_flatK, hsz]) fun t h1 h2 => ?_
  rw [size_flatK] at h1
  have g1 := get_flatK (encX X x0) 21 d t h1
  have hi : t / 21 < d.size := by omega
  have g2 : (rowS (d.toList.map (nthS X x0)))[t]? = (enS (nthS X x0 d[t / 21]))[t % 21]? := by
    have e : t = t / 21 * 21 + t % 21 := by omega
    unfold rowS
    rw [List.getElem?_toArray]
    conv => lhs; rw [e]
    rw [flatS_get _ (t / 21) (by simpa using hi) (t % 21) (by omega)]
    simp
  have e1 : (flatK (encX X x0) 21 d)[t]! = (flatK (encX X x0) 21 d)[t]'(by rw [size_flatK]; exact h1) := by simp [h1]
  rw [← e1, g1]
  have e2 : d[t / 21]! = d[t / 21] := by simp [hi]
  rw [e2]
  have hl : t % 21 < (enS (nthS X x0 d[t / 21])).length := by rw [enS_len]; omega
  rw [List.getElem?_eq_getElem hl] at g2
  have h3 := (Array.getElem?_eq_some_iff.1 g2).2
  rw [h3]
  unfold encX
  simp [hl]
theorem range_nth (X : List Spot) (x0 : Spot) : (Array.range X.length).toList.map (nthS X x0) = X := by
  apply List.ext_getElem
  · simp
  · intro i h1 h2
    simp [nthS, h2]
theorem blk_put {w : World} {b : Nat} {cs F : Array Value} {T : TypeId} (h : Blk w b cs T) (hs : cs.size = F.size) (n : Nat) (os : Array Obj) : Blk (grow (putRow id (Sort.ahead w n) b 0 F) os) b F T := by
  unfold Blk at h ⊢
  have hlt : b < (putRow id (Sort.ahead w n) b 0 F).heap.size := by
    rw [size_putRow]; exact (Array.getElem?_eq_some_iff.1 h).1
  show ((putRow id (Sort.ahead w n) b 0 F).heap ++ os)[b]? = _
  rw [Array.getElem?_append_left hlt]
  show (w.heap.modify b _)[b]? = _
  rw [Array.getElem?_modify, if_pos rfl, h]
  simp only [Option.map_some, onCells]
  congr 2
  unfold putCells
  refine Array.ext (by simp [hs]) fun i h1 h2 => ?_
  simp [h2]
theorem upd_put (w : World) (b off n : Nat) (F : Array Value) (os : Array Obj) : Upd (fun k => k = b) w (grow (putRow id (Sort.ahead w n) b off F) os) := by
  refine ⟨rfl, rfl, rfl, ?_, fun k hk hn => ?_⟩
  · rw [size_grow, size_putRow]; exact Nat.le_add_right _ _
  · show ((putRow id (Sort.ahead w n) b off F).heap ++ os)[k]? = _
    rw [Array.getElem?_append_left (by rw [size_putRow]; exact hk)]
    show (w.heap.modify b _)[k]? = _
    rw [Array.getElem?_modify, if_neg (fun e => hn e.symm)]
theorem sortSp_any (sb : Nat) (X : List Spot) (w : World) (hB : Blk w sb (rowS X) 65) (hl : X.length ≤ 1000) :
    Calls Tryd.prog 17 #[.slice (some ⟨sb, 0, none⟩) X.length X.length, .func (.func 18) #[] #[]] w fun e w' => e = .returned (.tuple #[]) ∧ ∃ X' : List Spot, X.Perm X' ∧ X'.Pairwise (fun x y => x.nd.id ≤ y.nd.id) ∧ Blk w' sb (rowS X') 65 ∧ Upd (fun k => k = sb) w w' := by
  obtain ⟨x0, _⟩ : ∃ x0 : Spot, True := ⟨⟨⟨0, 0, 0, 0, [], ⟨#[]⟩, ⟨#[]⟩, 0, 0, 0, 0, [], []⟩, ⟨none, 0, none, 0, none, 0⟩, ⟨0, 0, 0, 0, 0, 0, 0⟩, none, 0, 0⟩, trivial⟩
  have eg : ∀ args w, (callFunc 18 args).run Tryd.prog w = .ok (.enter 18 args) w := enters_of Tryd.func18 (by kernel_rfl) rfl
  have hH : HoldsK (encX X x0) 21 w sb 0 (Array.range X.length) := by
    intro t ht
    rw [flatX, range_nth] at ht ⊢
    refine ⟨?_, hB.frozen _⟩
    rw [Nat.zero_add]
    refine hB.cell t ?_
    simp [ht]
  have hcon := AnyQ.slices_SortFunc Tryd.sortSp 21 Tryd.isAgg65 Tryd.sizeOf65 (encX X x0) (fun _ => rfl) (fun x v hv => by have := enS_one _ v hv; cases v <;> simp_all [Value.oneCell']) (cmpX X x0) (swoX X x0) 18 #[] sb 0 X.length (Array.range X.length) w eg (fun _ _ _ _ x y => buildCmp_any _ _ _) hH hB.lt (by simp; omega)
  rw [Array.size_range] at hcon
  refine hcon.mono ?_
  rintro e w' ⟨rfl, d', n, os, hp, hs, rfl⟩
  refine ⟨rfl, d'.toList.map (nthS X x0), ?_, ?_, ?_, ?_⟩
  · obtain ⟨h1, _, h3⟩ := hp
    have e1 : (Array.range X.length).extract 0 X.length = Array.range X.length := by
      have := Array.extract_size (xs := Array.range X.length)
      rwa [Array.size_range] at this
    have e2 : d'.extract 0 X.length = d' := by
      rw [Array.size_range] at h1
      rw [← h1]; simp
    rw [e1, e2] at h3
    have h4 : (Array.range X.length).toList.Perm d'.toList := h3.symm
    have h5 := h4.map (nthS X x0)
    rwa [range_nth] at h5
  · have hd : d'.size = X.length := by have := hp.1; rwa [Array.size_range] at this
    rw [List.pairwise_iff_getElem]
    intro i j hi hj hij
    simp at hi hj
    have := hs i j (Nat.zero_le _) hij (by omega)
    rw [ltX] at this
    have a : d'[i]! = d'[i] := by simp [hi]
    have b : d'[j]! = d'[j] := by simp [hj]
    rw [a, b] at this
    simp at this
    simpa using this
  · have hd : d'.size = X.length := by have := hp.1; rwa [Array.size_range] at this
    unfold sortWorldK putRowK
    rw [flatX]
    refine blk_put hB ?_ n os
    unfold rowS
    rw [List.size_toArray, List.size_toArray, flatS_len, flatS_len]
    simp [hd]
  · unfold sortWorldK putRowK
    exact upd_put w sb 0 n _ os
end Go.Proofs.YtkdgnhohecifoaaDoor
