/-
  FS.
-/
import Derived.Test.YtbdkaanmkegfiaaGreatDoorYcq
import Derived.Shelf.SlSortCmp.WholeK
import Derived.Shelf.Lay
import Derived.Ground.SlsfProg
namespace Go.Proofs.YtbdkaanmkegfiaaGreatDoor
open Go Go.Shelf Go.RowKit Go.Lib Go.Sort
set_option maxRecDepth 100000

def Tryz.sortSp_ren : Go.Shelf.Ren := ⟨fun | 6 => 46 | 15 => 83 | 14 => 82 | 28 => 133 | 29 => 134 | 20 => 125 | 21 => 126 | 22 => 127 | 23 => 128 | 24 => 129 | 25 => 130 | 26 => 131 | 27 => 132 | 46 => 173 | 47 => 174 | 48 => 175 | 49 => 176 | 50 => 177 | 57 => 215 | n => n, fun | 22 => 102 | 24 => 107 | 25 => 110 | 3 => 3 | 39 => 171 | 0 => 0 | 53 => 225 | 55 => 32 | 4 => 4 | 46 => 219 | 45 => 218 | 50 => 112 | 5 => 5 | 9 => 9 | 66 => 253 | 70 => 257 | 76 => 295 | 77 => 296 | n => n, fun | n => n⟩
theorem Tryz.sortSp : Go.Proofs.SlLaysF0.n6 Tryz.prog Tryz.sortSp_ren := {
  mixed := by kernel_rfl
  f6 := ⟨Tryz.f46.name, by decide, Tryz.func46.trans (congrArg some (by kernel_rfl))⟩
  f14 := ⟨Tryz.f82.name, by decide, Tryz.func82.trans (congrArg some (by kernel_rfl))⟩
  f15 := Tryz.func83.trans (congrArg some (by kernel_rfl))
  f20 := ⟨Tryz.f125.name, by decide, Tryz.func125.trans (congrArg some (by kernel_rfl))⟩
  f21 := ⟨Tryz.f126.name, by decide, Tryz.func126.trans (congrArg some (by kernel_rfl))⟩
  f22 := ⟨Tryz.f127.name, by decide, Tryz.func127.trans (congrArg some (by kernel_rfl))⟩
  f23 := ⟨Tryz.f128.name, by decide, Tryz.func128.trans (congrArg some (by kernel_rfl))⟩
  f24 := ⟨Tryz.f129.name, by decide, Tryz.func129.trans (congrArg some (by kernel_rfl))⟩
  f25 := ⟨Tryz.f130.name, by decide, Tryz.func130.trans (congrArg some (by kernel_rfl))⟩
  f26 := ⟨Tryz.f131.name, by decide, Tryz.func131.trans (congrArg some (by kernel_rfl))⟩
  f27 := ⟨Tryz.f132.name, by decide, Tryz.func132.trans (congrArg some (by kernel_rfl))⟩
  f28 := Tryz.func133.trans (congrArg some (by kernel_rfl))
  f29 := Tryz.func134.trans (congrArg some (by kernel_rfl))
  f46 := ⟨Tryz.f173.name, by decide, Tryz.func173.trans (congrArg some (by kernel_rfl))⟩
  f47 := Tryz.func174.trans (congrArg some (by kernel_rfl))
  f48 := Tryz.func175.trans (congrArg some (by kernel_rfl))
  f49 := ⟨Tryz.f176.name, by decide, Tryz.func176.trans (congrArg some (by kernel_rfl))⟩
  f50 := ⟨Tryz.f177.name, by decide, Tryz.func177.trans (congrArg some (by kernel_rfl))⟩
  f57 := ⟨Tryz.f215.name, by decide, Tryz.func215.trans (congrArg some (by kernel_rfl))⟩
  t0 := Tryz.underlying0
  a0 := Tryz.isAgg0
  z0 := Tryz.sizeOf0
  v0 := Tryz.zeroValue0
  t3 := Tryz.underlying3
  a3 := Tryz.isAgg3
  z3 := Tryz.sizeOf3
  v3 := Tryz.zeroValue3
  t4 := Tryz.underlying4
  a4 := Tryz.isAgg4
  z4 := Tryz.sizeOf4
  v4 := Tryz.zeroValue4
  t5 := Tryz.underlying5
  a5 := Tryz.isAgg5
  z5 := Tryz.sizeOf5
  v5 := Tryz.zeroValue5
  t9 := Tryz.underlying9
  a9 := Tryz.isAgg9
  z9 := Tryz.sizeOf9
  v9 := Tryz.zeroValue9
  t22 := Tryz.underlying102
  a22 := Tryz.isAgg102
  z22 := Tryz.sizeOf102
  v22 := Tryz.zeroValue102
  t25 := Tryz.underlying110
  a25 := Tryz.isAgg110
  z25 := Tryz.sizeOf110
  v25 := Tryz.zeroValue110
  t39 := Tryz.underlying171
  a39 := Tryz.isAgg171
  z39 := Tryz.sizeOf171
  v39 := Tryz.zeroValue171
  t45 := Tryz.underlying218
  a45 := Tryz.isAgg218
  z45 := Tryz.sizeOf218
  v45 := Tryz.zeroValue218
  t46 := Tryz.underlying219
  a46 := Tryz.isAgg219
  z46 := Tryz.sizeOf219
  v46 := Tryz.zeroValue219
  t50 := Tryz.underlying112
  a50 := Tryz.isAgg112
  z50 := Tryz.sizeOf112
  v50 := Tryz.zeroValue112
  t53 := Tryz.underlying225
  a53 := Tryz.isAgg225
  z53 := Tryz.sizeOf225
  v53 := Tryz.zeroValue225
  t55 := Tryz.underlying32
  a55 := Tryz.isAgg32
  z55 := Tryz.sizeOf32
  v55 := Tryz.zeroValue32
  t66 := Tryz.underlying253
  a66 := Tryz.isAgg253
  z66 := Tryz.sizeOf253
  v66 := Tryz.zeroValue253
  t70 := Tryz.underlying257
  a70 := Tryz.isAgg257
  z70 := Tryz.sizeOf257
  v70 := Tryz.zeroValue257
  t76 := Tryz.underlying295
  a76 := Tryz.isAgg295
  z76 := Tryz.sizeOf295
  v76 := Tryz.zeroValue295
  t77 := Tryz.underlying296
  a77 := Tryz.isAgg296
  z77 := Tryz.sizeOf296
  v77 := Tryz.zeroValue296 }

/-- A spot by its number in a list. -/
def nthS (X : List Spot) (x0 : Spot) (i : Nat) : Spot := X.getD i x0
def encX (X : List Spot) (x0 : Spot) (i : Nat) : List Value := enS (nthS X x0 i)
def cmpX (X : List Spot) (x0 : Spot) (i j : Nat) : Int := cmpI (nthS X x0 i).nd.id (nthS X x0 j).nd.id
theorem ltX (X : List Spot) (x0 : Spot) (i j : Nat) : ltOf (cmpX X x0) i j = decide ((nthS X x0 i).nd.id < (nthS X x0 j).nd.id) := by
  unfold ltOf cmpX cmpI
  by_cases h1 : (nthS X x0 i).nd.id < (nthS X x0 j).nd.id
  · simp [h1]
  · by_cases h2 : (nthS X x0 j).nd.id < (nthS X x0 i).nd.id <;> simp [h1, h2]
theorem swoX (X : List Spot) (x0 : Spot) : SWO (ltOf (cmpX X x0)) where
  irrefl x := by rw [ltX]; simp
  trans x y z h1 h2 := by rw [ltX] at *; simp at *; omega
  ntrans x y z h1 h2 := by rw [ltX] at *; simp at *; omega
theorem buildCmp_any (x y : Spot) (W : World) :
    Calls Tryz.prog 47 #[.agg (enS x).toArray, .agg (enS y).toArray] W fun e w' => e = .returned (.int .i64 (cmpI x.nd.id y.nd.id)) ∧ ∃ q os', w' = grow (W.drewN q) os' := by
  have C := fun W' => cmp_id x.nd.id y.nd.id W'
  generalize cmpI x.nd.id y.nd.id = r at C ⊢
  unfold enS
  go_enter Tryz.func47, Tryz.ntmps47
  go_wp2_with (go_at_call 48; refine (C _).mono ?_; rintro e w' ⟨rfl, rfl⟩)
  go_ret
  exact ⟨rfl, 0, _, by rw [alloc_eq_grow, alloc_eq_grow, grow_grow]; rfl⟩
theorem flatX (X : List Spot) (x0 : Spot) (d : Array Nat) : flatK (encX X x0) 21 d = rowS (d.toList.map (nthS X x0)) := by
  have hsz : (rowS (d.toList.map (nthS X x0))).size = d.size * 21 := by unfold rowS; rw [List.size_toArray, flatS_len]; simp
  refine Array.ext (by rw [size_flatK, hsz]) fun t h1 h2 => ?_
  rw [size_flatK] at h1
  have g1 := get_flatK (encX X x0) 21 d t h1
  have hi : t / 21 < d.size := by omega
  have g2 : (rowS (d.toList.map (nthS X x0)))[t]? = (enS (nthS X x0 d[t / 21]))[t % 21]? := by
    have e : t = t / 21 * 21 + t % 21 := by omega
    unfold rowS
    rw [List.getElem?_toArray]
    conv => lhs; rw [e]
    rw [flatS_get _ (t / 21) (by simpa using hi) (t % 21) (by omega)]
    simp
  have e1 : (flatK (encX X x0) 21 d)[t]! = (flatK (encX X x0) 21 d)[t]'(by rw [size_flatK]; exact h1) := by simp [h1]
  rw [← e1, g1]
  have e2 : d[t / 21]! = d[t / 21] := by simp [hi]
  rw [e2]
  have hl : t % 21 < (enS (nthS X x0 d[t / 21])).length := by rw [enS_len]; omega
  rw [List.getElem?_eq_getElem hl] at g2
  have h3 := (Array.getElem?_eq_some_iff.1 g2).2
  rw [h3]
  unfold encX
  simp [hl]
theorem range_nth (X : List Spot) (x0 : Spot) : (Array.range X.length).toList.map (nthS X x0) = X := by
  apply List.ext_getElem
  · simp
  · intro i h1 h2
    simp [nthS, h2]
theorem blk_put {w : World} {b : Nat} {cs F : Array Value} {T : TypeId} (h : Blk w b cs T) (hs : cs.size = F.size) (n : Nat) (os : Array Obj) : Blk (grow (putRow id (Sort.ahead w n) b 0 F) os) b F T := by
  unfold Blk at h ⊢
  have hlt : b < (putRow id (Sort.ahead w n) b 0 F).heap.size := by
    rw [size_putRow]; exact (Array.getElem?_eq_some_iff.1 h).1
  show ((putRow id (Sort.ahead w n) b 0 F).heap ++ os)[b]? = _
  rw [Array.getElem?_append_left hlt]
  show (w.heap.modify b _)[b]? = _
  rw [Array.getElem?_modify, if_pos rfl, h]
  simp only [Option.map_some, onCells]
  congr 2
  unfold putCells
  refine Array.ext (by simp [hs]) fun i h1 h2 => ?_
  simp [h2]
theorem upd_put (w : World) (b off n : Nat) (F : Array Value) (os : Array Obj) : Upd (fun k => k = b) w (grow (putRow id (Sort.ahead w n) b off F) os) := by
  refine ⟨rfl, rfl, rfl, ?_, fun k hk hn => ?_⟩
  · rw [size_grow, size_putRow]; exact Nat.le_add_right _ _
  · show ((putRow id (Sort.ahead w n) b off F).heap ++ os)[k]? = _
    rw [Array.getElem?_append_left (by rw [size_putRow]; exact hk)]
    show (w.heap.modify b _)[k]? = _
    rw [Array.getElem?_modify, if_neg (fun e => hn e.symm)]
theorem sortSp_any (sb : Nat) (X : List Spot) (w : World) (hB : Blk w sb (rowS X) 107) (hl : X.length ≤ 1000) :
    Calls Tryz.prog 46 #[.slice (some ⟨sb, 0, none⟩) X.length X.length, .func (.func 47) #[] #[]] w fun e w' => e = .returned (.tuple #[]) ∧ ∃ X' : List Spot, X.Perm X' ∧ X'.Pairwise (fun x y => x.nd.id ≤ y.nd.id) ∧ Blk w' sb (rowS X') 107 ∧ Upd (fun k => k = sb) w w' := by
  obtain ⟨x0, _⟩ : ∃ x0 : Spot, True := ⟨⟨⟨0, 0, 0, 0, [], ⟨#[]⟩, ⟨#[]⟩, 0, 0, 0, 0, [], []⟩, ⟨none, 0, none, 0, none, 0⟩, ⟨0, 0, 0, 0, 0, 0, 0⟩, none, 0, 0⟩, trivial⟩
  have eg : ∀ args w, (callFunc 47 args).run Tryz.prog w = .ok (.enter 47 args) w := enters_of Tryz.func47 (by kernel_rfl) rfl
  have hH : HoldsK (encX X x0) 21 w sb 0 (Array.range X.length) := by
    intro t ht
    rw [flatX, range_nth] at ht ⊢
    refine ⟨?_, hB.frozen _⟩
    rw [Nat.zero_add]
    refine hB.cell t ?_
    simp [ht]
  have hcon := AnyQ.slices_SortFunc Tryz.sortSp 21 Tryz.isAgg107 Tryz.sizeOf107 (encX X x0) (fun _ => rfl) (fun x v hv => by have := enS_one _ v hv; cases v <;> simp_all [Value.oneCell']) (cmpX X x0) (swoX X x0) 47 #[] sb 0 X.length (Array.range X.length) w eg (fun _ _ _ _ x y => buildCmp_any _ _ _) hH hB.lt (by simp; omega)
  rw [Array.size_range] at hcon
  refine hcon.mono ?_
  rintro e w' ⟨rfl, d', n, os, hp, hs, rfl⟩
  refine ⟨rfl, d'.toList.map (nthS X x0), ?_, ?_, ?_, ?_⟩
  · obtain ⟨h1, _, h3⟩ := hp
    have e1 : (Array.range X.length).extract 0 X.length = Array.range X.length := by
      have := Array.extract_size (xs := Array.range X.length)
      rwa [Array.size_range] at this
    have e2 : d'.extract 0 X.length = d' := by
      rw [Array.size_range] at h1
      rw [← h1]; simp
    rw [e1, e2] at h3
    have h4 : (Array.range X.length).toList.Perm d'.toList := h3.symm
    have h5 := h4.map (nthS X x0)
    rwa [range_nth] at h5
  · have hd : d'.size = X.length := by have := hp.1; rwa [Array.size_range] at this
    rw [List.pairwise_iff_getElem]
    intro i j hi hj hij
    simp at hi hj
    have := hs i j (Nat.zero_le _) hij (by omega)
    rw [ltX] at this
    have a : d'[i]! = d'[i] := by simp [hi]
    have b : d'[j]! = d'[j] := by simp [hj]
    rw [a, b] at this
    simp at this
    simpa using this
  · have hd : d'.size = X.length := by have := hp.1; rwa [Array.size_range] at this
    unfold sortWorldK putRowK
    rw [flatX]
    refine blk_put hB ?_ n os
    unfold rowS
    rw [List.size_toArray, List.size_toArray, flatS_len, flatS_len]
    simp [hd]
  · unfold sortWorldK putRowK
    exact upd_put w sb 0 n _ os
end Go.Proofs.YtbdkaanmkegfiaaGreatDoor
