/-
  FU.
-/
import Derived.Test.YtbdkaanmkegfiaaGreatDoorFT
import Derived.Shelf.SlSortCmp.Whole1
import Derived.Shelf.SlSortCmp.NoneTotal
namespace Go.Proofs.YtbdkaanmkegfiaaGreatDoor
open Go Go.Shelf Go.RowKit Go.Lib Go.Sort
set_option maxRecDepth 100000

def Tryz.sortIn_ren : Go.Shelf.Ren := ⟨fun | 6 => 137 | 15 => 83 | 14 => 178 | 28 => 133 | 29 => 134 | 20 => 216 | 21 => 217 | 22 => 218 | 23 => 219 | 24 => 220 | 25 => 221 | 26 => 222 | 27 => 223 | 46 => 246 | 47 => 174 | 48 => 175 | 49 => 247 | 50 => 248 | 57 => 259 | n => n, fun | 22 => 23 | 24 => 3 | 25 => 111 | 3 => 3 | 39 => 171 | 0 => 0 | 53 => 225 | 55 => 32 | 4 => 4 | 46 => 219 | 45 => 218 | 50 => 112 | 5 => 5 | 9 => 9 | 66 => 253 | 70 => 257 | 76 => 295 | 77 => 296 | n => n, fun | n => n⟩
theorem Tryz.sortIn : Go.Proofs.SlLaysF.n6 Tryz.prog Tryz.sortIn_ren := {
  mixed := by kernel_rfl
  f6 := ⟨Tryz.f137.name, by decide, Tryz.func137.trans (congrArg some (by kernel_rfl))⟩
  f14 := ⟨Tryz.f178.name, by decide, Tryz.func178.trans (congrArg some (by kernel_rfl))⟩
  f15 := Tryz.func83.trans (congrArg some (by kernel_rfl))
  f20 := ⟨Tryz.f216.name, by decide, Tryz.func216.trans (congrArg some (by kernel_rfl))⟩
  f21 := ⟨Tryz.f217.name, by decide, Tryz.func217.trans (congrArg some (by kernel_rfl))⟩
  f22 := ⟨Tryz.f218.name, by decide, Tryz.func218.trans (congrArg some (by kernel_rfl))⟩
  f23 := ⟨Tryz.f219.name, by decide, Tryz.func219.trans (congrArg some (by kernel_rfl))⟩
  f24 := ⟨Tryz.f220.name, by decide, Tryz.func220.trans (congrArg some (by kernel_rfl))⟩
  f25 := ⟨Tryz.f221.name, by decide, Tryz.func221.trans (congrArg some (by kernel_rfl))⟩
  f26 := ⟨Tryz.f222.name, by decide, Tryz.func222.trans (congrArg some (by kernel_rfl))⟩
  f27 := ⟨Tryz.f223.name, by decide, Tryz.func223.trans (congrArg some (by kernel_rfl))⟩
  f28 := Tryz.func133.trans (congrArg some (by kernel_rfl))
  f29 := Tryz.func134.trans (congrArg some (by kernel_rfl))
  f46 := ⟨Tryz.f246.name, by decide, Tryz.func246.trans (congrArg some (by kernel_rfl))⟩
  f47 := Tryz.func174.trans (congrArg some (by kernel_rfl))
  f48 := Tryz.func175.trans (congrArg some (by kernel_rfl))
  f49 := ⟨Tryz.f247.name, by decide, Tryz.func247.trans (congrArg some (by kernel_rfl))⟩
  f50 := ⟨Tryz.f248.name, by decide, Tryz.func248.trans (congrArg some (by kernel_rfl))⟩
  f57 := ⟨Tryz.f259.name, by decide, Tryz.func259.trans (congrArg some (by kernel_rfl))⟩
  t0 := Tryz.underlying0
  a0 := Tryz.isAgg0
  z0 := Tryz.sizeOf0
  v0 := Tryz.zeroValue0
  t3 := Tryz.underlying3
  a3 := Tryz.isAgg3
  z3 := Tryz.sizeOf3
  v3 := Tryz.zeroValue3
  t4 := Tryz.underlying4
  a4 := Tryz.isAgg4
  z4 := Tryz.sizeOf4
  v4 := Tryz.zeroValue4
  t5 := Tryz.underlying5
  a5 := Tryz.isAgg5
  z5 := Tryz.sizeOf5
  v5 := Tryz.zeroValue5
  t9 := Tryz.underlying9
  a9 := Tryz.isAgg9
  z9 := Tryz.sizeOf9
  v9 := Tryz.zeroValue9
  t22 := Tryz.underlying23
  a22 := Tryz.isAgg23
  z22 := Tryz.sizeOf23
  v22 := Tryz.zeroValue23
  a24 := Tryz.isAgg3
  z24 := Tryz.sizeOf3
  t25 := Tryz.underlying111
  a25 := Tryz.isAgg111
  z25 := Tryz.sizeOf111
  v25 := Tryz.zeroValue111
  t39 := Tryz.underlying171
  a39 := Tryz.isAgg171
  z39 := Tryz.sizeOf171
  v39 := Tryz.zeroValue171
  t45 := Tryz.underlying218
  a45 := Tryz.isAgg218
  z45 := Tryz.sizeOf218
  v45 := Tryz.zeroValue218
  t46 := Tryz.underlying219
  a46 := Tryz.isAgg219
  z46 := Tryz.sizeOf219
  v46 := Tryz.zeroValue219
  t50 := Tryz.underlying112
  a50 := Tryz.isAgg112
  z50 := Tryz.sizeOf112
  v50 := Tryz.zeroValue112
  t53 := Tryz.underlying225
  a53 := Tryz.isAgg225
  z53 := Tryz.sizeOf225
  v53 := Tryz.zeroValue225
  t55 := Tryz.underlying32
  a55 := Tryz.isAgg32
  z55 := Tryz.sizeOf32
  v55 := Tryz.zeroValue32
  t66 := Tryz.underlying253
  a66 := Tryz.isAgg253
  z66 := Tryz.sizeOf253
  v66 := Tryz.zeroValue253
  t70 := Tryz.underlying257
  a70 := Tryz.isAgg257
  z70 := Tryz.sizeOf257
  v70 := Tryz.zeroValue257
  t76 := Tryz.underlying295
  a76 := Tryz.isAgg295
  z76 := Tryz.sizeOf295
  v76 := Tryz.zeroValue295
  t77 := Tryz.underlying296
  a77 := Tryz.isAgg296
  z77 := Tryz.sizeOf296
  v77 := Tryz.zeroValue296 }
def Tryz.sortIn0_ren : Go.Shelf.Ren := ⟨fun | 6 => 137 | 15 => 83 | 14 => 178 | 28 => 133 | 29 => 134 | 20 => 216 | 21 => 217 | 22 => 218 | 23 => 219 | 24 => 220 | 25 => 221 | 26 => 222 | 27 => 223 | 46 => 246 | 47 => 174 | 48 => 175 | 49 => 247 | 50 => 248 | 57 => 259 | n => n, fun | 22 => 23 | 24 => 3 | 25 => 111 | 3 => 3 | 39 => 171 | 0 => 0 | 53 => 225 | 55 => 32 | 4 => 4 | 46 => 219 | 45 => 218 | 50 => 112 | 5 => 5 | 9 => 9 | 66 => 253 | 70 => 257 | 76 => 295 | 77 => 296 | n => n, fun | n => n⟩
theorem Tryz.sortIn0 : Go.Proofs.SlLaysF0.n6 Tryz.prog Tryz.sortIn0_ren := {
  mixed := by kernel_rfl
  f6 := ⟨Tryz.f137.name, by decide, Tryz.func137.trans (congrArg some (by kernel_rfl))⟩
  f14 := ⟨Tryz.f178.name, by decide, Tryz.func178.trans (congrArg some (by kernel_rfl))⟩
  f15 := Tryz.func83.trans (congrArg some (by kernel_rfl))
  f20 := ⟨Tryz.f216.name, by decide, Tryz.func216.trans (congrArg some (by kernel_rfl))⟩
  f21 := ⟨Tryz.f217.name, by decide, Tryz.func217.trans (congrArg some (by kernel_rfl))⟩
  f22 := ⟨Tryz.f218.name, by decide, Tryz.func218.trans (congrArg some (by kernel_rfl))⟩
  f23 := ⟨Tryz.f219.name, by decide, Tryz.func219.trans (congrArg some (by kernel_rfl))⟩
  f24 := ⟨Tryz.f220.name, by decide, Tryz.func220.trans (congrArg some (by kernel_rfl))⟩
  f25 := ⟨Tryz.f221.name, by decide, Tryz.func221.trans (congrArg some (by kernel_rfl))⟩
  f26 := ⟨Tryz.f222.name, by decide, Tryz.func222.trans (congrArg some (by kernel_rfl))⟩
  f27 := ⟨Tryz.f223.name, by decide, Tryz.func223.trans (congrArg some (by kernel_rfl))⟩
  f28 := Tryz.func133.trans (congrArg some (by kernel_rfl))
  f29 := Tryz.func134.trans (congrArg some (by kernel_rfl))
  f46 := ⟨Tryz.f246.name, by decide, Tryz.func246.trans (congrArg some (by kernel_rfl))⟩
  f47 := Tryz.func174.trans (congrArg some (by kernel_rfl))
  f48 := Tryz.func175.trans (congrArg some (by kernel_rfl))
  f49 := ⟨Tryz.f247.name, by decide, Tryz.func247.trans (congrArg some (by kernel_rfl))⟩
  f50 := ⟨Tryz.f248.name, by decide, Tryz.func248.trans (congrArg some (by kernel_rfl))⟩
  f57 := ⟨Tryz.f259.name, by decide, Tryz.func259.trans (congrArg some (by kernel_rfl))⟩
  t0 := Tryz.underlying0
  a0 := Tryz.isAgg0
  z0 := Tryz.sizeOf0
  v0 := Tryz.zeroValue0
  t3 := Tryz.underlying3
  a3 := Tryz.isAgg3
  z3 := Tryz.sizeOf3
  v3 := Tryz.zeroValue3
  t4 := Tryz.underlying4
  a4 := Tryz.isAgg4
  z4 := Tryz.sizeOf4
  v4 := Tryz.zeroValue4
  t5 := Tryz.underlying5
  a5 := Tryz.isAgg5
  z5 := Tryz.sizeOf5
  v5 := Tryz.zeroValue5
  t9 := Tryz.underlying9
  a9 := Tryz.isAgg9
  z9 := Tryz.sizeOf9
  v9 := Tryz.zeroValue9
  t22 := Tryz.underlying23
  a22 := Tryz.isAgg23
  z22 := Tryz.sizeOf23
  v22 := Tryz.zeroValue23
  t25 := Tryz.underlying111
  a25 := Tryz.isAgg111
  z25 := Tryz.sizeOf111
  v25 := Tryz.zeroValue111
  t39 := Tryz.underlying171
  a39 := Tryz.isAgg171
  z39 := Tryz.sizeOf171
  v39 := Tryz.zeroValue171
  t45 := Tryz.underlying218
  a45 := Tryz.isAgg218
  z45 := Tryz.sizeOf218
  v45 := Tryz.zeroValue218
  t46 := Tryz.underlying219
  a46 := Tryz.isAgg219
  z46 := Tryz.sizeOf219
  v46 := Tryz.zeroValue219
  t50 := Tryz.underlying112
  a50 := Tryz.isAgg112
  z50 := Tryz.sizeOf112
  v50 := Tryz.zeroValue112
  t53 := Tryz.underlying225
  a53 := Tryz.isAgg225
  z53 := Tryz.sizeOf225
  v53 := Tryz.zeroValue225
  t55 := Tryz.underlying32
  a55 := Tryz.isAgg32
  z55 := Tryz.sizeOf32
  v55 := Tryz.zeroValue32
  t66 := Tryz.underlying253
  a66 := Tryz.isAgg253
  z66 := Tryz.sizeOf253
  v66 := Tryz.zeroValue253
  t70 := Tryz.underlying257
  a70 := Tryz.isAgg257
  z70 := Tryz.sizeOf257
  v70 := Tryz.zeroValue257
  t76 := Tryz.underlying295
  a76 := Tryz.isAgg295
  z76 := Tryz.sizeOf295
  v76 := Tryz.zeroValue295
  t77 := Tryz.underlying296
  a77 := Tryz.isAgg296
  z77 := Tryz.sizeOf296
  v77 := Tryz.zeroValue296 }

/-- One node stands ahead of another one. -/
def ltK (a b : Nod) : Prop := a.fr < b.fr ∨ a.fr = b.fr ∧ a.id < b.id
theorem cmpK_lt (a b : Nod) : cmpK a b < 0 ↔ ltK a b := by
  unfold cmpK ltK orL orL orL orI cmpI
  by_cases h1 : a.fr < b.fr
  · simp [h1]
  · by_cases h2 : b.fr < a.fr
    · simp [h1, h2]; omega
    · have h3 : a.fr = b.fr := by omega
      by_cases h4 : a.id < b.id
      · simp [h4, h3]
      · by_cases h5 : b.id < a.id <;> simp [h4, h5, h3]
def encF {m : Nat} (i : Fin m) : Value := .int .i64 (i.val : Int)
def cmpF (X : List Spot) (x0 : Spot) {m : Nat} (i j : Fin m) : Int := cmpK (nthS X x0 i).nd (nthS X x0 j).nd
theorem ltF (X : List Spot) (x0 : Spot) {m : Nat} (i j : Fin m) : ltOf (cmpF X x0) i j = true ↔ ltK (nthS X x0 i).nd (nthS X x0 j).nd := by
  unfold ltOf cmpF
  rw [← cmpK_lt]
  simp
theorem swoF (X : List Spot) (x0 : Spot) (m : Nat) : SWO (ltOf (cmpF X x0 (m := m))) where
  irrefl x := by
    rw [Bool.eq_false_iff, ne_eq, ltF]; unfold ltK; omega
  trans x y z h1 h2 := by
    rw [ltF] at *; unfold ltK at *; omega
  ntrans x y z h1 h2 := by
    rw [Bool.eq_false_iff, ne_eq, ltF] at *; unfold ltK at *; omega
theorem upd_sortW {α : Type} [Inhabited α] (enc : α → Value) (w : World) (b off n : Nat) (d : Array α) (os : Array Obj) : Upd (fun k => k = b) w (sortWorld enc w b off n d os) := by
  unfold sortWorld
  refine ⟨rfl, rfl, rfl, ?_, fun k hk hn => ?_⟩
  · rw [size_grow, size_putRow]; exact Nat.le_add_right _ _
  · show ((putRow enc (Sort.ahead w n) b off d).heap ++ os)[k]? = _
    rw [Array.getElem?_append_left (by rw [size_putRow]; exact hk)]
    show (w.heap.modify b _)[k]? = _
    rw [Array.getElem?_modify, if_neg (fun e => hn e.symm)]
theorem heap_sortW {α : Type} [Inhabited α] (enc : α → Value) {w : World} {b : Nat} {cs : Array Value} {T : TypeId} (h : w.heap[b]? = some (.cells cs T (0, 0))) (n : Nat) (d : Array α) (os : Array Obj) : (sortWorld enc w b 0 n d os).heap[b]? = some (.cells (putCells enc 0 d cs) T (0, 0)) := by
  unfold sortWorld
  have hlt : b < (putRow enc (Sort.ahead w n) b 0 d).heap.size := by
    rw [size_putRow]; exact (Array.getElem?_eq_some_iff.1 h).1
  show ((putRow enc (Sort.ahead w n) b 0 d).heap ++ os)[b]? = _
  rw [Array.getElem?_append_left hlt]
  show (w.heap.modify b _)[b]? = _
  rw [Array.getElem?_modify, if_pos rfl, h]
  rfl
theorem take_put {α : Type} [Inhabited α] (enc : α → Value) (d : Array α) (cs : Array Value) (h : d.size ≤ cs.size) : (putCells enc 0 d cs).toList.take d.size = d.toList.map enc := by
  apply List.ext_getElem
  · simp [putCells]; omega
  · intro i h1 h2
    have hi : i < d.size := by simpa using h2
    simp [putCells, hi]
theorem sort_any (f sb base : Nat) (X : List Spot) (v : Value) (n : Nat) (L : List Int) (w : World) (hf : w.cell? ⟨f, 0, none⟩ = some (.slice (some ⟨sb, 0, none⟩) X.length X.length)) (hB : Blk w sb (rowS X) 107) (hv : w.ownsRow base 3 1 v n (L.map (Value.int .i64))) (hm : ∀ x ∈ L, 0 ≤ x ∧ x < X.length) (hnn : n ≤ 1000) (hfb : v.ownBlock ≠ some f) (hsb : v.ownBlock ≠ some sb) :
    Calls Tryz.prog 88 #[.pointer (some ⟨f, 0, none⟩), v] w fun e w' => e = .returned (.tuple #[]) ∧ ∃ L' : List Int, L.Perm L' ∧ L'.Pairwise (fun i j => ∀ (hi : i.toNat < X.length) (hj : j.toNat < X.length), ¬ ltK X[j.toNat].nd X[i.toNat].nd) ∧ w'.ownsRow base 3 1 v n (L'.map (Value.int .i64)) ∧ Upd (fun k => v.ownBlock = some k) w w' := by
  obtain ⟨W, hW⟩ : ∃ W, w.alloc (.cells #[.pointer (some ⟨f, 0, none⟩)] 25) = W := ⟨_, rfl⟩
  have hbW : Below w.heap.size w W := by rw [← hW]; exact (Below.refl _ _).alloc (Nat.le_refl _) _
  have hsz : W.heap.size = w.heap.size + 1 := by rw [← hW]; simp
  have cx : W.cell? ⟨w.heap.size, 0, none⟩ = some (.pointer (some ⟨f, 0, none⟩)) := by rw [← hW]; simp [go_sem]
  have cf : W.cell? ⟨f, 0, none⟩ = some (.slice (some ⟨sb, 0, none⟩) X.length X.length) := (hbW.cell (World.block_lt_of_cell? w _ hf)).trans hf
  have hBW := hB.below hbW hB.lt
  have hflt : f < w.heap.size := World.block_lt_of_cell? w _ hf
  have hslt := hB.lt
  have huW : Upd (fun _ => False) w W := Upd.ofBelow hbW (fun k h1 h2 => by omega)
  have hvW := ownsRow_upd hv huW (fun _ _ h => h)
  have SORT : Calls Tryz.prog 137 #[v, .func (.func 138) #[] #[.pointer (some ⟨w.heap.size, 0, none⟩)]] W fun e w' => e = .returned (.tuple #[]) ∧ ∃ L' : List Int, L.Perm L' ∧ L'.Pairwise (fun i j => ∀ (hi : i.toNat < X.length) (hj : j.toNat < X.length), ¬ ltK X[j.toNat].nd X[i.toNat].nd) ∧ w'.ownsRow base 3 1 v n (L'.map (Value.int .i64)) ∧ Upd (fun k => v.ownBlock = some k) W w' := by
    have hln : L.length = n := by have := hvW.1; simp at this; omega
    rcases hvW.2 with ⟨rfl, rfl⟩ | ⟨g, cap, cur, rfl, hbg, hh, hnc, hcm, hcs, ht⟩
    · have hL : L = [] := List.eq_nil_of_length_eq_zero hln
      subst hL
      refine (AnyF.slices_SortFunc_none Tryz.sortIn0 none 0 _ W).mono ?_
      rintro e w' ⟨rfl, rfl⟩
      exact ⟨rfl, [], List.Perm.refl _, List.Pairwise.nil, hvW, Upd.refl _ _⟩
    · by_cases hX : X.length = 0
      · have hL : L = [] := by
          cases L with
          | nil => rfl
          | cons x r => have := hm x (by simp); omega
        subst hL
        simp at hln
        subst hln
        refine (AnyF.slices_SortFunc_none Tryz.sortIn0 _ cap _ W).mono ?_
        rintro e w' ⟨rfl, rfl⟩
        exact ⟨rfl, [], List.Perm.refl _, List.Pairwise.nil, hvW, Upd.refl _ _⟩
      · obtain ⟨m, hmX⟩ : ∃ m, X.length = m + 1 := ⟨X.length - 1, by omega⟩
        have x0 : Spot := X[0]'(by omega)
        obtain ⟨d, hd⟩ : ∃ d : Array (Fin (m + 1)), d = (L.map (fun x => Fin.ofNat (m + 1) x.toNat)).toArray := ⟨_, rfl⟩
        have hds : d.size = n := by rw [hd]; simp [hln]
        have henc : ∀ x ∈ L, encF (Fin.ofNat (m + 1) x.toNat) = Value.int .i64 x := fun x hx => by
          have := hm x hx
          unfold encF
          have e : (Fin.ofNat (m + 1) x.toNat).val = x.toNat := by simp [Fin.ofNat]; omega
          rw [e]
          congr 1
          omega
        have hdm : d.toList.map encF = L.map (Value.int .i64) := by
          rw [hd]
          simp only [List.map_map]
          exact List.map_congr_left fun x hx => henc x hx
        have hgl : g < W.heap.size := lt_of_block hh
        have hgf : g ≠ f := fun e => hfb (by simp [Value.ownBlock, e])
        have hgs : g ≠ sb := fun e => hsb (by simp [Value.ownBlock, e])
        have hgw : g ≠ w.heap.size := fun e => by
          rw [e, ← hW, heap_alloc_new] at hh
          have := hv
          rcases hv.2 with ⟨h1, _⟩ | ⟨g2, cap2, cur2, h1, _, h2, _⟩
          · simp at h1
          · simp at h1
            have := lt_of_block h2
            omega
        have hH : Go.Sort.Holds encF W g 0 d := by
          intro j hj
          rw [hds] at hj
          have hjc : j < cur.size := by omega
          have hge : cur.toList[j]'(by simpa using hjc) = encF d[j]! := by
            have e1 : (cur.toList.take (n * 1))[j]? = (d.toList.map encF)[j]? := by rw [ht, hdm]
            rw [List.getElem?_take_of_lt (by omega), List.getElem?_eq_getElem (by simpa using hjc)] at e1
            rw [List.getElem?_eq_getElem (by simp; omega)] at e1
            simp at e1
            rw [show d[j]! = d[j]'(by omega) by simp [hds, hj]]
            simpa using e1
          refine ⟨?_, by simp [World.frozen?, hh]⟩
          simp only [Nat.zero_add, World.cell?, hh]
          simp at hge
          simp [hjc, hge]
        have eg : ∀ args w, (callFunc 138 args).run Tryz.prog w = .ok (.enter 138 args) w := enters_of Tryz.func138 (by kernel_rfl) rfl
        have hcmp : CmpLays1 Tryz.prog 138 #[.pointer (some ⟨w.heap.size, 0, none⟩)] (encF (m := m + 1)) (cmpF X x0) g 0 d.size W := by
          intro q os dk _ x y
          have hu := upd_sortW encF W g 0 q dk os
          have c1 : (sortWorld encF W g 0 q dk os).cell? ⟨w.heap.size, 0, none⟩ = some (.pointer (some ⟨f, 0, none⟩)) := by
            have := hu.block w.heap.size (by omega) (fun e => hgw e.symm)
            simp only [World.cell?, this] at cx ⊢; exact cx
          have c2 : (sortWorld encF W g 0 q dk os).cell? ⟨f, 0, none⟩ = some (.slice (some ⟨sb, 0, none⟩) X.length X.length) := by
            have := hu.block f (by omega) (fun e => hgf e.symm)
            simp only [World.cell?, this] at cf ⊢; exact cf
          have c3 := hBW.upd hu (fun e => hgs e.symm)
          have hx : x.val < X.length := by have := x.isLt; omega
          have hy : y.val < X.length := by have := y.isLt; omega
          have := sortCmp_any f sb w.heap.size X x.val y.val X.length _ c1 c2 rfl c3 hx hy
          have e1 : cmpF X x0 x y = cmpK (X[x.val]'hx).nd (X[y.val]'hy).nd := by unfold cmpF nthS; simp [hx, hy]
          rw [e1]
          exact this
        have hcon := Any.slices_SortFunc Tryz.sortIn encF (fun _ => rfl) (cmpF X x0) (swoF X x0 (m + 1)) 138 #[.pointer (some ⟨w.heap.size, 0, none⟩)] g 0 cap d W eg hcmp hH hgl (by rw [hds]; omega)
        rw [hds] at hcon
        refine hcon.mono ?_
        rintro e w' ⟨rfl, d', q, os, hp, hs, rfl⟩
        have hd' : d'.size = n := by have := hp.1; omega
        refine ⟨rfl, d'.toList.map (fun i => (i.val : Int)), ?_, ?_, ?_, ?_⟩
        · obtain ⟨h1, _, h3⟩ := hp
          have e1 : d.extract 0 n = d := by rw [← hds]; simp
          have e2 : d'.extract 0 n = d' := by rw [← hd']; simp
          rw [e1, e2] at h3
          have h4 : d.toList.Perm d'.toList := h3.symm
          have h5 := h4.map (fun i : Fin (m + 1) => (i.val : Int))
          have e3 : d.toList.map (fun i : Fin (m + 1) => (i.val : Int)) = L := by
            rw [hd]
            simp only [List.map_map]
            conv => rhs; rw [← List.map_id L]
            refine List.map_congr_left fun x hx => ?_
            have := hm x hx
            have e : (Fin.ofNat (m + 1) x.toNat).val = x.toNat := by simp [Fin.ofNat]; omega
            simp only [Function.comp, e, id]
            omega
          rwa [e3] at h5
        · rw [List.pairwise_map, List.pairwise_iff_getElem]
          intro i j hi hj hij h1 h2 hlt
          simp at hi hj
          have h3 := hs i j (Nat.zero_le _) hij (by omega)
          rw [Bool.eq_false_iff, ne_eq, ltF] at h3
          refine h3 ?_
          have a1 : d'[i]! = d'[i] := by simp [hi]
          have a2 : d'[j]! = d'[j] := by simp [hj]
          rw [a1, a2]
          unfold nthS
          simp at hlt
          have b1 : (d'[i]'hi).val < X.length := by have := (d'[i]'hi).isLt; omega
          have b2 : (d'[j]'hj).val < X.length := by have := (d'[j]'hj).isLt; omega
          simpa [b1, b2] using hlt
        · refine ⟨by simp; omega, Or.inr ⟨g, cap, putCells encF 0 d' cur, rfl, hbg, heap_sortW encF hh q d' os, hnc, hcm, by simp [putCells, hcs], ?_⟩⟩
          have := take_put encF d' cur (by omega)
          rw [hd'] at this
          rw [Nat.mul_one, this, List.map_map]
          rfl
        · exact (upd_sortW encF W g 0 q d' os).mono (fun k _ e => by simp [Value.ownBlock, e])
  have HW : Hid (∀ w', Upd (fun k => v.ownBlock = some k) W w' → Upd (fun k => v.ownBlock = some k) w w') := fun w' hu => (huW.mono (fun _ _ h => h.elim)).trans hu (fun _ _ h => h)
  clear huW hvW hBW cx cf hB hv hm hf hfb hsb hbW hflt hslt
  rw [← hW] at SORT HW
  clear hW hsz
  go_enter Tryz.func88, Tryz.ntmps88
  go_wp2_with (go_at_call 137; refine SORT.mono ?_; rintro e w1 ⟨rfl, L', h1, h2, h3, h4⟩)
  go_end0
  exact ⟨rfl, L', h1, h2, h3, HW.out _ h4⟩
end Go.Proofs.YtbdkaanmkegfiaaGreatDoor
