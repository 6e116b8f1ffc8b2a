/-
  Merged: CU, CV, CX, CY.
-/
import Derived.Test.YtkpkdikogoalkaaGreatDoorCHq
import Derived.Shelf.SlSortCmp.WholeK
import Derived.Shelf.SlSortCmp.NoneTotal
import Derived.Shelf.SlicesE.Clone
import Derived.Shelf.Lay
import Derived.Ground.SlsfProg
import Derived.Ground.SlgnProg
import Derived.Test.YtkpkdikogoalkaaGreatDoorCMq
namespace Go.Proofs.YtkpkdikogoalkaaGreatDoor.sk
open Go Go.Shelf Go.RowKit Go.Lib Go.Sort
set_option maxRecDepth 100000

def Tryz.sortCal_ren : Go.Shelf.Ren := ⟨fun | 6 => 57 | 15 => 72 | 14 => 82 | 28 => 102 | 29 => 59 | 20 => 111 | 21 => 112 | 22 => 113 | 23 => 114 | 24 => 115 | 25 => 116 | 26 => 117 | 27 => 118 | 46 => 138 | 47 => 131 | 48 => 132 | 49 => 139 | 50 => 140 | 57 => 152 | n => n, fun | 22 => 22 | 24 => 32 | 25 => 100 | 3 => 3 | 39 => 126 | 0 => 0 | 53 => 157 | 55 => 28 | 4 => 4 | 46 => 151 | 45 => 150 | 50 => 135 | 5 => 5 | 9 => 9 | 66 => 179 | 70 => 183 | 76 => 196 | 77 => 197 | n => n, fun | n => n⟩
theorem Tryz.sortCal : Go.Proofs.SlLaysF0.n6 Tryz.prog Tryz.sortCal_ren := {
  mixed := by kernel_rfl
  f6 := ⟨Tryz.f57.name, by decide, Tryz.func57.trans (congrArg some (by kernel_rfl))⟩
  f14 := ⟨Tryz.f82.name, by decide, Tryz.func82.trans (congrArg some (by kernel_rfl))⟩
  f15 := Tryz.func72.trans (congrArg some (by kernel_rfl))
  f20 := ⟨Tryz.f111.name, by decide, Tryz.func111.trans (congrArg some (by kernel_rfl))⟩
  f21 := ⟨Tryz.f112.name, by decide, Tryz.func112.trans (congrArg some (by kernel_rfl))⟩
  f22 := ⟨Tryz.f113.name, by decide, Tryz.func113.trans (congrArg some (by kernel_rfl))⟩
  f23 := ⟨Tryz.f114.name, by decide, Tryz.func114.trans (congrArg some (by kernel_rfl))⟩
  f24 := ⟨Tryz.f115.name, by decide, Tryz.func115.trans (congrArg some (by kernel_rfl))⟩
  f25 := ⟨Tryz.f116.name, by decide, Tryz.func116.trans (congrArg some (by kernel_rfl))⟩
  f26 := ⟨Tryz.f117.name, by decide, Tryz.func117.trans (congrArg some (by kernel_rfl))⟩
  f27 := ⟨Tryz.f118.name, by decide, Tryz.func118.trans (congrArg some (by kernel_rfl))⟩
  f28 := Tryz.func102.trans (congrArg some (by kernel_rfl))
  f29 := Tryz.func59.trans (congrArg some (by kernel_rfl))
  f46 := ⟨Tryz.f138.name, by decide, Tryz.func138.trans (congrArg some (by kernel_rfl))⟩
  f47 := Tryz.func131.trans (congrArg some (by kernel_rfl))
  f48 := Tryz.func132.trans (congrArg some (by kernel_rfl))
  f49 := ⟨Tryz.f139.name, by decide, Tryz.func139.trans (congrArg some (by kernel_rfl))⟩
  f50 := ⟨Tryz.f140.name, by decide, Tryz.func140.trans (congrArg some (by kernel_rfl))⟩
  f57 := ⟨Tryz.f152.name, by decide, Tryz.func152.trans (congrArg some (by kernel_rfl))⟩
  t0 := Tryz.underlying0
  a0 := Tryz.isAgg0
  z0 := Tryz.sizeOf0
  v0 := Tryz.zeroValue0
  t3 := Tryz.underlying3
  a3 := Tryz.isAgg3
  z3 := Tryz.sizeOf3
  v3 := Tryz.zeroValue3
  t4 := Tryz.underlying4
  a4 := Tryz.isAgg4
  z4 := Tryz.sizeOf4
  v4 := Tryz.zeroValue4
  t5 := Tryz.underlying5
  a5 := Tryz.isAgg5
  z5 := Tryz.sizeOf5
  v5 := Tryz.zeroValue5
  t9 := Tryz.underlying9
  a9 := Tryz.isAgg9
  z9 := Tryz.sizeOf9
  v9 := Tryz.zeroValue9
  t22 := Tryz.underlying22
  a22 := Tryz.isAgg22
  z22 := Tryz.sizeOf22
  v22 := Tryz.zeroValue22
  t25 := Tryz.underlying100
  a25 := Tryz.isAgg100
  z25 := Tryz.sizeOf100
  v25 := Tryz.zeroValue100
  t39 := Tryz.underlying126
  a39 := Tryz.isAgg126
  z39 := Tryz.sizeOf126
  v39 := Tryz.zeroValue126
  t45 := Tryz.underlying150
  a45 := Tryz.isAgg150
  z45 := Tryz.sizeOf150
  v45 := Tryz.zeroValue150
  t46 := Tryz.underlying151
  a46 := Tryz.isAgg151
  z46 := Tryz.sizeOf151
  v46 := Tryz.zeroValue151
  t50 := Tryz.underlying135
  a50 := Tryz.isAgg135
  z50 := Tryz.sizeOf135
  v50 := Tryz.zeroValue135
  t53 := Tryz.underlying157
  a53 := Tryz.isAgg157
  z53 := Tryz.sizeOf157
  v53 := Tryz.zeroValue157
  t55 := Tryz.underlying28
  a55 := Tryz.isAgg28
  z55 := Tryz.sizeOf28
  v55 := Tryz.zeroValue28
  t66 := Tryz.underlying179
  a66 := Tryz.isAgg179
  z66 := Tryz.sizeOf179
  v66 := Tryz.zeroValue179
  t70 := Tryz.underlying183
  a70 := Tryz.isAgg183
  z70 := Tryz.sizeOf183
  v70 := Tryz.zeroValue183
  t76 := Tryz.underlying196
  a76 := Tryz.isAgg196
  z76 := Tryz.sizeOf196
  v76 := Tryz.zeroValue196
  t77 := Tryz.underlying197
  a77 := Tryz.isAgg197
  z77 := Tryz.sizeOf197
  v77 := Tryz.zeroValue197 }
def Tryz.cloneCal_ren : Go.Shelf.Ren := ⟨fun | 41 => 56 | n => n, fun | 22 => 22 | 23 => 32 | 4 => 4 | n => n, fun | n => n⟩
theorem Tryz.cloneCal : Go.Proofs.SlLaysE0.n41 Tryz.prog Tryz.cloneCal_ren := {
  mixed := by kernel_rfl
  f41 := ⟨Tryz.f56.name, by decide, Tryz.func56.trans (congrArg some (by kernel_rfl))⟩
  t4 := Tryz.underlying4
  a4 := Tryz.isAgg4
  z4 := Tryz.sizeOf4
  v4 := Tryz.zeroValue4
  t22 := Tryz.underlying22
  a22 := Tryz.isAgg22
  z22 := Tryz.sizeOf22
  v22 := Tryz.zeroValue22 }

theorem clone_cal (ad : Option Addr) (n c : Nat) (l : List Cal) (w : World) (h : CalAt w ad n l) (hp : ∀ a, ad = some a → a.spot = none) (hz : n * 56 ≤ 140737488351232) :
    Calls Tryz.prog 56 #[.slice ad n c] w fun e w' => ∃ v, e = .returned v ∧ Hid (OwnCal w.heap.size w' v l) ∧ Below w.heap.size w w' := by
  obtain ⟨i0, hi, hz0, hz1, hz2⟩ := info_parts Tryz.info32
  have hl := h.len
  cases ad with
  | none =>
    have hn : n = 0 := by
      rcases Nat.eq_zero_or_pos n with h0 | h0
      · exact h0
      · obtain ⟨b, off, e, _⟩ := h.lies h0
        cases e
    subst hn
    obtain rfl : l = [] := List.eq_nil_of_length_eq_zero hl
    have C := AnyE.slices_Clone_nil Tryz.cloneCal 0 c w
    change Calls Tryz.prog 56 _ _ _ at C
    refine C.mono ?_
    rintro e w' ⟨rfl, rfl⟩
    exact ⟨_, rfl, OwnCal.nil _ _, Below.refl _ _⟩
  | some a =>
    obtain ⟨b, off, spot⟩ := a
    have hs : spot = none := hp _ rfl
    subst hs
    have hc : ∀ j u, (l.flatMap calL)[j]? = some u → w.cell? ⟨b, off + j, none⟩ = some u := fun j u hj => by
      have hjl : j < l.length * 5 := by
        rcases Nat.lt_or_ge j (l.length * 5) with h1 | h1
        · exact h1
        · rw [List.getElem?_eq_none (by rw [calF_len]; omega)] at hj; simp at hj
      obtain ⟨b', off', e, hr⟩ := h.lies (by omega)
      injection e with e
      injection e with e1 e2
      subst e1
      subst e2
      have hi5 : j / 5 < l.length := by omega
      have := calF_get l (j / 5) hi5 (j % 5) (by omega)
      rw [show j / 5 * 5 + j % 5 = j by omega, hj] at this
      have := hr (j / 5) hi5 (j % 5) u this.symm
      rwa [show off + j / 5 * 5 + j % 5 = off + j by omega] at this
    have C := AnyE.slices_Clone Tryz.cloneCal i0 _ 5 56 hi hz0 hz1 hz2 rfl (by omega) (fun w => by kernel_rfl) b off n c (l.flatMap calL) w (by rw [calF_len, hl]) (by unfold maxLen; omega) (by omega) hc (calF_one l)
    change Calls Tryz.prog 56 _ _ _ at C
    refine C.mono ?_
    rintro e w' ⟨v', h2, h3, _, h4⟩
    refine ⟨v', h2, ?_, h4⟩
    unfold OwnCal
    rw [hl]
    exact h3
theorem ltC (x y : Cal) : ltOf cmpC x y = decide (cmpC x y < 0) := by unfold ltOf; rfl
theorem swoC : SWO (ltOf cmpC) where
  irrefl x := by rw [ltC, (good_cmpC.eq x x).2 rfl]; rfl
  trans x y z h1 h2 := by
    rw [ltC] at *
    simp only [decide_eq_true_eq] at *
    have t := good_cmpC.trans x y z (by omega) (by omega)
    rcases Int.lt_or_eq_of_le t with h | h
    · exact h
    · have := (good_cmpC.eq x z).1 h
      subst this
      have := good_cmpC.anti x y
      omega
  ntrans x y z h1 h2 := by
    rw [ltC] at *
    simp only [decide_eq_false_iff_not, Int.not_lt] at *
    have a1 := good_cmpC.anti x y
    have a2 := good_cmpC.anti y z
    have a3 := good_cmpC.anti x z
    have t := good_cmpC.trans z y x (by omega) (by omega)
    omega
theorem flatC_get (l : List Cal) (t : Nat) (ht : t < l.length * 5) : (l.flatMap calL)[t]? = some ((calL l.toArray[t / 5]!)[t % 5]!) := by
  have hi : t / 5 < l.length := by omega
  have e : l.toArray[t / 5]! = l[t / 5] := by simp [hi]
  have := calF_get l (t / 5) hi (t % 5) (by omega)
  rw [show t / 5 * 5 + t % 5 = t by omega] at this
  rw [this, e]
  have hl : t % 5 < (calL l[t / 5]).length := by rw [calL_len]; omega
  simp [hl]
theorem OwnCal.free {base : Nat} {w : World} {g n cap : Nat} {l : List Cal} (h : OwnCal base w (.slice (some ⟨g, 0, none⟩) n cap) l) (j : Nat) : w.frozen? ⟨g, j, none⟩ = false := by
  rcases h.2 with ⟨e, _⟩ | ⟨g', cap', cur, e, _, hh, _⟩
  · simp at e
  · simp at e
    obtain ⟨rfl, _⟩ := e
    exact blk_free hh j
theorem OwnCal.holdsK {base : Nat} {w : World} {g n cap : Nat} {l : List Cal} (h : OwnCal base w (.slice (some ⟨g, 0, none⟩) n cap) l) : HoldsK calL 5 w g 0 l.toArray := by
  intro t ht
  rw [size_flatK] at ht
  have ht' : t < l.length * 5 := by simpa using ht
  rw [get_flatK calL 5 l.toArray t ht]
  refine ⟨?_, h.free _⟩
  have := World.ownsRow.cells h (g := g) rfl t _ (flatC_get l t ht')
  rw [Addr.add_lit] at this
  exact this
theorem upd_sortedC (w : World) (blk off n : Nat) (d : Array Cal) (os : Array Obj) : Upd (fun k => k = blk) w (sortWorldK calL 5 w blk off n d os) := by
  unfold sortWorldK putRowK
  refine ⟨rfl, rfl, rfl, ?_, fun k hk hn => ?_⟩
  · rw [size_grow, size_putRow]; exact Nat.le_add_right _ _
  · show ((putRow id (Sort.ahead w n) blk off (flatK calL 5 d)).heap ++ os)[k]? = _
    rw [Array.getElem?_append_left (by rw [size_putRow]; exact hk)]
    show (w.heap.modify blk _)[k]? = _
    rw [Array.getElem?_modify, if_neg (fun e => hn e.symm)]
theorem perm_inC {d d' : Array Cal} (h : PermIn 0 d.size d d') : d.toList.Perm d'.toList := by
  obtain ⟨h1, _, h3⟩ := h
  have e1 : d.extract 0 d.size = d := by simp
  have e2 : d'.extract 0 d.size = d' := by rw [← h1]; simp
  rw [e1, e2] at h3
  exact h3.symm
theorem sorted_inC {d d' : Array Cal} (hs : d'.size = d.size) (h : SortedIn (ltOf cmpC) 0 d.size d') : SortedC d'.toList := by
  unfold SortedC
  rw [List.pairwise_iff_getElem]
  intro i j hi hj hij
  have := h i j (Nat.zero_le _) hij (by simpa [hs] using hj)
  rw [ltC] at this
  have a : d'[i]! = d'.toList[i] := by simp at hi; simp [hi]
  have b : d'[j]! = d'.toList[j] := by simp at hj; simp [hj]
  rw [a, b] at this
  simp only [decide_eq_false_iff_not, Int.not_lt] at this
  have := good_cmpC.anti d'.toList[i] d'.toList[j]
  omega
theorem sort_cal (base g n cap : Nat) (l : List Cal) (w : World) (h : OwnCal base w (.slice (some ⟨g, 0, none⟩) n cap) l) (hn : n < 4611686018427387904) :
    Calls Tryz.prog 57 #[.slice (some ⟨g, 0, none⟩) n cap, .func (.func 58) #[] #[]] w fun e w' => e = .returned (.tuple #[]) ∧ (∃ l' : List Cal, l.Perm l' ∧ SortedC l' ∧ CalAt w' (some ⟨g, 0, none⟩) n l') ∧ Upd (fun k => k = g) w w' := by
  have hl := (own_calL h).1
  have hK := h.holdsK
  obtain ⟨_, cs, fz, hb⟩ := own_block h (k := g) rfl
  have hg := lt_of_block hb
  have hz : l.toArray.size = n := by simp [hl]
  have eg : ∀ args w, (callFunc 58 args).run Tryz.prog w = .ok (.enter 58 args) w := enters_of Tryz.func58 (by kernel_rfl) rfl
  have S := AnyQ.slices_SortFunc Tryz.sortCal 5 Tryz.isAgg32 Tryz.sizeOf32 calL calL_len (fun x v hv => calL_one x v hv) cmpC swoC 58 #[] g 0 cap l.toArray w eg (fun _ _ _ _ x y => order_grow x y _) hK hg (by rw [hz]; exact hn)
  rw [hz] at S
  refine S.mono ?_
  rintro e w' ⟨rfl, d', m, os, hp, hs, rfl⟩
  have hp' := hp
  rw [← hz] at hp' hs
  have hd : d'.size = l.toArray.size := hp'.1
  have hu := upd_sortedC w g 0 m d' os
  refine ⟨rfl, ⟨d'.toList, by simpa using perm_inC hp', sorted_inC hd hs, ?_⟩, hu⟩
  have hH := holdsK_sortWorldK_c calL 5 w g 0 l.toArray d' m os hK hg hd
  refine ⟨by simp; omega, fun _ => ⟨g, 0, rfl, fun i hi j v hv => ?_⟩, fun a ha => by injection ha with ha; subst ha; exact Nat.lt_of_lt_of_le hg hu.size⟩
  have hi' : i < d'.size := by simpa using hi
  have e : d'[i]! = d'.toList[i] := by simp [hi']
  have hj : j < 5 := by
    rcases Nat.lt_or_ge j 5 with h1 | h1
    · exact h1
    · rw [List.getElem?_eq_none (by rw [calL_len]; omega)] at hv; simp at hv
  have c0 := (hH.cell hi' hj).1
  rw [e] at c0
  rw [List.getElem?_eq_getElem (by rw [calL_len]; exact hj)] at hv
  injection hv with hv
  rw [← hv]
  have e2 : (calL d'.toList[i])[j]! = (calL d'.toList[i])[j]'(by rw [calL_len]; exact hj) := by
    exact getElem!_pos (calL d'.toList[i]) j (by rw [calL_len]; exact hj)
  rw [← e2]
  exact c0
end Go.Proofs.YtkpkdikogoalkaaGreatDoor.sk

namespace Go.Proofs.YtkpkdikogoalkaaGreatDoor.sk
open Go Go.RowKit
set_option maxRecDepth 100000

theorem sort_own {w w1 : World} {ao : Option Addr} {n c m : Nat} {l : List Cal} (h : OwnCal w.heap.size w1 (.slice ao n c) l) (hb : Below w.heap.size w w1) (hz : m * 56 ≤ 140737488351232) (hl : l.length = m) :
    Calls Tryz.prog 57 #[.slice ao n c, .func (.func 58) #[] #[]] w1 fun e w' => e = .returned (.tuple #[]) ∧ Hid (∃ l', l.Perm l' ∧ SortedC l' ∧ CalAt w' ao n l') ∧ Below w.heap.size w w' := by
  have hn := (own_calL h).1
  have h0 := h
  rcases h.2 with ⟨e, h1⟩ | ⟨g, cap, cur, e, hg, hh, _⟩
  · simp only [Value.slice.injEq] at e
    obtain ⟨rfl, rfl, rfl⟩ := e
    have hl0 : l = [] := List.eq_nil_of_length_eq_zero (by omega)
    subst hl0
    have C := Go.Proofs.AnyF.slices_SortFunc_none Tryz.sortCal none 0 (.func (.func 58) #[] #[]) w1
    change Calls Tryz.prog 57 _ _ _ at C
    refine C.mono ?_
    rintro e w' ⟨rfl, rfl⟩
    exact ⟨rfl, ⟨[], List.Perm.refl _, List.Pairwise.nil, h0.at⟩, hb⟩
  · simp only [Value.slice.injEq] at e
    obtain ⟨rfl, rfl, rfl⟩ := e
    refine (sort_cal _ g _ c l w1 h0 (by omega)).mono ?_
    rintro e w' ⟨rfl, ⟨l', h1, h2, h3⟩, hu⟩
    exact ⟨rfl, ⟨l', h1, h2, h3⟩, hb.trans (hu.below hb.size (fun k hk e => by omega))⟩
/-- What inOrder tells. -/
def OrdP (l : List Cal) (w : World) (e : Ending) (w' : World) : Prop := ∃ ao n c l', e = .returned (.slice ao n c) ∧ Hid (CalAt w' ao n l' ∧ l.Perm l' ∧ SortedC l') ∧ (n ≤ c ∧ c ≤ maxLen) ∧ Below w.heap.size w w'
set_option maxHeartbeats 1000000 in
theorem inOrder_any (ad : Option Addr) (n c : Nat) (l : List Cal) (w : World) (h : CalAt w ad n l) (hp : ∀ a, ad = some a → a.spot = none) (hz : n * 56 ≤ 140737488351232) :
    Calls Tryz.prog 26 #[.slice ad n c] w (OrdP l w) := by
  have CL := clone_cal ad n c l w h hp hz
  have hl := h.len
  have HE : Hid (∀ ao m c' l' w', CalAt w' ao m l' → l.Perm l' → SortedC l' → Below w.heap.size w w' → m ≤ c' ∧ c' ≤ maxLen → OrdP l w (.returned (.slice ao m c')) w') := fun ao m c' l' w' h1 h2 h3 h4 h5 => ⟨ao, m, c', l', rfl, ⟨h1, h2, h3⟩, h5, h4⟩
  generalize OrdP l w = R at *
  have HL : Hid (l.length = n ∧ n * 56 ≤ 140737488351232) := ⟨hl, hz⟩
  clear h hp hz hl
  go_enter Tryz.func26, Tryz.ntmps26
  go_wp2_with (first
    | (go_at_call 56; (with_reducible refine CL.mono ?_); clear CL; rintro e w1 ⟨v, rfl, HO, b⟩; have HB : Hid _ := b; clear b; obtain ⟨a1, n1, c1, rfl⟩ := row_shape HO.out; have SO : Calls Tryz.prog 57 #[.slice a1 n1 c1, .func (.func 58) #[] #[]] w1 fun e w' => e = .returned (.tuple #[]) ∧ Hid (∃ l', l.Perm l' ∧ SortedC l' ∧ CalAt w' a1 n1 l') ∧ Below w.heap.size w w' := sort_own HO.out HB.out HL.out.2 HL.out.1)
    | (go_at_call 57; (with_reducible refine SO.mono ?_); clear SO; rintro e w2 ⟨rfl, HS, b2⟩))
  obtain ⟨l', h1, h2, h3⟩ := HS.out
  exact HE.out _ _ _ l' _ h3 h1 h2 b2 (own_calL HO.out).2
end Go.Proofs.YtkpkdikogoalkaaGreatDoor.sk

namespace Go.Proofs.YtkpkdikogoalkaaGreatDoor.sk
open Go Go.RowKit
set_option maxRecDepth 100000

theorem range13C {w : World} {b : Nat} {c : List Value} {T : TypeId} (h : Blk w b c.toArray T) : w.rangeAt b 0 c := fun j v hv => by rw [Nat.zero_add]; exact h.cell j (by rw [List.getElem?_toArray]; exact hv)
def zCal : List Value := [.int .i64 0, .string ⟨#[]⟩, .string ⟨#[]⟩, .bool false, .int .u64 0]
theorem order_any (x y : Cal) (w : World) : Calls Tryz.prog 58 #[.agg (calL x).toArray, .agg (calL y).toArray] w fun e w' => e = .returned (.int .i64 (cmpC x y)) ∧ Below w.heap.size w w' := by
  refine (order_grow x y w).mono ?_
  rintro e w' ⟨h1, q, os', rfl⟩
  refine ⟨h1, rfl, rfl, rfl, ?_, fun k hk => ?_⟩
  · show w.heap.size ≤ (w.heap ++ os').size
    simp
  · show (w.heap ++ os')[k]? = _
    rw [Array.getElem?_append_left hk]
theorem eq_cal (x y : Cal) (W : World) : (binOp .eql 32 (.agg (calL x).toArray) (.agg (calL y).toArray)).run Tryz.prog W = .ok (.bool (decide (x = y))) W := by
  obtain ⟨a, b, c, d, e⟩ := x
  obtain ⟨a', b', c', d', e'⟩ := y
  show (binOp .eql 32 (.agg #[.int .i64 a, .string b, .string c, .bool d, .int .u64 e]) (.agg #[.int .i64 a', .string b', .string c', .bool d', .int .u64 e'])).run Tryz.prog W = _
  rw [run_eqlS (eqI_call 9996 _ _ _ _ _ _ _ _ _ _ W)]
  congr 3
  simp only [Prod.mk.injEq]
/-- The rest of a list lies behind its first one. -/
theorem CalAt.tail {w : World} {b off m : Nat} {y : Cal} {D : List Cal} (h : CalAt w (some ⟨b, off, none⟩) m (y :: D)) : CalAt w (some ⟨b, off + 5, none⟩) (m - 1) D := by
  have hl := h.len
  simp at hl
  refine ⟨by omega, fun hp => ?_, fun a ha => by injection ha with ha; subst ha; exact h.lt ⟨b, off, none⟩ rfl⟩
  obtain ⟨b', off', e, hr⟩ := h.lies (by omega)
  injection e with e
  injection e with e1 e2
  subst e1
  subst e2
  refine ⟨b, off + 5, rfl, fun i hi => ?_⟩
  have := hr (i + 1) (by simp; omega)
  simp only [List.getElem_cons_succ] at this
  rwa [show off + (i + 1) * 5 = off + 5 + i * 5 by omega] at this
theorem CalAt.empty {w : World} {ao : Option Addr} (h : ∀ a, ao = some a → a.block < w.heap.size) : CalAt w ao 0 [] := ⟨rfl, (fun h => by omega), h⟩
theorem CalAt.head {w : World} {ao : Option Addr} {m : Nat} {y : Cal} {D : List Cal} (h : CalAt w ao m (y :: D)) : ∃ b off, ao = some ⟨b, off, none⟩ ∧ w.rangeAt b off (calL y) := by
  have hl := h.len
  simp at hl
  obtain ⟨b, off, e, hr⟩ := h.lies (by omega)
  have := hr 0 (by simp)
  simp at this
  exact ⟨b, off, e, this⟩
/-- A list that is read on: where its rest lies. -/
structure RestAt (base : Nat) (w : World) (v : Value) (D : List Cal) : Prop where
  ex : ∃ ao m c, v = .slice ao m c ∧ CalAt w ao m D ∧ m ≤ c ∧ c ≤ maxLen ∧ ∀ a, ao = some a → a.block < base
theorem RestAt.below {base : Nat} {w w' : World} {v : Value} {D : List Cal} (h : RestAt base w v D) (hb : Below w.heap.size w w') : RestAt base w' v D := by
  obtain ⟨ao, m, c, h1, h2, h3⟩ := h.ex
  exact ⟨ao, m, c, h1, h2.below hb, h3⟩
def slLen : Value → Nat
  | .slice _ n _ => n
  | _ => 0
/-- What without tells. -/
def WoP (A B : List Cal) (w : World) (e : Ending) (w' : World) : Prop := ∃ v, e = .returned v ∧ Hid (OwnCal w.heap.size w' v (woL A B)) ∧ Below w.heap.size w w'
set_option maxHeartbeats 8000000 in
theorem without_any (aa ba : Option Addr) (na nb ca cb : Nat) (A B : List Cal) (w : World) (hA : CalAt w aa na A) (hB : CalAt w ba nb B) (hc : nb ≤ cb ∧ cb ≤ maxLen) (hz : na ≤ 2513169434917) :
    Calls Tryz.prog 27 #[.slice aa na ca, .slice ba nb cb] w (WoP A B w) := by
  have HA : Hid _ := hA
  have HLA : Hid (A.length = na) := hA.len
  have HB0 : Hid (RestAt w.heap.size w (.slice ba nb cb) B) := ⟨ba, nb, cb, rfl, hB, hc.1, hc.2, hB.lt⟩
  have HEnd : Hid (∀ v w', OwnCal w.heap.size w' v (woL A B) → Below w.heap.size w w' → WoP A B w (.returned v) w') := fun v w' h1 h2 => ⟨v, rfl, h1, h2⟩
  generalize WoP A B w = R at *
  clear hA hB hc
  go_enter Tryz.func27, Tryz.ntmps27
  go_wp2
  go_loopw [1, 5, 10] (fun b l t wr => ∃ (k : Nat) (P D : List Cal), t = .int .i64 k ∧ k ≤ na ∧ Hid (RestAt w.heap.size wr b D) ∧ Hid (OwnCal w.heap.size wr l P) ∧ Hid (woL A B = P ++ woL (A.drop k) D ∧ P.length ≤ k) ∧ Hid (Below w.heap.size w wr)) (fun _ _ t _ => na - (intOf t).toNat)
  case atStart => exact ⟨0, [], B, rfl, by omega, HB0, OwnCal.nil _ _, ⟨rfl, Nat.zero_le _⟩, Below.refl _ _⟩
  case round =>
    obtain ⟨k, P, D, rfl, hk, HR, HO, HW, HB⟩ := hrel
    obtain ⟨la, ll, lc, hls⟩ := row_shape HO.out
    subst hls
    obtain ⟨bo, m, cc, rfl, -⟩ := HR.out.ex
    by_cases hlt : k < na
    · have hkA : k < A.length := by rw [HLA.out]; exact hlt
      obtain ⟨ab, aoff, rfl, hra⟩ := (HA.out.below HB.out).lies (by omega)
      have RA : Hid (wr.rangeAt ab (aoff + k * 5) (calL A[k])) := hra k hkA
      have HD : Hid (A.drop k = A[k] :: A.drop (k + 1)) := List.drop_eq_getElem_cons hkA
      obtain ⟨x, hx⟩ : ∃ x, A[k] = x := ⟨_, rfl⟩
      rw [hx] at RA HD
      clear hx hra
      have HSZ : Hid (w.heap.size ≤ wr.heap.size) := HB.out.size
      go_wp2_with (first
        | (refine wpList_load_mid rfl 32 _ rfl ab (aoff + k * 5) rfl (calL x) _ RA.out Tryz.underlying32 rfl (by kernel_rfl) ?_)
        | (refine wpList_stW rfl 32 _ _ rfl wr.heap.size zCal (calL x) 32 (Blk.new _ _ _) rfl rfl rfl (by kernel_rfl) (calL_one x) ?_; intro w3 n3 u3; have b3 : Below wr.heap.size wr w3 := ((Below.refl _ wr).alloc (Nat.le_refl _) _).trans (u3.below (by simp) (fun j hj e => by omega)); have HB3 : Hid (Below w.heap.size w w3) := HB.out.trans (b3.mono HB.out.size); have HR3 : Hid (RestAt w.heap.size w3 (.slice bo m cc) D) := RestAt.below HR.out b3; have HO3 : Hid (OwnCal w.heap.size w3 (.slice la ll lc) P) := OwnCal.below HO.out b3; have HC3 : Hid (Blk w3 wr.heap.size (calL x).toArray 32) := n3; clear n3 u3 b3))
      (try simp only [Act.put])
      obtain ⟨cb, hcb⟩ : ∃ cb, wr.heap.size = cb := ⟨_, rfl⟩
      rw [hcb] at HC3 HSZ
      (try rw [hcb])
      clear hcb RA
      go_loopw [1] (fun b wi => ∃ (E : List Cal), Hid (RestAt w.heap.size wi b E) ∧ Hid (dropL x D = dropL x E) ∧ Hid (OwnCal w.heap.size wi (.slice la ll lc) P) ∧ Hid (Blk wi cb (calL x).toArray 32) ∧ Hid (Below w.heap.size w wi)) (fun b _ => slLen b)
      case atStart => exact ⟨D, HR3, rfl, HO3, HC3, HB3⟩
      case round =>
        obtain ⟨E, HRi, HDi, HOi, HCi, HBi⟩ := hrel
        obtain ⟨bo, m, cc, rfl, hCi, hmc, hcm, hlb⟩ := HRi.out.ex
        have HLB0 : Hid (∀ a, bo = some a → a.block < w.heap.size) := hlb
        clear hlb
        unfold maxLen at hcm
        rcases E with _ | ⟨y, E⟩
        · have hm0 : m = 0 := hCi.len.symm
          subst hm0
          have HDx : Hid (dropL x D = []) := HDi.out
          have HLT : Hid (∀ a, bo = some a → a.block < wr.heap.size) := hCi.lt
          clear hCi HRi HDi
          go_wp2
          refine wp_region_held (S := fun _ => True) (by kernel_rfl) ?_
          change wpAnyH _ _ _ _ _ _ _ _ (World.drew _)
          refine takeC (i := 0) (v := .slice bo 0 cc) rfl (by kernel_rfl) (by kernel_rfl) (by kernel_rfl) (fun _ _ _ h => h) (Or.inl ⟨by rfl, fun W hW => by go_simp⟩) trivial ?_
          simp only [Act.put, List.setIfInBounds_toArray, List.set_cons_zero, List.set_cons_succ]
          refine takeC (i := 1) (v := .int .i64 0) rfl (by kernel_rfl) (by kernel_rfl) (by kernel_rfl) (fun _ _ _ h => h) (Or.inl ⟨by rfl, fun W hW => by go_simp⟩) trivial ?_
          simp only [Act.put, List.setIfInBounds_toArray, List.set_cons_zero, List.set_cons_succ]
          refine takeC (i := 2) (v := .bool false) rfl (by kernel_rfl) (by kernel_rfl) (by kernel_rfl) (fun _ _ _ h => h) (Or.inl ⟨by rfl, fun W hW => by go_simp⟩) trivial ?_
          simp only [Act.put, List.setIfInBounds_toArray, List.set_cons_zero, List.set_cons_succ]
          refine takeC (i := 3) (v := .bool false) rfl (by kernel_rfl) (by kernel_rfl) (by kernel_rfl) (fun _ _ _ h => h) (Or.inl ⟨by rfl, fun W hW => by go_simp⟩) trivial ?_
          simp only [Act.put, List.setIfInBounds_toArray, List.set_cons_zero, List.set_cons_succ]
          refine takeC (i := 4) (v := undef) rfl (by kernel_rfl) (by kernel_rfl) (by kernel_rfl) (fun _ _ _ h => h) (Or.inr ⟨by rfl, rfl⟩) trivial ?_
          simp only [Act.put, List.setIfInBounds_toArray, List.set_cons_zero, List.set_cons_succ]
          refine takeC (i := 5) (v := undef) rfl (by kernel_rfl) (by kernel_rfl) (by kernel_rfl) (fun _ _ _ h => h) (Or.inr ⟨by rfl, rfl⟩) trivial ?_
          simp only [Act.put, List.setIfInBounds_toArray, List.set_cons_zero, List.set_cons_succ]
          refine takeC (i := 6) (v := undef) rfl (by kernel_rfl) (by kernel_rfl) (by kernel_rfl) (fun _ _ _ h => h) (Or.inr ⟨by rfl, rfl⟩) trivial ?_
          simp only [Act.put, List.setIfInBounds_toArray, List.set_cons_zero, List.set_cons_succ]
          refine takeC (i := 7) (v := undef) rfl (by kernel_rfl) (by kernel_rfl) (by kernel_rfl) (fun _ _ _ h => h) (Or.inr ⟨by rfl, rfl⟩) trivial ?_
          simp only [Act.put, List.setIfInBounds_toArray, List.set_cons_zero, List.set_cons_succ]
          refine takeC (i := 8) (v := undef) rfl (by kernel_rfl) (by kernel_rfl) (by kernel_rfl) (fun _ _ _ h => h) (Or.inr ⟨by rfl, rfl⟩) trivial ?_
          simp only [Act.put, List.setIfInBounds_toArray, List.set_cons_zero, List.set_cons_succ]
          refine takeC (i := 9) (v := undef) rfl (by kernel_rfl) (by kernel_rfl) (by kernel_rfl) (fun _ _ _ h => h) (Or.inr ⟨by rfl, rfl⟩) trivial ?_
          simp only [Act.put, List.setIfInBounds_toArray, List.set_cons_zero, List.set_cons_succ]
          refine takeC (i := 10) (v := .bool false) rfl (by kernel_rfl) (by kernel_rfl) (by kernel_rfl) (fun _ _ _ h => h) (Or.inl ⟨by rfl, fun W hW => by go_simp⟩) trivial ?_
          simp only [Act.put, List.setIfInBounds_toArray, List.set_cons_zero, List.set_cons_succ]
          refine wpAnyH_done (by kernel_rfl) ?_ _
          go_wp2
          refine wp_region_held (S := fun _ => True) (by kernel_rfl) ?_
          change wpAnyH _ _ _ _ _ _ _ _ (World.drew _)
          refine takeC (i := 0) (v := .slice bo 0 cc) rfl (by kernel_rfl) (by kernel_rfl) (by kernel_rfl) (fun _ _ _ h => h) (Or.inl ⟨by rfl, fun W hW => by go_simp⟩) trivial ?_
          simp only [Act.put, List.setIfInBounds_toArray, List.set_cons_zero, List.set_cons_succ]
          refine takeC (i := 1) (v := .int .i64 0) rfl (by kernel_rfl) (by kernel_rfl) (by kernel_rfl) (fun _ _ _ h => h) (Or.inl ⟨by rfl, fun W hW => by go_simp⟩) trivial ?_
          simp only [Act.put, List.setIfInBounds_toArray, List.set_cons_zero, List.set_cons_succ]
          refine takeC (i := 2) (v := .bool false) rfl (by kernel_rfl) (by kernel_rfl) (by kernel_rfl) (fun _ _ _ h => h) (Or.inl ⟨by rfl, fun W hW => by go_simp⟩) trivial ?_
          simp only [Act.put, List.setIfInBounds_toArray, List.set_cons_zero, List.set_cons_succ]
          refine takeC (i := 3) (v := .bool false) rfl (by kernel_rfl) (by kernel_rfl) (by kernel_rfl) (fun _ _ _ h => h) (Or.inl ⟨by rfl, fun W hW => by go_simp⟩) trivial ?_
          simp only [Act.put, List.setIfInBounds_toArray, List.set_cons_zero, List.set_cons_succ]
          refine takeC (i := 4) (v := undef) rfl (by kernel_rfl) (by kernel_rfl) (by kernel_rfl) (fun _ _ _ h => h) (Or.inr ⟨by rfl, rfl⟩) trivial ?_
          simp only [Act.put, List.setIfInBounds_toArray, List.set_cons_zero, List.set_cons_succ]
          refine takeC (i := 5) (v := undef) rfl (by kernel_rfl) (by kernel_rfl) (by kernel_rfl) (fun _ _ _ h => h) (Or.inr ⟨by rfl, rfl⟩) trivial ?_
          simp only [Act.put, List.setIfInBounds_toArray, List.set_cons_zero, List.set_cons_succ]
          refine takeC (i := 6) (v := undef) rfl (by kernel_rfl) (by kernel_rfl) (by kernel_rfl) (fun _ _ _ h => h) (Or.inr ⟨by rfl, rfl⟩) trivial ?_
          simp only [Act.put, List.setIfInBounds_toArray, List.set_cons_zero, List.set_cons_succ]
          refine takeC (i := 7) (v := undef) rfl (by kernel_rfl) (by kernel_rfl) (by kernel_rfl) (fun _ _ _ h => h) (Or.inr ⟨by rfl, rfl⟩) trivial ?_
          simp only [Act.put, List.setIfInBounds_toArray, List.set_cons_zero, List.set_cons_succ]
          refine takeC (i := 8) (v := undef) rfl (by kernel_rfl) (by kernel_rfl) (by kernel_rfl) (fun _ _ _ h => h) (Or.inr ⟨by rfl, rfl⟩) trivial ?_
          simp only [Act.put, List.setIfInBounds_toArray, List.set_cons_zero, List.set_cons_succ]
          refine takeC (i := 9) (v := .bool false) rfl (by kernel_rfl) (by kernel_rfl) (by kernel_rfl) (fun _ _ _ h => h) (Or.inl ⟨by rfl, fun W hW => by go_simp⟩) trivial ?_
          simp only [Act.put, List.setIfInBounds_toArray, List.set_cons_zero, List.set_cons_succ]
          refine wpAnyH_done (by kernel_rfl) ?_ _
          obtain ⟨wd, hwd⟩ : ∃ V, wr.drew.drew = V := ⟨_, rfl⟩
          have bd : Below wr.heap.size wr wd := by rw [← hwd]; exact (Below.refl _ _).drew.drew
          have HCd : Hid (Blk wd cb (calL x).toArray 32) := Blk.below HCi.out bd (Blk.lt HCi.out)
          have HOd : Hid (OwnCal w.heap.size wd (.slice la ll lc) P) := OwnCal.below HOi.out bd
          have HBd : Hid (Below w.heap.size w wd) := HBi.out.trans (bd.mono HBi.out.size)
          have HLd : Hid (∀ a, bo = some a → a.block < wd.heap.size) := fun a ha => Nat.lt_of_lt_of_le (HLT.out a ha) bd.size
          clear HCi HOi HBi HLT bd
          (try rw [hwd])
          obtain ⟨x0, x1, x2, x3, x4⟩ := x
          go_wp2_with (first
            | (refine wpList_load_mid rfl 32 _ rfl cb 0 rfl [.int .i64 x0, .string x1, .string x2, .bool x3, .int .u64 x4] _ (range13C HCd.out) Tryz.underlying32 rfl (by kernel_rfl) ?_)
            | (at_builtin; refine wpList_appC wd rfl _ _ rfl w.heap.size (.slice la ll lc) P (x0, x1, x2, x3, x4) rfl HOd.out rfl (by have := HW.out.2; omega) HBd.out.size ?_; intro v8 w8 o8 u8; obtain ⟨a8, l8, c8, rfl⟩ := row_shape o8; have HO8 : Hid _ := o8; have HU8 : Hid _ := u8; clear o8 u8))
          go_roundw
          case rel =>
            refine ⟨k + 1, P ++ [(x0, x1, x2, x3, x4)], [], by go_num, by omega, ?_, HO8, ?_, ?_⟩
            · exact ⟨_, _, _, rfl, CalAt.empty (fun a ha => Nat.lt_of_lt_of_le (HLd.out a ha) HU8.out.size), hmc, by unfold maxLen; omega, HLB0.out⟩
            · refine ⟨?_, by rw [List.length_append]; have := HW.out.2; simp; omega⟩
              rw [HW.out.1, HD.out, woL_cons, if_neg (by rw [HDx.out]; simp), List.append_assoc]
              rw [HDx.out]
              rfl
            · exact HBd.out.trans (HU8.out.below HBd.out.size (fun j hj e => by omega))
          case measure => simp [intOf]; omega
        · obtain ⟨bb, off, rfl, hry⟩ := hCi.head
          have hm : 0 < m := by have := hCi.len; simp at this; omega
          have hmi : (0 : Int) < (m : Int) := by omega
          have hS0 : wr.rangeAt bb off (calL y) ∧ wr.rangeAt cb 0 (calL x) := ⟨hry, range13C HCi.out⟩
          have HKP : Hid (∀ W, Below wr.heap.size wr W → W.rangeAt bb off (calL y) ∧ W.rangeAt cb 0 (calL x)) := fun W hb => ⟨range_bel hS0.1 hb, range_bel hS0.2 hb⟩
          have OD := order_any y x
          have HDc := dropL_cons x y E
          by_cases hlt2 : cmpC y x < 0
          · have hdt : decide (cmpC y x < 0) = true := by simpa using hlt2
            rw [if_pos hlt2] at HDc
            have HDy : Hid (dropL x D = dropL x E) := HDi.out.trans HDc
            clear HDc HDi hlt2
            go_wp2
            refine wp_region_held (S := fun W => W.rangeAt bb off (calL y) ∧ W.rangeAt cb 0 (calL x)) (by kernel_rfl) ?_
            change wpAnyH _ _ _ _ _ _ _ _ (World.drew _)
            have hS : wr.drew.rangeAt bb off (calL y) ∧ wr.drew.rangeAt cb 0 (calL x) := hS0
            refine takeC (i := 0) (v := .slice (some ⟨bb, off, none⟩) m cc) rfl (by kernel_rfl) (by kernel_rfl) (by kernel_rfl) (fun _ _ _ h => h) (Or.inl ⟨by rfl, fun W hW => by go_simp⟩) hS ?_
            simp only [Act.put, List.setIfInBounds_toArray, List.set_cons_zero, List.set_cons_succ]
            refine takeC (i := 1) (v := .int .i64 (m : Int)) rfl (by kernel_rfl) (by kernel_rfl) (by kernel_rfl) (fun _ _ _ h => h) (Or.inl ⟨by rfl, fun W hW => by go_simp⟩) hS ?_
            simp only [Act.put, List.setIfInBounds_toArray, List.set_cons_zero, List.set_cons_succ]
            refine takeC (i := 2) (v := .bool true) rfl (by kernel_rfl) (by kernel_rfl) (by kernel_rfl) (fun _ _ _ h => h) (Or.inl ⟨by rfl, fun W hW => by go_simp⟩) hS ?_
            simp only [Act.put, List.setIfInBounds_toArray, List.set_cons_zero, List.set_cons_succ]
            refine takeC (i := 3) (v := .bool true) rfl (by kernel_rfl) (by kernel_rfl) (by kernel_rfl) (fun _ _ _ h => h) (Or.inl ⟨by rfl, fun W hW => by go_simp⟩) hS ?_
            simp only [Act.put, List.setIfInBounds_toArray, List.set_cons_zero, List.set_cons_succ]
            refine takeC (i := 4) (v := .slice (some ⟨bb, off, none⟩) m cc) rfl (by kernel_rfl) (by kernel_rfl) (by kernel_rfl) (fun _ _ _ h => h) (Or.inl ⟨by rfl, fun W hW => by go_simp⟩) hS ?_
            simp only [Act.put, List.setIfInBounds_toArray, List.set_cons_zero, List.set_cons_succ]
            refine takeC (i := 5) (v := .pointer (some ⟨bb, off, none⟩)) rfl (by kernel_rfl) (by kernel_rfl) (by kernel_rfl) (fun _ _ _ h => h) (Or.inl ⟨by rfl, fun W hW => by go_simp⟩) hS ?_
            simp only [Act.put, List.setIfInBounds_toArray, List.set_cons_zero, List.set_cons_succ]
            refine takeC (i := 6) (v := .agg (calL y).toArray) rfl (by kernel_rfl) (by kernel_rfl) (by kernel_rfl) (fun _ _ _ h => h) (yieldsIf_load_mid (by rfl) 32 _ rfl bb off rfl (calL y) _ (fun W hW => hW.1) Tryz.underlying32 rfl (by kernel_rfl)) hS ?_
            simp only [Act.put, List.setIfInBounds_toArray, List.set_cons_zero, List.set_cons_succ]
            refine takeC (i := 7) (v := .agg (calL x).toArray) rfl (by kernel_rfl) (by kernel_rfl) (by kernel_rfl) (fun _ _ _ h => h) (yieldsIf_load_mid (by rfl) 32 _ rfl cb 0 rfl (calL x) _ (fun W hW => hW.2) Tryz.underlying32 rfl (by kernel_rfl)) hS ?_
            simp only [Act.put, List.setIfInBounds_toArray, List.set_cons_zero, List.set_cons_succ]
            refine onlyC (i := 8) rfl (by kernel_rfl) (fun K hK => ?_)
            go_simp
            go_at_call 58
            (with_reducible refine (OD _).mono ?_)
            rintro e w5 ⟨rfl, b5⟩
            have bi5 : Below wr.heap.size wr w5 := Below.trans ((Below.refl wr.heap.size wr).drew) b5
            have hS5 := HKP.out w5 bi5
            refine hK _ _ ⟨hS5, ?_⟩
            clear hK K
            refine takeC (i := 9) (v := .bool true) rfl (by kernel_rfl) (by kernel_rfl) (by kernel_rfl) (fun _ _ _ h => h) (Or.inl ⟨by rfl, fun W hW => by go_simp⟩) hS5 ?_
            simp only [Act.put, List.setIfInBounds_toArray, List.set_cons_zero, List.set_cons_succ]
            refine takeC (i := 10) (v := .bool true) rfl (by kernel_rfl) (by kernel_rfl) (by kernel_rfl) (fun _ _ _ h => h) (Or.inl ⟨by rfl, fun W hW => by go_simp⟩) hS5 ?_
            simp only [Act.put, List.setIfInBounds_toArray, List.set_cons_zero, List.set_cons_succ]
            refine wpAnyH_done (by kernel_rfl) ?_ _
            clear hS0 hS hS5 OD
            have HT5 : Hid (CalAt w5 (some ⟨bb, off + 5, none⟩) (m - 1) E) := (hCi.below bi5).tail
            have HLt : Hid (bb < w5.heap.size) := Nat.lt_of_lt_of_le (hCi.lt _ rfl) bi5.size
            have HO5 : Hid (OwnCal w.heap.size w5 (.slice la ll lc) P) := OwnCal.below HOi.out bi5
            have HC5 : Hid (Blk w5 cb (calL x).toArray 32) := Blk.below HCi.out bi5 (Blk.lt HCi.out)
            have HB5 : Hid (Below w.heap.size w w5) := HBi.out.trans (bi5.mono HBi.out.size)
            clear hCi hry HRi
            go_wp2
            refine ⟨⟨E, ?_, HDy, HO5, HC5, HB5⟩, by show m - 1 < m; omega⟩
            by_cases h1 : cc = 1
            · rw [if_pos h1]
              have hE : E = [] := List.eq_nil_of_length_eq_zero (by have := HT5.out.len; omega)
              subst hE
              exact ⟨_, _, _, rfl, by rw [show m - 1 = 0 by omega]; exact CalAt.empty (fun a ha => by injection ha with ha; subst ha; exact HLt.out), by omega, by unfold maxLen; omega, fun a ha => by injection ha with ha; subst ha; exact HLB0.out ⟨bb, off, none⟩ rfl⟩
            · rw [if_neg h1]
              exact ⟨_, _, _, rfl, HT5.out, by omega, by unfold maxLen; omega, fun a ha => by injection ha with ha; subst ha; exact HLB0.out ⟨bb, off, none⟩ rfl⟩
          · have hdt : decide (cmpC y x < 0) = false := by simpa using hlt2
            rw [if_neg hlt2] at HDc
            have HDy : Hid (dropL x D = y :: E) := HDi.out.trans HDc
            clear HDc HDi hlt2
            go_wp2
            refine wp_region_held (S := fun W => W.rangeAt bb off (calL y) ∧ W.rangeAt cb 0 (calL x)) (by kernel_rfl) ?_
            change wpAnyH _ _ _ _ _ _ _ _ (World.drew _)
            have hS : wr.drew.rangeAt bb off (calL y) ∧ wr.drew.rangeAt cb 0 (calL x) := hS0
            refine takeC (i := 0) (v := .slice (some ⟨bb, off, none⟩) m cc) rfl (by kernel_rfl) (by kernel_rfl) (by kernel_rfl) (fun _ _ _ h => h) (Or.inl ⟨by rfl, fun W hW => by go_simp⟩) hS ?_
            simp only [Act.put, List.setIfInBounds_toArray, List.set_cons_zero, List.set_cons_succ]
            refine takeC (i := 1) (v := .int .i64 (m : Int)) rfl (by kernel_rfl) (by kernel_rfl) (by kernel_rfl) (fun _ _ _ h => h) (Or.inl ⟨by rfl, fun W hW => by go_simp⟩) hS ?_
            simp only [Act.put, List.setIfInBounds_toArray, List.set_cons_zero, List.set_cons_succ]
            refine takeC (i := 2) (v := .bool true) rfl (by kernel_rfl) (by kernel_rfl) (by kernel_rfl) (fun _ _ _ h => h) (Or.inl ⟨by rfl, fun W hW => by go_simp⟩) hS ?_
            simp only [Act.put, List.setIfInBounds_toArray, List.set_cons_zero, List.set_cons_succ]
            refine takeC (i := 3) (v := .bool true) rfl (by kernel_rfl) (by kernel_rfl) (by kernel_rfl) (fun _ _ _ h => h) (Or.inl ⟨by rfl, fun W hW => by go_simp⟩) hS ?_
            simp only [Act.put, List.setIfInBounds_toArray, List.set_cons_zero, List.set_cons_succ]
            refine takeC (i := 4) (v := .slice (some ⟨bb, off, none⟩) m cc) rfl (by kernel_rfl) (by kernel_rfl) (by kernel_rfl) (fun _ _ _ h => h) (Or.inl ⟨by rfl, fun W hW => by go_simp⟩) hS ?_
            simp only [Act.put, List.setIfInBounds_toArray, List.set_cons_zero, List.set_cons_succ]
            refine takeC (i := 5) (v := .pointer (some ⟨bb, off, none⟩)) rfl (by kernel_rfl) (by kernel_rfl) (by kernel_rfl) (fun _ _ _ h => h) (Or.inl ⟨by rfl, fun W hW => by go_simp⟩) hS ?_
            simp only [Act.put, List.setIfInBounds_toArray, List.set_cons_zero, List.set_cons_succ]
            refine takeC (i := 6) (v := .agg (calL y).toArray) rfl (by kernel_rfl) (by kernel_rfl) (by kernel_rfl) (fun _ _ _ h => h) (yieldsIf_load_mid (by rfl) 32 _ rfl bb off rfl (calL y) _ (fun W hW => hW.1) Tryz.underlying32 rfl (by kernel_rfl)) hS ?_
            simp only [Act.put, List.setIfInBounds_toArray, List.set_cons_zero, List.set_cons_succ]
            refine takeC (i := 7) (v := .agg (calL x).toArray) rfl (by kernel_rfl) (by kernel_rfl) (by kernel_rfl) (fun _ _ _ h => h) (yieldsIf_load_mid (by rfl) 32 _ rfl cb 0 rfl (calL x) _ (fun W hW => hW.2) Tryz.underlying32 rfl (by kernel_rfl)) hS ?_
            simp only [Act.put, List.setIfInBounds_toArray, List.set_cons_zero, List.set_cons_succ]
            refine onlyC (i := 8) rfl (by kernel_rfl) (fun K hK => ?_)
            go_simp
            go_at_call 58
            (with_reducible refine (OD _).mono ?_)
            rintro e w5 ⟨rfl, b5⟩
            have bi5 : Below wr.heap.size wr w5 := Below.trans ((Below.refl wr.heap.size wr).drew) b5
            have hS5 := HKP.out w5 bi5
            refine hK _ _ ⟨hS5, ?_⟩
            clear hK K
            refine takeC (i := 9) (v := .bool false) rfl (by kernel_rfl) (by kernel_rfl) (by kernel_rfl) (fun _ _ _ h => h) (Or.inl ⟨by rfl, fun W hW => by go_simp⟩) hS5 ?_
            simp only [Act.put, List.setIfInBounds_toArray, List.set_cons_zero, List.set_cons_succ]
            refine takeC (i := 10) (v := .bool false) rfl (by kernel_rfl) (by kernel_rfl) (by kernel_rfl) (fun _ _ _ h => h) (Or.inl ⟨by rfl, fun W hW => by go_simp⟩) hS5 ?_
            simp only [Act.put, List.setIfInBounds_toArray, List.set_cons_zero, List.set_cons_succ]
            refine wpAnyH_done (by kernel_rfl) ?_ _
            clear hS0 hS OD
            have EQ := eq_cal y x
            by_cases hyx : y = x
            · rw [decide_eq_true hyx] at EQ
              have HYX : Hid (y = x) := hyx
              clear hyx
              go_wp2
              refine wp_region_held (S := fun W => W.rangeAt bb off (calL y) ∧ W.rangeAt cb 0 (calL x)) (by kernel_rfl) ?_
              change wpAnyH _ _ _ _ _ _ _ _ (World.drew _)
              have hSd : w5.drew.rangeAt bb off (calL y) ∧ w5.drew.rangeAt cb 0 (calL x) := hS5
              refine takeC (i := 0) (v := .slice (some ⟨bb, off, none⟩) m cc) rfl (by kernel_rfl) (by kernel_rfl) (by kernel_rfl) (fun _ _ _ h => h) (Or.inl ⟨by rfl, fun W hW => by go_simp⟩) hSd ?_
              simp only [Act.put, List.setIfInBounds_toArray, List.set_cons_zero, List.set_cons_succ]
              refine takeC (i := 1) (v := .int .i64 (m : Int)) rfl (by kernel_rfl) (by kernel_rfl) (by kernel_rfl) (fun _ _ _ h => h) (Or.inl ⟨by rfl, fun W hW => by go_simp⟩) hSd ?_
              simp only [Act.put, List.setIfInBounds_toArray, List.set_cons_zero, List.set_cons_succ]
              refine takeC (i := 2) (v := .bool true) rfl (by kernel_rfl) (by kernel_rfl) (by kernel_rfl) (fun _ _ _ h => h) (Or.inl ⟨by rfl, fun W hW => by go_simp⟩) hSd ?_
              simp only [Act.put, List.setIfInBounds_toArray, List.set_cons_zero, List.set_cons_succ]
              refine takeC (i := 3) (v := .bool true) rfl (by kernel_rfl) (by kernel_rfl) (by kernel_rfl) (fun _ _ _ h => h) (Or.inl ⟨by rfl, fun W hW => by go_simp⟩) hSd ?_
              simp only [Act.put, List.setIfInBounds_toArray, List.set_cons_zero, List.set_cons_succ]
              refine takeC (i := 4) (v := .slice (some ⟨bb, off, none⟩) m cc) rfl (by kernel_rfl) (by kernel_rfl) (by kernel_rfl) (fun _ _ _ h => h) (Or.inl ⟨by rfl, fun W hW => by go_simp⟩) hSd ?_
              simp only [Act.put, List.setIfInBounds_toArray, List.set_cons_zero, List.set_cons_succ]
              refine takeC (i := 5) (v := .pointer (some ⟨bb, off, none⟩)) rfl (by kernel_rfl) (by kernel_rfl) (by kernel_rfl) (fun _ _ _ h => h) (Or.inl ⟨by rfl, fun W hW => by go_simp⟩) hSd ?_
              simp only [Act.put, List.setIfInBounds_toArray, List.set_cons_zero, List.set_cons_succ]
              refine takeC (i := 6) (v := .agg (calL y).toArray) rfl (by kernel_rfl) (by kernel_rfl) (by kernel_rfl) (fun _ _ _ h => h) (yieldsIf_load_mid (by rfl) 32 _ rfl bb off rfl (calL y) _ (fun W hW => hW.1) Tryz.underlying32 rfl (by kernel_rfl)) hSd ?_
              simp only [Act.put, List.setIfInBounds_toArray, List.set_cons_zero, List.set_cons_succ]
              refine takeC (i := 7) (v := .agg (calL x).toArray) rfl (by kernel_rfl) (by kernel_rfl) (by kernel_rfl) (fun _ _ _ h => h) (yieldsIf_load_mid (by rfl) 32 _ rfl cb 0 rfl (calL x) _ (fun W hW => hW.2) Tryz.underlying32 rfl (by kernel_rfl)) hSd ?_
              simp only [Act.put, List.setIfInBounds_toArray, List.set_cons_zero, List.set_cons_succ]
              refine takeC (i := 8) (v := .bool true) rfl (by kernel_rfl) (by kernel_rfl) (by kernel_rfl) (fun _ _ _ h => h) (Or.inl ⟨by rfl, fun W hW => by go_simp⟩) hSd ?_
              simp only [Act.put, List.setIfInBounds_toArray, List.set_cons_zero, List.set_cons_succ]
              refine takeC (i := 9) (v := .bool true) rfl (by kernel_rfl) (by kernel_rfl) (by kernel_rfl) (fun _ _ _ h => h) (Or.inl ⟨by rfl, fun W hW => by go_simp⟩) hSd ?_
              simp only [Act.put, List.setIfInBounds_toArray, List.set_cons_zero, List.set_cons_succ]
              refine wpAnyH_done (by kernel_rfl) ?_ _
              have bi6 : Below w5.heap.size w5 w5.drew := (Below.refl _ _).drew
              have HT5 : Hid (CalAt w5.drew (some ⟨bb, off + 5, none⟩) (m - 1) E) := ((hCi.below bi5).below bi6).tail
              have HLt : Hid (bb < w5.drew.heap.size) := Nat.lt_of_lt_of_le (Nat.lt_of_lt_of_le (hCi.lt _ rfl) bi5.size) bi6.size
              have HO5 : Hid (OwnCal w.heap.size w5.drew (.slice la ll lc) P) := OwnCal.below (OwnCal.below HOi.out bi5) bi6
              have HC5 : Hid (Blk w5.drew cb (calL x).toArray 32) := Blk.below (Blk.below HCi.out bi5 (Blk.lt HCi.out)) bi6 (Nat.lt_of_lt_of_le (Blk.lt HCi.out) bi5.size)
              have HB5 : Hid (Below w.heap.size w w5.drew) := (HBi.out.trans (bi5.mono HBi.out.size)).trans (bi6.mono (Nat.le_trans HBi.out.size bi5.size))
              have HC0 : Hid (CalAt w5.drew (some ⟨bb, off, none⟩) m (y :: E)) := (hCi.below bi5).below bi6
              clear hCi hry HRi hSd hS5 EQ bi5 bi6
              obtain ⟨wd, hwd⟩ : ∃ V, w5.drew = V := ⟨_, rfl⟩
              rw [hwd] at HT5 HLt HO5 HC5 HB5 HC0
              (try rw [hwd])
              clear hwd
              go_wp2
              go_roundw
              case rel =>
                refine ⟨k + 1, P, E, by go_num, by omega, ?_, HO5, ⟨?_, by have := HW.out.2; omega⟩, HB5⟩
                · by_cases h1 : cc = 1
                  · rw [if_pos h1]
                    have hE : E = [] := List.eq_nil_of_length_eq_zero (by have := HT5.out.len; omega)
                    subst hE
                    exact ⟨_, _, _, rfl, by rw [show m - 1 = 0 by omega]; exact CalAt.empty (fun a ha => by injection ha with ha; subst ha; exact HLt.out), by omega, by unfold maxLen; omega, fun a ha => by injection ha with ha; subst ha; exact HLB0.out ⟨bb, off, none⟩ rfl⟩
                  · rw [if_neg h1]
                    exact ⟨_, _, _, rfl, HT5.out, by omega, by unfold maxLen; omega, fun a ha => by injection ha with ha; subst ha; exact HLB0.out ⟨bb, off, none⟩ rfl⟩
                · rw [HW.out.1, HD.out, woL_cons, if_pos (by rw [HDy.out, HYX.out]; rfl)]
                  rw [HDy.out]
                  rfl
              case measure => simp [intOf]; omega
            · rw [decide_eq_false hyx] at EQ
              go_wp2
              refine wp_region_held (S := fun W => W.rangeAt bb off (calL y) ∧ W.rangeAt cb 0 (calL x)) (by kernel_rfl) ?_
              change wpAnyH _ _ _ _ _ _ _ _ (World.drew _)
              have hSd : w5.drew.rangeAt bb off (calL y) ∧ w5.drew.rangeAt cb 0 (calL x) := hS5
              refine takeC (i := 0) (v := .slice (some ⟨bb, off, none⟩) m cc) rfl (by kernel_rfl) (by kernel_rfl) (by kernel_rfl) (fun _ _ _ h => h) (Or.inl ⟨by rfl, fun W hW => by go_simp⟩) hSd ?_
              simp only [Act.put, List.setIfInBounds_toArray, List.set_cons_zero, List.set_cons_succ]
              refine takeC (i := 1) (v := .int .i64 (m : Int)) rfl (by kernel_rfl) (by kernel_rfl) (by kernel_rfl) (fun _ _ _ h => h) (Or.inl ⟨by rfl, fun W hW => by go_simp⟩) hSd ?_
              simp only [Act.put, List.setIfInBounds_toArray, List.set_cons_zero, List.set_cons_succ]
              refine takeC (i := 2) (v := .bool true) rfl (by kernel_rfl) (by kernel_rfl) (by kernel_rfl) (fun _ _ _ h => h) (Or.inl ⟨by rfl, fun W hW => by go_simp⟩) hSd ?_
              simp only [Act.put, List.setIfInBounds_toArray, List.set_cons_zero, List.set_cons_succ]
              refine takeC (i := 3) (v := .bool true) rfl (by kernel_rfl) (by kernel_rfl) (by kernel_rfl) (fun _ _ _ h => h) (Or.inl ⟨by rfl, fun W hW => by go_simp⟩) hSd ?_
              simp only [Act.put, List.setIfInBounds_toArray, List.set_cons_zero, List.set_cons_succ]
              refine takeC (i := 4) (v := .slice (some ⟨bb, off, none⟩) m cc) rfl (by kernel_rfl) (by kernel_rfl) (by kernel_rfl) (fun _ _ _ h => h) (Or.inl ⟨by rfl, fun W hW => by go_simp⟩) hSd ?_
              simp only [Act.put, List.setIfInBounds_toArray, List.set_cons_zero, List.set_cons_succ]
              refine takeC (i := 5) (v := .pointer (some ⟨bb, off, none⟩)) rfl (by kernel_rfl) (by kernel_rfl) (by kernel_rfl) (fun _ _ _ h => h) (Or.inl ⟨by rfl, fun W hW => by go_simp⟩) hSd ?_
              simp only [Act.put, List.setIfInBounds_toArray, List.set_cons_zero, List.set_cons_succ]
              refine takeC (i := 6) (v := .agg (calL y).toArray) rfl (by kernel_rfl) (by kernel_rfl) (by kernel_rfl) (fun _ _ _ h => h) (yieldsIf_load_mid (by rfl) 32 _ rfl bb off rfl (calL y) _ (fun W hW => hW.1) Tryz.underlying32 rfl (by kernel_rfl)) hSd ?_
              simp only [Act.put, List.setIfInBounds_toArray, List.set_cons_zero, List.set_cons_succ]
              refine takeC (i := 7) (v := .agg (calL x).toArray) rfl (by kernel_rfl) (by kernel_rfl) (by kernel_rfl) (fun _ _ _ h => h) (yieldsIf_load_mid (by rfl) 32 _ rfl cb 0 rfl (calL x) _ (fun W hW => hW.2) Tryz.underlying32 rfl (by kernel_rfl)) hSd ?_
              simp only [Act.put, List.setIfInBounds_toArray, List.set_cons_zero, List.set_cons_succ]
              refine takeC (i := 8) (v := .bool false) rfl (by kernel_rfl) (by kernel_rfl) (by kernel_rfl) (fun _ _ _ h => h) (Or.inl ⟨by rfl, fun W hW => by go_simp⟩) hSd ?_
              simp only [Act.put, List.setIfInBounds_toArray, List.set_cons_zero, List.set_cons_succ]
              refine takeC (i := 9) (v := .bool false) rfl (by kernel_rfl) (by kernel_rfl) (by kernel_rfl) (fun _ _ _ h => h) (Or.inl ⟨by rfl, fun W hW => by go_simp⟩) hSd ?_
              simp only [Act.put, List.setIfInBounds_toArray, List.set_cons_zero, List.set_cons_succ]
              refine wpAnyH_done (by kernel_rfl) ?_ _
              have bi6 : Below w5.heap.size w5 w5.drew := (Below.refl _ _).drew
              have HT5 : Hid (CalAt w5.drew (some ⟨bb, off + 5, none⟩) (m - 1) E) := ((hCi.below bi5).below bi6).tail
              have HLt : Hid (bb < w5.drew.heap.size) := Nat.lt_of_lt_of_le (Nat.lt_of_lt_of_le (hCi.lt _ rfl) bi5.size) bi6.size
              have HO5 : Hid (OwnCal w.heap.size w5.drew (.slice la ll lc) P) := OwnCal.below (OwnCal.below HOi.out bi5) bi6
              have HC5 : Hid (Blk w5.drew cb (calL x).toArray 32) := Blk.below (Blk.below HCi.out bi5 (Blk.lt HCi.out)) bi6 (Nat.lt_of_lt_of_le (Blk.lt HCi.out) bi5.size)
              have HB5 : Hid (Below w.heap.size w w5.drew) := (HBi.out.trans (bi5.mono HBi.out.size)).trans (bi6.mono (Nat.le_trans HBi.out.size bi5.size))
              have HC0 : Hid (CalAt w5.drew (some ⟨bb, off, none⟩) m (y :: E)) := (hCi.below bi5).below bi6
              clear hCi hry HRi hSd hS5 EQ bi5 bi6
              obtain ⟨wd, hwd⟩ : ∃ V, w5.drew = V := ⟨_, rfl⟩
              rw [hwd] at HT5 HLt HO5 HC5 HB5 HC0
              (try rw [hwd])
              clear hwd
              obtain ⟨x0, x1, x2, x3, x4⟩ := x
              go_wp2_with (first
                | (refine wpList_load_mid rfl 32 _ rfl cb 0 rfl [.int .i64 x0, .string x1, .string x2, .bool x3, .int .u64 x4] _ (range13C HC5.out) Tryz.underlying32 rfl (by kernel_rfl) ?_)
                | (at_builtin; refine wpList_appC wd rfl _ _ rfl w.heap.size (.slice la ll lc) P (x0, x1, x2, x3, x4) rfl HO5.out rfl (by have := HW.out.2; omega) HB5.out.size ?_; intro v8 w8 o8 u8; obtain ⟨a8, l8, c8, rfl⟩ := row_shape o8; have HO8 : Hid _ := o8; have HU8 : Hid _ := u8; clear o8 u8))
              go_roundw
              case rel =>
                refine ⟨k + 1, P ++ [(x0, x1, x2, x3, x4)], y :: E, by go_num, by omega, ?_, HO8, ?_, ?_⟩
                · exact ⟨_, _, _, rfl, HC0.out.upd HU8.out (fun a ha hle => by injection ha with ha; subst ha; exact absurd hle (by have h9 := HLB0.out ⟨bb, off, none⟩ rfl; simp only at h9 hle ⊢; omega)), hmc, by unfold maxLen; omega, HLB0.out⟩
                · refine ⟨?_, by rw [List.length_append]; have := HW.out.2; simp; omega⟩
                  rw [HW.out.1, HD.out, woL_cons, if_neg (by rw [HDy.out]; simpa using hyx), List.append_assoc]
                  rw [HDy.out]
                  rfl
                · exact HB5.out.trans (HU8.out.below HB5.out.size (fun j hj e => by omega))
              case measure => simp [intOf]; omega
    · have hkn : k = na := by omega
      have HE : Hid (R (.returned (.slice la ll lc)) wr) := by
        have h1 := HW.out.1
        rw [List.drop_eq_nil_of_le (by rw [HLA.out]; omega)] at h1
        have h2 : woL A B = P := by rw [h1]; simp [woL]
        exact HEnd.out _ _ (by rw [h2]; exact HO.out) HB.out
      go_wp2
      exact HE.out
end Go.Proofs.YtkpkdikogoalkaaGreatDoor.sk

namespace Go.Proofs.YtkpkdikogoalkaaGreatDoor.sk
open Go Go.RowKit
set_option maxRecDepth 100000

/-- What Delta tells: what the first list has more often, and what the second one has. -/
def DelP (a b : List Cal) (w : World) (e : Ending) (w' : World) : Prop := ∃ v u A B, e = .returned (.tuple #[v, u]) ∧ Hid (a.Perm A ∧ SortedC A ∧ b.Perm B ∧ SortedC B) ∧ Hid (OwnCal w.heap.size w' v (woL A B)) ∧ Hid (OwnCal w.heap.size w' u (woL B A)) ∧ Below w.heap.size w w'
set_option maxHeartbeats 2000000 in
theorem delta_any (aa ba : Option Addr) (na nb ca cb : Nat) (a b : List Cal) (w : World) (hA : CalAt w aa na a) (hB : CalAt w ba nb b) (pa : ∀ x, aa = some x → x.spot = none) (pb : ∀ x, ba = some x → x.spot = none) (za : na * 56 ≤ 140737488351232) (zb : nb * 56 ≤ 140737488351232) :
    Calls Tryz.prog 7 #[.slice aa na ca, .slice ba nb cb] w (DelP a b w) := by
  have OA := inOrder_any aa na ca a w hA pa za
  have OB : Hid (∀ W, Below w.heap.size w W → Calls Tryz.prog 26 #[.slice ba nb cb] W (OrdP b W)) := fun W h => inOrder_any ba nb cb b W (hB.below h) pb zb
  have HL : Hid (a.length = na ∧ b.length = nb ∧ na * 56 ≤ 140737488351232 ∧ nb * 56 ≤ 140737488351232) := ⟨hA.len, hB.len, za, zb⟩
  clear hA hB pa pb za zb
  go_enter Tryz.func7, Tryz.ntmps7
  go_wp2_with (first
    | (go_at_call 26; (with_reducible refine OA.mono ?_); clear OA; rintro e w1 ⟨o1, n1, c1, A, rfl, H1, k1, b1⟩; have HB1 : Hid (Below w.heap.size w w1) := b1; have HK1 : Hid _ := k1; clear b1 k1)
    | (go_at_call 26; (with_reducible refine (OB.out _ HB1.out).mono ?_); clear OB; rintro e w2 ⟨o2, n2, c2, B, rfl, H2, k2, b2⟩; have HB2 : Hid (Below w.heap.size w w2) := HB1.out.trans (b2.mono HB1.out.size); have HA2 : Hid (CalAt w2 o1 n1 A) := CalAt.below H1.out.1 b2; have HK2 : Hid _ := k2; clear b2 k2; have W1 : Hid (∀ W, Below w2.heap.size w2 W → Calls Tryz.prog 27 #[.slice o1 n1 c1, .slice o2 n2 c2] W (WoP A B W)) := fun W h => without_any o1 o2 n1 n2 c1 c2 A B W (HA2.out.below h) (CalAt.below H2.out.1 h) HK2.out (by have h1 := HA2.out.len; have h2 := H1.out.2.1.length_eq; have h3 := HL.out; omega); have W2 : Hid (∀ W, Below w2.heap.size w2 W → Calls Tryz.prog 27 #[.slice o2 n2 c2, .slice o1 n1 c1] W (WoP B A W)) := fun W h => without_any o2 o1 n2 n1 c2 c1 B A W (CalAt.below H2.out.1 h) (HA2.out.below h) HK1.out (by have h1 := H2.out.1.len; have h2 := H2.out.2.1.length_eq; have h3 := HL.out; omega))
    | (go_at_call 27; (with_reducible refine (W1.out _ (Below.refl _ _)).mono ?_); clear W1; rintro e w3 ⟨v, rfl, HO3, b3⟩; have HB3 : Hid (Below w2.heap.size w2 w3) := b3; clear b3; obtain ⟨a3, l3, c3, rfl⟩ := row_shape HO3.out)
    | (go_at_call 27; (with_reducible refine (W2.out _ HB3.out).mono ?_); clear W2; rintro e w4 ⟨u, rfl, HO4, b4⟩; have HB4 : Hid (Below w3.heap.size w3 w4) := b4; clear b4; obtain ⟨a4, l4, c4, rfl⟩ := row_shape HO4.out))
  go_returns
  refine ⟨_, _, A, B, rfl, ⟨H1.out.2.1, H1.out.2.2, H2.out.2.1, H2.out.2.2⟩, ?_, ?_, ?_⟩
  · exact own_base (OwnCal.below HO3.out HB4.out) HB2.out.size
  · exact own_base HO4.out (Nat.le_trans HB2.out.size HB3.out.size)
  · exact (HB2.out.trans (HB3.out.mono HB2.out.size)).trans (HB4.out.mono (Nat.le_trans HB2.out.size HB3.out.size))
end Go.Proofs.YtkpkdikogoalkaaGreatDoor.sk
