/-
  Merged: RzC, RzD.
-/
import Derived.Test.YtiflfapdffkcbaaGreatDoorSAq
import Derived.Test.YtiflfapdffkcbaaGreatDoorRzAq
import Derived.Sort.Grow
import Derived.Shelf.SlSortCmp.WholeK
import Derived.Shelf.SlSortCmp.NoneTotal
import Derived.Ground.SlsfProg
import Derived.Deep.RegionHeld3
namespace Go.Proofs.YtiflfapdffkcbaaGreatDoor
open Go Go.Shelf Go.RowKit Go.Lib Go.Sort Go.Maps Go.WideMaps
set_option maxRecDepth 100000

def Tryz.sortTrc_ren : Go.Shelf.Ren := ⟨fun | 6 => 46 | 15 => 63 | 14 => 62 | 28 => 85 | 29 => 86 | 20 => 77 | 21 => 78 | 22 => 79 | 23 => 80 | 24 => 81 | 25 => 82 | 26 => 83 | 27 => 84 | 46 => 102 | 47 => 103 | 48 => 104 | 49 => 105 | 50 => 106 | 57 => 112 | n => n, fun | 22 => 87 | 24 => 33 | 25 => 103 | 3 => 3 | 39 => 117 | 0 => 0 | 53 => 140 | 55 => 31 | 4 => 4 | 46 => 133 | 45 => 132 | 50 => 137 | 5 => 5 | 9 => 9 | 66 => 151 | 70 => 155 | 76 => 160 | 77 => 161 | n => n, fun | n => n⟩
theorem Tryz.sortTrc : Go.Proofs.SlLaysF0.n6 Tryz.prog Tryz.sortTrc_ren := {
  mixed := by kernel_rfl
  f6 := ⟨Tryz.f46.name, by decide, Tryz.func46.trans (congrArg some (by kernel_rfl))⟩
  f14 := ⟨Tryz.f62.name, by decide, Tryz.func62.trans (congrArg some (by kernel_rfl))⟩
  f15 := Tryz.func63.trans (congrArg some (by kernel_rfl))
  f20 := ⟨Tryz.f77.name, by decide, Tryz.func77.trans (congrArg some (by kernel_rfl))⟩
  f21 := ⟨Tryz.f78.name, by decide, Tryz.func78.trans (congrArg some (by kernel_rfl))⟩
  f22 := ⟨Tryz.f79.name, by decide, Tryz.func79.trans (congrArg some (by kernel_rfl))⟩
  f23 := ⟨Tryz.f80.name, by decide, Tryz.func80.trans (congrArg some (by kernel_rfl))⟩
  f24 := ⟨Tryz.f81.name, by decide, Tryz.func81.trans (congrArg some (by kernel_rfl))⟩
  f25 := ⟨Tryz.f82.name, by decide, Tryz.func82.trans (congrArg some (by kernel_rfl))⟩
  f26 := ⟨Tryz.f83.name, by decide, Tryz.func83.trans (congrArg some (by kernel_rfl))⟩
  f27 := ⟨Tryz.f84.name, by decide, Tryz.func84.trans (congrArg some (by kernel_rfl))⟩
  f28 := Tryz.func85.trans (congrArg some (by kernel_rfl))
  f29 := Tryz.func86.trans (congrArg some (by kernel_rfl))
  f46 := ⟨Tryz.f102.name, by decide, Tryz.func102.trans (congrArg some (by kernel_rfl))⟩
  f47 := Tryz.func103.trans (congrArg some (by kernel_rfl))
  f48 := Tryz.func104.trans (congrArg some (by kernel_rfl))
  f49 := ⟨Tryz.f105.name, by decide, Tryz.func105.trans (congrArg some (by kernel_rfl))⟩
  f50 := ⟨Tryz.f106.name, by decide, Tryz.func106.trans (congrArg some (by kernel_rfl))⟩
  f57 := ⟨Tryz.f112.name, by decide, Tryz.func112.trans (congrArg some (by kernel_rfl))⟩
  t0 := Tryz.underlying0
  a0 := Tryz.isAgg0
  z0 := Tryz.sizeOf0
  v0 := Tryz.zeroValue0
  t3 := Tryz.underlying3
  a3 := Tryz.isAgg3
  z3 := Tryz.sizeOf3
  v3 := Tryz.zeroValue3
  t4 := Tryz.underlying4
  a4 := Tryz.isAgg4
  z4 := Tryz.sizeOf4
  v4 := Tryz.zeroValue4
  t5 := Tryz.underlying5
  a5 := Tryz.isAgg5
  z5 := Tryz.sizeOf5
  v5 := Tryz.zeroValue5
  t9 := Tryz.underlying9
  a9 := Tryz.isAgg9
  z9 := Tryz.sizeOf9
  v9 := Tryz.zeroValue9
  t22 := Tryz.underlying87
  a22 := Tryz.isAgg87
  z22 := Tryz.sizeOf87
  v22 := Tryz.zeroValue87
  t25 := Tryz.underlying103
  a25 := Tryz.isAgg103
  z25 := Tryz.sizeOf103
  v25 := Tryz.zeroValue103
  t39 := Tryz.underlying117
  a39 := Tryz.isAgg117
  z39 := Tryz.sizeOf117
  v39 := Tryz.zeroValue117
  t45 := Tryz.underlying132
  a45 := Tryz.isAgg132
  z45 := Tryz.sizeOf132
  v45 := Tryz.zeroValue132
  t46 := Tryz.underlying133
  a46 := Tryz.isAgg133
  z46 := Tryz.sizeOf133
  v46 := Tryz.zeroValue133
  t50 := Tryz.underlying137
  a50 := Tryz.isAgg137
  z50 := Tryz.sizeOf137
  v50 := Tryz.zeroValue137
  t53 := Tryz.underlying140
  a53 := Tryz.isAgg140
  z53 := Tryz.sizeOf140
  v53 := Tryz.zeroValue140
  t55 := Tryz.underlying31
  a55 := Tryz.isAgg31
  z55 := Tryz.sizeOf31
  v55 := Tryz.zeroValue31
  t66 := Tryz.underlying151
  a66 := Tryz.isAgg151
  z66 := Tryz.sizeOf151
  v66 := Tryz.zeroValue151
  t70 := Tryz.underlying155
  a70 := Tryz.isAgg155
  z70 := Tryz.sizeOf155
  v70 := Tryz.zeroValue155
  t76 := Tryz.underlying160
  a76 := Tryz.isAgg160
  z76 := Tryz.sizeOf160
  v76 := Tryz.zeroValue160
  t77 := Tryz.underlying161
  a77 := Tryz.isAgg161
  z77 := Tryz.sizeOf161
  v77 := Tryz.zeroValue161 }

/-- Traces in their order. -/
def cmpTc (x y : Tc) : Int := orI (cmpI x.1 y.1) (cmpI x.2 y.2)
theorem good_cmpTc : Good cmpTc := good_cmpI.lex good_cmpI
def tcL (x : Tc) : List Value := [.int .u64 x.1, .int .u64 x.2]
theorem tcL_len (x : Tc) : (tcL x).length = 2 := rfl
theorem tcL_one (x : Tc) : ∀ v ∈ tcL x, v.oneCell' = true := by
  intro v hv
  simp [tcL] at hv
  rcases hv with rfl | rfl <;> rfl
theorem tcF_len : ∀ l : List Tc, (l.flatMap tcL).length = l.length * 2
  | [] => rfl
  | c :: l => by rw [List.flatMap_cons, List.length_append, tcF_len l, tcL_len, List.length_cons]; omega
theorem tcF_get : ∀ (l : List Tc) (i : Nat) (h : i < l.length) (j : Nat), j < 2 → (l.flatMap tcL)[i * 2 + j]? = (tcL l[i])[j]?
  | [], i, h, j, _ => absurd h (by simp)
  | x :: r, 0, h, j, hj => by
    rw [List.flatMap_cons, List.getElem?_append_left (by rw [tcL_len]; omega)]
    simp
  | x :: r, i + 1, h, j, hj => by
    rw [List.flatMap_cons, List.getElem?_append_right (by rw [tcL_len]; omega), tcL_len, show (i + 1) * 2 + j - 2 = i * 2 + j by omega]
    exact tcF_get r i (by simpa using h) j hj
theorem tcF_one (l : List Tc) : ∀ v ∈ l.flatMap tcL, v.oneCell' = true := by
  intro v hv
  obtain ⟨c, _, hc⟩ := List.mem_flatMap.1 hv
  exact tcL_one c v hc
theorem grown3T (W : World) (o1 o2 o3 : Obj) (m : Nat) : ∃ q os', (((W.alloc o1).alloc o2).alloc o3).drewN m = Go.Sort.grow (W.drewN q) os' := by
  refine ⟨m, #[o1] ++ #[o2] ++ #[o3], ?_⟩
  have e : ((W.heap.push o1).push o2).push o3 = W.heap ++ (#[o1] ++ #[o2] ++ #[o3]) := by
    apply Array.toList_inj.1
    simp
  simp only [World.alloc, World.drewN, Go.Sort.grow]
  simp only [e]
set_option maxHeartbeats 4000000 in
theorem against_grow (x y : Tc) (w : World) :
    Calls Tryz.prog 47 #[.agg (tcL x).toArray, .agg (tcL y).toArray] w fun e w' => e = .returned (.int .i64 (cmpTc x y)) ∧ ∃ q os', w' = Go.Sort.grow (w.drewN q) os' := by
  obtain ⟨a, b⟩ := x
  obtain ⟨c, d⟩ := y
  have OR := fun (o1 o2 : Obj) => or_at ((w.alloc o1).alloc o2) (w.heap.size + 1 + 1) [cmpI a c, cmpI b d] (by simp) (by simp)
  simp only [List.map, List.length, Nat.reduceAdd] at OR
  have HG : Hid (∀ o1 o2 o3, ∃ q os', (((w.alloc o1).alloc o2).alloc o3).drew = Go.Sort.grow (w.drewN q) os') := fun o1 o2 o3 => grown3T w o1 o2 o3 1
  have HC : Hid (orL [cmpI a c, cmpI b d] = cmpTc (a, b) (c, d)) := by
    show orL [cmpI a c, cmpI b d] = cmpTc (a, b) (c, d)
    unfold cmpTc
    simp only [orL, orI_zero]
  unfold tcL
  simp only
  go_enter Tryz.func47, Tryz.ntmps47
  go_wp2
  go_region_held3 (fun W => W.cell? ⟨w.heap.size, 0, none⟩ = some (.int .u64 a) ∧ W.cell? ⟨w.heap.size, 1, none⟩ = some (.int .u64 b) ∧ W.cell? ⟨w.heap.size + 1, 0, none⟩ = some (.int .u64 c) ∧ W.cell? ⟨w.heap.size + 1, 1, none⟩ = some (.int .u64 d)) (simp [go_sem, World.cell?_alloc_past])
    (first
      | (go_at_call 60; refine (cmp_u64 _ _ _).mono ?_; rintro e w' ⟨rfl, rfl⟩)
      | (go_at_call 59; (with_reducible refine (OR _ _).mono ?_); rintro e w' ⟨rfl, rfl⟩))
  go_wp2
  go_ret
  exact ⟨by rw [← HC.out]; rfl, HG.out _ _ _⟩
theorem ltTc (x y : Tc) : ltOf cmpTc x y = decide (cmpTc x y < 0) := by unfold ltOf; rfl
theorem swoTc : SWO (ltOf cmpTc) where
  irrefl x := by rw [ltTc, (good_cmpTc.eq x x).2 rfl]; rfl
  trans x y z h1 h2 := by
    rw [ltTc] at *
    simp only [decide_eq_true_eq] at *
    have t := good_cmpTc.trans x y z (by omega) (by omega)
    rcases Int.lt_or_eq_of_le t with h | h
    · exact h
    · have := (good_cmpTc.eq x z).1 h
      subst this
      have := good_cmpTc.anti x y
      omega
  ntrans x y z h1 h2 := by
    rw [ltTc] at *
    simp only [decide_eq_false_iff_not, Int.not_lt] at *
    have a1 := good_cmpTc.anti x y
    have a2 := good_cmpTc.anti y z
    have a3 := good_cmpTc.anti x z
    have t := good_cmpTc.trans z y x (by omega) (by omega)
    omega
def SortedTc (l : List Tc) : Prop := l.Pairwise (fun a b => cmpTc a b ≤ 0)
/-- Traces in a row of one's own. -/
def OwnTc (base : Nat) (w : World) (v : Value) (l : List Tc) : Prop := w.ownsRow base 33 2 v l.length (l.flatMap tcL)
theorem OwnTc.nil (base : Nat) (w : World) : OwnTc base w (.slice none 0 0) [] := World.ownsRow_nil w base 33 2
theorem OwnTc.below {base : Nat} {w w' : World} {v : Value} {l : List Tc} (h : OwnTc base w v l) (hb : Below w.heap.size w w') : OwnTc base w' v l := ownsRow_upd h (Upd.ofBelow (S := fun _ => False) hb (fun k hk hk' => by omega)) (fun _ _ h => h)
/-- Traces that are read. -/
structure TcAt (w : World) (ad : Option Addr) (n : Nat) (l : List Tc) : Prop where
  len : l.length = n
  lies : 0 < n → ∃ b off, ad = some ⟨b, off, none⟩ ∧ ∀ i (_ : i < l.length) (j : Nat) (v : Value), (tcL l[i])[j]? = some v → w.cell? ⟨b, off + i * 2 + j, none⟩ = some v
  lt : ∀ a, ad = some a → a.block < w.heap.size
theorem own_tcL {base : Nat} {w : World} {ao : Option Addr} {n c : Nat} {l : List Tc} (h : OwnTc base w (.slice ao n c) l) : n = l.length ∧ n ≤ c ∧ c ≤ maxLen := by
  have hc := own_cap h
  exact ⟨hc.1, by omega, hc.2.2⟩
theorem flatTc_get (l : List Tc) (t : Nat) (ht : t < l.length * 2) : (l.flatMap tcL)[t]? = some ((tcL l.toArray[t / 2]!)[t % 2]!) := by
  have hi : t / 2 < l.length := by omega
  have e : l.toArray[t / 2]! = l[t / 2] := by simp [hi]
  have := tcF_get l (t / 2) hi (t % 2) (by omega)
  rw [show t / 2 * 2 + t % 2 = t by omega] at this
  rw [this, e]
  have hl : t % 2 < (tcL l[t / 2]).length := by rw [tcL_len]; omega
  simp [hl]
theorem OwnTc.free {base : Nat} {w : World} {g n cap : Nat} {l : List Tc} (h : OwnTc base w (.slice (some ⟨g, 0, none⟩) n cap) l) (j : Nat) : w.frozen? ⟨g, j, none⟩ = false := by
  rcases h.2 with ⟨e, _⟩ | ⟨g', cap', cur, e, _, hh, _⟩
  · simp at e
  · simp at e
    obtain ⟨rfl, _⟩ := e
    exact blk_free hh j
theorem OwnTc.holdsK {base : Nat} {w : World} {g n cap : Nat} {l : List Tc} (h : OwnTc base w (.slice (some ⟨g, 0, none⟩) n cap) l) : HoldsK tcL 2 w g 0 l.toArray := by
  intro t ht
  rw [size_flatK] at ht
  have ht' : t < l.length * 2 := by simpa using ht
  rw [get_flatK tcL 2 l.toArray t ht]
  refine ⟨?_, h.free _⟩
  have := World.ownsRow.cells h (g := g) rfl t _ (flatTc_get l t ht')
  rw [Addr.add_lit] at this
  exact this
theorem upd_sortedTc (w : World) (blk off n : Nat) (d : Array Tc) (os : Array Obj) : Upd (fun k => k = blk) w (sortWorldK tcL 2 w blk off n d os) := by
  unfold sortWorldK putRowK
  refine ⟨rfl, rfl, rfl, ?_, fun k hk hn => ?_⟩
  · rw [size_grow, size_putRow]; exact Nat.le_add_right _ _
  · show ((putRow id (Sort.ahead w n) blk off (flatK tcL 2 d)).heap ++ os)[k]? = _
    rw [Array.getElem?_append_left (by rw [size_putRow]; exact hk)]
    show (w.heap.modify blk _)[k]? = _
    rw [Array.getElem?_modify, if_neg (fun e => hn e.symm)]
theorem perm_inTc {d d' : Array Tc} (h : PermIn 0 d.size d d') : d.toList.Perm d'.toList := by
  obtain ⟨h1, _, h3⟩ := h
  have e1 : d.extract 0 d.size = d := by simp
  have e2 : d'.extract 0 d.size = d' := by rw [← h1]; simp
  rw [e1, e2] at h3
  exact h3.symm
theorem sorted_inTc {d d' : Array Tc} (hs : d'.size = d.size) (h : SortedIn (ltOf cmpTc) 0 d.size d') : SortedTc d'.toList := by
  unfold SortedTc
  rw [List.pairwise_iff_getElem]
  intro i j hi hj hij
  have := h i j (Nat.zero_le _) hij (by simpa [hs] using hj)
  rw [ltTc] at this
  have a : d'[i]! = d'.toList[i] := by simp at hi; simp [hi]
  have b : d'[j]! = d'.toList[j] := by simp at hj; simp [hj]
  rw [a, b] at this
  simp only [decide_eq_false_iff_not, Int.not_lt] at this
  have := good_cmpTc.anti d'.toList[i] d'.toList[j]
  omega
theorem sort_tc (base g n cap : Nat) (l : List Tc) (w : World) (h : OwnTc base w (.slice (some ⟨g, 0, none⟩) n cap) l) (hn : n < 4611686018427387904) :
    Calls Tryz.prog 46 #[.slice (some ⟨g, 0, none⟩) n cap, .func (.func 47) #[] #[]] w fun e w' => e = .returned (.tuple #[]) ∧ (∃ l' : List Tc, l.Perm l' ∧ SortedTc l' ∧ TcAt w' (some ⟨g, 0, none⟩) n l') ∧ Upd (fun k => k = g) w w' := by
  have hl := (own_tcL h).1
  have hK := h.holdsK
  obtain ⟨_, cs, fz, hb⟩ := own_block h (k := g) rfl
  have hg := lt_of_block hb
  have hz : l.toArray.size = n := by simp [hl]
  have eg : ∀ args w, (callFunc 47 args).run Tryz.prog w = .ok (.enter 47 args) w := enters_of Tryz.func47 (by kernel_rfl) rfl
  have S := AnyQ.slices_SortFunc Tryz.sortTrc 2 Tryz.isAgg33 Tryz.sizeOf33 tcL tcL_len (fun x v hv => tcL_one x v hv) cmpTc swoTc 47 #[] g 0 cap l.toArray w eg (fun _ _ _ _ x y => against_grow x y _) hK hg (by rw [hz]; exact hn)
  rw [hz] at S
  refine S.mono ?_
  rintro e w' ⟨rfl, d', m, os, hp, hs, rfl⟩
  have hp' := hp
  rw [← hz] at hp' hs
  have hd : d'.size = l.toArray.size := hp'.1
  have hu := upd_sortedTc w g 0 m d' os
  refine ⟨rfl, ⟨d'.toList, by simpa using perm_inTc hp', sorted_inTc hd hs, ?_⟩, hu⟩
  have hH := holdsK_sortWorldK_c tcL 2 w g 0 l.toArray d' m os hK hg hd
  refine ⟨by simp; omega, fun _ => ⟨g, 0, rfl, fun i hi j v hv => ?_⟩, fun a ha => by injection ha with ha; subst ha; exact Nat.lt_of_lt_of_le hg hu.size⟩
  have hi' : i < d'.size := by simpa using hi
  have e : d'[i]! = d'.toList[i] := by simp [hi']
  have hj : j < 2 := by
    rcases Nat.lt_or_ge j 2 with h1 | h1
    · exact h1
    · rw [List.getElem?_eq_none (by rw [tcL_len]; omega)] at hv; simp at hv
  have c0 := (hH.cell hi' hj).1
  rw [e] at c0
  rw [List.getElem?_eq_getElem (by rw [tcL_len]; exact hj)] at hv
  injection hv with hv
  rw [← hv]
  have e2 : (tcL d'.toList[i])[j]! = (tcL d'.toList[i])[j]'(by rw [tcL_len]; exact hj) := by
    exact getElem!_pos (tcL d'.toList[i]) j (by rw [tcL_len]; exact hj)
  rw [← e2]
  exact c0
theorem infoTc9 : (Tryz.prog.info? 33).map (fun i => (i.zero, i.size, i.bytes)) = some (some (.agg #[.int .u64 0, .int .u64 0]), 2, 16) := by kernel_rfl
/-- A trace is appended. -/
theorem wpList_appTc {ops : Array Oper} {rest : List Oper} {o : Oper} {a : Act} {Q : Exit → Act → World → Prop} (w : World) (hgd : o.guard = none) (s x : Operand)
    (ho : o.op = .call { callee := .builtin .append, args := #[s, x], argTypes := #[87, 87] })
    (base : Nat) (v : Value) (L : List Tc) (c : Tc) (cs : Array Value) (hcs : cs = (tcL c).toArray) (b : Nat) (hb : b = w.heap.size) (hv : a.eval s = v) (hown : OwnTc base w v L) (hx : a.eval x = .slice (some ⟨b, 0, none⟩) 1 1) (hlen : L.length ≤ 1000000000000) (hbase : base ≤ w.heap.size)
    (h : ∀ v' w', OwnTc base w' v' (L ++ [c]) → Upd (fun k => v.ownBlock = some k) w w' → wpList Tryz.prog ops Q rest (a.put o.dst v') w') : wpList Tryz.prog ops Q (o :: rest) a (w.alloc (.cells cs 33)) := by
  subst hb
  subst hcs
  obtain ⟨i0, hi0, hz0, hz1, hz2⟩ := info_parts infoTc9
  have hbw : Below w.heap.size w (w.alloc (.cells (tcL c).toArray 33)) := (Below.refl _ _).alloc (Nat.le_refl _) _
  have ho' : OwnTc base (w.alloc (.cells (tcL c).toArray 33)) v L := hown.below hbw
  have hs : Src Tryz.prog 2 87 (.slice (some ⟨w.heap.size, 0, none⟩) 1 1) 1 (tcL c) (w.alloc (.cells (tcL c).toArray 33)) := by
    refine Src.ofSlice _ Tryz.underlying87 ⟨w.heap.size, 0, none⟩ 1 1 _ rfl ?_ (tcL_one c)
    intro j u hj
    rw [Addr.add_lit, Nat.zero_add]
    refine (Blk.new w (tcL c).toArray 33).cell j ?_
    rwa [List.getElem?_toArray]
  refine wpList_appW _ hgd s x 87 87 ho base 33 i0 _ 2 16 Tryz.underlying87 hi0 hz0 hz1 hz2 rfl v L.length (L.flatMap tcL) hv ho' _ 1 (tcL c) hx hs (by unfold maxLen; omega) (by omega) (by rw [World.size_alloc]; omega) ?_
  intro v' w' o8 g8 m8
  have hu1 : Upd (fun k => v.ownBlock = some k) (w.alloc (.cells (tcL c).toArray 33)) w' := (Upd.refl _ _).grown g8 (fun k hk e => e)
  refine h v' w' ?_ ((Upd.ofBelow hbw (fun k h1 h2 => by omega)).trans hu1 (fun _ _ h => h))
  unfold OwnTc
  rw [List.length_append, List.flatMap_append]
  simpa using o8
/-- Within the loop over a store's map. -/
structure TsI (w : World) (D : DataW Value) (mb r : Nat) (wr : World) (left : Lit → Bool) (cnt : Nat) (I : List Tc) (v : Value) : Prop where
  rg : wr.ranges Tryz.prog 33 valR mb r (Maps.size D) D left cnt
  own : OwnTc w.heap.size wr v I
  nd : I.Nodup
  mem : ∀ i, i ∈ I ↔ (TcOk i ∧ Maps.has D (tkey i) = true ∧ left (tkey i) = false)
  len : I.length + cnt ≤ Maps.size D
  low : Below w.heap.size w wr
theorem TsI.step {w wr w1 : World} {D : DataW Value} {mb r : Nat} {left : Lit → Bool} {cnt cnt1 : Nat} {I : List Tc} {v : Value} {x : Tc} {kl : Lit} {y : DataW Value × List MemPlace} (h : TsI w D mb r wr left cnt I v) (hr : w.heap.size ≤ r) (hkey : keyOf Tryz.prog 33 (tcV x) = some kl) (hlk : left kl = true) (hat : ∀ zd, D.atKey kl zd = y.1) (hrg : w1.ranges Tryz.prog 33 valR mb r (Maps.size D) D (fun z => left z && !z.sameKey kl) cnt1) (hlt : cnt1 < cnt) (hg : wr.grownBy w1 (some r)) (o : Obj) :
    OwnTc w.heap.size (w1.alloc o) v I ∧ I.length ≤ Maps.size D ∧ w.heap.size ≤ (w1.alloc o).heap.size ∧ ∀ v' w', OwnTc w.heap.size w' v' (I ++ [x]) → Upd (fun k => v.ownBlock = some k) (w1.alloc o) w' → TsI w D mb r w' (fun z => left z && !z.sameKey kl) cnt1 (I ++ [x]) v' := by
  obtain ⟨x', ex, hx, rfl⟩ := key_t_inv hkey
  obtain rfl := tcV_inj ex
  have hu : Upd (fun k => k = r) wr (w1.alloc o) := ((Upd.refl _ _).grown hg (fun _ _ e => (Option.some.inj e).symm)).alloc o
  have ho1 : OwnTc w.heap.size (w1.alloc o) v I := by
    refine ownsRow_upd h.own hu (fun k hk e => ?_)
    obtain ⟨_, cs, fz, hc⟩ := own_block h.own hk
    exact (ranges_iterV h.rg hc).2 e
  have hrg2 : (w1.alloc o).ranges Tryz.prog 33 valR mb r (Maps.size D) D (fun z => left z && !z.sameKey (tkey x)) cnt1 := ranges_updV hrg ((Upd.refl (fun _ => False) w1).alloc o) (fun h => h) (fun h => h)
  have hl1 : Below w.heap.size w (w1.alloc o) := h.low.trans (hu.below h.low.size (fun k hk e => by omega))
  have hlen := h.len
  refine ⟨ho1, by omega, hl1.size, fun v' w' ho' hu' => ⟨?_, ho', ?_, ?_, ?_, ?_⟩⟩
  · refine ranges_updV hrg2 hu' (fun e => ?_) (fun e => ?_)
    · obtain ⟨_, cs, fz, hc⟩ := own_block ho1 e
      exact (ranges_iterV hrg2 hc).1 rfl
    · obtain ⟨_, cs, fz, hc⟩ := own_block ho1 e
      exact (ranges_iterV hrg2 hc).2 rfl
  · rw [List.nodup_append]
    refine ⟨h.nd, by simp, fun a ha b hb => ?_⟩
    simp at hb
    subst hb
    rintro rfl
    have := ((h.mem a).1 ha).2.2
    rw [hlk] at this
    cases this
  · intro i
    rw [List.mem_append, List.mem_singleton, h.mem i, Bool.and_eq_false_iff, Bool.not_eq_false']
    constructor
    · rintro (⟨h1, h2, h3⟩ | rfl)
      · exact ⟨h1, h2, Or.inl h3⟩
      · exact ⟨hx, has_true_of_atKey hat, Or.inr (WideAt.sameKey_self (lawT.key hkey))⟩
    · rintro ⟨h1, h2, h3 | h3⟩
      · exact Or.inl ⟨h1, h2, h3⟩
      · exact Or.inr (tkey_inj h1 hx (WideAt.sameKey_eq h3))
  · rw [List.length_append, List.length_singleton]; omega
  · exact hl1.trans (hu'.below hl1.size (fun k hk e => by have := (own_block ho1 e).1; omega))
/-- A store's traces, told in their order. -/
def TrsP (w : World) (T : List Tc) (e : Ending) (w' : World) : Prop := ∃ g c L, e = .returned (.slice (some ⟨g, 0, none⟩) L.length c) ∧ L.Pairwise (fun a b => cmpTc a b < 0) ∧ (∀ t, t ∈ L ↔ t ∈ T) ∧ TcAt w' (some ⟨g, 0, none⟩) L.length L ∧ w.heap.size ≤ g ∧ Below w.heap.size w w'
theorem tcs_strict {L : List Tc} (hs : SortedTc L) (hn : L.Nodup) : L.Pairwise (fun a b => cmpTc a b < 0) := by
  unfold SortedTc at hs
  rw [List.pairwise_iff_getElem] at hs ⊢
  intro i j hi hj hij
  have h1 := hs i j hi hj hij
  have h2 : cmpTc L[i] L[j] ≠ 0 := fun e => by
    have := (good_cmpTc.eq _ _).1 e
    have := (List.getElem_inj hn).1 this
    omega
  omega
end Go.Proofs.YtiflfapdffkcbaaGreatDoor

namespace Go.Proofs.YtiflfapdffkcbaaGreatDoor
open Go Go.RowKit Go.Maps Go.WideMaps
set_option maxRecDepth 100000

set_option maxHeartbeats 4000000 in
theorem traces_any (s b : Nat) (M : Tc → Nat) (T : List Tc) (X : List It) (w : World) (h : StoreAt w s b M T X) (hx : X.length ≤ 1000000000) :
    Calls Tryz.prog 37 #[.pointer (some ⟨s, 0, none⟩)] w fun e w' => TrsP w T e w' := by
  obtain ⟨D, d1, d2, d3, d4⟩ := h.nest.outer
  have htl := h.tl
  have hsz : Maps.size D ≤ 1000000000 := by omega
  have hszI : (Maps.size D : Int) ≤ 1000000000 := by omega
  have HS : Hid (StoreAt w s b M T X) := h
  obtain ⟨i0, hi0, hz0, hz1, hz2⟩ := info_parts infoTc9
  have c0 := blk_cell h.block 0 rfl
  have hl0 : ∀ r, (Builtin.len_ #[53] r #[.map (some b)]).run Tryz.prog w = .ok (.int .i64 (Maps.size D)) w := fun r => World.ownsMap.len d1 Tryz.underlying53 r
  have HD5 : Hid (∀ w', w.grownBy w' none → ownM w' 33 b D ∧ w'.cell? ⟨s, 0, none⟩ = some (.map (some b))) := fun w' hg => by
    have hb : Below w.heap.size w w' := ((Upd.refl (fun _ => False) w).grown hg (fun _ _ e => by cases e)).below (Nat.le_refl _) (fun _ _ h => h)
    exact ⟨d1.upd (S := fun _ => False) (Upd.ofBelow hb (fun k h1 h2 => by omega)) (fun h => h), blk_cell (h.below hb).block 0 rfl⟩
  have HDN : Hid (∀ r wr left cnt I v, TsI w D b r wr left cnt I v → (∀ kl, left kl = false) → ∀ t, t ∈ I ↔ t ∈ T) := fun r wr left cnt I v hr hl t => by
    rw [hr.mem t]
    constructor
    · rintro ⟨h1, h2, _⟩
      rw [d2 t h1] at h2
      exact of_decide_eq_true h2
    · intro ht
      have h1 := h.nest.ok t ht
      exact ⟨h1, by rw [d2 t h1]; exact decide_eq_true ht, hl _⟩
  have HST : Hid (∀ w0 w1, OwnTc w.heap.size w0 (.slice (some ⟨w.heap.size, 0, none⟩) 0 (Maps.size D)) [] → w.grownBy w0 none → w1.ranges Tryz.prog 33 valR b w0.heap.size (Maps.size D) D (Maps.has D) (Maps.size D) → w0.grownBy w1 none → TsI w D b w0.heap.size w1 (Maps.has D) (Maps.size D) [] (.slice (some ⟨w.heap.size, 0, none⟩) 0 (Maps.size D))) := fun w0 w1 ho hg hrg hg1 => by
    have b0 : Below w.heap.size w w0 := ((Upd.refl (fun _ => False) w).grown hg (fun _ _ e => by cases e)).below (Nat.le_refl _) (fun _ _ h => h)
    have u1 : Upd (fun _ => False) w0 w1 := (Upd.refl _ _).grown hg1 (fun _ _ e => by cases e)
    refine ⟨hrg, ownsRow_upd ho u1 (fun _ _ h => h), List.nodup_nil, fun i => ⟨fun hi => (by cases hi), fun hi => ?_⟩, by simp, b0.trans (u1.below b0.size (fun _ _ h => h))⟩
    rw [hi.2.1] at hi
    exact absurd hi.2.2 (by decide)
  clear h d1 d2 d3 d4 htl
  go_enter Tryz.func37, Tryz.ntmps37
  go_wp2_with (first
    | (at_make; refine wpList_make_own w rfl _ _ 87 rfl w.heap.size 33 i0 (.agg #[.int .u64 0, .int .u64 0]) 2 Tryz.underlying87 hi0 hz0 hz1 .i64 .i64 _ (Maps.size D) rfl rfl rfl (by rw [hz2]; omega) (by unfold maxLen; omega) (Nat.le_refl _) ?_; intro w0 o0 g0; have HO0 : Hid (OwnTc w.heap.size w0 (.slice (some ⟨w.heap.size, 0, none⟩) 0 (Maps.size D)) [] ∧ w.grownBy w0 none) := ⟨o0, g0⟩; obtain ⟨d6, c1⟩ := HD5.out w0 g0; clear o0 g0 hl0 c0)
    | (at_range; refine wpList_range_own w0 rfl _ 53 rfl 33 61 lawT Tryz.underlying53 _ b _ D rfl d6 ?_; intro w1 hrg0 hg1 hs1; have P0 : Hid (TsI w D b w0.heap.size w1 (Maps.has D) (Maps.size D) [] (.slice (some ⟨w.heap.size, 0, none⟩) 0 (Maps.size D))) := HST.out w0 w1 HO0.out.1 HO0.out.2 hrg0 hg1; have HR0 : Hid (w.heap.size ≤ w0.heap.size) := HO0.out.2.size; clear hrg0 hg1 hs1 d6 c1 HST HD5 HO0))
  try go_frame
  generalize w0.heap.size = r at *
  go_loopw [3] (fun v wr => ∃ (left : Lit → Bool) (cnt : Nat) (I : List Tc) (g c : Nat), v = .slice (some ⟨g, 0, none⟩) I.length c ∧ TsI w D b r wr left cnt I v) (fun _ wr => wr.rangeLeft b r)
  case atStart => exact ⟨_, _, [], _, _, rfl, P0.out⟩
  case round =>
    obtain ⟨left, cnt, I, g, ac, rfl, hR⟩ := hrel
    clear P0
    have hrg := hR.rg
    have HR : Hid (TsI w D b r wr left cnt I (.slice (some ⟨g, 0, none⟩) I.length ac)) := hR
    go_wp2_with (first
      | (at_next; refine wpList_next_ranges _ rfl _ rfl 33 lawT valR tcV id (fun key kl hk => by obtain ⟨x, rfl, _⟩ := key_t_inv hk; exact ⟨x, rfl⟩) (fun v y hv => ⟨v, rfl⟩) b r _ D left cnt rfl hrg ?_ ?_)
      | go_in)
    · intro _ hl0
      have hfin := HDN.out r wr left cnt I _ HR.out hl0
      have hIl := HR.out.len
      have SU := sort_tc w.heap.size g I.length ac I wr HR.out.own (by omega)
      have HW : Hid (Below w.heap.size w wr ∧ I.Nodup ∧ w.heap.size ≤ g ∧ ∀ t, t ∈ I ↔ t ∈ T) := ⟨HR.out.low, HR.out.nd, (own_block HR.out.own (k := g) rfl).1, hfin⟩
      clear hfin hrg hR hl0 HR HDN hIl
      generalize I.length = n at *
      go_wp2_with (go_at_call 46; (with_reducible refine SU.mono ?_); clear SU; rintro e w3 ⟨rfl, hs, hu⟩; have HT : Hid ((∃ l' : List Tc, I.Perm l' ∧ SortedTc l' ∧ TcAt w3 (some ⟨g, 0, none⟩) n l') ∧ Upd (fun k => k = g) wr w3) := ⟨hs, hu⟩; clear hs hu)
      go_ret
      obtain ⟨⟨L, hp, hs, hat⟩, hu⟩ := HT.out
      have hln := hat.len
      refine ⟨g, ac, L, by rw [hln]; rfl, tcs_strict hs (hp.nodup_iff.1 HW.out.2.1), fun t => by rw [← hp.mem_iff]; exact HW.out.2.2.2 t, by rw [hln]; exact hat, HW.out.2.2.1, HW.out.1.trans (hu.below HW.out.1.size (fun k hk e => by have := HW.out.2.2.1; omega))⟩
    · intro x1 x2 c kl y1 y2 w1' cnt1 hkey hlk hv hat hrg1 hlt hg1 hs1 hen
      have HN : Hid (∀ o, OwnTc w.heap.size (w1'.alloc o) (.slice (some ⟨g, 0, none⟩) I.length ac) I ∧ I.length ≤ Maps.size D ∧ w.heap.size ≤ (w1'.alloc o).heap.size ∧ ∀ v' w', OwnTc w.heap.size w' v' (I ++ [(x1, x2)]) → Upd (fun k => (Value.slice (some ⟨g, 0, none⟩) I.length ac).ownBlock = some k) (w1'.alloc o) w' → TsI w D b r w' (fun z => left z && !z.sameKey kl) cnt1 (I ++ [(x1, x2)]) v') := fun o => HR.out.step (y := (y1, y2)) HR0.out hkey hlk hat hrg1 hlt hg1 o
      have hlz : I.length ≤ 1000000000000 := by have := (HN.out (.map #[] 0)).2.1; omega
      have HLT : Hid (cnt1 < cnt) := hlt
      unfold tcV at hen
      clear hkey hlk hv hat hrg1 hg1 hs1 hlt hR hrg HDN
      go_wp2_with (at_builtin; refine wpList_appTc (w1'.alloc (.cells #[.int .u64 x1, .int .u64 x2] 33)) rfl (.tmp 20) (.tmp 22) rfl w.heap.size (.slice (some ⟨g, 0, none⟩) I.length ac) I (x1, x2) _ rfl _ (by simp) rfl (HN.out _).1 rfl hlz (HN.out _).2.2.1 ?_; intro v' w6 ho6 hu6; have HI6 : Hid (TsI w D b r w6 (fun z => left z && !z.sameKey kl) cnt1 (I ++ [(x1, x2)]) v') := (HN.out _).2.2.2 v' w6 ho6 hu6; clear ho6 hu6)
      obtain ⟨g', c', hv', _, _, _, _⟩ := own_some HI6.out.own (by simp)
      go_roundw
      case rel => exact ⟨_, cnt1, _, g', c', hv', HI6.out⟩
      case measure => rw [HI6.out.rg.left_eq, HR.out.rg.left_eq]; exact HLT.out
end Go.Proofs.YtiflfapdffkcbaaGreatDoor
