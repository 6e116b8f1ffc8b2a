/-
  Merged: RA, TJ, KC, RB, RC, RD, RP.
-/
import Derived.Test.YtnffedmcblbkoaaGreatDoorPIq
import Derived.Test.YtnffedmcblbkoaaGreatDoorYcq
import Derived.Test.YtnffedmcblbkoaaGreatDoorMwq
import Derived.Test.YtnffedmcblbkoaaGreatDoorZmq
import Derived.Test.YtnffedmcblbkoaaGreatDoorFSq
import Derived.Test.YtnffedmcblbkoaaGreatDoorFIq
import Derived.Test.YtnffedmcblbkoaaGreatDoorWaq
import Derived.Test.YtnffedmcblbkoaaGreatDoorFXq
import Derived.Test.YtnffedmcblbkoaaGreatDoorOXq
import Derived.Test.YtnffedmcblbkoaaGreatDoorOZ
import Derived.Shelf.SlSortCmp.WholeK
import Derived.Shelf.SlSortCmp.NoneTotal
import Derived.Ground.SlsfProg
import Derived.Test.YtnffedmcblbkoaaGreatDoorUCq
import Derived.Test.YtnffedmcblbkoaaGreatDoorQAq
import Derived.Test.YtnffedmcblbkoaaGreatDoorFKq
import Derived.BigQuiet
import Derived.Test.YtnffedmcblbkoaaGreatDoorPBq
import Derived.Test.YtnffedmcblbkoaaGreatDoorSA
import Derived.StringKeys
namespace Go.Proofs.YtnffedmcblbkoaaGreatDoor
open Go Go.RowKit
set_option maxRecDepth 100000
def sumH (L : List (Nat × Int × Int)) (y : Nat) : Int := (L.map (fun l => if l.1 = y then lenI (l.2.1, l.2.2) else 0)).sum
theorem hungF (y : Nat) : ∀ (L : List (Nat × Int × Int)) (h : Int), 0 ≤ h → h < 18446744073709551616 → L.foldl (fun h l => if l.1 = y then IntKind.u64.wrap (h + lenI (l.2.1, l.2.2)) else h) h = IntKind.u64.wrap (h + sumH L y)
 | [], h, h0, h1 => by
  simp only [List.foldl_nil, sumH, List.map_nil, List.sum_nil, IntKind.wrap_u64]
  omega
 | l :: r, h, h0, h1 => by
  rw [List.foldl_cons]
  have e : sumH (l :: r) y = (if l.1 = y then lenI (l.2.1, l.2.2) else 0) + sumH r y := by simp [sumH]
  rw [e]
  by_cases hl : l.1 = y
  ·rw [if_pos hl, if_pos hl, hungF y r _ (by rw [IntKind.wrap_u64]; omega) (by rw [IntKind.wrap_u64]; omega)]
   simp only [IntKind.wrap_u64]
   omega
  ·rw [if_neg hl, if_neg hl, hungF y r h h0 h1, Int.zero_add]
theorem hungI_sum (L : List (Nat × Int × Int)) (y : Nat) : hungI L y = IntKind.u64.wrap (sumH L y) := by
 unfold hungI
 rw [hungF y L 0 (by omega) (by omega), Int.zero_add]
theorem sumH_app (y : Nat) : ∀ (L M : List (Nat × Int × Int)), sumH (L ++ M) y = sumH L y + sumH M y
 | [], M => by simp [sumH]
 | l :: r, M => by
  have e1 : sumH (l :: r ++ M) y = (if l.1 = y then lenI (l.2.1, l.2.2) else 0) + sumH (r ++ M) y := by simp [sumH]
  have e2 : sumH (l :: r) y = (if l.1 = y then lenI (l.2.1, l.2.2) else 0) + sumH r y := by simp [sumH]
  rw [e1, e2, sumH_app y r M, Int.add_assoc]
theorem sumH_rev (y : Nat) : ∀ (L : List (Nat × Int × Int)), sumH L.reverse y = sumH L y
 | [] => rfl
 | l :: r => by
  have e2 : sumH (l :: r) y = sumH [l] y + sumH r y := sumH_app y [l] r
  rw [List.reverse_cons, sumH_app, sumH_rev y r, e2, Int.add_comm]
theorem hungI_zero {L : List (Nat × Int × Int)} {y : Nat} (h : ∀ l ∈ L, l.1 ≠ y) : hungI L y = 0 := by
 have : sumH L y = 0 := by
  induction L with
  | nil => rfl
  | cons l r ih =>
   have e2 : sumH (l :: r) y = (if l.1 = y then lenI (l.2.1, l.2.2) else 0) + sumH r y := by simp [sumH]
   rw [e2, if_neg (h l (by simp)), ih (fun l hl => h l (by simp [hl]))]
   rfl
 rw [hungI_sum, this]
 rfl
theorem hungI_nn (L : List (Nat × Int × Int)) (y : Nat) : 0 ≤ hungI L y ∧ hungI L y < 18446744073709551616 := by
 rw [hungI_sum, IntKind.wrap_u64]
 omega
def shL (L : List (Nat × Int × Int)) (n : Nat) : List Nat := (List.range n).filter (fun y => decide (0 < hungI L y))
def shC (fin : Nat → Nod) (L : List (Nat × Int × Int)) (y : Nat) : List Value := [.int .u64 (fin y).id, .int .u64 (hungI L y)]
theorem shC_len (fin : Nat → Nod) (L : List (Nat × Int × Int)) (y : Nat) : (shC fin L y).length = 2 := rfl
theorem shL_len (L : List (Nat × Int × Int)) (n : Nat) : (shL L n).length ≤ n := by
 have := List.length_filter_le (fun y => decide (0 < hungI L y)) (List.range n)
 simpa [shL] using this
theorem shL_mem {L : List (Nat × Int × Int)} {n y : Nat} : y ∈ shL L n ↔ y < n ∧ 0 < hungI L y := by simp [shL]
theorem FoB.idRise {Y : List Sp} {C : List Int} {dp : Nat → Nat} {fin : Nat → Nod} {X : List Spot} {K : Nat → List Int} {R : List Int} (h : FoB Y C dp fin X K R) {i j : Nat} (hij : i < j) (hj : j < Y.length) : (fin i).id < (fin j).id := by
 have hl := h.fo.len
 have := h.rise i j (by omega) (by omega) hij
 rwa [(h.fo.each i (by omega) (by omega)).2, (h.fo.each j hj (by omega)).2] at this
theorem FoB.shares {Y : List Sp} {C : List Int} {dp : Nat → Nat} {fin : Nat → Nod} {X : List Spot} {K : Nat → List Int} {R : List Int} (h : FoB Y C dp fin X K R) {x : Nat} (hx : x < Y.length) {L : List (Nat × Int × Int)} (hP : PathR fin (cnK fin K) x (fin x).til L) {l' : List Nat} (hp : ((preN (knK K) 1001 [x]).filter (fun y => decide (0 < hungI L y))).Perm l') (hs : l'.Pairwise (fun a b => (fin a).id ≤ (fin b).id)) : l' = shL L Y.length := by
 have T := h.senv x hx
 have hlt : ∀ y ∈ preN (knK K) 1001 [x], y < Y.length := fun y hy => (h.tree.above 1001 [x] (by simpa using hx) y hy).1
 have hmem : ∀ y, y < Y.length → 0 < hungI L y → y ∈ preN (knK K) 1001 [x] := fun y hy h0 => by
  have : ∃ l ∈ L, l.1 = y := by
   refine Classical.byContradiction fun hn => ?_
   rw [hungI_zero (fun l hl e => hn ⟨l, hl, e⟩)] at h0
   omega
  obtain ⟨l, hl, rfl⟩ := this
  have hb := hP.bel l hl
  have down : ∀ s z, BelN (cnK fin K) s z → s ∈ preN (knK K) 1001 [x] → z ∈ preN (knK K) 1001 [x] := fun s z hb => by
   induction hb using BelN.ind with
   | here => exact fun h => h
   | down hc _ ih => exact fun hs => ih (preN_down (knK K) 1001 [x] T.dp _ hs _ (by unfold cnK at hc; exact (List.mem_filter.1 hc).1))
  exact down _ _ hb (preN_mem (knK K) 1001 [x] T.dp x (by simp))
 have hnd : ((preN (knK K) 1001 [x]).filter (fun y => decide (0 < hungI L y))).Nodup := T.nd2.filter _
 have hnd2 : (shL L Y.length).Nodup := List.nodup_range.filter _
 have hpm : l'.Perm (shL L Y.length) := by
  refine hp.symm.trans ((List.perm_ext_iff_of_nodup hnd hnd2).2 fun y => ?_)
  rw [shL_mem, List.mem_filter]
  simp only [decide_eq_true_eq]
  exact ⟨fun ⟨a, b⟩ => ⟨hlt y a, b⟩, fun ⟨a, b⟩ => ⟨hmem y a b, b⟩⟩
 have hl' : ∀ y ∈ l', y < Y.length := fun y hy => (shL_mem.1 (hpm.mem_iff.1 hy)).1
 refine List.Perm.eq_of_pairwise (le := fun a b : Nat => (fin a).id ≤ (fin b).id) (fun a b ha hb h1 h2 => h.idInj (hl' a ha) (shL_mem.1 hb).1 (by omega)) hs ?_ hpm
 rw [shL]
 refine List.Pairwise.filter _ ?_
 rw [List.pairwise_iff_getElem]
 intro i j hi hj hij
 simp at hi hj
 have := h.idRise hij hj
 simpa using Int.le_of_lt this
section
variable {α : Type} {f : α → List Value} {s : Nat}
theorem flatG_len (hf : ∀ x, (f x).length = s) : ∀ L : List α, (L.flatMap f).length = L.length * s
 | [] => by simp
 | a :: r => by rw [List.flatMap_cons, List.length_append, hf, flatG_len hf r, List.length_cons, Nat.succ_mul]; omega
theorem flatG_get (hf : ∀ x, (f x).length = s) : ∀ (L : List α) (i : Nat) (hi : i < L.length) (j : Nat), j < s → (L.flatMap f)[i * s + j]? = (f L[i])[j]?
 | [], i, hi, _, _ => by simp at hi
 | a :: r, 0, _, j, hj => by
  rw [List.flatMap_cons, Nat.zero_mul, Nat.zero_add, List.getElem?_append_left (by rw [hf]; exact hj)]; rfl
 | a :: r, i + 1, hi, j, hj => by
  rw [List.flatMap_cons, List.getElem?_append_right (by rw [hf, Nat.succ_mul]; omega), hf, show (i + 1) * s + j - s = i * s + j by rw [Nat.succ_mul]; omega]
  exact flatG_get hf r i (by simpa using hi) j hj
theorem mulG {i n s : Nat} (hi : i < n) : i * s + s ≤ n * s := by
 have := Nat.mul_le_mul_right s (show i + 1 ≤ n from hi)
 rw [Nat.succ_mul] at this
 exact this
structure RwG (f : α → List Value) (s : Nat) (T : TypeId) (w : World) (g cap : Nat) (L : List α) : Prop where
 nc : L.length ≤ cap
 cm : cap ≤ maxLen
 blk : ∃ rest, Blk w g (L.flatMap f ++ rest).toArray T ∧ L.length * s + rest.length = cap * s
variable {T : TypeId} {w : World} {g cap : Nat} {L : List α}
theorem RwG.of_owns {base : Nat} {v : Value} {n : Nat} (h : w.ownsRow base T s v n (L.flatMap f)) (hn : L.length = n) (hp : 0 < n) : ∃ g cap, v = .slice (some ⟨g, 0, none⟩) n cap ∧ base ≤ g ∧ RwG f s T w g cap L := by
 rcases h.2 with ⟨_, h0⟩ | ⟨g, cap, cur, rfl, hb, hh, hnc, hcm, hcs, ht⟩
 ·omega
 ·refine ⟨g, cap, rfl, hb, by omega, hcm, cur.toList.drop (n * s), ?_, ?_⟩
  ·show w.heap[g]? = _
   rw [hh, ← ht, List.take_append_drop]
  ·rw [List.length_drop, hn]
   have h1 : cur.toList.length = cap * s := by simpa using hcs
   have h2 := Nat.mul_le_mul_right s hnc
   omega
theorem RwG.lt (h : RwG f s T w g cap L) : g < w.heap.size := by
 obtain ⟨rest, hB, _⟩ := h.blk
 exact hB.lt
theorem RwG.cell (h : RwG f s T w g cap L) (hf : ∀ x, (f x).length = s) (i : Nat) (hi : i < L.length) (j : Nat) {u : Value} (hu : (f L[i])[j]? = some u) : w.cell? ⟨g, i * s + j, none⟩ = some u := by
 obtain ⟨rest, hB, _⟩ := h.blk
 have hj : j < s := by have := (List.getElem?_eq_some_iff.mp hu).1; rw [hf] at this; exact this
 have hm := mulG (s := s) hi
 refine hB.cell _ ?_
 rw [List.getElem?_toArray, List.getElem?_append_left (by rw [flatG_len hf]; omega), flatG_get hf L i hi j hj]
 exact hu
theorem RwG.free (h : RwG f s T w g cap L) (k : Nat) : w.frozen? ⟨g, k, none⟩ = false := by
 obtain ⟨rest, hB, _⟩ := h.blk
 exact hB.frozen k
end
theorem FoB.top {Y : List Sp} {C : List Int} {dp : Nat → Nat} {fin : Nat → Nod} {X : List Spot} {K : Nat → List Int} {R : List Int} (h : FoB Y C dp fin X K R) : ∀ (d i : Nat), dp i = d → i < Y.length → ∃ x : Nat, (x : Int) ∈ R ∧ x < Y.length ∧ (fin x).org ≠ 0 ∧ (fin x).tree = (fin x).id ∧ (fin i).tree = (fin x).id := by
 intro d
 induction d using Nat.strongRecOn with
 | ind d ih =>
  intro i hd hi
  rcases nmC_range Y C i hi with hn | ⟨j, hj, hn⟩
  ·have hm : (i : Int) ∈ R := h.fo.roots.1.mem_iff.1 (kidsF_iff.2 ⟨i, rfl, hi, hn⟩)
   obtain ⟨x, e, hx, h1, h2⟩ := h.root _ hm
   have : i = x := by omega
   subst this
   exact ⟨i, hm, hx, h1, h2, h2⟩
  ·have hc : i ∈ knK K j := (h.mem j hj i).2 ⟨hi, hn⟩
   have e := h.tree.hdp j hj i hc
   obtain ⟨x, a1, a2, a3, a4, a5⟩ := ih (dp j) (by omega) j rfl hj
   exact ⟨x, a1, a2, a3, a4, by rw [(h.kid j hj i hc).2.2]; exact a5⟩
theorem FoB.u64 {Y : List Sp} {C : List Int} {dp : Nat → Nat} {fin : Nat → Nod} {X : List Spot} {K : Nat → List Int} {R : List Int} (h : FoB Y C dp fin X K R) (i : Nat) (hi : i < Y.length) : u64J (fin i).id ∧ u64J (fin i).tree := by
 have h1 : ∀ x, x < Y.length → u64J (fin x).id := fun x hx => by
  rw [← h.ids x hx]
  unfold spAt
  rw [List.getD_eq_getElem?_getD, List.getElem?_eq_getElem hx]
  exact (h.one.fits _ (List.getElem_mem hx)).id
 obtain ⟨x, _, hx, _, _, e⟩ := h.top (dp i) i rfl hi
 exact ⟨h1 i hi, by rw [e]; exact h1 x hx⟩
end Go.Proofs.YtnffedmcblbkoaaGreatDoor
namespace Go.Proofs.YtnffedmcblbkoaaGreatDoor
open Go Go.Shelf Go.RowKit Go.Lib Go.Sort
set_option maxRecDepth 100000
def Tryz.sortSh_ren : Go.Shelf.Ren := ⟨fun | 6 => 47 | 15 => 79 | 14 => 78 | 28 => 119 | 29 => 120 | 20 => 111 | 21 => 112 | 22 => 113 | 23 => 114 | 24 => 115 | 25 => 116 | 26 => 117 | 27 => 118 | 46 => 176 | 47 => 177 | 48 => 178 | 49 => 179 | 50 => 180 | 57 => 214 | n => n, fun | 22 => 64 | 24 => 72 | 25 => 131 | 3 => 3 | 39 => 168 | 0 => 0 | 53 => 214 | 55 => 32 | 4 => 4 | 46 => 208 | 45 => 207 | 50 => 93 | 5 => 5 | 9 => 9 | 66 => 256 | 70 => 260 | 76 => 290 | 77 => 291 | n => n, fun | n => n⟩
theorem Tryz.sortSh : Go.Proofs.SlLaysF0.n6 Tryz.prog Tryz.sortSh_ren := {
 mixed := by kernel_rfl
 f6 := ⟨Tryz.f47.name, by decide, Tryz.func47.trans (congrArg some (by kernel_rfl))⟩
 f14 := ⟨Tryz.f78.name, by decide, Tryz.func78.trans (congrArg some (by kernel_rfl))⟩
 f15 := Tryz.func79.trans (congrArg some (by kernel_rfl))
 f20 := ⟨Tryz.f111.name, by decide, Tryz.func111.trans (congrArg some (by kernel_rfl))⟩
 f21 := ⟨Tryz.f112.name, by decide, Tryz.func112.trans (congrArg some (by kernel_rfl))⟩
 f22 := ⟨Tryz.f113.name, by decide, Tryz.func113.trans (congrArg some (by kernel_rfl))⟩
 f23 := ⟨Tryz.f114.name, by decide, Tryz.func114.trans (congrArg some (by kernel_rfl))⟩
 f24 := ⟨Tryz.f115.name, by decide, Tryz.func115.trans (congrArg some (by kernel_rfl))⟩
 f25 := ⟨Tryz.f116.name, by decide, Tryz.func116.trans (congrArg some (by kernel_rfl))⟩
 f26 := ⟨Tryz.f117.name, by decide, Tryz.func117.trans (congrArg some (by kernel_rfl))⟩
 f27 := ⟨Tryz.f118.name, by decide, Tryz.func118.trans (congrArg some (by kernel_rfl))⟩
 f28 := Tryz.func119.trans (congrArg some (by kernel_rfl))
 f29 := Tryz.func120.trans (congrArg some (by kernel_rfl))
 f46 := ⟨Tryz.f176.name, by decide, Tryz.func176.trans (congrArg some (by kernel_rfl))⟩
 f47 := Tryz.func177.trans (congrArg some (by kernel_rfl))
 f48 := Tryz.func178.trans (congrArg some (by kernel_rfl))
 f49 := ⟨Tryz.f179.name, by decide, Tryz.func179.trans (congrArg some (by kernel_rfl))⟩
 f50 := ⟨Tryz.f180.name, by decide, Tryz.func180.trans (congrArg some (by kernel_rfl))⟩
 f57 := ⟨Tryz.f214.name, by decide, Tryz.func214.trans (congrArg some (by kernel_rfl))⟩
 t0 := Tryz.underlying0
 a0 := Tryz.isAgg0
 z0 := Tryz.sizeOf0
 v0 := Tryz.zeroValue0
 t3 := Tryz.underlying3
 a3 := Tryz.isAgg3
 z3 := Tryz.sizeOf3
 v3 := Tryz.zeroValue3
 t4 := Tryz.underlying4
 a4 := Tryz.isAgg4
 z4 := Tryz.sizeOf4
 v4 := Tryz.zeroValue4
 t5 := Tryz.underlying5
 a5 := Tryz.isAgg5
 z5 := Tryz.sizeOf5
 v5 := Tryz.zeroValue5
 t9 := Tryz.underlying9
 a9 := Tryz.isAgg9
 z9 := Tryz.sizeOf9
 v9 := Tryz.zeroValue9
 t22 := Tryz.underlying64
 a22 := Tryz.isAgg64
 z22 := Tryz.sizeOf64
 v22 := Tryz.zeroValue64
 t25 := Tryz.underlying131
 a25 := Tryz.isAgg131
 z25 := Tryz.sizeOf131
 v25 := Tryz.zeroValue131
 t39 := Tryz.underlying168
 a39 := Tryz.isAgg168
 z39 := Tryz.sizeOf168
 v39 := Tryz.zeroValue168
 t45 := Tryz.underlying207
 a45 := Tryz.isAgg207
 z45 := Tryz.sizeOf207
 v45 := Tryz.zeroValue207
 t46 := Tryz.underlying208
 a46 := Tryz.isAgg208
 z46 := Tryz.sizeOf208
 v46 := Tryz.zeroValue208
 t50 := Tryz.underlying93
 a50 := Tryz.isAgg93
 z50 := Tryz.sizeOf93
 v50 := Tryz.zeroValue93
 t53 := Tryz.underlying214
 a53 := Tryz.isAgg214
 z53 := Tryz.sizeOf214
 v53 := Tryz.zeroValue214
 t55 := Tryz.underlying32
 a55 := Tryz.isAgg32
 z55 := Tryz.sizeOf32
 v55 := Tryz.zeroValue32
 t66 := Tryz.underlying256
 a66 := Tryz.isAgg256
 z66 := Tryz.sizeOf256
 v66 := Tryz.zeroValue256
 t70 := Tryz.underlying260
 a70 := Tryz.isAgg260
 z70 := Tryz.sizeOf260
 v70 := Tryz.zeroValue260
 t76 := Tryz.underlying290
 a76 := Tryz.isAgg290
 z76 := Tryz.sizeOf290
 v76 := Tryz.zeroValue290
 t77 := Tryz.underlying291
 a77 := Tryz.isAgg291
 z77 := Tryz.sizeOf291
 v77 := Tryz.zeroValue291 }
def LieIn {α : Type} (f : α → List Value) (s : Nat) (W : World) (ad : Option Addr) (l : List α) : Prop := l ≠ [] → ∃ g, ad = some ⟨g, 0, none⟩ ∧ g < W.heap.size ∧ ∀ i (hi : i < l.length) j v, (f l[i])[j]? = some v → W.cell? ⟨g, i * s + j, none⟩ = some v
theorem LieIn.below {α : Type} {f : α → List Value} {s : Nat} {W W' : World} {ad : Option Addr} {l : List α} (h : LieIn f s W ad l) (hb : Below W.heap.size W W') : LieIn f s W' ad l := fun hn => by
 obtain ⟨g, e, hg, hc⟩ := h hn
 refine ⟨g, e, Nat.lt_of_lt_of_le hg hb.size, fun i hi j v hv => ?_⟩
 exact (hb.cell (p := ⟨g, i * s + j, none⟩) hg).trans (hc i hi j v hv)
theorem LieIn.of_owns {α : Type} {f : α → List Value} {s : Nat} (hf : ∀ x, (f x).length = s) {T : TypeId} {W : World} {base : Nat} {ad : Option Addr} {n c : Nat} {l : List α} (h : W.ownsRow base T s (.slice ad n c) n (l.flatMap f)) (hn : l.length = n) : LieIn f s W ad l := fun hne => by
 have h0 := List.length_pos_iff.2 hne
 obtain ⟨g, cap, e1, _, hr⟩ := RwG.of_owns h hn (by omega)
 injection e1 with e1 _ _
 exact ⟨g, e1, hr.lt, fun i hi j v hv => hr.cell hf i hi j hv⟩
theorem infoShare_parts : ∃ i, Tryz.prog.info? 72 = some i ∧ i.zero = some (.agg #[.int .u64 0, .int .u64 0]) ∧ i.size = 2 ∧ i.bytes = 16 := by
 have h : (Tryz.prog.info? 72).map (fun i => (i.zero, i.size, i.bytes)) = some (some (.agg #[.int .u64 0, .int .u64 0]), 2, 16) := by kernel_rfl
 cases hi : Tryz.prog.info? 72 with
 | none => rw [hi] at h; simp at h
 | some i => rw [hi] at h; simp at h; exact ⟨i, rfl, h.1, h.2.1, h.2.2⟩
theorem shareCmp_any (a b c d : Int) (W : World) :
  Calls Tryz.prog 48 #[.agg #[.int .u64 a, .int .u64 b], .agg #[.int .u64 c, .int .u64 d]] W fun e w' => e = .returned (.int .i64 (cmpI a c)) ∧ ∃ q os', w' = grow (W.drewN q) os' := by
 have C := fun W' => cmp_id a c W'
 generalize cmpI a c = r at C ⊢
 go_enter Tryz.func48, Tryz.ntmps48
 go_wp2_with (go_at_call 49; refine (C _).mono ?_; rintro e w' ⟨rfl, rfl⟩)
 go_ret
 exact ⟨rfl, 0, _, by rw [alloc_eq_grow, alloc_eq_grow, grow_grow]; rfl⟩
def cmpH (fin : Nat → Nod) (a b : Nat) : Int := cmpI (fin a).id (fin b).id
theorem ltH (fin : Nat → Nod) (i j : Nat) : ltOf (cmpH fin) i j = decide ((fin i).id < (fin j).id) := by
 unfold ltOf cmpH cmpI
 by_cases h1 : (fin i).id < (fin j).id
 ·simp [h1]
 ·by_cases h2 : (fin j).id < (fin i).id <;> simp [h1, h2]
theorem swoH (fin : Nat → Nod) : SWO (ltOf (cmpH fin)) where
 irrefl x := by rw [ltH]; simp
 trans x y z h1 h2 := by rw [ltH] at *; simp at *; omega
 ntrans x y z h1 h2 := by rw [ltH] at *; simp at *; omega
theorem sortSh_any (fin : Nat → Nod) (L : List (Nat × Int × Int)) (base : Nat) (ad : Option Addr) (n cap : Nat) (l : List Nat) (w : World) (h : w.ownsRow base 72 2 (.slice ad n cap) n (l.flatMap (shC fin L))) (hl : l.length = n) (hn : n ≤ 1000) :
  Calls Tryz.prog 47 #[.slice ad n cap, .func (.func 48) #[] #[]] w fun e w' => e = .returned (.tuple #[]) ∧ Hid (∃ l' : List Nat, l.Perm l' ∧ l'.Pairwise (fun a b => (fin a).id ≤ (fin b).id) ∧ LieIn (shC fin L) 2 w' ad l') ∧ Upd (fun k => base ≤ k) w w' := by
 by_cases h0 : n = 0
 ·subst h0
  obtain rfl : l = [] := List.eq_nil_of_length_eq_zero hl
  have C := Go.Proofs.AnyF.slices_SortFunc_none Tryz.sortSh ad cap (.func (.func 48) #[] #[]) w
  change Calls Tryz.prog 47 _ _ _ at C
  refine C.mono ?_
  rintro e w' ⟨rfl, rfl⟩
  exact ⟨rfl, ⟨[], List.Perm.refl _, List.Pairwise.nil, fun hn => absurd rfl hn⟩, Upd.refl _ _⟩
 ·obtain ⟨g, c', e1, hbg, hr⟩ := RwG.of_owns h hl (by omega)
  injection e1 with e1 _ e2
  subst e1 e2
  have hg := hr.lt
  have eg : ∀ args w, (callFunc 48 args).run Tryz.prog w = .ok (.enter 48 args) w := enters_of Tryz.func48 (by kernel_rfl) rfl
  have hz : l.toArray.size = n := by simp [hl]
  have hK : HoldsK (shC fin L) 2 w g 0 l.toArray := by
   intro t ht
   rw [size_flatK] at ht
   have ht' : t < l.length * 2 := by simpa using ht
   rw [get_flatK (shC fin L) 2 l.toArray t ht]
   refine ⟨?_, hr.free _⟩
   have hi : t / 2 < l.length := by omega
   have e : l.toArray[t / 2]! = l[t / 2] := by simp [hi]
   rw [e, Nat.zero_add]
   have h3 : t % 2 < (shC fin L l[t / 2]).length := by show t % 2 < 2; omega
   have := hr.cell (shC_len fin L) (t / 2) hi (t % 2) (u := (shC fin L l[t / 2])[t % 2]) (List.getElem?_eq_getElem h3)
   rw [show t / 2 * 2 + t % 2 = t by omega] at this
   rw [getElem!_pos (shC fin L l[t / 2]) (t % 2) h3]
   exact this
  have S := AnyQ.slices_SortFunc Tryz.sortSh 2 Tryz.isAgg72 Tryz.sizeOf72 (shC fin L) (fun _ => rfl) (fun x v hv => by simp [shC] at hv; rcases hv with rfl | rfl <;> rfl) (cmpH fin) (swoH fin) 48 #[] g 0 cap l.toArray w eg (fun _ _ _ _ x y => shareCmp_any _ _ _ _ _) hK hg (by rw [hz]; omega)
  rw [hz] at S
  refine S.mono ?_
  rintro e w' ⟨rfl, d', m, os, hp, hs, rfl⟩
  have hd : d'.size = l.toArray.size := by have := hp.1; simpa using this
  have hH := holdsK_sortWorldK_c (shC fin L) 2 w g 0 l.toArray d' m os hK hg hd
  refine ⟨rfl, ⟨d'.toList, ?_, ?_, fun _ => ⟨g, rfl, ?_, fun i hi j v hv => ?_⟩⟩, ?_⟩
  ·obtain ⟨h1, _, h3⟩ := hp
   have e1 : l.toArray.extract 0 n = l.toArray := by rw [← hz]; simp
   have e2 : d'.extract 0 n = d' := by rw [← hz, ← hd]; simp
   rw [e1, e2] at h3
   have := h3.symm
   simpa using this
  ·rw [List.pairwise_iff_getElem]
   intro i j hi hj hij
   simp at hi hj
   have := hs i j (Nat.zero_le _) hij (by omega)
   rw [ltH] at this
   have a : d'[i]! = d'[i] := by simp [hi]
   have b : d'[j]! = d'[j] := by simp [hj]
   rw [a, b] at this
   simp at this
   simpa using this
  ·exact Nat.lt_of_lt_of_le hg (by unfold sortWorldK putRowK; exact (upd_put w g 0 m _ os).size)
  ·have hi' : i < d'.size := by simpa using hi
   have e : d'[i]! = d'.toList[i] := by simp [hi']
   have hj : j < 2 := by
    rcases Nat.lt_or_ge j 2 with h1 | h1
    ·exact h1
    ·rw [List.getElem?_eq_none (by rw [shC_len]; omega)] at hv; simp at hv
   have c0 := (hH.cell hi' hj).1
   rw [e, Nat.zero_add] at c0
   rw [List.getElem?_eq_getElem (by rw [shC_len]; exact hj)] at hv
   injection hv with hv
   rw [← hv]
   have e2 : (shC fin L d'.toList[i])[j]! = (shC fin L d'.toList[i])[j]'(by rw [shC_len]; exact hj) := getElem!_pos (shC fin L d'.toList[i]) j (by rw [shC_len]; exact hj)
   rw [← e2]
   exact c0
  ·have hu : Upd (fun k => k = g) w (sortWorldK (shC fin L) 2 w g 0 m d' os) := by
    unfold sortWorldK putRowK
    exact upd_put w g 0 m _ os
   exact ⟨hu.os, hu.tape, hu.output, hu.size, fun k hk hn => hu.block k hk (fun e => hn (by omega))⟩
end Go.Proofs.YtnffedmcblbkoaaGreatDoor
namespace Go.Proofs.YtnffedmcblbkoaaGreatDoor
open Go Go.RowKit
set_option maxRecDepth 100000
theorem src_two {P : Program} {tx e : TypeId} (hu : P.underlying tx = some (.slice e)) {W : World} {b : Nat} {x y : Value} {t : TypeId} (h : W.heap[b]? = some (.cells #[x, y] t (0, 0))) (h1 : x.oneCell' = true) (h2 : y.oneCell' = true) : Src P 2 tx (.slice (some ⟨b, 0, none⟩) 1 1) 1 [x, y] W := by
 refine Src.ofSlice _ hu ⟨b, 0, none⟩ 1 1 _ rfl ?_ ?_
 ·intro j u hj
  match j, hj with
  | 0, hj => simp at hj; subst hj; simp [Addr.add, World.cell?, h]
  | 1, hj => simp at hj; subst hj; simp [Addr.add, World.cell?, h]
  | j + 2, hj => simp at hj
 ·intro u hu
  simp at hu
  rcases hu with rfl | rfl <;> assumption
structure SpotsP (w5 : World) (t : Nat) (sv : Value) (A : Nat → Sp) (fin : Nat → Nod) (L : List (Nat × Int × Int)) (D : List Nat) (B : Nat → Nat) : Prop where
 c1 : w5.cell? ⟨t, 1, none⟩ = some sv
 ptr : ∀ k (hk : k < D.length), ∃ b, (∃ n c, sv = .slice (some ⟨b, 0, none⟩) n c) ∧ w5.cell? ⟨b, k, none⟩ = some (.pointer (some ⟨B D[k], 0, none⟩))
 id : ∀ y ∈ D, w5.cell? ⟨B y, 2, none⟩ = some (.int .u64 (A y).id)
 svc : ∀ y ∈ D, w5.cell? ⟨B y, 5, none⟩ = some (.string (A y).svc)
 hung : ∀ y ∈ D, w5.cell? ⟨B y, 13 + 3, none⟩ = some (.int .u64 (hungI L y))
theorem swept_spots (f sb : Nat) (X : List Spot) (K : Nat → List Int) (rvv : Value) (R : List Int) (A : Nat → Sp) (fin : Nat → Nod) (KN C : Nat → List Nat) (fuel x : Nat) (W : World) (hF : ForestAt W f sb X K rvv R) (T : SvE X K A fin KN C fuel x) :
  Calls Tryz.prog 46 #[.pointer (some ⟨f, 0, none⟩), .int .u64 (fin x).id] W fun e W' => e = .returned (.pointer (some ⟨W.heap.size, 0, none⟩)) ∧ (∃ a n c L B, Hid (PathR fin C x (fin x).til L ∧ n = (preN KN fuel [x]).length ∧ ∀ w5, Below W'.heap.size W' w5 → SpotsP w5 W.heap.size (.slice a n c) A fin L (preN KN fuel [x]) B)) ∧ Below W.heap.size W W' := by
 refine (swept_any f sb X K rvv R A fin KN C fuel x W hF T).mono ?_
 rintro e W' ⟨rfl, ⟨lv, L, h⟩, hb⟩
 refine ⟨rfl, ?_, hb⟩
 obtain ⟨B, sv, ht, ⟨p, cv, hbk, _, hxD, _⟩, hrow⟩ := h.tree
 obtain ⟨a, c, rfl⟩ := owns_sliceS hrow
 refine ⟨a, _, c, L, B, h.path, rfl, fun w5 h5 => ?_⟩
 have b5 : ∀ y ∈ preN KN fuel [x], Blk w5 (B y) (swL (A y) (p y) (fin y) (cv y) (hungI L y)) 128 := fun y hy => (hbk y hy).below h5 (hbk y hy).lt
 refine ⟨(ht.below h5 ht.lt).cell 1 rfl, fun k hk => ?_, fun y hy => (b5 y hy).cell 2 rfl, fun y hy => (b5 y hy).cell 5 rfl, fun y hy => (b5 y hy).cell 16 rfl⟩
 have hr5 : w5.ownsRow W.heap.size 119 1 (.slice a (preN KN fuel [x]).length c) (preN KN fuel [x]).length ((preN KN fuel [x]).map (pB B)) := ownsRow_upd hrow (Upd.ofBelow (S := fun _ => False) h5 (fun k h1 h2 => by omega)) (fun _ _ h => h)
 rcases hr5.2 with ⟨e, h0⟩ | ⟨g, cap, cur, e, _⟩
 ·omega
 ·have e' := e
  injection e' with e' _ _
  refine ⟨g, ⟨_, _, by rw [e']⟩, ?_⟩
  have := World.ownsRow.cells hr5 (g := g) (by rw [e']; rfl) k (pB B (preN KN fuel [x])[k]) (by simp [hk])
  rw [Addr.add_lit, Nat.zero_add] at this
  exact this
def ShI (W1 : World) (fin : Nat → Nod) (L : List (Nat × Int × Int)) (D : List Nat) (k ll : Nat) (va : Option Addr) (vc : Nat) (wr : World) : Prop := ((D.take k).filter (fun y => decide (0 < hungI L y))).length = ll ∧ wr.ownsRow W1.heap.size 72 2 (.slice va ll vc) ll (((D.take k).filter (fun y => decide (0 < hungI L y))).flatMap (shC fin L)) ∧ Below W1.heap.size W1 wr
set_option maxHeartbeats 4000000 in
theorem shares_any (f sb : Nat) (X : List Spot) (K : Nat → List Int) (rv : Value) (R : List Int) (Y : List Sp) (C : List Int) (dp : Nat → Nat) (fin : Nat → Nod) (W : World) (hF : ForestAt W f sb X K rv R) (hB : FoB Y C dp fin X K R) (x : Nat) (hx : x < Y.length) (ho : (fin x).org ≠ 0) :
  Calls Tryz.prog 22 #[.pointer (some ⟨f, 0, none⟩), .int .u64 (fin x).id] W fun e W' => ∃ ad n cap L, e = .returned (.tuple #[.slice ad n cap, .int .i64 0]) ∧ Hid (PathR fin (cnK fin K) x (fin x).til L ∧ (shL L Y.length).length = n ∧ LieIn (shC fin L) 2 W' ad (shL L Y.length)) ∧ Below W.heap.size W W' := by
 obtain ⟨i0, hi0, hz0, hz1, hz2⟩ := infoShare_parts
 have hl := hB.fo.len
 have each := (hB.fo.each x hx (by omega)).2
 have LA := lacksW_any f sb X K rv R W hF x (by omega) (fin x) each ho
 have SW : Hid (∀ W1, Below W.heap.size W W1 → Calls Tryz.prog 46 #[.pointer (some ⟨f, 0, none⟩), .int .u64 (fin x).id] W1 fun e W' => e = .returned (.pointer (some ⟨W1.heap.size, 0, none⟩)) ∧ (∃ a n c L B, Hid (PathR fin (cnK fin K) x (fin x).til L ∧ n = (preN (knK K) 1001 [x]).length ∧ ∀ w5, Below W'.heap.size W' w5 → SpotsP w5 W1.heap.size (.slice a n c) (spAt Y) fin L (preN (knK K) 1001 [x]) B)) ∧ Below W1.heap.size W1 W') := fun W1 hb => swept_spots f sb X K rv R (spAt Y) fin (knK K) (cnK fin K) 1001 x W1 (hF.below hb) (hB.senv x hx)
 have HBB : Hid (FoB Y C dp fin X K R ∧ x < Y.length) := ⟨hB, hx⟩
 have HD : Hid ((preN (knK K) 1001 [x]).length ≤ 1000 ∧ ∀ y ∈ preN (knK K) 1001 [x], (spAt Y y).id = (fin y).id) := ⟨(hB.senv x hx).ln, fun y hy => hB.ids y (hB.tree.above 1001 [x] (by simpa using hx) y hy).1⟩
 clear hF hB hx ho each hl
 generalize hDD : preN (knK K) 1001 [x] = D at SW HD
 have HDD : Hid (preN (knK K) 1001 [x] = D) := hDD
 clear hDD
 go_enter Tryz.func22, Tryz.ntmps22
 go_wp2_with (first
  | (go_at_call 45; refine LA.mono ?_; clear LA; rintro e w1 ⟨rfl, hb1⟩; have SW1 := SW.out w1 hb1; have HB1 : Hid (Below W.heap.size W w1) := hb1; clear hb1 SW)
  | (go_at_call 46; refine SW1.mono ?_; clear SW1; rintro e w2 ⟨rfl, ⟨a, n, c, L, B, HS⟩, hb2⟩; have HB2 : Hid (Below W.heap.size W w2) := HB1.out.trans (hb2.mono HB1.out.size); have c1 := (HS.out.2.2 w2 (Below.refl _ _)).c1; clear hb2 HB1))
 have HI0 : Hid (ShI w2 fin L D 0 0 none 0 w2) := ⟨rfl, World.ownsRow_nil _ _ _ _, Below.refl _ _⟩
 have hn1 : n ≤ 1000 := by have := HS.out.2.1; have := HD.out.1; omega
 clear c1
 go_loopw [7, 23] (fun z7 z23 wr => ∃ (k ll : Nat) (va : Option Addr) (vc : Nat), z7 = .slice va ll vc ∧ z23 = .int .i64 k ∧ k ≤ n ∧ Hid (ShI w2 fin L D k ll va vc wr)) (fun _ z23 _ => n - (intOf z23).toNat)
 case atStart => exact ⟨0, 0, none, 0, rfl, rfl, by omega, HI0⟩
 case round =>
  clear HI0
  obtain ⟨k, ll, va, vc, rfl, rfl, hk, HI⟩ := hrel
  by_cases hlt : k < n
  ·have hkn : (k : Int) < (n : Int) := by omega
   have hkD : k < D.length := by rw [← HS.out.2.1]; exact hlt
   have hS := HS.out.2.2 wr HI.out.2.2
   obtain ⟨b, ⟨n', c', e⟩, cp⟩ := hS.ptr k hkD
   simp only [Value.slice.injEq] at e
   obtain ⟨rfl, -, -⟩ := e
   have hm := List.getElem_mem hkD
   have ch := hS.hung _ hm
   have ci := hS.id _ hm
   rw [HD.out.2 _ hm] at ci
   have HTK : Hid (D.take (k + 1) = D.take k ++ [D[k]]) := (by rw [List.take_add_one, List.getElem?_eq_getElem hkD]; rfl : D.take (k + 1) = D.take k ++ [D[k]])
   have hnn := hungI_nn L D[k]
   have HSH : Hid (shC fin L D[k] = [.int .u64 (fin D[k]).id, .int .u64 (hungI L D[k])]) := (rfl : shC fin L D[k] = _)
   have HHP : Hid ((0 < hungI L D[k] → (D.take (k + 1)).filter (fun y => decide (0 < hungI L y)) = (D.take k).filter (fun y => decide (0 < hungI L y)) ++ [D[k]]) ∧ (¬ 0 < hungI L D[k] → (D.take (k + 1)).filter (fun y => decide (0 < hungI L y)) = (D.take k).filter (fun y => decide (0 < hungI L y)))) := by
    refine ⟨fun h0 => ?_, fun h0 => ?_⟩
    ·rw [HTK.out, List.filter_append]
     simp [h0]
    ·rw [HTK.out, List.filter_append]
     simp [h0]
   have hll : ll ≤ 1000 := by
    have e := HI.out.1
    have := List.length_filter_le (fun y => decide (0 < hungI L y)) (D.take k)
    rw [List.length_take] at this
    omega
   generalize D[k] = y at *
   generalize hungI L y = h at *
   generalize (fin y).id = id at *
   clear hS hm
   by_cases h0 : 0 < h
   ·have HOWN : Hid (∀ u, Below wr.heap.size wr u → u.ownsRow w2.heap.size 72 2 (.slice va ll vc) ll (((D.take k).filter (fun y => decide (0 < hungI L y))).flatMap (shC fin L))) := fun u hu => ownsRow_upd HI.out.2.1 (Upd.ofBelow (S := fun _ => False) hu (fun k h1 h2 => by omega)) (fun _ _ h => h)
    have HNX : Hid (∀ u2 u3 va' vc', Below wr.heap.size wr u2 → u2.grownBy u3 (Value.slice va ll vc).ownBlock → u3.ownsRow w2.heap.size 72 2 (.slice va' (ll + 1) vc') (ll + 1) (((D.take k).filter (fun y => decide (0 < hungI L y))).flatMap (shC fin L) ++ [.int .u64 id, .int .u64 h]) → ShI w2 fin L D (k + 1) (ll + 1) va' vc' u3) := fun u2 u3 va' vc' hu hg ho => by
     have uu : Upd (fun q => (Value.slice va ll vc).ownBlock = some q) u2 u3 := ⟨hg.os, hg.tape, hg.output, hg.size, fun k hk hn => hg.block k hk (fun e => hn e.symm)⟩
     have bu := HI.out.2.2.trans (hu.mono HI.out.2.2.size)
     refine ⟨by rw [HHP.out.1 h0, List.length_append, HI.out.1]; rfl, ?_, bu.trans (uu.below bu.size (fun k hk e => by have := (owns_lt HI.out.2.1 e).1; omega))⟩
     rw [HHP.out.1 h0, List.flatMap_append]
     have : [y].flatMap (shC fin L) = [.int .u64 id, .int .u64 h] := by rw [List.flatMap_cons, List.flatMap_nil, List.append_nil]; exact HSH.out
     rw [this]
     exact ho
    have HSZ : Hid (w2.heap.size ≤ wr.heap.size) := HI.out.2.2.size
    clear HHP HI HTK HSH
    go_upto_region 9 with fail
    go_region_law (refine step_appX _ (by rfl) _ _ 64 64 (by rfl) w2.heap.size 72 i0 (.agg #[.int .u64 0, .int .u64 0]) 2 16 Tryz.underlying64 hi0 hz0 hz1 hz2 rfl (.slice va ll vc) ll _ (by rfl) (HOWN.out _ (by repeat' first | exact Below.refl _ _ | refine Below.alloc ?_ (by first | omega | (simp; omega) | (simp; done)) _ | refine Below.drew ?_)) (.slice (some ⟨wr.heap.size, 0, none⟩) 1 1) 1 [.int .u64 id, .int .u64 h] (by rfl) (src_two Tryz.underlying64 (by first | exact heap_alloc_new _ _ | exact heap_alloc_new wr.drew _) rfl rfl) (by unfold maxLen; omega) (by omega) (by have := HSZ.out; first | (simp; omega) | omega) ?_; intro v8 w8 o8 g8 m8; obtain ⟨va9, vc9, rfl⟩ := owns_sliceS o8; have HI9 : Hid (ShI w2 fin L D (k + 1) (ll + 1) va9 vc9 w8) := HNX.out _ w8 va9 vc9 (by repeat' first | exact Below.refl _ _ | refine Below.alloc ?_ (by first | omega | (simp; omega) | (simp; done)) _ | refine Below.drew ?_) g8 o8; clear o8 g8 m8 HOWN HNX)
    all_goals
     (try simp only [Act.put, List.getElem_toArray, List.getElem_cons_succ, List.getElem_cons_zero, List.setIfInBounds_toArray, List.set_cons_zero, List.set_cons_succ])
     go_wp2
     go_roundw
     case rel => exact ⟨k + 1, ll + 1, va9, vc9, rfl, by go_num, by omega, HI9⟩
     case measure => (simp [intOf]; omega)
   ·have HI9 : Hid (ShI w2 fin L D (k + 1) ll va vc wr) := ⟨by rw [HHP.out.2 h0]; exact HI.out.1, by rw [HHP.out.2 h0]; exact HI.out.2.1, HI.out.2.2⟩
    obtain rfl : h = 0 := by omega
    clear HHP HI HTK HSH h0
    go_wp2
    go_roundw
    case rel => exact ⟨k + 1, ll, va, vc, rfl, by go_num, by omega, HI9⟩
    case measure => (simp [intOf]; omega)
  ·obtain rfl : k = n := by omega
   have hTD : D.take k = D := List.take_of_length_le (by have := HS.out.2.1; omega)
   have hll : ll ≤ 1000 := by
    have e := HI.out.1
    have := List.length_filter_le (fun y => decide (0 < hungI L y)) (D.take k)
    rw [List.length_take] at this
    omega
   have hown := HI.out.2.1
   have hlen := HI.out.1
   rw [hTD] at hown hlen
   have SO := sortSh_any fin L w2.heap.size va ll vc (D.filter (fun y => decide (0 < hungI L y))) wr hown hlen hll
   have HEND : Hid (∀ w', (∃ l' : List Nat, (D.filter (fun y => decide (0 < hungI L y))).Perm l' ∧ l'.Pairwise (fun a b => (fin a).id ≤ (fin b).id) ∧ LieIn (shC fin L) 2 w' va l') → Upd (fun k => w2.heap.size ≤ k) wr w' → (PathR fin (cnK fin K) x (fin x).til L ∧ (shL L Y.length).length = ll ∧ LieIn (shC fin L) 2 w' va (shL L Y.length)) ∧ Below W.heap.size W w') := fun w' ⟨l', h1, h2, h3⟩ hu => by
    have h1' := h1
    rw [← HDD.out] at h1'
    have e := FoB.shares HBB.out.1 HBB.out.2 HS.out.1 h1' h2
    subst e
    refine ⟨⟨HS.out.1, by rw [← h1.length_eq]; exact hlen, h3⟩, ?_⟩
    have b3 := HB2.out.trans (HI.out.2.2.mono HB2.out.size)
    exact b3.trans (hu.below b3.size (fun k hk e => by have := HB2.out.size; omega))
   clear hown hlen HI HDD HBB HS HD hTD
   go_wp2_with (go_at_call 47; refine SO.mono ?_; clear SO; rintro e w9 ⟨rfl, hs9, hu9⟩; have HE9 : Hid ((PathR fin (cnK fin K) x (fin x).til L ∧ (shL L Y.length).length = ll ∧ LieIn (shC fin L) 2 w9 va (shL L Y.length)) ∧ Below W.heap.size W w9) := HEND.out w9 hs9.out hu9; clear hs9 hu9 HEND)
   go_ret2
   exact ⟨va, ll, vc, L, rfl, HE9.out.1, HE9.out.2⟩
theorem tileF_mem {hi : Int} : ∀ (M : List (Nat × Int × Int)) (lo : Int), TileF hi lo M → lo ≤ hi ∧ ∀ l ∈ M, lo ≤ l.2.1 ∧ l.2.1 < l.2.2 ∧ l.2.2 ≤ hi
 | [], lo, h => ⟨by have e : lo = hi := h; omega, fun l hl => by cases hl⟩
 | (y, a, b) :: r, lo, h => by
  obtain ⟨h1, h2, h3⟩ := h
  obtain ⟨k1, k2⟩ := tileF_mem r b h3
  refine ⟨by omega, fun l hl => ?_⟩
  rcases List.mem_cons.1 hl with rfl | hl
  ·exact ⟨by simp only; omega, h2, k1⟩
  ·obtain ⟨m1, m2, m3⟩ := k2 l hl
   exact ⟨by omega, m2, m3⟩
theorem FoB.legB {Y : List Sp} {C : List Int} {dp : Nat → Nat} {fin : Nat → Nod} {X : List Spot} {K : Nat → List Int} {R : List Int} (h : FoB Y C dp fin X K R) {x : Nat} (hx : x < Y.length) {L : List (Nat × Int × Int)} (hP : PathR fin (cnK fin K) x (fin x).til L) {l : Nat × Int × Int} (hl : l ∈ L) : l.1 < Y.length ∧ 0 ≤ l.2.1 ∧ l.2.1 < l.2.2 ∧ l.2.2 ≤ 4611686018427387904 := by
 have hi := h.inn (dp x) x rfl hx
 obtain ⟨a, b, c⟩ := (tileF_mem _ _ (h.legs hx hP).1).2 l (List.mem_reverse.2 hl)
 exact ⟨(h.bel (hP.bel l hl) hx).1, by omega, b, by omega⟩
def lenL (l : Nat × Int × Int) : Int := lenI (l.2.1, l.2.2)
theorem lenL_nn (l : Nat × Int × Int) : 0 ≤ lenL l := by
 unfold lenL lenI
 split <;> simp only at * <;> omega
theorem tile_sum {hi : Int} : ∀ (lo : Int) (M : List (Nat × Int × Int)), TileF hi lo M → (M.map lenL).sum = hi - lo
 | lo, [], h => by
  have e : lo = hi := h
  simp [e]
 | lo, (y, a, b) :: r, h => by
  obtain ⟨h1, h2, h3⟩ := h
  have ih := tile_sum b r h3
  have e : lenL (y, a, b) = b - a := by unfold lenL lenI; simp only; rw [if_neg (by omega)]
  rw [List.map_cons, List.sum_cons, ih, e]
  omega
def sumN (f : Nat → Int) (n : Nat) : Int := ((List.range n).map f).sum
theorem sumN_succ (f : Nat → Int) (n : Nat) : sumN f (n + 1) = sumN f n + f n := by
 unfold sumN
 rw [List.range_succ, List.map_append, List.sum_append]
 simp
theorem sumN_add (f g : Nat → Int) : ∀ n, sumN (fun y => f y + g y) n = sumN f n + sumN g n
 | 0 => rfl
 | n + 1 => by rw [sumN_succ, sumN_succ, sumN_succ, sumN_add f g n]; omega
theorem sumN_one (k : Nat) (v : Int) : ∀ n, sumN (fun y => if k = y then v else 0) n = if k < n then v else 0
 | 0 => rfl
 | n + 1 => by
  rw [sumN_succ, sumN_one k v n]
  by_cases h1 : k = n
  ·subst h1
   simp
  ·by_cases h2 : k < n
   ·rw [if_pos h2, if_neg h1, if_pos (by omega)]; omega
   ·rw [if_neg h2, if_neg h1, if_neg (by omega)]; rfl
theorem sumN_zero : ∀ n, sumN (fun _ => 0) n = 0
 | 0 => rfl
 | n + 1 => by rw [sumN_succ, sumN_zero n]; rfl
theorem sumH_cons (l : Nat × Int × Int) (r : List (Nat × Int × Int)) (y : Nat) : sumH (l :: r) y = (if l.1 = y then lenL l else 0) + sumH r y := by simp [sumH, lenL]
theorem sumH_all : ∀ (L : List (Nat × Int × Int)) (n : Nat), (∀ l ∈ L, l.1 < n) → sumN (sumH L) n = (L.map lenL).sum
 | [], n, _ => by
  have : sumH [] = fun _ => 0 := by funext y; rfl
  rw [this, sumN_zero]; rfl
 | l :: r, n, h => by
  have : sumH (l :: r) = fun y => (if l.1 = y then lenL l else 0) + sumH r y := by funext y; exact sumH_cons l r y
  rw [this, sumN_add, sumN_one, sumH_all r n (fun m hm => h m (by simp [hm])), if_pos (h l (by simp)), List.map_cons, List.sum_cons]
theorem sumH_nn : ∀ (L : List (Nat × Int × Int)) (y : Nat), 0 ≤ sumH L y
 | [], _ => Int.le_refl _
 | l :: r, y => by
  rw [sumH_cons]
  have := sumH_nn r y
  have := lenL_nn l
  split <;> omega
theorem sumH_le : ∀ (L : List (Nat × Int × Int)) (y : Nat), sumH L y ≤ (L.map lenL).sum
 | [], _ => Int.le_refl _
 | l :: r, y => by
  rw [sumH_cons, List.map_cons, List.sum_cons]
  have := sumH_le r y
  have := lenL_nn l
  split <;> omega
def sumZ (h : Nat → Int) (zs : List Nat) : Int := (zs.map h).sum
theorem sumZ_filter (h : Nat → Int) (hn : ∀ y, 0 ≤ h y) : ∀ zs : List Nat, sumZ h (zs.filter (fun y => decide (0 < h y))) = sumZ h zs
 | [] => rfl
 | z :: r => by
  have ih := sumZ_filter h hn r
  have e2 : sumZ h (z :: r) = h z + sumZ h r := by simp [sumZ]
  by_cases h0 : 0 < h z
  ·rw [List.filter_cons_of_pos (by simpa using h0)]
   have e1 : sumZ h (z :: r.filter (fun y => decide (0 < h y))) = h z + sumZ h (r.filter (fun y => decide (0 < h y))) := by simp [sumZ]
   rw [e1, ih, e2]
  ·rw [List.filter_cons_of_neg (by simpa using h0), ih, e2]
   have := hn z
   omega
theorem tile_cnt (y : Nat) {hi lo0 : Int} {n : Nat} : ∀ (lo : Int) (M : List (Nat × Int × Int)), TileF hi lo M → lo0 ≤ lo → hi ≤ lo0 + n → sumH M y = cntM (memI ((M.filter (fun l => decide (l.1 = y))).map (fun l => (l.2.1, l.2.2)))) lo0 n ∧ lo ≤ hi ∧ ∀ x, memI ((M.filter (fun l => decide (l.1 = y))).map (fun l => (l.2.1, l.2.2))) x = true → lo ≤ x
 | lo, [], h, h0, h1 => by
  have e : lo = hi := h
  refine ⟨?_, by omega, fun x hx => by simp [memI] at hx⟩
  have : ∀ k : Nat, cntM (memI []) lo0 k = 0 := fun k => by
   induction k with
   | zero => rfl
   | succ k ih => simp [cntM, ih, memI]
  simp [sumH, this]
 | lo, (z, a, b) :: r, h, h0, h1 => by
  obtain ⟨g1, g2, g3⟩ := h
  obtain ⟨i1, i2, i3⟩ := tile_cnt y b r g3 (by omega) h1
  rw [sumH_cons]
  have e : lenL (z, a, b) = b - a := by unfold lenL lenI; simp only; rw [if_neg (by omega)]
  by_cases hz : z = y
  ·rw [List.filter_cons_of_pos (by simpa using hz), List.map_cons, if_pos hz, e]
   refine ⟨?_, by omega, fun x hx => ?_⟩
   ·have ec : ∀ x, memI ((a, b) :: (r.filter (fun l => decide (l.1 = y))).map (fun l => (l.2.1, l.2.2))) x = ((decide (a ≤ x) && decide (x < b)) || memI ((r.filter (fun l => decide (l.1 = y))).map (fun l => (l.2.1, l.2.2))) x) := fun x => memI_cons _ _ _
    rw [cntM_congr ec, cntM_or _ _ _ (fun x hx => ?_), cntM_iv a b lo0 (by omega) (by omega), if_neg (by omega), i1]
    ·split <;> omega
    ·simp only [Bool.and_eq_true, decide_eq_true_eq] at hx
     cases hq : memI ((r.filter (fun l => decide (l.1 = y))).map (fun l => (l.2.1, l.2.2))) x with
     | false => rfl
     | true => have := i3 x hq; omega
   ·rw [memI_cons] at hx
    simp only [Bool.or_eq_true, Bool.and_eq_true, decide_eq_true_eq] at hx
    rcases hx with hx | hx
    ·omega
    ·have := i3 x hx; omega
  ·rw [List.filter_cons_of_neg (by simpa using hz), if_neg hz, Int.zero_add]
   exact ⟨i1, by omega, fun x hx => by have := i3 x hx; omega⟩
theorem cntM_le {p q : Int → Bool} (h : ∀ x, p x = true → q x = true) (lo : Int) : ∀ n, cntM p lo n ≤ cntM q lo n
 | 0 => Int.le_refl _
 | n + 1 => by
  have := cntM_le h lo n
  have hx := h (lo + n)
  unfold cntM
  cases hp : p (lo + n) <;> cases hq : q (lo + n) <;> simp_all <;> omega
section
variable {Y : List Sp} {C : List Int} {dp : Nat → Nat} {fin : Nat → Nod} {X : List Spot} {K : Nat → List Int} {R : List Int}
def kidI (fin : Nat → Nod) (K : Nat → List Int) (y : Nat) : List (Int × Int) := (knK K y).map (fun c => ((fin c).fr, (fin c).til))
theorem FoB.aloneLe (h : FoB Y C dp fin X K R) {x : Nat} (hx : x < Y.length) {L : List (Nat × Int × Int)} (hP : PathR fin (cnK fin K) x (fin x).til L) {y : Nat} (hy : y < Y.length) {N : Nat} (hN : (N : Int) = 18446744073709551615) : sumH L y + cntM (memI (kidI fin K y)) (-9223372036854775808) N ≤ lenI ((fin y).fr, (fin y).til) := by
 have hi := h.inn (dp x) x rfl hx
 have hiy := h.inn (dp y) y rfl hy
 obtain ⟨_, _, t3⟩ := hP.tiles h.nest hx hi.2.1 (Int.le_refl _)
 have T := (h.legs hx hP).1
 obtain ⟨c1, _, _⟩ := tile_cnt y (lo0 := -9223372036854775808) (n := N) _ _ T (by omega) (by omega)
 rw [sumH_rev] at c1
 rw [c1]
 have el : lenI ((fin y).fr, (fin y).til) = (fin y).til - (fin y).fr := by unfold lenI; simp only; split <;> omega
 have ec : cntM (fun x => decide ((fin y).fr ≤ x) && decide (x < (fin y).til)) (-9223372036854775808) N = (fin y).til - (fin y).fr := by
  rw [cntM_iv _ _ _ (by omega) (by omega), if_neg (by omega)]
  split <;> omega
 have kid : ∀ c ∈ knK K y, (fin c).fr < (fin c).til → c ∈ cnK fin K y := fun c hc h0 => List.mem_filter.2 ⟨hc, decide_eq_true h0⟩
 have hq : ∀ x, memI (kidI fin K y) x = true → (decide ((fin y).fr ≤ x) && decide (x < (fin y).til)) = true := fun x hx => by
  obtain ⟨i, hi, h1, h2⟩ := memI_iff.1 hx
  obtain ⟨c, hc, rfl⟩ := List.mem_map.1 hi
  simp only at h1 h2
  obtain ⟨n1, n2, n3⟩ := h.nest.inn y hy c (kid c hc (by omega))
  simp only [Bool.and_eq_true, decide_eq_true_eq]
  omega
 have hp : ∀ x, memI ((L.reverse.filter (fun l => decide (l.1 = y))).map (fun l => (l.2.1, l.2.2))) x = true → ((decide ((fin y).fr ≤ x) && decide (x < (fin y).til)) && !memI (kidI fin K y) x) = true := fun x hx => by
  obtain ⟨i, hi, h1, h2⟩ := memI_iff.1 hx
  obtain ⟨l, hl, rfl⟩ := List.mem_map.1 hi
  obtain ⟨hl1, hl2⟩ := List.mem_filter.1 hl
  have hly : l.1 = y := by simpa using hl2
  obtain ⟨g1, g2, g3⟩ := t3 l (List.mem_reverse.1 hl1)
  simp only at h1 h2
  rw [hly] at g1 g2 g3
  have hno : memI (kidI fin K y) x = false := by
   cases hk : memI (kidI fin K y) x with
   | false => rfl
   | true =>
    obtain ⟨j, hj, k1, k2⟩ := memI_iff.1 hk
    obtain ⟨c, hc, rfl⟩ := List.mem_map.1 hj
    simp only at k1 k2
    exact absurd ⟨by omega, by omega⟩ (g3 c (kid c hc (by omega)))
  simp only [hno, Bool.not_false, Bool.and_true, Bool.and_eq_true, decide_eq_true_eq]
  omega
 have s1 := cntM_split (fun x => decide ((fin y).fr ≤ x) && decide (x < (fin y).til)) (memI (kidI fin K y)) (-9223372036854775808) N
 have s2 := cntM_le hp (-9223372036854775808) N
 have s3 : cntM (memI (kidI fin K y)) (-9223372036854775808) N ≤ cntM (fun x => (decide ((fin y).fr ≤ x) && decide (x < (fin y).til)) && memI (kidI fin K y) x) (-9223372036854775808) N := cntM_le (fun x hx => by rw [hq x hx, hx]; rfl) _ N
 rw [ec] at s1
 rw [el]
 omega
theorem FoB.hung (h : FoB Y C dp fin X K R) {x : Nat} (hx : x < Y.length) {L : List (Nat × Int × Int)} (hP : PathR fin (cnK fin K) x (fin x).til L) (y : Nat) : hungI L y = sumH L y ∧ sumH L y ≤ 4611686018427387904 := by
 have hi := h.inn (dp x) x rfl hx
 have T := tile_sum _ _ (h.legs hx hP).1
 have e1 := sumH_le L.reverse y
 rw [sumH_rev, T] at e1
 have e2 := sumH_nn L y
 rw [hungI_sum, IntKind.wrap_u64]
 omega
theorem FoB.whole (h : FoB Y C dp fin X K R) {x : Nat} (hx : x < Y.length) {L : List (Nat × Int × Int)} (hP : PathR fin (cnK fin K) x (fin x).til L) : sumZ (hungI L) (shL L Y.length) = (fin x).til - (fin x).fr := by
 have T := tile_sum _ _ (h.legs hx hP).1
 have e0 : hungI L = sumH L := by funext y; exact (h.hung hx hP y).1
 unfold shL
 rw [sumZ_filter (hungI L) (fun y => (hungI_nn L y).1), e0]
 have e1 := sumH_all L.reverse Y.length (fun l hl => (h.legB hx hP (List.mem_reverse.1 hl)).1)
 have e2 : sumH L.reverse = sumH L := by funext y; exact sumH_rev y L
 rw [e2, T] at e1
 exact e1
end
end Go.Proofs.YtnffedmcblbkoaaGreatDoor
