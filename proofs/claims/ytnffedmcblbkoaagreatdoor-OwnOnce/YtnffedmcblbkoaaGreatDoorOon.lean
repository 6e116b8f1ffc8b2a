/-
  Oon.
-/
import Derived.Test.YtnffedmcblbkoaaGreatDoorOfi
import Derived.Test.YtnffedmcblbkoaaGreatDoorO9q
import Derived.BigQuiet
namespace Go.Proofs.YtnffedmcblbkoaaGreatDoor
open Go Go.RowKit Go.Lib
set_option maxRecDepth 100000
theorem set_blkS {w : World} {B : Nat} {cs : Array Value} {t : TypeId} {fr : Nat × Nat} (h : w.heap[B]? = some (.cells cs t fr)) (i : Nat) (v : Value) : (w.setCell ⟨B, i, none⟩ v).heap[B]? = some (.cells (cs.setIfInBounds i v) t fr) := by
 simp [World.setCell, h, Array.getElem?_modify]
theorem cell_updS {S : Nat → Prop} {w w' : World} (hu : Upd S w w') {b o : Nat} {v : Value} (h : w.cell? ⟨b, o, none⟩ = some v) (hS : ¬ S b) : w'.cell? ⟨b, o, none⟩ = some v := cell_upd hu h hS
theorem src_ownR {w : World} {b n oc : Nat} {oa : Option Addr} {xs : List Value} (h : w.ownsRow b 52 4 (.slice oa n oc) n xs) (h1 : ∀ u ∈ xs, u.oneCell' = true) : Src Tryz.prog 4 28 (.slice oa n oc) n xs w := by
 have hl := h.1
 rcases h.2 with ⟨e, h0⟩ | ⟨g, cap, cur, e, _⟩
 ·injection e with e1 e2 e3
  subst e1
  have hn : n = 0 := by omega
  subst hn
  have : xs = [] := List.eq_nil_of_length_eq_zero (by simpa using hl)
  subst this
  exact Src.ofNil _ Tryz.underlying28 oc
 ·injection e with e1 e2 e3
  subst e1
  refine Src.ofSlice _ Tryz.underlying28 ⟨g, 0, none⟩ n oc xs hl (fun j u hj => ?_) h1
  exact World.ownsRow.cells h (g := g) rfl j u hj
theorem wpList_appO0 {ops : Array Oper} {rest : List Oper} {o : Oper} {a : Act} {Q : Exit → Act → World → Prop} (w : World) (hgd : o.guard = none) (s x : Operand)
  (ho : o.op = .call { callee := .builtin .append, args := #[s, x], argTypes := #[28, 28] })
  (b : Nat) (oa : Option Addr) (n oc : Nat) (xs : List Value) (bw : Nat) (hbw : bw = w.heap.size) (hs : a.eval s = .slice (some ⟨bw, 0, none⟩) 0 0) (hx : a.eval x = .slice oa n oc) (hA : w.ownsRow b 52 4 (.slice oa n oc) n xs) (h1 : ∀ u ∈ xs, u.oneCell' = true) (hn : n ≤ 1000000)
  (h : ∀ va vc w', w'.ownsRow w.heap.size 52 4 (.slice va n vc) n xs → Below w.heap.size w w' → wpList Tryz.prog ops Q rest (a.put o.dst (.slice va n vc)) w') : wpList Tryz.prog ops Q (o :: rest) a (w.alloc (.cells #[] 52)) := by
 subst hbw
 obtain ⟨i0, hi0, hz0, hz1, hz2⟩ := infoOw_parts
 have hb : Below w.heap.size w (w.alloc (.cells #[] 52)) := (Below.refl _ _).alloc (Nat.le_refl _) _
 have OW : (w.alloc (.cells #[] 52)).ownsRow w.heap.size 52 4 (.slice (some ⟨w.heap.size, 0, none⟩) 0 0) 0 [] := ⟨rfl, Or.inr ⟨w.heap.size, 0, #[], rfl, Nat.le_refl _, heap_alloc_new w _, Nat.le_refl _, Nat.zero_le _, rfl, rfl⟩⟩
 have hA' := ownsRow_upd hA (Upd.ofBelow (S := fun _ => False) hb (fun k h1 h2 => by omega)) (fun _ _ h => h)
 refine wpList_appW _ hgd s x 28 28 ho w.heap.size 52 i0 _ 4 32 Tryz.underlying28 hi0 hz0 hz1 hz2 rfl _ 0 [] hs OW _ n xs hx (src_ownR hA' h1) (by unfold maxLen; omega) (by omega) (by simp) ?_
 intro v1 w1 o1 g1 m1
 rw [Nat.zero_add, List.nil_append] at o1
 obtain ⟨va, vc, rfl⟩ := owns_sliceS o1
 refine h va vc w1 o1 ?_
 exact (((Upd.refl (fun k => w.heap.size ≤ k) w).alloc (.cells #[] 52)).grown g1 (fun k hk e => by
  have : (Value.slice (some ⟨w.heap.size, 0, none⟩) 0 0).ownBlock = some k := e
  simp [Value.ownBlock] at this
  show w.heap.size ≤ k
  omega)).below (Nat.le_refl _) (fun k hk h => by omega)
theorem timC_one (fin : Nat → Nod) (K : Nat → List Int) (dp ro : Nat → Nat) (N : Nat) (L : List Nat) : ∀ u ∈ L.flatMap (timC fin K dp ro N), u.oneCell' = true := fun u hu => by
 obtain ⟨y, _, hy⟩ := List.mem_flatMap.1 hu
 simp only [timC, List.mem_cons, List.not_mem_nil, or_false] at hy
 rcases hy with rfl | rfl | rfl | rfl <;> rfl
def LefAt (w : World) (la : Option Addr) (n : Nat) (fin : Nat → Nod) (G : Nat → Int) : Prop := 0 < n → ∃ lb cs, la = some ⟨lb, 0, none⟩ ∧ w.heap[lb]? = some (.cells cs 52 (0, 0)) ∧ n * 4 ≤ cs.size ∧ ∀ j, j < n → w.cell? ⟨lb, j * 4, none⟩ = some (.int .u64 (fin j).id) ∧ w.cell? ⟨lb, j * 4 + 3, none⟩ = some (.int .u64 (G j))
theorem LefAt.congr {w : World} {la : Option Addr} {n : Nat} {fin : Nat → Nod} {G H : Nat → Int} (h : LefAt w la n fin G) (e : ∀ y, y < n → G y = H y) : LefAt w la n fin H := fun hn => by
 obtain ⟨lb, cs, h1, h2, h3, h4⟩ := h hn
 exact ⟨lb, cs, h1, h2, h3, fun j hj => ⟨(h4 j hj).1, by rw [← e j hj]; exact (h4 j hj).2⟩⟩
theorem LefAt.of_owns {w : World} {base : Nat} {la : Option Addr} {n lc : Nat} {fin : Nat → Nod} {K : Nat → List Int} {dp ro : Nat → Nat} {N : Nat} (h : w.ownsRow base 52 4 (.slice la n lc) n ((List.range n).flatMap (timC fin K dp ro N))) : LefAt w la n fin (selfX fin K dp ro) := fun hn => by
 have hl := LieIn.of_owns (f := timC fin K dp ro N) (fun _ => rfl) h List.length_range
 obtain ⟨g', e', _, hc⟩ := hl (fun e => by have := congrArg List.length e; simp at this; omega)
 rcases h.2 with ⟨_, h0⟩ | ⟨g, cap, cur, e, _, hh, h1, _, h3, _⟩
 ·omega
 ·injection e with e1 _ _
  rw [e1] at e'
  injection e' with e'
  injection e' with e' _ _
  subst e'
  refine ⟨g, cur, e1, hh, by rw [h3]; exact Nat.mul_le_mul_right 4 h1, fun j hj => ⟨?_, ?_⟩⟩
  ·have := hc j (by simpa using hj) 0 (.int .u64 (fin j).id) (by simp [timC])
   simpa using this
  ·exact hc j (by simpa using hj) 3 (.int .u64 (selfX fin K dp ro j)) (by simp [timC])
theorem LefAt.below {w w' : World} {la : Option Addr} {n : Nat} {fin : Nat → Nod} {G : Nat → Int} (h : LefAt w la n fin G) (hb : Below w.heap.size w w') : LefAt w' la n fin G := fun hn => by
 obtain ⟨lb, cs, h1, h2, h3, h4⟩ := h hn
 have hl := lt_of_block h2
 exact ⟨lb, cs, h1, (hb.block lb hl).trans h2, h3, fun j hj => ⟨(hb.cell (p := ⟨lb, j * 4, none⟩) hl).trans (h4 j hj).1, (hb.cell (p := ⟨lb, j * 4 + 3, none⟩) hl).trans (h4 j hj).2⟩⟩
theorem LefAt.set {w : World} {lb n : Nat} {fin : Nat → Nod} {G H : Nat → Int} (h : LefAt w (some ⟨lb, 0, none⟩) n fin G) {i : Nat} (hi : i < n) (e : ∀ y, y < n → y ≠ i → G y = H y) : LefAt (w.setCell ⟨lb, i * 4 + 3, none⟩ (.int .u64 (H i))) (some ⟨lb, 0, none⟩) n fin H := fun hn => by
 obtain ⟨lb', cs, h1, h2, h3, h4⟩ := h hn
 injection h1 with h1
 injection h1 with h1 _ _
 subst h1
 have hs : (w.setCell ⟨lb, i * 4 + 3, none⟩ (.int .u64 (H i))).heap[lb]? = some (.cells (cs.setIfInBounds (i * 4 + 3) (.int .u64 (H i))) 52 (0, 0)) := set_blkS h2 _ _
 have oth : ∀ j, j ≠ i * 4 + 3 → (w.setCell ⟨lb, i * 4 + 3, none⟩ (.int .u64 (H i))).cell? ⟨lb, j, none⟩ = w.cell? ⟨lb, j, none⟩ := fun j hj => by
  simp only [World.cell?, hs, h2]
  simp [Ne.symm hj]
 refine ⟨lb, _, rfl, hs, by simpa using h3, fun j hj => ⟨?_, ?_⟩⟩
 ·rw [oth _ (by omega)]
  exact (h4 j hj).1
 ·by_cases q : j = i
  ·subst q
   have : j * 4 + 3 < cs.size := by omega
   simp only [World.cell?, hs]
   simp [this]
  ·rw [oth _ (by omega), (h4 j hj).2, e j hj q]
def pre9 (h : List UInt8 → Int) (l : List (List UInt8)) (k : Nat) : Int := ((l.take k).map h).sum
theorem pre9_next {h : List UInt8 → Int} {l : List (List UInt8)} {k : Nat} (hk : k < l.length) : pre9 h l (k + 1) = pre9 h l k + h l[k] := by
 unfold pre9
 rw [List.take_add_one, List.getElem?_eq_getElem hk, List.map_append, List.sum_append]
 simp
theorem pre9_nn {h : List UInt8 → Int} : ∀ {l : List (List UInt8)}, (∀ s ∈ l, 0 < h s) → 0 ≤ (l.map h).sum
 | [], _ => Int.le_refl _
 | s :: r, hp => by
  have := pre9_nn (l := r) (fun q hq => hp q (by simp [hq]))
  have := hp s (by simp)
  simp only [List.map_cons, List.sum_cons]
  omega
theorem pre9_bd {h : List UInt8 → Int} {l : List (List UInt8)} (hp : ∀ s ∈ l, 0 < h s) (k : Nat) : 0 ≤ pre9 h l k ∧ pre9 h l k ≤ (l.map h).sum := by
 have e : (l.map h).sum = pre9 h l k + ((l.drop k).map h).sum := by
  unfold pre9
  rw [← List.sum_append, ← List.map_append, List.take_append_drop]
 have h1 := pre9_nn (l := l.take k) (fun q hq => hp q (List.mem_of_mem_take hq))
 have h2 := pre9_nn (l := l.drop k) (fun q hq => hp q (List.mem_of_mem_drop hq))
 unfold pre9 at *
 omega
theorem leq_strO (t : TypeId) (a b : List UInt8) (h : b < a) (W : World) : (binOp .leq t (.string ⟨a.toArray⟩) (.string ⟨b.toArray⟩)).run Tryz.prog W = .ok (.bool false) W := by
 have h1 : Op.bytesLess a b = false := by rw [bytesLess_eq]; exact decide_eq_false (fun h' => List.lt_irrefl _ (List.lt_trans h h'))
 have h2 : ¬ a = b := fun e => by subst e; exact List.lt_irrefl _ h
 simp [binOp, Op.stringOp, go_sem, h1, h2]
section
variable {Y : List Sp} {C : List Int} {dp : Nat → Nat} {fin : Nat → Nod} {X : List Spot} {K : Nat → List Int} {R : List Int}
theorem FoB.lefBd (h : FoB Y C dp fin X K R) {ro : Nat → Nat} (hro : RooF Y fin K R ro) (i x k : Nat) {y : Nat} (hy : y < Y.length) : 0 ≤ lefV fin K dp ro R i k x y ∧ lefV fin K dp ro R i k x y ≤ 4611686018427387904 := by
 obtain ⟨hx, h1, h2, h3, h4, _⟩ := hro y hy
 obtain ⟨_, n2, _, n4⟩ := h.legsO hx
 obtain ⟨N, hN⟩ : ∃ N : Nat, (N : Int) = 18446744073709551615 := ⟨18446744073709551615, rfl⟩
 have le := h.ownLe hx n2.tile (fun l hl => (n4 l hl).2.2) hy hN
 have hc := (cntM_nonneg (memI (kidI fin K y)) (-9223372036854775808) N).1
 have hi := h.inn (dp y) y rfl hy
 have hl : lenI ((fin y).fr, (fin y).til) ≤ 4611686018427387904 := by unfold lenI; simp only; split <;> omega
 have h0 := sumH_nn (legsX fin K dp (ro y)) y
 have es : selfX fin K dp ro y = sumH (legsX fin K dp (ro y)) y := rfl
 unfold lefV
 split
 ·omega
 ·split
  ·rename_i q
   have hu := sumH_upto (legsX fin K dp x) k y
   have hn := sumH_nn ((legsX fin K dp x).take k) y
   rw [q] at es
   rw [q] at le h0
   omega
  ·omega
end
theorem legsO2_any {f sb : Nat} {Y : List Sp} {C : List Int} {dp : Nat → Nat} {fin : Nat → Nod} {X : List Spot} {K : Nat → List Int} {rv : Value} {R : List Int} {w W : World} (hF : ForestAt w f sb X K rv R) (h : FoB Y C dp fin X K R) (hb : Below w.heap.size w W) (x : Nat) (hx : x < Y.length) (ho : (fin x).org ≠ 0) : Calls Tryz.prog 11 #[.pointer (some ⟨f, 0, none⟩), .int .u64 (fin x).id] W fun e W' => ∃ ad cap, e = .returned (.tuple #[.slice ad (legsX fin K dp x).length cap, .int .i64 0]) ∧ Hid (LieIn (fun l => legC (legI fin l)) 3 W' ad (legsX fin K dp x) ∧ ∀ g, ad = some ⟨g, 0, none⟩ → W.heap.size ≤ g) ∧ Below W.heap.size W W' := by
 refine (legsB f sb X K rv R Y C fin dp x W (hF.below hb) h.fo h.sh hx ho).mono ?_
 rintro e W' ⟨v, L, b, rfl, hL, hbb, hrow, hbl⟩
 rw [(h.legsO hx).1] at hL
 subst hL
 rw [List.length_map, List.flatMap_map] at hrow
 obtain ⟨ad, cap, rfl⟩ := owns_sliceS hrow
 exact ⟨ad, cap, rfl, ⟨LieIn.of_owns (f := fun l => legC (legI fin l)) (fun _ => rfl) hrow rfl, fun g hg => by subst hg; exact Nat.le_trans hbb (owns_lt hrow (g := g) rfl).1⟩, hbl⟩
def LefI (fin : Nat → Nod) (n : Nat) (la : Option Addr) (w5 : World) (G : Nat → Int) (wr : World) : Prop := LefAt wr la n fin G ∧ Upd (fun k => la = some ⟨k, 0, none⟩) w5 wr
theorem LefI.mono {fin : Nat → Nod} {n : Nat} {la : Option Addr} {w5 : World} {G : Nat → Int} {wr wr' : World} (h : LefI fin n la w5 G wr) (hb : Below wr.heap.size wr wr') : LefI fin n la w5 G wr' :=
 ⟨h.1.below hb, h.2.trans (Upd.ofBelow (S := fun _ => False) hb (fun k h1 h2 => by omega)) (fun _ _ h => h.elim)⟩
theorem LefI.congr {fin : Nat → Nod} {n : Nat} {la : Option Addr} {w5 : World} {G H : Nat → Int} {wr : World} (h : LefI fin n la w5 G wr) (e : ∀ y, y < n → G y = H y) : LefI fin n la w5 H wr := ⟨h.1.congr e, h.2⟩
theorem LefI.dr {fin : Nat → Nod} {n : Nat} {la : Option Addr} {w5 : World} {G : Nat → Int} {wr : World} (h : LefI fin n la w5 G wr) (q : Nat) : LefI fin n la w5 G (wr.drewN q) := h.mono ⟨rfl, rfl, rfl, Nat.le_refl _, fun _ _ => rfl⟩
theorem LefI.set {fin : Nat → Nod} {n lb : Nat} {w5 : World} {G H : Nat → Int} {wr : World} (h : LefI fin n (some ⟨lb, 0, none⟩) w5 G wr) {i : Nat} (hi : i < n) (e : ∀ y, y < n → y ≠ i → G y = H y) : LefI fin n (some ⟨lb, 0, none⟩) w5 H (wr.setCell ⟨lb, i * 4 + 3, none⟩ (.int .u64 (H i))) :=
 ⟨h.1.set hi e, h.2.trans (Upd.setCell (S := fun k => (some ⟨lb, 0, none⟩ : Option Addr) = some ⟨k, 0, none⟩) (p := ⟨lb, i * 4 + 3, none⟩) (Upd.refl _ wr) (fun _ => rfl) (.int .u64 (H i))) (fun _ _ h => h)⟩
set_option maxHeartbeats 16000000 in
theorem ownOnce_any (ad : Option Addr) (n0 cap : Nat) (XL : List Sp) (P : Nat → Pl) (w : World) (hX : SpsAt w ad n0 XL P) (hF : ∀ a ∈ XL, a.Fits) (hS : ∀ a ∈ XL, a.Small) (hT : Tabs w) :
  Calls Tryz.prog 3 #[.slice ad n0 cap] w fun e w' => e = .returned (.bool true) ∧ Below w.heap.size w w' := by
 have SH := shown_any w hT
 by_cases h1 : OneT XL
 ·have BO : Hid (∀ W, Below w.heap.size w W → Calls Tryz.prog 7 #[.slice ad n0 cap] W fun e w' => ∃ f g sb Y C dp fin X' K rv R, e = .returned (.tuple #[.pointer (some ⟨f, 0, none⟩), .pointer (some ⟨g, 0, none⟩), .bool true]) ∧ Hid (BuT XL w' f sb Y C dp fin X' K rv R) ∧ Below W.heap.size W w') := fun W hb => both_yes ad n0 cap XL P W (hX.below hb) hF hS (hT.below hb) h1
  clear hX hF hS hT h1
  go_enter Tryz.func3, Tryz.ntmps3
  go_upto_region 3 with (first
   | (go_at_call 6; (with_reducible refine SH.mono ?_); clear SH; rintro e w1 ⟨rfl, b1⟩; have M1 := BO.out w1 b1; have HB1 : Hid (Below w.heap.size w w1) := b1; clear b1 BO)
   | (go_at_call 7; (with_reducible refine M1.mono ?_); clear M1; rintro e w2 ⟨f, g, sb, Y, C, dp, fin, X, K, rv, R, rfl, HBT, b2⟩; have HB2 : Hid (Below w.heap.size w w2) := HB1.out.trans (b2.mono HB1.out.size); clear b2))
  obtain ⟨ro, hro⟩ := HBT.out.fo.rootF9
  obtain ⟨N, hN⟩ : ∃ N : Nat, (N : Int) = 18446744073709551615 := ⟨18446744073709551615, rfl⟩
  have hl := HBT.out.fo.fo.len
  have hnd : R.Nodup := HBT.out.fo.fo.roots.1.nodup_iff.1 (kidsF_nodup _ _ _)
  have TI := times_any f sb X K rv R Y C dp fin w2 HBT.out.at_ HBT.out.fo ro hro hN
  have HRO : Hid (∀ W1, Below w2.heap.size w2 W1 → Calls Tryz.prog 9 #[.pointer (some ⟨f, 0, none⟩)] W1 fun e w' => ∃ r, e = .returned (.slice (some ⟨r, 0, none⟩) R.length R.length) ∧ Blk w' r (fillC .u64 (idsOf X R) 0) 33 ∧ W1.heap.size ≤ r ∧ Below W1.heap.size W1 w') := fun W1 hb => roots_any f sb X K rv R W1 (HBT.out.at_.below hb)
  have HRT : Hid (∀ i (hi : i < R.length), ∃ x : Nat, R[i] = (x : Int) ∧ x < Y.length ∧ (fin x).org ≠ 0 ∧ (fin x).tree = (fin x).id ∧ ∀ U rc, Blk U rc (fillC .u64 (idsOf X R) 0) 33 → U.cell? ⟨rc, i, none⟩ = some (.int .u64 (fin x).id)) := fun i hi => by
   obtain ⟨x, hz, hx, h1, h2⟩ := HBT.out.fo.root R[i] (List.getElem_mem hi)
   refine ⟨x, hz, hx, h1, h2, fun U rc hB => hB.cell i ?_⟩
   have e := (HBT.out.fo.fo.each x hx (by omega)).2
   simp [fillC, idsOf, hi, hz, hl, hx, e]
  have HND : Hid (∀ c, c < Y.length → ∀ W1, Below w2.heap.size w2 W1 → Calls Tryz.prog 10 #[.pointer (some ⟨f, 0, none⟩), .int .u64 (fin c).id] W1 fun e w' => e = .returned (.tuple #[ndV (fin c), .bool true]) ∧ Below W1.heap.size W1 w') := fun c hc W1 hb => by
   have e := (HBT.out.fo.fo.each c hc (by omega)).2
   have h := node_at (HBT.out.at_.below hb) c (by omega) (fin c).id (by rw [e])
   rwa [e] at h
  have HLG : Hid (∀ x, x < Y.length → (fin x).org ≠ 0 → ∀ W1, Below w2.heap.size w2 W1 → Calls Tryz.prog 11 #[.pointer (some ⟨f, 0, none⟩), .int .u64 (fin x).id] W1 fun e W' => ∃ ad cap, e = .returned (.tuple #[.slice ad (legsX fin K dp x).length cap, .int .i64 0]) ∧ Hid (LieIn (fun l => legC (legI fin l)) 3 W' ad (legsX fin K dp x) ∧ ∀ g, ad = some ⟨g, 0, none⟩ → W1.heap.size ≤ g) ∧ Below W1.heap.size W1 W') := fun x hx ho W1 hb => legsO2_any HBT.out.at_ HBT.out.fo hb x hx ho
  have HSV : Hid (∀ x, x < Y.length → (fin x).org ≠ 0 → ∀ W1, Below w2.heap.size w2 W1 → Calls Tryz.prog 12 #[.pointer (some ⟨f, 0, none⟩), .int .u64 (fin x).id] W1 fun e W' => ∃ ad m cap l V, e = .returned (.tuple #[.slice ad m cap, .int .i64 0]) ∧ Hid (l.length = m ∧ m ≤ 1000 ∧ l.Pairwise (fun a b => a < b) ∧ LieIn (fun s => [strV s, .int .u64 (V s)]) 2 W' ad l ∧ (l.map V).sum = (fin x).til - (fin x).fr ∧ (∀ s ∈ l, 0 < V s) ∧ ∀ g, ad = some ⟨g, 0, none⟩ → W1.heap.size ≤ g) ∧ Below W1.heap.size W1 W') := fun x hx ho W1 hb => by
   refine (servicesO_any f sb X K rv R Y C dp fin W1 (HBT.out.at_.below hb) HBT.out.fo x hx ho).mono ?_
   rintro e W' ⟨ad, m, cap, zs, l, rfl, ⟨h1, h2, h3, h4, h5, h6, h7, h8⟩, h9⟩
   obtain ⟨_, n2, _, n4⟩ := HBT.out.fo.legsO hx
   have hi := HBT.out.fo.inn (dp x) x rfl hx
   obtain ⟨s1, s2⟩ := svc_all n2.tile h3 h5 h6 h7 (fun s hs => (n4 s hs).1) (by omega)
   exact ⟨ad, m, cap, l, valS (spAt Y) (sumH (legsX fin K dp x)) zs, rfl, ⟨h1, h2, h3.rise, h4, s1, s2, h8⟩, h9⟩
  have HFI : Hid (∀ x, x < Y.length → (fin x).org ≠ 0 → (fin x).tree = (fin x).id → ∀ ad q cap W1, Below w2.heap.size w2 W1 → (legsX fin K dp x).length = q → LieIn (fun l => legC (legI fin l)) 3 W1 ad (legsX fin K dp x) → Calls Tryz.prog 13 #[.pointer (some ⟨f, 0, none⟩), .agg #[.int .u64 (fin x).id, .int .u64 (fin x).par, .int .i64 (fin x).org, .int .u64 (fin x).tree, .int .i64 (fin x).dep, .int .i64 (fin x).fr, .int .i64 (fin x).til], .slice ad q cap] W1 fun e W' => e = .returned (.bool true) ∧ Below W1.heap.size W1 W') := fun x hx ho ht ad q cap W1 hb hq HL => fitsO_any HBT.out.at_ HBT.out.fo hb x hx ho ht ad q cap hq HL
  have HLN : Hid (∀ x, x < Y.length → (legsX fin K dp x).length ≤ 2000 ∧ (∀ l ∈ legsX fin K dp x, l.1 < Y.length ∧ 0 ≤ l.2.1 ∧ l.2.1 < l.2.2 ∧ l.2.2 ≤ 4611686018427387904) ∧ 0 ≤ (fin x).fr ∧ (fin x).fr ≤ (fin x).til ∧ (fin x).til ≤ 4611686018427387904) := fun x hx => by
   obtain ⟨_, _, n3, n4⟩ := HBT.out.fo.legsO hx
   refine ⟨n3, fun l hl => ?_, HBT.out.fo.inn (dp x) x rfl hx⟩
   obtain ⟨a1, _, a3, a4, a5, _⟩ := n4 l hl
   have hi := HBT.out.fo.inn (dp l.1) l.1 rfl a1
   exact ⟨a1, by omega, a4, by omega⟩
  have HNX : Hid (∀ (i x k : Nat) (hi : i < R.length), R[i] = (x : Int) → x < Y.length → (fin x).tree = (fin x).id → ∀ (hk : k < (legsX fin K dp x).length) y, y < Y.length → ((legsX fin K dp x)[k].1 = y → lenI ((legsX fin K dp x)[k].2.1, (legsX fin K dp x)[k].2.2) ≤ lefV fin K dp ro R i k x y ∧ lefV fin K dp ro R i (k + 1) x y = lefV fin K dp ro R i k x y - lenI ((legsX fin K dp x)[k].2.1, (legsX fin K dp x)[k].2.2)) ∧ ((legsX fin K dp x)[k].1 ≠ y → lefV fin K dp ro R i (k + 1) x y = lefV fin K dp ro R i k x y)) := fun i x k hi hxr hx ht hk y hy => HBT.out.fo.lefNext hro hnd hi hxr hx ht hk hy
  have HBD : Hid (∀ (i x k y : Nat), y < Y.length → 0 ≤ lefV fin K dp ro R i k x y ∧ lefV fin K dp ro R i k x y ≤ 4611686018427387904) := fun i x k y hy => HBT.out.fo.lefBd hro i x k hy
  have HIJ : Hid (∀ a b, a < Y.length → b < Y.length → (fin a).id = (fin b).id → a = b) := fun a b h1 h2 e => HBT.out.fo.inj h1 h2 e
  have HEQ : Hid (∀ y, y < Y.length → lefV fin K dp ro R R.length 0 0 y = 0) := fun y hy => by
   rw [lefV_start, List.take_length, if_pos (hro y hy).2.2.2.2.2]
  have hn1 : Y.length ≤ 1000 := HBT.out.fo.one.len
  have hr1 : R.length ≤ 1000 := by
   have h1 := HBT.out.fo.rlen
   unfold rtN at h1
   rwa [List.length_map] at h1
  clear HBT hro hN hl hnd
  generalize Y.length = n at *
  obtain ⟨rn, hrn⟩ : ∃ m, R.length = m := ⟨_, rfl⟩
  have HRN : Hid (R.length = rn) := hrn
  rw [hrn] at HRO HEQ hr1
  clear hrn
  go_wp2_with (first
   | (go_at_call 8; (with_reducible refine TI.mono ?_); clear TI; rintro e w3 ⟨tb0, oa, oc, rfl, hrow, hlo, b3⟩; have HT3 : Hid (w3.ownsRow tb0 52 4 (.slice oa n oc) n ((List.range n).flatMap (timC fin K dp ro N)) ∧ Below w2.heap.size w2 w3) := ⟨hrow, b3⟩; clear hrow hlo b3)
   | (at_builtin; refine wpList_appO0 w3 rfl _ _ rfl tb0 oa n oc ((List.range n).flatMap (timC fin K dp ro N)) w3.heap.size rfl rfl rfl HT3.out.1 (timC_one _ _ _ _ _ _) (by omega) ?_; intro la lc w4 o4 b4; have H4 : Hid (w4.ownsRow w3.heap.size 52 4 (.slice la n lc) n ((List.range n).flatMap (timC fin K dp ro N)) ∧ Below w2.heap.size w2 w4 ∧ w2.heap.size ≤ w3.heap.size) := ⟨o4, HT3.out.2.trans (b4.mono HT3.out.2.size), HT3.out.2.size⟩; have R1 := HRO.out w4 H4.out.2.1; clear o4 b4 HRO HT3)
   | (go_at_call 9; (with_reducible refine R1.mono ?_); clear R1; rintro e w5 ⟨rr, rfl, hb5, hr5, b5⟩; have H5 : Hid (Blk w5 rr (fillC .u64 (idsOf X R) 0) 33 ∧ w4.heap.size ≤ rr ∧ Below w2.heap.size w2 w5 ∧ w4.heap.size ≤ w5.heap.size) := ⟨hb5, hr5, H4.out.2.1.trans (b5.mono H4.out.2.1.size), b5.size⟩; have HI0 : Hid (LefI fin n la w5 (lefV fin K dp ro R 0 0 0) w5) := ⟨((LefAt.of_owns H4.out.1).below b5).congr (fun y hy => by rw [lefV_start]; simp), Upd.refl _ _⟩; clear hb5 hr5 b5))
  have HLA : Hid (∀ k, la = some ⟨k, 0, none⟩ → w2.heap.size ≤ k ∧ k < rr ∧ k < w5.heap.size) := fun k hk => by
   subst hk
   have h1 := owns_lt H4.out.1 (g := k) rfl
   have := H4.out.2.2
   have := H5.out.2.1
   have := H5.out.2.2.2
   omega
  clear H4
  go_loopw [10] (fun z wr => ∃ i : Nat, z = .int .i64 i ∧ i ≤ rn ∧ Hid (LefI fin n la w5 (lefV fin K dp ro R i 0 0) wr)) (fun z _ => rn - (intOf z).toNat)
  case atStart => exact ⟨0, rfl, by omega, HI0⟩
  case round =>
   clear HI0
   obtain ⟨i, rfl, hi, HI⟩ := hrel
   by_cases hlt : i < rn
   ·have hin : (i : Int) < (rn : Int) := by omega
    have hiR : i < R.length := by rw [HRN.out]; exact hlt
    obtain ⟨x, hxr, hx, hox, htx, hcx⟩ := HRT.out i hiR
    have HBW : Hid (∀ U, Below wr.heap.size wr U → Below w2.heap.size w2 U) := fun U hU => (H5.out.2.2.1.trans (HI.out.2.below H5.out.2.2.1.size (fun k hk e => by have := (HLA.out k e).1; omega))).trans (hU.mono (Nat.le_trans H5.out.2.2.1.size HI.out.2.size))
    have HC : Hid (∀ U, Below wr.heap.size wr U → U.cell? ⟨rr, i, none⟩ = some (.int .u64 (fin x).id)) := fun U hU => by
     have hb := H5.out.1.upd HI.out.2 (fun e => by have := (HLA.out rr e).2.1; omega)
     exact hcx U rr (hb.below hU hb.lt)
    have HNI : Hid (∀ k (hk : k < (legsX fin K dp x).length) y, y < n → ((legsX fin K dp x)[k].1 = y → lenI ((legsX fin K dp x)[k].2.1, (legsX fin K dp x)[k].2.2) ≤ lefV fin K dp ro R i k x y ∧ lefV fin K dp ro R i (k + 1) x y = lefV fin K dp ro R i k x y - lenI ((legsX fin K dp x)[k].2.1, (legsX fin K dp x)[k].2.2)) ∧ ((legsX fin K dp x)[k].1 ≠ y → lefV fin K dp ro R i (k + 1) x y = lefV fin K dp ro R i k x y)) := fun k hk y hy => HNX.out i x k hiR hxr hx htx hk y hy
    have HEN : Hid (∀ y, lefV fin K dp ro R i (legsX fin K dp x).length x y = lefV fin K dp ro R (i + 1) 0 0 y) := fun y => lefV_end hiR hxr y 0
    obtain ⟨hq1, hlg, hlo, hmi, hhi⟩ := HLN.out x hx
    have HLX : Hid (∀ l ∈ legsX fin K dp x, l.1 < n ∧ 0 ≤ l.2.1 ∧ l.2.1 < l.2.2 ∧ l.2.2 ≤ 4611686018427387904) := hlg
    have HLO : Hid (0 ≤ (fin x).fr ∧ (fin x).fr ≤ (fin x).til ∧ (fin x).til ≤ 4611686018427387904) := ⟨hlo, hmi, hhi⟩
    have c0 := HC.out wr (Below.refl _ _)
    have N1 := HND.out x hx wr (HBW.out wr (Below.refl _ _))
    have HLGx : Hid (∀ W1, Below w2.heap.size w2 W1 → Calls Tryz.prog 11 #[.pointer (some ⟨f, 0, none⟩), .int .u64 (fin x).id] W1 fun e W' => ∃ ad cap, e = .returned (.tuple #[.slice ad (legsX fin K dp x).length cap, .int .i64 0]) ∧ Hid (LieIn (fun l => legC (legI fin l)) 3 W' ad (legsX fin K dp x) ∧ ∀ g, ad = some ⟨g, 0, none⟩ → W1.heap.size ≤ g) ∧ Below W1.heap.size W1 W') := HLG.out x hx hox
    have HSVx : Hid (∀ W1, Below w2.heap.size w2 W1 → Calls Tryz.prog 12 #[.pointer (some ⟨f, 0, none⟩), .int .u64 (fin x).id] W1 fun e W' => ∃ ad m cap l V, e = .returned (.tuple #[.slice ad m cap, .int .i64 0]) ∧ Hid (l.length = m ∧ m ≤ 1000 ∧ l.Pairwise (fun a b => a < b) ∧ LieIn (fun s => [strV s, .int .u64 (V s)]) 2 W' ad l ∧ (l.map V).sum = (fin x).til - (fin x).fr ∧ (∀ s ∈ l, 0 < V s) ∧ ∀ g, ad = some ⟨g, 0, none⟩ → W1.heap.size ≤ g) ∧ Below W1.heap.size W1 W') := HSV.out x hx hox
    have HFIx : Hid (∀ ad q cap W1, Below w2.heap.size w2 W1 → (legsX fin K dp x).length = q → LieIn (fun l => legC (legI fin l)) 3 W1 ad (legsX fin K dp x) → Calls Tryz.prog 13 #[.pointer (some ⟨f, 0, none⟩), .agg #[.int .u64 (fin x).id, .int .u64 (fin x).par, .int .i64 (fin x).org, .int .u64 (fin x).tree, .int .i64 (fin x).dep, .int .i64 (fin x).fr, .int .i64 (fin x).til], .slice ad q cap] W1 fun e W' => e = .returned (.bool true) ∧ Below W1.heap.size W1 W') := HFI.out x hx hox htx
    unfold ndV at N1
    have HIX : Hid (LefI fin n la w5 (lefV fin K dp ro R i 0 x) wr) := HI.out.congr (fun y _ => by rw [lefV_start, lefV_start])
    clear hxr hx hox htx hcx hiR hlg hlo hmi hhi HI
    obtain ⟨q, hq⟩ : ∃ q, (legsX fin K dp x).length = q := ⟨_, rfl⟩
    have HQ : Hid ((legsX fin K dp x).length = q) := hq
    rw [hq] at hq1 HEN HLGx
    clear hq
    obtain ⟨Ln, hLn⟩ : ∃ L, legsX fin K dp x = L := ⟨_, rfl⟩
    rw [hLn] at HNI HLX HLGx HFIx HQ
    clear hLn
    obtain ⟨⟨did, dpar, dorg, dtree, ddep, dfr, dtil⟩, hd⟩ : ∃ d, fin x = d := ⟨_, rfl⟩
    rw [hd] at HC HLO c0 N1 HLGx HSVx HFIx
    clear hd
    simp only at HC HLO c0 N1 HLGx HSVx HFIx
    go_upto_region 18 with (first
     | (go_at_call 10; (with_reducible refine N1.mono ?_); clear N1; rintro e w6 ⟨rfl, b6⟩; have H6 : Hid (Below wr.heap.size wr (w6.alloc (.cells #[.int .u64 did, .int .u64 dpar, .int .i64 dorg, .int .u64 dtree, .int .i64 ddep, .int .i64 dfr, .int .i64 dtil] 38)) ∧ wr.heap.size ≤ w6.heap.size) := ⟨b6.alloc b6.size _, b6.size⟩; have HB6 : Hid (Blk (w6.alloc (.cells #[.int .u64 did, .int .u64 dpar, .int .i64 dorg, .int .u64 dtree, .int .i64 ddep, .int .i64 dfr, .int .i64 dtil] 38)) w6.heap.size #[.int .u64 did, .int .u64 dpar, .int .i64 dorg, .int .u64 dtree, .int .i64 ddep, .int .i64 dfr, .int .i64 dtil] 38) := Blk.new _ _ _; have L1 := HLGx.out _ (HBW.out _ H6.out.1); have c6 := HC.out _ H6.out.1; clear b6 HLGx c0)
     | (go_at_call 11; (with_reducible refine L1.mono ?_); clear L1; rintro e w7 ⟨ga, gc, rfl, HL7, b7⟩; have H7 : Hid (Below wr.heap.size wr w7 ∧ ∀ g, ga = some ⟨g, 0, none⟩ → wr.heap.size ≤ g) := ⟨H6.out.1.trans (b7.mono H6.out.1.size), fun g hg => Nat.le_trans H6.out.1.size (HL7.out.2 g hg)⟩; have HB7 : Hid (Blk w7 w6.heap.size #[.int .u64 did, .int .u64 dpar, .int .i64 dorg, .int .u64 dtree, .int .i64 ddep, .int .i64 dfr, .int .i64 dtil] 38) := HB6.out.below b7 HB6.out.lt; have S1 := HSVx.out w7 (HBW.out w7 H7.out.1); have c7 := HC.out w7 H7.out.1; clear b7 HSVx c6 HB6)
     | (go_at_call 12; (with_reducible refine S1.mono ?_); clear S1; rintro e w8 ⟨na, mn, nc, l, V, rfl, HS8, b8⟩; have H8 : Hid (Below wr.heap.size wr w8 ∧ LieIn (fun l => legC (legI fin l)) 3 w8 ga Ln ∧ ∀ g, na = some ⟨g, 0, none⟩ → wr.heap.size ≤ g) := ⟨H7.out.1.trans (b8.mono H7.out.1.size), HL7.out.1.below b8, fun g hg => Nat.le_trans H7.out.1.size (HS8.out.2.2.2.2.2.2 g hg)⟩; have HB8 : Hid (Blk w8 w6.heap.size #[.int .u64 did, .int .u64 dpar, .int .i64 dorg, .int .u64 dtree, .int .i64 ddep, .int .i64 dfr, .int .i64 dtil] 38) := HB7.out.below b8 HB7.out.lt; have F1 := HFIx.out ga q gc w8 (HBW.out w8 H8.out.1) HQ.out H8.out.2.1; have m0 := HB8.out.cell 0 rfl; have m1 := HB8.out.cell 1 rfl; have m2 := HB8.out.cell 2 rfl; have m3 := HB8.out.cell 3 rfl; have m4 := HB8.out.cell 4 rfl; have m5 := HB8.out.cell 5 rfl; have m6 := HB8.out.cell 6 rfl; clear b8 HFIx c7 HB7)
     | (go_at_call 13; (with_reducible refine F1.mono ?_); clear F1; rintro e w9 ⟨rfl, b9⟩; have H9 : Hid (Below wr.heap.size wr w9 ∧ Below w8.heap.size w8 w9 ∧ LieIn (fun l => legC (legI fin l)) 3 w9 ga Ln ∧ LieIn (fun s => [strV s, .int .u64 (V s)]) 2 w9 na l ∧ Blk w9 w6.heap.size #[.int .u64 did, .int .u64 dpar, .int .i64 dorg, .int .u64 dtree, .int .i64 ddep, .int .i64 dfr, .int .i64 dtil] 38) := ⟨H8.out.1.trans (b9.mono H8.out.1.size), b9, H8.out.2.1.below b9, HS8.out.2.2.2.1.below b9, HB8.out.below b9 HB8.out.lt⟩; clear b9 m0 m1 m2 m3 m4 m5 m6 HB8))
    obtain ⟨nb, hnb⟩ : ∃ b, w6.heap.size = b := ⟨_, rfl⟩
    have HNB : Hid (wr.heap.size ≤ nb) := by rw [← hnb]; exact H6.out.2
    rw [hnb] at H9 ⊢
    clear hnb H6
    have HI9 : Hid (LefI fin n la w5 (lefV fin K dp ro R i 0 x) w9) := HIX.out.mono H9.out.1
    have HLW : Hid (∀ k, la = some ⟨k, 0, none⟩ → k < wr.heap.size) := fun k hk => Nat.lt_of_lt_of_le (HLA.out k hk).2.2 HIX.out.2.size
    have HCG : Hid (∀ U, Upd (fun k => la = some ⟨k, 0, none⟩) w9 U → ∀ k (hk : k < Ln.length), ∃ gb, ga = some ⟨gb, 0, none⟩ ∧ U.cell? ⟨gb, k * 3, none⟩ = some (.int .u64 (fin Ln[k].1).id) ∧ U.cell? ⟨gb, k * 3 + 1, none⟩ = some (.int .i64 Ln[k].2.1) ∧ U.cell? ⟨gb, k * 3 + 2, none⟩ = some (.int .i64 Ln[k].2.2)) := fun U hU k hk => by
     obtain ⟨gb, e, hgl, hc⟩ := H9.out.2.2.1 (fun e => by rw [e] at hk; simp at hk)
     have hno : ¬ la = some ⟨gb, 0, none⟩ := fun q => by have := HLW.out gb q; have := H7.out.2 gb e; omega
     exact ⟨gb, e, cell_updS hU (hc k hk 0 _ rfl) hno, cell_updS hU (hc k hk 1 _ rfl) hno, cell_updS hU (hc k hk 2 _ rfl) hno⟩
    have HCN : Hid (∀ U, Upd (fun k => la = some ⟨k, 0, none⟩) w9 U → (∀ k (hk : k < l.length), ∃ sb9, na = some ⟨sb9, 0, none⟩ ∧ U.cell? ⟨sb9, k * 2, none⟩ = some (.string ⟨l[k].toArray⟩) ∧ U.cell? ⟨sb9, k * 2 + 1, none⟩ = some (.int .u64 (V l[k]))) ∧ U.cell? ⟨nb, 5, none⟩ = some (.int .i64 dfr) ∧ U.cell? ⟨nb, 5 + 1, none⟩ = some (.int .i64 dtil)) := fun U hU => by
     have hnn : ¬ la = some ⟨nb, 0, none⟩ := fun q => by have := HLW.out nb q; have := HNB.out; omega
     refine ⟨fun k hk => ?_, cell_updS hU (H9.out.2.2.2.2.cell 5 rfl) hnn, cell_updS hU (H9.out.2.2.2.2.cell 6 rfl) hnn⟩
     obtain ⟨gb, e, hgl, hc⟩ := H9.out.2.2.2.1 (fun e => by rw [e] at hk; simp at hk)
     have hno : ¬ la = some ⟨gb, 0, none⟩ := fun q => by have := HLW.out gb q; have := H8.out.2.2 gb e; omega
     exact ⟨gb, e, cell_updS hU (hc k hk 0 _ rfl) hno, cell_updS hU (hc k hk 1 _ rfl) hno⟩
    have HU9 : Hid (∀ U, Upd (fun k => la = some ⟨k, 0, none⟩) w9 U → Upd (fun k => la = some ⟨k, 0, none⟩) w5 U) := fun U hU => HI9.out.2.trans hU (fun _ _ h => h)
    have HSL : Hid (l.length = mn ∧ l.Pairwise (fun a b => a < b) ∧ (l.map V).sum = dtil - dfr ∧ (∀ s ∈ l, 0 < V s)) := ⟨HS8.out.1, HS8.out.2.2.1, HS8.out.2.2.2.2.1, HS8.out.2.2.2.2.2.1⟩
    have hmn1 : mn ≤ 1000 := HS8.out.2.1
    have HI9' : Hid (LefI fin n la w9 (lefV fin K dp ro R i 0 x) w9) := ⟨HI9.out.1, Upd.refl _ _⟩
    clear HI9 HIX HS8 H7 H8 H9 HL7 HNB HC HBW
    go_wp2
    go_loopw [18] (fun z wq => ∃ k : Nat, z = .int .i64 k ∧ k ≤ q ∧ Hid (LefI fin n la w9 (lefV fin K dp ro R i k x) wq)) (fun z _ => q - (intOf z).toNat)
    case atStart => exact ⟨0, rfl, by omega, HI9'⟩
    case round =>
     clear HI9'
     obtain ⟨k, rfl, hk, HK⟩ := hrel
     by_cases hlk : k < q
     ·have hkn : (k : Int) < (q : Int) := by omega
      have hkL : k < Ln.length := by rw [HQ.out]; exact hlk
      obtain ⟨gb, rfl, c0, c1, c2⟩ := HCG.out wr HK.out.2 k hkL
      have HCX : Hid (∀ U, Upd (fun k => la = some ⟨k, 0, none⟩) w9 U → U.cell? ⟨gb, k * 3, none⟩ = some (.int .u64 (fin Ln[k].1).id)) := fun U hU => by
       obtain ⟨g2, e, h2, _⟩ := HCG.out U hU k hkL
       injection e with e
       injection e with e _ _
       subst e
       exact h2
      obtain ⟨hy, h0, h1, h2⟩ := HLX.out _ (List.getElem_mem hkL)
      have HN := HNI.out k hkL
      have hle : lenI (Ln[k].2.1, Ln[k].2.2) = Ln[k].2.2 - Ln[k].2.1 := by unfold lenI; simp only; split <;> omega
      rw [hle] at HN
      clear hle
      have HNQ : Hid (∀ y, y < n → (Ln[k].1 = y → Ln[k].2.2 - Ln[k].2.1 ≤ lefV fin K dp ro R i k x y ∧ lefV fin K dp ro R i (k + 1) x y = lefV fin K dp ro R i k x y - (Ln[k].2.2 - Ln[k].2.1)) ∧ (Ln[k].1 ≠ y → lefV fin K dp ro R i (k + 1) x y = lefV fin K dp ro R i k x y)) := HN
      clear HN
      have HB1 : Hid (∀ y, y < n → 0 ≤ lefV fin K dp ro R i k x y ∧ lefV fin K dp ro R i k x y ≤ 4611686018427387904) := fun y hy => HBD.out i x k y hy
      have HIJ1 : Hid (∀ j, j < n → j ≠ Ln[k].1 → (fin j).id ≠ (fin Ln[k].1).id) := fun j hj hne e => hne (HIJ.out j _ hj hy e)
      generalize Ln[k].2.1 = ka at *
      generalize Ln[k].2.2 = kb at *
      generalize Ln[k].1 = y at *
      obtain ⟨G0, hG0⟩ : ∃ G, lefV fin K dp ro R i k x = G := ⟨_, rfl⟩
      obtain ⟨G1, hG1⟩ : ∃ G, lefV fin K dp ro R i (k + 1) x = G := ⟨_, rfl⟩
      have HG1 : Hid (lefV fin K dp ro R i (k + 1) x = G1) := hG1
      rw [hG0] at HK HNQ HB1
      rw [hG1] at HNQ
      clear hG0 hG1
      have w1 : IntKind.i64.wrap (kb - ka) = kb - ka := by simp [IntKind.wrap, IntKind.bits, IntKind.signed]; omega
      have w2 : IntKind.u64.wrap (kb - ka) = kb - ka := by rw [IntKind.wrap_u64]; omega
      have hpos : 0 < kb - ka := by omega
      have hpb : kb - ka ≤ 4611686018427387904 := by omega
      clear h0 h1 h2
      go_wp2
      go_quiet (fail)
      generalize kb - ka = dd at *
      have HKD := fun nq => (show Hid (LefI fin n la w9 (fun y' => if y' < 0 then G1 y' else G0 y') (wr.drewN nq)) from (HK.out.dr nq).congr (fun y' _ => by simp))
      clear c0 c1 c2 w1 w2 HK
      go_wp2
      go_loopw [20] (fun z wq => ∃ j : Nat, z = .int .i64 j ∧ j ≤ n ∧ Hid (LefI fin n la w9 (fun y' => if y' < j then G1 y' else G0 y') wq)) (fun z _ => n - (intOf z).toNat)
      case atStart => exact ⟨0, rfl, by omega, HKD _⟩
      case round =>
       clear HKD
       obtain ⟨j, rfl, hj, HJ⟩ := hrel
       by_cases hlj : j < n
       ·have hjn : (j : Int) < (n : Int) := by omega
        obtain ⟨lb, cs, rfl, hbk, hcs, hcell⟩ := HJ.out.1 (by omega)
        obtain ⟨d0, d3'⟩ := hcell j hlj
        have d3 : wr.cell? ⟨lb, j * 4 + 3, none⟩ = some (.int .u64 (G0 j)) := by simpa using d3'
        have fz : wr.frozen? ⟨lb, j * 4 + 3, none⟩ = false := by simp [World.frozen?, hbk]
        have e0 := HCX.out wr HJ.out.2
        clear hbk hcs hcell d3'
        by_cases hjy : j = y
        ·subst hjy
         obtain ⟨a1, a2⟩ := (HNQ.out j hlj).1 rfl
         obtain ⟨b1, b2⟩ := HB1.out j hlj
         have ws : IntKind.u64.wrap (G0 j - dd) = G0 j - dd := by rw [IntKind.wrap_u64]; omega
         have g1 : ¬ G0 j < dd := by omega
         have eq0 : ((fin j).id == (fin j).id) = true := by simp
         have HST : Hid (∀ W, Below wr.heap.size wr W → LefI fin n (some ⟨lb, 0, none⟩) w9 (fun y' => if y' < j + 1 then G1 y' else G0 y') (W.setCell ⟨lb, j * 4 + 3, none⟩ (.int .u64 (G0 j - dd)))) := fun W hW => by
          have h := (HJ.out.mono hW).set (H := fun y' => if y' < j + 1 then G1 y' else G0 y') hlj (fun y' h1 h2 => by
           by_cases q : y' < j
           ·simp [q, show y' < j + 1 by omega]
           ·simp [q, show ¬ y' < j + 1 by omega])
          simp only [Nat.lt_succ_self, if_true] at h
          rwa [a2] at h
         generalize G0 j = g0 at *
         clear a1 a2 b1 b2 HJ
         go_wp2
         go_quiet (fail)
         go_wp2
         go_roundw
         case rel => exact ⟨j + 1, by go_num, by omega, HST.out _ (below_dr (Below.refl _ _) _)⟩
         case measure => (simp [intOf]; omega)
        ·have eq0 : ((fin j).id == (fin y).id) = false := by simpa using HIJ1.out j hlj hjy
         have HNO := fun nq => (show Hid (LefI fin n (some ⟨lb, 0, none⟩) w9 (fun y' => if y' < j + 1 then G1 y' else G0 y') (wr.drewN nq)) from (HJ.out.dr nq).congr (fun y' h1 => by
          by_cases q : y' < j
          ·simp [q, show y' < j + 1 by omega]
          ·by_cases q2 : y' = j
           ·subst q2
            simp [(HNQ.out y' hlj).2 (Ne.symm hjy)]
           ·simp [q, show ¬ y' < j + 1 by omega]))
         clear HJ
         generalize (fin j).id = ij at *
         generalize (fin y).id = iy at *
         go_wp2
         go_quiet (fail)
         go_wp2
         go_roundw
         case rel => exact ⟨j + 1, by go_num, by omega, HNO _⟩
         case measure => (simp [intOf]; omega)
       ·obtain rfl : j = n := by omega
        have hjn : ¬ (j : Int) < (j : Int) := by omega
        have HJ2 : Hid (LefI fin j la w9 G1 wr) := HJ.out.congr (fun y' h => by simp [h])
        clear HJ
        go_wp2
        go_roundw
        case rel => exact ⟨k + 1, by go_num, by omega, by rw [HG1.out]; exact HJ2⟩
        case measure => (simp [intOf]; omega)
     ·obtain rfl : k = q := by omega
      have hkn : ¬ (k : Int) < (k : Int) := by omega
      have HKE : Hid (LefI fin n la w9 (lefV fin K dp ro R (i + 1) 0 0) wr) := HK.out.congr (fun y _ => HEN.out y)
      clear HK HCG HNI HEN
      generalize wr = wl at *
      have HCL : Hid (∀ U, Below wl.heap.size wl U → (∀ k (hk : k < l.length), ∃ sb9, na = some ⟨sb9, 0, none⟩ ∧ U.cell? ⟨sb9, k * 2, none⟩ = some (.string ⟨l[k].toArray⟩) ∧ U.cell? ⟨sb9, k * 2 + 1, none⟩ = some (.int .u64 (V l[k]))) ∧ U.cell? ⟨nb, 5, none⟩ = some (.int .i64 dfr) ∧ U.cell? ⟨nb, 5 + 1, none⟩ = some (.int .i64 dtil)) := fun U hU => HCN.out U (HKE.out.mono hU).2
      have HEI : Hid (∀ U, Below wl.heap.size wl U → LefI fin n la w5 (lefV fin K dp ro R (i + 1) 0 0) U) := fun U hU => ⟨(HKE.out.mono hU).1, HU9.out U (HKE.out.mono hU).2⟩
      clear HCN HKE HU9
      go_wp2
      go_loopw [21, 22] (fun z21 z22 wq => ∃ s : Nat, z21 = .int .u64 (pre9 V l s) ∧ z22 = .int .i64 s ∧ s ≤ mn ∧ Hid (Below wl.heap.size wl wq)) (fun _ z22 _ => mn - (intOf z22).toNat)
      case atStart => exact ⟨0, rfl, rfl, by omega, Below.refl _ _⟩
      case round =>
       obtain ⟨s, rfl, rfl, hs, HS⟩ := hrel
       by_cases hls : s < mn
       ·have hsn : (s : Int) < (mn : Int) := by omega
        have hsl : s < l.length := by rw [HSL.out.1]; exact hls
        obtain ⟨sb9, rfl, c0, c1⟩ := (HCL.out wr HS.out).1 s hsl
        have hvp := HSL.out.2.2.2 l[s] (List.getElem_mem hsl)
        have dn0 : (V l[s] == 0) = false := by simp; omega
        have wsum : IntKind.u64.wrap (pre9 V l s + V l[s]) = pre9 V l (s + 1) := by
         have h1 := pre9_bd HSL.out.2.2.2 (s + 1)
         have h2 := HSL.out.2.2.1
         have h3 := HLO.out
         rw [← pre9_next hsl, IntKind.wrap_u64]
         omega
        have e9 : ∃ p : ByteArray, ((0 : Int) < s → wr.cell? ⟨sb9, (s - 1) * 2, none⟩ = some (.string p) ∧ (∀ W, (binOp .leq 9 (.string ⟨l[s].toArray⟩) (.string p)).run Tryz.prog W = .ok (.bool false) W) ∧ IntKind.i64.wrap ((s : Int) - 1) = ((s - 1 : Nat) : Int) ∧ ((s - 1 : Nat) : Int) < (mn : Int)) := by
         by_cases h0 : 0 < s
         ·obtain ⟨t, rfl⟩ : ∃ t, s = t + 1 := ⟨s - 1, by omega⟩
          obtain ⟨g2, e, h2, _⟩ := (HCL.out wr HS.out).1 t (by omega)
          injection e with e
          injection e with e _ _
          subst e
          refine ⟨_, fun _ => ⟨h2, fun W => leq_strO _ _ _ (List.pairwise_iff_getElem.1 HSL.out.2.1 t (t + 1) (by omega) hsl (by omega)) W, ?_, by omega⟩⟩
          simp [IntKind.wrap, IntKind.bits, IntKind.signed]
          omega
         ·exact ⟨⟨#[]⟩, fun h => absurd h (by omega)⟩
        obtain ⟨p, hp⟩ := e9
        obtain ⟨p1, hp1⟩ : ∃ p, pre9 V l (s + 1) = p := ⟨_, rfl⟩
        have HP1 : Hid (pre9 V l (s + 1) = p1) := hp1
        rw [hp1] at wsum
        clear hp1
        generalize pre9 V l s = p0 at *
        generalize V l[s] = vs at *
        obtain ⟨sx, hsx⟩ : ∃ b : ByteArray, (⟨l[s].toArray⟩ : ByteArray) = b := ⟨_, rfl⟩
        rw [hsx] at c0 hp
        clear hsx
        by_cases hz : (0 : Int) < (s : Int)
        have hz2 : 0 < s := by omega
        have hz3 : decide (0 < s) = true := decide_eq_true hz2
        have hz4 : decide ((0 : Int) < (s : Int)) = true := decide_eq_true hz
        obtain ⟨q1, q2, q3, q4⟩ := hp hz
        rotate_left 1
        have hz2 : ¬ 0 < s := by omega
        have hz3 : decide (0 < s) = false := decide_eq_false hz2
        have hz4 : decide ((0 : Int) < (s : Int)) = false := decide_eq_false hz
        rotate_left 1
        all_goals clear hp
        all_goals go_wp2
        all_goals go_quiet (fail)
        all_goals go_wp2
        all_goals go_roundw
        all_goals (try (case rel => exact ⟨s + 1, by rw [HP1.out], by go_num, by omega, below_dr HS.out _⟩))
        all_goals (try (case measure => (simp [intOf]; omega)))
       ·obtain rfl : s = mn := by omega
        have hsn : ¬ (s : Int) < (s : Int) := by omega
        obtain ⟨_, m5, m6⟩ := HCL.out wr HS.out
        have hsum : pre9 V l s = dtil - dfr := by
         rw [← HSL.out.2.2.1]
         unfold pre9
         rw [List.take_of_length_le (by rw [HSL.out.1]; exact Nat.le_refl _)]
        rw [hsum]
        have HEF : Hid (LefI fin n la w5 (lefV fin K dp ro R (i + 1) 0 0) wr) := HEI.out wr HS.out
        obtain ⟨o1, o2, o3⟩ := HLO.out
        have w1 : IntKind.i64.wrap (dtil - dfr) = dtil - dfr := by simp [IntKind.wrap, IntKind.bits, IntKind.signed]; omega
        have w2 : IntKind.u64.wrap (dtil - dfr) = dtil - dfr := by rw [IntKind.wrap_u64]; omega
        clear hsum HCL HEI
        by_cases hft : dfr < dtil
        ·have nb1 : (dtil - dfr != dtil - dfr) = false := by simp
         have g2 : ¬ dtil ≤ dfr := by omega
         go_wp2
         go_roundw
         case rel => exact ⟨i + 1, by go_num, by omega, HEF⟩
         case measure => (simp [intOf]; omega)
        ·obtain rfl : dtil = dfr := by omega
         rw [Int.sub_self]
         clear w1 w2
         go_wp2
         go_roundw
         case rel => exact ⟨i + 1, by go_num, by omega, HEF⟩
         case measure => (simp [intOf]; omega)
   ·obtain rfl : i = rn := by omega
    have hin : ¬ (i : Int) < (i : Int) := by omega
    have HIZ : Hid (LefAt wr la n fin (fun _ => 0)) := HI.out.1.congr (fun y hy => HEQ.out y hy)
    have HEW : Hid (Below w.heap.size w wr) := HB2.out.trans ((H5.out.2.2.1.trans (HI.out.2.below H5.out.2.2.1.size (fun k hk e => by have := (HLA.out k e).1; omega))).mono HB2.out.size)
    clear HI HNX HBD HIJ HEQ HLN HFI HSV HLG HND HRT HLA H5
    generalize wr = wx at *
    go_wp2
    go_loopw [23] (fun z wr => ∃ j : Nat, z = .int .i64 j ∧ j ≤ n ∧ Hid (Below wx.heap.size wx wr)) (fun z _ => n - (intOf z).toNat)
    case atStart => exact ⟨0, rfl, by omega, Below.refl _ _⟩
    case round =>
     obtain ⟨j, rfl, hj, HW⟩ := hrel
     by_cases hlj : j < n
     ·have hjn : (j : Int) < (n : Int) := by omega
      obtain ⟨lb, cs, rfl, hbk, hcs, hcell⟩ := (HIZ.out.below HW.out) (by omega)
      obtain ⟨d0, d3⟩ := hcell j hlj
      clear hbk hcs hcell d0
      go_wp2
      go_roundw
      case rel => exact ⟨j + 1, by go_num, by omega, HW⟩
      case measure => (simp [intOf]; omega)
     ·obtain rfl : j = n := by omega
      have hjn : ¬ (j : Int) < (j : Int) := by omega
      have HE : Hid (Below w.heap.size w wr) := HEW.out.trans (HW.out.mono HEW.out.size)
      go_wp2
      go_ret
      exact ⟨rfl, HE.out⟩
 ·have BO : Hid (∀ W, Below w.heap.size w W → Calls Tryz.prog 7 #[.slice ad n0 cap] W fun e w' => e = .returned (.tuple #[.pointer none, .pointer none, .bool true]) ∧ Below W.heap.size W w') := fun W hb => both_no ad n0 cap XL P W (hX.below hb) hF hS (hT.below hb) h1
  clear hX hF hS hT h1
  go_enter Tryz.func3, Tryz.ntmps3
  go_wp2_with (first
   | (go_at_call 6; (with_reducible refine SH.mono ?_); clear SH; rintro e w1 ⟨rfl, b1⟩; have M1 := BO.out w1 b1; have HB1 : Hid (Below w.heap.size w w1) := b1; clear b1 BO)
   | (go_at_call 7; (with_reducible refine M1.mono ?_); clear M1; rintro e w2 ⟨rfl, b2⟩; have HB2 : Hid (Below w.heap.size w w2) := HB1.out.trans (b2.mono HB1.out.size); clear b2))
  go_ret
  exact ⟨rfl, HB2.out⟩
end Go.Proofs.YtnffedmcblbkoaaGreatDoor
