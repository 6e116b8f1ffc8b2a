/-
  Merged: FI, FV, FW, FP.
-/
import Derived.Test.YtnffedmcblbkoaaGreatDoorFHq
import Derived.Deep.RegionLaw
namespace Go.Proofs.YtnffedmcblbkoaaGreatDoor
open Go Go.RowKit
set_option maxRecDepth 100000
def cutIn (nm : List Int) (i : Int) : Nat → List Int → Int → List Int × Int
 | 0, fr, c => (fr, c)
 | k + 1, fr, c => if c = -1 then (fr, c) else if fr.getD c.toNat 0 ≠ -1 then (fr, c) else cutIn nm i k (fr.set c.toNat i) (nm.getD c.toNat 0)
def frAt (nm : List Int) (n : Nat) : Nat → List Int
 | 0 => List.replicate n (-1)
 | i + 1 => (cutIn nm i (n + 1) (frAt nm n i) i).1
def cutEnd (nm : List Int) (n i : Nat) : Int := (cutIn nm i (n + 1) (frAt nm n i) i).2
def NoRing (nm : List Int) (n : Nat) : Prop := ∀ i, i < n → cutEnd nm n i = -1 ∨ (frAt nm n (i + 1)).getD (cutEnd nm n i).toNat 0 ≠ i
theorem intB_inj {L M : List Int} (h : intB L = intB M) : L = M := by
 unfold intB at h
 have h1 : L.map (Value.int .i64) = M.map (Value.int .i64) := by simpa using h
 exact (List.map_inj_right (fun a b e => by injection e)).1 h1
theorem cnt_exists (r : Nat) : ∃ cnt : World → Nat, ∀ w fr, Blk w r (intB fr) 3 → cnt w = fr.count (-1) := by
 refine ⟨fun w => Classical.epsilon (fun m => ∃ fr : List Int, Blk w r (intB fr) 3 ∧ m = fr.count (-1)), fun w fr h => ?_⟩
 obtain ⟨fr', h1, h2⟩ := Classical.epsilon_spec (p := fun m => ∃ fr : List Int, Blk w r (intB fr) 3 ∧ m = fr.count (-1)) ⟨_, fr, h, rfl⟩
 refine h2.trans ?_
 have e : intB fr' = intB fr := by
  unfold Blk at h h1
  rw [h] at h1
  injection h1 with e
  injection e with e1
  exact e1.symm
 rw [intB_inj e]
theorem count_set (fr : List Int) (k : Nat) (hk : k < fr.length) (h : fr[k] = -1) (v : Int) (hv : v ≠ -1) : (fr.set k v).count (-1) + 1 = fr.count (-1) := by
 have hs : fr = fr.take k ++ fr[k] :: fr.drop (k + 1) := by simp
 have hy : fr.set k v = fr.take k ++ v :: fr.drop (k + 1) := List.set_eq_take_append_cons_drop.trans (by simp [hk])
 rw [hy]
 conv => rhs; rw [hs]
 rw [List.count_append, List.count_append, List.count_cons, List.count_cons, h]
 simp [hv]
 omega
structure Way (nm : List Int) (n i : Nat) (fr : List Int) (c : Int) : Prop where
 len : fr.length = n
 lo : -1 ≤ c
 hi : c < n
 is : ∃ k, fr.count (-1) < k ∧ cutIn nm i k fr c = cutIn nm i (n + 1) (frAt nm n i) i
theorem Way.start {nm : List Int} {n i : Nat} (hi : i < n) (hl : (frAt nm n i).length = n) : Way nm n i (frAt nm n i) i :=
 ⟨hl, by omega, by omega, n + 1, by have := List.count_le_length (a := (-1 : Int)) (l := frAt nm n i); omega, rfl⟩
theorem Way.step {nm : List Int} {n i : Nat} {fr : List Int} {c : Nat} (h : Way nm n i fr c) (hc : c < fr.length) (hf : fr[c] = -1) (hnm : nm.length = n) (hr : ∀ x ∈ nm, -1 ≤ x ∧ x < n) : Way nm n i (fr.set c i) (nm[c]'(by have := h.hi; omega)) := by
 obtain ⟨k, h1, h2⟩ := h.is
 have hcn : c < nm.length := by have := h.hi; omega
 have hm := hr _ (List.getElem_mem hcn)
 have hcs := count_set fr c hc hf i (by omega)
 refine ⟨by simp [h.len], hm.1, hm.2, k - 1, by omega, ?_⟩
 rw [← h2]
 obtain ⟨j, rfl⟩ : ∃ j, k = j + 1 := ⟨k - 1, by omega⟩
 rw [cutIn]
 have a1 : ¬ ((c : Int) = -1) := by omega
 have a2 : fr.getD (c : Int).toNat 0 = -1 := by simp [hc, hf]
 have a3 : nm.getD (c : Int).toNat 0 = nm[c] := by simp [hcn]
 rw [if_neg a1, if_neg (by rw [a2]; simp), a3]
 simp
theorem Way.done1 {nm : List Int} {n i : Nat} {fr : List Int} (h : Way nm n i fr (-1)) : frAt nm n (i + 1) = fr ∧ cutEnd nm n i = -1 := by
 obtain ⟨k, h1, h2⟩ := h.is
 obtain ⟨j, rfl⟩ : ∃ j, k = j + 1 := ⟨k - 1, by omega⟩
 rw [cutIn, if_pos rfl] at h2
 unfold cutEnd
 rw [frAt, ← h2]
 exact ⟨rfl, rfl⟩
theorem Way.done2 {nm : List Int} {n i c : Nat} {fr : List Int} (h : Way nm n i fr c) (hc : c < fr.length) (hf : fr[c] ≠ -1) : frAt nm n (i + 1) = fr ∧ cutEnd nm n i = c := by
 obtain ⟨k, h1, h2⟩ := h.is
 obtain ⟨j, rfl⟩ : ∃ j, k = j + 1 := ⟨k - 1, by omega⟩
 have a1 : ¬ ((c : Int) = -1) := by omega
 have a2 : fr.getD (c : Int).toNat 0 ≠ -1 := by simp [hc, hf]
 rw [cutIn, if_neg a1, if_pos a2] at h2
 unfold cutEnd
 rw [frAt, ← h2]
 exact ⟨rfl, rfl⟩
set_option maxHeartbeats 4000000 in
theorem cuts_none (a n cap : Nat) (nm : List Int) (w : World) (hB : Blk w a (intB nm) 3) (hn : nm.length = n) (hl : n ≤ 1000) (hr : ∀ x ∈ nm, -1 ≤ x ∧ x < n) (hno : NoRing nm n) :
  Calls Tryz.prog 87 #[.slice (some ⟨a, 0, none⟩) n cap] w fun e w' => e = .returned (.slice none 0 0) ∧ Below w.heap.size w w' := by
 have HB : Hid (Blk w a (intB nm) 3) := hB
 have HN : Hid (nm.length = n) := hn
 have HR : Hid (∀ x ∈ nm, -1 ≤ x ∧ x < n) := hr
 have HNO : Hid (NoRing nm n) := hno
 have hlt_a : Hid (a < w.heap.size) := hB.lt
 clear hB hn hr hno
 go_enter Tryz.func87, Tryz.ntmps87
 go_wp2_with (at_make; refine wpList_mk rfl _ _ 90 rfl 3 (.int .i64 0) 1 8 Tryz.underlying90 infoI n rfl rfl (by omega) (by unfold maxLen; omega) ?_; intro w1 b1 hb1)
 rw [intB_made] at b1
 have B0 : Hid (Blk w1 w.heap.size (intB (List.replicate n 0)) 3) := b1
 have HB1 : Hid (Below w.heap.size w w1) := hb1
 obtain ⟨r, hrr⟩ : ∃ r, w.heap.size = r := ⟨_, rfl⟩
 have HRR : Hid (w.heap.size = r) := hrr
 rw [hrr] at B0 ⊢
 clear b1 hb1 hrr
 obtain ⟨cnt, hcnt⟩ := cnt_exists r
 have HC : Hid (∀ w fr, Blk w r (intB fr) 3 → cnt w = fr.count (-1)) := hcnt
 clear hcnt
 go_loopw [13] (fun x wr => ∃ k : Nat, x = .int .i64 k ∧ k ≤ n ∧ Blk wr r (intB ((List.replicate n (-1)).take k ++ List.replicate (n - k) 0)) 3 ∧ Below w.heap.size w wr) (fun x _ => n - (intOf x).toNat)
 case atStart => exact ⟨0, rfl, by omega, by simpa using B0.out, HB1.out⟩
 case round =>
  obtain ⟨k, rfl, hkn, hblk, hb⟩ := hrel
  have HBB : Hid (Below w.heap.size w wr) := hb
  have HBK : Hid (Blk wr r (intB ((List.replicate n (-1)).take k ++ List.replicate (n - k) 0)) 3) := hblk
  clear hb hblk
  by_cases hlt : k < n
  ·have hlen := (fill_at (List.replicate n (-1)) n k (by simp) hlt 0)
   have d1 : wr.cell? ⟨r, k, none⟩ = some (.int .i64 0) := Blk.cell HBK.out k (by rw [intB_get _ _ hlen.1]; obtain ⟨_, h2⟩ := hlen; rw [h2])
   have d2 : wr.frozen? ⟨r, k, none⟩ = false := Blk.frozen HBK.out k
   clear hlen
   go_wp2
   go_roundw
   case rel =>
    refine ⟨k + 1, by simp, by omega, ?_, Below.setCell HBB.out (by have := HRR.out; simp; omega) _⟩
    have h5 := Blk.set HBK.out k (.int .i64 (-1))
    rw [intB_set] at h5
    rw [← fill_step (List.replicate n (-1)) n k (by simp) hlt 0]
    simpa using h5
   case measure => simp [intOf]; omega
  ·obtain rfl : k = n := by omega
   have F0 : Hid (Blk wr r (intB (frAt nm k 0)) 3) := by
    have := HBK.out
    rw [List.take_of_length_le (by simp), Nat.sub_self, List.replicate_zero, List.append_nil] at this
    exact this
   clear HBK
   go_wp2
   go_loopw [22, 3] (fun x l wq => ∃ i : Nat, x = .int .i64 i ∧ l = .slice none 0 0 ∧ i ≤ k ∧ (frAt nm k i).length = k ∧ Blk wq r (intB (frAt nm k i)) 3 ∧ Below w.heap.size w wq) (fun x _ _ => k - (intOf x).toNat)
   case atStart => exact ⟨0, rfl, rfl, by omega, by simp [frAt], F0.out, HBB.out⟩
   case round =>
    obtain ⟨i, rfl, rfl, hik, hfl, hblk, hb⟩ := hrel
    have HB2 : Hid (Below w.heap.size w wr) := hb
    have HK2 : Hid (Blk wr r (intB (frAt nm k i)) 3) := hblk
    have HFL : Hid ((frAt nm k i).length = k) := hfl
    clear hb hblk hfl
    by_cases hik2 : i < k
    ·go_wp2
     go_loopw [7] (fun c wz => ∃ (ci : Int) (fr : List Int), c = .int .i64 ci ∧ Way nm k i fr ci ∧ Blk wz r (intB fr) 3 ∧ Below w.heap.size w wz) (fun _ wz => cnt wz)
     case atStart => exact ⟨i, frAt nm k i, rfl, Way.start hik2 HFL.out, HK2.out, HB2.out⟩
     case round =>
      obtain ⟨ci, fr, rfl, hway, hblk, hb⟩ := hrel
      have HB3 : Hid (Below w.heap.size w wr) := hb
      have HK3 : Hid (Blk wr r (intB fr) 3) := hblk
      have HW : Hid (Way nm k i fr ci) := hway
      clear hb hblk hway
      by_cases hc : ci = -1
      ·subst hc
       go_wp2
       go_roundw
       case rel =>
        have hd := HW.out.done1
        exact ⟨i + 1, by simp, rfl, by omega, by rw [hd.1]; exact HW.out.len, by rw [hd.1]; exact HK3.out, HB3.out⟩
       case measure => simp [intOf]; omega
      ·have hlo := HW.out.lo
       obtain ⟨c, rfl⟩ : ∃ c : Nat, ci = (c : Int) := ⟨ci.toNat, by omega⟩
       have hck : c < k := by have := HW.out.hi; omega
       have hcf : c < fr.length := by rw [HW.out.len]; exact hck
       have hcn : c < nm.length := by rw [HN.out]; exact hck
       have g1 : wr.cell? ⟨r, c, none⟩ = some (.int .i64 fr[c]) := Blk.cell HK3.out c (intB_get fr c hcf)
       have g2 : wr.frozen? ⟨r, c, none⟩ = false := Blk.frozen HK3.out c
       have gn : wr.cell? ⟨a, c, none⟩ = some (.int .i64 nm[c]) := Blk.cell (Blk.below HB.out HB3.out (Blk.lt HB.out)) c (intB_get nm c hcn)
       have e1 : ((c : Int) != -1) = true := by simp <;> omega
       by_cases hfc : fr[c] = -1
       ·have HS : Hid (Way nm k i (fr.set c i) nm[c]) := Way.step HW.out hcf hfc HN.out HR.out
        have HM : Hid (cnt (wr.setCell ⟨r, c, none⟩ (.int .i64 i)) < cnt wr) := by
         have h5 := Blk.set HK3.out c (.int .i64 (i : Int))
         rw [intB_set] at h5
         have h6 := HC.out _ _ h5
         have h7 := HC.out _ _ HK3.out
         have h8 := count_set fr c hcf hfc i (by omega)
         show cnt _ < cnt _
         omega
        have hra : r ≠ a := by have := HRR.out; have := hlt_a.out; omega
        have gn2 : (wr.setCell ⟨r, c, none⟩ (.int .i64 i)).cell? ⟨a, c, none⟩ = some (.int .i64 nm[c]) := by
         have hB5 := Blk.other (Blk.below HB.out HB3.out (Blk.lt HB.out)) ⟨r, c, none⟩ (.int .i64 i) (fun e => hra e.symm)
         exact Blk.cell hB5 c (intB_get nm c hcn)
        rw [hfc] at g1
        generalize nm[c] = m at HS gn gn2
        clear gn
        go_wp2
        go_roundw
        case rel =>
         refine ⟨m, fr.set c i, rfl, HS.out, ?_, Below.setCell HB3.out (by have := HRR.out; simp; omega) _⟩
         have h5 := Blk.set HK3.out c (.int .i64 (i : Int))
         rw [intB_set] at h5
         exact h5
        case measure => exact HM.out
       ·have hd := Way.done2 HW.out hcf hfc
        have hne : fr[c] ≠ i := by
         have h1 := HNO.out i hik2
         rw [hd.1, hd.2] at h1
         rcases h1 with h1 | h1
         ·omega
         ·simpa [hcf] using h1
        have HD : Hid (frAt nm k (i + 1) = fr) := hd.1
        have HL : Hid (fr.length = k) := HW.out.len
        generalize fr[c] = m at g1 hfc hne
        clear gn hd
        go_wp2
        go_roundw
        case rel => exact ⟨i + 1, by simp, rfl, by omega, by rw [HD.out]; exact HL.out, by rw [HD.out]; exact HK3.out, HB3.out⟩
        case measure => simp [intOf]; omega
    ·obtain rfl : i = k := by omega
     go_wp2
     go_ret
     exact ⟨rfl, HB2.out⟩
structure PlAt (base : Nat) (w : World) (f sb : Nat) (X : List Spot) (K : Nat → List Int) (rv : Value) (R : List Int) : Prop where
 head : Blk w f #[.slice (some ⟨sb, 0, none⟩) X.length X.length, rv] 92
 row : Blk w sb (rowS X) 104
 fb : f < base
 sbb : sb < base
 ne : f ≠ sb
 le : base ≤ w.heap.size
 roots : w.ownsRow base 3 1 rv R.length (R.map (Value.int .i64))
 kids : ∀ i (h : i < X.length), w.ownsRow base 3 1 X[i].kv (K i).length ((K i).map (Value.int .i64))
 apart : ∀ i j (hi : i < X.length) (hj : j < X.length), i ≠ j → ∀ g, X[i].kv.ownBlock = some g → X[j].kv.ownBlock ≠ some g
 apartR : ∀ i (hi : i < X.length) g, rv.ownBlock = some g → X[i].kv.ownBlock ≠ some g
theorem owns_lt {w : World} {base n k : Nat} {e : TypeId} {v : Value} {xs : List Value} (h : w.ownsRow base e k v n xs) {g : Nat} (hg : v.ownBlock = some g) : base ≤ g ∧ g < w.heap.size := by
 rcases h.2 with ⟨rfl, _⟩ | ⟨g2, cap, cur, rfl, hb, hh, _⟩
 ·simp [Value.ownBlock] at hg
 ·simp [Value.ownBlock] at hg
  subst hg
  exact ⟨hb, lt_of_block hh⟩
theorem owns_slice {w : World} {base n : Nat} {e : TypeId} {v : Value} {xs : List Value} (h : w.ownsRow base e 1 v n xs) : ∃ ad cap, v = .slice ad n cap := by
 rcases h.2 with ⟨rfl, rfl⟩ | ⟨g2, cap, cur, rfl, _⟩
 ·exact ⟨none, 0, rfl⟩
 ·exact ⟨_, cap, rfl⟩
theorem PlAt.upd {S : Nat → Prop} {base : Nat} {w w' : World} {f sb : Nat} {X : List Spot} {K : Nat → List Int} {rv : Value} {R : List Int} (h : PlAt base w f sb X K rv R) (hu : Upd S w w') (h1 : ¬ S f) (h2 : ¬ S sb) (h3 : ∀ g, rv.ownBlock = some g → ¬ S g) (h4 : ∀ i (hi : i < X.length) g, X[i].kv.ownBlock = some g → ¬ S g) : PlAt base w' f sb X K rv R :=
 ⟨h.head.upd hu h1, h.row.upd hu h2, h.fb, h.sbb, h.ne, Nat.le_trans h.le hu.size, ownsRow_upd h.roots hu h3, fun i hi => ownsRow_upd (h.kids i hi) hu (h4 i hi), h.apart, h.apartR⟩
theorem PlAt.below {base : Nat} {w w' : World} {f sb : Nat} {X : List Spot} {K : Nat → List Int} {rv : Value} {R : List Int} (h : PlAt base w f sb X K rv R) (hb : Below w.heap.size w w') : PlAt base w' f sb X K rv R :=
 h.upd (S := fun _ => False) (Upd.ofBelow hb (fun k h1 h2 => by omega)) (fun h => h) (fun h => h) (fun _ _ h => h) (fun _ _ _ _ h => h)
theorem PlAt.spot {base : Nat} {w w' : World} {f sb : Nat} {X : List Spot} {K : Nat → List Int} {rv : Value} {R : List Int} (h : PlAt base w f sb X K rv R) {i : Nat} (hi : i < X.length) (y : Spot) (hy : y.kv = X[i].kv) (hB : Blk w' sb (rowS (X.set i y)) 104) (hu : Upd (fun k => k = sb) w w') : PlAt base w' f sb (X.set i y) K rv R := by
 have hk : ∀ j (hj : j < (X.set i y).length), (X.set i y)[j].kv = (X[j]'(by simpa using hj)).kv := fun j hj => by
  by_cases e : i = j
  ·subst e; simp [hy]
  ·rw [List.getElem_set_ne e]
 refine ⟨?_, hB, h.fb, h.sbb, h.ne, Nat.le_trans h.le hu.size, ?_, ?_, ?_, ?_⟩
 ·rw [List.length_set]; exact h.head.upd hu h.ne
 ·exact ownsRow_upd h.roots hu (fun k e hh => by have := (owns_lt h.roots e).1; have := h.sbb; omega)
 ·intro j hj
  rw [hk j hj]
  exact ownsRow_upd (h.kids j (by simpa using hj)) hu (fun k e hh => by have := (owns_lt (h.kids j (by simpa using hj)) e).1; have := h.sbb; omega)
 ·intro a b ha hb hne g hg
  rw [hk a ha] at hg
  rw [hk b hb]
  exact h.apart a b (by simpa using ha) (by simpa using hb) hne g hg
 ·intro a ha g hg
  rw [hk a ha]
  exact h.apartR a (by simpa using ha) g hg
theorem PlAt.others {base : Nat} {w w2 w3 : World} {f sb : Nat} {X : List Spot} {K : Nat → List Int} {rv : Value} {R : List Int} (_h : PlAt base w f sb X K rv R) (hb : Below w.heap.size w w2) (v : Value) (_hv : ∀ g, v.ownBlock = some g → base ≤ g) (hg : w2.grownBy w3 v.ownBlock) : Upd (fun k => v.ownBlock = some k) w w3 := by
 refine (Upd.ofBelow (S := fun k => v.ownBlock = some k) hb (fun k h1 h2 => by omega)).grown hg (fun k _ e => e)
theorem PlAt.addRoot {base : Nat} {w w2 w3 : World} {f sb : Nat} {X : List Spot} {K : Nat → List Int} {rv v' : Value} {R : List Int} (h : PlAt base w f sb X K rv R) (hb : Below w.heap.size w w2) (hg : w2.grownBy w3 rv.ownBlock) (hm : Moved w2 rv v') (x : Int) (ho : w3.ownsRow base 3 1 v' (R.length + 1) (R.map (Value.int .i64) ++ [.int .i64 x])) :
  PlAt base (w3.setCell ⟨f, 1, none⟩ v') f sb X K v' (R ++ [x]) ∧ Upd (fun k => k = f ∨ base ≤ k) w (w3.setCell ⟨f, 1, none⟩ v') := by
 have hu : Upd (fun k => rv.ownBlock = some k) w w3 := h.others hb rv (fun g e => (owns_lt h.roots e).1) hg
 have hf : rv.ownBlock ≠ some f := fun e => by have := (owns_lt h.roots e).1; have := h.fb; omega
 have hs : rv.ownBlock ≠ some sb := fun e => by have := (owns_lt h.roots e).1; have := h.sbb; omega
 have hB1 := h.head.upd hu hf
 have hB2 := hB1.set 1 v'
 have huf : Upd (fun k => k = f) w3 (w3.setCell ⟨f, 1, none⟩ v') := Upd.setCell (S := fun k => k = f) (p := ⟨f, 1, none⟩) (Upd.refl _ _) (fun _ => rfl) v'
 have hlt : ∀ i (hi : i < X.length) g, X[i].kv.ownBlock = some g → v'.ownBlock ≠ some g := fun i hi g e e' => by
  have hl := owns_lt (h.kids i hi) e
  rcases hm with hm | ⟨k, hk, hw⟩
  ·rw [hm] at e'
   exact h.apartR i hi g e' e
  ·rw [hk] at e'
   have := hb.size
   simp at e'
   omega
 refine ⟨⟨by simpa using hB2, ?_, h.fb, h.sbb, h.ne, ?_, ?_, ?_, h.apart, fun i hi g e e' => hlt i hi g e' e⟩, ?_⟩
 ·exact (h.row.upd hu hs).upd huf (fun e => h.ne e.symm)
 ·exact Nat.le_trans (Nat.le_trans h.le hu.size) huf.size
 ·have := ownsRow_upd ho huf (fun k e hh => by have := (owns_lt ho e).1; have := h.fb; omega)
  simpa using this
 ·intro i hi
  have a := ownsRow_upd (h.kids i hi) hu (fun k e hh => h.apartR i hi k hh e)
  exact ownsRow_upd a huf (fun k e hh => by have := (owns_lt (h.kids i hi) e).1; have := h.fb; omega)
 ·exact (hu.mono (fun k _ e => Or.inr (owns_lt h.roots e).1)).trans huf (fun k _ e => Or.inl e)
theorem PlAt.addKid {base : Nat} {w w2 w3 : World} {f sb : Nat} {X : List Spot} {K : Nat → List Int} {rv v' : Value} {R : List Int} (h : PlAt base w f sb X K rv R) {j : Nat} (hj : j < X.length) (hb : Below w.heap.size w w2) (hg : w2.grownBy w3 X[j].kv.ownBlock) (hm : Moved w2 X[j].kv v') (x : Int) (ho : w3.ownsRow base 3 1 v' ((K j).length + 1) ((K j).map (Value.int .i64) ++ [.int .i64 x])) :
  ∃ y : Spot, y.a = X[j].a ∧ y.p = X[j].p ∧ y.nd = X[j].nd ∧ PlAt base (w3.setCell ⟨sb, j * 21 + 20, none⟩ v') f sb (X.set j y) (fun i => if i = j then K j ++ [x] else K i) rv R ∧ Upd (fun k => k = sb ∨ base ≤ k) w (w3.setCell ⟨sb, j * 21 + 20, none⟩ v') := by
 have hu : Upd (fun k => X[j].kv.ownBlock = some k) w w3 := h.others hb X[j].kv (fun g e => (owns_lt (h.kids j hj) e).1) hg
 have hf : X[j].kv.ownBlock ≠ some f := fun e => by have := (owns_lt (h.kids j hj) e).1; have := h.fb; omega
 have hs : X[j].kv.ownBlock ≠ some sb := fun e => by have := (owns_lt (h.kids j hj) e).1; have := h.sbb; omega
 obtain ⟨ad, cap, rfl⟩ := owns_slice ho
 have hB2 := (h.row.upd hu hs).setS j hj 20 (by omega) (.slice ad ((K j).length + 1) cap) { X[j] with ka := ad, kn := (K j).length + 1, kc := cap } rfl
 have huf : Upd (fun k => k = sb) w3 (w3.setCell ⟨sb, j * 21 + 20, none⟩ (.slice ad ((K j).length + 1) cap)) := Upd.setCell (S := fun k => k = sb) (p := ⟨sb, _, none⟩) (Upd.refl _ _) (fun _ => rfl) _
 have hlt : ∀ i (hi : i < X.length), i ≠ j → ∀ g, X[i].kv.ownBlock = some g → (Value.slice ad ((K j).length + 1) cap).ownBlock ≠ some g := fun i hi hij g e e' => by
  have hl := owns_lt (h.kids i hi) e
  rcases hm with hm | ⟨k, hk, hw⟩
  ·rw [hm] at e'
   exact h.apart j i hj hi (fun e => hij e.symm) g e' e
  ·rw [hk] at e'
   have := hb.size
   simp at e'
   omega
 have hltR : ∀ g, rv.ownBlock = some g → (Value.slice ad ((K j).length + 1) cap).ownBlock ≠ some g := fun g e e' => by
  have hl := owns_lt h.roots e
  rcases hm with hm | ⟨k, hk, hw⟩
  ·rw [hm] at e'
   exact h.apartR j hj g e e'
  ·rw [hk] at e'
   have := hb.size
   simp at e'
   omega
 refine ⟨{ X[j] with ka := ad, kn := (K j).length + 1, kc := cap }, rfl, rfl, rfl, ⟨?_, hB2, h.fb, h.sbb, h.ne, ?_, ?_, ?_, ?_, ?_⟩, ?_⟩
 ·rw [List.length_set]; exact (h.head.upd hu hf).upd huf h.ne
 ·exact Nat.le_trans (Nat.le_trans h.le hu.size) huf.size
 ·have a := ownsRow_upd h.roots hu (fun k e hh => h.apartR j hj k e hh)
  exact ownsRow_upd a huf (fun k e hh => by have := (owns_lt h.roots e).1; have := h.sbb; omega)
 ·intro i hi
  have hi' : i < X.length := by simpa using hi
  by_cases e : i = j
  ·subst e
   simp only [List.getElem_set_self, if_true]
   have := ownsRow_upd ho huf (fun k e hh => by have := (owns_lt ho e).1; have := h.sbb; omega)
   simpa [Spot.kv] using this
  ·rw [List.getElem_set_ne (fun e' => e e'.symm)]
   simp only [e, if_false]
   have a := ownsRow_upd (h.kids i hi') hu (fun k e1 hh => h.apart j i hj hi' (fun e' => e e'.symm) k hh e1)
   exact ownsRow_upd a huf (fun k e hh => by have := (owns_lt (h.kids i hi') e).1; have := h.sbb; omega)
 ·intro a b ha hb' hne g hg
  have ha' : a < X.length := by simpa using ha
  have hb'' : b < X.length := by simpa using hb'
  by_cases e : a = j
  ·subst e
   simp only [List.getElem_set_self] at hg
   rw [List.getElem_set_ne hne]
   exact fun e' => hlt b hb'' (fun e => hne e.symm) g e' hg
  ·rw [List.getElem_set_ne (fun e' => e e'.symm)] at hg
   by_cases e2 : b = j
   ·subst e2
    simp only [List.getElem_set_self]
    exact hlt a ha' e g hg
   ·rw [List.getElem_set_ne (fun e' => e2 e'.symm)]
    exact h.apart a b ha' hb'' hne g hg
 ·intro a ha g hgr
  have ha' : a < X.length := by simpa using ha
  by_cases e : a = j
  ·subst e
   simp only [List.getElem_set_self]
   exact hltR g hgr
  ·rw [List.getElem_set_ne (fun e' => e e'.symm)]
   exact h.apartR a ha' g hgr
 ·exact (hu.mono (fun k _ e => Or.inr (owns_lt (h.kids j hj) e).1)).trans huf (fun k _ e => Or.inl e)
def kidsF (nm : List Int) (k : Nat) (j : Int) : List Int := ((List.range k).filter (fun i => nm.getD i (-1) == j)).map (fun i : Nat => (i : Int))
theorem kidsF_succ (nm : List Int) (k : Nat) (j : Int) (hk : k < nm.length) : kidsF nm (k + 1) j = if nm[k] = j then kidsF nm k j ++ [(k : Int)] else kidsF nm k j := by
 unfold kidsF
 rw [List.range_succ, List.filter_append, List.map_append]
 by_cases h : nm[k] = j <;> simp [hk, h]
theorem kidsF_len (nm : List Int) (k : Nat) (j : Int) : (kidsF nm k j).length ≤ k := by
 unfold kidsF
 rw [List.length_map]
 exact Nat.le_trans (List.length_filter_le _ _) (by simp)
theorem kidsF_mem {nm : List Int} {k : Nat} {j x : Int} (h : x ∈ kidsF nm k j) : 0 ≤ x ∧ x < k := by
 unfold kidsF at h
 simp only [List.mem_map, List.mem_filter, List.mem_range] at h
 obtain ⟨i, ⟨h1, _⟩, rfl⟩ := h
 omega
structure PlF (X0 X : List Spot) (nm : List Int) (k : Nat) : Prop where
 len : X.length = X0.length
 same : ∀ i (h : i < X0.length), (X[i]'(by omega)).a = X0[i].a ∧ (X[i]'(by omega)).p = X0[i].p
 nd : ∀ i (h : i < X0.length), (X[i]'(by omega)).nd = if i < k ∧ nm.getD i (-1) = -1 then rootN X0[i] else X0[i].nd
theorem PlF.root {X0 X : List Spot} {nm : List Int} {k : Nat} (h : PlF X0 X nm k) (hk : k < X.length) (hn : nm.getD k (-1) = -1) : PlF X0 (X.set k (rootS X[k])) nm (k + 1) := by
 have hl := h.len
 refine ⟨by simp [hl], fun i hi => ?_, fun i hi => ?_⟩
 ·by_cases e : k = i
  ·subst e; simp only [List.getElem_set_self]; exact h.same k (by omega)
  ·simp only [List.getElem_set_ne e]; exact h.same i hi
 ·by_cases e : k = i
  ·subst e
   simp only [List.getElem_set_self]
   rw [if_pos ⟨by omega, hn⟩]
   have h1 := h.same k (by omega)
   have h2 := h.nd k (by omega)
   rw [if_neg (by omega)] at h2
   show rootN X[k] = rootN X0[k]
   unfold rootN
   rw [h1.1, h2]
  ·simp only [List.getElem_set_ne e]
   rw [h.nd i hi]
   by_cases h3 : nm.getD i (-1) = -1
   ·by_cases h4 : i < k
    ·rw [if_pos ⟨h4, h3⟩, if_pos ⟨by omega, h3⟩]
    ·rw [if_neg (fun hh => h4 hh.1), if_neg (fun hh => by omega)]
   ·rw [if_neg (fun hh => h3 hh.2), if_neg (fun hh => h3 hh.2)]
theorem PlF.kid {X0 X : List Spot} {nm : List Int} {k j : Nat} (h : PlF X0 X nm k) (hk : k < X.length) (hn : nm.getD k (-1) ≠ -1) (hj : j < X.length) (y : Spot) (h1 : y.a = X[j].a) (h2 : y.p = X[j].p) (h3 : y.nd = X[j].nd) : PlF X0 (X.set j y) nm (k + 1) := by
 have hl := h.len
 have hg : ∀ i (hi : i < X0.length), ((X.set j y)[i]'(by simp; omega)).a = (X[i]'(by omega)).a ∧ ((X.set j y)[i]'(by simp; omega)).p = (X[i]'(by omega)).p ∧ ((X.set j y)[i]'(by simp; omega)).nd = (X[i]'(by omega)).nd := fun i hi => by
  by_cases e : j = i
  ·subst e; simp only [List.getElem_set_self]; exact ⟨h1, h2, h3⟩
  ·simp only [List.getElem_set_ne e]; exact ⟨trivial, trivial, trivial⟩
 refine ⟨by simp [hl], fun i hi => ?_, fun i hi => ?_⟩
 ·rw [(hg i hi).1, (hg i hi).2.1]; exact h.same i hi
 ·rw [(hg i hi).2.2, h.nd i hi]
  by_cases h4 : i < k
  ·by_cases h5 : nm.getD i (-1) = -1
   ·rw [if_pos ⟨h4, h5⟩, if_pos ⟨by omega, h5⟩]
   ·rw [if_neg (fun hh => h5 hh.2), if_neg (fun hh => h5 hh.2)]
  ·rw [if_neg (fun hh => h4 hh.1), if_neg (fun hh => by
    have e : i = k := by omega
    subst e
    exact hn hh.2)]
def Planted (w : World) (f sb : Nat) (X0 : List Spot) (nm : List Int) (w' : World) : Prop := ∃ base X rv, w.heap.size ≤ base ∧ PlAt base w' f sb X (fun i => kidsF nm X0.length i) rv (kidsF nm X0.length (-1)) ∧ PlF X0 X nm X0.length ∧ Upd (fun k => k = f ∨ k = sb) w w'
structure PlR (w wr : World) (base f sb : Nat) (X0 : List Spot) (nm : List Int) (k : Nat) (X : List Spot) (rv : Value) : Prop where
 at_ : PlAt base wr f sb X (fun i => kidsF nm k i) rv (kidsF nm k (-1))
 fl : PlF X0 X nm k
 upd : Upd (fun j => j = f ∨ j = sb ∨ base ≤ j) w wr
theorem infoI_parts : ∃ i, Tryz.prog.info? 3 = some i ∧ i.zero = some (.int .i64 0) ∧ i.size = 1 ∧ i.bytes = 8 := by
 have h := infoI
 cases hi : Tryz.prog.info? 3 with
 | none => rw [hi] at h; simp at h
 | some i => rw [hi] at h; simp at h; exact ⟨i, rfl, h.1, h.2.1, h.2.2⟩
theorem src_one {P : Program} {tx e : TypeId} (hu : P.underlying tx = some (.slice e)) (w : World) (x : Value) (t : TypeId) (h1 : x.oneCell' = true) : Src P 1 tx (.slice (some ⟨w.heap.size, 0, none⟩) 1 1) 1 [x] (w.alloc (.cells #[x] t)) := by
 refine Src.ofSlice _ hu ⟨w.heap.size, 0, none⟩ 1 1 _ rfl ?_ ?_
 ·intro j u hj
  match j, hj with
  | 0, hj => simp at hj; subst hj; simp [Addr.add]
 ·intro u hu; simp at hu; subst hu; exact h1
theorem step_app {P : Program} (w : World) {ops : Array Oper} {o : Oper} {a : Act} {K : Act → World → Prop} {Q : Exit → Act → World → Prop} {E : Prop} (hgd : o.guard = none) (s x : Operand) (t tx : TypeId)
  (ho : o.op = .call { callee := .builtin .append, args := #[s, x], argTypes := #[t, tx] })
  (base : Nat) (e : TypeId) (i : TypeInfo) (z : Value) (bytes : Nat) (ht : P.underlying t = some (.slice e)) (hi : P.info? e = some i) (hz : i.zero = some z) (hsize : i.size = 1) (hby : i.bytes = bytes) (hzs : z.cells.size = 1)
  (v : Value) (n : Nat) (xs : List Value) (hv : a.eval s = v) (hown : w.ownsRow base e 1 v n xs) (y : Value) (m : Nat) (news : List Value) (hx : a.eval x = y) (hs : Src P 1 tx y m news w)
  (h63 : n + m ≤ maxLen) (hbytes : (n + m) * bytes ≤ 140737488355328) (hbase : base ≤ w.heap.size)
  (h : ∀ v' w', w'.ownsRow base e 1 v' (n + m) (xs ++ news) → w.grownBy w' v.ownBlock → Moved w v v' → K (a.put o.dst v') w') : if Region.wanted o (yielded ops a.tmps) = true then Oper.wp P o a w K Q else E := by
 subst hby
 have hw : Region.wanted o (yielded ops a.tmps) = true := by simp [Region.wanted, hgd]
 rw [if_pos hw]
 obtain ⟨v', w', hr, h2, h3, h4⟩ := run_app (P := P) w base t tx o.type e i z ht hi hz hsize hzs v n xs hown y m news hs h63 hbytes hbase
 unfold Oper.wp execOp
 simp only [ho, resolve, invoke, builtin, Sem.run_bind, Sem.run_pure, Result.andThen_ok, List.map_toArray, List.map_cons, List.map_nil, hv, hx, hr]
 exact h v' w' h2 h3 h4
theorem src_at {P : Program} {tx e : TypeId} (hu : P.underlying tx = some (.slice e)) {W : World} {b : Nat} {x : Value} {t : TypeId} (h : W.heap[b]? = some (.cells #[x] t (0, 0))) (h1 : x.oneCell' = true) : Src P 1 tx (.slice (some ⟨b, 0, none⟩) 1 1) 1 [x] W := by
 refine Src.ofSlice _ hu ⟨b, 0, none⟩ 1 1 _ rfl ?_ ?_
 ·intro j u hj
  match j, hj with
  | 0, hj => simp at hj; subst hj; simp [Addr.add, World.cell?, h]
  | j + 1, hj => simp at hj
 ·intro u hu; simp at hu; subst hu; exact h1
theorem PlR.start {w W : World} {f sb : Nat} {X0 : List Spot} {nm : List Int} (hb : Below w.heap.size w W) (hh : Blk w f #[.slice (some ⟨sb, 0, none⟩) X0.length X0.length, .slice none 0 0] 92) (hB : Blk w sb (rowS X0) 104) (hne : f ≠ sb) (hk : ∀ i (h : i < X0.length), X0[i].kv = .slice none 0 0) : PlR w W W.heap.size f sb X0 nm 0 X0 (.slice none 0 0) := by
 have hs := hb.size
 have h1 := hh.lt
 have h2 := hB.lt
 refine ⟨⟨hh.below hb h1, hB.below hb h2, by omega, by omega, hne, Nat.le_refl _, ?_, fun i hi => ?_, fun i j hi hj _ g hg => ?_, fun i hi g hg => ?_⟩, ⟨rfl, fun i hi => ⟨rfl, rfl⟩, fun i hi => by rw [if_neg (by omega)]⟩, Upd.ofBelow hb (fun k h1 h2 => by omega)⟩
 ·exact World.ownsRow_nil _ _ _ _
 ·rw [hk i hi]; exact World.ownsRow_nil _ _ _ _
 ·rw [hk i hi] at hg; simp [Value.ownBlock] at hg
 ·simp [Value.ownBlock] at hg
theorem PlAt.rootCell {base : Nat} {w w2 w3 : World} {f sb : Nat} {X : List Spot} {K : Nat → List Int} {rv : Value} {R : List Int} (h : PlAt base w f sb X K rv R) (hb : Below w.heap.size w w2) (hg : w2.grownBy w3 rv.ownBlock) : w3.cell? ⟨f, 1, none⟩ = some rv ∧ w3.frozen? ⟨f, 1, none⟩ = false := by
 have hu : Upd (fun k => rv.ownBlock = some k) w w3 := h.others hb rv (fun g e => (owns_lt h.roots e).1) hg
 have hB := h.head.upd hu (fun e => by have := (owns_lt h.roots e).1; have := h.fb; omega)
 exact ⟨hB.cell 1 rfl, hB.frozen 1⟩
theorem PlAt.kidCell {base : Nat} {w w2 w3 : World} {f sb : Nat} {X : List Spot} {K : Nat → List Int} {rv : Value} {R : List Int} (h : PlAt base w f sb X K rv R) {j : Nat} (hj : j < X.length) (hb : Below w.heap.size w w2) (hg : w2.grownBy w3 X[j].kv.ownBlock) : w3.cell? ⟨sb, j * 21 + 20, none⟩ = some X[j].kv ∧ w3.frozen? ⟨sb, j * 21 + 20, none⟩ = false ∧ w3.cell? ⟨f, 0, none⟩ = some (.slice (some ⟨sb, 0, none⟩) X.length X.length) := by
 have hu : Upd (fun k => X[j].kv.ownBlock = some k) w w3 := h.others hb X[j].kv (fun g e => (owns_lt (h.kids j hj) e).1) hg
 have hB := h.head.upd hu (fun e => by have := (owns_lt (h.kids j hj) e).1; have := h.fb; omega)
 have hS := h.row.upd hu (fun e => by have := (owns_lt (h.kids j hj) e).1; have := h.sbb; omega)
 exact ⟨(hS.spots j hj).c20, hS.frozen _, hB.cell 0 rfl⟩
theorem kids_cast {base : Nat} {w : World} {f sb : Nat} {X : List Spot} {K K' : Nat → List Int} {rv : Value} {R R' : List Int} (h : PlAt base w f sb X K rv R) (hK : ∀ i, i < X.length → K i = K' i) (hR : R = R') : PlAt base w f sb X K' rv R' := by
 subst hR
 exact ⟨h.head, h.row, h.fb, h.sbb, h.ne, h.le, h.roots, fun i hi => by rw [← hK i hi]; exact h.kids i hi, h.apart, h.apartR⟩
set_option maxHeartbeats 8000000 in
theorem plant_any (f sb : Nat) (X0 : List Spot) (w : World) (hh : Blk w f #[.slice (some ⟨sb, 0, none⟩) X0.length X0.length, .slice none 0 0] 92) (hB : Blk w sb (rowS X0) 104) (hne : f ≠ sb) (hk : ∀ i (h : i < X0.length), X0[i].kv = .slice none 0 0) (hr : RiseS X0) (hl : X0.length ≤ 1000) (hno : NoRing (nmOf X0) X0.length) :
  Calls Tryz.prog 55 #[.pointer (some ⟨f, 0, none⟩)] w fun e w' => e = .returned (.tuple #[]) ∧ Planted w f sb X0 (nmOf X0) w' := by
 have hnl : (nmOf X0).length = X0.length := by simp [nmOf]
 have hnr : ∀ x ∈ nmOf X0, -1 ≤ x ∧ x < X0.length := fun x hx => by
  unfold nmOf at hx
  obtain ⟨s, _, rfl⟩ := List.mem_map.1 hx
  exact idx_range X0 _
 have NA := named_any f sb X0 w (hh.cell 0 rfl) hB hr hl
 have CU := fun r W (hB1 : Blk W r (intB (nmOf X0)) 3) => cuts_none r X0.length X0.length (nmOf X0) W hB1 hnl hl hnr hno
 have HCU : Hid (∀ r W, Blk W r (intB (nmOf X0)) 3 → Calls Tryz.prog 87 #[.slice (some ⟨r, 0, none⟩) X0.length X0.length] W fun e w' => e = .returned (.slice none 0 0) ∧ Below W.heap.size W w') := CU
 have ST : Hid (∀ W, Below w.heap.size w W → PlR w W W.heap.size f sb X0 (nmOf X0) 0 X0 (.slice none 0 0)) := fun W hb => PlR.start hb hh hB hne hk
 obtain ⟨i0, hi0, hz0, hz1, hz2⟩ := infoI_parts
 have HNL : Hid ((nmOf X0).length = X0.length) := hnl
 have HNR : Hid (∀ x ∈ nmOf X0, -1 ≤ x ∧ x < X0.length) := hnr
 have HFB : Hid (f < w.heap.size ∧ sb < w.heap.size) := ⟨hh.lt, hB.lt⟩
 have HNE : Hid (f ≠ sb) := hne
 obtain ⟨n, hn⟩ : ∃ n, X0.length = n := ⟨_, rfl⟩
 have HN : Hid (X0.length = n) := hn
 clear hh hB hk hr hno hnl hnr CU hne
 rw [hn] at NA HCU hl
 clear hn
 go_enter Tryz.func55, Tryz.ntmps55
 go_wp2_with (first
  | (go_at_call 86; refine NA.mono ?_; clear NA; rintro e w1 ⟨r, rfl, b1, l1, hb1⟩)
  | (go_at_call 87; refine (HCU.out r w1 b1).mono ?_; rintro e w2 ⟨rfl, hb2⟩))
 have HB2 : Hid (Below w.heap.size w w2) := hb1.trans (hb2.mono hb1.size)
 have HR2 : Hid (Blk w2 r (intB (nmOf X0)) 3) := Blk.below b1 hb2 (Blk.lt b1)
 have HRL : Hid (w.heap.size ≤ r ∧ r < w2.heap.size) := ⟨l1, by have := Blk.lt b1; have := hb2.size; omega⟩
 clear b1 l1 hb1 hb2 HCU
 go_loopw [12] (fun x wr => x = .int .i64 0 ∧ wr = w2) (fun _ _ => 0)
 case atStart => exact ⟨rfl, rfl⟩
 case round =>
  obtain ⟨rfl, rfl⟩ := hrel
  go_wp2
  obtain ⟨base, hbase⟩ : ∃ base, wr.heap.size = base := ⟨_, rfl⟩
  have HBASE : Hid (wr.heap.size = base) := hbase
  have P0 : Hid (PlR w wr base f sb X0 (nmOf X0) 0 X0 (.slice none 0 0)) := by rw [← hbase]; exact ST.out wr HB2.out
  have HB3 : Hid (w.heap.size ≤ base) := by rw [← hbase]; exact HB2.out.size
  have HRB : Hid (r < base) := by rw [← hbase]; exact HRL.out.2
  have HR3 : Hid (∀ W, Upd (fun j => j = f ∨ j = sb ∨ base ≤ j) wr W → Blk W r (intB (nmOf X0)) 3) := fun W hu => Blk.upd HR2.out hu (fun hh => by
   have := HRL.out.1; have := HFB.out.1; have := HFB.out.2; have := HRB.out
   rcases hh with h | h | h <;> omega)
  have HUP : Hid (Upd (fun j => j = f ∨ j = sb ∨ base ≤ j) wr wr) := Upd.refl _ _
  clear hbase
  go_loopw [30] (fun x wq => ∃ (k : Nat) (X : List Spot) (rv : Value), x = .int .i64 k ∧ k ≤ n ∧ PlR w wq base f sb X0 (nmOf X0) k X rv ∧ Upd (fun j => j = f ∨ j = sb ∨ base ≤ j) wr wq) (fun x _ => n - (intOf x).toNat)
  case atStart => exact ⟨0, X0, _, rfl, by omega, P0.out, HUP.out⟩
  case round =>
   obtain ⟨k, X, rv, rfl, hkn, hP, hU⟩ := hrel
   have HP : Hid (PlR w wr base f sb X0 (nmOf X0) k X rv) := hP
   have HR4 : Hid (Blk wr r (intB (nmOf X0)) 3) := HR3.out wr hU
   have HU : Hid _ := hU
   have HXL : Hid (X.length = n) := by have := hP.fl.len; rw [← HN.out]; exact this
   clear hP hU
   by_cases hlt : k < n
   ·have hkX : k < X.length := by rw [HXL.out]; exact hlt
    have hkN : k < (nmOf X0).length := by rw [HNL.out, HN.out]; exact hlt
    have g1 : wr.cell? ⟨r, k, none⟩ = some (.int .i64 (nmOf X0)[k]) := Blk.cell HR4.out k (intB_get _ k hkN)
    have c0 : wr.cell? ⟨f, 0, none⟩ = some (.slice (some ⟨sb, 0, none⟩) n n) := by have := HP.out.at_.head.cell 0 rfl; rwa [HXL.out] at this
    have hmr := HNR.out _ (List.getElem_mem hkN)
    have hgd : (nmOf X0).getD k (-1) = (nmOf X0)[k] := by simp [hkN]
    by_cases hm : (nmOf X0)[k] = -1
    ·have RT := root_any sb k X wr HP.out.at_.row hkX
     have FR : Hid (PlF X0 (X.set k (rootS X[k])) (nmOf X0) (k + 1)) := HP.out.fl.root hkX (by rw [hgd]; exact hm)
     have HP1 : Hid (∀ w1, Blk w1 sb (rowS (X.set k (rootS X[k]))) 104 → Upd (fun j => j = sb) wr w1 → PlAt base w1 f sb (X.set k (rootS X[k])) (fun i => kidsF (nmOf X0) k i) rv (kidsF (nmOf X0) k (-1))) := fun w1 hB hu => HP.out.at_.spot hkX _ rfl hB hu
     have HKL : Hid ((kidsF (nmOf X0) k (-1)).length ≤ k) := kidsF_len _ _ _
     have HKS : Hid (kidsF (nmOf X0) (k + 1) (-1) = kidsF (nmOf X0) k (-1) ++ [(k : Int)] ∧ ∀ i : Nat, kidsF (nmOf X0) (k + 1) i = kidsF (nmOf X0) k i) := ⟨by rw [kidsF_succ _ _ _ hkN, if_pos hm], fun i => by rw [kidsF_succ _ _ _ hkN, if_neg (by rw [hm]; omega)]⟩
     rw [hm] at g1
     generalize X.set k (rootS X[k]) = X1 at RT FR HP1
     clear hm hgd hmr
     go_wp2_with (first
      | (go_at_call 88; refine RT.mono ?_; clear RT; rintro e w1 ⟨rfl, b1, u1⟩; have Q1 := HP1.out w1 b1 u1; have HQ1 : Hid (PlAt base w1 f sb X1 (fun i => kidsF (nmOf X0) k i) rv (kidsF (nmOf X0) k (-1))) := Q1; have d1 : w1.cell? ⟨f, 1, none⟩ = some rv := Q1.head.cell 1 rfl; have hle := Q1.le; have HU1 : Hid (Upd (fun j => j = sb) wr w1) := u1; have y1 := fun (o : Obj) => (World.cell?_alloc_lt w1 o ⟨f, 1, none⟩ (World.block_lt_of_cell? w1 _ d1)).trans d1; clear b1 u1 Q1 HP1)
      | (at_builtin; refine wpList_app _ rfl _ _ 90 90 rfl base 3 i0 (.int .i64 0) 8 Tryz.underlying90 hi0 hz0 hz1 hz2 rfl rv (kidsF (nmOf X0) k (-1)).length ((kidsF (nmOf X0) k (-1)).map (Value.int .i64)) rfl (HQ1.out.roots.alloc _) _ 1 [.int .i64 (k : Int)] rfl (src_one Tryz.underlying90 w1 _ 3 rfl) (by have := HKL.out; unfold maxLen; omega) (by have := HKL.out; omega) (by rw [World.size_alloc]; omega) ?_; intro v2 w3 o3 g3 m3; obtain ⟨ad2, cap2, rfl⟩ := owns_slice o3; have A3 := HQ1.out.addRoot ((Below.refl _ _).alloc (Nat.le_refl _) _) g3 m3 k o3; have HA3 : Hid (PlAt base (w3.setCell ⟨f, 1, none⟩ (.slice ad2 ((kidsF (nmOf X0) k (-1)).length + 1) cap2)) f sb X1 (fun i => kidsF (nmOf X0) k i) (.slice ad2 ((kidsF (nmOf X0) k (-1)).length + 1) cap2) (kidsF (nmOf X0) k (-1) ++ [(k : Int)]) ∧ Upd (fun k => k = f ∨ base ≤ k) w1 (w3.setCell ⟨f, 1, none⟩ (.slice ad2 ((kidsF (nmOf X0) k (-1)).length + 1) cap2))) := A3; obtain ⟨e1, e2⟩ := HQ1.out.rootCell ((Below.refl _ _).alloc (Nat.le_refl _) _) g3; clear A3 o3 g3 m3))
     go_roundw
     case rel =>
      have hu2 := (HU1.out.mono (S' := fun j => j = f ∨ j = sb ∨ base ≤ j) (fun j _ h => Or.inr (Or.inl h))).trans (HA3.out.2.mono (S' := fun j => j = f ∨ j = sb ∨ base ≤ j) (fun j _ h => by rcases h with h | h; exact Or.inl h; exact Or.inr (Or.inr h))) (fun _ _ h => h)
      refine ⟨k + 1, X1, .slice ad2 ((kidsF (nmOf X0) k (-1)).length + 1) cap2, by simp, by omega, ⟨?_, FR.out, HP.out.upd.trans hu2 (fun _ _ h => h)⟩, HU.out.trans hu2 (fun _ _ h => h)⟩
      exact kids_cast HA3.out.1 (fun i _ => (HKS.out.2 i).symm) HKS.out.1.symm
     case measure => simp [intOf]; omega
    ·obtain ⟨j, hj⟩ : ∃ j : Nat, (nmOf X0)[k] = (j : Int) := ⟨((nmOf X0)[k]).toNat, by omega⟩
     have hjX : j < X.length := by rw [HXL.out]; have := HN.out; omega
     have hjn : j < n := by have := HN.out; omega
     have e20 : wr.cell? ⟨sb, j * 21 + 20, none⟩ = some X[j].kv := (HP.out.at_.row.spots j hjX).c20
     have HKL : Hid ((kidsF (nmOf X0) k j).length ≤ k) := kidsF_len _ _ _
     have HKS : Hid (kidsF (nmOf X0) (k + 1) (-1) = kidsF (nmOf X0) k (-1) ∧ ∀ i : Nat, (if i = j then kidsF (nmOf X0) k j ++ [(k : Int)] else kidsF (nmOf X0) k i) = kidsF (nmOf X0) (k + 1) i) := ⟨by rw [kidsF_succ _ _ _ hkN, if_neg hm], fun i => by
      rw [kidsF_succ _ _ _ hkN, hj]
      by_cases e : i = j
      ·subst e; simp
      ·rw [if_neg e, if_neg (by omega)]⟩
     have FK : Hid (∀ y : Spot, y.a = X[j].a → y.p = X[j].p → y.nd = X[j].nd → PlF X0 (X.set j y) (nmOf X0) (k + 1)) := fun y h1 h2 h3 => HP.out.fl.kid hkX (by rw [hgd]; exact hm) hjX y h1 h2 h3
     have HOK : Hid (∀ W, Below wr.heap.size wr W → W.ownsRow base 3 1 X[j].kv (kidsF (nmOf X0) k j).length ((kidsF (nmOf X0) k j).map (Value.int .i64))) := fun W hb => ownsRow_upd (S := fun _ => False) (HP.out.at_.kids j hjX) (Upd.ofBelow hb (fun k h1 h2 => by omega)) (fun _ _ h => h)
     have HAD : Hid (∀ (w2 w3 : World) (v' : Value), Below wr.heap.size wr w2 → w2.grownBy w3 X[j].kv.ownBlock → Moved w2 X[j].kv v' → w3.ownsRow base 3 1 v' ((kidsF (nmOf X0) k j).length + 1) ((kidsF (nmOf X0) k j).map (Value.int .i64) ++ [.int .i64 (k : Int)]) → (∃ y : Spot, y.a = X[j].a ∧ y.p = X[j].p ∧ y.nd = X[j].nd ∧ PlAt base (w3.setCell ⟨sb, j * 21 + 20, none⟩ v') f sb (X.set j y) (fun i => if i = j then kidsF (nmOf X0) k j ++ [(k : Int)] else kidsF (nmOf X0) k i) rv (kidsF (nmOf X0) k (-1)) ∧ Upd (fun k => k = sb ∨ base ≤ k) wr (w3.setCell ⟨sb, j * 21 + 20, none⟩ v')) ∧ w3.cell? ⟨sb, j * 21 + 20, none⟩ = some X[j].kv ∧ w3.frozen? ⟨sb, j * 21 + 20, none⟩ = false ∧ w3.cell? ⟨f, 0, none⟩ = some (.slice (some ⟨sb, 0, none⟩) n n)) := fun w2 w3 v' hb hg hmv ho => by
      have h1 := HP.out.at_.kidCell hjX hb hg
      rw [HXL.out] at h1
      exact ⟨HP.out.at_.addKid hjX hb hg hmv k ho, h1⟩
     have hle := HP.out.at_.le
     rw [hj] at g1
     generalize X[j].kv = kv at *
     have y0 := fun (o : Obj) => (World.cell?_alloc_lt wr o ⟨f, 0, none⟩ (World.block_lt_of_cell? wr _ c0)).trans c0
     have y1 := fun (o : Obj) => (World.cell?_alloc_lt wr o ⟨sb, j * 21 + 20, none⟩ (World.block_lt_of_cell? wr _ e20)).trans e20
     clear hm hgd hmr hj
     go_wp2
     go_region_law (refine step_app _ (by rfl) _ _ 90 90 (by rfl) base 3 i0 (.int .i64 0) 8 Tryz.underlying90 hi0 hz0 hz1 hz2 rfl kv (kidsF (nmOf X0) k j).length ((kidsF (nmOf X0) k j).map (Value.int .i64)) (by rfl) (HOK.out _ (by repeat' first | exact Below.refl _ _ | refine Below.alloc ?_ (by first | omega | (simp; omega) | (simp; done)) _ | refine Below.drew ?_)) (.slice (some ⟨wr.heap.size, 0, none⟩) 1 1) 1 [.int .i64 (k : Int)] (by rfl) (src_at Tryz.underlying90 (by first | exact heap_alloc_new _ _ | exact heap_alloc_new wr.drew _) rfl) (by have := HKL.out; unfold maxLen; omega) (by have := HKL.out; omega) (by first | (simp; omega) | omega) ?_; intro v8 w8 o8 g8 m8; obtain ⟨ad8, cap8, rfl⟩ := owns_slice o8; obtain ⟨A8, e8, f8, z8⟩ := HAD.out _ w8 _ (by repeat' first | exact Below.refl _ _ | refine Below.alloc ?_ (by first | omega | (simp; omega) | (simp; done)) _ | refine Below.drew ?_) g8 m8 o8; have HA8 : Hid _ := A8; clear A8 o8 g8 m8 HOK)
     all_goals
      go_wp2
      go_roundw
      case rel =>
       obtain ⟨y, h1, h2, h3, hP8, u8⟩ := HA8.out
       have hu2 := u8.mono (S' := fun j => j = f ∨ j = sb ∨ base ≤ j) (fun j _ h => Or.inr h)
       refine ⟨k + 1, X.set j y, rv, by simp, by omega, ⟨?_, FK.out y h1 h2 h3, HP.out.upd.trans hu2 (fun _ _ h => h)⟩, HU.out.trans hu2 (fun _ _ h => h)⟩
       exact kids_cast hP8 (fun i _ => HKS.out.2 i) HKS.out.1.symm
      case measure => simp [intOf]; omega
   ·obtain rfl : k = n := by omega
    go_wp2
    go_end0
    refine ⟨rfl, base, X, rv, HB3.out, ?_, ?_, ?_⟩
    ·rw [HN.out]; exact HP.out.at_
    ·rw [HN.out]; exact HP.out.fl
    ·exact ⟨HP.out.upd.os, HP.out.upd.tape, HP.out.upd.output, HP.out.upd.size, fun j hj hn => HP.out.upd.block j hj (fun hh => by
      have := HB3.out
      rcases hh with h | h | h
      ·exact hn (Or.inl h)
      ·exact hn (Or.inr h)
      ·omega)⟩
end Go.Proofs.YtnffedmcblbkoaaGreatDoor
