/-
  Merged: FK, FM, GI, GJ, OU.
-/
import Derived.Test.YtnffedmcblbkoaaGreatDoorFIq
import Derived.Test.YtnffedmcblbkoaaGreatDoorOZ
namespace Go.Proofs.YtnffedmcblbkoaaGreatDoor
open Go Go.RowKit
set_option maxRecDepth 100000
def upN (nm : List Int) : Nat → Int → Int
 | 0, c => c
 | k + 1, c => upN nm k (nm.getD c.toNat 0)
theorem upN_add (nm : List Int) : ∀ (j k : Nat) (c : Int), upN nm (j + k) c = upN nm k (upN nm j c)
 | 0, k, c => by rw [Nat.zero_add]; rfl
 | j + 1, k, c => by rw [show j + 1 + k = (j + k) + 1 by omega]; exact upN_add nm j k _
theorem upN_succ (nm : List Int) (k : Nat) (c : Int) : upN nm (k + 1) c = nm.getD (upN nm k c).toNat 0 := upN_add nm k 1 c
structure Ring (nm : List Int) (n : Nat) (c : Int) (p : Nat) : Prop where
 pos : 0 < p
 back : upN nm p c = c
 ins : ∀ j, j < p → 0 ≤ upN nm j c ∧ upN nm j c < n
 first : ∀ j, 0 < j → j < p → upN nm j c ≠ c
theorem ring_least {nm : List Int} {n : Nat} {c : Int} {j : Nat} (hj : 0 < j) (hb : upN nm j c = c) (hi : ∀ t, t < j → 0 ≤ upN nm t c ∧ upN nm t c < n) : ∃ p, Ring nm n c p := by
 induction j using Nat.strongRecOn with
 | ind j ih =>
  by_cases h : ∃ t, 0 < t ∧ t < j ∧ upN nm t c = c
  ·obtain ⟨t, t1, t2, t3⟩ := h
   exact ih t t2 t1 t3 (fun s hs => hi s (by omega))
  ·exact ⟨j, hj, hb, hi, fun t t1 t2 t3 => h ⟨t, t1, t2, t3⟩⟩
theorem Ring.in_ {nm : List Int} {n : Nat} {c : Int} {p : Nat} (h : Ring nm n c p) : ∀ j, ∃ t, t < p ∧ upN nm j c = upN nm t c := by
 intro j
 induction j using Nat.strongRecOn with
 | ind j ih =>
  by_cases hj : j < p
  ·exact ⟨j, hj, rfl⟩
  ·obtain ⟨t, t1, t2⟩ := ih (j - p) (by have := h.pos; omega)
   refine ⟨t, t1, ?_⟩
   rw [← t2, show j = p + (j - p) by omega, upN_add, h.back, show p + (j - p) - p = j - p by omega]
def LeastR (nm : List Int) (c m : Int) : Prop := (∃ j, m = upN nm j c) ∧ ∀ j, m ≤ upN nm j c
theorem Ring.least {nm : List Int} {n : Nat} {c m : Int} {p : Nat} (h : Ring nm n c p) (h1 : ∃ t, t < p ∧ m = upN nm t c) (h2 : ∀ t, t < p → m ≤ upN nm t c) : LeastR nm c m := by
 obtain ⟨t, _, e⟩ := h1
 refine ⟨⟨t, e⟩, fun j => ?_⟩
 obtain ⟨s, s1, s2⟩ := h.in_ j
 rw [s2]
 exact h2 s s1
theorem dist_exists (nm : List Int) (n : Nat) (c : Int) (p : Nat) (h : Ring nm n c p) : ∃ d : Int → Nat, ∀ j, 0 < j → j ≤ p → d (upN nm j c) = p - j := by
 refine ⟨fun v => Classical.epsilon (fun m => ∃ j, 0 < j ∧ j ≤ p ∧ v = upN nm j c ∧ m = p - j), fun j h1 h2 => ?_⟩
 obtain ⟨k, k1, k2, k3, k4⟩ := Classical.epsilon_spec (p := fun m => ∃ k, 0 < k ∧ k ≤ p ∧ upN nm j c = upN nm k c ∧ m = p - k) ⟨_, j, h1, h2, rfl, rfl⟩
 refine k4.trans ?_
 have key : ∀ a b, 0 < a → a < b → b ≤ p → upN nm a c = upN nm b c → False := fun a b a1 ab bp e => by
  have : upN nm (p - b + a) c = c := by
   rw [Nat.add_comm, upN_add, e, ← upN_add, show b + (p - b) = p by omega]
   exact h.back
  exact h.first (p - b + a) (by omega) (by omega) this
 rcases Nat.lt_trichotomy j k with hh | hh | hh
 ·exact (key j k h1 hh k2 k3).elim
 ·rw [hh]
 ·exact (key k j k1 hh h2 k3.symm).elim
def Back (nm : List Int) (n : Nat) (i : Int) (fr : List Int) (c : Int) : Prop := ∀ q : Nat, q < n → fr.getD q 0 = i → ∃ j, 0 < j ∧ upN nm j q = c ∧ ∀ t, t < j → 0 ≤ upN nm t q ∧ upN nm t q < n
theorem cutIn_back (nm : List Int) (n : Nat) (i : Int) (hr : ∀ x ∈ nm, -1 ≤ x ∧ x < n) (hn : nm.length = n) : ∀ (k : Nat) (fr : List Int) (c : Int), fr.length = n → -1 ≤ c → c < n → Back nm n i fr c → Back nm n i (cutIn nm i k fr c).1 (cutIn nm i k fr c).2 ∧ (cutIn nm i k fr c).1.length = n ∧ -1 ≤ (cutIn nm i k fr c).2 ∧ (cutIn nm i k fr c).2 < n
 | 0, fr, c, hl, h1, h2, hb => ⟨hb, hl, h1, h2⟩
 | k + 1, fr, c, hl, h1, h2, hb => by
  rw [cutIn]
  by_cases hc : c = -1
  ·rw [if_pos hc]; exact ⟨hb, hl, h1, h2⟩
  ·rw [if_neg hc]
   by_cases hf : fr.getD c.toNat 0 ≠ -1
   ·rw [if_pos hf]; exact ⟨hb, hl, h1, h2⟩
   ·rw [if_neg hf]
    have hcn : c.toNat < nm.length := by omega
    have hm : -1 ≤ nm.getD c.toNat 0 ∧ nm.getD c.toNat 0 < n := by
     rw [List.getD_eq_getElem?_getD, List.getElem?_eq_getElem hcn]
     exact hr _ (List.getElem_mem hcn)
    refine cutIn_back nm n i hr hn k _ _ (by simp [hl]) hm.1 hm.2 fun q hq e => ?_
    by_cases hqc : q = c.toNat
    ·refine ⟨1, by omega, by subst hqc; simp only [upN, Int.toNat_natCast], fun t ht => ?_⟩
     obtain rfl : t = 0 := by omega
     simp only [upN]
     omega
    ·have e' : fr.getD q 0 = i := by
      rw [List.getD_eq_getElem?_getD] at e ⊢
      rw [List.getElem?_set_ne (fun h => hqc h.symm)] at e
      exact e
     obtain ⟨j, j1, j2, j3⟩ := hb q hq e'
     refine ⟨j + 1, by omega, by rw [upN_succ, j2], fun t ht => ?_⟩
     by_cases htj : t < j
     ·exact j3 t htj
     ·obtain rfl : t = j := by omega
      rw [j2]
      omega
theorem cutIn_low (nm : List Int) (i : Int) (b : Int) (hb : i < b) : ∀ (k : Nat) (fr : List Int) (c : Int), (∀ x ∈ fr, x < b) → ∀ x ∈ (cutIn nm i k fr c).1, x < b
 | 0, fr, c, h => h
 | k + 1, fr, c, h => by
  rw [cutIn]
  by_cases hc : c = -1
  ·rw [if_pos hc]; exact h
  ·rw [if_neg hc]
   by_cases hf : fr.getD c.toNat 0 ≠ -1
   ·rw [if_pos hf]; exact h
   ·rw [if_neg hf]
    refine cutIn_low nm i b hb k _ _ fun x hx => ?_
    rcases List.mem_or_eq_of_mem_set hx with h' | h'
    ·exact h x h'
    ·rw [h']; exact hb
theorem frAt_low (nm : List Int) (n : Nat) : ∀ i, ∀ x ∈ frAt nm n i, x < (i : Int)
 | 0 => fun x hx => by
  have := List.eq_of_mem_replicate hx
  omega
 | i + 1 => fun x hx => cutIn_low nm i _ (by omega) (n + 1) (frAt nm n i) i (fun y hy => by have := frAt_low nm n i y hy; omega) x hx
theorem frAt_len (nm : List Int) (n : Nat) (hr : ∀ x ∈ nm, -1 ≤ x ∧ x < n) (hn : nm.length = n) : ∀ i, i ≤ n → (frAt nm n i).length = n
 | 0, _ => by simp [frAt]
 | i + 1, hi => by
  have h0 := frAt_len nm n hr hn i (by omega)
  exact (cutIn_back nm n i hr hn (n + 1) _ i h0 (by omega) (by omega) (fun q hq e => by
   have hl := frAt_low nm n i
   rw [List.getD_eq_getElem?_getD, List.getElem?_eq_getElem (by omega)] at e
   have := hl _ (List.getElem_mem (show q < (frAt nm n i).length by omega))
   simp at e
   omega)).2.1
theorem ring_of {nm : List Int} {n i : Nat} (hr : ∀ x ∈ nm, -1 ≤ x ∧ x < n) (hn : nm.length = n) (hi : i < n) {c : Nat} (hc : cutEnd nm n i = c) (hf : (frAt nm n (i + 1)).getD c 0 = i) : ∃ p, Ring nm n c p := by
 have h0 := frAt_len nm n hr hn i (by omega)
 obtain ⟨hb, _, h1, h2⟩ := cutIn_back nm n i hr hn (n + 1) _ i h0 (by omega) (by omega) (fun q hq e => by
   have hl := frAt_low nm n i
   rw [List.getD_eq_getElem?_getD, List.getElem?_eq_getElem (by omega)] at e
   have := hl _ (List.getElem_mem (show q < (frAt nm n i).length by omega))
   simp at e
   omega)
 unfold cutEnd at hc
 rw [hc] at hb h2
 obtain ⟨j, j1, j2, j3⟩ := hb c (by omega) hf
 exact ring_least j1 j2 j3
set_option maxHeartbeats 2000000 in
theorem least_any (a n cap : Nat) (nm : List Int) (c p : Nat) (w : World) (hB : Blk w a (intB nm) 3) (hn : nm.length = n) (hR : Ring nm n c p) :
  Calls Tryz.prog 134 #[.slice (some ⟨a, 0, none⟩) n cap, .int .i64 c] w fun e w' => (∃ m, e = .returned (.int .i64 m) ∧ LeastR nm c m) ∧ w' = w := by
 obtain ⟨d, hd⟩ := dist_exists nm n c p hR
 have HN : Hid (nm.length = n) := hn
 have HR : Hid (Ring nm n c p) := hR
 have HD : Hid (∀ j, 0 < j → j ≤ p → d (upN nm j c) = p - j) := hd
 have hcn : c < n := by have := hR.ins 0 hR.pos; simp only [upN] at this; omega
 have NX : Hid (∀ j, j < p → ∃ q : Nat, upN nm j c = q ∧ q < n ∧ w.cell? ⟨a, q, none⟩ = some (.int .i64 (upN nm (j + 1) c))) := fun j hj => by
  obtain ⟨h1, h2⟩ := hR.ins j hj
  refine ⟨(upN nm j c).toNat, by omega, by omega, ?_⟩
  have hq : (upN nm j c).toNat < nm.length := by omega
  rw [upN_succ, List.getD_eq_getElem?_getD, List.getElem?_eq_getElem hq]
  exact hB.cell _ (intB_get nm _ hq)
 have c0 : w.cell? ⟨a, c, none⟩ = some (.int .i64 (upN nm 1 c)) := by
  obtain ⟨q, e1, _, e2⟩ := NX.out 0 hR.pos
  simp only [upN] at e1
  have : q = c := by omega
  subst this
  exact e2
 have HP : Hid (0 < p) := hR.pos
 clear hB hn hR hd
 go_enter Tryz.func134, Tryz.ntmps134
 go_wp2
 go_loopw [5, 6] (fun y5 y6 wr => ∃ (j : Nat) (m v : Int), y5 = .int .i64 m ∧ y6 = .int .i64 v ∧ v = upN nm j c ∧ 0 < j ∧ j ≤ p ∧ (∃ t, t < j ∧ m = upN nm t c) ∧ (∀ t, t < j → m ≤ upN nm t c) ∧ wr = w) (fun _ y6 _ => d (intOf y6))
 case atStart => exact ⟨1, c, _, rfl, rfl, rfl, by omega, HP.out, ⟨0, by omega, rfl⟩, fun t ht => by obtain rfl : t = 0 := (by omega); exact Int.le_refl _, rfl⟩
 case round =>
  obtain ⟨j, m, v, rfl, rfl, hv, hj1, hj2, ht, hm, rfl⟩ := hrel
  have HV : Hid (v = upN nm j c ∧ 0 < j ∧ j ≤ p ∧ (∃ t, t < j ∧ m = upN nm t c) ∧ (∀ t, t < j → m ≤ upN nm t c)) := ⟨hv, hj1, hj2, ht, hm⟩
  clear hv ht hm
  by_cases hvc : v = c
  ·subst hvc
   go_wp2
   go_ret
   refine ⟨⟨m, rfl, ?_⟩, rfl⟩
   obtain ⟨q1, q2, q3, q4, q5⟩ := HV.out
   have hjp : j = p := by
    rcases Nat.lt_or_ge j p with h | h
    ·exact absurd q1.symm (HR.out.first j q2 h)
    ·omega
   subst hjp
   exact HR.out.least q4 q5
  ·have hjp : j < p := by
    obtain ⟨q1, q2, q3, q4, q5⟩ := HV.out
    rcases Nat.lt_or_ge j p with h | h
    ·exact h
    ·exfalso
     have : j = p := by omega
     subst this
     rw [HR.out.back] at q1
     exact hvc q1
   obtain ⟨q, e1, e2, e3⟩ := NX.out j hjp
   obtain rfl : v = (q : Int) := by rw [HV.out.1, e1]
   obtain ⟨u, hu⟩ : ∃ u, upN nm (j + 1) c = u := ⟨_, rfl⟩
   rw [hu] at e3
   have HU : Hid (upN nm (j + 1) c = u) := hu
   have HM : Hid (d u < d (q : Int)) := by
    have a1 := HD.out (j + 1) (by omega) (by omega)
    have a2 := HD.out j hj1 hj2
    rw [hu] at a1
    rw [e1] at a2
    show d u < d q
    omega
   clear hu e1
   go_wp2
   all_goals
    go_roundw
    case rel =>
     obtain ⟨q1, q2, q3, ⟨t, q4, q5⟩, q6⟩ := HV.out
     refine ⟨j + 1, _, u, rfl, rfl, HU.out.symm, by omega, by omega, ?_, fun s hs => ?_, by first | rfl | trivial⟩
     ·by_cases h : m ≤ (q : Int)
      ·exact ⟨t, by omega, by rw [← q5]; omega⟩
      ·exact ⟨j, by omega, by rw [← q1]; omega⟩
     ·by_cases h : s < j
      ·have := q6 s h; omega
      ·obtain rfl : s = j := by omega
       rw [← q1]; omega
    case measure => exact HM.out
def Met (nm : List Int) (n i : Nat) : Prop := cutEnd nm n i ≠ -1 ∧ (frAt nm n (i + 1)).getD (cutEnd nm n i).toNat 0 = i
def CutsL (nm : List Int) (n : Nat) : Nat → List Int → Prop
 | 0, C => C = []
 | i + 1, C => (Met nm n i ∧ ∃ C0 m, CutsL nm n i C0 ∧ LeastR nm (cutEnd nm n i) m ∧ C = C0 ++ [m]) ∨ (¬ Met nm n i ∧ CutsL nm n i C)
def CutQ (nm : List Int) (n r : Nat) (w : World) (x l : Value) (wq : World) : Prop :=
 ∃ (i : Nat) (C : List Int), x = .int .i64 i ∧ i ≤ n ∧ (frAt nm n i).length = n ∧ Blk wq r (intB (frAt nm n i)) 3 ∧ Below w.heap.size w wq ∧ CutsL nm n i C ∧ C.length ≤ i ∧ wq.ownsRow (r + 1) 3 1 l C.length (C.map (Value.int .i64))
def WayQ (nm : List Int) (n i r len : Nat) (w : World) (lv : Value) (xs : List Value) (c : Value) (wz : World) : Prop :=
 ∃ (ci : Int) (fr : List Int), c = .int .i64 ci ∧ Way nm n i fr ci ∧ Blk wz r (intB fr) 3 ∧ Below w.heap.size w wz ∧ wz.ownsRow (r + 1) 3 1 lv len xs
theorem owns_low {w : World} {base base' n s : Nat} {e : TypeId} {v : Value} {xs : List Value} (h : w.ownsRow base e s v n xs) (hb : base' ≤ base) : w.ownsRow base' e s v n xs := by
 refine ⟨h.1, ?_⟩
 rcases h.2 with h' | ⟨g, cap, cur, e1, hbg, r⟩
 ·exact Or.inl h'
 ·exact Or.inr ⟨g, cap, cur, e1, Nat.le_trans hb hbg, r⟩
theorem owns_setC {w : World} {r j n : Nat} {v u : Value} {xs : List Value} (h : w.ownsRow (r + 1) 3 1 v n xs) : (w.setCell ⟨r, j, none⟩ u).ownsRow (r + 1) 3 1 v n xs :=
 ownsRow_upd h ((Upd.refl (fun k => k = r) w).setCell (p := ⟨r, j, none⟩) (fun _ => rfl) u) (fun k e e' => by have := (owns_lt h e).1; omega)
set_option maxHeartbeats 4000000 in
theorem cuts_any (a n cap : Nat) (nm : List Int) (w : World) (hB : Blk w a (intB nm) 3) (hn : nm.length = n) (hl : n ≤ 1000) (hr : ∀ x ∈ nm, -1 ≤ x ∧ x < n) :
  Calls Tryz.prog 87 #[.slice (some ⟨a, 0, none⟩) n cap] w fun e w' => ∃ v C, e = .returned v ∧ CutsL nm n n C ∧ C.length ≤ n ∧ w'.ownsRow w.heap.size 3 1 v C.length (C.map (Value.int .i64)) ∧ Below w.heap.size w w' := by
 obtain ⟨i0, hi0, hz0, hz1, hz2⟩ := infoI_parts
 have HB : Hid (Blk w a (intB nm) 3) := hB
 have HN : Hid (nm.length = n) := hn
 have HR : Hid (∀ x ∈ nm, -1 ≤ x ∧ x < n) := hr
 have hlt_a : Hid (a < w.heap.size) := hB.lt
 clear hB hn hr
 go_enter Tryz.func87, Tryz.ntmps87
 go_wp2_with (at_make; refine wpList_mk rfl _ _ 90 rfl 3 (.int .i64 0) 1 8 Tryz.underlying90 infoI n rfl rfl (by omega) (by unfold maxLen; omega) ?_; intro w1 b1 hb1)
 rw [intB_made] at b1
 have B0 : Hid (Blk w1 w.heap.size (intB (List.replicate n 0)) 3) := b1
 have HB1 : Hid (Below w.heap.size w w1) := hb1
 obtain ⟨r, hrr⟩ : ∃ r, w.heap.size = r := ⟨_, rfl⟩
 have HRR : Hid (w.heap.size = r) := hrr
 rw [hrr] at B0 ⊢
 clear b1 hb1 hrr
 obtain ⟨cnt, hcnt⟩ := cnt_exists r
 have HC : Hid (∀ w fr, Blk w r (intB fr) 3 → cnt w = fr.count (-1)) := hcnt
 clear hcnt
 go_loopw [13] (fun x wr => ∃ k : Nat, x = .int .i64 k ∧ k ≤ n ∧ Blk wr r (intB ((List.replicate n (-1)).take k ++ List.replicate (n - k) 0)) 3 ∧ Below w.heap.size w wr) (fun x _ => n - (intOf x).toNat)
 case atStart => exact ⟨0, rfl, by omega, by simpa using B0.out, HB1.out⟩
 case round =>
  obtain ⟨k, rfl, hkn, hblk, hb⟩ := hrel
  have HBB : Hid (Below w.heap.size w wr) := hb
  have HBK : Hid (Blk wr r (intB ((List.replicate n (-1)).take k ++ List.replicate (n - k) 0)) 3) := hblk
  clear hb hblk
  by_cases hlt : k < n
  ·have hlen := (fill_at (List.replicate n (-1)) n k (by simp) hlt 0)
   have d1 : wr.cell? ⟨r, k, none⟩ = some (.int .i64 0) := Blk.cell HBK.out k (by rw [intB_get _ _ hlen.1]; obtain ⟨_, h2⟩ := hlen; rw [h2])
   have d2 : wr.frozen? ⟨r, k, none⟩ = false := Blk.frozen HBK.out k
   clear hlen
   go_wp2
   go_roundw
   case rel =>
    refine ⟨k + 1, by simp, by omega, ?_, Below.setCell HBB.out (by have := HRR.out; simp; omega) _⟩
    have h5 := Blk.set HBK.out k (.int .i64 (-1))
    rw [intB_set] at h5
    rw [← fill_step (List.replicate n (-1)) n k (by simp) hlt 0]
    simpa using h5
   case measure => simp [intOf]; omega
  ·obtain rfl : k = n := by omega
   have F0 : Hid (Blk wr r (intB (frAt nm k 0)) 3) := by
    have := HBK.out
    rw [List.take_of_length_le (by simp), Nat.sub_self, List.replicate_zero, List.append_nil] at this
    exact this
   clear HBK
   go_wp2
   go_loopw [22, 3] (fun x l wq => CutQ nm k r w x l wq) (fun x _ _ => k - (intOf x).toNat)
   case atStart => exact ⟨0, [], rfl, by omega, by simp [frAt], F0.out, HBB.out, rfl, Nat.le_refl _, by simpa using World.ownsRow_nil wr (r + 1) 3 1⟩
   case round =>
    obtain ⟨i, C, rfl, hik, hfl, hblk, hb, hC, hCl, hrow⟩ := hrel
    obtain ⟨ad, capl, hv⟩ := owns_slice hrow
    subst hv
    have HB2 : Hid (Below w.heap.size w wr) := hb
    have HK2 : Hid (Blk wr r (intB (frAt nm k i)) 3) := hblk
    have HFL : Hid ((frAt nm k i).length = k) := hfl
    have HROW : Hid (wr.ownsRow (r + 1) 3 1 (.slice ad C.length capl) C.length (C.map (Value.int .i64))) := hrow
    have HCC : Hid (CutsL nm k i C) := hC
    have HCL : Hid (C.length ≤ i) := hCl
    obtain ⟨ln, hln⟩ : ∃ ln, C.length = ln := ⟨_, rfl⟩
    have HLN : Hid (C.length = ln) := hln
    rw [hln] at HROW ⊢
    clear hb hblk hfl hrow hC hCl hln
    by_cases hik2 : i < k
    ·go_wp2
     go_loopw [7] (fun c wz => WayQ nm k i r ln w (.slice ad ln capl) (C.map (Value.int .i64)) c wz) (fun _ wz => cnt wz)
     case atStart => exact ⟨i, frAt nm k i, rfl, Way.start hik2 HFL.out, HK2.out, HB2.out, HROW.out⟩
     case round =>
      obtain ⟨ci, fr, rfl, hway, hblk, hb, hrow⟩ := hrel
      have HB3 : Hid (Below w.heap.size w wr) := hb
      have HK3 : Hid (Blk wr r (intB fr) 3) := hblk
      have HW : Hid (Way nm k i fr ci) := hway
      have HROW3 : Hid (wr.ownsRow (r + 1) 3 1 (.slice ad ln capl) ln (C.map (Value.int .i64))) := hrow
      clear hb hblk hway hrow
      by_cases hc : ci = -1
      ·subst hc
       go_wp2
       go_roundw
       case rel =>
        have hd := HW.out.done1
        exact ⟨i + 1, C, by simp, by omega, by rw [hd.1]; exact HW.out.len, by rw [hd.1]; exact HK3.out, HB3.out, Or.inr ⟨fun h => h.1 hd.2, HCC.out⟩, by have := HCL.out; omega, by rw [HLN.out]; exact HROW3.out⟩
       case measure => simp [intOf]; omega
      ·have hlo := HW.out.lo
       obtain ⟨c, rfl⟩ : ∃ c : Nat, ci = (c : Int) := ⟨ci.toNat, by omega⟩
       have hck : c < k := by have := HW.out.hi; omega
       have hcf : c < fr.length := by rw [HW.out.len]; exact hck
       have hcn : c < nm.length := by rw [HN.out]; exact hck
       have g1 : wr.cell? ⟨r, c, none⟩ = some (.int .i64 fr[c]) := Blk.cell HK3.out c (intB_get fr c hcf)
       have g2 : wr.frozen? ⟨r, c, none⟩ = false := Blk.frozen HK3.out c
       have gn : wr.cell? ⟨a, c, none⟩ = some (.int .i64 nm[c]) := Blk.cell (Blk.below HB.out HB3.out (Blk.lt HB.out)) c (intB_get nm c hcn)
       have e1 : ((c : Int) != -1) = true := by simp <;> omega
       by_cases hfc : fr[c] = -1
       ·have HS : Hid (Way nm k i (fr.set c i) nm[c]) := Way.step HW.out hcf hfc HN.out HR.out
        have HM : Hid (cnt (wr.setCell ⟨r, c, none⟩ (.int .i64 i)) < cnt wr) := by
         have h5 := Blk.set HK3.out c (.int .i64 (i : Int))
         rw [intB_set] at h5
         have h6 := HC.out _ _ h5
         have h7 := HC.out _ _ HK3.out
         have h8 := count_set fr c hcf hfc i (by omega)
         show cnt _ < cnt _
         omega
        have hra : r ≠ a := by have := HRR.out; have := hlt_a.out; omega
        have gn2 : (wr.setCell ⟨r, c, none⟩ (.int .i64 i)).cell? ⟨a, c, none⟩ = some (.int .i64 nm[c]) := by
         have hB5 := Blk.other (Blk.below HB.out HB3.out (Blk.lt HB.out)) ⟨r, c, none⟩ (.int .i64 i) (fun e => hra e.symm)
         exact Blk.cell hB5 c (intB_get nm c hcn)
        rw [hfc] at g1
        generalize nm[c] = m at HS gn gn2
        clear gn
        go_wp2
        go_roundw
        case rel =>
         refine ⟨m, fr.set c i, rfl, HS.out, ?_, Below.setCell HB3.out (by have := HRR.out; simp; omega) _, owns_setC HROW3.out⟩
         have h5 := Blk.set HK3.out c (.int .i64 (i : Int))
         rw [intB_set] at h5
         exact h5
        case measure => exact HM.out
       ·have hd := Way.done2 HW.out hcf hfc
        have HD : Hid (frAt nm k (i + 1) = fr ∧ cutEnd nm k i = c) := hd
        have HL : Hid (fr.length = k) := HW.out.len
        have HMET : Hid (Met nm k i ↔ fr[c] = i) := by
         unfold Met
         rw [hd.1, hd.2]
         exact ⟨fun h => by simpa [hcf] using h.2, fun h => ⟨by omega, by simpa [hcf] using h⟩⟩
        by_cases hfi : fr[c] = i
        ·obtain ⟨p, hp⟩ := ring_of HR.out HN.out hik2 hd.2 (by rw [hd.1]; simp [hcf, hfi])
         have LE := least_any a k cap nm c p wr (Blk.below HB.out HB3.out (Blk.lt HB.out)) HN.out hp
         have HMM : Hid (Met nm k i) := HMET.out.2 hfi
         rw [hfi] at g1
         have hln4 : Hid (ln ≤ 1000) := by have h1 := HCL.out; have h2 := HLN.out; have h3 : ln ≤ 1000 := (by omega); exact h3
         have hrs : Hid (r + 1 ≤ wr.heap.size) := Blk.lt HK3.out
         clear gn hd hp HMET hfc hfi
         go_wp2_with (first
          | (go_at_call 134; refine LE.mono ?_; clear LE; rintro e w1 ⟨⟨m, rfl, hm⟩, hw⟩; obtain rfl := hw.symm; have HLR : Hid (LeastR nm c m) := hm; clear hm hw)
          | (at_builtin; refine wpList_app _ rfl _ _ 90 90 rfl (r + 1) 3 i0 (.int .i64 0) 8 Tryz.underlying90 hi0 hz0 hz1 hz2 rfl (.slice ad ln capl) ln (C.map (Value.int .i64)) rfl (HROW3.out.alloc _) _ 1 [.int .i64 m] rfl (src_one Tryz.underlying90 wr _ _ rfl) (by have := hln4.out; unfold maxLen; omega) (by have := hln4.out; omega) (by rw [World.size_alloc]; have := hrs.out; omega) ?_; intro v8 w8 o8 g8 m8; obtain ⟨ad8, cap8, rfl⟩ := owns_slice o8; have H8 : Hid (w8.ownsRow (r + 1) 3 1 (.slice ad8 (ln + 1) cap8) (ln + 1) (C.map (Value.int .i64) ++ [.int .i64 m]) ∧ Upd (fun j => (Value.slice ad ln capl).ownBlock = some j) wr w8) := ⟨o8, ⟨g8.os, g8.tape, g8.output, (by have := g8.size; rw [World.size_alloc] at this; omega), fun j hj hn => (g8.block j (by rw [World.size_alloc]; omega) (fun e => hn e.symm)).trans (Below.heap_alloc wr _ j hj)⟩⟩; clear o8 g8 m8))
         go_roundw
         case rel =>
          have hbl : ∀ j, (Value.slice ad ln capl).ownBlock = some j → r + 1 ≤ j := fun j e => (owns_lt HROW3.out e).1
          refine ⟨i + 1, C ++ [m], by go_num, by omega, by rw [HD.out.1]; exact HL.out, ?_, ?_, Or.inl ⟨HMM.out, C, m, HCC.out, by rw [HD.out.2]; exact HLR.out, rfl⟩, by have := HCL.out; simp; omega, ?_⟩
          ·rw [HD.out.1]
           exact HK3.out.upd H8.out.2 (fun e => by have := hbl r e; omega)
          ·exact HB3.out.trans (H8.out.2.below HB3.out.size (fun j hj e => by have := hbl j e; have := HRR.out; omega))
          ·have := H8.out.1
           rw [List.length_append, HLN.out, List.map_append]
           exact this
         case measure => simp [intOf]; omega
        ·have HNM : Hid (¬ Met nm k i) := fun h => hfi (HMET.out.1 h)
         generalize fr[c] = m at g1 hfc hfi
         clear gn hd HMET
         go_wp2
         go_roundw
         case rel => exact ⟨i + 1, C, by simp, by omega, by rw [HD.out.1]; exact HL.out, by rw [HD.out.1]; exact HK3.out, HB3.out, Or.inr ⟨HNM.out, HCC.out⟩, by have := HCL.out; omega, by rw [HLN.out]; exact HROW3.out⟩
         case measure => simp [intOf]; omega
    ·obtain rfl : i = k := by omega
     go_wp2
     go_ret
     refine ⟨_, C, rfl, HCC.out, HCL.out, ?_, HB2.out⟩
     rw [HLN.out]
     exact owns_low HROW.out (by have := HRR.out; omega)
def loopS (s : Spot) : Spot := { s with nd := { s.nd with org := 3 } }
def cutN (C : List Int) (nm : List Int) : List Int := C.foldl (fun nm c => nm.set c.toNat (-1)) nm
def cutX (C : List Int) (X : List Spot) : List Spot := C.foldl (fun X c => X.modify c.toNat loopS) X
theorem cutN_len (C : List Int) : ∀ nm : List Int, (cutN C nm).length = nm.length := by
 induction C with
 | nil => exact fun _ => rfl
 | cons c r ih => exact fun nm => (ih _).trans (by simp)
theorem cutX_len (C : List Int) : ∀ X : List Spot, (cutX C X).length = X.length := by
 induction C with
 | nil => exact fun _ => rfl
 | cons c r ih => exact fun X => (ih _).trans (by simp)
theorem cutN_app (C : List Int) (c : Int) (nm : List Int) : cutN (C ++ [c]) nm = (cutN C nm).set c.toNat (-1) := by simp [cutN]
theorem cutX_app (C : List Int) (c : Int) (X : List Spot) : cutX (C ++ [c]) X = (cutX C X).modify c.toNat loopS := by simp [cutX]
theorem cutN_range (C : List Int) (n : Nat) : ∀ nm : List Int, (∀ x ∈ nm, -1 ≤ x ∧ x < (n : Int)) → ∀ x ∈ cutN C nm, -1 ≤ x ∧ x < (n : Int) := by
 induction C with
 | nil => exact fun _ h => h
 | cons c r ih =>
  intro nm h
  refine ih _ fun x hx => ?_
  rcases List.mem_or_eq_of_mem_set hx with h' | h'
  ·exact h x h'
  ·rw [h']; omega
theorem cutX_kv (C : List Int) (v : Value) : ∀ X : List Spot, (∀ i (h : i < X.length), X[i].kv = v) → ∀ i (h : i < (cutX C X).length), (cutX C X)[i].kv = v := by
 induction C with
 | nil => exact fun _ h => h
 | cons c r ih =>
  intro X h
  refine ih _ fun i hi => ?_
  rw [List.getElem_modify]
  split
  ·exact h i (by simpa using hi)
  ·exact h i (by simpa using hi)
theorem CutsL.range {nm : List Int} {n : Nat} (hr : ∀ x ∈ nm, -1 ≤ x ∧ x < (n : Int)) (hn : nm.length = n) : ∀ (k : Nat) (C : List Int), k ≤ n → CutsL nm n k C → ∀ c ∈ C, 0 ≤ c ∧ c < (n : Int)
 | 0, C, _, h => fun c hc => by rw [show C = [] from h] at hc; cases hc
 | k + 1, C, hk, h => fun c hc => by
  rcases h with ⟨hm, C0, m, h1, h2, rfl⟩ | ⟨_, h1⟩
  ·rcases List.mem_append.1 hc with h' | h'
   ·exact CutsL.range hr hn k C0 (by omega) h1 c h'
   ·simp at h'
    subst h'
    obtain ⟨q1, q2⟩ := hm
    have hlow : -1 ≤ cutEnd nm n k := by
     have h0 := frAt_len nm n hr hn k (by omega)
     exact (cutIn_back nm n k hr hn (n + 1) _ k h0 (by omega) (by omega) (fun q hq e => by
      have hl := frAt_low nm n k
      rw [List.getD_eq_getElem?_getD, List.getElem?_eq_getElem (by omega)] at e
      have := hl _ (List.getElem_mem (show q < (frAt nm n k).length by omega))
      simp at e
      omega)).2.2.1
    obtain ⟨p, hp⟩ := ring_of hr hn (show k < n by omega) (c := (cutEnd nm n k).toNat) (by omega) q2
    rw [show (((cutEnd nm n k).toNat : Nat) : Int) = cutEnd nm n k by omega] at hp
    obtain ⟨⟨j, e⟩, _⟩ := h2
    obtain ⟨t, t1, t2⟩ := hp.in_ j
    rw [e, t2]
    exact hp.ins t t1
  ·exact CutsL.range hr hn k C (by omega) h1 c hc
theorem modify_loop (X : List Spot) (i : Nat) (h : i < X.length) : X.modify i loopS = X.set i (loopS X[i]) := by
 apply List.ext_getElem
 ·simp
 ·intro k h1 h2
  rw [List.getElem_modify, List.getElem_set]
  by_cases e : i = k
  ·subst e; simp
  ·simp [e]
def CutW (f sb r n b : Nat) (lv : Value) (C nm0 : List Int) (X0 : List Spot) (w2 : World) (x : Value) (wq : World) : Prop :=
 ∃ j : Nat, x = .int .i64 j ∧ j ≤ C.length ∧ Blk wq r (intB (cutN (C.take j) nm0)) 3 ∧ Blk wq sb (rowS (cutX (C.take j) X0)) 104 ∧ Blk wq f #[.slice (some ⟨sb, 0, none⟩) n n, .slice none 0 0] 92 ∧ wq.ownsRow b 3 1 lv C.length (C.map (Value.int .i64)) ∧ Upd (fun k => k = sb ∨ k = r) w2 wq
set_option maxHeartbeats 8000000 in
theorem plantR_any (f sb : Nat) (X0 : List Spot) (w : World) (hh : Blk w f #[.slice (some ⟨sb, 0, none⟩) X0.length X0.length, .slice none 0 0] 92) (hB : Blk w sb (rowS X0) 104) (hne : f ≠ sb) (hk : ∀ i (h : i < X0.length), X0[i].kv = .slice none 0 0) (hr : RiseS X0) (hl : X0.length ≤ 1000) :
  Calls Tryz.prog 55 #[.pointer (some ⟨f, 0, none⟩)] w fun e w' => e = .returned (.tuple #[]) ∧ ∃ C, CutsL (nmOf X0) X0.length X0.length C ∧ Planted w f sb (cutX C X0) (cutN C (nmOf X0)) w' := by
 have hnl : (nmOf X0).length = X0.length := by simp [nmOf]
 have hnr : ∀ x ∈ nmOf X0, -1 ≤ x ∧ x < X0.length := fun x hx => by
  unfold nmOf at hx
  obtain ⟨s, _, rfl⟩ := List.mem_map.1 hx
  exact idx_range X0 _
 have NA := named_any f sb X0 w (hh.cell 0 rfl) hB hr hl
 have HCU : Hid (∀ r W, Blk W r (intB (nmOf X0)) 3 → Calls Tryz.prog 87 #[.slice (some ⟨r, 0, none⟩) X0.length X0.length] W fun e w' => ∃ v C, e = .returned v ∧ CutsL (nmOf X0) X0.length X0.length C ∧ C.length ≤ X0.length ∧ w'.ownsRow W.heap.size 3 1 v C.length (C.map (Value.int .i64)) ∧ Below W.heap.size W w') := fun r W hB1 => cuts_any r X0.length X0.length (nmOf X0) W hB1 hnl hl hnr
 obtain ⟨i0, hi0, hz0, hz1, hz2⟩ := infoI_parts
 have HBK : Hid (Blk w f #[.slice (some ⟨sb, 0, none⟩) X0.length X0.length, .slice none 0 0] 92 ∧ Blk w sb (rowS X0) 104) := ⟨hh, hB⟩
 have HKV : Hid (∀ i (h : i < X0.length), X0[i].kv = .slice none 0 0) := hk
 have HNL0 : Hid ((nmOf X0).length = X0.length) := hnl
 have HNR0 : Hid (∀ x ∈ nmOf X0, -1 ≤ x ∧ x < X0.length) := hnr
 have HFB : Hid (f < w.heap.size ∧ sb < w.heap.size) := ⟨hh.lt, hB.lt⟩
 have HNE : Hid (f ≠ sb) := hne
 obtain ⟨n, hn⟩ : ∃ n, X0.length = n := ⟨_, rfl⟩
 have HN0 : Hid (X0.length = n) := hn
 clear hh hB hk hr hnl hnr hne
 rw [hn] at NA HCU hl HBK
 clear hn
 go_enter Tryz.func55, Tryz.ntmps55
 go_wp2_with (first
  | (go_at_call 86; refine NA.mono ?_; clear NA; rintro e w1 ⟨r, rfl, b1, l1, hb1⟩)
  | (go_at_call 87; refine (HCU.out r w1 b1).mono ?_; rintro e w2 ⟨lv, C, rfl, hC, hCl, hrow, hb2⟩; obtain ⟨ad, capl, rfl⟩ := owns_slice hrow))
 have HB2 : Hid (Below w.heap.size w w2) := hb1.trans (hb2.mono hb1.size)
 have HR2 : Hid (Blk w2 r (intB (nmOf X0)) 3) := Blk.below b1 hb2 (Blk.lt b1)
 have HRL : Hid (w.heap.size ≤ r ∧ r < w1.heap.size ∧ w1.heap.size ≤ w2.heap.size) := ⟨l1, Blk.lt b1, hb2.size⟩
 have HROW : Hid (w2.ownsRow w1.heap.size 3 1 (.slice ad C.length capl) C.length (C.map (Value.int .i64))) := hrow
 have HCC : Hid (CutsL (nmOf X0) n n C) := hC
 have HCR : Hid (∀ c ∈ C, 0 ≤ c ∧ c < (n : Int)) := CutsL.range (by rw [← HN0.out]; exact HNR0.out) (by rw [HNL0.out, HN0.out]) n C (Nat.le_refl _) hC
 obtain ⟨ln, hln⟩ : ∃ ln, C.length = ln := ⟨_, rfl⟩
 have HLN : Hid (C.length = ln) := hln
 rw [hln] at hCl ⊢
 clear b1 l1 hb1 hb2 HCU hrow hC hln
 go_loopw [12] (fun x wr => CutW f sb r n w1.heap.size (.slice ad C.length capl) C (nmOf X0) X0 w2 x wr) (fun x _ => ln - (intOf x).toNat)
 case atStart => exact ⟨0, rfl, Nat.zero_le _, HR2.out, HBK.out.2.below HB2.out HFB.out.2, HBK.out.1.below HB2.out HFB.out.1, HROW.out, Upd.refl _ _⟩
 case round =>
  obtain ⟨j, rfl, hj, k1, k2, k3, k4, k5⟩ := hrel
  have HK : Hid (Blk wr r (intB (cutN (C.take j) (nmOf X0))) 3 ∧ Blk wr sb (rowS (cutX (C.take j) X0)) 104 ∧ Blk wr f #[.slice (some ⟨sb, 0, none⟩) n n, .slice none 0 0] 92 ∧ wr.ownsRow w1.heap.size 3 1 (.slice ad C.length capl) C.length (C.map (Value.int .i64)) ∧ Upd (fun k => k = sb ∨ k = r) w2 wr) := ⟨k1, k2, k3, k4, k5⟩
  clear k1 k2 k3 k4 k5
  by_cases hjl : j < ln
  ·have hjC : j < C.length := by rw [HLN.out]; exact hjl
   have hcr := HCR.out _ (List.getElem_mem hjC)
   obtain ⟨c, hc⟩ : ∃ c : Nat, C[j] = (c : Int) := ⟨C[j].toNat, by omega⟩
   rw [hc] at hcr
   have hcn : c < n := by omega
   obtain ⟨k1, k2, k3, k4, k5⟩ := HK.out
   obtain ⟨g, rfl⟩ : ∃ g, ad = some ⟨g, 0, none⟩ := by
    rcases k4.2 with ⟨_, e⟩ | ⟨g, cap', cur, e, _⟩
    ·omega
    ·simp at e; exact ⟨g, e.1⟩
   have hlN : c < (cutN (C.take j) (nmOf X0)).length := by rw [cutN_len, HNL0.out, HN0.out]; exact hcn
   have hlX : c < (cutX (C.take j) X0).length := by rw [cutX_len, HN0.out]; exact hcn
   have hg := owns_lt k4 (g := g) rfl
   have hfr : f ≠ r := by have := HRL.out; have := HFB.out; omega
   have hsr : sb ≠ r := by have := HRL.out; have := HFB.out; omega
   have g0 : wr.cell? ⟨g, j, none⟩ = some (.int .i64 c) := by
    have := k4.cells (g := g) rfl j (.int .i64 c) (by simp [hjC, hc])
    rw [Addr.add_mid, Nat.zero_add] at this
    exact this
   have g1 : wr.cell? ⟨r, c, none⟩ = some (.int .i64 (cutN (C.take j) (nmOf X0))[c]) := Blk.cell k1 c (intB_get _ c hlN)
   have g2 : wr.frozen? ⟨r, c, none⟩ = false := Blk.frozen k1 c
   have B2 : Blk (wr.setCell ⟨r, c, none⟩ (.int .i64 (-1))) sb (rowS (cutX (C.take j) X0)) 104 := Blk.other k2 ⟨r, c, none⟩ _ hsr
   have B3 := Blk.other k3 ⟨r, c, none⟩ (.int .i64 (-1)) hfr
   have g3 : (wr.setCell ⟨r, c, none⟩ (.int .i64 (-1))).cell? ⟨f, 0, none⟩ = some (.slice (some ⟨sb, 0, none⟩) n n) := Blk.cell B3 0 rfl
   have R2 := B2.rootF hlX
   have g4 := R2.org
   have g5 := R2.fz (c * 21 + 13 + 2)
   generalize (cutN (C.take j) (nmOf X0))[c] = u1 at g1
   generalize (cutX (C.take j) X0)[c].nd.org = u2 at g4
   have hjI : (j : Int) < (ln : Int) := by omega
   have HTK : Hid (C.take (j + 1) = C.take j ++ [(c : Int)]) := by
    show C.take (j + 1) = _
    rw [List.take_add_one, List.getElem?_eq_getElem hjC, hc]
    rfl
   have HLX : Hid (c < (cutX (C.take j) X0).length) := hlX
   have HGG : Hid (w1.heap.size ≤ g ∧ g < wr.heap.size) := hg
   have HSR : Hid (sb ≠ r ∧ f ≠ r) := ⟨hsr, hfr⟩
   clear k1 k2 k3 k4 k5 hc hjC hlN hlX hg B2 B3 R2 hcr hsr hfr
   go_wp2
   go_roundw
   case rel =>
    obtain ⟨k1, k2, k3, k4, k5⟩ := HK.out
    obtain ⟨s1, s2⟩ := HSR.out
    have U1 : Upd (fun k => k = sb ∨ k = r) wr ((wr.setCell ⟨r, c, none⟩ (.int .i64 (-1))).setCell ⟨sb, c * 21 + 13 + 2, none⟩ (.int .i64 3)) := Upd.setCell (S := fun k => k = sb ∨ k = r) (p := ⟨sb, _, none⟩) (Upd.setCell (S := fun k => k = sb ∨ k = r) (p := ⟨r, _, none⟩) (Upd.refl _ _) (fun _ => Or.inr rfl) _) (fun _ => Or.inl rfl) _
    refine ⟨j + 1, by go_num, by have := HLN.out; omega, ?_, ?_, ?_, ?_, k5.trans U1 (fun _ _ h => h)⟩
    ·rw [HTK.out, cutN_app]
     have := Blk.other (Blk.set k1 c (.int .i64 (-1))) ⟨sb, c * 21 + 13 + 2, none⟩ (.int .i64 3) (fun e => s1 e.symm)
     rw [intB_set] at this
     exact this
    ·rw [HTK.out, cutX_app]
     have := put5 (Blk.other k2 ⟨r, c, none⟩ (.int .i64 (-1)) s1) HLX.out 3
     rw [Int.toNat_natCast, modify_loop _ _ HLX.out]
     exact this
    ·exact Blk.other (Blk.other k3 ⟨r, c, none⟩ (.int .i64 (-1)) s2) ⟨sb, c * 21 + 13 + 2, none⟩ (.int .i64 3) HNE.out
    ·refine ownsRow_upd k4 U1 (fun k e h => ?_)
     have := owns_lt k4 e
     have := HRL.out
     have := HFB.out
     rcases h with h | h <;> omega
   case measure => (simp [intOf]; try omega)
  ·obtain rfl : j = ln := by have := HLN.out; omega
   obtain ⟨XC, hXC⟩ : ∃ XC, cutX C X0 = XC := ⟨_, rfl⟩
   obtain ⟨nm, hnm⟩ : ∃ nm, cutN C (nmOf X0) = nm := ⟨_, rfl⟩
   obtain ⟨k1, k2, k3, k4, k5⟩ := HK.out
   have htk : C.take j = C := List.take_of_length_le (by rw [HLN.out]; exact Nat.le_refl _)
   rw [htk, hnm] at k1
   rw [htk, hXC] at k2
   have HN : Hid (XC.length = n) := by show XC.length = n; rw [← hXC, cutX_len]; exact HN0.out
   have HNL : Hid (nm.length = XC.length) := by show nm.length = XC.length; rw [HN.out, ← hnm, cutN_len, HNL0.out]; exact HN0.out
   have HNR : Hid (∀ x ∈ nm, -1 ≤ x ∧ x < XC.length) := by
    show ∀ x ∈ nm, -1 ≤ x ∧ x < XC.length
    rw [HN.out, ← hnm]
    exact cutN_range C n _ (by rw [← HN0.out]; exact HNR0.out)
   have hkv : ∀ i (h : i < XC.length), XC[i].kv = .slice none 0 0 := by rw [← hXC]; exact cutX_kv C _ X0 HKV.out
   have HFIN : Hid (∃ C, CutsL (nmOf X0) n n C ∧ cutX C X0 = XC ∧ cutN C (nmOf X0) = nm) := ⟨C, HCC.out, hXC, hnm⟩
   have HW0 : Hid (Upd (fun k => k = f ∨ k = sb) w wr) := by
    have u := k5
    refine ⟨u.os.trans HB2.out.os, u.tape.trans HB2.out.tape, u.output.trans HB2.out.output, Nat.le_trans HB2.out.size u.size, fun k hk hn => ?_⟩
    have := HRL.out
    have := HB2.out.size
    rw [u.block k (by omega) (fun h => by rcases h with h | h; exact hn (Or.inr h); omega)]
    exact HB2.out.block k hk
   have hsz : w2.heap.size ≤ wr.heap.size := k5.size
   go_wp2
   obtain ⟨wS, hwS⟩ : ∃ wS, wS = wr := ⟨_, rfl⟩
   subst hwS
   obtain ⟨base, hbase⟩ : ∃ base, wS.heap.size = base := ⟨_, rfl⟩
   have HBASE : Hid (wS.heap.size = base) := hbase
   have P0 : Hid (PlR wS wS base f sb XC nm 0 XC (.slice none 0 0)) := by rw [← hbase]; exact PlR.start (Below.refl _ _) (by rw [HN.out]; exact k3) k2 HNE.out hkv
   have HB3 : Hid (w.heap.size ≤ base) := by rw [← hbase]; exact Nat.le_trans HB2.out.size hsz
   have HRB : Hid (r < base) := by rw [← hbase]; have := HRL.out; show r < wS.heap.size; omega
   have HR3 : Hid (∀ W, Upd (fun j => j = f ∨ j = sb ∨ base ≤ j) wS W → Blk W r (intB nm) 3) := fun W hu => Blk.upd k1 hu (fun hh => by
    have := HRL.out.1; have := HFB.out.1; have := HFB.out.2; have := HRB.out
    rcases hh with h | h | h <;> omega)
   have HUP : Hid (Upd (fun j => j = f ∨ j = sb ∨ base ≤ j) wS wS) := Upd.refl _ _
   clear hbase k1 k2 k3 k4 k5 htk hkv hsz hXC hnm HK HROW HCC HCR
   go_loopw [30] (fun x wq => ∃ (k : Nat) (X : List Spot) (rv : Value), x = .int .i64 k ∧ k ≤ n ∧ PlR wS wq base f sb XC nm k X rv ∧ Upd (fun j => j = f ∨ j = sb ∨ base ≤ j) wS wq) (fun x _ => n - (intOf x).toNat)
   case atStart => exact ⟨0, XC, _, rfl, by omega, P0.out, HUP.out⟩
   case round =>
    obtain ⟨k, X, rv, rfl, hkn, hP, hU⟩ := hrel
    have HP : Hid (PlR wS wr base f sb XC nm k X rv) := hP
    have HR4 : Hid (Blk wr r (intB nm) 3) := HR3.out wr hU
    have HU : Hid _ := hU
    have HXL : Hid (X.length = n) := by have := hP.fl.len; rw [← HN.out]; exact this
    clear hP hU
    by_cases hlt : k < n
    ·have hkX : k < X.length := by rw [HXL.out]; exact hlt
     have hkN : k < nm.length := by rw [HNL.out, HN.out]; exact hlt
     have g1 : wr.cell? ⟨r, k, none⟩ = some (.int .i64 nm[k]) := Blk.cell HR4.out k (intB_get _ k hkN)
     have c0 : wr.cell? ⟨f, 0, none⟩ = some (.slice (some ⟨sb, 0, none⟩) n n) := by have := HP.out.at_.head.cell 0 rfl; rwa [HXL.out] at this
     have hmr := HNR.out _ (List.getElem_mem hkN)
     have hgd : nm.getD k (-1) = nm[k] := by simp [hkN]
     by_cases hm : nm[k] = -1
     ·have RT := root_any sb k X wr HP.out.at_.row hkX
      have FR : Hid (PlF XC (X.set k (rootS X[k])) nm (k + 1)) := HP.out.fl.root hkX (by rw [hgd]; exact hm)
      have HP1 : Hid (∀ w1, Blk w1 sb (rowS (X.set k (rootS X[k]))) 104 → Upd (fun j => j = sb) wr w1 → PlAt base w1 f sb (X.set k (rootS X[k])) (fun i => kidsF nm k i) rv (kidsF nm k (-1))) := fun w1 hB hu => HP.out.at_.spot hkX _ rfl hB hu
      have HKL : Hid ((kidsF nm k (-1)).length ≤ k) := kidsF_len _ _ _
      have HKS : Hid (kidsF nm (k + 1) (-1) = kidsF nm k (-1) ++ [(k : Int)] ∧ ∀ i : Nat, kidsF nm (k + 1) i = kidsF nm k i) := ⟨by rw [kidsF_succ _ _ _ hkN, if_pos hm], fun i => by rw [kidsF_succ _ _ _ hkN, if_neg (by rw [hm]; omega)]⟩
      rw [hm] at g1
      generalize X.set k (rootS X[k]) = X1 at RT FR HP1
      clear hm hgd hmr
      go_wp2_with (first
       | (go_at_call 88; refine RT.mono ?_; clear RT; rintro e w1 ⟨rfl, b1, u1⟩; have Q1 := HP1.out w1 b1 u1; have HQ1 : Hid (PlAt base w1 f sb X1 (fun i => kidsF nm k i) rv (kidsF nm k (-1))) := Q1; have d1 : w1.cell? ⟨f, 1, none⟩ = some rv := Q1.head.cell 1 rfl; have hle := Q1.le; have HU1 : Hid (Upd (fun j => j = sb) wr w1) := u1; have y1 := fun (o : Obj) => (World.cell?_alloc_lt w1 o ⟨f, 1, none⟩ (World.block_lt_of_cell? w1 _ d1)).trans d1; clear b1 u1 Q1 HP1)
       | (at_builtin; refine wpList_app _ rfl _ _ 90 90 rfl base 3 i0 (.int .i64 0) 8 Tryz.underlying90 hi0 hz0 hz1 hz2 rfl rv (kidsF nm k (-1)).length ((kidsF nm k (-1)).map (Value.int .i64)) rfl (HQ1.out.roots.alloc _) _ 1 [.int .i64 (k : Int)] rfl (src_one Tryz.underlying90 w1 _ 3 rfl) (by have := HKL.out; unfold maxLen; omega) (by have := HKL.out; omega) (by rw [World.size_alloc]; omega) ?_; intro v2 w3 o3 g3 m3; obtain ⟨ad2, cap2, rfl⟩ := owns_slice o3; have A3 := HQ1.out.addRoot ((Below.refl _ _).alloc (Nat.le_refl _) _) g3 m3 k o3; have HA3 : Hid (PlAt base (w3.setCell ⟨f, 1, none⟩ (.slice ad2 ((kidsF nm k (-1)).length + 1) cap2)) f sb X1 (fun i => kidsF nm k i) (.slice ad2 ((kidsF nm k (-1)).length + 1) cap2) (kidsF nm k (-1) ++ [(k : Int)]) ∧ Upd (fun k => k = f ∨ base ≤ k) w1 (w3.setCell ⟨f, 1, none⟩ (.slice ad2 ((kidsF nm k (-1)).length + 1) cap2))) := A3; obtain ⟨e1, e2⟩ := HQ1.out.rootCell ((Below.refl _ _).alloc (Nat.le_refl _) _) g3; clear A3 o3 g3 m3))
      go_roundw
      case rel =>
       have hu2 := (HU1.out.mono (S' := fun j => j = f ∨ j = sb ∨ base ≤ j) (fun j _ h => Or.inr (Or.inl h))).trans (HA3.out.2.mono (S' := fun j => j = f ∨ j = sb ∨ base ≤ j) (fun j _ h => by rcases h with h | h; exact Or.inl h; exact Or.inr (Or.inr h))) (fun _ _ h => h)
       refine ⟨k + 1, X1, .slice ad2 ((kidsF nm k (-1)).length + 1) cap2, by simp, by omega, ⟨?_, FR.out, HP.out.upd.trans hu2 (fun _ _ h => h)⟩, HU.out.trans hu2 (fun _ _ h => h)⟩
       exact kids_cast HA3.out.1 (fun i _ => (HKS.out.2 i).symm) HKS.out.1.symm
      case measure => simp [intOf]; omega
     ·obtain ⟨j, hj⟩ : ∃ j : Nat, nm[k] = (j : Int) := ⟨(nm[k]).toNat, by omega⟩
      have hjX : j < X.length := by rw [HXL.out]; have := HN.out; omega
      have hjn : j < n := by have := HN.out; omega
      have e20 : wr.cell? ⟨sb, j * 21 + 20, none⟩ = some X[j].kv := (HP.out.at_.row.spots j hjX).c20
      have HKL : Hid ((kidsF nm k j).length ≤ k) := kidsF_len _ _ _
      have HKS : Hid (kidsF nm (k + 1) (-1) = kidsF nm k (-1) ∧ ∀ i : Nat, (if i = j then kidsF nm k j ++ [(k : Int)] else kidsF nm k i) = kidsF nm (k + 1) i) := ⟨by rw [kidsF_succ _ _ _ hkN, if_neg hm], fun i => by
       rw [kidsF_succ _ _ _ hkN, hj]
       by_cases e : i = j
       ·subst e; simp
       ·rw [if_neg e, if_neg (by omega)]⟩
      have FK : Hid (∀ y : Spot, y.a = X[j].a → y.p = X[j].p → y.nd = X[j].nd → PlF XC (X.set j y) nm (k + 1)) := fun y h1 h2 h3 => HP.out.fl.kid hkX (by rw [hgd]; exact hm) hjX y h1 h2 h3
      have HOK : Hid (∀ W, Below wr.heap.size wr W → W.ownsRow base 3 1 X[j].kv (kidsF nm k j).length ((kidsF nm k j).map (Value.int .i64))) := fun W hb => ownsRow_upd (S := fun _ => False) (HP.out.at_.kids j hjX) (Upd.ofBelow hb (fun k h1 h2 => by omega)) (fun _ _ h => h)
      have HAD : Hid (∀ (w2 w3 : World) (v' : Value), Below wr.heap.size wr w2 → w2.grownBy w3 X[j].kv.ownBlock → Moved w2 X[j].kv v' → w3.ownsRow base 3 1 v' ((kidsF nm k j).length + 1) ((kidsF nm k j).map (Value.int .i64) ++ [.int .i64 (k : Int)]) → (∃ y : Spot, y.a = X[j].a ∧ y.p = X[j].p ∧ y.nd = X[j].nd ∧ PlAt base (w3.setCell ⟨sb, j * 21 + 20, none⟩ v') f sb (X.set j y) (fun i => if i = j then kidsF nm k j ++ [(k : Int)] else kidsF nm k i) rv (kidsF nm k (-1)) ∧ Upd (fun k => k = sb ∨ base ≤ k) wr (w3.setCell ⟨sb, j * 21 + 20, none⟩ v')) ∧ w3.cell? ⟨sb, j * 21 + 20, none⟩ = some X[j].kv ∧ w3.frozen? ⟨sb, j * 21 + 20, none⟩ = false ∧ w3.cell? ⟨f, 0, none⟩ = some (.slice (some ⟨sb, 0, none⟩) n n)) := fun w2 w3 v' hb hg hmv ho => by
       have h1 := HP.out.at_.kidCell hjX hb hg
       rw [HXL.out] at h1
       exact ⟨HP.out.at_.addKid hjX hb hg hmv k ho, h1⟩
      have hle := HP.out.at_.le
      rw [hj] at g1
      generalize X[j].kv = kv at *
      have y0 := fun (o : Obj) => (World.cell?_alloc_lt wr o ⟨f, 0, none⟩ (World.block_lt_of_cell? wr _ c0)).trans c0
      have y1 := fun (o : Obj) => (World.cell?_alloc_lt wr o ⟨sb, j * 21 + 20, none⟩ (World.block_lt_of_cell? wr _ e20)).trans e20
      clear hm hgd hmr hj
      go_wp2
      go_region_law (refine step_app _ (by rfl) _ _ 90 90 (by rfl) base 3 i0 (.int .i64 0) 8 Tryz.underlying90 hi0 hz0 hz1 hz2 rfl kv (kidsF nm k j).length ((kidsF nm k j).map (Value.int .i64)) (by rfl) (HOK.out _ (by repeat' first | exact Below.refl _ _ | refine Below.alloc ?_ (by first | omega | (simp; omega) | (simp; done)) _ | refine Below.drew ?_)) (.slice (some ⟨wr.heap.size, 0, none⟩) 1 1) 1 [.int .i64 (k : Int)] (by rfl) (src_at Tryz.underlying90 (by first | exact heap_alloc_new _ _ | exact heap_alloc_new wr.drew _) rfl) (by have := HKL.out; unfold maxLen; omega) (by have := HKL.out; omega) (by first | (simp; omega) | omega) ?_; intro v8 w8 o8 g8 m8; obtain ⟨ad8, cap8, rfl⟩ := owns_slice o8; obtain ⟨A8, e8, f8, z8⟩ := HAD.out _ w8 _ (by repeat' first | exact Below.refl _ _ | refine Below.alloc ?_ (by first | omega | (simp; omega) | (simp; done)) _ | refine Below.drew ?_) g8 m8 o8; have HA8 : Hid _ := A8; clear A8 o8 g8 m8 HOK)
      all_goals
       go_wp2
       go_roundw
       case rel =>
        obtain ⟨y, h1, h2, h3, hP8, u8⟩ := HA8.out
        have hu2 := u8.mono (S' := fun j => j = f ∨ j = sb ∨ base ≤ j) (fun j _ h => Or.inr h)
        refine ⟨k + 1, X.set j y, rv, by simp, by omega, ⟨?_, FK.out y h1 h2 h3, HP.out.upd.trans hu2 (fun _ _ h => h)⟩, HU.out.trans hu2 (fun _ _ h => h)⟩
        exact kids_cast hP8 (fun i _ => HKS.out.2 i) HKS.out.1.symm
       case measure => simp [intOf]; omega
    ·obtain rfl : k = n := by omega
     go_wp2
     go_end0
     refine ⟨rfl, ?_⟩
     obtain ⟨C, hC1, hC2, hC3⟩ := HFIN.out
     refine ⟨C, by rw [HN0.out]; exact hC1, ?_⟩
     rw [hC2, hC3]
     refine ⟨base, X, rv, HB3.out, ?_, ?_, ?_⟩
     ·rw [HN.out]; exact HP.out.at_
     ·rw [HN.out]; exact HP.out.fl
     ·have u := HP.out.upd
      have u0 := HW0.out
      refine ⟨u.os.trans u0.os, u.tape.trans u0.tape, u.output.trans u0.output, Nat.le_trans u0.size u.size, fun j hj hn => ?_⟩
      have := HB3.out
      have := u0.size
      rw [u.block j (by omega) (fun hh => by
       rcases hh with h | h | h
       ·exact hn (Or.inl h)
       ·exact hn (Or.inr h)
       ·omega)]
      exact u0.block j hj hn
theorem cutIn_stop (nm : List Int) (n : Nat) (i : Int) (hi : i ≠ -1) (hr : ∀ x ∈ nm, -1 ≤ x ∧ x < (n : Int)) (hn : nm.length = n) : ∀ (k : Nat) (fr : List Int) (c : Int), fr.count (-1) < k → fr.length = n → -1 ≤ c → c < n → (cutIn nm i k fr c).2 = -1 ∨ (cutIn nm i k fr c).1.getD (cutIn nm i k fr c).2.toNat 0 ≠ -1
 | 0, fr, c, h, _, _, _ => by omega
 | k + 1, fr, c, h, hl, h1, h2 => by
  rw [cutIn]
  by_cases hc : c = -1
  ·rw [if_pos hc]; exact Or.inl hc
  ·rw [if_neg hc]
   by_cases hf : fr.getD c.toNat 0 ≠ -1
   ·rw [if_pos hf]; exact Or.inr hf
   ·rw [if_neg hf]
    have hcn : c.toNat < nm.length := by omega
    have hcf : c.toNat < fr.length := by omega
    have hm : -1 ≤ nm.getD c.toNat 0 ∧ nm.getD c.toNat 0 < n := by
     rw [List.getD_eq_getElem?_getD, List.getElem?_eq_getElem hcn]
     exact hr _ (List.getElem_mem hcn)
    have hf' : fr[c.toNat] = -1 := by
     rw [List.getD_eq_getElem?_getD, List.getElem?_eq_getElem hcf] at hf
     simpa using hf
    have := count_set fr c.toNat hcf hf' i hi
    exact cutIn_stop nm n i hi hr hn k _ _ (by omega) (by simp [hl]) hm.1 hm.2
theorem cutIn_vals (nm : List Int) (i : Int) : ∀ (k : Nat) (fr : List Int) (c : Int) (q : Nat), (cutIn nm i k fr c).1.getD q 0 = fr.getD q 0 ∨ (fr.getD q 0 = -1 ∧ (cutIn nm i k fr c).1.getD q 0 = i)
 | 0, fr, c, q => Or.inl rfl
 | k + 1, fr, c, q => by
  rw [cutIn]
  by_cases hc : c = -1
  ·rw [if_pos hc]; exact Or.inl rfl
  ·rw [if_neg hc]
   by_cases hf : fr.getD c.toNat 0 ≠ -1
   ·rw [if_pos hf]; exact Or.inl rfl
   ·rw [if_neg hf]
    have hf' : fr.getD c.toNat 0 = -1 := by omega
    by_cases hq : c.toNat = q
    ·subst hq
     have hcl : c.toNat < fr.length := by
      rcases Nat.lt_or_ge c.toNat fr.length with h | h
      ·exact h
      ·rw [List.getD_eq_getElem?_getD, List.getElem?_eq_none h] at hf'
       simp at hf'
     have hs : (fr.set c.toNat i).getD c.toNat 0 = i := by simp [hcl]
     rcases cutIn_vals nm i k (fr.set c.toNat i) (nm.getD c.toNat 0) c.toNat with h | ⟨h, h'⟩
     ·exact Or.inr ⟨hf', by rw [h, hs]⟩
     ·exact Or.inr ⟨hf', h'⟩
    ·have hs : (fr.set c.toNat i).getD q 0 = fr.getD q 0 := by
      rw [List.getD_eq_getElem?_getD, List.getD_eq_getElem?_getD, List.getElem?_set_ne hq]
     rcases cutIn_vals nm i k (fr.set c.toNat i) (nm.getD c.toNat 0) q with h | ⟨h, h'⟩
     ·exact Or.inl (by rw [h, hs])
     ·exact Or.inr ⟨by rw [← hs]; exact h, h'⟩
theorem frAt_back (nm : List Int) (n : Nat) (hr : ∀ x ∈ nm, -1 ≤ x ∧ x < (n : Int)) (hn : nm.length = n) (i : Nat) (hi : i < n) : Back nm n i (frAt nm n (i + 1)) (cutEnd nm n i) ∧ -1 ≤ cutEnd nm n i ∧ cutEnd nm n i < n ∧ (cutEnd nm n i = -1 ∨ (frAt nm n (i + 1)).getD (cutEnd nm n i).toNat 0 ≠ -1) := by
 have h0 := frAt_len nm n hr hn i (by omega)
 obtain ⟨hb, _, h1, h2⟩ := cutIn_back nm n i hr hn (n + 1) _ i h0 (by omega) (by omega) (fun q hq e => by
   have hl := frAt_low nm n i
   rw [List.getD_eq_getElem?_getD, List.getElem?_eq_getElem (by omega)] at e
   have := hl _ (List.getElem_mem (show q < (frAt nm n i).length by omega))
   simp at e
   omega)
 exact ⟨hb, h1, h2, cutIn_stop nm n i (by omega) hr hn (n + 1) _ i (by have := List.count_le_length (a := (-1 : Int)) (l := frAt nm n i); omega) h0 (by omega) (by omega)⟩
theorem frAt_own (nm : List Int) (n : Nat) (hr : ∀ x ∈ nm, -1 ≤ x ∧ x < (n : Int)) (hn : nm.length = n) (q : Nat) (hq : q < n) : (frAt nm n (q + 1)).getD q 0 ≠ -1 := by
 have h0 := frAt_len nm n hr hn q (by omega)
 show (cutIn nm q (n + 1) (frAt nm n q) q).1.getD q 0 ≠ -1
 by_cases hf : (frAt nm n q).getD q 0 ≠ -1
 ·rcases cutIn_vals nm q (n + 1) (frAt nm n q) q q with h | ⟨h, _⟩
  ·rw [h]; exact hf
  ·exact absurd h hf
 ·rw [cutIn, if_neg (by omega), if_neg (by simpa using hf)]
  rcases cutIn_vals nm q n ((frAt nm n q).set (q : Int).toNat q) (nm.getD (q : Int).toNat 0) q with h | ⟨_, h⟩
  ·rw [h]
   have : ((frAt nm n q).set (q : Int).toNat (q : Int)).getD q 0 = q := by simp [h0, hq]
   rw [this]
   omega
  ·rw [h]; omega
def InR (nm : List Int) (c q : Int) : Prop := ∃ t, q = upN nm t c
theorem InR.up {nm : List Int} {c q : Int} (h : InR nm c q) (j : Nat) : InR nm c (upN nm j q) := by
 obtain ⟨t, rfl⟩ := h
 exact ⟨t + j, by rw [upN_add]⟩
theorem Ring.inn {nm : List Int} {n : Nat} {c : Int} {p : Nat} (h : Ring nm n c p) {q : Int} (hq : InR nm c q) : 0 ≤ q ∧ q < n := by
 obtain ⟨t, rfl⟩ := hq
 obtain ⟨s, s1, s2⟩ := h.in_ t
 rw [s2]
 exact h.ins s s1
theorem ring_met {nm : List Int} {n : Nat} (hr : ∀ x ∈ nm, -1 ≤ x ∧ x < (n : Int)) (hn : nm.length = n) {c : Int} {p : Nat} (h : Ring nm n c p) : ∃ i, i < n ∧ Met nm n i ∧ InR nm c (cutEnd nm n i) := by
 have base : ∀ q : Int, InR nm c q → (frAt nm n 0).getD q.toNat 0 = -1 := fun q hq => by
  have := h.inn hq
  simp [frAt, List.getD_eq_getElem?_getD, show q.toNat < n by omega]
 have key : ∀ k, k ≤ n → (∀ q : Int, InR nm c q → (frAt nm n k).getD q.toNat 0 = -1) ∨ ∃ i, i < k ∧ Met nm n i ∧ InR nm c (cutEnd nm n i) := by
  intro k
  induction k with
  | zero => exact fun _ => Or.inl base
  | succ k ih =>
   intro hk
   rcases ih (by omega) with h1 | ⟨i, h1, h2⟩
   ·by_cases hall : ∀ q : Int, InR nm c q → (frAt nm n (k + 1)).getD q.toNat 0 = -1
    ·exact Or.inl hall
    ·right
     obtain ⟨q, hq⟩ := Classical.not_forall.1 hall
     obtain ⟨hq1, hq2⟩ := Classical.not_imp.1 hq
     obtain ⟨hb, c1, c2, c3⟩ := frAt_back nm n hr hn k (by omega)
     have val : ∀ y : Int, InR nm c y → (frAt nm n (k + 1)).getD y.toNat 0 ≠ -1 → (frAt nm n (k + 1)).getD y.toNat 0 = k := fun y hy hne => by
      rcases cutIn_vals nm k (n + 1) (frAt nm n k) k y.toNat with e | ⟨_, e⟩
      ·exact absurd (e.trans (h1 y hy)) hne
      ·exact e
     have hqr := h.inn hq1
     obtain ⟨j, j1, j2, _⟩ := hb q.toNat (by omega) (val q hq1 hq2)
     rw [show ((q.toNat : Nat) : Int) = q by omega] at j2
     have hin : InR nm c (cutEnd nm n k) := by rw [← j2]; exact hq1.up j
     have hcr := h.inn hin
     refine ⟨k, by omega, ⟨by omega, val _ hin ?_⟩, hin⟩
     rcases c3 with c3 | c3
     ·omega
     ·exact c3
   ·exact Or.inr ⟨i, by omega, h2⟩
 rcases key n (Nat.le_refl _) with h1 | ⟨i, h1, h2⟩
 ·exfalso
  have hc := h.inn (q := c) ⟨0, rfl⟩
  have h2 := frAt_own nm n hr hn c.toNat (by omega)
  have mono : ∀ d, c.toNat + 1 + d ≤ n → (frAt nm n (c.toNat + 1 + d)).getD c.toNat 0 ≠ -1 := by
   intro d
   induction d with
   | zero => exact fun _ => h2
   | succ d ih =>
    intro hd
    have := ih (by omega)
    show (cutIn nm ((c.toNat + 1 + d : Nat) : Int) (n + 1) (frAt nm n (c.toNat + 1 + d)) ((c.toNat + 1 + d : Nat) : Int)).1.getD c.toNat 0 ≠ -1
    rcases cutIn_vals nm ((c.toNat + 1 + d : Nat) : Int) (n + 1) (frAt nm n (c.toNat + 1 + d)) ((c.toNat + 1 + d : Nat) : Int) c.toNat with e | ⟨e, _⟩
    ·rw [e]; exact this
    ·exact absurd e this
  have := mono (n - (c.toNat + 1)) (by omega)
  rw [show c.toNat + 1 + (n - (c.toNat + 1)) = n by omega] at this
  exact this (h1 c ⟨0, rfl⟩)
 ·exact ⟨i, h1, h2⟩
theorem CutsL.has {nm : List Int} {n : Nat} : ∀ (k : Nat) (C : List Int), CutsL nm n k C → ∀ i, i < k → Met nm n i → ∃ m ∈ C, LeastR nm (cutEnd nm n i) m
 | 0, _, _ => fun i hi => by omega
 | k + 1, C, h => fun i hi hm => by
  rcases h with ⟨_, C0, m, h1, h2, rfl⟩ | ⟨hn, h1⟩
  ·by_cases e : i = k
   ·subst e
    exact ⟨m, by simp, h2⟩
   ·obtain ⟨m', m1, m2⟩ := CutsL.has k C0 h1 i (by omega) hm
    exact ⟨m', by simp [m1], m2⟩
  ·by_cases e : i = k
   ·subst e
    exact absurd hm hn
   ·exact CutsL.has k C h1 i (by omega) hm
theorem ring_cut {nm : List Int} {n : Nat} (hr : ∀ x ∈ nm, -1 ≤ x ∧ x < (n : Int)) (hn : nm.length = n) {C : List Int} (hC : CutsL nm n n C) {c : Int} {p : Nat} (h : Ring nm n c p) : ∃ m ∈ C, InR nm c m := by
 obtain ⟨i, hi, hm, hin⟩ := ring_met hr hn h
 obtain ⟨m, m1, ⟨j, m2⟩, _⟩ := hC.has n C i hi hm
 exact ⟨m, m1, by rw [m2]; exact hin.up j⟩
theorem cutN_get (C : List Int) : ∀ (nm : List Int) (q : Nat), q < nm.length → (cutN C nm).getD q 0 = if ∃ c ∈ C, c.toNat = q then -1 else nm.getD q 0 := by
 induction C with
 | nil => intro nm q hq; simp [cutN]
 | cons c r ih =>
  intro nm q hq
  show (cutN r (nm.set c.toNat (-1))).getD q 0 = _
  rw [ih _ q (by simpa using hq)]
  by_cases h : ∃ c' ∈ r, c'.toNat = q
  ·rw [if_pos h, if_pos (by obtain ⟨c', h1, h2⟩ := h; exact ⟨c', by simp [h1], h2⟩)]
  ·rw [if_neg h]
   by_cases hc : c.toNat = q
   ·rw [if_pos ⟨c, by simp, hc⟩]
    subst hc
    simp [hq]
   ·rw [if_neg (by rintro ⟨c', h1, h2⟩; rcases List.mem_cons.1 h1 with rfl | h1; exact hc h2; exact h ⟨c', h1, h2⟩)]
    rw [List.getD_eq_getElem?_getD, List.getD_eq_getElem?_getD, List.getElem?_set_ne hc]
theorem sub_len : ∀ (l m : List Nat), l.Nodup → (∀ x ∈ l, x ∈ m) → l.length ≤ m.length
 | [], m, _, _ => Nat.zero_le _
 | a :: r, m, hn, h => by
  have ha := h a (by simp)
  have hn' := List.nodup_cons.1 hn
  have h1 := sub_len r (m.erase a) hn'.2 (fun x hx => (List.mem_erase_of_ne (fun e : x = a => hn'.1 (by rw [← e]; exact hx))).2 (h x (by simp [hx])))
  rw [List.length_erase_of_mem ha] at h1
  have := List.length_pos_of_mem ha
  simp only [List.length_cons]
  omega
def Ends (nm : List Int) (n : Nat) (i : Int) (k : Nat) : Prop := upN nm k i = -1 ∧ ∀ t, t < k → 0 ≤ upN nm t i ∧ upN nm t i < n
theorem cut_ends {nm : List Int} {n : Nat} (hr : ∀ x ∈ nm, -1 ≤ x ∧ x < (n : Int)) (hn : nm.length = n) {C : List Int} (hC : CutsL nm n n C) (i : Nat) (hi : i < n) : ∃ k, Ends (cutN C nm) n i k := by
 have hr' := cutN_range C n nm hr
 have hn' : (cutN C nm).length = n := by rw [cutN_len]; exact hn
 have step : ∀ q : Int, 0 ≤ q → q < n → -1 ≤ (cutN C nm).getD q.toNat 0 ∧ (cutN C nm).getD q.toNat 0 < n := fun q h1 h2 => by
  have hq : q.toNat < (cutN C nm).length := by omega
  rw [List.getD_eq_getElem?_getD, List.getElem?_eq_getElem hq]
  exact hr' _ (List.getElem_mem hq)
 apply Classical.byContradiction
 intro hno
 have all : ∀ k, 0 ≤ upN (cutN C nm) k i ∧ upN (cutN C nm) k i < n := by
  intro k
  induction k using Nat.strongRecOn with
  | ind k ih =>
   cases k with
   | zero => simp only [upN]; omega
   | succ k =>
    have h1 := ih k (by omega)
    have h2 := step _ h1.1 h1.2
    rw [← upN_succ] at h2
    refine ⟨?_, h2.2⟩
    apply Classical.byContradiction
    intro h3
    exact hno ⟨k + 1, by omega, fun t ht => ih t (by omega)⟩
 -- two of n + 1 are the same
 obtain ⟨a, b, hab, e⟩ : ∃ a b, a < b ∧ upN (cutN C nm) a i = upN (cutN C nm) b i := by
  apply Classical.byContradiction
  intro hne
  have hnd : ((List.range (n + 1)).map (fun k => (upN (cutN C nm) k i).toNat)).Nodup := by
   rw [List.nodup_iff_pairwise_ne, List.pairwise_map]
   refine List.Pairwise.imp ?_ List.pairwise_lt_range
   intro a b hab e
   refine hne ⟨a, b, hab, ?_⟩
   have := all a
   have := all b
   omega
  have hsub : (List.range (n + 1)).map (fun k => (upN (cutN C nm) k i).toNat) ⊆ List.range n := fun x hx => by
   obtain ⟨k, _, rfl⟩ := List.mem_map.1 hx
   have := all k
   exact List.mem_range.2 (by omega)
  have := sub_len _ _ hnd hsub
  simp at this
  omega
 obtain ⟨p, hp⟩ := ring_least (nm := cutN C nm) (n := n) (c := upN (cutN C nm) a i) (j := b - a) (by omega) (by rw [← upN_add, show a + (b - a) = b by omega]; exact e.symm) (fun t _ => by rw [← upN_add]; exact all _)
 -- it is a ring of old
 have not_cut : ∀ t, ¬ ∃ c ∈ C, c.toNat = (upN (cutN C nm) (a + t) i).toNat := fun t hc => by
  have h1 := all (a + t)
  have h2 := all (a + t + 1)
  rw [upN_succ, cutN_get C nm _ (by omega), if_pos hc] at h2
  omega
 have same : ∀ t, upN nm t (upN (cutN C nm) a i) = upN (cutN C nm) (a + t) i := by
  intro t
  induction t with
  | zero => rfl
  | succ t ih =>
   have h1 := all (a + t)
   rw [upN_succ, ih, show a + (t + 1) = a + t + 1 by omega, upN_succ, cutN_get C nm _ (by omega), if_neg (not_cut t)]
 obtain ⟨p', hp'⟩ := ring_least (nm := nm) (n := n) (c := upN (cutN C nm) a i) (j := p) hp.pos (by rw [same, upN_add]; exact hp.back) (fun t _ => by rw [same]; exact all _)
 obtain ⟨m, m1, t, m2⟩ := ring_cut hr hn hC hp'
 exact not_cut t ⟨m, m1, by rw [m2, same]⟩
structure TreeK (KN : Nat → List Nat) (up dp : Nat → Nat) (n B : Nat) : Prop where
 hup : ∀ i, i < n → ∀ c ∈ KN i, up c = i
 hdp : ∀ i, i < n → ∀ c ∈ KN i, dp c = dp i + 1
 hlt : ∀ i, i < n → ∀ c ∈ KN i, c < n
 hnd : ∀ i, i < n → (KN i).Nodup
 hbd : ∀ i, i < n → dp i ≤ B
def upI (up : Nat → Nat) : Nat → Nat → Nat
 | 0, y => y
 | k + 1, y => up (upI up k y)
theorem TreeK.deep {KN : Nat → List Nat} {up dp : Nat → Nat} {n B : Nat} (h : TreeK KN up dp n B) : ∀ (fu : Nat) (L : List Nat), (∀ x ∈ L, x < n ∧ B < dp x + fu) → DeepN KN fu L
 | 0, L, hL => by
  show L = []
  cases L with
  | nil => rfl
  | cons x r =>
   have := hL x (by simp)
   have := h.hbd x this.1
   omega
 | fu + 1, L, hL => fun x hx => h.deep fu (KN x) (fun c hc => by
   have h1 := hL x hx
   have h2 := h.hdp x h1.1 c hc
   exact ⟨h.hlt x h1.1 c hc, by omega⟩)
theorem TreeK.above {KN : Nat → List Nat} {up dp : Nat → Nat} {n B : Nat} (h : TreeK KN up dp n B) : ∀ (fu : Nat) (L : List Nat), (∀ x ∈ L, x < n) → ∀ y ∈ preN KN fu L, y < n ∧ ∃ x ∈ L, ∃ k, upI up k y = x ∧ dp y = dp x + k
 | 0, L, _, y, hy => by simp [preN] at hy
 | fu + 1, L, hL, y, hy => by
  simp only [preN, List.mem_flatMap, List.mem_cons] at hy
  obtain ⟨x, hx, rfl | hy⟩ := hy
  ·exact ⟨hL y hx, y, hx, 0, rfl, rfl⟩
  ·obtain ⟨h1, c, hc, k, h2, h3⟩ := h.above fu (KN x) (h.hlt x (hL x hx)) y hy
   refine ⟨h1, x, hx, k + 1, ?_, ?_⟩
   ·show up (upI up k y) = x
    rw [h2]
    exact h.hup x (hL x hx) c hc
   ·have := h.hdp x (hL x hx) c hc
    omega
theorem TreeK.nodup {KN : Nat → List Nat} {up dp : Nat → Nat} {n B : Nat} (h : TreeK KN up dp n B) : ∀ (fu d : Nat) (L : List Nat), (∀ x ∈ L, x < n ∧ dp x = d) → L.Nodup → (preN KN fu L).Nodup
 | 0, _, L, _, _ => List.nodup_nil
 | fu + 1, d, L, hL, hn => by
  show (L.flatMap (fun x => x :: preN KN fu (KN x))).Pairwise (· ≠ ·)
  rw [List.pairwise_flatMap]
  refine ⟨fun x hx => ?_, ?_⟩
  ·have hxn := (hL x hx).1
   refine List.nodup_cons.2 ⟨fun hm => ?_, h.nodup fu (dp x + 1) (KN x) (fun c hc => ⟨h.hlt x hxn c hc, h.hdp x hxn c hc⟩) (h.hnd x hxn)⟩
   obtain ⟨_, c, hc, k, _, h3⟩ := h.above fu (KN x) (h.hlt x hxn) x hm
   have := h.hdp x hxn c hc
   omega
  ·refine List.Pairwise.imp_of_mem ?_ hn
   intro a b ha hb hab y hy z hz e
   subst e
   have key : ∀ x, x ∈ L → y ∈ x :: preN KN fu (KN x) → ∃ k, upI up k y = x ∧ dp y = d + k := fun x hx hy => by
    have hy' : y ∈ preN KN (fu + 1) [x] := by rw [preN_one]; exact hy
    obtain ⟨_, x', hx', k, h1, h2⟩ := h.above (fu + 1) [x] (fun z hz => by simp at hz; subst hz; exact (hL z hx).1) y hy'
    simp at hx'
    subst hx'
    exact ⟨k, h1, by rw [h2, (hL x' hx).2]⟩
   obtain ⟨k, k1, k2⟩ := key a ha hy
   obtain ⟨l, l1, l2⟩ := key b hb hz
   have : k = l := by omega
   subst this
   exact hab (k1.symm.trans l1)
theorem TreeK.len {KN : Nat → List Nat} {up dp : Nat → Nat} {n B : Nat} (h : TreeK KN up dp n B) (fu x : Nat) (hx : x < n) : (preN KN fu [x]).Nodup ∧ (preN KN fu [x]).length ≤ n := by
 have h1 := h.nodup fu (dp x) [x] (fun y hy => by simp at hy; subst hy; exact ⟨hx, rfl⟩) (by simp)
 refine ⟨h1, ?_⟩
 have := sub_len _ (List.range n) h1 (fun y hy => List.mem_range.2 (h.above fu [x] (fun z hz => by simp at hz; subst hz; exact hx) y hy).1)
 simpa using this
theorem preN_down (KN : Nat → List Nat) : ∀ (fu : Nat) (L : List Nat), DeepN KN fu L → ∀ y ∈ preN KN fu L, ∀ c ∈ KN y, c ∈ preN KN fu L
 | 0, L, _, y, hy => by simp [preN] at hy
 | fu + 1, L, hD, y, hy => fun c hc => by
  simp only [preN, List.mem_flatMap, List.mem_cons] at hy ⊢
  obtain ⟨x, hx, rfl | hy⟩ := hy
  ·exact ⟨y, hx, Or.inr (preN_mem KN fu _ (hD y hx) c hc)⟩
  ·exact ⟨x, hx, Or.inr (preN_down KN fu (KN x) (hD x hx) y hy c hc)⟩
end Go.Proofs.YtnffedmcblbkoaaGreatDoor
