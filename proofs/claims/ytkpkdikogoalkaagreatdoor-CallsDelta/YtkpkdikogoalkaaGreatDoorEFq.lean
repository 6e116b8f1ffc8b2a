/-
  Merged: EF, EG, EI, EJ, EK.
-/
import Derived.Test.YtkpkdikogoalkaaGreatDoorCUq
import Derived.Test.YtkpkdikogoalkaaGreatDoorDAq
namespace Go.Proofs.YtkpkdikogoalkaaGreatDoor.sk
open Go Go.RowKit
set_option maxRecDepth 100000

/-- The order of calls, field by field. -/
theorem cmpC_less (h1 h2 k1 k2 : Int) (s1 s2 t1 t2 : ByteArray) (f1 f2 : Bool) : decide (cmpC (h1, s1, t1, f1, k1) (h2, s2, t2, f2, k2) < 0) =
    (if h1 = h2 then (if (s1.toList == s2.toList) = true then (if (t1.toList == t2.toList) = true then (if f1 = f2 then decide (k1 < k2) else f2) else Op.bytesLess t1.toList t2.toList) else Op.bytesLess s1.toList s2.toList) else decide (h1 < h2)) := by
  rw [cmpS_lt, cmpS_lt, cmpS_eq, cmpS_eq]
  have hA := good_cmpS.rng s1 s2
  have hB := good_cmpS.rng t1 t2
  unfold cmpC
  simp only [orL, orI]
  generalize cmpS s1 s2 = A at *
  generalize cmpS t1 t2 = B at *
  by_cases hh : h1 = h2
  · subst hh
    have e : cmpI h1 h1 = 0 := by unfold cmpI; simp
    rw [e]
    rcases hA with rfl | rfl | rfl
    · simp
    · rcases hB with rfl | rfl | rfl
      · simp
      · cases f1 <;> cases f2
        · by_cases p : k1 < k2
          · simp [cmpI, failI, p]
          · by_cases q : k2 < k1 <;> simp [cmpI, failI, p, q]
        · simp [cmpI, failI]
        · simp [cmpI, failI]
        · by_cases p : k1 < k2
          · simp [cmpI, failI, p]
          · by_cases q : k2 < k1 <;> simp [cmpI, failI, p, q]
      · simp
    · simp
  · by_cases p : h1 < h2
    · have e : cmpI h1 h2 = -1 := by unfold cmpI; simp [p]
      rw [e]
      simp [hh, p]
    · have e : cmpI h1 h2 = 1 := by unfold cmpI; rw [if_neg p, if_pos (by omega)]
      rw [e]
      simp [hh, p]
set_option maxHeartbeats 2000000 in
theorem rLess14 (a b : Cal) (w : World) :
    Calls Tryz.prog 29 #[.agg (calL a).toArray, .agg (calL b).toArray] w fun e w' => e = .returned (.bool (decide (cmpC a b < 0))) ∧ Below w.heap.size w w' := by
  obtain ⟨h1, s1, t1, f1, k1⟩ := a
  obtain ⟨h2, s2, t2, f2, k2⟩ := b
  have HB : Hid (∀ o1 o2 : Obj, Below w.heap.size w ((w.alloc o1).alloc o2)) := fun o1 o2 => (((Below.refl _ _).alloc (Nat.le_refl _) _).alloc (by simp) _)
  have HR : Hid (_ = _) := (cmpC_less h1 h2 k1 k2 s1 s2 t1 t2 f1 f2).symm
  generalize decide (cmpC (h1, s1, t1, f1, k1) (h2, s2, t2, f2, k2) < 0) = R at *
  simp only [calL]
  by_cases hh : h1 = h2
  · subst hh
    go_enter Tryz.func29, Tryz.ntmps29
    go_wp2
    all_goals (try simp only [Exit.inBlock, Exit.then])
    all_goals go_returns
    all_goals refine ⟨?_, HB.out _ _⟩
    all_goals (rw [← HR.out]; simp_all)
  · have hh' : (h1 == h2) = false := by simpa using hh
    go_enter Tryz.func29, Tryz.ntmps29
    go_wp2
    all_goals (try simp only [Exit.inBlock, Exit.then])
    all_goals go_returns
    all_goals refine ⟨?_, HB.out _ _⟩
    all_goals (rw [← HR.out]; simp_all)
end Go.Proofs.YtkpkdikogoalkaaGreatDoor.sk

namespace Go.Proofs.YtkpkdikogoalkaaGreatDoor.sk
open Go Go.RowKit
set_option maxRecDepth 100000

theorem cmpC_self (c : Cal) : cmpC c c = 0 := (good_cmpC.eq c c).2 rfl
theorem woL_nilL (B : List Cal) : woL [] B = [] := by unfold woL; rfl
theorem woL_nilR (A : List Cal) : woL A [] = A := by
  induction A with
  | nil => exact woL_nilL _
  | cons c A ih =>
    rw [woL_cons, show dropL c ([] : List Cal) = [] from rfl, if_neg (by simp), ih]
/-- Both begin alike. -/
theorem woL_both (c : Cal) (A B : List Cal) : woL (c :: A) (c :: B) = woL A B := by
  have e : dropL c (c :: B) = c :: B := by rw [dropL_cons, if_neg (by rw [cmpC_self]; decide)]
  rw [woL_cons, e, if_pos (List.head?_cons), List.tail_cons]
/-- The first one's front is ahead. -/
theorem woL_ahead {c d : Cal} (h : cmpC c d < 0) (A B : List Cal) : woL (c :: A) (d :: B) = c :: woL A (d :: B) := by
  have h1 : ¬ cmpC d c < 0 := by
    have := good_cmpC.anti c d
    omega
  have h2 : d ≠ c := fun e => by
    rw [e, cmpC_self] at h
    omega
  have e : dropL c (d :: B) = d :: B := by rw [dropL_cons, if_neg h1]
  rw [woL_cons, e, if_neg (by simpa using h2)]
theorem woL_pass {c d : Cal} (h : cmpC c d < 0) (A B : List Cal) : woL (d :: B) (c :: A) = woL (d :: B) A := by
  have e : dropL d (c :: A) = dropL d A := by rw [dropL_cons, if_pos h]
  rw [woL_cons, woL_cons, e]
theorem cmpC_else {c d : Cal} (h1 : c ≠ d) (h2 : ¬ cmpC c d < 0) : cmpC d c < 0 := by
  have h3 : cmpC c d ≠ 0 := fun e => h1 ((good_cmpC.eq c d).1 e)
  have := good_cmpC.anti c d
  omega
/-- A list that is in order is told by what is in it. -/
theorem sorted_one {A B : List Cal} (hA : SortedC A) (hB : SortedC B) (h : A.Perm B) : A = B := by
  induction A generalizing B with
  | nil => exact (List.nil_perm.1 h).symm
  | cons c A ih =>
    cases B with
    | nil => exact absurd (List.perm_nil.1 h) (by simp)
    | cons d B =>
      have hc : c ∈ d :: B := h.mem_iff.1 (List.mem_cons_self)
      have hd : d ∈ c :: A := h.mem_iff.2 (List.mem_cons_self)
      have e : c = d := by
        rcases List.mem_cons.1 hc with e | e
        · exact e
        · rcases List.mem_cons.1 hd with e' | e'
          · exact e'.symm
          · have h1 := (List.pairwise_cons.1 hB).1 c e
            have h2 := (List.pairwise_cons.1 hA).1 d e'
            have := good_cmpC.anti c d
            exact (good_cmpC.eq c d).1 (by omega)
      subst e
      rw [ih hA.tail hB.tail (List.Perm.cons_inv h)]
end Go.Proofs.YtkpkdikogoalkaaGreatDoor.sk

namespace Go.Proofs.YtkpkdikogoalkaaGreatDoor.sk
open Go Go.RowKit
set_option maxRecDepth 100000

/-- A call is appended: only its own row is written. -/
theorem wpList_appD {ops : Array Oper} {rest : List Oper} {o : Oper} {a : Act} {Q : Exit → Act → World → Prop} (w : World) (hgd : o.guard = none) (s x : Operand)
    (ho : o.op = .call { callee := .builtin .append, args := #[s, x], argTypes := #[22, 22] })
    (base : Nat) (v : Value) (L : List Cal) (c : Cal) (hv : a.eval s = v) (hown : OwnCal base w v L) (hx : a.eval x = .slice (some ⟨w.heap.size, 0, none⟩) 1 1) (hlen : L.length ≤ 2513169434917) (hbase : base ≤ w.heap.size)
    (h : ∀ v' w', OwnCal base w' v' (L ++ [c]) → Upd (fun k => v.ownBlock = some k) w w' → Moved w v v' → wpList Tryz.prog ops Q rest (a.put o.dst v') w') : wpList Tryz.prog ops Q (o :: rest) a (w.alloc (.cells (calL c).toArray 32)) := by
  obtain ⟨i0, hi0, hz0, hz1, hz2⟩ := info_parts Tryz.info32
  have ho' : OwnCal base (w.alloc (.cells (calL c).toArray 32)) v L := hown.below ((Below.refl _ _).alloc (Nat.le_refl _) _)
  refine wpList_appW _ hgd s x 22 22 ho base 32 i0 _ 5 56 Tryz.underlying22 hi0 hz0 hz1 hz2 rfl v L.length (L.flatMap calL) hv ho' _ 1 (calL c) hx (src_cal Tryz.underlying22 w c _) (by unfold maxLen; omega) (by omega) (by rw [World.size_alloc]; omega) ?_
  intro v' w' o8 g8 m8
  refine h v' w' ?_ ⟨g8.os, g8.tape, g8.output, by have := g8.size; rw [World.size_alloc] at this; omega, fun k hk hn => (g8.block k (by rw [World.size_alloc]; omega) (fun e => hn e.symm)).trans (Below.heap_alloc w _ k hk)⟩ ?_
  · unfold OwnCal
    rw [List.length_append, List.flatMap_append]
    simpa using o8
  · rcases m8 with e | ⟨k, e, hk⟩
    · exact Or.inl e
    · exact Or.inr ⟨k, e, by rw [World.size_alloc] at hk; omega⟩
/-- Two rows that share no block. -/
def Apart (v u : Value) : Prop := ∀ g, v.ownBlock = some g → u.ownBlock ≠ some g
theorem Apart.symm {v u : Value} (h : Apart v u) : Apart u v := fun g h1 h2 => h g h2 h1
theorem Apart.moved {base : Nat} {w : World} {v v' u : Value} {Q : List Cal} (h : Apart v u) (hm : Moved w v v') (hu : OwnCal base w u Q) : Apart v' u := by
  intro g h1 h2
  rcases hm with e | ⟨k, e, hk⟩
  · exact h g (e ▸ h1) h2
  · rw [e] at h1
    injection h1 with h1
    subst h1
    obtain ⟨_, cs, fz, hh⟩ := own_block hu h2
    have := lt_of_block hh
    omega
theorem OwnCal.apart {base : Nat} {w w' : World} {v u : Value} {Q : List Cal} (hq : OwnCal base w u Q) (h : Apart v u) (hu : Upd (fun k => v.ownBlock = some k) w w') : OwnCal base w' u Q := ownsRow_upd hq hu (fun k hk hs => h k hs hk)
set_option maxHeartbeats 16000000 in
theorem rDelta_of (aa ba : Option Addr) (na nb ca cb : Nat) (a b : List Cal) (w : World) (za : a.length ≤ 2513169434917) (zb : b.length ≤ 2513169434917)
    (SA : ∀ W, Below w.heap.size w W → Calls Tryz.prog 28 #[.slice aa na ca] W (OrdP a W)) (SB : ∀ W, Below w.heap.size w W → Calls Tryz.prog 28 #[.slice ba nb cb] W (OrdP b W)) :
    Calls Tryz.prog 8 #[.slice aa na ca, .slice ba nb cb] w (DelP a b w) := by
  have HSA : Hid _ := SA
  have HSB : Hid _ := SB
  clear SA SB
  go_enter Tryz.func8, Tryz.ntmps8
  go_wp2_with (first
    | (go_at_call 28; (with_reducible refine (HSA.out _ (Below.refl _ _)).mono ?_); clear HSA; rintro e w1 ⟨xx, n1, m1, A, rfl, H1, k1, b1⟩; have HB1 : Hid (Below w.heap.size w w1) := b1; clear b1)
    | (go_at_call 28; (with_reducible refine (HSB.out _ HB1.out).mono ?_); clear HSB; rintro e w2 ⟨yy, n2, m2, B, rfl, H2, k2, b2⟩; have HB2 : Hid (Below w.heap.size w w2) := HB1.out.trans (b2.mono HB1.out.size); have HX2 : Hid (CalAt w2 xx n1 A) := CalAt.below H1.out.1 b2; clear b2))
  have HY2 : Hid (CalAt w2 yy n2 B) := H2.out.1
  have HPM : Hid (a.Perm A ∧ SortedC A ∧ b.Perm B ∧ SortedC B) := ⟨H1.out.2.1, H1.out.2.2, H2.out.2.1, H2.out.2.2⟩
  have hn1 : n1 ≤ 2513169434917 := by have h1 := HX2.out.len; have h2 := HPM.out.1.length_eq; omega
  have hn2 : n2 ≤ 2513169434917 := by have h1 := HY2.out.len; have h2 := HPM.out.2.2.1.length_eq; omega
  unfold maxLen at k1 k2
  clear H1 H2 HB1 za zb
  go_loopw [8, 9, 10, 11] (fun tk pt ti tj wr => ∃ (i k : Nat) (P Q : List Cal), ti = .int .i64 i ∧ tj = .int .i64 k ∧ i ≤ n1 ∧ k ≤ n2 ∧ Hid (OwnCal w2.heap.size wr tk P) ∧ Hid (OwnCal w2.heap.size wr pt Q) ∧ Hid (Apart tk pt) ∧ Hid (woL A B = P ++ woL (A.drop i) (B.drop k) ∧ woL B A = Q ++ woL (B.drop k) (A.drop i)) ∧ Hid (P.length ≤ i ∧ Q.length ≤ k) ∧ Hid (Below w2.heap.size w2 wr)) (fun _ _ ti tj _ => (n1 - (intOf ti).toNat) + (n2 - (intOf tj).toNat))
  case atStart => exact ⟨0, 0, [], [], rfl, rfl, Nat.zero_le _, Nat.zero_le _, OwnCal.nil _ _, OwnCal.nil _ _, fun g h => by simp [Value.ownBlock] at h, ⟨rfl, rfl⟩, ⟨Nat.le_refl _, Nat.le_refl _⟩, Below.refl _ _⟩
  case round =>
    obtain ⟨i, k, P, Q, rfl, rfl, hi, hk, HP, HQ, HAP, HD, HM, HW⟩ := hrel
    obtain ⟨pa, pl, pc, hps⟩ := row_shape HP.out
    obtain ⟨qa, ql, qc, hqs⟩ := row_shape HQ.out
    subst hps hqs
    have HXl : Hid (A.length = n1) := HX2.out.len
    have HYl : Hid (B.length = n2) := HY2.out.len
    by_cases h1 : i < n1
    · have hiA : i < A.length := by rw [HXl.out]; exact h1
      have HDA : Hid (A.drop i = A[i] :: A.drop (i + 1)) := List.drop_eq_getElem_cons hiA
      obtain ⟨xb, xo, rfl, hrx⟩ := (HX2.out.below HW.out).lies (by omega)
      have RA : Hid (wr.rangeAt xb (xo + i * 5) (calL A[i])) := hrx i hiA
      obtain ⟨⟨c0, c1, c2, c3, c4⟩, ec⟩ : ∃ c, A[i] = c := ⟨_, rfl⟩
      rw [ec] at HDA RA
      clear ec hrx
      have h1' : (i : Int) < (n1 : Int) := by omega
      by_cases h2 : k < n2
      · have hkB : k < B.length := by rw [HYl.out]; exact h2
        have HDB : Hid (B.drop k = B[k] :: B.drop (k + 1)) := List.drop_eq_getElem_cons hkB
        obtain ⟨yb, yo, rfl, hry⟩ := (HY2.out.below HW.out).lies (by omega)
        have RB : Hid (wr.rangeAt yb (yo + k * 5) (calL B[k])) := hry k hkB
        obtain ⟨⟨d0, d1, d2, d3, d4⟩, ed⟩ : ∃ d, B[k] = d := ⟨_, rfl⟩
        rw [ed] at HDB RB
        clear ed hry
        have h2' : (k : Int) < (n2 : Int) := by omega
        have EQ := eq_cal (c0, c1, c2, c3, c4) (d0, d1, d2, d3, d4)
        by_cases he : ((c0, c1, c2, c3, c4) : Cal) = (d0, d1, d2, d3, d4)
        · rw [decide_eq_true he] at EQ
          have HE : Hid (((c0, c1, c2, c3, c4) : Cal) = (d0, d1, d2, d3, d4)) := he
          clear he
          go_wp2
          refine wp_region_held (S := fun W => W.rangeAt xb (xo + i * 5) (calL (c0, c1, c2, c3, c4)) ∧ W.rangeAt yb (yo + k * 5) (calL (d0, d1, d2, d3, d4))) (by kernel_rfl) ?_
          change wpAnyH _ _ _ _ _ _ _ _ (World.drew _)
          have hS : wr.drew.rangeAt xb (xo + i * 5) (calL (c0, c1, c2, c3, c4)) ∧ wr.drew.rangeAt yb (yo + k * 5) (calL (d0, d1, d2, d3, d4)) := ⟨RA.out, RB.out⟩
          refine takeC (i := 0) (v := .int .i64 (i : Int)) rfl (by kernel_rfl) (by kernel_rfl) (by kernel_rfl) (fun _ _ _ h => h) (Or.inl ⟨by rfl, fun W hW => by go_simp⟩) hS ?_
          simp only [Act.put, List.setIfInBounds_toArray, List.set_cons_zero, List.set_cons_succ]
          refine takeC (i := 1) (v := .slice (some ⟨xb, xo, none⟩) n1 m1) rfl (by kernel_rfl) (by kernel_rfl) (by kernel_rfl) (fun _ _ _ h => h) (Or.inl ⟨by rfl, fun W hW => by go_simp⟩) hS ?_
          simp only [Act.put, List.setIfInBounds_toArray, List.set_cons_zero, List.set_cons_succ]
          refine takeC (i := 2) (v := .int .i64 (n1 : Int)) rfl (by kernel_rfl) (by kernel_rfl) (by kernel_rfl) (fun _ _ _ h => h) (Or.inl ⟨by rfl, fun W hW => by go_simp⟩) hS ?_
          simp only [Act.put, List.setIfInBounds_toArray, List.set_cons_zero, List.set_cons_succ]
          refine takeC (i := 3) (v := .bool true) rfl (by kernel_rfl) (by kernel_rfl) (by kernel_rfl) (fun _ _ _ h => h) (Or.inl ⟨by rfl, fun W hW => by go_simp⟩) hS ?_
          simp only [Act.put, List.setIfInBounds_toArray, List.set_cons_zero, List.set_cons_succ]
          refine takeC (i := 4) (v := .bool true) rfl (by kernel_rfl) (by kernel_rfl) (by kernel_rfl) (fun _ _ _ h => h) (Or.inl ⟨by rfl, fun W hW => by go_simp⟩) hS ?_
          simp only [Act.put, List.setIfInBounds_toArray, List.set_cons_zero, List.set_cons_succ]
          refine takeC (i := 5) (v := .int .i64 (k : Int)) rfl (by kernel_rfl) (by kernel_rfl) (by kernel_rfl) (fun _ _ _ h => h) (Or.inl ⟨by rfl, fun W hW => by go_simp⟩) hS ?_
          simp only [Act.put, List.setIfInBounds_toArray, List.set_cons_zero, List.set_cons_succ]
          refine takeC (i := 6) (v := .slice (some ⟨yb, yo, none⟩) n2 m2) rfl (by kernel_rfl) (by kernel_rfl) (by kernel_rfl) (fun _ _ _ h => h) (Or.inl ⟨by rfl, fun W hW => by go_simp⟩) hS ?_
          simp only [Act.put, List.setIfInBounds_toArray, List.set_cons_zero, List.set_cons_succ]
          refine takeC (i := 7) (v := .int .i64 (n2 : Int)) rfl (by kernel_rfl) (by kernel_rfl) (by kernel_rfl) (fun _ _ _ h => h) (Or.inl ⟨by rfl, fun W hW => by go_simp⟩) hS ?_
          simp only [Act.put, List.setIfInBounds_toArray, List.set_cons_zero, List.set_cons_succ]
          refine takeC (i := 8) (v := .bool true) rfl (by kernel_rfl) (by kernel_rfl) (by kernel_rfl) (fun _ _ _ h => h) (Or.inl ⟨by rfl, fun W hW => by go_simp⟩) hS ?_
          simp only [Act.put, List.setIfInBounds_toArray, List.set_cons_zero, List.set_cons_succ]
          refine takeC (i := 9) (v := .bool true) rfl (by kernel_rfl) (by kernel_rfl) (by kernel_rfl) (fun _ _ _ h => h) (Or.inl ⟨by rfl, fun W hW => by go_simp⟩) hS ?_
          simp only [Act.put, List.setIfInBounds_toArray, List.set_cons_zero, List.set_cons_succ]
          refine takeC (i := 10) (v := .bool true) rfl (by kernel_rfl) (by kernel_rfl) (by kernel_rfl) (fun _ _ _ h => h) (Or.inl ⟨by rfl, fun W hW => by go_simp⟩) hS ?_
          simp only [Act.put, List.setIfInBounds_toArray, List.set_cons_zero, List.set_cons_succ]
          refine takeC (i := 11) (v := .slice (some ⟨xb, xo, none⟩) n1 m1) rfl (by kernel_rfl) (by kernel_rfl) (by kernel_rfl) (fun _ _ _ h => h) (Or.inl ⟨by rfl, fun W hW => by go_simp⟩) hS ?_
          simp only [Act.put, List.setIfInBounds_toArray, List.set_cons_zero, List.set_cons_succ]
          refine takeC (i := 12) (v := .int .i64 (i : Int)) rfl (by kernel_rfl) (by kernel_rfl) (by kernel_rfl) (fun _ _ _ h => h) (Or.inl ⟨by rfl, fun W hW => by go_simp⟩) hS ?_
          simp only [Act.put, List.setIfInBounds_toArray, List.set_cons_zero, List.set_cons_succ]
          refine takeC (i := 13) (v := .pointer (some ⟨xb, xo + i * 5, none⟩)) rfl (by kernel_rfl) (by kernel_rfl) (by kernel_rfl) (fun _ _ _ h => h) (Or.inl ⟨by rfl, fun W hW => by go_simp⟩) hS ?_
          simp only [Act.put, List.setIfInBounds_toArray, List.set_cons_zero, List.set_cons_succ]
          refine takeC (i := 14) (v := .agg (calL (c0, c1, c2, c3, c4)).toArray) rfl (by kernel_rfl) (by kernel_rfl) (by kernel_rfl) (fun _ _ _ h => h) (yieldsIf_load_mid (by rfl) 32 _ rfl xb (xo + i * 5) rfl (calL (c0, c1, c2, c3, c4)) _ (fun W hW => hW.1) Tryz.underlying32 rfl (by kernel_rfl)) hS ?_
          simp only [Act.put, List.setIfInBounds_toArray, List.set_cons_zero, List.set_cons_succ]
          refine takeC (i := 15) (v := .slice (some ⟨yb, yo, none⟩) n2 m2) rfl (by kernel_rfl) (by kernel_rfl) (by kernel_rfl) (fun _ _ _ h => h) (Or.inl ⟨by rfl, fun W hW => by go_simp⟩) hS ?_
          simp only [Act.put, List.setIfInBounds_toArray, List.set_cons_zero, List.set_cons_succ]
          refine takeC (i := 16) (v := .int .i64 (k : Int)) rfl (by kernel_rfl) (by kernel_rfl) (by kernel_rfl) (fun _ _ _ h => h) (Or.inl ⟨by rfl, fun W hW => by go_simp⟩) hS ?_
          simp only [Act.put, List.setIfInBounds_toArray, List.set_cons_zero, List.set_cons_succ]
          refine takeC (i := 17) (v := .pointer (some ⟨yb, yo + k * 5, none⟩)) rfl (by kernel_rfl) (by kernel_rfl) (by kernel_rfl) (fun _ _ _ h => h) (Or.inl ⟨by rfl, fun W hW => by go_simp⟩) hS ?_
          simp only [Act.put, List.setIfInBounds_toArray, List.set_cons_zero, List.set_cons_succ]
          refine takeC (i := 18) (v := .agg (calL (d0, d1, d2, d3, d4)).toArray) rfl (by kernel_rfl) (by kernel_rfl) (by kernel_rfl) (fun _ _ _ h => h) (yieldsIf_load_mid (by rfl) 32 _ rfl yb (yo + k * 5) rfl (calL (d0, d1, d2, d3, d4)) _ (fun W hW => hW.2) Tryz.underlying32 rfl (by kernel_rfl)) hS ?_
          simp only [Act.put, List.setIfInBounds_toArray, List.set_cons_zero, List.set_cons_succ]
          refine takeC (i := 19) (v := .bool true) rfl (by kernel_rfl) (by kernel_rfl) (by kernel_rfl) (fun _ _ _ h => h) (Or.inl ⟨by rfl, fun W hW => by go_simp⟩) hS ?_
          simp only [Act.put, List.setIfInBounds_toArray, List.set_cons_zero, List.set_cons_succ]
          refine takeC (i := 20) (v := .bool true) rfl (by kernel_rfl) (by kernel_rfl) (by kernel_rfl) (fun _ _ _ h => h) (Or.inl ⟨by rfl, fun W hW => by go_simp⟩) hS ?_
          simp only [Act.put, List.setIfInBounds_toArray, List.set_cons_zero, List.set_cons_succ]
          refine wpAnyH_done (by kernel_rfl) ?_ _
          clear hS
          go_wp2
          go_roundw
          case rel =>
            refine ⟨i + 1, k + 1, P, Q, by go_num, by go_num, by omega, by omega, OwnCal.below HP.out ((Below.refl _ _).drew), OwnCal.below HQ.out ((Below.refl _ _).drew), HAP, ?_, ⟨by have := HM.out; omega, by have := HM.out; omega⟩, HW.out.drew⟩
            rw [HDA.out, HDB.out, HE.out, woL_both, woL_both] at HD
            exact HD
          case measure => simp [intOf]; omega
        · rw [decide_eq_false he] at EQ
          have HNE : Hid (((c0, c1, c2, c3, c4) : Cal) ≠ (d0, d1, d2, d3, d4)) := he
          have HKP : Hid (∀ W, Below wr.heap.size wr W → W.rangeAt xb (xo + i * 5) (calL (c0, c1, c2, c3, c4)) ∧ W.rangeAt yb (yo + k * 5) (calL (d0, d1, d2, d3, d4))) := fun W hb => ⟨range_bel RA.out hb, range_bel RB.out hb⟩
          have LE := rLess14 (c0, c1, c2, c3, c4) (d0, d1, d2, d3, d4)
          have hkb : ((k : Int) == (n2 : Int)) = false := by simp; omega
          clear he
          by_cases hl : cmpC (c0, c1, c2, c3, c4) (d0, d1, d2, d3, d4) < 0
          · rw [decide_eq_true hl] at LE
            have HL : Hid (cmpC (c0, c1, c2, c3, c4) (d0, d1, d2, d3, d4) < 0) := hl
            clear hl
            go_wp2
            refine wp_region_held (S := fun W => W.rangeAt xb (xo + i * 5) (calL (c0, c1, c2, c3, c4)) ∧ W.rangeAt yb (yo + k * 5) (calL (d0, d1, d2, d3, d4))) (by kernel_rfl) ?_
            change wpAnyH _ _ _ _ _ _ _ _ (World.drew _)
            have hS : wr.drew.rangeAt xb (xo + i * 5) (calL (c0, c1, c2, c3, c4)) ∧ wr.drew.rangeAt yb (yo + k * 5) (calL (d0, d1, d2, d3, d4)) := ⟨RA.out, RB.out⟩
            refine takeC (i := 0) (v := .int .i64 (i : Int)) rfl (by kernel_rfl) (by kernel_rfl) (by kernel_rfl) (fun _ _ _ h => h) (Or.inl ⟨by rfl, fun W hW => by go_simp⟩) hS ?_
            simp only [Act.put, List.setIfInBounds_toArray, List.set_cons_zero, List.set_cons_succ]
            refine takeC (i := 1) (v := .slice (some ⟨xb, xo, none⟩) n1 m1) rfl (by kernel_rfl) (by kernel_rfl) (by kernel_rfl) (fun _ _ _ h => h) (Or.inl ⟨by rfl, fun W hW => by go_simp⟩) hS ?_
            simp only [Act.put, List.setIfInBounds_toArray, List.set_cons_zero, List.set_cons_succ]
            refine takeC (i := 2) (v := .int .i64 (n1 : Int)) rfl (by kernel_rfl) (by kernel_rfl) (by kernel_rfl) (fun _ _ _ h => h) (Or.inl ⟨by rfl, fun W hW => by go_simp⟩) hS ?_
            simp only [Act.put, List.setIfInBounds_toArray, List.set_cons_zero, List.set_cons_succ]
            refine takeC (i := 3) (v := .bool true) rfl (by kernel_rfl) (by kernel_rfl) (by kernel_rfl) (fun _ _ _ h => h) (Or.inl ⟨by rfl, fun W hW => by go_simp⟩) hS ?_
            simp only [Act.put, List.setIfInBounds_toArray, List.set_cons_zero, List.set_cons_succ]
            refine takeC (i := 4) (v := .bool true) rfl (by kernel_rfl) (by kernel_rfl) (by kernel_rfl) (fun _ _ _ h => h) (Or.inl ⟨by rfl, fun W hW => by go_simp⟩) hS ?_
            simp only [Act.put, List.setIfInBounds_toArray, List.set_cons_zero, List.set_cons_succ]
            refine takeC (i := 5) (v := .int .i64 (k : Int)) rfl (by kernel_rfl) (by kernel_rfl) (by kernel_rfl) (fun _ _ _ h => h) (Or.inl ⟨by rfl, fun W hW => by go_simp⟩) hS ?_
            simp only [Act.put, List.setIfInBounds_toArray, List.set_cons_zero, List.set_cons_succ]
            refine takeC (i := 6) (v := .slice (some ⟨yb, yo, none⟩) n2 m2) rfl (by kernel_rfl) (by kernel_rfl) (by kernel_rfl) (fun _ _ _ h => h) (Or.inl ⟨by rfl, fun W hW => by go_simp⟩) hS ?_
            simp only [Act.put, List.setIfInBounds_toArray, List.set_cons_zero, List.set_cons_succ]
            refine takeC (i := 7) (v := .int .i64 (n2 : Int)) rfl (by kernel_rfl) (by kernel_rfl) (by kernel_rfl) (fun _ _ _ h => h) (Or.inl ⟨by rfl, fun W hW => by go_simp⟩) hS ?_
            simp only [Act.put, List.setIfInBounds_toArray, List.set_cons_zero, List.set_cons_succ]
            refine takeC (i := 8) (v := .bool true) rfl (by kernel_rfl) (by kernel_rfl) (by kernel_rfl) (fun _ _ _ h => h) (Or.inl ⟨by rfl, fun W hW => by go_simp⟩) hS ?_
            simp only [Act.put, List.setIfInBounds_toArray, List.set_cons_zero, List.set_cons_succ]
            refine takeC (i := 9) (v := .bool true) rfl (by kernel_rfl) (by kernel_rfl) (by kernel_rfl) (fun _ _ _ h => h) (Or.inl ⟨by rfl, fun W hW => by go_simp⟩) hS ?_
            simp only [Act.put, List.setIfInBounds_toArray, List.set_cons_zero, List.set_cons_succ]
            refine takeC (i := 10) (v := .bool true) rfl (by kernel_rfl) (by kernel_rfl) (by kernel_rfl) (fun _ _ _ h => h) (Or.inl ⟨by rfl, fun W hW => by go_simp⟩) hS ?_
            simp only [Act.put, List.setIfInBounds_toArray, List.set_cons_zero, List.set_cons_succ]
            refine takeC (i := 11) (v := .slice (some ⟨xb, xo, none⟩) n1 m1) rfl (by kernel_rfl) (by kernel_rfl) (by kernel_rfl) (fun _ _ _ h => h) (Or.inl ⟨by rfl, fun W hW => by go_simp⟩) hS ?_
            simp only [Act.put, List.setIfInBounds_toArray, List.set_cons_zero, List.set_cons_succ]
            refine takeC (i := 12) (v := .int .i64 (i : Int)) rfl (by kernel_rfl) (by kernel_rfl) (by kernel_rfl) (fun _ _ _ h => h) (Or.inl ⟨by rfl, fun W hW => by go_simp⟩) hS ?_
            simp only [Act.put, List.setIfInBounds_toArray, List.set_cons_zero, List.set_cons_succ]
            refine takeC (i := 13) (v := .pointer (some ⟨xb, xo + i * 5, none⟩)) rfl (by kernel_rfl) (by kernel_rfl) (by kernel_rfl) (fun _ _ _ h => h) (Or.inl ⟨by rfl, fun W hW => by go_simp⟩) hS ?_
            simp only [Act.put, List.setIfInBounds_toArray, List.set_cons_zero, List.set_cons_succ]
            refine takeC (i := 14) (v := .agg (calL (c0, c1, c2, c3, c4)).toArray) rfl (by kernel_rfl) (by kernel_rfl) (by kernel_rfl) (fun _ _ _ h => h) (yieldsIf_load_mid (by rfl) 32 _ rfl xb (xo + i * 5) rfl (calL (c0, c1, c2, c3, c4)) _ (fun W hW => hW.1) Tryz.underlying32 rfl (by kernel_rfl)) hS ?_
            simp only [Act.put, List.setIfInBounds_toArray, List.set_cons_zero, List.set_cons_succ]
            refine takeC (i := 15) (v := .slice (some ⟨yb, yo, none⟩) n2 m2) rfl (by kernel_rfl) (by kernel_rfl) (by kernel_rfl) (fun _ _ _ h => h) (Or.inl ⟨by rfl, fun W hW => by go_simp⟩) hS ?_
            simp only [Act.put, List.setIfInBounds_toArray, List.set_cons_zero, List.set_cons_succ]
            refine takeC (i := 16) (v := .int .i64 (k : Int)) rfl (by kernel_rfl) (by kernel_rfl) (by kernel_rfl) (fun _ _ _ h => h) (Or.inl ⟨by rfl, fun W hW => by go_simp⟩) hS ?_
            simp only [Act.put, List.setIfInBounds_toArray, List.set_cons_zero, List.set_cons_succ]
            refine takeC (i := 17) (v := .pointer (some ⟨yb, yo + k * 5, none⟩)) rfl (by kernel_rfl) (by kernel_rfl) (by kernel_rfl) (fun _ _ _ h => h) (Or.inl ⟨by rfl, fun W hW => by go_simp⟩) hS ?_
            simp only [Act.put, List.setIfInBounds_toArray, List.set_cons_zero, List.set_cons_succ]
            refine takeC (i := 18) (v := .agg (calL (d0, d1, d2, d3, d4)).toArray) rfl (by kernel_rfl) (by kernel_rfl) (by kernel_rfl) (fun _ _ _ h => h) (yieldsIf_load_mid (by rfl) 32 _ rfl yb (yo + k * 5) rfl (calL (d0, d1, d2, d3, d4)) _ (fun W hW => hW.2) Tryz.underlying32 rfl (by kernel_rfl)) hS ?_
            simp only [Act.put, List.setIfInBounds_toArray, List.set_cons_zero, List.set_cons_succ]
            refine takeC (i := 19) (v := .bool false) rfl (by kernel_rfl) (by kernel_rfl) (by kernel_rfl) (fun _ _ _ h => h) (Or.inl ⟨by rfl, fun W hW => by go_simp⟩) hS ?_
            simp only [Act.put, List.setIfInBounds_toArray, List.set_cons_zero, List.set_cons_succ]
            refine takeC (i := 20) (v := .bool false) rfl (by kernel_rfl) (by kernel_rfl) (by kernel_rfl) (fun _ _ _ h => h) (Or.inl ⟨by rfl, fun W hW => by go_simp⟩) hS ?_
            simp only [Act.put, List.setIfInBounds_toArray, List.set_cons_zero, List.set_cons_succ]
            refine wpAnyH_done (by kernel_rfl) ?_ _
            clear hS
            go_wp2
            refine wp_region_held (S := fun W => W.rangeAt xb (xo + i * 5) (calL (c0, c1, c2, c3, c4)) ∧ W.rangeAt yb (yo + k * 5) (calL (d0, d1, d2, d3, d4))) (by kernel_rfl) ?_
            change wpAnyH _ _ _ _ _ _ _ _ (World.drew _)
            have hS : wr.drew.drew.rangeAt xb (xo + i * 5) (calL (c0, c1, c2, c3, c4)) ∧ wr.drew.drew.rangeAt yb (yo + k * 5) (calL (d0, d1, d2, d3, d4)) := ⟨RA.out, RB.out⟩
            refine takeC (i := 0) (v := .int .i64 (i : Int)) rfl (by kernel_rfl) (by kernel_rfl) (by kernel_rfl) (fun _ _ _ h => h) (Or.inl ⟨by rfl, fun W hW => by go_simp⟩) hS ?_
            simp only [Act.put, List.setIfInBounds_toArray, List.set_cons_zero, List.set_cons_succ]
            refine takeC (i := 1) (v := .slice (some ⟨xb, xo, none⟩) n1 m1) rfl (by kernel_rfl) (by kernel_rfl) (by kernel_rfl) (fun _ _ _ h => h) (Or.inl ⟨by rfl, fun W hW => by go_simp⟩) hS ?_
            simp only [Act.put, List.setIfInBounds_toArray, List.set_cons_zero, List.set_cons_succ]
            refine takeC (i := 2) (v := .int .i64 (n1 : Int)) rfl (by kernel_rfl) (by kernel_rfl) (by kernel_rfl) (fun _ _ _ h => h) (Or.inl ⟨by rfl, fun W hW => by go_simp⟩) hS ?_
            simp only [Act.put, List.setIfInBounds_toArray, List.set_cons_zero, List.set_cons_succ]
            refine takeC (i := 3) (v := .bool true) rfl (by kernel_rfl) (by kernel_rfl) (by kernel_rfl) (fun _ _ _ h => h) (Or.inl ⟨by rfl, fun W hW => by go_simp⟩) hS ?_
            simp only [Act.put, List.setIfInBounds_toArray, List.set_cons_zero, List.set_cons_succ]
            refine takeC (i := 4) (v := .bool true) rfl (by kernel_rfl) (by kernel_rfl) (by kernel_rfl) (fun _ _ _ h => h) (Or.inl ⟨by rfl, fun W hW => by go_simp⟩) hS ?_
            simp only [Act.put, List.setIfInBounds_toArray, List.set_cons_zero, List.set_cons_succ]
            refine takeC (i := 5) (v := .int .i64 (k : Int)) rfl (by kernel_rfl) (by kernel_rfl) (by kernel_rfl) (fun _ _ _ h => h) (Or.inl ⟨by rfl, fun W hW => by go_simp⟩) hS ?_
            simp only [Act.put, List.setIfInBounds_toArray, List.set_cons_zero, List.set_cons_succ]
            refine takeC (i := 6) (v := .slice (some ⟨yb, yo, none⟩) n2 m2) rfl (by kernel_rfl) (by kernel_rfl) (by kernel_rfl) (fun _ _ _ h => h) (Or.inl ⟨by rfl, fun W hW => by go_simp⟩) hS ?_
            simp only [Act.put, List.setIfInBounds_toArray, List.set_cons_zero, List.set_cons_succ]
            refine takeC (i := 7) (v := .int .i64 (n2 : Int)) rfl (by kernel_rfl) (by kernel_rfl) (by kernel_rfl) (fun _ _ _ h => h) (Or.inl ⟨by rfl, fun W hW => by go_simp⟩) hS ?_
            simp only [Act.put, List.setIfInBounds_toArray, List.set_cons_zero, List.set_cons_succ]
            refine takeC (i := 8) (v := .bool true) rfl (by kernel_rfl) (by kernel_rfl) (by kernel_rfl) (fun _ _ _ h => h) (Or.inl ⟨by rfl, fun W hW => by go_simp⟩) hS ?_
            simp only [Act.put, List.setIfInBounds_toArray, List.set_cons_zero, List.set_cons_succ]
            refine takeC (i := 9) (v := .bool true) rfl (by kernel_rfl) (by kernel_rfl) (by kernel_rfl) (fun _ _ _ h => h) (Or.inl ⟨by rfl, fun W hW => by go_simp⟩) hS ?_
            simp only [Act.put, List.setIfInBounds_toArray, List.set_cons_zero, List.set_cons_succ]
            refine takeC (i := 10) (v := .bool true) rfl (by kernel_rfl) (by kernel_rfl) (by kernel_rfl) (fun _ _ _ h => h) (Or.inl ⟨by rfl, fun W hW => by go_simp⟩) hS ?_
            simp only [Act.put, List.setIfInBounds_toArray, List.set_cons_zero, List.set_cons_succ]
            refine takeC (i := 11) (v := .slice (some ⟨xb, xo, none⟩) n1 m1) rfl (by kernel_rfl) (by kernel_rfl) (by kernel_rfl) (fun _ _ _ h => h) (Or.inl ⟨by rfl, fun W hW => by go_simp⟩) hS ?_
            simp only [Act.put, List.setIfInBounds_toArray, List.set_cons_zero, List.set_cons_succ]
            refine takeC (i := 12) (v := .int .i64 (i : Int)) rfl (by kernel_rfl) (by kernel_rfl) (by kernel_rfl) (fun _ _ _ h => h) (Or.inl ⟨by rfl, fun W hW => by go_simp⟩) hS ?_
            simp only [Act.put, List.setIfInBounds_toArray, List.set_cons_zero, List.set_cons_succ]
            refine takeC (i := 13) (v := .pointer (some ⟨xb, xo + i * 5, none⟩)) rfl (by kernel_rfl) (by kernel_rfl) (by kernel_rfl) (fun _ _ _ h => h) (Or.inl ⟨by rfl, fun W hW => by go_simp⟩) hS ?_
            simp only [Act.put, List.setIfInBounds_toArray, List.set_cons_zero, List.set_cons_succ]
            refine takeC (i := 14) (v := .agg (calL (c0, c1, c2, c3, c4)).toArray) rfl (by kernel_rfl) (by kernel_rfl) (by kernel_rfl) (fun _ _ _ h => h) (yieldsIf_load_mid (by rfl) 32 _ rfl xb (xo + i * 5) rfl (calL (c0, c1, c2, c3, c4)) _ (fun W hW => hW.1) Tryz.underlying32 rfl (by kernel_rfl)) hS ?_
            simp only [Act.put, List.setIfInBounds_toArray, List.set_cons_zero, List.set_cons_succ]
            refine takeC (i := 15) (v := .slice (some ⟨yb, yo, none⟩) n2 m2) rfl (by kernel_rfl) (by kernel_rfl) (by kernel_rfl) (fun _ _ _ h => h) (Or.inl ⟨by rfl, fun W hW => by go_simp⟩) hS ?_
            simp only [Act.put, List.setIfInBounds_toArray, List.set_cons_zero, List.set_cons_succ]
            refine takeC (i := 16) (v := .int .i64 (k : Int)) rfl (by kernel_rfl) (by kernel_rfl) (by kernel_rfl) (fun _ _ _ h => h) (Or.inl ⟨by rfl, fun W hW => by go_simp⟩) hS ?_
            simp only [Act.put, List.setIfInBounds_toArray, List.set_cons_zero, List.set_cons_succ]
            refine takeC (i := 17) (v := .pointer (some ⟨yb, yo + k * 5, none⟩)) rfl (by kernel_rfl) (by kernel_rfl) (by kernel_rfl) (fun _ _ _ h => h) (Or.inl ⟨by rfl, fun W hW => by go_simp⟩) hS ?_
            simp only [Act.put, List.setIfInBounds_toArray, List.set_cons_zero, List.set_cons_succ]
            refine takeC (i := 18) (v := .agg (calL (d0, d1, d2, d3, d4)).toArray) rfl (by kernel_rfl) (by kernel_rfl) (by kernel_rfl) (fun _ _ _ h => h) (yieldsIf_load_mid (by rfl) 32 _ rfl yb (yo + k * 5) rfl (calL (d0, d1, d2, d3, d4)) _ (fun W hW => hW.2) Tryz.underlying32 rfl (by kernel_rfl)) hS ?_
            simp only [Act.put, List.setIfInBounds_toArray, List.set_cons_zero, List.set_cons_succ]
            refine onlyC (i := 19) rfl (by kernel_rfl) (fun K hK => ?_)
            go_simp
            go_at_call 29
            (with_reducible refine (LE _).mono ?_)
            rintro e w5 ⟨rfl, b5⟩
            have bi5 : Below wr.heap.size wr w5 := Below.trans (((Below.refl wr.heap.size wr).drew).drew) b5
            have hS5 := HKP.out w5 bi5
            refine hK _ _ ⟨hS5, ?_⟩
            clear hK K
            refine takeC (i := 20) (v := .bool true) rfl (by kernel_rfl) (by kernel_rfl) (by kernel_rfl) (fun _ _ _ h => h) (Or.inl ⟨by rfl, fun W hW => by go_simp⟩) hS5 ?_
            simp only [Act.put, List.setIfInBounds_toArray, List.set_cons_zero, List.set_cons_succ]
            refine takeC (i := 21) (v := .bool true) rfl (by kernel_rfl) (by kernel_rfl) (by kernel_rfl) (fun _ _ _ h => h) (Or.inl ⟨by rfl, fun W hW => by go_simp⟩) hS5 ?_
            simp only [Act.put, List.setIfInBounds_toArray, List.set_cons_zero, List.set_cons_succ]
            refine wpAnyH_done (by kernel_rfl) ?_ _
            have HB5 : Hid _ := bi5
            clear bi5 b5 hS
            have HBW5 : Hid (Below w2.heap.size w2 w5) := HW.out.trans (HB5.out.mono HW.out.size)
            have HP5 : Hid (OwnCal w2.heap.size w5 (.slice pa pl pc) P) := OwnCal.below HP.out HB5.out
            have HQ5 : Hid (OwnCal w2.heap.size w5 (.slice qa ql qc) Q) := OwnCal.below HQ.out HB5.out
            have R5 : Hid (w5.rangeAt xb (xo + i * 5) [.int .i64 c0, .string c1, .string c2, .bool c3, .int .u64 c4]) := range_bel RA.out HB5.out
            have T5 : Hid (w5.rangeAt yb (yo + k * 5) [.int .i64 d0, .string d1, .string d2, .bool d3, .int .u64 d4]) := range_bel RB.out HB5.out
            go_wp2_with (first | (refine wpList_load_mid rfl 32 _ rfl xb (xo + i * 5) rfl [.int .i64 c0, .string c1, .string c2, .bool c3, .int .u64 c4] _ R5.out Tryz.underlying32 rfl (by kernel_rfl) ?_) | (at_builtin; refine wpList_appD w5 rfl _ _ rfl w2.heap.size (.slice pa pl pc) P (c0, c1, c2, c3, c4) rfl HP5.out rfl (by have := HM.out; omega) HBW5.out.size ?_; intro v8 w8 o8 u8 m8; obtain ⟨a8, l8, c8, rfl⟩ := row_shape o8; have HO8 : Hid _ := o8; have HU8 : Hid _ := u8; have HM8 : Hid _ := m8; clear o8 u8 m8))
            go_roundw
            case rel =>
              refine ⟨i + 1, k, P ++ [(c0, c1, c2, c3, c4)], Q, by go_num, by go_num, by omega, by omega, HO8, OwnCal.apart HQ5.out HAP.out HU8.out, Apart.moved HAP.out HM8.out HQ5.out, ⟨?_, ?_⟩, ⟨by have := HM.out; rw [List.length_append]; simp; omega, by have := HM.out; omega⟩, HBW5.out.trans (HU8.out.below HBW5.out.size (fun j hj e => by have := (own_block HP5.out e).1; omega))⟩
              · rw [HD.out.1, HDA.out, HDB.out, woL_ahead HL.out, List.append_assoc]; rfl
              · rw [HD.out.2, HDA.out, HDB.out, woL_pass HL.out]
            case measure => simp [intOf]; omega
          · rw [decide_eq_false hl] at LE
            have HL : Hid (cmpC (d0, d1, d2, d3, d4) (c0, c1, c2, c3, c4) < 0) := cmpC_else HNE.out hl
            clear hl
            go_wp2
            refine wp_region_held (S := fun W => W.rangeAt xb (xo + i * 5) (calL (c0, c1, c2, c3, c4)) ∧ W.rangeAt yb (yo + k * 5) (calL (d0, d1, d2, d3, d4))) (by kernel_rfl) ?_
            change wpAnyH _ _ _ _ _ _ _ _ (World.drew _)
            have hS : wr.drew.rangeAt xb (xo + i * 5) (calL (c0, c1, c2, c3, c4)) ∧ wr.drew.rangeAt yb (yo + k * 5) (calL (d0, d1, d2, d3, d4)) := ⟨RA.out, RB.out⟩
            refine takeC (i := 0) (v := .int .i64 (i : Int)) rfl (by kernel_rfl) (by kernel_rfl) (by kernel_rfl) (fun _ _ _ h => h) (Or.inl ⟨by rfl, fun W hW => by go_simp⟩) hS ?_
            simp only [Act.put, List.setIfInBounds_toArray, List.set_cons_zero, List.set_cons_succ]
            refine takeC (i := 1) (v := .slice (some ⟨xb, xo, none⟩) n1 m1) rfl (by kernel_rfl) (by kernel_rfl) (by kernel_rfl) (fun _ _ _ h => h) (Or.inl ⟨by rfl, fun W hW => by go_simp⟩) hS ?_
            simp only [Act.put, List.setIfInBounds_toArray, List.set_cons_zero, List.set_cons_succ]
            refine takeC (i := 2) (v := .int .i64 (n1 : Int)) rfl (by kernel_rfl) (by kernel_rfl) (by kernel_rfl) (fun _ _ _ h => h) (Or.inl ⟨by rfl, fun W hW => by go_simp⟩) hS ?_
            simp only [Act.put, List.setIfInBounds_toArray, List.set_cons_zero, List.set_cons_succ]
            refine takeC (i := 3) (v := .bool true) rfl (by kernel_rfl) (by kernel_rfl) (by kernel_rfl) (fun _ _ _ h => h) (Or.inl ⟨by rfl, fun W hW => by go_simp⟩) hS ?_
            simp only [Act.put, List.setIfInBounds_toArray, List.set_cons_zero, List.set_cons_succ]
            refine takeC (i := 4) (v := .bool true) rfl (by kernel_rfl) (by kernel_rfl) (by kernel_rfl) (fun _ _ _ h => h) (Or.inl ⟨by rfl, fun W hW => by go_simp⟩) hS ?_
            simp only [Act.put, List.setIfInBounds_toArray, List.set_cons_zero, List.set_cons_succ]
            refine takeC (i := 5) (v := .int .i64 (k : Int)) rfl (by kernel_rfl) (by kernel_rfl) (by kernel_rfl) (fun _ _ _ h => h) (Or.inl ⟨by rfl, fun W hW => by go_simp⟩) hS ?_
            simp only [Act.put, List.setIfInBounds_toArray, List.set_cons_zero, List.set_cons_succ]
            refine takeC (i := 6) (v := .slice (some ⟨yb, yo, none⟩) n2 m2) rfl (by kernel_rfl) (by kernel_rfl) (by kernel_rfl) (fun _ _ _ h => h) (Or.inl ⟨by rfl, fun W hW => by go_simp⟩) hS ?_
            simp only [Act.put, List.setIfInBounds_toArray, List.set_cons_zero, List.set_cons_succ]
            refine takeC (i := 7) (v := .int .i64 (n2 : Int)) rfl (by kernel_rfl) (by kernel_rfl) (by kernel_rfl) (fun _ _ _ h => h) (Or.inl ⟨by rfl, fun W hW => by go_simp⟩) hS ?_
            simp only [Act.put, List.setIfInBounds_toArray, List.set_cons_zero, List.set_cons_succ]
            refine takeC (i := 8) (v := .bool true) rfl (by kernel_rfl) (by kernel_rfl) (by kernel_rfl) (fun _ _ _ h => h) (Or.inl ⟨by rfl, fun W hW => by go_simp⟩) hS ?_
            simp only [Act.put, List.setIfInBounds_toArray, List.set_cons_zero, List.set_cons_succ]
            refine takeC (i := 9) (v := .bool true) rfl (by kernel_rfl) (by kernel_rfl) (by kernel_rfl) (fun _ _ _ h => h) (Or.inl ⟨by rfl, fun W hW => by go_simp⟩) hS ?_
            simp only [Act.put, List.setIfInBounds_toArray, List.set_cons_zero, List.set_cons_succ]
            refine takeC (i := 10) (v := .bool true) rfl (by kernel_rfl) (by kernel_rfl) (by kernel_rfl) (fun _ _ _ h => h) (Or.inl ⟨by rfl, fun W hW => by go_simp⟩) hS ?_
            simp only [Act.put, List.setIfInBounds_toArray, List.set_cons_zero, List.set_cons_succ]
            refine takeC (i := 11) (v := .slice (some ⟨xb, xo, none⟩) n1 m1) rfl (by kernel_rfl) (by kernel_rfl) (by kernel_rfl) (fun _ _ _ h => h) (Or.inl ⟨by rfl, fun W hW => by go_simp⟩) hS ?_
            simp only [Act.put, List.setIfInBounds_toArray, List.set_cons_zero, List.set_cons_succ]
            refine takeC (i := 12) (v := .int .i64 (i : Int)) rfl (by kernel_rfl) (by kernel_rfl) (by kernel_rfl) (fun _ _ _ h => h) (Or.inl ⟨by rfl, fun W hW => by go_simp⟩) hS ?_
            simp only [Act.put, List.setIfInBounds_toArray, List.set_cons_zero, List.set_cons_succ]
            refine takeC (i := 13) (v := .pointer (some ⟨xb, xo + i * 5, none⟩)) rfl (by kernel_rfl) (by kernel_rfl) (by kernel_rfl) (fun _ _ _ h => h) (Or.inl ⟨by rfl, fun W hW => by go_simp⟩) hS ?_
            simp only [Act.put, List.setIfInBounds_toArray, List.set_cons_zero, List.set_cons_succ]
            refine takeC (i := 14) (v := .agg (calL (c0, c1, c2, c3, c4)).toArray) rfl (by kernel_rfl) (by kernel_rfl) (by kernel_rfl) (fun _ _ _ h => h) (yieldsIf_load_mid (by rfl) 32 _ rfl xb (xo + i * 5) rfl (calL (c0, c1, c2, c3, c4)) _ (fun W hW => hW.1) Tryz.underlying32 rfl (by kernel_rfl)) hS ?_
            simp only [Act.put, List.setIfInBounds_toArray, List.set_cons_zero, List.set_cons_succ]
            refine takeC (i := 15) (v := .slice (some ⟨yb, yo, none⟩) n2 m2) rfl (by kernel_rfl) (by kernel_rfl) (by kernel_rfl) (fun _ _ _ h => h) (Or.inl ⟨by rfl, fun W hW => by go_simp⟩) hS ?_
            simp only [Act.put, List.setIfInBounds_toArray, List.set_cons_zero, List.set_cons_succ]
            refine takeC (i := 16) (v := .int .i64 (k : Int)) rfl (by kernel_rfl) (by kernel_rfl) (by kernel_rfl) (fun _ _ _ h => h) (Or.inl ⟨by rfl, fun W hW => by go_simp⟩) hS ?_
            simp only [Act.put, List.setIfInBounds_toArray, List.set_cons_zero, List.set_cons_succ]
            refine takeC (i := 17) (v := .pointer (some ⟨yb, yo + k * 5, none⟩)) rfl (by kernel_rfl) (by kernel_rfl) (by kernel_rfl) (fun _ _ _ h => h) (Or.inl ⟨by rfl, fun W hW => by go_simp⟩) hS ?_
            simp only [Act.put, List.setIfInBounds_toArray, List.set_cons_zero, List.set_cons_succ]
            refine takeC (i := 18) (v := .agg (calL (d0, d1, d2, d3, d4)).toArray) rfl (by kernel_rfl) (by kernel_rfl) (by kernel_rfl) (fun _ _ _ h => h) (yieldsIf_load_mid (by rfl) 32 _ rfl yb (yo + k * 5) rfl (calL (d0, d1, d2, d3, d4)) _ (fun W hW => hW.2) Tryz.underlying32 rfl (by kernel_rfl)) hS ?_
            simp only [Act.put, List.setIfInBounds_toArray, List.set_cons_zero, List.set_cons_succ]
            refine takeC (i := 19) (v := .bool false) rfl (by kernel_rfl) (by kernel_rfl) (by kernel_rfl) (fun _ _ _ h => h) (Or.inl ⟨by rfl, fun W hW => by go_simp⟩) hS ?_
            simp only [Act.put, List.setIfInBounds_toArray, List.set_cons_zero, List.set_cons_succ]
            refine takeC (i := 20) (v := .bool false) rfl (by kernel_rfl) (by kernel_rfl) (by kernel_rfl) (fun _ _ _ h => h) (Or.inl ⟨by rfl, fun W hW => by go_simp⟩) hS ?_
            simp only [Act.put, List.setIfInBounds_toArray, List.set_cons_zero, List.set_cons_succ]
            refine wpAnyH_done (by kernel_rfl) ?_ _
            clear hS
            go_wp2
            refine wp_region_held (S := fun W => W.rangeAt xb (xo + i * 5) (calL (c0, c1, c2, c3, c4)) ∧ W.rangeAt yb (yo + k * 5) (calL (d0, d1, d2, d3, d4))) (by kernel_rfl) ?_
            change wpAnyH _ _ _ _ _ _ _ _ (World.drew _)
            have hS : wr.drew.drew.rangeAt xb (xo + i * 5) (calL (c0, c1, c2, c3, c4)) ∧ wr.drew.drew.rangeAt yb (yo + k * 5) (calL (d0, d1, d2, d3, d4)) := ⟨RA.out, RB.out⟩
            refine takeC (i := 0) (v := .int .i64 (i : Int)) rfl (by kernel_rfl) (by kernel_rfl) (by kernel_rfl) (fun _ _ _ h => h) (Or.inl ⟨by rfl, fun W hW => by go_simp⟩) hS ?_
            simp only [Act.put, List.setIfInBounds_toArray, List.set_cons_zero, List.set_cons_succ]
            refine takeC (i := 1) (v := .slice (some ⟨xb, xo, none⟩) n1 m1) rfl (by kernel_rfl) (by kernel_rfl) (by kernel_rfl) (fun _ _ _ h => h) (Or.inl ⟨by rfl, fun W hW => by go_simp⟩) hS ?_
            simp only [Act.put, List.setIfInBounds_toArray, List.set_cons_zero, List.set_cons_succ]
            refine takeC (i := 2) (v := .int .i64 (n1 : Int)) rfl (by kernel_rfl) (by kernel_rfl) (by kernel_rfl) (fun _ _ _ h => h) (Or.inl ⟨by rfl, fun W hW => by go_simp⟩) hS ?_
            simp only [Act.put, List.setIfInBounds_toArray, List.set_cons_zero, List.set_cons_succ]
            refine takeC (i := 3) (v := .bool true) rfl (by kernel_rfl) (by kernel_rfl) (by kernel_rfl) (fun _ _ _ h => h) (Or.inl ⟨by rfl, fun W hW => by go_simp⟩) hS ?_
            simp only [Act.put, List.setIfInBounds_toArray, List.set_cons_zero, List.set_cons_succ]
            refine takeC (i := 4) (v := .bool true) rfl (by kernel_rfl) (by kernel_rfl) (by kernel_rfl) (fun _ _ _ h => h) (Or.inl ⟨by rfl, fun W hW => by go_simp⟩) hS ?_
            simp only [Act.put, List.setIfInBounds_toArray, List.set_cons_zero, List.set_cons_succ]
            refine takeC (i := 5) (v := .int .i64 (k : Int)) rfl (by kernel_rfl) (by kernel_rfl) (by kernel_rfl) (fun _ _ _ h => h) (Or.inl ⟨by rfl, fun W hW => by go_simp⟩) hS ?_
            simp only [Act.put, List.setIfInBounds_toArray, List.set_cons_zero, List.set_cons_succ]
            refine takeC (i := 6) (v := .slice (some ⟨yb, yo, none⟩) n2 m2) rfl (by kernel_rfl) (by kernel_rfl) (by kernel_rfl) (fun _ _ _ h => h) (Or.inl ⟨by rfl, fun W hW => by go_simp⟩) hS ?_
            simp only [Act.put, List.setIfInBounds_toArray, List.set_cons_zero, List.set_cons_succ]
            refine takeC (i := 7) (v := .int .i64 (n2 : Int)) rfl (by kernel_rfl) (by kernel_rfl) (by kernel_rfl) (fun _ _ _ h => h) (Or.inl ⟨by rfl, fun W hW => by go_simp⟩) hS ?_
            simp only [Act.put, List.setIfInBounds_toArray, List.set_cons_zero, List.set_cons_succ]
            refine takeC (i := 8) (v := .bool true) rfl (by kernel_rfl) (by kernel_rfl) (by kernel_rfl) (fun _ _ _ h => h) (Or.inl ⟨by rfl, fun W hW => by go_simp⟩) hS ?_
            simp only [Act.put, List.setIfInBounds_toArray, List.set_cons_zero, List.set_cons_succ]
            refine takeC (i := 9) (v := .bool true) rfl (by kernel_rfl) (by kernel_rfl) (by kernel_rfl) (fun _ _ _ h => h) (Or.inl ⟨by rfl, fun W hW => by go_simp⟩) hS ?_
            simp only [Act.put, List.setIfInBounds_toArray, List.set_cons_zero, List.set_cons_succ]
            refine takeC (i := 10) (v := .bool true) rfl (by kernel_rfl) (by kernel_rfl) (by kernel_rfl) (fun _ _ _ h => h) (Or.inl ⟨by rfl, fun W hW => by go_simp⟩) hS ?_
            simp only [Act.put, List.setIfInBounds_toArray, List.set_cons_zero, List.set_cons_succ]
            refine takeC (i := 11) (v := .slice (some ⟨xb, xo, none⟩) n1 m1) rfl (by kernel_rfl) (by kernel_rfl) (by kernel_rfl) (fun _ _ _ h => h) (Or.inl ⟨by rfl, fun W hW => by go_simp⟩) hS ?_
            simp only [Act.put, List.setIfInBounds_toArray, List.set_cons_zero, List.set_cons_succ]
            refine takeC (i := 12) (v := .int .i64 (i : Int)) rfl (by kernel_rfl) (by kernel_rfl) (by kernel_rfl) (fun _ _ _ h => h) (Or.inl ⟨by rfl, fun W hW => by go_simp⟩) hS ?_
            simp only [Act.put, List.setIfInBounds_toArray, List.set_cons_zero, List.set_cons_succ]
            refine takeC (i := 13) (v := .pointer (some ⟨xb, xo + i * 5, none⟩)) rfl (by kernel_rfl) (by kernel_rfl) (by kernel_rfl) (fun _ _ _ h => h) (Or.inl ⟨by rfl, fun W hW => by go_simp⟩) hS ?_
            simp only [Act.put, List.setIfInBounds_toArray, List.set_cons_zero, List.set_cons_succ]
            refine takeC (i := 14) (v := .agg (calL (c0, c1, c2, c3, c4)).toArray) rfl (by kernel_rfl) (by kernel_rfl) (by kernel_rfl) (fun _ _ _ h => h) (yieldsIf_load_mid (by rfl) 32 _ rfl xb (xo + i * 5) rfl (calL (c0, c1, c2, c3, c4)) _ (fun W hW => hW.1) Tryz.underlying32 rfl (by kernel_rfl)) hS ?_
            simp only [Act.put, List.setIfInBounds_toArray, List.set_cons_zero, List.set_cons_succ]
            refine takeC (i := 15) (v := .slice (some ⟨yb, yo, none⟩) n2 m2) rfl (by kernel_rfl) (by kernel_rfl) (by kernel_rfl) (fun _ _ _ h => h) (Or.inl ⟨by rfl, fun W hW => by go_simp⟩) hS ?_
            simp only [Act.put, List.setIfInBounds_toArray, List.set_cons_zero, List.set_cons_succ]
            refine takeC (i := 16) (v := .int .i64 (k : Int)) rfl (by kernel_rfl) (by kernel_rfl) (by kernel_rfl) (fun _ _ _ h => h) (Or.inl ⟨by rfl, fun W hW => by go_simp⟩) hS ?_
            simp only [Act.put, List.setIfInBounds_toArray, List.set_cons_zero, List.set_cons_succ]
            refine takeC (i := 17) (v := .pointer (some ⟨yb, yo + k * 5, none⟩)) rfl (by kernel_rfl) (by kernel_rfl) (by kernel_rfl) (fun _ _ _ h => h) (Or.inl ⟨by rfl, fun W hW => by go_simp⟩) hS ?_
            simp only [Act.put, List.setIfInBounds_toArray, List.set_cons_zero, List.set_cons_succ]
            refine takeC (i := 18) (v := .agg (calL (d0, d1, d2, d3, d4)).toArray) rfl (by kernel_rfl) (by kernel_rfl) (by kernel_rfl) (fun _ _ _ h => h) (yieldsIf_load_mid (by rfl) 32 _ rfl yb (yo + k * 5) rfl (calL (d0, d1, d2, d3, d4)) _ (fun W hW => hW.2) Tryz.underlying32 rfl (by kernel_rfl)) hS ?_
            simp only [Act.put, List.setIfInBounds_toArray, List.set_cons_zero, List.set_cons_succ]
            refine onlyC (i := 19) rfl (by kernel_rfl) (fun K hK => ?_)
            go_simp
            go_at_call 29
            (with_reducible refine (LE _).mono ?_)
            rintro e w5 ⟨rfl, b5⟩
            have bi5 : Below wr.heap.size wr w5 := Below.trans (((Below.refl wr.heap.size wr).drew).drew) b5
            have hS5 := HKP.out w5 bi5
            refine hK _ _ ⟨hS5, ?_⟩
            clear hK K
            refine takeC (i := 20) (v := .bool false) rfl (by kernel_rfl) (by kernel_rfl) (by kernel_rfl) (fun _ _ _ h => h) (Or.inl ⟨by rfl, fun W hW => by go_simp⟩) hS5 ?_
            simp only [Act.put, List.setIfInBounds_toArray, List.set_cons_zero, List.set_cons_succ]
            refine takeC (i := 21) (v := .bool false) rfl (by kernel_rfl) (by kernel_rfl) (by kernel_rfl) (fun _ _ _ h => h) (Or.inl ⟨by rfl, fun W hW => by go_simp⟩) hS5 ?_
            simp only [Act.put, List.setIfInBounds_toArray, List.set_cons_zero, List.set_cons_succ]
            refine wpAnyH_done (by kernel_rfl) ?_ _
            have HB5 : Hid _ := bi5
            clear bi5 b5 hS
            have HBW5 : Hid (Below w2.heap.size w2 w5) := HW.out.trans (HB5.out.mono HW.out.size)
            have HP5 : Hid (OwnCal w2.heap.size w5 (.slice pa pl pc) P) := OwnCal.below HP.out HB5.out
            have HQ5 : Hid (OwnCal w2.heap.size w5 (.slice qa ql qc) Q) := OwnCal.below HQ.out HB5.out
            have R5 : Hid (w5.rangeAt xb (xo + i * 5) [.int .i64 c0, .string c1, .string c2, .bool c3, .int .u64 c4]) := range_bel RA.out HB5.out
            have T5 : Hid (w5.rangeAt yb (yo + k * 5) [.int .i64 d0, .string d1, .string d2, .bool d3, .int .u64 d4]) := range_bel RB.out HB5.out
            go_wp2_with (first | (refine wpList_load_mid rfl 32 _ rfl yb (yo + k * 5) rfl [.int .i64 d0, .string d1, .string d2, .bool d3, .int .u64 d4] _ T5.out Tryz.underlying32 rfl (by kernel_rfl) ?_) | (at_builtin; refine wpList_appD w5 rfl _ _ rfl w2.heap.size (.slice qa ql qc) Q (d0, d1, d2, d3, d4) rfl HQ5.out rfl (by have := HM.out; omega) HBW5.out.size ?_; intro v8 w8 o8 u8 m8; obtain ⟨a8, l8, c8, rfl⟩ := row_shape o8; have HO8 : Hid _ := o8; have HU8 : Hid _ := u8; have HM8 : Hid _ := m8; clear o8 u8 m8))
            go_roundw
            case rel =>
              refine ⟨i, k + 1, P, Q ++ [(d0, d1, d2, d3, d4)], by go_num, by go_num, by omega, by omega, OwnCal.apart HP5.out (Apart.symm HAP.out) HU8.out, HO8, Apart.symm (Apart.moved (Apart.symm HAP.out) HM8.out HP5.out), ⟨?_, ?_⟩, ⟨by have := HM.out; omega, by have := HM.out; rw [List.length_append]; simp; omega⟩, HBW5.out.trans (HU8.out.below HBW5.out.size (fun j hj e => by have := (own_block HQ5.out e).1; omega))⟩
              · rw [HD.out.1, HDA.out, HDB.out, woL_pass HL.out]
              · rw [HD.out.2, HDA.out, HDB.out, woL_ahead HL.out, List.append_assoc]; rfl
            case measure => simp [intOf]; omega
      · have HDB : Hid (B.drop k = []) := List.drop_eq_nil_of_le (by rw [HYl.out]; omega)
        have h2' : ¬ (k : Int) < (n2 : Int) := by omega
        have hkb : ((k : Int) == (n2 : Int)) = true := by simp; omega
        go_wp2
        refine wp_region_held (S := fun _ => True) (by kernel_rfl) ?_
        change wpAnyH _ _ _ _ _ _ _ _ (World.drew _)
        refine takeC (i := 0) (v := .int .i64 (i : Int)) rfl (by kernel_rfl) (by kernel_rfl) (by kernel_rfl) (fun _ _ _ h => h) (Or.inl ⟨by rfl, fun W hW => by go_simp⟩) trivial ?_
        simp only [Act.put, List.setIfInBounds_toArray, List.set_cons_zero, List.set_cons_succ]
        refine takeC (i := 1) (v := .slice (some ⟨xb, xo, none⟩) n1 m1) rfl (by kernel_rfl) (by kernel_rfl) (by kernel_rfl) (fun _ _ _ h => h) (Or.inl ⟨by rfl, fun W hW => by go_simp⟩) trivial ?_
        simp only [Act.put, List.setIfInBounds_toArray, List.set_cons_zero, List.set_cons_succ]
        refine takeC (i := 2) (v := .int .i64 (n1 : Int)) rfl (by kernel_rfl) (by kernel_rfl) (by kernel_rfl) (fun _ _ _ h => h) (Or.inl ⟨by rfl, fun W hW => by go_simp⟩) trivial ?_
        simp only [Act.put, List.setIfInBounds_toArray, List.set_cons_zero, List.set_cons_succ]
        refine takeC (i := 3) (v := .bool true) rfl (by kernel_rfl) (by kernel_rfl) (by kernel_rfl) (fun _ _ _ h => h) (Or.inl ⟨by rfl, fun W hW => by go_simp⟩) trivial ?_
        simp only [Act.put, List.setIfInBounds_toArray, List.set_cons_zero, List.set_cons_succ]
        refine takeC (i := 4) (v := .bool true) rfl (by kernel_rfl) (by kernel_rfl) (by kernel_rfl) (fun _ _ _ h => h) (Or.inl ⟨by rfl, fun W hW => by go_simp⟩) trivial ?_
        simp only [Act.put, List.setIfInBounds_toArray, List.set_cons_zero, List.set_cons_succ]
        refine takeC (i := 5) (v := .int .i64 (k : Int)) rfl (by kernel_rfl) (by kernel_rfl) (by kernel_rfl) (fun _ _ _ h => h) (Or.inl ⟨by rfl, fun W hW => by go_simp⟩) trivial ?_
        simp only [Act.put, List.setIfInBounds_toArray, List.set_cons_zero, List.set_cons_succ]
        refine takeC (i := 6) (v := .slice yy n2 m2) rfl (by kernel_rfl) (by kernel_rfl) (by kernel_rfl) (fun _ _ _ h => h) (Or.inl ⟨by rfl, fun W hW => by go_simp⟩) trivial ?_
        simp only [Act.put, List.setIfInBounds_toArray, List.set_cons_zero, List.set_cons_succ]
        refine takeC (i := 7) (v := .int .i64 (n2 : Int)) rfl (by kernel_rfl) (by kernel_rfl) (by kernel_rfl) (fun _ _ _ h => h) (Or.inl ⟨by rfl, fun W hW => by go_simp⟩) trivial ?_
        simp only [Act.put, List.setIfInBounds_toArray, List.set_cons_zero, List.set_cons_succ]
        refine takeC (i := 8) (v := .bool false) rfl (by kernel_rfl) (by kernel_rfl) (by kernel_rfl) (fun _ _ _ h => h) (Or.inl ⟨by rfl, fun W hW => by go_simp⟩) trivial ?_
        simp only [Act.put, List.setIfInBounds_toArray, List.set_cons_zero, List.set_cons_succ]
        refine takeC (i := 9) (v := .bool false) rfl (by kernel_rfl) (by kernel_rfl) (by kernel_rfl) (fun _ _ _ h => h) (Or.inl ⟨by rfl, fun W hW => by go_simp⟩) trivial ?_
        simp only [Act.put, List.setIfInBounds_toArray, List.set_cons_zero, List.set_cons_succ]
        refine takeC (i := 10) (v := .bool false) rfl (by kernel_rfl) (by kernel_rfl) (by kernel_rfl) (fun _ _ _ h => h) (Or.inl ⟨by rfl, fun W hW => by go_simp⟩) trivial ?_
        simp only [Act.put, List.setIfInBounds_toArray, List.set_cons_zero, List.set_cons_succ]
        refine takeC (i := 11) (v := undef) rfl (by kernel_rfl) (by kernel_rfl) (by kernel_rfl) (fun _ _ _ h => h) (Or.inr ⟨by rfl, rfl⟩) trivial ?_
        simp only [Act.put, List.setIfInBounds_toArray, List.set_cons_zero, List.set_cons_succ]
        refine takeC (i := 12) (v := undef) rfl (by kernel_rfl) (by kernel_rfl) (by kernel_rfl) (fun _ _ _ h => h) (Or.inr ⟨by rfl, rfl⟩) trivial ?_
        simp only [Act.put, List.setIfInBounds_toArray, List.set_cons_zero, List.set_cons_succ]
        refine takeC (i := 13) (v := undef) rfl (by kernel_rfl) (by kernel_rfl) (by kernel_rfl) (fun _ _ _ h => h) (Or.inr ⟨by rfl, rfl⟩) trivial ?_
        simp only [Act.put, List.setIfInBounds_toArray, List.set_cons_zero, List.set_cons_succ]
        refine takeC (i := 14) (v := undef) rfl (by kernel_rfl) (by kernel_rfl) (by kernel_rfl) (fun _ _ _ h => h) (Or.inr ⟨by rfl, rfl⟩) trivial ?_
        simp only [Act.put, List.setIfInBounds_toArray, List.set_cons_zero, List.set_cons_succ]
        refine takeC (i := 15) (v := undef) rfl (by kernel_rfl) (by kernel_rfl) (by kernel_rfl) (fun _ _ _ h => h) (Or.inr ⟨by rfl, rfl⟩) trivial ?_
        simp only [Act.put, List.setIfInBounds_toArray, List.set_cons_zero, List.set_cons_succ]
        refine takeC (i := 16) (v := undef) rfl (by kernel_rfl) (by kernel_rfl) (by kernel_rfl) (fun _ _ _ h => h) (Or.inr ⟨by rfl, rfl⟩) trivial ?_
        simp only [Act.put, List.setIfInBounds_toArray, List.set_cons_zero, List.set_cons_succ]
        refine takeC (i := 17) (v := undef) rfl (by kernel_rfl) (by kernel_rfl) (by kernel_rfl) (fun _ _ _ h => h) (Or.inr ⟨by rfl, rfl⟩) trivial ?_
        simp only [Act.put, List.setIfInBounds_toArray, List.set_cons_zero, List.set_cons_succ]
        refine takeC (i := 18) (v := undef) rfl (by kernel_rfl) (by kernel_rfl) (by kernel_rfl) (fun _ _ _ h => h) (Or.inr ⟨by rfl, rfl⟩) trivial ?_
        simp only [Act.put, List.setIfInBounds_toArray, List.set_cons_zero, List.set_cons_succ]
        refine takeC (i := 19) (v := undef) rfl (by kernel_rfl) (by kernel_rfl) (by kernel_rfl) (fun _ _ _ h => h) (Or.inr ⟨by rfl, rfl⟩) trivial ?_
        simp only [Act.put, List.setIfInBounds_toArray, List.set_cons_zero, List.set_cons_succ]
        refine takeC (i := 20) (v := .bool false) rfl (by kernel_rfl) (by kernel_rfl) (by kernel_rfl) (fun _ _ _ h => h) (Or.inl ⟨by rfl, fun W hW => by go_simp⟩) trivial ?_
        simp only [Act.put, List.setIfInBounds_toArray, List.set_cons_zero, List.set_cons_succ]
        refine wpAnyH_done (by kernel_rfl) ?_ _
        go_wp2
        refine wp_region_held (S := fun _ => True) (by kernel_rfl) ?_
        change wpAnyH _ _ _ _ _ _ _ _ (World.drew _)
        refine takeC (i := 0) (v := .int .i64 (i : Int)) rfl (by kernel_rfl) (by kernel_rfl) (by kernel_rfl) (fun _ _ _ h => h) (Or.inl ⟨by rfl, fun W hW => by go_simp⟩) trivial ?_
        simp only [Act.put, List.setIfInBounds_toArray, List.set_cons_zero, List.set_cons_succ]
        refine takeC (i := 1) (v := .slice (some ⟨xb, xo, none⟩) n1 m1) rfl (by kernel_rfl) (by kernel_rfl) (by kernel_rfl) (fun _ _ _ h => h) (Or.inl ⟨by rfl, fun W hW => by go_simp⟩) trivial ?_
        simp only [Act.put, List.setIfInBounds_toArray, List.set_cons_zero, List.set_cons_succ]
        refine takeC (i := 2) (v := .int .i64 (n1 : Int)) rfl (by kernel_rfl) (by kernel_rfl) (by kernel_rfl) (fun _ _ _ h => h) (Or.inl ⟨by rfl, fun W hW => by go_simp⟩) trivial ?_
        simp only [Act.put, List.setIfInBounds_toArray, List.set_cons_zero, List.set_cons_succ]
        refine takeC (i := 3) (v := .bool true) rfl (by kernel_rfl) (by kernel_rfl) (by kernel_rfl) (fun _ _ _ h => h) (Or.inl ⟨by rfl, fun W hW => by go_simp⟩) trivial ?_
        simp only [Act.put, List.setIfInBounds_toArray, List.set_cons_zero, List.set_cons_succ]
        refine takeC (i := 4) (v := .bool true) rfl (by kernel_rfl) (by kernel_rfl) (by kernel_rfl) (fun _ _ _ h => h) (Or.inl ⟨by rfl, fun W hW => by go_simp⟩) trivial ?_
        simp only [Act.put, List.setIfInBounds_toArray, List.set_cons_zero, List.set_cons_succ]
        refine takeC (i := 5) (v := .int .i64 (k : Int)) rfl (by kernel_rfl) (by kernel_rfl) (by kernel_rfl) (fun _ _ _ h => h) (Or.inl ⟨by rfl, fun W hW => by go_simp⟩) trivial ?_
        simp only [Act.put, List.setIfInBounds_toArray, List.set_cons_zero, List.set_cons_succ]
        refine takeC (i := 6) (v := .slice yy n2 m2) rfl (by kernel_rfl) (by kernel_rfl) (by kernel_rfl) (fun _ _ _ h => h) (Or.inl ⟨by rfl, fun W hW => by go_simp⟩) trivial ?_
        simp only [Act.put, List.setIfInBounds_toArray, List.set_cons_zero, List.set_cons_succ]
        refine takeC (i := 7) (v := .int .i64 (n2 : Int)) rfl (by kernel_rfl) (by kernel_rfl) (by kernel_rfl) (fun _ _ _ h => h) (Or.inl ⟨by rfl, fun W hW => by go_simp⟩) trivial ?_
        simp only [Act.put, List.setIfInBounds_toArray, List.set_cons_zero, List.set_cons_succ]
        refine takeC (i := 8) (v := .bool false) rfl (by kernel_rfl) (by kernel_rfl) (by kernel_rfl) (fun _ _ _ h => h) (Or.inl ⟨by rfl, fun W hW => by go_simp⟩) trivial ?_
        simp only [Act.put, List.setIfInBounds_toArray, List.set_cons_zero, List.set_cons_succ]
        refine takeC (i := 9) (v := .bool false) rfl (by kernel_rfl) (by kernel_rfl) (by kernel_rfl) (fun _ _ _ h => h) (Or.inl ⟨by rfl, fun W hW => by go_simp⟩) trivial ?_
        simp only [Act.put, List.setIfInBounds_toArray, List.set_cons_zero, List.set_cons_succ]
        refine takeC (i := 10) (v := .bool false) rfl (by kernel_rfl) (by kernel_rfl) (by kernel_rfl) (fun _ _ _ h => h) (Or.inl ⟨by rfl, fun W hW => by go_simp⟩) trivial ?_
        simp only [Act.put, List.setIfInBounds_toArray, List.set_cons_zero, List.set_cons_succ]
        refine takeC (i := 11) (v := undef) rfl (by kernel_rfl) (by kernel_rfl) (by kernel_rfl) (fun _ _ _ h => h) (Or.inr ⟨by rfl, rfl⟩) trivial ?_
        simp only [Act.put, List.setIfInBounds_toArray, List.set_cons_zero, List.set_cons_succ]
        refine takeC (i := 12) (v := undef) rfl (by kernel_rfl) (by kernel_rfl) (by kernel_rfl) (fun _ _ _ h => h) (Or.inr ⟨by rfl, rfl⟩) trivial ?_
        simp only [Act.put, List.setIfInBounds_toArray, List.set_cons_zero, List.set_cons_succ]
        refine takeC (i := 13) (v := undef) rfl (by kernel_rfl) (by kernel_rfl) (by kernel_rfl) (fun _ _ _ h => h) (Or.inr ⟨by rfl, rfl⟩) trivial ?_
        simp only [Act.put, List.setIfInBounds_toArray, List.set_cons_zero, List.set_cons_succ]
        refine takeC (i := 14) (v := undef) rfl (by kernel_rfl) (by kernel_rfl) (by kernel_rfl) (fun _ _ _ h => h) (Or.inr ⟨by rfl, rfl⟩) trivial ?_
        simp only [Act.put, List.setIfInBounds_toArray, List.set_cons_zero, List.set_cons_succ]
        refine takeC (i := 15) (v := undef) rfl (by kernel_rfl) (by kernel_rfl) (by kernel_rfl) (fun _ _ _ h => h) (Or.inr ⟨by rfl, rfl⟩) trivial ?_
        simp only [Act.put, List.setIfInBounds_toArray, List.set_cons_zero, List.set_cons_succ]
        refine takeC (i := 16) (v := undef) rfl (by kernel_rfl) (by kernel_rfl) (by kernel_rfl) (fun _ _ _ h => h) (Or.inr ⟨by rfl, rfl⟩) trivial ?_
        simp only [Act.put, List.setIfInBounds_toArray, List.set_cons_zero, List.set_cons_succ]
        refine takeC (i := 17) (v := undef) rfl (by kernel_rfl) (by kernel_rfl) (by kernel_rfl) (fun _ _ _ h => h) (Or.inr ⟨by rfl, rfl⟩) trivial ?_
        simp only [Act.put, List.setIfInBounds_toArray, List.set_cons_zero, List.set_cons_succ]
        refine takeC (i := 18) (v := undef) rfl (by kernel_rfl) (by kernel_rfl) (by kernel_rfl) (fun _ _ _ h => h) (Or.inr ⟨by rfl, rfl⟩) trivial ?_
        simp only [Act.put, List.setIfInBounds_toArray, List.set_cons_zero, List.set_cons_succ]
        refine takeC (i := 19) (v := undef) rfl (by kernel_rfl) (by kernel_rfl) (by kernel_rfl) (fun _ _ _ h => h) (Or.inr ⟨by rfl, rfl⟩) trivial ?_
        simp only [Act.put, List.setIfInBounds_toArray, List.set_cons_zero, List.set_cons_succ]
        refine takeC (i := 20) (v := .bool false) rfl (by kernel_rfl) (by kernel_rfl) (by kernel_rfl) (fun _ _ _ h => h) (Or.inl ⟨by rfl, fun W hW => by go_simp⟩) trivial ?_
        simp only [Act.put, List.setIfInBounds_toArray, List.set_cons_zero, List.set_cons_succ]
        refine takeC (i := 21) (v := .bool false) rfl (by kernel_rfl) (by kernel_rfl) (by kernel_rfl) (fun _ _ _ h => h) (Or.inl ⟨by rfl, fun W hW => by go_simp⟩) trivial ?_
        simp only [Act.put, List.setIfInBounds_toArray, List.set_cons_zero, List.set_cons_succ]
        refine wpAnyH_done (by kernel_rfl) ?_ _
        obtain ⟨w5, hw5⟩ : ∃ V, wr.drew.drew = V := ⟨_, rfl⟩
        have HB5 : Hid (Below wr.heap.size wr w5) := by rw [← hw5]; exact ((Below.refl wr.heap.size wr).drew).drew
        (try rw [hw5])
        clear hw5
        have HBW5 : Hid (Below w2.heap.size w2 w5) := HW.out.trans (HB5.out.mono HW.out.size)
        have HP5 : Hid (OwnCal w2.heap.size w5 (.slice pa pl pc) P) := OwnCal.below HP.out HB5.out
        have HQ5 : Hid (OwnCal w2.heap.size w5 (.slice qa ql qc) Q) := OwnCal.below HQ.out HB5.out
        have R5 : Hid (w5.rangeAt xb (xo + i * 5) [.int .i64 c0, .string c1, .string c2, .bool c3, .int .u64 c4]) := range_bel RA.out HB5.out
        go_wp2_with (first | (refine wpList_load_mid rfl 32 _ rfl xb (xo + i * 5) rfl [.int .i64 c0, .string c1, .string c2, .bool c3, .int .u64 c4] _ R5.out Tryz.underlying32 rfl (by kernel_rfl) ?_) | (at_builtin; refine wpList_appD w5 rfl _ _ rfl w2.heap.size (.slice pa pl pc) P (c0, c1, c2, c3, c4) rfl HP5.out rfl (by have := HM.out; omega) HBW5.out.size ?_; intro v8 w8 o8 u8 m8; obtain ⟨a8, l8, c8, rfl⟩ := row_shape o8; have HO8 : Hid _ := o8; have HU8 : Hid _ := u8; have HM8 : Hid _ := m8; clear o8 u8 m8))
        go_roundw
        case rel =>
          refine ⟨i + 1, k, P ++ [(c0, c1, c2, c3, c4)], Q, by go_num, by go_num, by omega, by omega, HO8, OwnCal.apart HQ5.out HAP.out HU8.out, Apart.moved HAP.out HM8.out HQ5.out, ⟨?_, ?_⟩, ⟨by have := HM.out; rw [List.length_append]; simp; omega, by have := HM.out; omega⟩, HBW5.out.trans (HU8.out.below HBW5.out.size (fun j hj e => by have := (own_block HP5.out e).1; omega))⟩
          · rw [HD.out.1, HDA.out, HDB.out, woL_nilR, woL_nilR, List.append_assoc]; rfl
          · rw [HD.out.2, HDB.out, woL_nilL, woL_nilL]
        case measure => simp [intOf]; omega
    · have HDA : Hid (A.drop i = []) := List.drop_eq_nil_of_le (by rw [HXl.out]; omega)
      have h1' : ¬ (i : Int) < (n1 : Int) := by omega
      by_cases h2 : k < n2
      · have hkB : k < B.length := by rw [HYl.out]; exact h2
        have HDB : Hid (B.drop k = B[k] :: B.drop (k + 1)) := List.drop_eq_getElem_cons hkB
        obtain ⟨yb, yo, rfl, hry⟩ := (HY2.out.below HW.out).lies (by omega)
        have RB : Hid (wr.rangeAt yb (yo + k * 5) (calL B[k])) := hry k hkB
        obtain ⟨⟨d0, d1, d2, d3, d4⟩, ed⟩ : ∃ d, B[k] = d := ⟨_, rfl⟩
        rw [ed] at HDB RB
        clear ed hry
        have h2' : (k : Int) < (n2 : Int) := by omega
        have hkb : ((k : Int) == (n2 : Int)) = false := by simp; omega
        go_wp2
        refine wp_region_held (S := fun _ => True) (by kernel_rfl) ?_
        change wpAnyH _ _ _ _ _ _ _ _ (World.drew _)
        refine takeC (i := 0) (v := .int .i64 (i : Int)) rfl (by kernel_rfl) (by kernel_rfl) (by kernel_rfl) (fun _ _ _ h => h) (Or.inl ⟨by rfl, fun W hW => by go_simp⟩) trivial ?_
        simp only [Act.put, List.setIfInBounds_toArray, List.set_cons_zero, List.set_cons_succ]
        refine takeC (i := 1) (v := .slice xx n1 m1) rfl (by kernel_rfl) (by kernel_rfl) (by kernel_rfl) (fun _ _ _ h => h) (Or.inl ⟨by rfl, fun W hW => by go_simp⟩) trivial ?_
        simp only [Act.put, List.setIfInBounds_toArray, List.set_cons_zero, List.set_cons_succ]
        refine takeC (i := 2) (v := .int .i64 (n1 : Int)) rfl (by kernel_rfl) (by kernel_rfl) (by kernel_rfl) (fun _ _ _ h => h) (Or.inl ⟨by rfl, fun W hW => by go_simp⟩) trivial ?_
        simp only [Act.put, List.setIfInBounds_toArray, List.set_cons_zero, List.set_cons_succ]
        refine takeC (i := 3) (v := .bool false) rfl (by kernel_rfl) (by kernel_rfl) (by kernel_rfl) (fun _ _ _ h => h) (Or.inl ⟨by rfl, fun W hW => by go_simp⟩) trivial ?_
        simp only [Act.put, List.setIfInBounds_toArray, List.set_cons_zero, List.set_cons_succ]
        refine takeC (i := 4) (v := .bool false) rfl (by kernel_rfl) (by kernel_rfl) (by kernel_rfl) (fun _ _ _ h => h) (Or.inl ⟨by rfl, fun W hW => by go_simp⟩) trivial ?_
        simp only [Act.put, List.setIfInBounds_toArray, List.set_cons_zero, List.set_cons_succ]
        refine takeC (i := 5) (v := undef) rfl (by kernel_rfl) (by kernel_rfl) (by kernel_rfl) (fun _ _ _ h => h) (Or.inr ⟨by rfl, rfl⟩) trivial ?_
        simp only [Act.put, List.setIfInBounds_toArray, List.set_cons_zero, List.set_cons_succ]
        refine takeC (i := 6) (v := undef) rfl (by kernel_rfl) (by kernel_rfl) (by kernel_rfl) (fun _ _ _ h => h) (Or.inr ⟨by rfl, rfl⟩) trivial ?_
        simp only [Act.put, List.setIfInBounds_toArray, List.set_cons_zero, List.set_cons_succ]
        refine takeC (i := 7) (v := undef) rfl (by kernel_rfl) (by kernel_rfl) (by kernel_rfl) (fun _ _ _ h => h) (Or.inr ⟨by rfl, rfl⟩) trivial ?_
        simp only [Act.put, List.setIfInBounds_toArray, List.set_cons_zero, List.set_cons_succ]
        refine takeC (i := 8) (v := undef) rfl (by kernel_rfl) (by kernel_rfl) (by kernel_rfl) (fun _ _ _ h => h) (Or.inr ⟨by rfl, rfl⟩) trivial ?_
        simp only [Act.put, List.setIfInBounds_toArray, List.set_cons_zero, List.set_cons_succ]
        refine takeC (i := 9) (v := .bool false) rfl (by kernel_rfl) (by kernel_rfl) (by kernel_rfl) (fun _ _ _ h => h) (Or.inl ⟨by rfl, fun W hW => by go_simp⟩) trivial ?_
        simp only [Act.put, List.setIfInBounds_toArray, List.set_cons_zero, List.set_cons_succ]
        refine takeC (i := 10) (v := .bool false) rfl (by kernel_rfl) (by kernel_rfl) (by kernel_rfl) (fun _ _ _ h => h) (Or.inl ⟨by rfl, fun W hW => by go_simp⟩) trivial ?_
        simp only [Act.put, List.setIfInBounds_toArray, List.set_cons_zero, List.set_cons_succ]
        refine takeC (i := 11) (v := undef) rfl (by kernel_rfl) (by kernel_rfl) (by kernel_rfl) (fun _ _ _ h => h) (Or.inr ⟨by rfl, rfl⟩) trivial ?_
        simp only [Act.put, List.setIfInBounds_toArray, List.set_cons_zero, List.set_cons_succ]
        refine takeC (i := 12) (v := undef) rfl (by kernel_rfl) (by kernel_rfl) (by kernel_rfl) (fun _ _ _ h => h) (Or.inr ⟨by rfl, rfl⟩) trivial ?_
        simp only [Act.put, List.setIfInBounds_toArray, List.set_cons_zero, List.set_cons_succ]
        refine takeC (i := 13) (v := undef) rfl (by kernel_rfl) (by kernel_rfl) (by kernel_rfl) (fun _ _ _ h => h) (Or.inr ⟨by rfl, rfl⟩) trivial ?_
        simp only [Act.put, List.setIfInBounds_toArray, List.set_cons_zero, List.set_cons_succ]
        refine takeC (i := 14) (v := undef) rfl (by kernel_rfl) (by kernel_rfl) (by kernel_rfl) (fun _ _ _ h => h) (Or.inr ⟨by rfl, rfl⟩) trivial ?_
        simp only [Act.put, List.setIfInBounds_toArray, List.set_cons_zero, List.set_cons_succ]
        refine takeC (i := 15) (v := undef) rfl (by kernel_rfl) (by kernel_rfl) (by kernel_rfl) (fun _ _ _ h => h) (Or.inr ⟨by rfl, rfl⟩) trivial ?_
        simp only [Act.put, List.setIfInBounds_toArray, List.set_cons_zero, List.set_cons_succ]
        refine takeC (i := 16) (v := undef) rfl (by kernel_rfl) (by kernel_rfl) (by kernel_rfl) (fun _ _ _ h => h) (Or.inr ⟨by rfl, rfl⟩) trivial ?_
        simp only [Act.put, List.setIfInBounds_toArray, List.set_cons_zero, List.set_cons_succ]
        refine takeC (i := 17) (v := undef) rfl (by kernel_rfl) (by kernel_rfl) (by kernel_rfl) (fun _ _ _ h => h) (Or.inr ⟨by rfl, rfl⟩) trivial ?_
        simp only [Act.put, List.setIfInBounds_toArray, List.set_cons_zero, List.set_cons_succ]
        refine takeC (i := 18) (v := undef) rfl (by kernel_rfl) (by kernel_rfl) (by kernel_rfl) (fun _ _ _ h => h) (Or.inr ⟨by rfl, rfl⟩) trivial ?_
        simp only [Act.put, List.setIfInBounds_toArray, List.set_cons_zero, List.set_cons_succ]
        refine takeC (i := 19) (v := undef) rfl (by kernel_rfl) (by kernel_rfl) (by kernel_rfl) (fun _ _ _ h => h) (Or.inr ⟨by rfl, rfl⟩) trivial ?_
        simp only [Act.put, List.setIfInBounds_toArray, List.set_cons_zero, List.set_cons_succ]
        refine takeC (i := 20) (v := .bool false) rfl (by kernel_rfl) (by kernel_rfl) (by kernel_rfl) (fun _ _ _ h => h) (Or.inl ⟨by rfl, fun W hW => by go_simp⟩) trivial ?_
        simp only [Act.put, List.setIfInBounds_toArray, List.set_cons_zero, List.set_cons_succ]
        refine wpAnyH_done (by kernel_rfl) ?_ _
        go_wp2
        refine wp_region_held (S := fun _ => True) (by kernel_rfl) ?_
        change wpAnyH _ _ _ _ _ _ _ _ (World.drew _)
        refine takeC (i := 0) (v := .int .i64 (i : Int)) rfl (by kernel_rfl) (by kernel_rfl) (by kernel_rfl) (fun _ _ _ h => h) (Or.inl ⟨by rfl, fun W hW => by go_simp⟩) trivial ?_
        simp only [Act.put, List.setIfInBounds_toArray, List.set_cons_zero, List.set_cons_succ]
        refine takeC (i := 1) (v := .slice xx n1 m1) rfl (by kernel_rfl) (by kernel_rfl) (by kernel_rfl) (fun _ _ _ h => h) (Or.inl ⟨by rfl, fun W hW => by go_simp⟩) trivial ?_
        simp only [Act.put, List.setIfInBounds_toArray, List.set_cons_zero, List.set_cons_succ]
        refine takeC (i := 2) (v := .int .i64 (n1 : Int)) rfl (by kernel_rfl) (by kernel_rfl) (by kernel_rfl) (fun _ _ _ h => h) (Or.inl ⟨by rfl, fun W hW => by go_simp⟩) trivial ?_
        simp only [Act.put, List.setIfInBounds_toArray, List.set_cons_zero, List.set_cons_succ]
        refine takeC (i := 3) (v := .bool false) rfl (by kernel_rfl) (by kernel_rfl) (by kernel_rfl) (fun _ _ _ h => h) (Or.inl ⟨by rfl, fun W hW => by go_simp⟩) trivial ?_
        simp only [Act.put, List.setIfInBounds_toArray, List.set_cons_zero, List.set_cons_succ]
        refine takeC (i := 4) (v := .bool false) rfl (by kernel_rfl) (by kernel_rfl) (by kernel_rfl) (fun _ _ _ h => h) (Or.inl ⟨by rfl, fun W hW => by go_simp⟩) trivial ?_
        simp only [Act.put, List.setIfInBounds_toArray, List.set_cons_zero, List.set_cons_succ]
        refine takeC (i := 5) (v := undef) rfl (by kernel_rfl) (by kernel_rfl) (by kernel_rfl) (fun _ _ _ h => h) (Or.inr ⟨by rfl, rfl⟩) trivial ?_
        simp only [Act.put, List.setIfInBounds_toArray, List.set_cons_zero, List.set_cons_succ]
        refine takeC (i := 6) (v := undef) rfl (by kernel_rfl) (by kernel_rfl) (by kernel_rfl) (fun _ _ _ h => h) (Or.inr ⟨by rfl, rfl⟩) trivial ?_
        simp only [Act.put, List.setIfInBounds_toArray, List.set_cons_zero, List.set_cons_succ]
        refine takeC (i := 7) (v := undef) rfl (by kernel_rfl) (by kernel_rfl) (by kernel_rfl) (fun _ _ _ h => h) (Or.inr ⟨by rfl, rfl⟩) trivial ?_
        simp only [Act.put, List.setIfInBounds_toArray, List.set_cons_zero, List.set_cons_succ]
        refine takeC (i := 8) (v := undef) rfl (by kernel_rfl) (by kernel_rfl) (by kernel_rfl) (fun _ _ _ h => h) (Or.inr ⟨by rfl, rfl⟩) trivial ?_
        simp only [Act.put, List.setIfInBounds_toArray, List.set_cons_zero, List.set_cons_succ]
        refine takeC (i := 9) (v := .bool false) rfl (by kernel_rfl) (by kernel_rfl) (by kernel_rfl) (fun _ _ _ h => h) (Or.inl ⟨by rfl, fun W hW => by go_simp⟩) trivial ?_
        simp only [Act.put, List.setIfInBounds_toArray, List.set_cons_zero, List.set_cons_succ]
        refine takeC (i := 10) (v := .bool false) rfl (by kernel_rfl) (by kernel_rfl) (by kernel_rfl) (fun _ _ _ h => h) (Or.inl ⟨by rfl, fun W hW => by go_simp⟩) trivial ?_
        simp only [Act.put, List.setIfInBounds_toArray, List.set_cons_zero, List.set_cons_succ]
        refine takeC (i := 11) (v := undef) rfl (by kernel_rfl) (by kernel_rfl) (by kernel_rfl) (fun _ _ _ h => h) (Or.inr ⟨by rfl, rfl⟩) trivial ?_
        simp only [Act.put, List.setIfInBounds_toArray, List.set_cons_zero, List.set_cons_succ]
        refine takeC (i := 12) (v := undef) rfl (by kernel_rfl) (by kernel_rfl) (by kernel_rfl) (fun _ _ _ h => h) (Or.inr ⟨by rfl, rfl⟩) trivial ?_
        simp only [Act.put, List.setIfInBounds_toArray, List.set_cons_zero, List.set_cons_succ]
        refine takeC (i := 13) (v := undef) rfl (by kernel_rfl) (by kernel_rfl) (by kernel_rfl) (fun _ _ _ h => h) (Or.inr ⟨by rfl, rfl⟩) trivial ?_
        simp only [Act.put, List.setIfInBounds_toArray, List.set_cons_zero, List.set_cons_succ]
        refine takeC (i := 14) (v := undef) rfl (by kernel_rfl) (by kernel_rfl) (by kernel_rfl) (fun _ _ _ h => h) (Or.inr ⟨by rfl, rfl⟩) trivial ?_
        simp only [Act.put, List.setIfInBounds_toArray, List.set_cons_zero, List.set_cons_succ]
        refine takeC (i := 15) (v := undef) rfl (by kernel_rfl) (by kernel_rfl) (by kernel_rfl) (fun _ _ _ h => h) (Or.inr ⟨by rfl, rfl⟩) trivial ?_
        simp only [Act.put, List.setIfInBounds_toArray, List.set_cons_zero, List.set_cons_succ]
        refine takeC (i := 16) (v := undef) rfl (by kernel_rfl) (by kernel_rfl) (by kernel_rfl) (fun _ _ _ h => h) (Or.inr ⟨by rfl, rfl⟩) trivial ?_
        simp only [Act.put, List.setIfInBounds_toArray, List.set_cons_zero, List.set_cons_succ]
        refine takeC (i := 17) (v := undef) rfl (by kernel_rfl) (by kernel_rfl) (by kernel_rfl) (fun _ _ _ h => h) (Or.inr ⟨by rfl, rfl⟩) trivial ?_
        simp only [Act.put, List.setIfInBounds_toArray, List.set_cons_zero, List.set_cons_succ]
        refine takeC (i := 18) (v := undef) rfl (by kernel_rfl) (by kernel_rfl) (by kernel_rfl) (fun _ _ _ h => h) (Or.inr ⟨by rfl, rfl⟩) trivial ?_
        simp only [Act.put, List.setIfInBounds_toArray, List.set_cons_zero, List.set_cons_succ]
        refine takeC (i := 19) (v := undef) rfl (by kernel_rfl) (by kernel_rfl) (by kernel_rfl) (fun _ _ _ h => h) (Or.inr ⟨by rfl, rfl⟩) trivial ?_
        simp only [Act.put, List.setIfInBounds_toArray, List.set_cons_zero, List.set_cons_succ]
        refine takeC (i := 20) (v := .bool false) rfl (by kernel_rfl) (by kernel_rfl) (by kernel_rfl) (fun _ _ _ h => h) (Or.inl ⟨by rfl, fun W hW => by go_simp⟩) trivial ?_
        simp only [Act.put, List.setIfInBounds_toArray, List.set_cons_zero, List.set_cons_succ]
        refine takeC (i := 21) (v := .bool false) rfl (by kernel_rfl) (by kernel_rfl) (by kernel_rfl) (fun _ _ _ h => h) (Or.inl ⟨by rfl, fun W hW => by go_simp⟩) trivial ?_
        simp only [Act.put, List.setIfInBounds_toArray, List.set_cons_zero, List.set_cons_succ]
        refine wpAnyH_done (by kernel_rfl) ?_ _
        obtain ⟨w5, hw5⟩ : ∃ V, wr.drew.drew = V := ⟨_, rfl⟩
        have HB5 : Hid (Below wr.heap.size wr w5) := by rw [← hw5]; exact ((Below.refl wr.heap.size wr).drew).drew
        (try rw [hw5])
        clear hw5
        have HBW5 : Hid (Below w2.heap.size w2 w5) := HW.out.trans (HB5.out.mono HW.out.size)
        have HP5 : Hid (OwnCal w2.heap.size w5 (.slice pa pl pc) P) := OwnCal.below HP.out HB5.out
        have HQ5 : Hid (OwnCal w2.heap.size w5 (.slice qa ql qc) Q) := OwnCal.below HQ.out HB5.out
        have T5 : Hid (w5.rangeAt yb (yo + k * 5) [.int .i64 d0, .string d1, .string d2, .bool d3, .int .u64 d4]) := range_bel RB.out HB5.out
        go_wp2_with (first | (refine wpList_load_mid rfl 32 _ rfl yb (yo + k * 5) rfl [.int .i64 d0, .string d1, .string d2, .bool d3, .int .u64 d4] _ T5.out Tryz.underlying32 rfl (by kernel_rfl) ?_) | (at_builtin; refine wpList_appD w5 rfl _ _ rfl w2.heap.size (.slice qa ql qc) Q (d0, d1, d2, d3, d4) rfl HQ5.out rfl (by have := HM.out; omega) HBW5.out.size ?_; intro v8 w8 o8 u8 m8; obtain ⟨a8, l8, c8, rfl⟩ := row_shape o8; have HO8 : Hid _ := o8; have HU8 : Hid _ := u8; have HM8 : Hid _ := m8; clear o8 u8 m8))
        go_roundw
        case rel =>
          refine ⟨i, k + 1, P, Q ++ [(d0, d1, d2, d3, d4)], by go_num, by go_num, by omega, by omega, OwnCal.apart HP5.out (Apart.symm HAP.out) HU8.out, HO8, Apart.symm (Apart.moved (Apart.symm HAP.out) HM8.out HP5.out), ⟨?_, ?_⟩, ⟨by have := HM.out; omega, by have := HM.out; rw [List.length_append]; simp; omega⟩, HBW5.out.trans (HU8.out.below HBW5.out.size (fun j hj e => by have := (own_block HQ5.out e).1; omega))⟩
          · rw [HD.out.1, HDA.out, woL_nilL, woL_nilL]
          · rw [HD.out.2, HDA.out, HDB.out, woL_nilR, woL_nilR, List.append_assoc]; rfl
        case measure => simp [intOf]; omega
      · have HDB : Hid (B.drop k = []) := List.drop_eq_nil_of_le (by rw [HYl.out]; omega)
        have h2' : ¬ (k : Int) < (n2 : Int) := by omega
        have HEP : Hid (woL A B = P ∧ woL B A = Q) := by
          have h := HD.out
          rw [HDA.out, HDB.out, woL_nilL, List.append_nil, List.append_nil] at h
          exact h
        go_wp2
        go_returns
        refine ⟨_, _, A, B, rfl, HPM, ?_, ?_, HB2.out.trans (HW.out.mono HB2.out.size)⟩
        · rw [HEP.out.1]; exact own_base HP.out HB2.out.size
        · rw [HEP.out.2]; exact own_base HQ.out HB2.out.size
end Go.Proofs.YtkpkdikogoalkaaGreatDoor.sk

namespace Go.Proofs.YtkpkdikogoalkaaGreatDoor.sk
open Go Go.RowKit
set_option maxRecDepth 100000

/-- Two lists that are put together in order, midway. -/
structure Mrg (A B : List Cal) (i k : Nat) (P : List Cal) : Prop where
  srt : SortedC P
  le : ∀ x ∈ P, ∀ y ∈ A.drop i ++ B.drop k, cmpC x y ≤ 0
  perm : (P ++ (A.drop i ++ B.drop k)).Perm (A ++ B)
theorem sorted_more {P : List Cal} {c : Cal} (h : SortedC P) (hl : ∀ x ∈ P, cmpC x c ≤ 0) : SortedC (P ++ [c]) := by
  refine List.pairwise_append.2 ⟨h, List.pairwise_singleton _ _, fun x hx y hy => ?_⟩
  simp at hy
  subst hy
  exact hl x hx
theorem Mrg.left {A B : List Cal} {i k : Nat} {P : List Cal} {c : Cal} (h : Mrg A B i k P) (hd : A.drop i = c :: A.drop (i + 1)) (hA : SortedC A) (hB : ∀ y ∈ B.drop k, cmpC c y ≤ 0) : Mrg A B (i + 1) k (P ++ [c]) := by
  have hs : SortedC (c :: A.drop (i + 1)) := by rw [← hd]; exact List.Pairwise.sublist (List.drop_sublist _ _) hA
  have hp := h.perm
  have hl := h.le
  rw [hd] at hp hl
  refine ⟨sorted_more h.srt (fun x hx => hl x hx c (by simp)), fun x hx y hy => ?_, ?_⟩
  · rcases List.mem_append.1 hx with hx | hx
    · exact hl x hx y (by rw [List.cons_append]; exact List.mem_cons_of_mem _ hy)
    · simp at hx
      subst hx
      rcases List.mem_append.1 hy with hy | hy
      · exact (List.pairwise_cons.1 hs).1 y hy
      · exact hB y hy
  · rw [List.append_assoc]
    exact hp
theorem Mrg.right {A B : List Cal} {i k : Nat} {P : List Cal} {d : Cal} (h : Mrg A B i k P) (hd : B.drop k = d :: B.drop (k + 1)) (hB : SortedC B) (hA : ∀ y ∈ A.drop i, cmpC d y ≤ 0) : Mrg A B i (k + 1) (P ++ [d]) := by
  have hs : SortedC (d :: B.drop (k + 1)) := by rw [← hd]; exact List.Pairwise.sublist (List.drop_sublist _ _) hB
  have hp := h.perm
  have hl := h.le
  rw [hd] at hp hl
  refine ⟨sorted_more h.srt (fun x hx => hl x hx d (by simp)), fun x hx y hy => ?_, ?_⟩
  · rcases List.mem_append.1 hx with hx | hx
    · refine hl x hx y ?_
      rcases List.mem_append.1 hy with hy | hy
      · exact List.mem_append_left _ hy
      · exact List.mem_append_right _ (List.mem_cons_of_mem _ hy)
    · simp at hx
      subst hx
      rcases List.mem_append.1 hy with hy | hy
      · exact hA y hy
      · exact (List.pairwise_cons.1 hs).1 y hy
  · rw [List.append_assoc]
    refine List.Perm.trans (List.Perm.append_left _ ?_) hp
    show (d :: (A.drop i ++ B.drop (k + 1))).Perm _
    exact List.perm_middle.symm
theorem cmpC_through {c d : Cal} {L : List Cal} {n : Nat} (hs : SortedC L) (hd : L.drop n = d :: L.drop (n + 1)) (h : cmpC c d ≤ 0) : ∀ y ∈ L.drop n, cmpC c y ≤ 0 := by
  have hs' : SortedC (d :: L.drop (n + 1)) := by rw [← hd]; exact List.Pairwise.sublist (List.drop_sublist _ _) hs
  intro y hy
  rw [hd] at hy
  rcases List.mem_cons.1 hy with rfl | hy
  · exact h
  · exact good_cmpC.trans c d y h ((List.pairwise_cons.1 hs').1 y hy)
set_option maxHeartbeats 1000000 in
theorem rSorted_small (aa : Option Addr) (n c : Nat) (l : List Cal) (w : World) (hA : CalAt w aa n l) (hn : n < 2) : Calls Tryz.prog 28 #[.slice aa n c] w (OrdP l w) := by
  have HA : Hid _ := hA
  have HS : Hid (SortedC l) := by
    have hl := hA.len
    rcases l with _ | ⟨x, _ | ⟨y, l⟩⟩
    · exact List.Pairwise.nil
    · exact List.pairwise_singleton _ _
    · simp at hl; omega
  have hn' : (n : Int) < 2 := by omega
  clear hA
  go_enter Tryz.func28, Tryz.ntmps28
  go_wp2_with (at_builtin; refine wpList_app0 w rfl _ _ rfl aa n c l rfl rfl HA.out (by omega) ?_; intro v8 w8 o8 b8; obtain ⟨ao, la, lc, rfl⟩ := row_shape o8; have HO8 : Hid _ := o8; have HB8 : Hid _ := b8; clear o8 b8)
  go_returns
  exact ⟨ao, la, lc, l, rfl, ⟨OwnCal.at HO8.out, List.Perm.refl _, HS.out⟩, (own_calL HO8.out).2, HB8.out⟩
set_option maxHeartbeats 16000000 in
theorem rSorted_of (b off n c h : Nat) (l : List Cal) (w : World) (hn : 2 ≤ n) (hh : h = n / 2) (hc : n ≤ c) (hm : c ≤ maxLen) (hz : n * 56 ≤ 140737488351232) (hl : l.length = n)
    (SA : ∀ W, Below w.heap.size w W → Calls Tryz.prog 28 #[.slice (some ⟨b, off, none⟩) h c] W (OrdP (l.take h) W)) (SB : ∀ W, Below w.heap.size w W → Calls Tryz.prog 28 #[.slice (some ⟨b, off + h * 5, none⟩) (n - h) (c - h)] W (OrdP (l.drop h) W)) :
    Calls Tryz.prog 28 #[.slice (some ⟨b, off, none⟩) n c] w (OrdP l w) := by
  have HSA : Hid _ := SA
  have HSB : Hid _ := SB
  have HLL : Hid (l.length = n) := hl
  unfold maxLen at hm
  have hn' : ¬ (n : Int) < 2 := by omega
  have hq : (n : Int).tdiv 2 = (h : Int) := by rw [Int.tdiv_eq_ediv_of_nonneg (by omega)]; omega
  have hhn : h ≤ n := by omega
  have hch : ¬ c = h := by omega
  have HNH : Hid (n - h + h = n ∧ h ≤ n) := ⟨by omega, hhn⟩
  clear SA SB hl hh
  go_enter Tryz.func28, Tryz.ntmps28
  go_wp2_with (first
    | (go_at_call 28; (with_reducible refine (HSA.out _ (Below.refl _ _)).mono ?_); clear HSA; rintro e w1 ⟨xx, n1, m1, A, rfl, H1, k1, b1⟩; have HB1 : Hid (Below w.heap.size w w1) := b1; clear b1)
    | (go_at_call 28; (with_reducible refine (HSB.out _ HB1.out).mono ?_); clear HSB; rintro e w2 ⟨yy, n2, m2, B, rfl, H2, k2, b2⟩; have HB2 : Hid (Below w.heap.size w w2) := HB1.out.trans (b2.mono HB1.out.size); have HX2 : Hid (CalAt w2 xx n1 A) := CalAt.below H1.out.1 b2; clear b2))
  have HY2 : Hid (CalAt w2 yy n2 B) := H2.out.1
  have HSR : Hid (SortedC A ∧ SortedC B) := ⟨H1.out.2.2, H2.out.2.2⟩
  have HPL : Hid (l.Perm (A ++ B)) := by
    have h1 := List.Perm.append H1.out.2.1 H2.out.2.1
    rw [List.take_append_drop] at h1
    exact h1
  have hn12 : n1 + n2 ≤ 2513169434917 := by have h1 := HX2.out.len; have h2 := HY2.out.len; have h3 := HPL.out.length_eq; rw [List.length_append] at h3; have h4 := HLL.out; omega
  unfold maxLen at k1 k2
  clear H1 H2 HB1 hq hn' hch hhn HNH hc hm
  go_loopw [5, 6, 7] (fun tv ti tj wr => ∃ (i k : Nat) (P : List Cal), ti = .int .i64 i ∧ tj = .int .i64 k ∧ i ≤ n1 ∧ k ≤ n2 ∧ Hid (OwnCal w2.heap.size wr tv P) ∧ Hid (Mrg A B i k P) ∧ Hid (P.length = i + k) ∧ Hid (Below w2.heap.size w2 wr)) (fun _ ti tj _ => (n1 - (intOf ti).toNat) + (n2 - (intOf tj).toNat))
  case atStart => exact ⟨0, 0, [], rfl, rfl, Nat.zero_le _, Nat.zero_le _, OwnCal.nil _ _, ⟨List.Pairwise.nil, (fun x hx => by cases hx), List.Perm.refl _⟩, rfl, Below.refl _ _⟩
  case round =>
    obtain ⟨i, k, P, rfl, rfl, hi, hk, HP, HG, HM, HW⟩ := hrel
    obtain ⟨pa, pl, pc, hps⟩ := row_shape HP.out
    subst hps
    have HXl : Hid (A.length = n1) := HX2.out.len
    have HYl : Hid (B.length = n2) := HY2.out.len
    by_cases h1 : i < n1
    · have hiA : i < A.length := by rw [HXl.out]; exact h1
      have HDA : Hid (A.drop i = A[i] :: A.drop (i + 1)) := List.drop_eq_getElem_cons hiA
      obtain ⟨xb, xo, rfl, hrx⟩ := (HX2.out.below HW.out).lies (by omega)
      have RA : Hid (wr.rangeAt xb (xo + i * 5) (calL A[i])) := hrx i hiA
      obtain ⟨⟨c0, c1, c2, c3, c4⟩, ec⟩ : ∃ c, A[i] = c := ⟨_, rfl⟩
      rw [ec] at HDA RA
      clear ec hrx
      have h1' : (i : Int) < (n1 : Int) := by omega
      by_cases h2 : k < n2
      · have hkB : k < B.length := by rw [HYl.out]; exact h2
        have HDB : Hid (B.drop k = B[k] :: B.drop (k + 1)) := List.drop_eq_getElem_cons hkB
        obtain ⟨yb, yo, rfl, hry⟩ := (HY2.out.below HW.out).lies (by omega)
        have RB : Hid (wr.rangeAt yb (yo + k * 5) (calL B[k])) := hry k hkB
        obtain ⟨⟨d0, d1, d2, d3, d4⟩, ed⟩ : ∃ d, B[k] = d := ⟨_, rfl⟩
        rw [ed] at HDB RB
        clear ed hry
        have h2' : (k : Int) < (n2 : Int) := by omega
        have HKP : Hid (∀ W, Below wr.heap.size wr W → W.rangeAt xb (xo + i * 5) (calL (c0, c1, c2, c3, c4)) ∧ W.rangeAt yb (yo + k * 5) (calL (d0, d1, d2, d3, d4))) := fun W hb => ⟨range_bel RA.out hb, range_bel RB.out hb⟩
        have LE := rLess14 (d0, d1, d2, d3, d4) (c0, c1, c2, c3, c4)
        have hkb : ((k : Int) == (n2 : Int)) = false := by simp; omega
        by_cases hl : cmpC (d0, d1, d2, d3, d4) (c0, c1, c2, c3, c4) < 0
        · rw [decide_eq_true hl] at LE
          have HL : Hid (cmpC (d0, d1, d2, d3, d4) (c0, c1, c2, c3, c4) < 0) := hl
          clear hl
          go_wp2
          refine wp_region_held (S := fun W => W.rangeAt xb (xo + i * 5) (calL (c0, c1, c2, c3, c4)) ∧ W.rangeAt yb (yo + k * 5) (calL (d0, d1, d2, d3, d4))) (by kernel_rfl) ?_
          change wpAnyH _ _ _ _ _ _ _ _ (World.drew _)
          have hS : wr.drew.rangeAt xb (xo + i * 5) (calL (c0, c1, c2, c3, c4)) ∧ wr.drew.rangeAt yb (yo + k * 5) (calL (d0, d1, d2, d3, d4)) := ⟨RA.out, RB.out⟩
          refine takeC (i := 0) (v := .int .i64 (k : Int)) rfl (by kernel_rfl) (by kernel_rfl) (by kernel_rfl) (fun _ _ _ h => h) (Or.inl ⟨by rfl, fun W hW => by go_simp⟩) hS ?_
          simp only [Act.put, List.setIfInBounds_toArray, List.set_cons_zero, List.set_cons_succ]
          refine takeC (i := 1) (v := .slice (some ⟨yb, yo, none⟩) n2 m2) rfl (by kernel_rfl) (by kernel_rfl) (by kernel_rfl) (fun _ _ _ h => h) (Or.inl ⟨by rfl, fun W hW => by go_simp⟩) hS ?_
          simp only [Act.put, List.setIfInBounds_toArray, List.set_cons_zero, List.set_cons_succ]
          refine takeC (i := 2) (v := .int .i64 (n2 : Int)) rfl (by kernel_rfl) (by kernel_rfl) (by kernel_rfl) (fun _ _ _ h => h) (Or.inl ⟨by rfl, fun W hW => by go_simp⟩) hS ?_
          simp only [Act.put, List.setIfInBounds_toArray, List.set_cons_zero, List.set_cons_succ]
          refine takeC (i := 3) (v := .bool true) rfl (by kernel_rfl) (by kernel_rfl) (by kernel_rfl) (fun _ _ _ h => h) (Or.inl ⟨by rfl, fun W hW => by go_simp⟩) hS ?_
          simp only [Act.put, List.setIfInBounds_toArray, List.set_cons_zero, List.set_cons_succ]
          refine takeC (i := 4) (v := .bool true) rfl (by kernel_rfl) (by kernel_rfl) (by kernel_rfl) (fun _ _ _ h => h) (Or.inl ⟨by rfl, fun W hW => by go_simp⟩) hS ?_
          simp only [Act.put, List.setIfInBounds_toArray, List.set_cons_zero, List.set_cons_succ]
          refine takeC (i := 5) (v := .int .i64 (i : Int)) rfl (by kernel_rfl) (by kernel_rfl) (by kernel_rfl) (fun _ _ _ h => h) (Or.inl ⟨by rfl, fun W hW => by go_simp⟩) hS ?_
          simp only [Act.put, List.setIfInBounds_toArray, List.set_cons_zero, List.set_cons_succ]
          refine takeC (i := 6) (v := .slice (some ⟨xb, xo, none⟩) n1 m1) rfl (by kernel_rfl) (by kernel_rfl) (by kernel_rfl) (fun _ _ _ h => h) (Or.inl ⟨by rfl, fun W hW => by go_simp⟩) hS ?_
          simp only [Act.put, List.setIfInBounds_toArray, List.set_cons_zero, List.set_cons_succ]
          refine takeC (i := 7) (v := .int .i64 (n1 : Int)) rfl (by kernel_rfl) (by kernel_rfl) (by kernel_rfl) (fun _ _ _ h => h) (Or.inl ⟨by rfl, fun W hW => by go_simp⟩) hS ?_
          simp only [Act.put, List.setIfInBounds_toArray, List.set_cons_zero, List.set_cons_succ]
          refine takeC (i := 8) (v := .bool true) rfl (by kernel_rfl) (by kernel_rfl) (by kernel_rfl) (fun _ _ _ h => h) (Or.inl ⟨by rfl, fun W hW => by go_simp⟩) hS ?_
          simp only [Act.put, List.setIfInBounds_toArray, List.set_cons_zero, List.set_cons_succ]
          refine takeC (i := 9) (v := .bool true) rfl (by kernel_rfl) (by kernel_rfl) (by kernel_rfl) (fun _ _ _ h => h) (Or.inl ⟨by rfl, fun W hW => by go_simp⟩) hS ?_
          simp only [Act.put, List.setIfInBounds_toArray, List.set_cons_zero, List.set_cons_succ]
          refine takeC (i := 10) (v := .bool true) rfl (by kernel_rfl) (by kernel_rfl) (by kernel_rfl) (fun _ _ _ h => h) (Or.inl ⟨by rfl, fun W hW => by go_simp⟩) hS ?_
          simp only [Act.put, List.setIfInBounds_toArray, List.set_cons_zero, List.set_cons_succ]
          refine takeC (i := 11) (v := .slice (some ⟨yb, yo, none⟩) n2 m2) rfl (by kernel_rfl) (by kernel_rfl) (by kernel_rfl) (fun _ _ _ h => h) (Or.inl ⟨by rfl, fun W hW => by go_simp⟩) hS ?_
          simp only [Act.put, List.setIfInBounds_toArray, List.set_cons_zero, List.set_cons_succ]
          refine takeC (i := 12) (v := .int .i64 (k : Int)) rfl (by kernel_rfl) (by kernel_rfl) (by kernel_rfl) (fun _ _ _ h => h) (Or.inl ⟨by rfl, fun W hW => by go_simp⟩) hS ?_
          simp only [Act.put, List.setIfInBounds_toArray, List.set_cons_zero, List.set_cons_succ]
          refine takeC (i := 13) (v := .pointer (some ⟨yb, yo + k * 5, none⟩)) rfl (by kernel_rfl) (by kernel_rfl) (by kernel_rfl) (fun _ _ _ h => h) (Or.inl ⟨by rfl, fun W hW => by go_simp⟩) hS ?_
          simp only [Act.put, List.setIfInBounds_toArray, List.set_cons_zero, List.set_cons_succ]
          refine takeC (i := 14) (v := .agg (calL (d0, d1, d2, d3, d4)).toArray) rfl (by kernel_rfl) (by kernel_rfl) (by kernel_rfl) (fun _ _ _ h => h) (yieldsIf_load_mid (by rfl) 32 _ rfl yb (yo + k * 5) rfl (calL (d0, d1, d2, d3, d4)) _ (fun W hW => hW.2) Tryz.underlying32 rfl (by kernel_rfl)) hS ?_
          simp only [Act.put, List.setIfInBounds_toArray, List.set_cons_zero, List.set_cons_succ]
          refine takeC (i := 15) (v := .slice (some ⟨xb, xo, none⟩) n1 m1) rfl (by kernel_rfl) (by kernel_rfl) (by kernel_rfl) (fun _ _ _ h => h) (Or.inl ⟨by rfl, fun W hW => by go_simp⟩) hS ?_
          simp only [Act.put, List.setIfInBounds_toArray, List.set_cons_zero, List.set_cons_succ]
          refine takeC (i := 16) (v := .int .i64 (i : Int)) rfl (by kernel_rfl) (by kernel_rfl) (by kernel_rfl) (fun _ _ _ h => h) (Or.inl ⟨by rfl, fun W hW => by go_simp⟩) hS ?_
          simp only [Act.put, List.setIfInBounds_toArray, List.set_cons_zero, List.set_cons_succ]
          refine takeC (i := 17) (v := .pointer (some ⟨xb, xo + i * 5, none⟩)) rfl (by kernel_rfl) (by kernel_rfl) (by kernel_rfl) (fun _ _ _ h => h) (Or.inl ⟨by rfl, fun W hW => by go_simp⟩) hS ?_
          simp only [Act.put, List.setIfInBounds_toArray, List.set_cons_zero, List.set_cons_succ]
          refine takeC (i := 18) (v := .agg (calL (c0, c1, c2, c3, c4)).toArray) rfl (by kernel_rfl) (by kernel_rfl) (by kernel_rfl) (fun _ _ _ h => h) (yieldsIf_load_mid (by rfl) 32 _ rfl xb (xo + i * 5) rfl (calL (c0, c1, c2, c3, c4)) _ (fun W hW => hW.1) Tryz.underlying32 rfl (by kernel_rfl)) hS ?_
          simp only [Act.put, List.setIfInBounds_toArray, List.set_cons_zero, List.set_cons_succ]
          refine onlyC (i := 19) rfl (by kernel_rfl) (fun K hK => ?_)
          go_simp
          go_at_call 29
          (with_reducible refine (LE _).mono ?_)
          rintro e w5 ⟨rfl, b5⟩
          have bi5 : Below wr.heap.size wr w5 := Below.trans ((Below.refl wr.heap.size wr).drew) b5
          have hS5 := HKP.out w5 bi5
          refine hK _ _ ⟨hS5, ?_⟩
          clear hK K
          refine takeC (i := 20) (v := .bool true) rfl (by kernel_rfl) (by kernel_rfl) (by kernel_rfl) (fun _ _ _ h => h) (Or.inl ⟨by rfl, fun W hW => by go_simp⟩) hS5 ?_
          simp only [Act.put, List.setIfInBounds_toArray, List.set_cons_zero, List.set_cons_succ]
          refine takeC (i := 21) (v := .bool true) rfl (by kernel_rfl) (by kernel_rfl) (by kernel_rfl) (fun _ _ _ h => h) (Or.inl ⟨by rfl, fun W hW => by go_simp⟩) hS5 ?_
          simp only [Act.put, List.setIfInBounds_toArray, List.set_cons_zero, List.set_cons_succ]
          refine wpAnyH_done (by kernel_rfl) ?_ _
          have HB5 : Hid _ := bi5
          clear bi5 b5 hS
          have HBW5 : Hid (Below w2.heap.size w2 w5) := HW.out.trans (HB5.out.mono HW.out.size)
          have HP5 : Hid (OwnCal w2.heap.size w5 (.slice pa pl pc) P) := OwnCal.below HP.out HB5.out
          have R5 : Hid (w5.rangeAt xb (xo + i * 5) [.int .i64 c0, .string c1, .string c2, .bool c3, .int .u64 c4]) := range_bel RA.out HB5.out
          have T5 : Hid (w5.rangeAt yb (yo + k * 5) [.int .i64 d0, .string d1, .string d2, .bool d3, .int .u64 d4]) := range_bel RB.out HB5.out
          go_wp2_with (first | (refine wpList_load_mid rfl 32 _ rfl yb (yo + k * 5) rfl [.int .i64 d0, .string d1, .string d2, .bool d3, .int .u64 d4] _ T5.out Tryz.underlying32 rfl (by kernel_rfl) ?_) | (at_builtin; refine wpList_appC w5 rfl _ _ rfl w2.heap.size (.slice pa pl pc) P (d0, d1, d2, d3, d4) rfl HP5.out rfl (by have := HM.out; omega) HBW5.out.size ?_; intro v8 w8 o8 u8; obtain ⟨a8, l8, c8, rfl⟩ := row_shape o8; have HO8 : Hid _ := o8; have HU8 : Hid _ := u8; clear o8 u8))
          go_roundw
          case rel =>
            exact ⟨i, k + 1, P ++ [(d0, d1, d2, d3, d4)], by go_num, by go_num, by omega, by omega, HO8, Mrg.right HG.out HDB.out HSR.out.2 (cmpC_through HSR.out.1 HDA.out (Int.le_of_lt HL.out)), (by show (P ++ [(d0, d1, d2, d3, d4)]).length = _; have := HM.out; rw [List.length_append]; simp; omega), HBW5.out.trans (HU8.out.below HBW5.out.size (fun j hj e => by omega))⟩
          case measure => simp [intOf]; omega
        · rw [decide_eq_false hl] at LE
          have HL : Hid (cmpC (c0, c1, c2, c3, c4) (d0, d1, d2, d3, d4) ≤ 0) := by have := good_cmpC.anti (c0, c1, c2, c3, c4) (d0, d1, d2, d3, d4); show _ ≤ _; omega
          clear hl
          go_wp2
          refine wp_region_held (S := fun W => W.rangeAt xb (xo + i * 5) (calL (c0, c1, c2, c3, c4)) ∧ W.rangeAt yb (yo + k * 5) (calL (d0, d1, d2, d3, d4))) (by kernel_rfl) ?_
          change wpAnyH _ _ _ _ _ _ _ _ (World.drew _)
          have hS : wr.drew.rangeAt xb (xo + i * 5) (calL (c0, c1, c2, c3, c4)) ∧ wr.drew.rangeAt yb (yo + k * 5) (calL (d0, d1, d2, d3, d4)) := ⟨RA.out, RB.out⟩
          refine takeC (i := 0) (v := .int .i64 (k : Int)) rfl (by kernel_rfl) (by kernel_rfl) (by kernel_rfl) (fun _ _ _ h => h) (Or.inl ⟨by rfl, fun W hW => by go_simp⟩) hS ?_
          simp only [Act.put, List.setIfInBounds_toArray, List.set_cons_zero, List.set_cons_succ]
          refine takeC (i := 1) (v := .slice (some ⟨yb, yo, none⟩) n2 m2) rfl (by kernel_rfl) (by kernel_rfl) (by kernel_rfl) (fun _ _ _ h => h) (Or.inl ⟨by rfl, fun W hW => by go_simp⟩) hS ?_
          simp only [Act.put, List.setIfInBounds_toArray, List.set_cons_zero, List.set_cons_succ]
          refine takeC (i := 2) (v := .int .i64 (n2 : Int)) rfl (by kernel_rfl) (by kernel_rfl) (by kernel_rfl) (fun _ _ _ h => h) (Or.inl ⟨by rfl, fun W hW => by go_simp⟩) hS ?_
          simp only [Act.put, List.setIfInBounds_toArray, List.set_cons_zero, List.set_cons_succ]
          refine takeC (i := 3) (v := .bool true) rfl (by kernel_rfl) (by kernel_rfl) (by kernel_rfl) (fun _ _ _ h => h) (Or.inl ⟨by rfl, fun W hW => by go_simp⟩) hS ?_
          simp only [Act.put, List.setIfInBounds_toArray, List.set_cons_zero, List.set_cons_succ]
          refine takeC (i := 4) (v := .bool true) rfl (by kernel_rfl) (by kernel_rfl) (by kernel_rfl) (fun _ _ _ h => h) (Or.inl ⟨by rfl, fun W hW => by go_simp⟩) hS ?_
          simp only [Act.put, List.setIfInBounds_toArray, List.set_cons_zero, List.set_cons_succ]
          refine takeC (i := 5) (v := .int .i64 (i : Int)) rfl (by kernel_rfl) (by kernel_rfl) (by kernel_rfl) (fun _ _ _ h => h) (Or.inl ⟨by rfl, fun W hW => by go_simp⟩) hS ?_
          simp only [Act.put, List.setIfInBounds_toArray, List.set_cons_zero, List.set_cons_succ]
          refine takeC (i := 6) (v := .slice (some ⟨xb, xo, none⟩) n1 m1) rfl (by kernel_rfl) (by kernel_rfl) (by kernel_rfl) (fun _ _ _ h => h) (Or.inl ⟨by rfl, fun W hW => by go_simp⟩) hS ?_
          simp only [Act.put, List.setIfInBounds_toArray, List.set_cons_zero, List.set_cons_succ]
          refine takeC (i := 7) (v := .int .i64 (n1 : Int)) rfl (by kernel_rfl) (by kernel_rfl) (by kernel_rfl) (fun _ _ _ h => h) (Or.inl ⟨by rfl, fun W hW => by go_simp⟩) hS ?_
          simp only [Act.put, List.setIfInBounds_toArray, List.set_cons_zero, List.set_cons_succ]
          refine takeC (i := 8) (v := .bool true) rfl (by kernel_rfl) (by kernel_rfl) (by kernel_rfl) (fun _ _ _ h => h) (Or.inl ⟨by rfl, fun W hW => by go_simp⟩) hS ?_
          simp only [Act.put, List.setIfInBounds_toArray, List.set_cons_zero, List.set_cons_succ]
          refine takeC (i := 9) (v := .bool true) rfl (by kernel_rfl) (by kernel_rfl) (by kernel_rfl) (fun _ _ _ h => h) (Or.inl ⟨by rfl, fun W hW => by go_simp⟩) hS ?_
          simp only [Act.put, List.setIfInBounds_toArray, List.set_cons_zero, List.set_cons_succ]
          refine takeC (i := 10) (v := .bool true) rfl (by kernel_rfl) (by kernel_rfl) (by kernel_rfl) (fun _ _ _ h => h) (Or.inl ⟨by rfl, fun W hW => by go_simp⟩) hS ?_
          simp only [Act.put, List.setIfInBounds_toArray, List.set_cons_zero, List.set_cons_succ]
          refine takeC (i := 11) (v := .slice (some ⟨yb, yo, none⟩) n2 m2) rfl (by kernel_rfl) (by kernel_rfl) (by kernel_rfl) (fun _ _ _ h => h) (Or.inl ⟨by rfl, fun W hW => by go_simp⟩) hS ?_
          simp only [Act.put, List.setIfInBounds_toArray, List.set_cons_zero, List.set_cons_succ]
          refine takeC (i := 12) (v := .int .i64 (k : Int)) rfl (by kernel_rfl) (by kernel_rfl) (by kernel_rfl) (fun _ _ _ h => h) (Or.inl ⟨by rfl, fun W hW => by go_simp⟩) hS ?_
          simp only [Act.put, List.setIfInBounds_toArray, List.set_cons_zero, List.set_cons_succ]
          refine takeC (i := 13) (v := .pointer (some ⟨yb, yo + k * 5, none⟩)) rfl (by kernel_rfl) (by kernel_rfl) (by kernel_rfl) (fun _ _ _ h => h) (Or.inl ⟨by rfl, fun W hW => by go_simp⟩) hS ?_
          simp only [Act.put, List.setIfInBounds_toArray, List.set_cons_zero, List.set_cons_succ]
          refine takeC (i := 14) (v := .agg (calL (d0, d1, d2, d3, d4)).toArray) rfl (by kernel_rfl) (by kernel_rfl) (by kernel_rfl) (fun _ _ _ h => h) (yieldsIf_load_mid (by rfl) 32 _ rfl yb (yo + k * 5) rfl (calL (d0, d1, d2, d3, d4)) _ (fun W hW => hW.2) Tryz.underlying32 rfl (by kernel_rfl)) hS ?_
          simp only [Act.put, List.setIfInBounds_toArray, List.set_cons_zero, List.set_cons_succ]
          refine takeC (i := 15) (v := .slice (some ⟨xb, xo, none⟩) n1 m1) rfl (by kernel_rfl) (by kernel_rfl) (by kernel_rfl) (fun _ _ _ h => h) (Or.inl ⟨by rfl, fun W hW => by go_simp⟩) hS ?_
          simp only [Act.put, List.setIfInBounds_toArray, List.set_cons_zero, List.set_cons_succ]
          refine takeC (i := 16) (v := .int .i64 (i : Int)) rfl (by kernel_rfl) (by kernel_rfl) (by kernel_rfl) (fun _ _ _ h => h) (Or.inl ⟨by rfl, fun W hW => by go_simp⟩) hS ?_
          simp only [Act.put, List.setIfInBounds_toArray, List.set_cons_zero, List.set_cons_succ]
          refine takeC (i := 17) (v := .pointer (some ⟨xb, xo + i * 5, none⟩)) rfl (by kernel_rfl) (by kernel_rfl) (by kernel_rfl) (fun _ _ _ h => h) (Or.inl ⟨by rfl, fun W hW => by go_simp⟩) hS ?_
          simp only [Act.put, List.setIfInBounds_toArray, List.set_cons_zero, List.set_cons_succ]
          refine takeC (i := 18) (v := .agg (calL (c0, c1, c2, c3, c4)).toArray) rfl (by kernel_rfl) (by kernel_rfl) (by kernel_rfl) (fun _ _ _ h => h) (yieldsIf_load_mid (by rfl) 32 _ rfl xb (xo + i * 5) rfl (calL (c0, c1, c2, c3, c4)) _ (fun W hW => hW.1) Tryz.underlying32 rfl (by kernel_rfl)) hS ?_
          simp only [Act.put, List.setIfInBounds_toArray, List.set_cons_zero, List.set_cons_succ]
          refine onlyC (i := 19) rfl (by kernel_rfl) (fun K hK => ?_)
          go_simp
          go_at_call 29
          (with_reducible refine (LE _).mono ?_)
          rintro e w5 ⟨rfl, b5⟩
          have bi5 : Below wr.heap.size wr w5 := Below.trans ((Below.refl wr.heap.size wr).drew) b5
          have hS5 := HKP.out w5 bi5
          refine hK _ _ ⟨hS5, ?_⟩
          clear hK K
          refine takeC (i := 20) (v := .bool false) rfl (by kernel_rfl) (by kernel_rfl) (by kernel_rfl) (fun _ _ _ h => h) (Or.inl ⟨by rfl, fun W hW => by go_simp⟩) hS5 ?_
          simp only [Act.put, List.setIfInBounds_toArray, List.set_cons_zero, List.set_cons_succ]
          refine takeC (i := 21) (v := .bool false) rfl (by kernel_rfl) (by kernel_rfl) (by kernel_rfl) (fun _ _ _ h => h) (Or.inl ⟨by rfl, fun W hW => by go_simp⟩) hS5 ?_
          simp only [Act.put, List.setIfInBounds_toArray, List.set_cons_zero, List.set_cons_succ]
          refine wpAnyH_done (by kernel_rfl) ?_ _
          have HB5 : Hid _ := bi5
          clear bi5 b5 hS
          have HBW5 : Hid (Below w2.heap.size w2 w5) := HW.out.trans (HB5.out.mono HW.out.size)
          have HP5 : Hid (OwnCal w2.heap.size w5 (.slice pa pl pc) P) := OwnCal.below HP.out HB5.out
          have R5 : Hid (w5.rangeAt xb (xo + i * 5) [.int .i64 c0, .string c1, .string c2, .bool c3, .int .u64 c4]) := range_bel RA.out HB5.out
          have T5 : Hid (w5.rangeAt yb (yo + k * 5) [.int .i64 d0, .string d1, .string d2, .bool d3, .int .u64 d4]) := range_bel RB.out HB5.out
          go_wp2_with (first | (refine wpList_load_mid rfl 32 _ rfl xb (xo + i * 5) rfl [.int .i64 c0, .string c1, .string c2, .bool c3, .int .u64 c4] _ R5.out Tryz.underlying32 rfl (by kernel_rfl) ?_) | (at_builtin; refine wpList_appC w5 rfl _ _ rfl w2.heap.size (.slice pa pl pc) P (c0, c1, c2, c3, c4) rfl HP5.out rfl (by have := HM.out; omega) HBW5.out.size ?_; intro v8 w8 o8 u8; obtain ⟨a8, l8, c8, rfl⟩ := row_shape o8; have HO8 : Hid _ := o8; have HU8 : Hid _ := u8; clear o8 u8))
          go_roundw
          case rel =>
            exact ⟨i + 1, k, P ++ [(c0, c1, c2, c3, c4)], by go_num, by go_num, by omega, by omega, HO8, Mrg.left HG.out HDA.out HSR.out.1 (cmpC_through HSR.out.2 HDB.out HL.out), (by show (P ++ [(c0, c1, c2, c3, c4)]).length = _; have := HM.out; rw [List.length_append]; simp; omega), HBW5.out.trans (HU8.out.below HBW5.out.size (fun j hj e => by omega))⟩
          case measure => simp [intOf]; omega
      · have HDB : Hid (B.drop k = []) := List.drop_eq_nil_of_le (by rw [HYl.out]; omega)
        have h2' : ¬ (k : Int) < (n2 : Int) := by omega
        have hkb : ((k : Int) == (n2 : Int)) = true := by simp; omega
        go_wp2
        refine wp_region_held (S := fun _ => True) (by kernel_rfl) ?_
        change wpAnyH _ _ _ _ _ _ _ _ (World.drew _)
        refine takeC (i := 0) (v := .int .i64 (k : Int)) rfl (by kernel_rfl) (by kernel_rfl) (by kernel_rfl) (fun _ _ _ h => h) (Or.inl ⟨by rfl, fun W hW => by go_simp⟩) trivial ?_
        simp only [Act.put, List.setIfInBounds_toArray, List.set_cons_zero, List.set_cons_succ]
        refine takeC (i := 1) (v := .slice yy n2 m2) rfl (by kernel_rfl) (by kernel_rfl) (by kernel_rfl) (fun _ _ _ h => h) (Or.inl ⟨by rfl, fun W hW => by go_simp⟩) trivial ?_
        simp only [Act.put, List.setIfInBounds_toArray, List.set_cons_zero, List.set_cons_succ]
        refine takeC (i := 2) (v := .int .i64 (n2 : Int)) rfl (by kernel_rfl) (by kernel_rfl) (by kernel_rfl) (fun _ _ _ h => h) (Or.inl ⟨by rfl, fun W hW => by go_simp⟩) trivial ?_
        simp only [Act.put, List.setIfInBounds_toArray, List.set_cons_zero, List.set_cons_succ]
        refine takeC (i := 3) (v := .bool false) rfl (by kernel_rfl) (by kernel_rfl) (by kernel_rfl) (fun _ _ _ h => h) (Or.inl ⟨by rfl, fun W hW => by go_simp⟩) trivial ?_
        simp only [Act.put, List.setIfInBounds_toArray, List.set_cons_zero, List.set_cons_succ]
        refine takeC (i := 4) (v := .bool false) rfl (by kernel_rfl) (by kernel_rfl) (by kernel_rfl) (fun _ _ _ h => h) (Or.inl ⟨by rfl, fun W hW => by go_simp⟩) trivial ?_
        simp only [Act.put, List.setIfInBounds_toArray, List.set_cons_zero, List.set_cons_succ]
        refine takeC (i := 5) (v := undef) rfl (by kernel_rfl) (by kernel_rfl) (by kernel_rfl) (fun _ _ _ h => h) (Or.inr ⟨by rfl, rfl⟩) trivial ?_
        simp only [Act.put, List.setIfInBounds_toArray, List.set_cons_zero, List.set_cons_succ]
        refine takeC (i := 6) (v := undef) rfl (by kernel_rfl) (by kernel_rfl) (by kernel_rfl) (fun _ _ _ h => h) (Or.inr ⟨by rfl, rfl⟩) trivial ?_
        simp only [Act.put, List.setIfInBounds_toArray, List.set_cons_zero, List.set_cons_succ]
        refine takeC (i := 7) (v := undef) rfl (by kernel_rfl) (by kernel_rfl) (by kernel_rfl) (fun _ _ _ h => h) (Or.inr ⟨by rfl, rfl⟩) trivial ?_
        simp only [Act.put, List.setIfInBounds_toArray, List.set_cons_zero, List.set_cons_succ]
        refine takeC (i := 8) (v := undef) rfl (by kernel_rfl) (by kernel_rfl) (by kernel_rfl) (fun _ _ _ h => h) (Or.inr ⟨by rfl, rfl⟩) trivial ?_
        simp only [Act.put, List.setIfInBounds_toArray, List.set_cons_zero, List.set_cons_succ]
        refine takeC (i := 9) (v := .bool false) rfl (by kernel_rfl) (by kernel_rfl) (by kernel_rfl) (fun _ _ _ h => h) (Or.inl ⟨by rfl, fun W hW => by go_simp⟩) trivial ?_
        simp only [Act.put, List.setIfInBounds_toArray, List.set_cons_zero, List.set_cons_succ]
        refine takeC (i := 10) (v := .bool false) rfl (by kernel_rfl) (by kernel_rfl) (by kernel_rfl) (fun _ _ _ h => h) (Or.inl ⟨by rfl, fun W hW => by go_simp⟩) trivial ?_
        simp only [Act.put, List.setIfInBounds_toArray, List.set_cons_zero, List.set_cons_succ]
        refine takeC (i := 11) (v := undef) rfl (by kernel_rfl) (by kernel_rfl) (by kernel_rfl) (fun _ _ _ h => h) (Or.inr ⟨by rfl, rfl⟩) trivial ?_
        simp only [Act.put, List.setIfInBounds_toArray, List.set_cons_zero, List.set_cons_succ]
        refine takeC (i := 12) (v := undef) rfl (by kernel_rfl) (by kernel_rfl) (by kernel_rfl) (fun _ _ _ h => h) (Or.inr ⟨by rfl, rfl⟩) trivial ?_
        simp only [Act.put, List.setIfInBounds_toArray, List.set_cons_zero, List.set_cons_succ]
        refine takeC (i := 13) (v := undef) rfl (by kernel_rfl) (by kernel_rfl) (by kernel_rfl) (fun _ _ _ h => h) (Or.inr ⟨by rfl, rfl⟩) trivial ?_
        simp only [Act.put, List.setIfInBounds_toArray, List.set_cons_zero, List.set_cons_succ]
        refine takeC (i := 14) (v := undef) rfl (by kernel_rfl) (by kernel_rfl) (by kernel_rfl) (fun _ _ _ h => h) (Or.inr ⟨by rfl, rfl⟩) trivial ?_
        simp only [Act.put, List.setIfInBounds_toArray, List.set_cons_zero, List.set_cons_succ]
        refine takeC (i := 15) (v := undef) rfl (by kernel_rfl) (by kernel_rfl) (by kernel_rfl) (fun _ _ _ h => h) (Or.inr ⟨by rfl, rfl⟩) trivial ?_
        simp only [Act.put, List.setIfInBounds_toArray, List.set_cons_zero, List.set_cons_succ]
        refine takeC (i := 16) (v := undef) rfl (by kernel_rfl) (by kernel_rfl) (by kernel_rfl) (fun _ _ _ h => h) (Or.inr ⟨by rfl, rfl⟩) trivial ?_
        simp only [Act.put, List.setIfInBounds_toArray, List.set_cons_zero, List.set_cons_succ]
        refine takeC (i := 17) (v := undef) rfl (by kernel_rfl) (by kernel_rfl) (by kernel_rfl) (fun _ _ _ h => h) (Or.inr ⟨by rfl, rfl⟩) trivial ?_
        simp only [Act.put, List.setIfInBounds_toArray, List.set_cons_zero, List.set_cons_succ]
        refine takeC (i := 18) (v := undef) rfl (by kernel_rfl) (by kernel_rfl) (by kernel_rfl) (fun _ _ _ h => h) (Or.inr ⟨by rfl, rfl⟩) trivial ?_
        simp only [Act.put, List.setIfInBounds_toArray, List.set_cons_zero, List.set_cons_succ]
        refine takeC (i := 19) (v := undef) rfl (by kernel_rfl) (by kernel_rfl) (by kernel_rfl) (fun _ _ _ h => h) (Or.inr ⟨by rfl, rfl⟩) trivial ?_
        simp only [Act.put, List.setIfInBounds_toArray, List.set_cons_zero, List.set_cons_succ]
        refine takeC (i := 20) (v := .bool false) rfl (by kernel_rfl) (by kernel_rfl) (by kernel_rfl) (fun _ _ _ h => h) (Or.inl ⟨by rfl, fun W hW => by go_simp⟩) trivial ?_
        simp only [Act.put, List.setIfInBounds_toArray, List.set_cons_zero, List.set_cons_succ]
        refine takeC (i := 21) (v := .bool false) rfl (by kernel_rfl) (by kernel_rfl) (by kernel_rfl) (fun _ _ _ h => h) (Or.inl ⟨by rfl, fun W hW => by go_simp⟩) trivial ?_
        simp only [Act.put, List.setIfInBounds_toArray, List.set_cons_zero, List.set_cons_succ]
        refine wpAnyH_done (by kernel_rfl) ?_ _
        obtain ⟨w5, hw5⟩ : ∃ V, wr.drew = V := ⟨_, rfl⟩
        have HB5 : Hid (Below wr.heap.size wr w5) := by rw [← hw5]; exact (Below.refl wr.heap.size wr).drew
        (try rw [hw5])
        clear hw5
        have HBW5 : Hid (Below w2.heap.size w2 w5) := HW.out.trans (HB5.out.mono HW.out.size)
        have HP5 : Hid (OwnCal w2.heap.size w5 (.slice pa pl pc) P) := OwnCal.below HP.out HB5.out
        have R5 : Hid (w5.rangeAt xb (xo + i * 5) [.int .i64 c0, .string c1, .string c2, .bool c3, .int .u64 c4]) := range_bel RA.out HB5.out
        go_wp2_with (first | (refine wpList_load_mid rfl 32 _ rfl xb (xo + i * 5) rfl [.int .i64 c0, .string c1, .string c2, .bool c3, .int .u64 c4] _ R5.out Tryz.underlying32 rfl (by kernel_rfl) ?_) | (at_builtin; refine wpList_appC w5 rfl _ _ rfl w2.heap.size (.slice pa pl pc) P (c0, c1, c2, c3, c4) rfl HP5.out rfl (by have := HM.out; omega) HBW5.out.size ?_; intro v8 w8 o8 u8; obtain ⟨a8, l8, c8, rfl⟩ := row_shape o8; have HO8 : Hid _ := o8; have HU8 : Hid _ := u8; clear o8 u8))
        go_roundw
        case rel =>
          exact ⟨i + 1, k, P ++ [(c0, c1, c2, c3, c4)], by go_num, by go_num, by omega, by omega, HO8, Mrg.left HG.out HDA.out HSR.out.1 (by rw [HDB.out]; exact fun y hy => by cases hy), (by show (P ++ [(c0, c1, c2, c3, c4)]).length = _; have := HM.out; rw [List.length_append]; simp; omega), HBW5.out.trans (HU8.out.below HBW5.out.size (fun j hj e => by omega))⟩
        case measure => simp [intOf]; omega
    · have HDA : Hid (A.drop i = []) := List.drop_eq_nil_of_le (by rw [HXl.out]; omega)
      have h1' : ¬ (i : Int) < (n1 : Int) := by omega
      by_cases h2 : k < n2
      · have hkB : k < B.length := by rw [HYl.out]; exact h2
        have HDB : Hid (B.drop k = B[k] :: B.drop (k + 1)) := List.drop_eq_getElem_cons hkB
        obtain ⟨yb, yo, rfl, hry⟩ := (HY2.out.below HW.out).lies (by omega)
        have RB : Hid (wr.rangeAt yb (yo + k * 5) (calL B[k])) := hry k hkB
        obtain ⟨⟨d0, d1, d2, d3, d4⟩, ed⟩ : ∃ d, B[k] = d := ⟨_, rfl⟩
        rw [ed] at HDB RB
        clear ed hry
        have h2' : (k : Int) < (n2 : Int) := by omega
        have hkb : ((k : Int) == (n2 : Int)) = false := by simp; omega
        go_wp2
        refine wp_region_held (S := fun _ => True) (by kernel_rfl) ?_
        change wpAnyH _ _ _ _ _ _ _ _ (World.drew _)
        refine takeC (i := 0) (v := .int .i64 (k : Int)) rfl (by kernel_rfl) (by kernel_rfl) (by kernel_rfl) (fun _ _ _ h => h) (Or.inl ⟨by rfl, fun W hW => by go_simp⟩) trivial ?_
        simp only [Act.put, List.setIfInBounds_toArray, List.set_cons_zero, List.set_cons_succ]
        refine takeC (i := 1) (v := .slice (some ⟨yb, yo, none⟩) n2 m2) rfl (by kernel_rfl) (by kernel_rfl) (by kernel_rfl) (fun _ _ _ h => h) (Or.inl ⟨by rfl, fun W hW => by go_simp⟩) trivial ?_
        simp only [Act.put, List.setIfInBounds_toArray, List.set_cons_zero, List.set_cons_succ]
        refine takeC (i := 2) (v := .int .i64 (n2 : Int)) rfl (by kernel_rfl) (by kernel_rfl) (by kernel_rfl) (fun _ _ _ h => h) (Or.inl ⟨by rfl, fun W hW => by go_simp⟩) trivial ?_
        simp only [Act.put, List.setIfInBounds_toArray, List.set_cons_zero, List.set_cons_succ]
        refine takeC (i := 3) (v := .bool true) rfl (by kernel_rfl) (by kernel_rfl) (by kernel_rfl) (fun _ _ _ h => h) (Or.inl ⟨by rfl, fun W hW => by go_simp⟩) trivial ?_
        simp only [Act.put, List.setIfInBounds_toArray, List.set_cons_zero, List.set_cons_succ]
        refine takeC (i := 4) (v := .bool true) rfl (by kernel_rfl) (by kernel_rfl) (by kernel_rfl) (fun _ _ _ h => h) (Or.inl ⟨by rfl, fun W hW => by go_simp⟩) trivial ?_
        simp only [Act.put, List.setIfInBounds_toArray, List.set_cons_zero, List.set_cons_succ]
        refine takeC (i := 5) (v := .int .i64 (i : Int)) rfl (by kernel_rfl) (by kernel_rfl) (by kernel_rfl) (fun _ _ _ h => h) (Or.inl ⟨by rfl, fun W hW => by go_simp⟩) trivial ?_
        simp only [Act.put, List.setIfInBounds_toArray, List.set_cons_zero, List.set_cons_succ]
        refine takeC (i := 6) (v := .slice xx n1 m1) rfl (by kernel_rfl) (by kernel_rfl) (by kernel_rfl) (fun _ _ _ h => h) (Or.inl ⟨by rfl, fun W hW => by go_simp⟩) trivial ?_
        simp only [Act.put, List.setIfInBounds_toArray, List.set_cons_zero, List.set_cons_succ]
        refine takeC (i := 7) (v := .int .i64 (n1 : Int)) rfl (by kernel_rfl) (by kernel_rfl) (by kernel_rfl) (fun _ _ _ h => h) (Or.inl ⟨by rfl, fun W hW => by go_simp⟩) trivial ?_
        simp only [Act.put, List.setIfInBounds_toArray, List.set_cons_zero, List.set_cons_succ]
        refine takeC (i := 8) (v := .bool false) rfl (by kernel_rfl) (by kernel_rfl) (by kernel_rfl) (fun _ _ _ h => h) (Or.inl ⟨by rfl, fun W hW => by go_simp⟩) trivial ?_
        simp only [Act.put, List.setIfInBounds_toArray, List.set_cons_zero, List.set_cons_succ]
        refine takeC (i := 9) (v := .bool false) rfl (by kernel_rfl) (by kernel_rfl) (by kernel_rfl) (fun _ _ _ h => h) (Or.inl ⟨by rfl, fun W hW => by go_simp⟩) trivial ?_
        simp only [Act.put, List.setIfInBounds_toArray, List.set_cons_zero, List.set_cons_succ]
        refine takeC (i := 10) (v := .bool false) rfl (by kernel_rfl) (by kernel_rfl) (by kernel_rfl) (fun _ _ _ h => h) (Or.inl ⟨by rfl, fun W hW => by go_simp⟩) trivial ?_
        simp only [Act.put, List.setIfInBounds_toArray, List.set_cons_zero, List.set_cons_succ]
        refine takeC (i := 11) (v := undef) rfl (by kernel_rfl) (by kernel_rfl) (by kernel_rfl) (fun _ _ _ h => h) (Or.inr ⟨by rfl, rfl⟩) trivial ?_
        simp only [Act.put, List.setIfInBounds_toArray, List.set_cons_zero, List.set_cons_succ]
        refine takeC (i := 12) (v := undef) rfl (by kernel_rfl) (by kernel_rfl) (by kernel_rfl) (fun _ _ _ h => h) (Or.inr ⟨by rfl, rfl⟩) trivial ?_
        simp only [Act.put, List.setIfInBounds_toArray, List.set_cons_zero, List.set_cons_succ]
        refine takeC (i := 13) (v := undef) rfl (by kernel_rfl) (by kernel_rfl) (by kernel_rfl) (fun _ _ _ h => h) (Or.inr ⟨by rfl, rfl⟩) trivial ?_
        simp only [Act.put, List.setIfInBounds_toArray, List.set_cons_zero, List.set_cons_succ]
        refine takeC (i := 14) (v := undef) rfl (by kernel_rfl) (by kernel_rfl) (by kernel_rfl) (fun _ _ _ h => h) (Or.inr ⟨by rfl, rfl⟩) trivial ?_
        simp only [Act.put, List.setIfInBounds_toArray, List.set_cons_zero, List.set_cons_succ]
        refine takeC (i := 15) (v := undef) rfl (by kernel_rfl) (by kernel_rfl) (by kernel_rfl) (fun _ _ _ h => h) (Or.inr ⟨by rfl, rfl⟩) trivial ?_
        simp only [Act.put, List.setIfInBounds_toArray, List.set_cons_zero, List.set_cons_succ]
        refine takeC (i := 16) (v := undef) rfl (by kernel_rfl) (by kernel_rfl) (by kernel_rfl) (fun _ _ _ h => h) (Or.inr ⟨by rfl, rfl⟩) trivial ?_
        simp only [Act.put, List.setIfInBounds_toArray, List.set_cons_zero, List.set_cons_succ]
        refine takeC (i := 17) (v := undef) rfl (by kernel_rfl) (by kernel_rfl) (by kernel_rfl) (fun _ _ _ h => h) (Or.inr ⟨by rfl, rfl⟩) trivial ?_
        simp only [Act.put, List.setIfInBounds_toArray, List.set_cons_zero, List.set_cons_succ]
        refine takeC (i := 18) (v := undef) rfl (by kernel_rfl) (by kernel_rfl) (by kernel_rfl) (fun _ _ _ h => h) (Or.inr ⟨by rfl, rfl⟩) trivial ?_
        simp only [Act.put, List.setIfInBounds_toArray, List.set_cons_zero, List.set_cons_succ]
        refine takeC (i := 19) (v := undef) rfl (by kernel_rfl) (by kernel_rfl) (by kernel_rfl) (fun _ _ _ h => h) (Or.inr ⟨by rfl, rfl⟩) trivial ?_
        simp only [Act.put, List.setIfInBounds_toArray, List.set_cons_zero, List.set_cons_succ]
        refine takeC (i := 20) (v := .bool false) rfl (by kernel_rfl) (by kernel_rfl) (by kernel_rfl) (fun _ _ _ h => h) (Or.inl ⟨by rfl, fun W hW => by go_simp⟩) trivial ?_
        simp only [Act.put, List.setIfInBounds_toArray, List.set_cons_zero, List.set_cons_succ]
        refine takeC (i := 21) (v := .bool false) rfl (by kernel_rfl) (by kernel_rfl) (by kernel_rfl) (fun _ _ _ h => h) (Or.inl ⟨by rfl, fun W hW => by go_simp⟩) trivial ?_
        simp only [Act.put, List.setIfInBounds_toArray, List.set_cons_zero, List.set_cons_succ]
        refine wpAnyH_done (by kernel_rfl) ?_ _
        obtain ⟨w5, hw5⟩ : ∃ V, wr.drew = V := ⟨_, rfl⟩
        have HB5 : Hid (Below wr.heap.size wr w5) := by rw [← hw5]; exact (Below.refl wr.heap.size wr).drew
        (try rw [hw5])
        clear hw5
        have HBW5 : Hid (Below w2.heap.size w2 w5) := HW.out.trans (HB5.out.mono HW.out.size)
        have HP5 : Hid (OwnCal w2.heap.size w5 (.slice pa pl pc) P) := OwnCal.below HP.out HB5.out
        have T5 : Hid (w5.rangeAt yb (yo + k * 5) [.int .i64 d0, .string d1, .string d2, .bool d3, .int .u64 d4]) := range_bel RB.out HB5.out
        go_wp2_with (first | (refine wpList_load_mid rfl 32 _ rfl yb (yo + k * 5) rfl [.int .i64 d0, .string d1, .string d2, .bool d3, .int .u64 d4] _ T5.out Tryz.underlying32 rfl (by kernel_rfl) ?_) | (at_builtin; refine wpList_appC w5 rfl _ _ rfl w2.heap.size (.slice pa pl pc) P (d0, d1, d2, d3, d4) rfl HP5.out rfl (by have := HM.out; omega) HBW5.out.size ?_; intro v8 w8 o8 u8; obtain ⟨a8, l8, c8, rfl⟩ := row_shape o8; have HO8 : Hid _ := o8; have HU8 : Hid _ := u8; clear o8 u8))
        go_roundw
        case rel =>
          exact ⟨i, k + 1, P ++ [(d0, d1, d2, d3, d4)], by go_num, by go_num, by omega, by omega, HO8, Mrg.right HG.out HDB.out HSR.out.2 (by rw [HDA.out]; exact fun y hy => by cases hy), (by show (P ++ [(d0, d1, d2, d3, d4)]).length = _; have := HM.out; rw [List.length_append]; simp; omega), HBW5.out.trans (HU8.out.below HBW5.out.size (fun j hj e => by omega))⟩
        case measure => simp [intOf]; omega
      · have HDB : Hid (B.drop k = []) := List.drop_eq_nil_of_le (by rw [HYl.out]; omega)
        have h2' : ¬ (k : Int) < (n2 : Int) := by omega
        have HEP : Hid (l.Perm P) := by
          have h := HG.out.perm
          rw [HDA.out, HDB.out, List.append_nil, List.append_nil] at h
          exact HPL.out.trans h.symm
        go_wp2
        go_returns
        exact ⟨pa, pl, pc, P, rfl, ⟨OwnCal.at HP.out, HEP.out, HG.out.srt⟩, (own_calL HP.out).2, HB2.out.trans (HW.out.mono HB2.out.size)⟩
end Go.Proofs.YtkpkdikogoalkaaGreatDoor.sk

namespace Go.Proofs.YtkpkdikogoalkaaGreatDoor.sk
open Go Go.RowKit
set_option maxRecDepth 100000

theorem CalAt.front {w : World} {b off n h : Nat} {l : List Cal} (hA : CalAt w (some ⟨b, off, none⟩) n l) (hh : h ≤ n) : CalAt w (some ⟨b, off, none⟩) h (l.take h) := by
  have hl := hA.len
  refine ⟨by rw [List.length_take]; omega, fun hp => ?_, hA.lt⟩
  obtain ⟨b', off', e, hr⟩ := hA.lies (by omega)
  simp at e
  obtain ⟨rfl, rfl⟩ := e
  refine ⟨b, off, rfl, fun i hi => ?_⟩
  rw [List.getElem_take]
  exact hr i (by rw [List.length_take] at hi; omega)
theorem CalAt.back {w : World} {b off n h : Nat} {l : List Cal} (hA : CalAt w (some ⟨b, off, none⟩) n l) (hh : h ≤ n) : CalAt w (some ⟨b, off + h * 5, none⟩) (n - h) (l.drop h) := by
  have hl := hA.len
  refine ⟨by rw [List.length_drop]; omega, fun hp => ?_, fun a ha => by injection ha with ha; subst ha; exact hA.lt ⟨b, off, none⟩ rfl⟩
  obtain ⟨b', off', e, hr⟩ := hA.lies (by omega)
  simp at e
  obtain ⟨rfl, rfl⟩ := e
  refine ⟨b, off + h * 5, rfl, fun i hi => ?_⟩
  rw [List.getElem_drop]
  have := hr (h + i) (by rw [List.length_drop] at hi; omega)
  rw [show off + (h + i) * 5 = off + h * 5 + i * 5 by omega] at this
  exact this
/-- The reference's sorted, of any calls. -/
theorem rSorted (N : Nat) : ∀ (ad : Option Addr) (n c : Nat) (l : List Cal) (w : World), n ≤ N → CalAt w ad n l → n ≤ c → c ≤ maxLen → n * 56 ≤ 140737488351232 → Calls Tryz.prog 28 #[.slice ad n c] w (OrdP l w) := by
  induction N with
  | zero => exact fun ad n c l w hn hA _ _ _ => rSorted_small ad n c l w hA (by omega)
  | succ N ih =>
    intro ad n c l w hn hA hc hm hz
    by_cases h2 : n < 2
    · exact rSorted_small ad n c l w hA h2
    · obtain ⟨b, off, rfl, _⟩ := hA.lies (by omega)
      refine rSorted_of b off n c (n / 2) l w (by omega) rfl hc hm hz hA.len (fun W hW => ?_) (fun W hW => ?_)
      · exact ih _ _ _ _ W (by omega) ((hA.below hW).front (by omega)) (by omega) hm (by omega)
      · exact ih _ _ _ _ W (by omega) ((hA.below hW).back (by omega)) (by omega) (by omega) (by omega)
/-- The reference's Delta, of any calls. -/
theorem rDelta (aa ba : Option Addr) (na nb ca cb : Nat) (a b : List Cal) (w : World) (hA : CalAt w aa na a) (hB : CalAt w ba nb b) (hc : na ≤ ca ∧ ca ≤ maxLen) (hd : nb ≤ cb ∧ cb ≤ maxLen) (za : na * 56 ≤ 140737488351232) (zb : nb * 56 ≤ 140737488351232) :
    Calls Tryz.prog 8 #[.slice aa na ca, .slice ba nb cb] w (DelP a b w) :=
  rDelta_of aa ba na nb ca cb a b w (by have := hA.len; omega) (by have := hB.len; omega) (fun W h => rSorted na aa na ca a W (Nat.le_refl _) (hA.below h) hc.1 hc.2 za) (fun W h => rSorted nb ba nb cb b W (Nat.le_refl _) (hB.below h) hd.1 hd.2 zb)
/-- What Delta tells is one. -/
theorem DelP.one {a b A B A' B' : List Cal} (h : a.Perm A ∧ SortedC A ∧ b.Perm B ∧ SortedC B) (k : a.Perm A' ∧ SortedC A' ∧ b.Perm B' ∧ SortedC B') : A = A' ∧ B = B' :=
  ⟨sorted_one h.2.1 k.2.1 (h.1.symm.trans k.1), sorted_one h.2.2.2 k.2.2.2 (h.2.2.1.symm.trans k.2.2.1)⟩
end Go.Proofs.YtkpkdikogoalkaaGreatDoor.sk
