/-
  GD.
-/
import Derived.Test.YtipkolmkpfpjjaaGreatDoorG0
import Derived.Test.YtipkolmkpfpjjaaGreatDoorGBq
namespace Go.Proofs.YtipkolmkpfpjjaaGreatDoor
open Go Go.RowKit Go.Shelf
set_option maxRecDepth 100000

attribute [local go_sem] Oper.semAt_some

/-- What a round keeps: all that lay below B; and all cells but those of the block U. -/
structure KpN (B U : Nat) (A C : World) : Prop where
  below : Below B A C
  cells : ∀ j c t fr, j ≠ U → A.heap[j]? = some (.cells c t fr) → C.heap[j]? = some (.cells c t fr)
theorem KpN.refl (B U : Nat) (A : World) : KpN B U A A := ⟨Below.refl _ _, fun _ _ _ _ _ h => h⟩
theorem KpN.trans {B U : Nat} {A C D : World} (h : KpN B U A C) (k : KpN B U C D) : KpN B U A D :=
  ⟨h.below.trans k.below, fun j c t fr hj hc => k.cells j c t fr hj (h.cells j c t fr hj hc)⟩
theorem KpN.put {B U n : Nat} (hB : B ≤ n) (W : World) (l : Nat) (o o' : Obj) (hl : n ≤ l) (ho : W.heap[l]? = some o) (hc : o.isCells = false) (_ : o.isWalk = false) : KpN B U W (W.putObj l o') := by
  refine ⟨⟨rfl, rfl, rfl, by simp [World.putObj], fun k hk => World.putObj_heap_other (by omega)⟩, fun j _ _ _ _ hcs => ?_⟩
  by_cases e : j = l
  · subst e
    rw [ho] at hcs
    cases hcs
    simp [Obj.isCells] at hc
  · exact (World.putObj_heap_other e).trans hcs
theorem KpN.blk {B U : Nat} {A C : World} (h : KpN B U A C) {b : Nat} {c : Array Value} {t : TypeId} (hb : Blk A b c t) (hU : b ≠ U) : Blk C b c t := h.cells b _ _ _ hU hb
theorem KpN.ofBelow {B U : Nat} {A C : World} (hb : Below A.heap.size A C) (hB : B ≤ A.heap.size) : KpN B U A C :=
  ⟨hb.mono hB, fun j _ _ _ _ hc => (hb.block j (Array.getElem?_eq_some_iff.1 hc).1).trans hc⟩
theorem KpN.own {B U n : Nat} {X0 A C : World} {row : Option Nat} (h : KpN B U X0 A) (hg : A.grownBy C row) (hr : ∀ r, row = some r → n ≤ r ∧ ∃ o : Obj, A.heap[r]? = some o ∧ o.isCells = false) (hB : B ≤ n) (hX : B ≤ X0.heap.size) : KpN B U X0 C := by
  have hs := h.below.size
  refine ⟨h.below.trans ⟨hg.os, hg.tape, hg.output, hg.size, fun k hk => hg.block k (by omega) (fun e => by have := (hr k e.symm).1; omega)⟩, fun j c t fr hj hc => ?_⟩
  have hA := h.cells j c t fr hj hc
  refine (hg.block j (Array.getElem?_eq_some_iff.1 hA).1 (fun e => ?_)).trans hA
  obtain ⟨_, o, ho, hoc⟩ := hr j e.symm
  rw [hA] at ho
  cases ho
  simp [Obj.isCells] at hoc
theorem KpN.mine {B U m : Nat} {X0 A C : World} (h : KpN B U X0 A) (hm : X0.heap.size ≤ m) (hB : B ≤ X0.heap.size) (hu : Upd (fun j => m ≤ j) A C) : KpN B U X0 C := by
  have hs := h.below.size
  refine ⟨h.below.trans (hu.below (by omega) (fun k hk e => by omega)), fun j c t fr hj hc => ?_⟩
  have hjX := (Array.getElem?_eq_some_iff.1 hc).1
  exact (hu.block j (by omega) (by omega)).trans (h.cells j c t fr hj hc)
theorem Blk.own {n : Nat} {A C : World} {row : Option Nat} {b : Nat} {c : Array Value} {t : TypeId} (h : Blk A b c t) (hg : A.grownBy C row) (hr : ∀ r, row = some r → n ≤ r ∧ ∃ o : Obj, A.heap[r]? = some o ∧ o.isCells = false) : Blk C b c t := by
  refine (hg.block b h.lt (fun e => ?_)).trans h
  obtain ⟨_, o, ho, hoc⟩ := hr b e.symm
  unfold Blk at h
  rw [h] at ho
  cases ho
  simp [Obj.isCells] at hoc
/-- The parent of a span; 0: none. -/
def ParS (X : List Spot) (id p : Int) : Prop := (∃ k, ∃ h : k < X.length, X[k].nd.id = id ∧ X[k].nd.par = p) ∨ ((∀ i (h : i < X.length), X[i].nd.id ≠ id) ∧ p = 0)
/-- Those above a span. -/
def UpL (X : List Spot) : Int → List Int → Prop
  | id, [] => ParS X id 0
  | id, p :: r => ParS X id p ∧ p ≠ 0 ∧ UpL X p r
/-- The next one above, of A from its k-th on. -/
theorem UpL.step {X : List Spot} (hr : RiseS X) : ∀ {id : Int} {A : List Int} {d : Nod} (_ : UpL X id A) (_ : (∃ k, ∃ h : k < X.length, X[k].nd.id = id ∧ X[k].nd = d) ∨ ((∀ i (h : i < X.length), X[i].nd.id ≠ id) ∧ d = zNd)), d.par = A[0]?.getD 0
  | id, A, d, hA, hd => by
    have hp : ∀ p, ParS X id p → d.par = p := fun p hp => by
      rcases hd with ⟨k, hk, e1, e2⟩ | ⟨hno, rfl⟩
      · rcases hp with ⟨j, hj, e3, e4⟩ | ⟨hno, _⟩
        · have := rise_same hr hk hj (by rw [e1, e3])
          subst this
          rw [← e2]; exact e4
        · exact absurd e1 (hno k hk)
      · rcases hp with ⟨j, hj, e3, _⟩ | ⟨_, e⟩
        · exact absurd e3 (hno j hj)
        · rw [e]; rfl
    cases A with
    | nil => exact hp 0 hA
    | cons p r => simpa using hp p hA.1
theorem UpL.drop {X : List Spot} : ∀ {id : Int} {A : List Int} (_ : UpL X id A) (k : Nat) (h : k < A.length), UpL X A[k] (A.drop (k + 1)) ∧ A[k] ≠ 0
  | _, [], _, _, h => absurd h (by simp)
  | _, p :: r, hA, 0, _ => ⟨hA.2.2, hA.2.1⟩
  | _, p :: r, hA, k + 1, h => UpL.drop hA.2.2 k (by simpa using h)
theorem above_any (f : Nat) (id : Int) (w : World) :
    Calls Tryz.prog 16 #[.pointer (some ⟨f, 0, none⟩), .int .u64 id] w fun e w' => e = .returned (.func (.func 29) #[] #[.pointer (some ⟨w.heap.size, 0, none⟩), .pointer (some ⟨w.heap.size + 1, 0, none⟩)]) ∧ w' = (w.alloc (.cells #[.pointer (some ⟨f, 0, none⟩)] 25)).alloc (.cells #[.int .u64 id] 35) := by
  go_enter Tryz.func16, Tryz.ntmps16
  go_wp2
  go_ret
  exact ⟨by simp, rfl⟩
theorem put7 {w : World} {b : Nat} {d e : Nod} (h : Blk w b (ndL d).toArray 49) : Blk (((((((w.setCell ⟨b, 0, none⟩ (.int .u64 e.id)).setCell ⟨b, 1, none⟩ (.int .u64 e.par)).setCell ⟨b, 2, none⟩ (.int .i64 e.org)).setCell ⟨b, 3, none⟩ (.int .u64 e.tree)).setCell ⟨b, 4, none⟩ (.int .i64 e.dep)).setCell ⟨b, 5, none⟩ (.int .i64 e.fr)).setCell ⟨b, 6, none⟩ (.int .i64 e.til)) b (ndL e).toArray 49 := by
  have := setCells_blk (ndL e) 0 (ndL d) w h
  rw [putL_eq _ _ 0 (by simp [ndL])] at this
  simpa [ndL, World.setCells] using this
theorem put7_upd (w : World) (b : Nat) (e : Nod) : Upd (fun k => k = b) w (((((((w.setCell ⟨b, 0, none⟩ (.int .u64 e.id)).setCell ⟨b, 1, none⟩ (.int .u64 e.par)).setCell ⟨b, 2, none⟩ (.int .i64 e.org)).setCell ⟨b, 3, none⟩ (.int .u64 e.tree)).setCell ⟨b, 4, none⟩ (.int .i64 e.dep)).setCell ⟨b, 5, none⟩ (.int .i64 e.fr)).setCell ⟨b, 6, none⟩ (.int .i64 e.til)) := by
  have := setCells_upd b (ndL e) 0 w
  simpa [ndL, World.setCells] using this
set_option maxHeartbeats 4000000 in
theorem up_steps (n f sb bf bi B U : Nat) (hn : 1 ≤ n) (X : List Spot) (K : Nat → List Int) (rv : Value) (R : List Int) (id : Int) (A : List Int) (w0 w : World) (h : ForestAt w0 f sb X K rv R) (hB : w0.heap.size ≤ B) (hw : Below B w0 w) (hfB : bf ≠ U ∧ bi ≠ U) (hUw : U < w.heap.size) (hBw : B ≤ w.heap.size)
    (cf : Blk w bf #[.pointer (some ⟨f, 0, none⟩)] 25) (ci : Blk w bi #[.int .u64 id] 35) (hA : UpL X id A) (hnd : A.Nodup) :
    StepsA Fence.wide n Tryz.prog 29 #[.pointer (some ⟨bf, 0, none⟩), .pointer (some ⟨bi, 0, none⟩)] A.length (fun k => #[.int .u64 (A[k]?.getD 0)]) (KpN B U) w := fun l J W hW hJ hY h0 => by
  have hrise := h.rise
  have hsW := hW.size
  have NODE : Hid (∀ (i : Int) (V : World), KpN B U W V → Calls Tryz.prog 15 #[.pointer (some ⟨f, 0, none⟩), .int .u64 i] V fun e w' => ∃ d b, e = .returned (.tuple #[ndV d, .bool b]) ∧ ((∃ k, ∃ h : k < X.length, X[k].nd.id = i ∧ X[k].nd = d) ∨ ((∀ j (h : j < X.length), X[j].nd.id ≠ i) ∧ d = zNd)) ∧ Below V.heap.size V w') := fun i V hV => by
    have F := h.below ((hw.mono hB).trans ((hW.mono (by omega)).trans (hV.below.mono hB)))
    refine (node_told f sb X K rv R i V F).mono ?_
    rintro e w' ⟨d, b, rfl, hd, hb⟩
    refine ⟨d, b, rfl, ?_, hb⟩
    rcases hd with ⟨k, hk, h1, h2, _⟩ | ⟨h1, h2, _⟩
    · exact Or.inl ⟨k, hk, h1, h2⟩
    · exact Or.inr ⟨h1, h2⟩
  have cfW : Blk W bf #[.pointer (some ⟨f, 0, none⟩)] 25 := cf.below hW cf.lt
  have ciW : Blk W bi #[.int .u64 id] 35 := ci.below hW ci.lt
  have hBW : B ≤ W.heap.size := by omega
  have N0 := NODE.out id W (KpN.refl _ _ _)
  have k1 : W.cell? ⟨bf, 0, none⟩ = some (.pointer (some ⟨f, 0, none⟩)) := cfW.cell 0 rfl
  have k2 : W.cell? ⟨bi, 0, none⟩ = some (.int .u64 id) := ciW.cell 0 rfl
  have HY : Hid (∀ k W1, k < A.length → J k W1 → YieldAt Fence.wide (n - 1) Tryz.prog l #[.int .u64 (A[k]?.getD 0)] W1 fun e W' => e = .returned (.bool true) ∧ J (k + 1) W' ∧ KpN B U W1 W') := hY
  have HJ : Hid (∀ k A B, W.heap.size ≤ A.heap.size → J k A → Upd (fun j => W.heap.size ≤ j) A B → J k B) := hJ
  have START : Hid (∀ d w1, ((∃ k, ∃ h : k < X.length, X[k].nd.id = id ∧ X[k].nd = d) ∨ ((∀ j (h : j < X.length), X[j].nd.id ≠ id) ∧ d = zNd)) → Below W.heap.size W w1 → J 0 (w1.alloc (.cells (ndL d).toArray 49)) ∧ Blk (w1.alloc (.cells (ndL d).toArray 49)) w1.heap.size (ndL d).toArray 49 ∧ d.par = A[0]?.getD 0 ∧ KpN B U W (w1.alloc (.cells (ndL d).toArray 49)) ∧ W.heap.size ≤ w1.heap.size) := fun d w1 hd hb => by
    have hb' : Below W.heap.size W (w1.alloc (.cells (ndL d).toArray 49)) := hb.alloc hb.size _
    exact ⟨hJ 0 W _ (Nat.le_refl _) h0 (Upd.ofBelow hb' (fun k _ h => h)), Blk.new _ _ _, UpL.step hrise hA hd, KpN.ofBelow hb' hBW, hb.size⟩
  have hUW : Hid (U < W.heap.size ∧ bf < W.heap.size) := ⟨by omega, cfW.lt⟩
  have STEP : Hid (∀ (k b4 : Nat) (d d' : Nod) (wr W3 w4 : World) (hk : k < A.length), W.heap.size ≤ b4 → b4 < wr.heap.size → KpN B U W wr → KpN B U wr W3 → J (k + 1) W3 → Blk w4 b4 (ndL d).toArray 49 → Below W3.heap.size W3 w4 → ((∃ j, ∃ h : j < X.length, X[j].nd.id = A[k] ∧ X[j].nd = d') ∨ ((∀ j (h : j < X.length), X[j].nd.id ≠ A[k]) ∧ d' = zNd)) → ∀ w5, Blk w5 b4 (ndL d').toArray 49 → Upd (fun k => k = b4) w4 w5 → J (k + 1) w5 ∧ d'.par = A[k + 1]?.getD 0 ∧ KpN B U W w5) := fun k b4 d d' wr W3 w4 hk hb4 hb4r k1 k2 hJ3 _ hb hd w5 _ hu => by
    have hs3 := k2.below.size
    have hs1 := k1.below.size
    have hs4 := hb.size
    refine ⟨hJ (k + 1) W3 w5 (by omega) hJ3 ?_, ?_, ?_⟩
    · have u1 : Upd (fun j => W.heap.size ≤ j) W3 w4 := Upd.ofBelow hb (fun k h1 h2 => by omega)
      exact u1.trans hu (fun j _ e => by omega)
    · have := UpL.step hrise (UpL.drop hA k hk).1 hd
      rw [this, List.getElem?_drop]
      try simp
    · have k3 : KpN B U W w4 := (k1.trans k2).trans (KpN.ofBelow hb (by omega))
      refine ⟨k3.below.trans (hu.below (by omega) (fun j h1 h2 => by omega)), fun j c t fr hj hc => ?_⟩
      have hjW := (Array.getElem?_eq_some_iff.1 hc).1
      exact (hu.block j (by omega) (by omega)).trans (k3.cells j c t fr hj hc)
  obtain ⟨cnt, hcnt⟩ : ∃ cnt : Nat → World → Nat, ∀ b4 wr (k : Nat) (d : Nod), Blk wr b4 (ndL d).toArray 49 → d.par = A[k]?.getD 0 → k ≤ A.length → cnt b4 wr = A.length - k := by
    refine ⟨fun b4 wr => match wr.cell? ⟨b4, 1, none⟩ with | some (.int _ p) => if p = 0 then 0 else A.length - A.idxOf p | _ => 0, fun b4 wr k d hb hd hk => ?_⟩
    have e : wr.cell? ⟨b4, 1, none⟩ = some (.int .u64 d.par) := hb.cell 1 rfl
    simp only [e]
    by_cases hlt : k < A.length
    · have hne := (UpL.drop hA k hlt).2
      rw [hd]
      simp only [List.getElem?_eq_getElem hlt, Option.getD_some]
      rw [if_neg hne, List.Nodup.idxOf_getElem hnd]
    · rw [hd, List.getElem?_eq_none (by omega)]
      simp
      try omega
  have HCNT : Hid (∀ b4 wr (k : Nat) (d : Nod), Blk wr b4 (ndL d).toArray 49 → d.par = A[k]?.getD 0 → k ≤ A.length → cnt b4 wr = A.length - k) := hcnt
  have HAZ : Hid (∀ k (h : k < A.length), A[k] ≠ 0) := fun k h => (UpL.drop hA k h).2
  have HCF : Hid (Blk W bf #[.pointer (some ⟨f, 0, none⟩)] 25) := cfW
  have HNE : Hid (bf ≠ U) := hfB.1
  clear hY hJ hcnt hA hrise h0 cfW ciW cf ci hW hsW hw h hB hfB hUw hBw hBW hnd
  refine callsIn_of_wp Tryz.func29 rfl trivial ?_ rfl
  simp only [Tryz.ntmps29, List.size_toArray, List.length_cons, List.length_nil, Nat.reduceAdd, Nat.reduceSub, Array.replicate_succ, Array.replicate_zero, List.push_toArray, List.append_toArray, List.nil_append, List.cons_append]
  gi_wp2_with (first
    | (gi_at_call 15; refine (callsIn_wide.2 N0).mono ?_; clear N0; rintro e w1 ⟨d, b, rfl, hd, hb1⟩; obtain ⟨s1, s2, s3, s4, s5⟩ := START.out d w1 hd hb1; have S1 : Hid (J 0 (w1.alloc (.cells (ndL d).toArray 49))) := s1; have S2 : Hid (Blk (w1.alloc (.cells (ndL d).toArray 49)) w1.heap.size (ndL d).toArray 49) := s2; have S3 : Hid (d.par = A[0]?.getD 0) := s3; have S4 : Hid (KpN B U W (w1.alloc (.cells (ndL d).toArray 49))) := s4; have S5 : Hid (W.heap.size ≤ w1.heap.size) := s5; clear s1 s2 s3 s4 s5 hd hb1 START; unfold ndV)
    | (refine ⟨trivial, ?_⟩; gi_at_call 15; refine (callsIn_wide.2 N0).mono ?_; clear N0; rintro e w1 ⟨d, b, rfl, hd, hb1⟩; obtain ⟨s1, s2, s3, s4, s5⟩ := START.out d w1 hd hb1; have S1 : Hid (J 0 (w1.alloc (.cells (ndL d).toArray 49))) := s1; have S2 : Hid (Blk (w1.alloc (.cells (ndL d).toArray 49)) w1.heap.size (ndL d).toArray 49) := s2; have S3 : Hid (d.par = A[0]?.getD 0) := s3; have S4 : Hid (KpN B U W (w1.alloc (.cells (ndL d).toArray 49))) := s4; have S5 : Hid (W.heap.size ≤ w1.heap.size) := s5; clear s1 s2 s3 s4 s5 hd hb1 START; unfold ndV))
  obtain ⟨b4, hb4⟩ : ∃ b4, w1.heap.size = b4 := ⟨_, rfl⟩
  rw [hb4] at S2 S5 ⊢
  clear hb4
  gi_loopw [12] (fun _ wr => ∃ (k : Nat) (d : Nod), k ≤ A.length ∧ J k wr ∧ Blk wr b4 (ndL d).toArray 49 ∧ d.par = A[k]?.getD 0 ∧ KpN B U W wr) (fun _ wr => cnt b4 wr)
  case atStart => exact ⟨0, d, Nat.zero_le _, S1.out, S2.out, S3.out, S4.out⟩
  case round =>
    obtain ⟨k, d', hkA, hJk, hBk, hpar, hKk⟩ := hrel
    obtain ⟨e0, e1, e2, e3, e4, e5, e6, ef⟩ := node_cells hBk
    have HBk : Hid (Blk wr b4 (ndL d').toArray 49) := hBk
    have HK : Hid (KpN B U W wr) := hKk
    have HP : Hid (d'.par = A[k]?.getD 0) := hpar
    by_cases hlt : k < A.length
    · obtain ⟨fn, tmps, assign, body, hy, hR⟩ := HY.out k wr hlt hJk
      have hpk : A[k]?.getD 0 = A[k] := by simp [hlt]
      rw [hpk] at hpar hy
      have hne : A[k] ≠ 0 := HAZ.out k hlt
      rw [hpar] at e1
      obtain ⟨p, hp⟩ : ∃ p, A[k]'hlt = p := ⟨_, rfl⟩
      have HPK : Hid (A[k]'hlt = p) := hp
      rw [hp] at hpar hy e1 hne
      have hne' : (p != 0) = true := by simp [hne]
      clear hpk hp hpar hBk hKk hJk
      gi_wp2
      refine hR.mono ?_
      rintro e W3 ⟨rfl, hJ3, hk3⟩
      have B3 : Blk W3 b4 (ndL d').toArray 49 := hk3.blk HBk.out (by have := S5.out; have := hUW.out.1; omega)
      have f3 : W3.cell? ⟨bf, 0, none⟩ = some (.pointer (some ⟨f, 0, none⟩)) := ((HK.out.trans hk3).blk HCF.out HNE.out).cell 0 rfl
      have p3 : W3.cell? ⟨b4, 1, none⟩ = some (.int .u64 p) := by
        have hp3 : W3.cell? ⟨b4, 1, none⟩ = some (.int .u64 d'.par) := B3.cell 1 rfl
        rw [hp3, show d'.par = p from by rw [HP.out, List.getElem?_eq_getElem hlt, HPK.out]; rfl]
      have N1 := NODE.out p W3 (HK.out.trans hk3)
      have HJ3 : Hid (J (k + 1) W3) := hJ3
      have HK3 : Hid (KpN B U wr W3) := hk3
      clear hJ3 hk3 hR hy e0 e1 e2 e3 e4 e5 e6 ef
      gi_wp2_with (first
        | (gi_at_call 15; refine (callsIn_wide.2 N1).mono ?_; clear N1; rintro e w4 ⟨d5, b5, rfl, hd5, hb5⟩; have HB5 : Hid (Below W3.heap.size W3 w4) := hb5; have B5 : Blk w4 b4 (ndL d').toArray 49 := Blk.below B3 hb5 (Blk.lt B3); have HBL5 : Hid (Blk w4 b4 (ndL d').toArray 49) := B5; obtain ⟨q0, q1, q2, q3, q4, q5, q6, qf⟩ := node_cells B5; have HD5 : Hid ((∃ k, ∃ h : k < X.length, X[k].nd.id = p ∧ X[k].nd = d5) ∨ ((∀ j (h : j < X.length), X[j].nd.id ≠ p) ∧ d5 = zNd)) := hd5; clear hd5 hb5 B5; unfold ndV)
        | (refine ⟨trivial, ?_⟩; gi_at_call 15; refine (callsIn_wide.2 N1).mono ?_; clear N1; rintro e w4 ⟨d5, b5, rfl, hd5, hb5⟩; have HB5 : Hid (Below W3.heap.size W3 w4) := hb5; have B5 : Blk w4 b4 (ndL d').toArray 49 := Blk.below B3 hb5 (Blk.lt B3); have HBL5 : Hid (Blk w4 b4 (ndL d').toArray 49) := B5; obtain ⟨q0, q1, q2, q3, q4, q5, q6, qf⟩ := node_cells B5; have HD5 : Hid ((∃ k, ∃ h : k < X.length, X[k].nd.id = p ∧ X[k].nd = d5) ∨ ((∀ j (h : j < X.length), X[j].nd.id ≠ p) ∧ d5 = zNd)) := hd5; clear hd5 hb5 B5; unfold ndV))
      go_roundw
      case rel =>
        have w5b := put7 (e := d5) HBL5.out
        have w5u := put7_upd w4 b4 d5
        obtain ⟨r1, r2, r3⟩ := STEP.out k b4 d' d5 wr W3 w4 hlt S5.out (Blk.lt HBk.out) HK.out HK3.out HJ3.out HBL5.out HB5.out (by rw [HPK.out]; exact HD5.out) _ w5b w5u
        exact ⟨k + 1, d5, by omega, r1, w5b, r2, r3⟩
      case measure =>
        have w5b := put7 (e := d5) HBL5.out
        have w5u := put7_upd w4 b4 d5
        obtain ⟨r1, r2, r3⟩ := STEP.out k b4 d' d5 wr W3 w4 hlt S5.out (Blk.lt HBk.out) HK.out HK3.out HJ3.out HBL5.out HB5.out (by rw [HPK.out]; exact HD5.out) _ w5b w5u
        have m1 := HCNT.out b4 wr k d' HBk.out HP.out hkA
        have m2 := HCNT.out b4 _ (k + 1) d5 w5b r2 (by omega)
        omega
    · obtain rfl : k = A.length := by omega
      have hp0 : d'.par = 0 := by rw [hpar]; simp
      rw [hp0] at e1
      have HJk : Hid (J A.length wr) := hJk
      clear hJk hBk hKk hpar
      gi_wp2
      refine ⟨fun _ _ => trivial, ?_⟩
      gi_wp2
      go_end0
      exact ⟨⟨_, rfl⟩, HJk.out⟩
end Go.Proofs.YtipkolmkpfpjjaaGreatDoor
