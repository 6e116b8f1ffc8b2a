/-
  Merged: UA, UF, UB, UC, UD, UE, UG, UH.
-/
import Derived.Test.YtipkolmkpfpjjaaGreatDoorHGq
import Derived.Test.YtipkolmkpfpjjaaGreatDoorYcq
import Derived.Laws.StructEq
import Derived.BigQuiet
import Derived.Test.YtipkolmkpfpjjaaGreatDoorWaq
import Derived.Test.YtipkolmkpfpjjaaGreatDoorZhq
import Derived.Test.YtipkolmkpfpjjaaGreatDoorSOq
import Derived.Test.YtipkolmkpfpjjaaGreatDoorMw
import Derived.Test.YtipkolmkpfpjjaaGreatDoorFZ
import Derived.Test.YtipkolmkpfpjjaaGreatDoorQAq
import Derived.Test.YtipkolmkpfpjjaaGreatDoorGBq
import Derived.Test.YtipkolmkpfpjjaaGreatDoorGH
namespace Go.Proofs.YtipkolmkpfpjjaaGreatDoor
open Go Go.RowKit
set_option maxRecDepth 100000

theorem cutN_same {C C' nm : List Int} (h : ∀ q : Nat, (∃ c ∈ C, c.toNat = q) ↔ (∃ c ∈ C', c.toNat = q)) : cutN C nm = cutN C' nm := by
  refine List.ext_getElem (by rw [cutN_len, cutN_len]) fun q h1 h2 => ?_
  have hq : q < nm.length := by rw [cutN_len] at h1; exact h1
  have g1 := cutN_get C nm q hq
  have g2 := cutN_get C' nm q hq
  have e1 : (cutN C nm).getD q 0 = (cutN C nm)[q] := by simp [List.getD, h1]
  have e2 : (cutN C' nm).getD q 0 = (cutN C' nm)[q] := by simp [List.getD, h2]
  rw [← e1, ← e2, g1, g2]
  by_cases hc : ∃ c ∈ C, c.toNat = q
  · rw [if_pos hc, if_pos ((h q).1 hc)]
  · rw [if_neg hc, if_neg (fun hh => hc ((h q).2 hh))]
theorem loopS_twice (s : Spot) : loopS (loopS s) = loopS s := rfl
theorem cutX_get (C : List Int) : ∀ (X : List Spot) (q : Nat) (h : q < X.length) (h' : q < (cutX C X).length), ((∃ c ∈ C, c.toNat = q) → (cutX C X)[q] = loopS X[q]) ∧ ((¬ ∃ c ∈ C, c.toNat = q) → (cutX C X)[q] = X[q]) := by
  induction C with
  | nil => intro X q h h'; exact ⟨(fun hh => by obtain ⟨c, hc, _⟩ := hh; cases hc), fun _ => rfl⟩
  | cons c C ih =>
    intro X q h h'
    have hm : q < (X.modify c.toNat loopS).length := by simpa using h
    have g := ih (X.modify c.toNat loopS) q hm h'
    have e : (X.modify c.toNat loopS)[q] = if c.toNat = q then loopS X[q] else X[q] := by
      rw [List.getElem_modify]
    constructor
    · rintro ⟨d, hd, hdq⟩
      by_cases hr : ∃ c ∈ C, c.toNat = q
      · have g1 := g.1 hr
        show (cutX C (X.modify c.toNat loopS))[q] = _
        rw [g1, e]
        split <;> rfl
      · have g2 := g.2 hr
        show (cutX C (X.modify c.toNat loopS))[q] = _
        rw [g2, e]
        rcases List.mem_cons.1 hd with rfl | hd
        · rw [if_pos hdq]
        · exact absurd ⟨d, hd, hdq⟩ hr
    · intro hn
      have hr : ¬ ∃ c ∈ C, c.toNat = q := fun ⟨d, hd, hdq⟩ => hn ⟨d, List.mem_cons_of_mem _ hd, hdq⟩
      show (cutX C (X.modify c.toNat loopS))[q] = _
      rw [g.2 hr, e, if_neg (fun e => hn ⟨c, List.mem_cons_self, e⟩)]
theorem cutX_eq {C C' : List Int} {X : List Spot} (h : ∀ q : Nat, (∃ c ∈ C, c.toNat = q) ↔ (∃ c ∈ C', c.toNat = q)) : cutX C X = cutX C' X := by
  refine List.ext_getElem (by rw [cutX_len, cutX_len]) fun q h1 h2 => ?_
  have hq : q < X.length := by rw [cutX_len] at h1; exact h1
  have g1 := cutX_get C X q hq h1
  have g2 := cutX_get C' X q hq h2
  by_cases hc : ∃ c ∈ C, c.toNat = q
  · rw [g1.1 hc, g2.1 ((h q).1 hc)]
  · rw [g1.2 hc, g2.2 (fun hh => hc ((h q).2 hh))]
theorem shape_one {X0 : List Spot} {nm : List Int} {dp dp' : Nat → Nat} {fin fin' : Nat → Nod} (h : Shape X0 nm dp fin) (h' : Shape X0 nm dp' fin') (hr : ∀ i, i < X0.length → nm.getD i (-1) = -1 ∨ ∃ j : Nat, j < X0.length ∧ nm.getD i (-1) = (j : Int)) : ∀ (d i : Nat), dp i = d → i < X0.length → fin i = fin' i := by
  intro d
  induction d using Nat.strongRecOn with
  | ind d ih =>
    intro i hd hi
    rcases hr i hi with e | ⟨j, hj, e⟩
    · rw [(h.rt i hi e).2, (h'.rt i hi e).2]
    · have k := h.kd i j hi hj e
      have k' := h'.kd i j hi hj e
      rw [k.2, k'.2, ih (dp j) (by omega) j rfl hj]
/-- What is sorted so is one list. -/
theorem sort_one {fin : Nat → Nod} {L M : List Int} (hp : L.Perm M) (hinj : ∀ a ∈ L, ∀ b ∈ L, (fin a.toNat).id = (fin b.toNat).id → a = b) (hL : L.Pairwise (fun a b => ¬ ltK (fin b.toNat) (fin a.toNat))) (hM : M.Pairwise (fun a b => ¬ ltK (fin b.toNat) (fin a.toNat))) : L = M := by
  refine List.Perm.eq_of_pairwise (le := fun a b => ¬ ltK (fin b.toNat) (fin a.toNat)) ?_ hL hM hp
  intro a b ha hb h1 h2
  refine hinj a ha b (hp.mem_iff.2 hb) ?_
  unfold ltK at h1 h2
  omega
section
variable {Y : List Sp} {C C' : List Int} {dp dp' : Nat → Nat} {fin fin' : Nat → Nod} {X X' : List Spot} {K K' : Nat → List Int} {R R' : List Int}
/-- Two forests of one list are one. -/
structure Twin (Y : List Sp) (fin fin' : Nat → Nod) (X X' : List Spot) (K K' : Nat → List Int) (R R' : List Int) : Prop where
  fin : ∀ i, i < Y.length → fin i = fin' i
  kids : ∀ i, i < Y.length → K i = K' i
  roots : R = R'
  spans : ∀ i, i < Y.length → ∀ (h1 : i < X.length) (h2 : i < X'.length), X[i].a = X'[i].a ∧ X[i].nd = X'[i].nd
theorem FoB.twin (h : FoB Y C dp fin X K R) (h' : FoB Y C' dp' fin' X' K' R') (hC : CutsL (nmOf (zs Y)) Y.length Y.length C) (hC' : CutsL (nmOf (zs Y)) Y.length Y.length C') : Twin Y fin fin' X X' K K' R R' := by
  have hnl : (nmOf (zs Y)).length = Y.length := by simp [nmOf, zs_len]
  have hr : ∀ x ∈ nmOf (zs Y), -1 ≤ x ∧ x < (Y.length : Int) := fun x hx => by
    unfold nmOf at hx
    obtain ⟨s, _, rfl⟩ := List.mem_map.1 hx
    have := idx_range (zs Y) s.a.par
    rw [zs_len] at this
    exact this
  have hm : ∀ q : Nat, (∃ c ∈ C, c.toNat = q) ↔ (∃ c ∈ C', c.toNat = q) := fun q => (cut_iff hr hnl hC q).trans (cut_iff hr hnl hC' q).symm
  have eN : cutN C (nmOf (zs Y)) = cutN C' (nmOf (zs Y)) := cutN_same hm
  have eX : cutX C (zs Y) = cutX C' (zs Y) := cutX_eq hm
  have hl : (cutX C (zs Y)).length = Y.length := by rw [cutX_len, zs_len]
  have hs' := h'.sh
  rw [← eN, ← eX] at hs'
  have hfin : ∀ i, i < Y.length → fin i = fin' i := fun i hi => shape_one h.sh hs' (fun i hi => by
    rw [hl] at hi ⊢
    exact nmC_range Y C i hi) (dp i) i rfl (by rw [hl]; exact hi)
  have hinj : ∀ (M : List Int), (∀ z ∈ M, 0 ≤ z ∧ z < Y.length) → ∀ a ∈ M, ∀ b ∈ M, (fin a.toNat).id = (fin b.toNat).id → a = b := fun M hM a ha b hb e => by
    have := hM a ha
    have := hM b hb
    have := h.idInjR (i := a.toNat) (j := b.toNat) (by omega) (by omega) e
    omega
  have hturn : ∀ (M : List Int), (∀ z ∈ M, 0 ≤ z ∧ z < Y.length) → M.Pairwise (fun a b => ¬ ltK (fin' b.toNat) (fin' a.toNat)) → M.Pairwise (fun a b => ¬ ltK (fin b.toNat) (fin a.toNat)) := fun M hM hp => by
    refine List.Pairwise.imp_of_mem ?_ hp
    intro a b ha hb hab
    have := hM a ha
    have := hM b hb
    rw [hfin a.toNat (by omega), hfin b.toNat (by omega)]
    exact hab
  have key : ∀ (L M Z : List Int), Z.Perm L → Z.Perm M → (∀ z ∈ Z, 0 ≤ z ∧ z < Y.length) → L.Pairwise (fun a b => ¬ ltK (fin b.toNat) (fin a.toNat)) → M.Pairwise (fun a b => ¬ ltK (fin' b.toNat) (fin' a.toNat)) → L = M := fun L M Z h1 h2 hz h3 h4 =>
    sort_one (h1.symm.trans h2) (hinj L (fun z hz' => hz z (h1.mem_iff.2 hz'))) h3 (hturn M (fun z hz' => hz z (h2.mem_iff.2 hz')) h4)
  have kr : ∀ (q : Int), ∀ z ∈ kidsF (cutN C (nmOf (zs Y))) Y.length q, 0 ≤ z ∧ z < Y.length := fun q z hz => by
    obtain ⟨i, rfl, h1, _⟩ := kidsF_iff.1 hz
    omega
  refine ⟨hfin, fun i hi => ?_, ?_, fun i hi h1 h2 => ?_⟩
  · have k1 := h.fo.kids i hi
    have k2 := h'.fo.kids i hi
    rw [← eN] at k2
    exact key _ _ _ k1.1 k2.1 (kr i) k1.2 k2.2
  · have k1 := h.fo.roots
    have k2 := h'.fo.roots
    rw [← eN] at k2
    exact key _ _ _ k1.1 k2.1 (kr (-1)) k1.2 k2.2
  · have a1 := h.fo.each i hi h1
    have a2 := h'.fo.each i hi h2
    exact ⟨a1.1.trans a2.1.symm, by rw [a1.2, a2.2, hfin i hi]⟩
end
end Go.Proofs.YtipkolmkpfpjjaaGreatDoor

namespace Go.Proofs.YtipkolmkpfpjjaaGreatDoor
open Go Go.RowKit
set_option maxRecDepth 100000

theorem fillC_cell {W : World} {r : Nat} {L : List Int} (h : Blk W r (fillC .u64 L 0) 35) (i : Nat) (hi : i < L.length) : W.cell? ⟨r, i, none⟩ = some (.int .u64 L[i]) := by
  refine h.cell i ?_
  unfold fillC
  rw [List.getElem?_toArray, List.getElem?_append_left (by rw [List.length_map]; exact hi), List.getElem?_map, List.getElem?_eq_getElem hi]
  rfl
set_option maxHeartbeats 2000000 in
theorem sameIDs_eq (r1 r2 m c1 c2 : Nat) (L : List Int) (w : World) (hl : L.length = m) (h1 : Blk w r1 (fillC .u64 L 0) 35) (h2 : Blk w r2 (fillC .u64 L 0) 35) (hm : m ≤ 1000000) :
    Calls Tryz.prog 10 #[.slice (some ⟨r1, 0, none⟩) m c1, .slice (some ⟨r2, 0, none⟩) m c2] w fun e w' => e = .returned (.bool true) ∧ Below w.heap.size w w' := by
  have HL : Hid (L.length = m) := hl
  have H1 : Hid (Blk w r1 (fillC .u64 L 0) 35) := h1
  have H2 : Hid (Blk w r2 (fillC .u64 L 0) 35) := h2
  clear hl h1 h2
  go_enter Tryz.func10, Tryz.ntmps10
  go_wp2
  go_loopw [5] (fun a wr => ∃ (i q : Nat), a = .int .i64 i ∧ i ≤ m ∧ wr = w.drewN q) (fun a _ => m - (intOf a).toNat)
  case atStart => exact ⟨0, 0, rfl, by omega, rfl⟩
  case round =>
    obtain ⟨i, q, rfl, him, rfl⟩ := hrel
    by_cases hlt : i < m
    · have hlt' : (i : Int) < (m : Int) := by omega
      have k1 := fillC_cell H1.out i (by rw [HL.out]; exact hlt)
      have k2 := fillC_cell H2.out i (by rw [HL.out]; exact hlt)
      generalize L[i]'(by rw [HL.out]; exact hlt) = x at k1 k2
      go_wp2
      go_quiet (fail)
      go_wp2
      go_roundw
      case rel => exact ⟨i + 1, q + nq, by go_num, by omega, by simp [World.drewN]⟩
      case measure => simp [intOf]; omega
    · have hlt' : ¬ (i : Int) < (m : Int) := by omega
      go_wp2
      go_ret
      exact ⟨rfl, rfl, rfl, rfl, Nat.le_refl _, fun _ _ => rfl⟩
theorem eqI_ivN (d : Nat) (a b : Int) (W : World) : (Op.equalIn (d + 2) 47 (.agg #[.int .i64 a, .int .i64 b]) (.agg #[.int .i64 a, .int .i64 b])).run Tryz.prog W = .ok true W := by
  have u3 := Tryz.underlying2
  have a3 := Tryz.isAgg2
  have z3 := Tryz.sizeOf2
  have hS : Tryz.prog.underlying 47 = some (.struct (Tryz.prog.fieldsOf 47)) := by kernel_rfl
  have hp : Tryz.prog.stoodInHeld 47 = false := by kernel_rfl
  rw [run_equalIn_agg W (d + 1) 47 _ _ hS hp]
  simp only [Program.fieldsOf, Tryz.underlying47]
  go_simp
  try simp
theorem eqI_node (d : Nat) (x : Nod) (W : World) : (Op.equalIn (d + 3) 49 (.agg (ndL x).toArray) (.agg (ndL x).toArray)).run Tryz.prog W = .ok true W := by
  have u3 := Tryz.underlying2
  have a3 := Tryz.isAgg2
  have z3 := Tryz.sizeOf2
  have u1 := Tryz.underlying3
  have a1 := Tryz.isAgg3
  have z1 := Tryz.sizeOf3
  have u2 := Tryz.underlying35
  have a2 := Tryz.isAgg35
  have z2 := Tryz.sizeOf35
  have u4 := Tryz.underlying45
  have a4 := Tryz.isAgg45
  have z4 := Tryz.sizeOf45
  have u5 := Tryz.underlying47
  have a5 := Tryz.isAgg47
  have z5 := Tryz.sizeOf47
  have hS : Tryz.prog.underlying 49 = some (.struct (Tryz.prog.fieldsOf 49)) := by kernel_rfl
  have hp : Tryz.prog.stoodInHeld 49 = false := by kernel_rfl
  have hI := eqI_ivN d x.fr x.til W
  rw [run_equalIn_agg W (d + 2) 49 _ _ hS hp]
  simp only [Program.fieldsOf, Tryz.underlying49]
  unfold ndL
  go_simp
  try simp [hI]
end Go.Proofs.YtipkolmkpfpjjaaGreatDoor

namespace Go.Proofs.YtipkolmkpfpjjaaGreatDoor
open Go.RowKit
set_option maxRecDepth 100000

theorem list10_eq_of {α : Type} {X Y : List α} {n : Nat} (hX : X.length = n) (hY : Y.length = n) (h : ∀ i, i < n → X[i]? = Y[i]?) : X = Y := by
  apply List.ext_getElem?
  intro i
  by_cases hi : i < n
  · exact h i hi
  · rw [List.getElem?_eq_none (by omega), List.getElem?_eq_none (by omega)]
theorem attr_ne {x y : AttrD} (h : x ≠ y) : decide (x.key = y.key ∧ x.kind = y.kind ∧ x.text = y.text ∧ x.num = y.num) = false := decide_eq_false (fun e => h (AttrD.ext' e.1 e.2.1 e.2.2.1 e.2.2.2))
theorem event_ne {x y : EventD} (h : x ≠ y) : decide (x.moment = y.moment ∧ x.name = y.name) = false := decide_eq_false (fun e => h (EventD.ext' e.1 e.2))
set_option maxHeartbeats 4000000 in
theorem same10_eq (hi lo id par : Int) (svc op : ByteArray) (kd st s0 f0 : Int) (la : Option Addr) (lc : Nat) (aa : Option Addr) (ac : Nat) (ea : Option Addr) (ec : Nat) (la' : Option Addr) (lc' : Nat) (aa' : Option Addr) (ac' : Nat) (ea' : Option Addr) (ec' : Nat)
    (X X' : List Int) (A A' : List AttrD) (E E' : List EventD) (n m l : Nat) (hn : X.length = n) (hn' : X'.length = n) (hm : A.length = m) (hm' : A'.length = m) (hl : E.length = l) (hl' : E'.length = l)
    (sl : n ≤ 140737488355328) (sa : m ≤ 140737488355328) (se : l ≤ 140737488355328) (w : World)
    (hL : HoldsV w la n (intsV .u64 X)) (hL' : HoldsV w la' n (intsV .u64 X')) (hA : AttrsAt w aa m A) (hA' : AttrsAt w aa' m A') (hE : EventsAt w ea l E) (hE' : EventsAt w ea' l E') (R : Bool) (hR : R = true ↔ (X = X' ∧ A = A' ∧ E = E')) :
    Calls Tryz.prog 9 #[.agg #[.int .u64 hi, .int .u64 lo, .int .u64 id, .int .u64 par, .slice la n lc, .string svc, .string op, .int .i64 kd, .int .i64 st, .int .i64 s0, .int .i64 f0, .slice aa m ac, .slice ea l ec], .agg #[.int .u64 hi, .int .u64 lo, .int .u64 id, .int .u64 par, .slice la' n lc', .string svc, .string op, .int .i64 kd, .int .i64 st, .int .i64 s0, .int .i64 f0, .slice aa' m ac', .slice ea' l ec']] w fun e w' => e = .returned (.bool R) ∧ Below w.heap.size w w' := by
  have B2 : Below w.heap.size w ((w.alloc (.cells #[.int .u64 hi, .int .u64 lo, .int .u64 id, .int .u64 par, .slice la n lc, .string svc, .string op, .int .i64 kd, .int .i64 st, .int .i64 s0, .int .i64 f0, .slice aa m ac, .slice ea l ec] 42)).alloc (.cells #[.int .u64 hi, .int .u64 lo, .int .u64 id, .int .u64 par, .slice la' n lc', .string svc, .string op, .int .i64 kd, .int .i64 st, .int .i64 s0, .int .i64 f0, .slice aa' m ac', .slice ea' l ec'] 42)) := ((Below.refl _ _).alloc (Nat.le_refl _) _).alloc (by simp) _
  have HR : Hid (R = true ↔ (X = X' ∧ A = A' ∧ E = E')) := hR
  have HX : Hid (X.length = n ∧ X'.length = n) := ⟨hn, hn'⟩
  have HA : Hid (A.length = m ∧ A'.length = m) := ⟨hm, hm'⟩
  have HE : Hid (E.length = l ∧ E'.length = l) := ⟨hl, hl'⟩
  have gT := guard_trace
  have gA := guard_attr
  have gE := guard_event
  have NT2 : ∀ W, (binOp .neq 34 (.agg #[.int .u64 hi, .int .u64 lo]) (.agg #[.int .u64 hi, .int .u64 lo])).run Tryz.prog W = .ok (.bool false) W := fun W => by rw [run_neq_of (eqI_trace 9998 hi lo hi lo W), decide_eq_true ⟨rfl, rfl⟩]; rfl
  have HhL : Hid (HoldsV w la n (intsV .u64 X) ∧ HoldsV w la' n (intsV .u64 X')) := ⟨hL, hL'⟩
  have HhA : Hid (AttrsAt w aa m A ∧ AttrsAt w aa' m A') := ⟨hA, hA'⟩
  have HhE : Hid (EventsAt w ea l E ∧ EventsAt w ea' l E') := ⟨hE, hE'⟩
  clear hR hn hn' hm hm' hl hl' hL hL' hA hA' hE hE'
  go_enter Tryz.func9, Tryz.ntmps9
  go_wp2
  go_loopw [5] (fun a wr => ∃ (k c : Nat), a = .int .i64 k ∧ k ≤ n ∧ (∀ i, i < k → X[i]? = X'[i]?) ∧ wr = ((w.alloc (.cells #[.int .u64 hi, .int .u64 lo, .int .u64 id, .int .u64 par, .slice la n lc, .string svc, .string op, .int .i64 kd, .int .i64 st, .int .i64 s0, .int .i64 f0, .slice aa m ac, .slice ea l ec] 42)).alloc (.cells #[.int .u64 hi, .int .u64 lo, .int .u64 id, .int .u64 par, .slice la' n lc', .string svc, .string op, .int .i64 kd, .int .i64 st, .int .i64 s0, .int .i64 f0, .slice aa' m ac', .slice ea' l ec'] 42)).drewN c) (fun a _ => n - (intOf a).toNat)
  case atStart => exact ⟨0, 0, rfl, by omega, fun i hi => by omega, rfl⟩
  case round =>
    obtain ⟨k, c, rfl, hk, hp, rfl⟩ := hrel
    have HP : Hid (∀ i, i < k → X[i]? = X'[i]?) := hp
    clear hp
    by_cases hlt : k < n
    · have k1 : k < X.length := by rw [HX.out.1]; exact hlt
      have k2 : k < X'.length := by rw [HX.out.2]; exact hlt
      obtain ⟨b1, o1, rfl, hc1⟩ := HhL.out.1.plain (intsV_get (k := .u64) k1)
      obtain ⟨b2, o2, rfl, hc2⟩ := HhL.out.2.plain (intsV_get (k := .u64) k2)
      have hcx := hc1 k _ (intsV_get (k := .u64) k1)
      have hcy := hc2 k _ (intsV_get (k := .u64) k2)
      obtain ⟨x, hx⟩ : ∃ x, X[k] = x := ⟨_, rfl⟩
      obtain ⟨y, hy⟩ : ∃ y, X'[k] = y := ⟨_, rfl⟩
      rw [hx] at hcx
      rw [hy] at hcy
      have l1 := World.block_lt_of_cell? w _ hcx
      have l2 := World.block_lt_of_cell? w _ hcy
      have HK : Hid (X[k]? = some x ∧ X'[k]? = some y) := ⟨by rw [List.getElem?_eq_getElem k1, hx], by rw [List.getElem?_eq_getElem k2, hy]⟩
      have i1 : (k : Int) < (n : Int) := by omega
      clear k1 k2 hc1 hc2 hx hy HhL HhA HhE
      by_cases hxy : x = y
      · subst hxy

        go_wp2
        go_quiet (fail)
        go_wp2
        go_roundw
        case rel => exact ⟨k + 1, _, by go_num, by omega, fun i hi => (by
          by_cases e : i = k
          · subst e; rw [HK.out.1, HK.out.2]
          · exact HP.out i (by omega)), rfl⟩
        case measure => simp [intOf]; omega
      · have FIN : Hid (R = false) := by
          show R = false
          cases hRR : R with
          | false => rfl
          | true =>
            have e := HR.out.1 hRR
            have h1 := HK.out.1
            rw [e.1, HK.out.2] at h1
            injection h1 with h1
            exact absurd h1.symm hxy
        have hne : (x == y) = false := by simpa using hxy
        have hne2 : (x != y) = true := by simpa using hxy
        clear hxy
        go_wp2
        go_quiet (fail)
        go_wp2
        go_ret
        exact ⟨ret_bool FIN.out.symm, by first | exact below_drewN B2 _ | exact below_drewN (below_drewN B2 _) _⟩
    · have EX : Hid (X = X') := list10_eq_of HX.out.1 HX.out.2 (fun i hi => HP.out i (by omega))
      have inn : ¬ (k : Int) < (n : Int) := by omega
      clear hlt HP
      go_wp2
      go_loopw [6] (fun a wr => ∃ (k c : Nat), a = .int .i64 k ∧ k ≤ m ∧ (∀ i, i < k → A[i]? = A'[i]?) ∧ wr = ((w.alloc (.cells #[.int .u64 hi, .int .u64 lo, .int .u64 id, .int .u64 par, .slice la n lc, .string svc, .string op, .int .i64 kd, .int .i64 st, .int .i64 s0, .int .i64 f0, .slice aa m ac, .slice ea l ec] 42)).alloc (.cells #[.int .u64 hi, .int .u64 lo, .int .u64 id, .int .u64 par, .slice la' n lc', .string svc, .string op, .int .i64 kd, .int .i64 st, .int .i64 s0, .int .i64 f0, .slice aa' m ac', .slice ea' l ec'] 42)).drewN c) (fun a _ => m - (intOf a).toNat)
      case atStart => exact ⟨0, _, rfl, by omega, fun i hi => by omega, rfl⟩
      case round =>
        obtain ⟨k, c, rfl, hk, hp, rfl⟩ := hrel
        have HP : Hid (∀ i, i < k → A[i]? = A'[i]?) := hp
        clear hp
        by_cases hlt : k < m
        · have k1 : k < A.length := by rw [HA.out.1]; exact hlt
          have k2 : k < A'.length := by rw [HA.out.2]; exact hlt
          obtain ⟨b1, o1, rfl, hc1⟩ := HhA.out.1.lies (by omega)
          obtain ⟨b2, o2, rfl, hc2⟩ := HhA.out.2.lies (by omega)
          have ck := hc1 k k1
          have dk := hc2 k k2
          obtain ⟨x, hx⟩ : ∃ x, A[k] = x := ⟨_, rfl⟩
          obtain ⟨y, hy⟩ : ∃ y, A'[k] = y := ⟨_, rfl⟩
          rw [hx] at ck
          rw [hy] at dk
          obtain ⟨c0, c1, c2, c3⟩ := ck
          obtain ⟨d0, d1, d2, d3⟩ := dk
          have l1 := World.block_lt_of_cell? w _ c0
          have l2 := World.block_lt_of_cell? w _ d0
          have HK : Hid (A[k]? = some x ∧ A'[k]? = some y) := ⟨by rw [List.getElem?_eq_getElem k1, hx], by rw [List.getElem?_eq_getElem k2, hy]⟩
          have i1 : (k : Int) < (m : Int) := by omega
          clear k1 k2 hc1 hc2 hx hy HhL HhA HhE
          by_cases hxy : x = y
          · subst hxy
            have NQ : ∀ W, (binOp .neq 82 (.agg #[.string x.key, .int .i64 x.kind, .string x.text, .int .i64 x.num]) (.agg #[.string x.key, .int .i64 x.kind, .string x.text, .int .i64 x.num])).run Tryz.prog W = .ok (.bool false) W := fun W => by rw [run_neq_of (eqI_attr 9997 x x W), decide_eq_true ⟨rfl, rfl, rfl, rfl⟩]; rfl
            go_wp2
            go_quiet (fail)
            go_wp2
            go_roundw
            case rel => exact ⟨k + 1, _, by go_num, by omega, fun i hi => (by
              by_cases e : i = k
              · subst e; rw [HK.out.1, HK.out.2]
              · exact HP.out i (by omega)), rfl⟩
            case measure => simp [intOf]; omega
          · have FIN : Hid (R = false) := by
              show R = false
              cases hRR : R with
              | false => rfl
              | true =>
                have e := HR.out.1 hRR
                have h1 := HK.out.1
                rw [e.2.1, HK.out.2] at h1
                injection h1 with h1
                exact absurd h1.symm hxy
            have NQ : ∀ W, (binOp .neq 82 (.agg #[.string x.key, .int .i64 x.kind, .string x.text, .int .i64 x.num]) (.agg #[.string y.key, .int .i64 y.kind, .string y.text, .int .i64 y.num])).run Tryz.prog W = .ok (.bool true) W := fun W => by rw [run_neq_of (eqI_attr 9997 x y W), attr_ne hxy]; rfl
            clear hxy
            go_wp2
            go_quiet (fail)
            go_wp2
            go_ret
            exact ⟨ret_bool FIN.out.symm, by first | exact below_drewN B2 _ | exact below_drewN (below_drewN B2 _) _⟩
        · have EA : Hid (A = A') := list10_eq_of HA.out.1 HA.out.2 (fun i hi => HP.out i (by omega))
          have imm : ¬ (k : Int) < (m : Int) := by omega
          clear hlt HP
          go_wp2
          go_loopw [7] (fun a wr => ∃ (k c : Nat), a = .int .i64 k ∧ k ≤ l ∧ (∀ i, i < k → E[i]? = E'[i]?) ∧ wr = ((w.alloc (.cells #[.int .u64 hi, .int .u64 lo, .int .u64 id, .int .u64 par, .slice la n lc, .string svc, .string op, .int .i64 kd, .int .i64 st, .int .i64 s0, .int .i64 f0, .slice aa m ac, .slice ea l ec] 42)).alloc (.cells #[.int .u64 hi, .int .u64 lo, .int .u64 id, .int .u64 par, .slice la' n lc', .string svc, .string op, .int .i64 kd, .int .i64 st, .int .i64 s0, .int .i64 f0, .slice aa' m ac', .slice ea' l ec'] 42)).drewN c) (fun a _ => l - (intOf a).toNat)
          case atStart => exact ⟨0, _, rfl, by omega, fun i hi => by omega, rfl⟩
          case round =>
            obtain ⟨k, c, rfl, hk, hp, rfl⟩ := hrel
            have HP : Hid (∀ i, i < k → E[i]? = E'[i]?) := hp
            clear hp
            by_cases hlt : k < l
            · have k1 : k < E.length := by rw [HE.out.1]; exact hlt
              have k2 : k < E'.length := by rw [HE.out.2]; exact hlt
              obtain ⟨b1, o1, rfl, hc1⟩ := HhE.out.1.lies (by omega)
              obtain ⟨b2, o2, rfl, hc2⟩ := HhE.out.2.lies (by omega)
              have ck := hc1 k k1
              have dk := hc2 k k2
              obtain ⟨x, hx⟩ : ∃ x, E[k] = x := ⟨_, rfl⟩
              obtain ⟨y, hy⟩ : ∃ y, E'[k] = y := ⟨_, rfl⟩
              rw [hx] at ck
              rw [hy] at dk
              obtain ⟨c0, c1⟩ := ck
              obtain ⟨d0, d1⟩ := dk
              have l1 := World.block_lt_of_cell? w _ c0
              have l2 := World.block_lt_of_cell? w _ d0
              have HK : Hid (E[k]? = some x ∧ E'[k]? = some y) := ⟨by rw [List.getElem?_eq_getElem k1, hx], by rw [List.getElem?_eq_getElem k2, hy]⟩
              have i1 : (k : Int) < (l : Int) := by omega
              clear k1 k2 hc1 hc2 hx hy HhL HhA HhE
              by_cases hxy : x = y
              · subst hxy
                have NQ : ∀ W, (binOp .neq 84 (.agg #[.int .i64 x.moment, .string x.name]) (.agg #[.int .i64 x.moment, .string x.name])).run Tryz.prog W = .ok (.bool false) W := fun W => by rw [run_neq_of (eqI_event 9998 x.moment x.moment x.name x.name W), decide_eq_true ⟨rfl, rfl⟩]; rfl
                go_wp2
                go_quiet (fail)
                go_wp2
                go_roundw
                case rel => exact ⟨k + 1, _, by go_num, by omega, fun i hi => (by
                  by_cases e : i = k
                  · subst e; rw [HK.out.1, HK.out.2]
                  · exact HP.out i (by omega)), rfl⟩
                case measure => simp [intOf]; omega
              · have FIN : Hid (R = false) := by
                  show R = false
                  cases hRR : R with
                  | false => rfl
                  | true =>
                    have e := HR.out.1 hRR
                    have h1 := HK.out.1
                    rw [e.2.2, HK.out.2] at h1
                    injection h1 with h1
                    exact absurd h1.symm hxy
                have NQ : ∀ W, (binOp .neq 84 (.agg #[.int .i64 x.moment, .string x.name]) (.agg #[.int .i64 y.moment, .string y.name])).run Tryz.prog W = .ok (.bool true) W := fun W => by rw [run_neq_of (eqI_event 9998 x.moment y.moment x.name y.name W), event_ne hxy]; rfl
                clear hxy
                go_wp2
                go_quiet (fail)
                go_wp2
                go_ret
                exact ⟨ret_bool FIN.out.symm, by first | exact below_drewN B2 _ | exact below_drewN (below_drewN B2 _) _⟩
            · have EE : Hid (E = E') := list10_eq_of HE.out.1 HE.out.2 (fun i hi => HP.out i (by omega))
              have ill : ¬ (k : Int) < (l : Int) := by omega
              clear hlt HP
              go_wp2
              go_ret
              have FIN : R = true := HR.out.2 ⟨EX.out, EA.out, EE.out⟩
              exact ⟨ret_bool FIN.symm, below_drewN B2 _⟩
theorem same10_self (a : Sp) (p q : Pl) (w : World) (ha : SpAt w a p) (hb : SpAt w a q) :
    Calls Tryz.prog 9 #[spV a p, spV a q] w fun e w' => e = .returned (.bool true) ∧ Below w.heap.size w w' := by
  obtain ⟨hL, hA, hE, sl, sa, se⟩ := ha
  obtain ⟨hL', hA', hE', sl', sa', se'⟩ := hb
  exact same10_eq a.hi a.lo a.id a.par a.svc a.op a.kind a.status a.start a.fin p.la p.lc p.aa p.ac p.ea p.ec q.la q.lc q.aa q.ac q.ea q.ec a.links a.links a.attrs a.attrs a.events a.events _ _ _ rfl rfl rfl rfl rfl rfl sl sa se w hL hL' hA hA' hE hE' true ⟨fun _ => ⟨rfl, rfl, rfl⟩, fun _ => rfl⟩
end Go.Proofs.YtipkolmkpfpjjaaGreatDoor

namespace Go.Proofs.YtipkolmkpfpjjaaGreatDoor
open Go Go.RowKit
set_option maxRecDepth 100000

theorem infoQ : (Tryz.prog.info? 42).map (fun i => (i.zero, i.size, i.bytes)) = some (some (.agg zSpL.toArray), 13, 168) := by kernel_rfl
abbrev Sq := Sp × Pl
def sqL (x : Sq) : List Value := (spC x.1 x.2).toList
theorem sqL_len (x : Sq) : (sqL x).length = 13 := rfl
theorem sqL_one (x : Sq) : ∀ v ∈ sqL x, v.oneCell' = true := by
  intro v hv
  unfold sqL spC at hv
  simp only [List.mem_cons, List.not_mem_nil, or_false] at hv
  rcases hv with rfl | rfl | rfl | rfl | rfl | rfl | rfl | rfl | rfl | rfl | rfl | rfl | rfl
  all_goals rfl
theorem sqF_len (L : List Sq) : (L.flatMap sqL).length = L.length * 13 := by
  induction L with
  | nil => rfl
  | cons x L ih => rw [List.flatMap_cons, List.length_append, ih, sqL_len, List.length_cons]; omega
theorem sqF_one (L : List Sq) : ∀ v ∈ L.flatMap sqL, v.oneCell' = true := fun v hv => by
  obtain ⟨x, _, hx⟩ := List.mem_flatMap.mp hv
  exact sqL_one x v hx
theorem sqF_get (L : List Sq) : ∀ (i : Nat) (hi : i < L.length) (j : Nat), j < 13 → (L.flatMap sqL)[i * 13 + j]? = (sqL L[i])[j]? := by
  induction L with
  | nil => intro i hi; simp at hi
  | cons x L ih =>
    intro i hi j hj
    rw [List.flatMap_cons]
    cases i with
    | zero => rw [Nat.zero_mul, Nat.zero_add, List.getElem?_append_left (by rw [sqL_len]; exact hj)]; rfl
    | succ i =>
      rw [List.getElem?_append_right (by rw [sqL_len]; omega), sqL_len, show (i + 1) * 13 + j - 13 = i * 13 + j by omega]
      exact ih i (by simpa using hi) j hj
/-- A row of spans, in a block of its own, maybe with room behind it. -/
def RowQ (w : World) (g : Nat) (L : List Sq) : Prop := ∃ rest, Blk w g (L.flatMap sqL ++ rest).toArray 42
theorem RowQ.upd {S : Nat → Prop} {w w' : World} {g : Nat} {L : List Sq} (h : RowQ w g L) (hu : Upd S w w') (hS : ¬ S g) : RowQ w' g L := by
  obtain ⟨rest, hB⟩ := h
  exact ⟨rest, hB.upd hu hS⟩
theorem RowQ.lt {w : World} {g : Nat} {L : List Sq} (h : RowQ w g L) : g < w.heap.size := by
  obtain ⟨rest, hB⟩ := h
  exact hB.lt
theorem RowQ.cell {w : World} {g : Nat} {L : List Sq} (h : RowQ w g L) (i : Nat) (hi : i < L.length) (j : Nat) {u : Value} (hu : (spC L[i].1 L[i].2)[j]? = some u) : w.cell? ⟨g, i * 13 + j, none⟩ = some u := by
  obtain ⟨rest, hB⟩ := h
  have hj : j < 13 := (Array.getElem?_eq_some_iff.mp hu).1
  refine hB.cell _ ?_
  rw [List.getElem?_toArray, List.getElem?_append_left (by rw [sqF_len]; omega), sqF_get L i hi j hj]
  unfold sqL
  rw [Array.getElem?_toList]
  exact hu
theorem sq_put (L : List Sq) (rest : List Value) (i : Nat) (hi : i < L.length) (y : Sq) : putL (L.flatMap sqL ++ rest) (i * 13) (sqL y) = (L.set i y).flatMap sqL ++ rest := by
  have hs : L = L.take i ++ L[i] :: L.drop (i + 1) := by simp
  have hy : L.set i y = L.take i ++ y :: L.drop (i + 1) := List.set_eq_take_append_cons_drop.trans (by simp [hi])
  have hf : L.flatMap sqL ++ rest = (L.take i).flatMap sqL ++ (sqL L[i] ++ ((L.drop (i + 1)).flatMap sqL ++ rest)) := by
    conv => lhs; rw [hs]
    rw [List.flatMap_append, List.flatMap_cons, List.append_assoc, List.append_assoc]
  have hlen : ((L.take i).flatMap sqL).length = i * 13 := by rw [sqF_len]; simp; omega
  rw [putL_eq _ _ _ (by rw [List.length_append, sqF_len, sqL_len]; omega), hy, List.flatMap_append, List.flatMap_cons, hf]
  rw [List.take_append_of_le_length (by omega), List.take_of_length_le (by omega), sqL_len]
  rw [show i * 13 + 13 = ((L.take i).flatMap sqL).length + (sqL L[i]).length by rw [hlen, sqL_len], List.drop_append, List.drop_append]
  simp
/-- A span is written into a row. -/
theorem wpList_stQ {ops : Array Oper} {rest : List Oper} {op : Oper} {a : Act} {w : World} {Q : Exit → Act → World → Prop} (hgd : op.guard = none) (x y : Operand) (ho : op.op = .store 42 x y) (g i : Nat) (L : List Sq) (s : Sq) (hB : RowQ w g L) (hi : i < L.length) (hx : a.eval x = .pointer (some ⟨g, i * 13, none⟩)) (hy : a.eval y = .agg (spC s.1 s.2))
    (hK : ∀ w', RowQ w' g (L.set i s) → Upd (fun k => k = g) w w' → wpList Tryz.prog ops Q rest (a.put op.dst undef) w') : wpList Tryz.prog ops Q (op :: rest) a w := by
  obtain ⟨tl, hB⟩ := hB
  refine wpList_store_mid hgd 42 x y ho g (i * 13) (spC s.1 s.2) hx hy (Blk.there hB (i * 13) 13 (by rw [List.length_append, sqF_len]; omega)) (by kernel_rfl) (by have := all_oneCell_toArray (sqL_one s); simpa [sqL] using this) ?_
  refine hK _ ⟨tl, ?_⟩ (setCells_upd _ _ _ _)
  have := setCells_blk (sqL s) (i * 13) (L.flatMap sqL ++ tl) w hB
  rw [sq_put L tl i hi s] at this
  exact this
/-- A span is read out of a row, at a step of a region that draws its order. -/
theorem step_ldQ {ops : Array Oper} {o : Oper} {a : Act} {w : World} {K : Act → World → Prop} {Q : Exit → Act → World → Prop} {E : Prop} (hgd : o.guard = none) (x : Operand) (ho : o.op = .load 42 x) (g i : Nat) (L : List Sq) (hB : RowQ w g L) (hi : i < L.length) (hx : a.eval x = .pointer (some ⟨g, i * 13, none⟩))
    (h : K (a.put o.dst (.agg (sqL L[i]).toArray)) w) : if Region.wanted o (yielded ops a.tmps) = true then Oper.wp Tryz.prog o a w K Q else E := by
  have hw : Region.wanted o (yielded ops a.tmps) = true := by simp [Region.wanted, hgd]
  rw [if_pos hw]
  refine wp_load_mid 42 x ho g (i * 13) hx (sqL L[i]) _ (fun j v hv => ?_) Tryz.underlying42 rfl (by kernel_rfl) h
  refine hB.cell i hi j ?_
  unfold sqL at hv
  rw [Array.getElem?_toList] at hv
  exact hv
theorem step_stQ {ops : Array Oper} {o : Oper} {a : Act} {w : World} {K : Act → World → Prop} {Q : Exit → Act → World → Prop} {E : Prop} (hgd : o.guard = none) (x y : Operand) (ho : o.op = .store 42 x y) (g i : Nat) (L : List Sq) (s : Sq) (hB : RowQ w g L) (hi : i < L.length) (hx : a.eval x = .pointer (some ⟨g, i * 13, none⟩)) (hy : a.eval y = .agg (sqL s).toArray)
    (h : ∀ w', RowQ w' g (L.set i s) → Upd (fun k => k = g) w w' → K (a.put o.dst undef) w') : if Region.wanted o (yielded ops a.tmps) = true then Oper.wp Tryz.prog o a w K Q else E := by
  have hw : Region.wanted o (yielded ops a.tmps) = true := by simp [Region.wanted, hgd]
  rw [if_pos hw]
  obtain ⟨tl, hB⟩ := hB
  refine wp_store_mid 42 x y ho g (i * 13) (sqL s).toArray hx hy (Blk.there hB (i * 13) 13 (by rw [List.length_append, sqF_len]; omega)) (by kernel_rfl) (all_oneCell_toArray (sqL_one s)) ?_
  refine h _ ⟨tl, ?_⟩ (setCells_upd _ _ _ _)
  have := setCells_blk (sqL s) (i * 13) (L.flatMap sqL ++ tl) w hB
  rw [sq_put L tl i hi s] at this
  exact this
/-- A list of spans, with where each one's lists lie. -/
def zipQ : List Sp → (Nat → Pl) → List Sq
  | [], _ => []
  | a :: X, P => (a, P 0) :: zipQ X (fun i => P (i + 1))
theorem zipQ_len : ∀ (X : List Sp) (P : Nat → Pl), (zipQ X P).length = X.length
  | [], _ => rfl
  | a :: X, P => by rw [zipQ, List.length_cons, List.length_cons, zipQ_len X]
theorem zipQ_get : ∀ (X : List Sp) (P : Nat → Pl) (i : Nat) (h : i < (zipQ X P).length) (h' : i < X.length), (zipQ X P)[i] = (X[i], P i)
  | [], _, i, _, h' => by simp at h'
  | a :: X, P, 0, _, _ => rfl
  | a :: X, P, i + 1, h, h' => by
    have := zipQ_get X (fun i => P (i + 1)) i (by simpa [zipQ] using h) (by simpa using h')
    simpa [zipQ] using this
theorem zipQ_fst : ∀ (X : List Sp) (P : Nat → Pl), (zipQ X P).map (·.1) = X
  | [], _ => rfl
  | a :: X, P => by rw [zipQ, List.map_cons, zipQ_fst X]
theorem SpsAt.src {w : World} {ad : Option Addr} {n : Nat} {X : List Sp} {P : Nat → Pl} (h : SpsAt w ad n X P) (c : Nat) : Src Tryz.prog 13 22 (.slice ad n c) n ((zipQ X P).flatMap sqL) w := by
  by_cases hn : 0 < n
  · obtain ⟨b, off, rfl, hc⟩ := h.lies hn
    refine Src.ofSlice _ Tryz.underlying22 _ n c _ (by rw [sqF_len, zipQ_len, h.len]) ?_ (sqF_one _)
    intro j u hj
    have hjl : j < X.length * 13 := by
      have := (List.getElem?_eq_some_iff.mp hj).1
      rw [sqF_len, zipQ_len] at this
      exact this
    rw [Addr.add_lit]
    have e : j = j / 13 * 13 + j % 13 := by omega
    have h1 := sqF_get (zipQ X P) (j / 13) (by rw [zipQ_len]; omega) (j % 13) (by omega)
    rw [← e, hj, zipQ_get X P (j / 13) (by rw [zipQ_len]; omega) (by omega)] at h1
    have h2 := hc (j / 13) (by omega) (j % 13) u (by rw [← Array.getElem?_toList]; exact h1.symm)
    rw [Nat.add_assoc, ← e] at h2
    exact h2
  · obtain rfl : n = 0 := by omega
    obtain rfl : X = [] := List.eq_nil_of_length_eq_zero h.len
    cases ad with
    | none => exact Src.ofNil _ Tryz.underlying22 c
    | some a => exact Src.ofSlice _ Tryz.underlying22 a 0 c [] rfl (fun j u h => by simp at h) (fun u h => by cases h)
/-- A list's copy. -/
theorem wpList_appQ {ops : Array Oper} {rest : List Oper} {o : Oper} {a : Act} {Q : Exit → Act → World → Prop} (w : World) (hgd : o.guard = none) (s x : Operand)
    (ho : o.op = .call { callee := .builtin .append, args := #[s, x], argTypes := #[22, 22] })
    (ad : Option Addr) (n c : Nat) (X : List Sp) (P : Nat → Pl) (hs : a.eval s = .slice (some ⟨w.heap.size, 0, none⟩) 0 0) (hx : a.eval x = .slice ad n c) (hA : SpsAt w ad n X P) (hz : n * 168 ≤ 140737488351232)
    (h : ∀ ao cap w', n ≤ cap → cap ≤ maxLen → (0 < n → ∃ g, ao = some ⟨g, 0, none⟩ ∧ w.heap.size ≤ g ∧ RowQ w' g (zipQ X P)) → Below w.heap.size w w' → wpList Tryz.prog ops Q rest (a.put o.dst (.slice ao n cap)) w') : wpList Tryz.prog ops Q (o :: rest) a (w.alloc (.cells #[] 42)) := by
  obtain ⟨i0, hi0, hz0, hz1, hz2⟩ := info_parts infoQ
  have hb : Below w.heap.size w (w.alloc (.cells #[] 42)) := (Below.refl _ _).alloc (Nat.le_refl _) _
  have OW : (w.alloc (.cells #[] 42)).ownsRow w.heap.size 42 13 (.slice (some ⟨w.heap.size, 0, none⟩) 0 0) 0 [] := ⟨rfl, Or.inr ⟨w.heap.size, 0, #[], rfl, Nat.le_refl _, heap_alloc_new w _, Nat.le_refl _, Nat.zero_le _, rfl, rfl⟩⟩
  refine wpList_appW _ hgd s x 22 22 ho w.heap.size 42 i0 _ 13 168 Tryz.underlying22 hi0 hz0 hz1 hz2 rfl _ 0 [] hs OW _ n _ hx ((hA.below hb).src c) (by unfold maxLen; omega) (by omega) (by simp) ?_
  intro v1 w1 o1 g1 m1
  have hB : Below w.heap.size w w1 := (((Upd.refl (fun k => w.heap.size ≤ k) w).alloc (.cells #[] 42)).grown g1 (fun k hk e => by
      have : (Value.slice (some ⟨w.heap.size, 0, none⟩) 0 0).ownBlock = some k := e
      simp [Value.ownBlock] at this
      show w.heap.size ≤ k
      omega)).below (Nat.le_refl _) (fun k hk h => by omega)
  rw [List.nil_append, Nat.zero_add] at o1
  rcases o1.2 with ⟨rfl, h0⟩ | ⟨g, cap, cur, rfl, hbg, hg, hnc, hcm, hcs, ht⟩
  · subst h0
    exact h none 0 w1 (Nat.le_refl _) (Nat.zero_le _) (fun h => by omega) hB
  · refine h (some ⟨g, 0, none⟩) cap w1 hnc hcm (fun _ => ⟨g, rfl, hbg, cur.toList.drop (n * 13), ?_⟩) hB
    show w1.heap[g]? = _
    rw [hg, ← ht, List.take_append_drop]
end Go.Proofs.YtipkolmkpfpjjaaGreatDoor

namespace Go.Proofs.YtipkolmkpfpjjaaGreatDoor
open Go Go.RowKit
set_option maxRecDepth 100000

/-- Two may come next. -/
theorem twoH {P : Program} {Q : Exit → Act → World → Prop} {md : Region.Mode} {S : World → Prop} {l : List Oper} {i j : Nat} {oi oj : Oper} {fuel : Nat} {listed : Array Bool} {a : Act} {w : World} (hi : l[i]? = some oi) (hj : l[j]? = some oj)
    (hr : Region.ready md l.toArray listed = [i, j])
    (h : ∀ K : Act → World → Prop, (∀ a' w', S w' ∧ wpAnyH P md l.toArray Q S fuel (listed.setIfInBounds i true) a' w' → K a' w') → if Region.wanted oi (yielded l.toArray a.tmps) = true then Oper.wp P oi a w K Q else K (a.put oi.dst undef) w)
    (h' : ∀ K : Act → World → Prop, (∀ a' w', S w' ∧ wpAnyH P md l.toArray Q S fuel (listed.setIfInBounds j true) a' w' → K a' w') → if Region.wanted oj (yielded l.toArray a.tmps) = true then Oper.wp P oj a w K Q else K (a.put oj.dst undef) w) : wpAnyH P md l.toArray Q S (fuel + 1) listed a w := by
  refine wpAnyH_all hr (by simp) ?_
  intro k hk
  simp at hk
  rcases hk with rfl | rfl
  · have hi' : l.toArray[k]? = some oi := by simpa using hi
    unfold wpOp
    simp only [hi']
    have := h (fun a' w' => S w' ∧ wpAnyH P md l.toArray Q S fuel (listed.setIfInBounds k true) a' w') (fun _ _ h => h)
    split
    · rename_i hw; rw [if_pos hw] at this; exact Or.inl this
    · rename_i hw; rw [if_neg hw] at this; exact this
  · have hj' : l.toArray[k]? = some oj := by simpa using hj
    unfold wpOp
    simp only [hj']
    have := h' (fun a' w' => S w' ∧ wpAnyH P md l.toArray Q S fuel (listed.setIfInBounds k true) a' w') (fun _ _ h => h)
    split
    · rename_i hw; rw [if_pos hw] at this; exact Or.inl this
    · rename_i hw; rw [if_neg hw] at this; exact this
/-- Numbers lie here. -/
structure NumsAt (w : World) (ad : Option Addr) (n : Nat) (l : List Int) : Prop where
  len : l.length = n
  lies : 0 < n → ∃ b off, ad = some ⟨b, off, none⟩ ∧ ∀ i (_ : i < l.length), w.cell? ⟨b, off + i, none⟩ = some (.int .i64 l[i])
  bin : ∀ p ∈ l, -9223372036854775808 ≤ p ∧ p ≤ 9223372036854775807
  size : n * 8 ≤ 140737488351232
theorem NumsAt.below {w w' : World} {ad : Option Addr} {n : Nat} {l : List Int} (h : NumsAt w ad n l) (hb : Below w.heap.size w w') : NumsAt w' ad n l := by
  refine ⟨h.len, fun hp => ?_, h.bin, h.size⟩
  obtain ⟨b, off, ha, hc⟩ := h.lies hp
  exact ⟨b, off, ha, fun i hi => (hb.cell (p := ⟨b, _, none⟩) (World.block_lt_of_cell? w _ (hc i hi))).trans (hc i hi)⟩
def PickQ (n : Nat) (w : World) (e : Ending) (w' : World) : Prop := ∃ k : Nat, k < n ∧ e = .returned (.int .i64 (k : Int)) ∧ w' = w
theorem pick10_any (c : Int) (n : Nat) (h1 : -9223372036854775808 ≤ c) (h2 : c ≤ 9223372036854775807) (hn : 0 < n) (w : World) :
    Calls Tryz.prog 26 #[.int .i64 c, .int .i64 (n : Int)] w (PickQ n w) := by
  have hn1 : (0 : Int) < (n : Int) := by omega
  have hn2 : ((n : Int) == 0) = false := by
    have : ¬ (n : Int) = 0 := by omega
    simpa using this
  by_cases hc : c < 0
  · have e := Int.emod_nonneg (-(c + 1)) (show (n : Int) ≠ 0 by omega)
    have e' := Int.emod_lt_of_pos (-(c + 1)) hn1
    have eq : -((c + 1).tmod (n : Int)) = (-(c + 1)) % (n : Int) := by rw [← Int.neg_tmod, Int.tmod_eq_emod_of_nonneg (by omega)]
    have HE : Hid (PickQ n w (.returned (.int .i64 (-((c + 1).tmod (n : Int))))) w) := ⟨((-(c + 1)) % (n : Int)).toNat, by omega, by rw [eq, Int.toNat_of_nonneg e], rfl⟩
    clear eq
    clear e e'
    generalize (n : Int) = N at *
    go_enter Tryz.func26, Tryz.ntmps26
    go_wp2
    go_ret
    exact HE.out
  · have e := Int.emod_nonneg c (show (n : Int) ≠ 0 by omega)
    have e' := Int.emod_lt_of_pos c hn1
    have HE : Hid (PickQ n w (.returned (.int .i64 (c % (n : Int)))) w) := ⟨(c % (n : Int)).toNat, by omega, by rw [Int.toNat_of_nonneg e], rfl⟩
    clear e e'
    generalize (n : Int) = N at *
    go_enter Tryz.func26, Tryz.ntmps26
    go_wp2
    go_ret
    exact HE.out
theorem set_set_perm {α : Type} : ∀ (L : List α) (j k : Nat) (hj : j < L.length) (hk : k < L.length), L.Perm ((L.set j L[k]).set k L[j]) := by
  intro L j k hj hk
  by_cases hjk : j = k
  · subst hjk
    rw [List.set_getElem_self, List.set_getElem_self]
  · have key : ∀ (a b : Nat) (ha : a < L.length) (hb : b < L.length), a < b → L.Perm ((L.set a L[b]).set b L[a]) := by
      intro a b ha hb hab
      have e1 : L = L.take a ++ L[a] :: ((L.drop (a + 1)).take (b - a - 1) ++ L[b] :: L.drop (b + 1)) := by
        conv => lhs; rw [← List.take_append_drop a L, List.drop_eq_getElem_cons ha]
        congr 2
        conv => lhs; rw [← List.take_append_drop (b - a - 1) (L.drop (a + 1)), List.drop_drop, show a + 1 + (b - a - 1) = b by omega, List.drop_eq_getElem_cons hb]
      have e2 : (L.set a L[b]).set b L[a] = L.take a ++ L[b] :: ((L.drop (a + 1)).take (b - a - 1) ++ L[a] :: L.drop (b + 1)) := by
        have la : (L.take a).length = a := by simp; omega
        have lm : ((L.drop (a + 1)).take (b - a - 1)).length = b - a - 1 := by simp; omega
        obtain ⟨x, hx⟩ : ∃ x, L[a] = x := ⟨_, rfl⟩
        obtain ⟨y, hy⟩ : ∃ y, L[b] = y := ⟨_, rfl⟩
        rw [hx, hy] at e1 ⊢
        generalize L.take a = t1 at *
        generalize (L.drop (a + 1)).take (b - a - 1) = mid at *
        generalize L.drop (b + 1) = t2 at *
        obtain ⟨m, rfl⟩ : ∃ m, b = a + (m + 1) := ⟨b - a - 1, by omega⟩
        have lm' : mid.length = m := by omega
        conv => lhs; rw [e1]
        rw [List.set_append_right _ _ (by omega), la, Nat.sub_self, List.set_cons_zero, List.set_append_right _ _ (by omega), la, Nat.add_sub_cancel_left, List.set_cons_succ, List.set_append_right _ _ (by omega), lm', Nat.sub_self, List.set_cons_zero]
      rw [e2]
      conv => lhs; rw [e1]
      refine List.Perm.append_left _ ?_
      refine (List.Perm.cons _ List.perm_middle).trans ?_
      refine (List.Perm.swap _ _ _).trans ?_
      exact List.Perm.cons _ List.perm_middle.symm
    rcases Nat.lt_or_ge j k with h | h
    · exact key j k hj hk h
    · have := key k j hk hj (by omega)
      rw [List.set_comm _ _ (fun e => hjk e.symm)] at this
      exact this
end Go.Proofs.YtipkolmkpfpjjaaGreatDoor

namespace Go.Proofs.YtipkolmkpfpjjaaGreatDoor
open Go Go.RowKit
set_option maxRecDepth 100000

/-- Where the lists of a row's spans lie. -/
def plQ (L : List Sq) (i : Nat) : Pl := (L.map (·.2)).getD i ⟨none, 0, none, 0, none, 0⟩
/-- Midway in moved. -/
structure MovI (w : World) (X : List Sp) (P : Nat → Pl) (ao : Option Addr) (n : Nat) (wr : World) (L : List Sq) : Prop where
  len : L.length = n
  perm : (zipQ X P).Perm L
  row : 0 < n → ∃ g, ao = some ⟨g, 0, none⟩ ∧ w.heap.size ≤ g ∧ RowQ wr g L
  bel : Below w.heap.size w wr
def MovP (X : List Sp) (n : Nat) (w : World) (e : Ending) (w' : World) : Prop := ∃ ao cap L, e = .returned (.slice ao n cap) ∧ Hid (X.Perm (L.map (·.1)) ∧ SpsAt w' ao n (L.map (·.1)) (plQ L)) ∧ Below w.heap.size w w'
theorem MovI.done {w : World} {X : List Sp} {P : Nat → Pl} {ao ad : Option Addr} {n : Nat} {wr : World} {L : List Sq} (h : MovI w X P ao n wr L) (hX : SpsAt w ad n X P) : X.Perm (L.map (·.1)) ∧ SpsAt wr ao n (L.map (·.1)) (plQ L) := by
  have hp := h.perm.map (·.1)
  rw [zipQ_fst] at hp
  have hpl : ∀ i (hi : i < L.length), plQ L i = L[i].2 := fun i hi => by simp [plQ, List.getD, hi]
  refine ⟨hp, ⟨by rw [List.length_map]; exact h.len, fun hn => ?_, fun i hi => ?_⟩⟩
  · obtain ⟨g, e, _, hr⟩ := h.row hn
    refine ⟨g, 0, e, fun i hi j u hu => ?_⟩
    rw [List.length_map] at hi
    rw [List.getElem_map, hpl i hi] at hu
    rw [Nat.zero_add]
    exact hr.cell i hi j hu
  · rw [List.length_map] at hi
    rw [List.getElem_map, hpl i hi]
    obtain ⟨q, hq, e⟩ := List.mem_iff_getElem.1 (h.perm.mem_iff.2 (List.getElem_mem hi))
    have hq' : q < X.length := by rw [zipQ_len] at hq; exact hq
    rw [zipQ_get X P q hq hq'] at e
    rw [← e]
    exact (hX.each q hq').below h.bel
set_option maxHeartbeats 8000000 in
theorem moved_any (ad oa : Option Addr) (n c no co : Nat) (X : List Sp) (P : Nat → Pl) (r : List Int) (w : World) (hX : SpsAt w ad n X P) (hO : NumsAt w oa no r) (hz : n * 168 ≤ 140737488351232) :
    Calls Tryz.prog 6 #[.slice ad n c, .slice oa no co] w (MovP X n w) := by
  have HX : Hid (SpsAt w ad n X P) := hX
  have HO : Hid (NumsAt w oa no r) := hO
  have HLX : Hid (X.length = n) := hX.len
  have hno := hO.size
  clear hX hO
  have HE : Hid (∀ ao cap L wr, MovI w X P ao n wr L → MovP X n w (.returned (.slice ao n cap)) wr) := fun ao cap L wr h => ⟨ao, cap, L, rfl, h.done HX.out, h.bel⟩
  generalize MovP X n w = RR at *
  go_enter Tryz.func6, Tryz.ntmps6
  go_wp2_with (at_builtin; refine wpList_appQ w rfl _ _ rfl ad n c X P rfl rfl HX.out hz ?_; intro ao cap w1 hnc hcm hrow hb1; have HM1 : Hid (MovI w X P ao n w1 (zipQ X P)) := ⟨(zipQ_len X P).trans HLX.out, List.Perm.refl _, hrow, hb1⟩; clear hrow hb1)
  unfold maxLen at hcm
  go_loopw [6] (fun a wr => ∃ (i : Nat) (L : List Sq), a = .int .i64 i ∧ i ≤ no ∧ Hid (MovI w X P ao n wr L)) (fun a _ => no - (intOf a).toNat)
  case atStart => exact ⟨0, _, rfl, by omega, HM1⟩
  case round =>
    obtain ⟨i, L, rfl, hi, HM⟩ := hrel
    by_cases hlt : i < no
    · have hlt' : (i : Int) < (no : Int) := by omega
      have hld : decide ((i : Int) < (no : Int)) = true := decide_eq_true hlt'
      by_cases hn : 0 < n
      · have hn1 : decide ((0 : Int) < (n : Int)) = true := decide_eq_true (by omega)
        have hn2 : decide (0 < n) = true := decide_eq_true hn
        have hn3 : ((n : Int) == 0) = false := by
          have : ¬ (n : Int) = 0 := by omega
          simpa using this
        obtain ⟨g, rfl, hgl, hrow⟩ := HM.out.row hn
        obtain ⟨j, hj⟩ : ∃ j, j = i % n := ⟨_, rfl⟩
        have hjn : j < n := by rw [hj]; exact Nat.mod_lt _ hn
        have hjt : (i : Int).tmod (n : Int) = (j : Int) := by rw [Int.tmod_eq_emod_of_nonneg (by omega), hj]; rfl
        have hjw : IntKind.i64.wrap ((i : Int).tmod (n : Int)) = (j : Int) := by rw [hjt, IntKind.wrap_i64]; omega
        obtain ⟨ob, oo, had, hc⟩ := (HO.out.below HM.out.bel).lies (by omega)
        subst had
        have hir : i < r.length := by rw [HO.out.len]; exact hlt
        have k0 := hc i hir
        have hbr := HO.out.bin r[i] (List.getElem_mem hir)
        generalize r[i] = x at k0 hbr
        have PK := pick10_any x n hbr.1 hbr.2 hn wr
        unfold PickQ at PK
        have HRW : Hid (RowQ wr g L) := hrow
        have HGL : Hid (w.heap.size ≤ g) := hgl
        clear hc hrow hgl hj hbr
        go_wp2_with (go_at_call 26; (with_reducible refine PK.mono ?_); clear PK; rintro e w5 ⟨k, hkn, rfl, hw5⟩; obtain rfl := hw5.symm; clear hw5)
        have hjL : j < L.length := by rw [HM.out.len]; exact hjn
        have hkL : k < L.length := by rw [HM.out.len]; exact hkn
        have hj1 : (j : Int) < (n : Int) := by omega
        have hk1 : (k : Int) < (n : Int) := by omega
        have HRD : Hid (RowQ wr.drew g L) := by obtain ⟨t, h⟩ := HRW.out; exact ⟨t, h⟩
        have HFIN : Hid (∀ w6 w7, Upd (fun q => q = g) wr.drew w6 → RowQ w7 g ((L.set j L[k]).set k L[j]) → Upd (fun q => q = g) w6 w7 → Hid (MovI w X P (some ⟨g, 0, none⟩) n w7 ((L.set j L[k]).set k L[j]))) := fun w6 w7 u6 r7 u7 => by
          have ub : Upd (fun q => q = g) wr w7 := (((Upd.refl (fun q => q = g) wr).drew).trans u6 (fun _ _ h => h)).trans u7 (fun _ _ h => h)
          refine ⟨by simp [HM.out.len], HM.out.perm.trans (set_set_perm L j k hjL hkL), fun _ => ⟨g, rfl, HGL.out, r7⟩, HM.out.bel.trans (ub.below HM.out.bel.size (fun q hq e => by have := HGL.out; omega))⟩
        go_wp2
        refine wp_region_held (S := fun _ => True) (by kernel_rfl) ?_
        change wpAnyH _ _ _ _ _ _ _ _ (World.drew _)
        refine takeH (i := 0) (v := .slice (some ⟨g, 0, none⟩) n cap) rfl (by kernel_rfl) (by kernel_rfl) (by kernel_rfl) (fun _ _ _ h => h) (Or.inl ⟨by rfl, fun W hW => by go_simp⟩) trivial ?_
        simp only [Act.put, List.setIfInBounds_toArray, List.set_cons_zero, List.set_cons_succ]
        refine takeH (i := 1) (v := .int .i64 (j : Int)) rfl (by kernel_rfl) (by kernel_rfl) (by kernel_rfl) (fun _ _ _ h => h) (Or.inl ⟨by rfl, fun W hW => by go_simp⟩) trivial ?_
        simp only [Act.put, List.setIfInBounds_toArray, List.set_cons_zero, List.set_cons_succ]
        refine takeH (i := 2) (v := .slice (some ⟨g, 0, none⟩) n cap) rfl (by kernel_rfl) (by kernel_rfl) (by kernel_rfl) (fun _ _ _ h => h) (Or.inl ⟨by rfl, fun W hW => by go_simp⟩) trivial ?_
        simp only [Act.put, List.setIfInBounds_toArray, List.set_cons_zero, List.set_cons_succ]
        refine takeH (i := 3) (v := .int .i64 (k : Int)) rfl (by kernel_rfl) (by kernel_rfl) (by kernel_rfl) (fun _ _ _ h => h) (Or.inl ⟨by rfl, fun W hW => by go_simp⟩) trivial ?_
        simp only [Act.put, List.setIfInBounds_toArray, List.set_cons_zero, List.set_cons_succ]
        refine takeH (i := 4) (v := .slice (some ⟨g, 0, none⟩) n cap) rfl (by kernel_rfl) (by kernel_rfl) (by kernel_rfl) (fun _ _ _ h => h) (Or.inl ⟨by rfl, fun W hW => by go_simp⟩) trivial ?_
        simp only [Act.put, List.setIfInBounds_toArray, List.set_cons_zero, List.set_cons_succ]
        refine takeH (i := 5) (v := .int .i64 (k : Int)) rfl (by kernel_rfl) (by kernel_rfl) (by kernel_rfl) (fun _ _ _ h => h) (Or.inl ⟨by rfl, fun W hW => by go_simp⟩) trivial ?_
        simp only [Act.put, List.setIfInBounds_toArray, List.set_cons_zero, List.set_cons_succ]
        refine takeH (i := 6) (v := .pointer (some ⟨g, k * 13, none⟩)) rfl (by kernel_rfl) (by kernel_rfl) (by kernel_rfl) (fun _ _ _ h => h) (Or.inl ⟨by rfl, fun W hW => by go_simp⟩) trivial ?_
        simp only [Act.put, List.setIfInBounds_toArray, List.set_cons_zero, List.set_cons_succ]
        refine takeH (i := 8) (v := .slice (some ⟨g, 0, none⟩) n cap) rfl (by kernel_rfl) (by kernel_rfl) (by kernel_rfl) (fun _ _ _ h => h) (Or.inl ⟨by rfl, fun W hW => by go_simp⟩) trivial ?_
        simp only [Act.put, List.setIfInBounds_toArray, List.set_cons_zero, List.set_cons_succ]
        refine takeH (i := 9) (v := .int .i64 (j : Int)) rfl (by kernel_rfl) (by kernel_rfl) (by kernel_rfl) (fun _ _ _ h => h) (Or.inl ⟨by rfl, fun W hW => by go_simp⟩) trivial ?_
        simp only [Act.put, List.setIfInBounds_toArray, List.set_cons_zero, List.set_cons_succ]
        refine takeH (i := 10) (v := .pointer (some ⟨g, j * 13, none⟩)) rfl (by kernel_rfl) (by kernel_rfl) (by kernel_rfl) (fun _ _ _ h => h) (Or.inl ⟨by rfl, fun W hW => by go_simp⟩) trivial ?_
        simp only [Act.put, List.setIfInBounds_toArray, List.set_cons_zero, List.set_cons_succ]
        refine twoH (i := 7) (j := 11) rfl rfl (by kernel_rfl) (fun K hK => ?_) (fun K hK => ?_)
        · refine step_ldQ (by rfl) _ (by rfl) g k L HRD.out hkL (by rfl) ?_
          refine hK _ _ ⟨trivial, ?_⟩
          clear hK K
          simp only [Act.put, List.setIfInBounds_toArray, List.set_cons_zero, List.set_cons_succ]
          refine onlyH (i := 11) rfl (by kernel_rfl) (fun K hK => ?_)
          refine step_ldQ (by rfl) _ (by rfl) g j L HRD.out hjL (by rfl) ?_
          refine hK _ _ ⟨trivial, ?_⟩
          clear hK K
          simp only [Act.put, List.setIfInBounds_toArray, List.set_cons_zero, List.set_cons_succ]
          refine takeH (i := 12) (v := .pointer (some ⟨g, j * 13, none⟩)) rfl (by kernel_rfl) (by kernel_rfl) (by kernel_rfl) (fun _ _ _ h => h) (Or.inl ⟨by rfl, fun W hW => by go_simp⟩) trivial ?_
          simp only [Act.put, List.setIfInBounds_toArray, List.set_cons_zero, List.set_cons_succ]
          refine onlyH (i := 13) rfl (by kernel_rfl) (fun K hK => ?_)
          refine step_stQ (by rfl) _ _ (by rfl) g j L L[k] HRD.out hjL (by rfl) (by rfl) ?_
          intro w6 r6 u6
          refine hK _ _ ⟨trivial, ?_⟩
          clear hK K
          simp only [Act.put]
          refine takeH (i := 14) (v := .pointer (some ⟨g, k * 13, none⟩)) rfl (by kernel_rfl) (by kernel_rfl) (by kernel_rfl) (fun _ _ _ h => h) (Or.inl ⟨by rfl, fun W hW => by go_simp⟩) trivial ?_
          simp only [Act.put, List.setIfInBounds_toArray, List.set_cons_zero, List.set_cons_succ]
          refine onlyH (i := 15) rfl (by kernel_rfl) (fun K hK => ?_)
          refine step_stQ (by rfl) _ _ (by rfl) g k (L.set j L[k]) L[j] r6 (by rw [List.length_set]; exact hkL) (by rfl) (by rfl) ?_
          intro w7 r7 u7
          refine hK _ _ ⟨trivial, ?_⟩
          clear hK K
          simp only [Act.put]
          refine wpAnyH_done (by kernel_rfl) ?_ _
          have HM7 := HFIN.out w6 w7 u6 r7 u7
          clear r6 u6 r7 u7
          go_wp2
          go_roundw
          case rel => exact ⟨i + 1, _, by go_num, by omega, HM7⟩
          case measure => simp [intOf]; omega
        · refine step_ldQ (by rfl) _ (by rfl) g j L HRD.out hjL (by rfl) ?_
          refine hK _ _ ⟨trivial, ?_⟩
          clear hK K
          simp only [Act.put, List.setIfInBounds_toArray, List.set_cons_zero, List.set_cons_succ]
          refine onlyH (i := 7) rfl (by kernel_rfl) (fun K hK => ?_)
          refine step_ldQ (by rfl) _ (by rfl) g k L HRD.out hkL (by rfl) ?_
          refine hK _ _ ⟨trivial, ?_⟩
          clear hK K
          simp only [Act.put, List.setIfInBounds_toArray, List.set_cons_zero, List.set_cons_succ]
          refine takeH (i := 12) (v := .pointer (some ⟨g, j * 13, none⟩)) rfl (by kernel_rfl) (by kernel_rfl) (by kernel_rfl) (fun _ _ _ h => h) (Or.inl ⟨by rfl, fun W hW => by go_simp⟩) trivial ?_
          simp only [Act.put, List.setIfInBounds_toArray, List.set_cons_zero, List.set_cons_succ]
          refine onlyH (i := 13) rfl (by kernel_rfl) (fun K hK => ?_)
          refine step_stQ (by rfl) _ _ (by rfl) g j L L[k] HRD.out hjL (by rfl) (by rfl) ?_
          intro w6 r6 u6
          refine hK _ _ ⟨trivial, ?_⟩
          clear hK K
          simp only [Act.put]
          refine takeH (i := 14) (v := .pointer (some ⟨g, k * 13, none⟩)) rfl (by kernel_rfl) (by kernel_rfl) (by kernel_rfl) (fun _ _ _ h => h) (Or.inl ⟨by rfl, fun W hW => by go_simp⟩) trivial ?_
          simp only [Act.put, List.setIfInBounds_toArray, List.set_cons_zero, List.set_cons_succ]
          refine onlyH (i := 15) rfl (by kernel_rfl) (fun K hK => ?_)
          refine step_stQ (by rfl) _ _ (by rfl) g k (L.set j L[k]) L[j] r6 (by rw [List.length_set]; exact hkL) (by rfl) (by rfl) ?_
          intro w7 r7 u7
          refine hK _ _ ⟨trivial, ?_⟩
          clear hK K
          simp only [Act.put]
          refine wpAnyH_done (by kernel_rfl) ?_ _
          have HM7 := HFIN.out w6 w7 u6 r7 u7
          clear r6 u6 r7 u7
          go_wp2
          go_roundw
          case rel => exact ⟨i + 1, _, by go_num, by omega, HM7⟩
          case measure => simp [intOf]; omega
      · have hn1 : decide ((0 : Int) < (n : Int)) = false := decide_eq_false (by omega)
        have hn2 : decide (0 < n) = false := decide_eq_false hn
        have hn3 : ¬ 0 < n := hn
        go_wp2
        exact HE.out _ _ L _ HM.out
    · have hlt' : ¬ (i : Int) < (no : Int) := by omega
      have hld : decide ((i : Int) < (no : Int)) = false := decide_eq_false hlt'
      go_wp2
      exact HE.out _ _ L _ HM.out
end Go.Proofs.YtipkolmkpfpjjaaGreatDoor

namespace Go.Proofs.YtipkolmkpfpjjaaGreatDoor
open Go Go.RowKit
set_option maxRecDepth 100000

/-- A span's lists lie in blocks that the call laid. -/
def SpKeep (W w' : World) (a : Sp) (p : Pl) : Prop := ∀ w5 : World, (∀ k, W.heap.size ≤ k → k < w'.heap.size → w5.heap[k]? = w'.heap[k]?) → SpAt w5 a p
/-- What may be asked of a forest: its nodes, in their order, each one's span and children, the IDs, the roots. -/
structure OneF (n : Nat) (w5 : World) (f : Nat) (A : List Nat) (nd : Nat → Nod) (sp : Nat → Sp) (kd : Nat → List Int) (ids rts : List Int) : Prop where
  nodes : ∀ W, Below w5.heap.size w5 W → Calls Tryz.prog 7 #[.pointer (some ⟨f, 0, none⟩)] W fun e w' => ∃ ad cap, e = .returned (.slice ad n cap) ∧ Hid (w'.ownsRow W.heap.size 49 7 (.slice ad n cap) n (A.flatMap (fun x => ndL (nd x)))) ∧ Below W.heap.size W w'
  span : ∀ W q, q ∈ A → Below w5.heap.size w5 W → Calls Tryz.prog 8 #[.pointer (some ⟨f, 0, none⟩), .int .u64 (nd q).id] W fun e w' => ∃ p', e = .returned (.tuple #[.agg (spC (sp q) p'), .bool true]) ∧ Hid (SpKeep W w' (sp q) p') ∧ Below W.heap.size W w'
  kids : ∀ W q, q ∈ A → Below w5.heap.size w5 W → Calls Tryz.prog 11 #[.pointer (some ⟨f, 0, none⟩), .int .u64 (nd q).id] W fun e w' => ∃ r, e = .returned (.slice (some ⟨r, 0, none⟩) (kd q).length (kd q).length) ∧ Hid (Blk w' r (fillC .u64 (kd q) 0) 35) ∧ Below W.heap.size W w'
  ids_ : ∀ W, Below w5.heap.size w5 W → Calls Tryz.prog 12 #[.pointer (some ⟨f, 0, none⟩)] W fun e w' => ∃ r, e = .returned (.slice (some ⟨r, 0, none⟩) ids.length ids.length) ∧ Hid (Blk w' r (fillC .u64 ids 0) 35) ∧ Below W.heap.size W w'
  roots : ∀ W, Below w5.heap.size w5 W → Calls Tryz.prog 13 #[.pointer (some ⟨f, 0, none⟩)] W fun e w' => ∃ r, e = .returned (.slice (some ⟨r, 0, none⟩) rts.length rts.length) ∧ Hid (Blk w' r (fillC .u64 rts 0) 35) ∧ Below W.heap.size W w'
theorem OneF.turn {n : Nat} {w5 : World} {f : Nat} {A A' : List Nat} {nd nd' : Nat → Nod} {sp : Nat → Sp} {kd kd' : Nat → List Int} {ids ids' rts rts' : List Int} (h : OneF n w5 f A' nd' sp kd' ids' rts') (eA : A' = A) (en : ∀ q ∈ A, nd' q = nd q) (ek : ∀ q ∈ A, kd' q = kd q) (ei : ids' = ids) (er : rts' = rts) : OneF n w5 f A nd sp kd ids rts := by
  subst eA ei er
  refine ⟨fun W hb => ?_, fun W q hq hb => ?_, fun W q hq hb => ?_, h.ids_, h.roots⟩
  · have := h.nodes W hb
    rw [flat_ext (fun x => ndL (nd' x)) (fun x => ndL (nd x)) A' (fun x hx => by rw [en x hx])] at this
    exact this
  · have := h.span W q hq hb
    rw [en q hq] at this
    exact this
  · have := h.kids W q hq hb
    rw [en q hq, ek q hq] at this
    exact this
section
variable {Y : List Sp} {C C' : List Int} {dp dp' : Nat → Nat} {fin fin' : Nat → Nod} {X X' : List Spot} {K K' : Nat → List Int} {R R' : List Int}
theorem oneF_of {f sb : Nat} {rv : Value} {w W0 : World} (hF : ForestAt w f sb X K rv R) (h : FoB Y C dp fin X K R) (hb0 : Below w.heap.size w W0) (n : Nat) (hn : Y.length = n) :
    OneF n W0 f (allN K R) fin (spAt Y) (fun q => (knK K q).map (fun c => (fin c).id)) (X.map (fun x => x.nd.id)) ((rtN R).map (fun c => (fin c).id)) := by
  have bb : ∀ W, Below W0.heap.size W0 W → Below w.heap.size w W := fun W hb => hb0.trans (hb.mono hb0.size)
  have hA : ∀ q ∈ allN K R, q < Y.length := fun q hq => (h.all.2.2.1 q).1 hq
  refine ⟨fun W hb => ?_, fun W q hq hb => ?_, fun W q hq hb => ?_, fun W hb => ?_, fun W hb => ?_⟩
  · refine (nodesB hF h (bb W hb) n hn).mono ?_
    rintro e w' ⟨ad, cap, rfl, h1, h2⟩
    exact ⟨ad, cap, rfl, h1, h2⟩
  · have hj := hA q hq
    have hjX : q < X.length := by rw [h.fo.len]; exact hj
    refine (span_any f sb X K rv R (fin q).id W (hF.below (bb W hb))).mono ?_
    rintro e w' ⟨ht, hb'⟩
    rcases ht with ⟨k', hk', h1, p', rfl, hst⟩ | ⟨h1, _⟩
    · have : k' = q := rise_same (hF.below (bb W hb)).rise hk' hjX (by rw [h1, h.nd q hjX])
      subst this
      have e2 : X[k'].a = spAt Y k' := by
        rw [(h.fo.each k' hj hk').1]
        simp [spAt, List.getD, hj]
      rw [e2] at hst ⊢
      exact ⟨p', rfl, hst, hb'⟩
    · exact absurd (by rw [h.nd q hjX]) (h1 q hjX)
  · refine (kidsB hF h (bb W hb) q (hA q hq)).mono ?_
    rintro e w' ⟨r, rfl, h1, h2⟩
    exact ⟨r, by simp [knK], h1, h2⟩
  · refine (ids_any f sb X K rv R W (hF.below (bb W hb))).mono ?_
    rintro e w' ⟨r, rfl, h1, _, h2⟩
    exact ⟨r, by rw [List.length_map], h1, h2⟩
  · refine (rootsB hF h (bb W hb)).mono ?_
    rintro e w' ⟨r, rfl, h1, h2⟩
    exact ⟨r, by simp [rtN], h1, h2⟩
theorem preN_same {n : Nat} {K K' : Nat → List Nat} (hK : ∀ x, x < n → K x = K' x) (hc : ∀ x, x < n → ∀ c ∈ K x, c < n) : ∀ (fu : Nat) (L : List Nat), (∀ x ∈ L, x < n) → preN K fu L = preN K' fu L
  | 0, _, _ => rfl
  | fu + 1, L, hL => by
    show L.flatMap (fun x => x :: preN K fu (K x)) = L.flatMap (fun x => x :: preN K' fu (K' x))
    refine flat_ext _ _ L fun x hx => ?_
    have hx' := hL x hx
    rw [hK x hx', preN_same hK hc fu (K' x) (fun c hcc => hc x hx' c (by rw [hK x hx']; exact hcc))]
theorem FoB.twins {f sb : Nat} {rv : Value} {w W0 : World} (h : FoB Y C dp fin X K R) (T : Twin Y fin fin' X X' K K' R R') (h' : FoB Y C' dp' fin' X' K' R') (hF' : ForestAt w f sb X' K' rv R') (hb0 : Below w.heap.size w W0) (n : Nat) (hn : Y.length = n) :
    OneF n W0 f (allN K R) fin (spAt Y) (fun q => (knK K q).map (fun c => (fin c).id)) (X.map (fun x => x.nd.id)) ((rtN R).map (fun c => (fin c).id)) := by
  have hA : ∀ q ∈ allN K R, q < Y.length := fun q hq => (h.all.2.2.1 q).1 hq
  have hk : ∀ x, x < Y.length → knK K x = knK K' x := fun x hx => by
    unfold knK
    rw [T.kids x hx]
  have hkc : ∀ x, x < Y.length → ∀ c ∈ knK K x, c < Y.length := fun x hx c hc => ((h.mem x hx c).1 hc).1
  have hr : rtN R = rtN R' := by rw [T.roots]
  have hrc : ∀ x ∈ rtN R, x < Y.length := fun x hx => ((h.rts.2.1 x).1 hx).1
  refine (oneF_of hF' h' hb0 n hn).turn ?_ (fun q hq => (T.fin q (hA q hq)).symm) (fun q hq => ?_) ?_ ?_
  · show preN (knK K') 1001 (rtN R') = preN (knK K) 1001 (rtN R)
    rw [← hr]
    exact (preN_same hk hkc 1001 (rtN R) hrc).symm
  · show (knK K' q).map _ = (knK K q).map _
    rw [← hk q (hA q hq)]
    refine List.map_congr_left fun c hc => ?_
    rw [T.fin c (hkc q (hA q hq) c hc)]
  · refine List.ext_getElem (by rw [List.length_map, List.length_map, h.fo.len, h'.fo.len]) fun i h1 h2 => ?_
    rw [List.length_map] at h1 h2
    rw [List.getElem_map, List.getElem_map, (T.spans i (by rw [← h.fo.len]; exact h2) h2 h1).2]
  · rw [← hr]
    refine List.map_congr_left fun c hc => ?_
    rw [T.fin c (hrc c hc)]
end
/-- A forest of a rising list, whatever its parts. -/
def BuiltF (Y : List Sp) (w : World) (f : Nat) : Prop := ∃ sb X K rv R C dp fin, ForestAt w f sb X K rv R ∧ FoB Y C dp fin X K R ∧ CutsL (nmOf (zs Y)) Y.length Y.length C
/-- Two forests of one list: all that may be asked of them is alike. -/
theorem BuiltF.pair {Y : List Sp} {w1 w2 W0 : World} {f g : Nat} (h1 : BuiltF Y w1 f) (b1 : Below w1.heap.size w1 W0) (h2 : BuiltF Y w2 g) (b2 : Below w2.heap.size w2 W0) (n : Nat) (hn : Y.length = n) :
    ∃ A nd sp kd ids rts, OneF n W0 f A nd sp kd ids rts ∧ OneF n W0 g A nd sp kd ids rts ∧ A.length = n ∧ ids.length ≤ 1000 ∧ rts.length ≤ 1000 ∧ (∀ q ∈ A, (kd q).length ≤ 1000) ∧ n ≤ 1000 := by
  obtain ⟨sb, X, K, rv, R, C, dp, fin, hF, hB, hC⟩ := h1
  obtain ⟨sb', X', K', rv', R', C', dp', fin', hF', hB', hC'⟩ := h2
  have hl := hB.one.len
  refine ⟨_, _, _, _, _, _, oneF_of hF hB b1 n hn, hB.twins (hB.twin hB' hC hC') hB' hF' b2 n hn, ?_, ?_, ?_, fun q hq => ?_, by omega⟩
  · rw [← hn]; exact hB.all.2.2.2
  · rw [List.length_map, hB.fo.len]; exact hl
  · rw [List.length_map]; exact hB.rlen
  · rw [List.length_map]
    exact (hB.kn q (by rw [hB.fo.len]; exact (hB.all.2.2.1 q).1 hq)).2.2
theorem build_yes (ad : Option Addr) (n cap : Nat) (X Y : List Sp) (P : Nat → Pl) (w : World) (hX : SpsAt w ad n X P) (h1 : OneT X) (hT : Tabs w) (hp : X.Perm Y) (hr : Y.Pairwise (fun a b => a.id < b.id)) :
    Calls Tryz.prog 5 #[.slice ad n cap] w fun e w' => ∃ f, e = .returned (.tuple #[.pointer (some ⟨f, 0, none⟩), .int .i64 0]) ∧ Hid (BuiltF Y w' f) ∧ Below w.heap.size w w' := by
  refine (buildR_any ad n cap X Y P w hX h1 hT hp hr).mono ?_
  rintro e w' ⟨f, sb, X', K, rv, R, C, dp, fin, rfl, h2, h3, h4, h5, h6⟩
  exact ⟨f, rfl, ⟨sb, X', K, rv, R, C, dp, fin, h2, ⟨h5, h4, h2.rise, one_permR h1 hp⟩, h3⟩, h6⟩
end Go.Proofs.YtipkolmkpfpjjaaGreatDoor

namespace Go.Proofs.YtipkolmkpfpjjaaGreatDoor
open Go Go.RowKit
set_option maxRecDepth 100000

theorem hideU {p : Prop} (h : p) : Hid p := h
/-- The law where the spans make no forest. -/
theorem perm_no {X Z : List Sp} (h : ¬ OneT X) (hp : X.Perm Z) : ¬ OneT Z := fun hz => h (one_permR hz hp.symm)
theorem fits_perm {X Z : List Sp} (h : ∀ a ∈ X, a.Fits) (hp : X.Perm Z) : ∀ a ∈ Z, a.Fits := fun a ha => h a (hp.mem_iff.2 ha)
theorem small_perm {X Z : List Sp} (h : ∀ a ∈ X, a.Small) (hp : X.Perm Z) : ∀ a ∈ Z, a.Small := fun a ha => h a (hp.mem_iff.2 ha)
set_option maxHeartbeats 4000000 in
theorem alone_no (ad oa : Option Addr) (n c no co : Nat) (X : List Sp) (P : Nat → Pl) (r : List Int) (w : World) (hX : SpsAt w ad n X P) (hF : ∀ a ∈ X, a.Fits) (hS : ∀ a ∈ X, a.Small) (hT : Tabs w) (hO : NumsAt w oa no r) (hz : n * 168 ≤ 140737488351232) (h1 : ¬ OneT X) :
    Calls Tryz.prog 3 #[.slice ad n c, .slice oa no co] w fun e w' => e = .returned (.bool true) ∧ Below w.heap.size w w' := by
  have D1 := awake_any w hT
  have HX : Hid (SpsAt w ad n X P) := hX
  have HT : Hid (Tabs w) := hT
  have HO : Hid (NumsAt w oa no r) := hO
  have HF : Hid (∀ a ∈ X, a.Fits) := hF
  have HS : Hid (∀ a ∈ X, a.Small) := hS
  have HN : Hid (¬ OneT X) := h1
  clear hX hT hO hF hS h1
  go_enter Tryz.func3, Tryz.ntmps3
  go_wp2_with (first
    | (go_at_call 4; (with_reducible refine D1.mono ?_); clear D1; rintro e w1 ⟨rfl, b1⟩; have B1 := hideU b1; clear b1; have D2 := build_no ad n c X P w1 (HX.out.below B1.out) HF.out HS.out (HT.out.below B1.out) HN.out)
    | (go_at_call 5; (with_reducible refine D2.mono ?_); clear D2; rintro e w2 ⟨rfl, b2⟩; have B2 : Hid (Below w.heap.size w w2) := B1.out.trans (b2.mono B1.out.size); clear b2; have D3 := moved_any ad oa n c no co X P r w2 (HX.out.below B2.out) (HO.out.below B2.out) hz)
    | (go_at_call 6; (with_reducible refine D3.mono ?_); clear D3; rintro e w3 ⟨ao, cap, L, rfl, HM, b3⟩; have B3 : Hid (Below w.heap.size w w3) := B2.out.trans (b3.mono B2.out.size); clear b3; have D4 := build_no ao n cap (L.map (·.1)) (plQ L) w3 HM.out.2 (fits_perm HF.out HM.out.1) (small_perm HS.out HM.out.1) (HT.out.below B3.out) (perm_no HN.out HM.out.1))
    | (go_at_call 5; (with_reducible refine D4.mono ?_); clear D4; rintro e w4 ⟨rfl, b4⟩; have B4 : Hid (Below w.heap.size w w4) := B3.out.trans (b4.mono B3.out.size); clear b4))
  go_ret
  exact ⟨rfl, B4.out⟩
/-- A list of nodes, cell by cell. -/
theorem ndF_get (nd : Nat → Nod) : ∀ (A : List Nat) (i : Nat) (hi : i < A.length) (j : Nat), j < 7 → (A.flatMap (fun x => ndL (nd x)))[i * 7 + j]? = (ndL (nd A[i]))[j]?
  | [], i, hi, _, _ => by simp at hi
  | a :: A, 0, _, j, hj => by
    have h7 : (ndL (nd a)).length = 7 := rfl
    rw [List.flatMap_cons, Nat.zero_mul, Nat.zero_add, List.getElem?_append_left (by omega)]
    rfl
  | a :: A, i + 1, hi, j, hj => by
    have h7 : (ndL (nd a)).length = 7 := rfl
    have := ndF_get nd A i (by simpa using hi) j hj
    rw [List.flatMap_cons, List.getElem?_append_right (by omega), h7, show (i + 1) * 7 + j - 7 = i * 7 + j by omega]
    exact this
theorem own_someU {base : Nat} {w : World} {e : TypeId} {size : Nat} {v : Value} {n : Nat} {xs : List Value} (h : w.ownsRow base e size v n xs) (hn : 0 < n) : ∃ g cap, v = .slice (some ⟨g, 0, none⟩) n cap ∧ n ≤ cap ∧ cap ≤ maxLen ∧ base ≤ g ∧ ∀ j u, xs[j]? = some u → w.cell? ⟨g, j, none⟩ = some u := by
  have h0 := h
  rcases h.2 with ⟨rfl, h1⟩ | ⟨g, cap, cur, rfl, hb, hg, h1, h2, _⟩
  · omega
  · refine ⟨g, cap, rfl, h1, h2, hb, fun j u hj => ?_⟩
    have := h0.cells (g := g) rfl j u hj
    rw [Addr.add_lit, Nat.zero_add] at this
    exact this
theorem ndRow {base : Nat} {w : World} {ad : Option Addr} {n cap : Nat} {A : List Nat} {nd : Nat → Nod} (h : w.ownsRow base 49 7 (.slice ad n cap) n (A.flatMap (fun x => ndL (nd x)))) (hn : 0 < n) : ∃ g, ad = some ⟨g, 0, none⟩ ∧ ∀ i (hi : i < A.length) (j : Nat) (u : Value), (ndL (nd A[i]))[j]? = some u → w.cell? ⟨g, i * 7 + j, none⟩ = some u := by
  obtain ⟨g, cap', e, _, _, _, hx⟩ := own_someU h hn
  simp at e
  refine ⟨g, e.1, fun i hi j u hu => ?_⟩
  · have hj : j < 7 := by
      have := (List.getElem?_eq_some_iff.mp hu).1
      have h7 : (ndL (nd A[i])).length = 7 := rfl
      omega
    refine hx (i * 7 + j) u ?_
    rw [ndF_get nd A i hi j hj]
    exact hu
/-- A span that was told, boxed. -/
theorem keep_box {W w' w8 : World} {a : Sp} {p : Pl} (h : SpKeep W w' a p) (hb : Below W.heap.size W w') (hu : Upd (fun k => k = w'.heap.size) (w'.alloc (.cells zSpL.toArray 42)) w8) : Below W.heap.size W w8 ∧ SpAt w8 a p ∧ Below w'.heap.size w' w8 := by
  have h0 : Below w'.heap.size w' w8 := ((Below.refl _ w').alloc (Nat.le_refl _) _).trans (hu.below (by simp) (fun j hj e => by omega))
  refine ⟨hb.trans (h0.mono hb.size), h w8 (fun k h1 h2 => h0.block k h2), h0⟩
end Go.Proofs.YtipkolmkpfpjjaaGreatDoor
