/-
  Merged: QVi, QVj, QVk, QVl, QVp, QVs, QVE.
-/
import Derived.Test.YtobjjdggjgnfcaaGreatDoorQVAq
import Derived.Deep.QuietTactic
import Derived.Shelf.Abstract
import Derived.Shelf.SlSortCmp.WholeK
import Derived.Shelf.Lay
import Derived.Ground.SlsfProg
import Derived.Test.YtobjjdggjgnfcaaGreatDoorVRq
import Derived.Laws.StructEq
import Derived.Test.YtobjjdggjgnfcaaGreatDoorQVD
namespace Go.Proofs.YtobjjdggjgnfcaaGreatDoor.iv
open Go.Shelf Go.RowKit Go.Lib
set_option maxRecDepth 100000

theorem endsL_len (j : Int) : ∀ (a : List (Int × Int)), (endsL j a).length ≤ 2 * a.length
  | [] => Nat.le_refl _
  | i :: a => by
    have := endsL_len j a
    unfold endsL
    split <;> simp <;> omega
end Go.Proofs.YtobjjdggjgnfcaaGreatDoor.iv

namespace Go.Proofs.YtobjjdggjgnfcaaGreatDoor.iv
open Go.Shelf Go.RowKit Go.Lib
set_option maxRecDepth 100000

theorem tell_len (out : List (Int × Int)) (a : Int × Int) : (tellL out a).length ≤ out.length + 1 := by
  unfold tellL
  split
  · simp
  · split
    · simp
    · simp
theorem close_len (want : Bool → Bool → Bool) (s : Wk) (t : Int) : (closeL want s t).length ≤ s.out.length + 1 := by
  unfold closeL
  split
  · exact tell_len _ _
  · omega
theorem step_b (e : Int × Int × Int) : -1 ≤ stepE e ∧ stepE e ≤ 1 := by unfold stepE; split <;> omega
theorem run_b (want : Bool → Bool → Bool) : ∀ (n : Nat) (E : List (Int × Int × Int)), E.length = n → (-(n : Int) ≤ (runL want E).n0 ∧ (runL want E).n0 ≤ n) ∧ (-(n : Int) ≤ (runL want E).n1 ∧ (runL want E).n1 ≤ n) ∧ (runL want E).out.length ≤ n
  | 0, E, h => by
    have : E = [] := List.eq_nil_of_length_eq_zero h
    subst this
    exact ⟨⟨Int.le_refl _, Int.le_refl _⟩, ⟨Int.le_refl _, Int.le_refl _⟩, Nat.le_refl _⟩
  | n + 1, E, h => by
    rcases List.eq_nil_or_concat E with rfl | ⟨P, e, rfl⟩
    · simp at h
    rw [List.concat_eq_append] at *
    have IH := run_b want n P (by simpa using h)
    rw [runL_snoc]
    have hs := step_b e
    have hc := close_len want (runL want P) e.1
    obtain ⟨⟨a, b⟩, ⟨c, d⟩, f⟩ := IH
    unfold passL
    refine ⟨?_, ?_, ?_⟩
    · simp only
      split <;> omega
    · simp only
      split <;> omega
    · simp only
      omega
theorem form_in {L A B : List (Int × Int)} {want : Bool → Bool → Bool} (hw : want false false = false) (hF : Form L) (hm : ∀ x, memI L x = want (memI A x) (memI B x)) (hA : ∀ i ∈ A, In64 i) (hB : ∀ i ∈ B, In64 i) : ∀ i ∈ L, In64 i := by
  intro i hi
  have h0 := hF.1 i hi
  have key : ∀ x, i.1 ≤ x → x < i.2 → ∃ k, In64 k ∧ k.1 ≤ x ∧ x < k.2 := by
    intro x h1 h2
    have a : memI L x = true := memI_iff.mpr ⟨i, hi, h1, h2⟩
    rw [hm x] at a
    by_cases ha : memI A x = true
    · obtain ⟨k, hk, k1, k2⟩ := memI_iff.mp ha
      exact ⟨k, hA k hk, k1, k2⟩
    · by_cases hb : memI B x = true
      · obtain ⟨k, hk, k1, k2⟩ := memI_iff.mp hb
        exact ⟨k, hB k hk, k1, k2⟩
      · simp only [Bool.not_eq_true] at ha hb
        rw [ha, hb, hw] at a
        cases a
  obtain ⟨k, k0, k1, k2⟩ := key i.1 (Int.le_refl _) h0
  obtain ⟨l, l0, l1, l2⟩ := key (i.2 - 1) (by omega) (by omega)
  unfold In64 in64 at *
  omega

structure Tells (base : Nat) (w : World) (v : Value) (p : Int → Bool) (N : Nat) (L : List (Int × Int)) : Prop where
  own : OwnI base w v L
  form : Form L
  mem : ∀ x, memI L x = p x
  in64 : ∀ i ∈ L, In64 i
  few : L.length ≤ N
end Go.Proofs.YtobjjdggjgnfcaaGreatDoor.iv

namespace Go.Proofs.YtobjjdggjgnfcaaGreatDoor.iv
open Go.Shelf Go.RowKit Go.Lib
set_option maxRecDepth 100000

theorem run_neq_of {T : TypeId} {xs ys : Array Value} {b : Bool} {W : World} (h : (Op.equalIn 10000 T (.agg xs) (.agg ys)).run Tryz.prog W = .ok b W) : (binOp .neq T (.agg xs) (.agg ys)).run Tryz.prog W = .ok (.bool (!b)) W := by
  rw [run_neq_struct, h]; rfl
theorem run_eql_of {T : TypeId} {xs ys : Array Value} {b : Bool} {W : World} (h : (Op.equalIn 10000 T (.agg xs) (.agg ys)).run Tryz.prog W = .ok b W) : (binOp .eql T (.agg xs) (.agg ys)).run Tryz.prog W = .ok (.bool b) W := by
  rw [run_eql_struct, h]; rfl
/-! ## The document's Clip and Length -/
theorem refLength_any (a : Int × Int) (w : World) (ha : In64 a) :
    Calls Tryz.prog 53 #[.agg #[.int .i64 a.1, .int .i64 a.2]] w fun e w' => e = .returned (.int .u64 (lenI a)) ∧ Below w.heap.size w w' := by
  obtain ⟨a1, a2⟩ := a
  obtain ⟨ha1, ha2⟩ := ha
  have E := refEmpty_any
  unfold lenI
  by_cases k : a2 ≤ a1
  · rw [if_pos k]
    have k' : decide (a2 ≤ a1) = true := decide_eq_true k
    clear ha1 ha2
    go_enter Tryz.func53, Tryz.ntmps53
    go_wp2_with (go_at_call 92; refine (E _ _ _).mono ?_; rintro e w1 ⟨rfl, rfl⟩)
    go_ret
    refine ⟨rfl, ?_⟩
    repeat' first | exact Below.refl _ _ | refine Below.alloc ?_ (by simp <;> omega) _
  · rw [if_neg k]
    have k' : decide (a2 ≤ a1) = false := decide_eq_false k
    have W := wrap_diff ha1 ha2 k
    clear ha1 ha2
    go_enter Tryz.func53, Tryz.ntmps53
    go_wp2_with (go_at_call 92; refine (E _ _ _).mono ?_; rintro e w1 ⟨rfl, rfl⟩)
    go_ret
    refine ⟨rfl, ?_⟩
    repeat' first | exact Below.refl _ _ | refine Below.alloc ?_ (by simp <;> omega) _
end Go.Proofs.YtobjjdggjgnfcaaGreatDoor.iv

namespace Go.Proofs.YtobjjdggjgnfcaaGreatDoor.iv
open Go.Shelf Go.RowKit Go.Lib
set_option maxRecDepth 100000

theorem OwnI.len {base : Nat} {w : World} {ao : Option Addr} {n c : Nat} {l : List (Int × Int)} (h : OwnI base w (.slice ao n c) l) : n = l.length := (own_cap h).1
end Go.Proofs.YtobjjdggjgnfcaaGreatDoor.iv

namespace Go.Proofs.YtobjjdggjgnfcaaGreatDoor.iv
open Go.Shelf Go.RowKit Go.Lib
set_option maxRecDepth 100000

theorem Below.step {w w1 w2 : World} (h : Below w.heap.size w w1) (k : Below w1.heap.size w1 w2) : Below w.heap.size w w2 := h.trans (k.mono h.size)
end Go.Proofs.YtobjjdggjgnfcaaGreatDoor.iv

namespace Go.Proofs.YtobjjdggjgnfcaaGreatDoor.iv
open Go.Shelf Go.RowKit Go.Lib
set_option maxRecDepth 100000

theorem len_nonneg (i : Int × Int) : 0 ≤ lenI i := by unfold lenI; split <;> omega
theorem sum_append (a b : List (Int × Int)) : sumI (a ++ b) = sumI a + sumI b := by
  unfold sumI; rw [List.map_append, List.sum_append]
theorem sum_nonneg : ∀ l : List (Int × Int), 0 ≤ sumI l
  | [] => Int.le_refl _
  | i :: l => by
    have := sum_nonneg l
    have h := len_nonneg i
    show 0 ≤ lenI i + (l.map lenI).sum
    unfold sumI at this
    omega
theorem sum_take_le (l : List (Int × Int)) (k : Nat) : sumI (l.take k) ≤ sumI l := by
  have h : sumI l = sumI (l.take k) + sumI (l.drop k) := by rw [← sum_append, List.take_append_drop]
  have := sum_nonneg (l.drop k)
  omega
theorem big : ∃ N : Nat, (N : Int) = 18446744073709551615 := ⟨18446744073709551615, rfl⟩
theorem sum_is {N : Nat} (hN : (N : Int) = 18446744073709551615) {L : List (Int × Int)} (hf : Form L) (hi : ∀ i ∈ L, In64 i) : sumI L = cntM (memI L) (-9223372036854775808) N :=
  sum_cnt _ N L hf (fun i h => by have := hi i h; unfold In64 in64 at this; omega)
theorem sum_lt {L : List (Int × Int)} (hf : Form L) (hi : ∀ i ∈ L, In64 i) : sumI L ≤ 18446744073709551615 := by
  obtain ⟨N, hN⟩ := big
  rw [sum_is hN hf hi]
  have := (cntM_nonneg (memI L) (-9223372036854775808) N).2
  omega
theorem sum_step {l : List (Int × Int)} {k : Nat} (hk : k < l.length) : sumI (l.take (k + 1)) = sumI (l.take k) + lenI l[k] := by
  rw [List.take_succ_eq_append_getElem hk, sum_append]
  simp [sumI]
def MeasP (A : List (Int × Int)) (w : World) (e : Ending) (w' : World) : Prop :=
  ∃ L, e = .returned (.int .u64 (sumI L)) ∧ Form L ∧ (∀ x, memI L x = memI A x) ∧ (∀ i ∈ L, In64 i) ∧ Below w.heap.size w w'
end Go.Proofs.YtobjjdggjgnfcaaGreatDoor.iv

namespace Go.Proofs.YtobjjdggjgnfcaaGreatDoor.iv
open Go.Shelf Go.RowKit Go.Lib
set_option maxRecDepth 100000

theorem pieces_set (ad bd : Option Addr) (n m ca cb : Nat) (A B : List (Int × Int)) (u : Bool) (w : World) (hA : IvAt w ad n A) (hB : IvAt w bd m B) (hn : n + m ≤ 274877906944) (iA : ∀ i ∈ A, In64 i) (iB : ∀ i ∈ B, In64 i) :
    Calls Tryz.prog 137 #[.slice ad n ca, .slice bd m cb, .bool u] w fun e w' => ∃ v L, e = .returned v ∧ Tells w.heap.size w' v (fun x => wantW u (memI A x) (memI B x)) (2 * (n + m)) L ∧ Below w.heap.size w w' := by
  refine (pieces_any ad bd n m ca cb A B u w hA hB hn).mono ?_
  rintro e w' ⟨v, E, rfl, H⟩
  obtain ⟨p1, p2, o, b⟩ := H.out
  obtain ⟨f, h⟩ := gather_form (wantW u) (wantW_no u) A B E p1 p2
  refine ⟨v, _, rfl, ⟨o, f, h, form_in (wantW_no u) f h iA iB, ?_⟩, b⟩
  have hb := (run_b (wantW u) E.length E rfl).2.2
  have := p1.length_eq
  rw [List.length_append] at this
  have a := endsL_len 0 A
  have b := endsL_len 1 B
  rw [hA.len] at a
  rw [hB.len] at b
  omega
theorem Tells.weaken {base : Nat} {w : World} {v : Value} {p q : Int → Bool} {N M : Nat} {L : List (Int × Int)} (h : Tells base w v p N L) (hp : ∀ x, p x = q x) (hN : N ≤ M) : Tells base w v q M L :=
  ⟨h.own, h.form, fun x => (h.mem x).trans (hp x), h.in64, Nat.le_trans h.few hN⟩
theorem refNormal_any (ad : Option Addr) (n ca : Nat) (A : List (Int × Int)) (w : World) (hA : IvAt w ad n A) (hn : n ≤ 274877906944) (iA : ∀ i ∈ A, In64 i) :
    Calls Tryz.prog 93 #[.slice ad n ca] w fun e w' => ∃ v L, e = .returned v ∧ Tells w.heap.size w' v (memI A) (2 * n) L ∧ Below w.heap.size w w' := by
  have G := pieces_set ad none n 0 ca 0 A [] false w hA ⟨rfl, fun h => by omega⟩ (by omega) iA (fun _ h => by cases h)
  clear hA
  go_enter Tryz.func93, Tryz.ntmps93
  go_wp2_with (go_at_call 137; refine G.mono ?_; clear G; rintro e w' ⟨v, L, rfl, t, b⟩; obtain ⟨ao, l, cp, rfl⟩ := row_shape t.own)
  go_ret
  exact ⟨_, L, rfl, t.weaken (fun x => by simp [wantW, memI_nil]) (by omega), b⟩
def muV (N : Nat) (p : Int → Bool) : Int := cntM p (-9223372036854775808) N
set_option maxHeartbeats 1000000 in
theorem refMeasure_any (ad : Option Addr) (n ca : Nat) (A : List (Int × Int)) (w : World) (hA : IvAt w ad n A) (hn : n ≤ 268435456) (iA : ∀ i ∈ A, In64 i) :
    Calls Tryz.prog 54 #[.slice ad n ca] w (MeasP A w) := by
  have G := refNormal_any ad n ca A w hA (by omega) iA
  unfold MeasP
  clear hA
  go_enter Tryz.func54, Tryz.ntmps54
  go_wp2_with (go_at_call 93; refine G.mono ?_; clear G; rintro e w1 ⟨v, L, rfl, t, b⟩; obtain ⟨ao, l, cp, rfl⟩ := row_shape t.own)
  have hL := t.own.len
  have hI := t.own.at
  have hlt := sum_lt t.form t.in64
  have HT : Hid _ := t
  have HLT : Hid _ := hlt
  have hfew : l ≤ 2 * n := by have := t.few; omega
  clear t hlt
  have HLl : Hid (l = L.length) := hL
  clear hL
  go_loopw [4, 5] (fun a c wr => ∃ (k : Nat), c = .int .i64 k ∧ k ≤ l ∧ a = .int .u64 (sumI (L.take k)) ∧ Below w1.heap.size w1 wr) (fun _ c _ => l - (intOf c).toNat)
  case atStart => exact ⟨0, rfl, by omega, rfl, Below.refl _ _⟩
  case round =>
    obtain ⟨k, rfl, hk, rfl, hb⟩ := hrel
    have hsz := hb.size
    by_cases hlt : k < l
    · have hz : (k : Int) < (l : Int) := by omega
      obtain ⟨b1, o1, had, hc1⟩ := (hI.below hb).lies (by omega)
      subst had
      have hkL : k < L.length := by have := HLl.out; omega
      obtain ⟨c0, c1⟩ := hc1 k hkL
      have HS : Hid (sumI (L.take (k + 1)) = _) := sum_step hkL
      have hin := HT.out.in64 L[k] (List.getElem_mem hkL)
      have hup := sum_take_le L (k + 1)
      have h0 := sum_nonneg (L.take k)
      rw [HS.out] at hup
      have hl0 := len_nonneg L[k]
      generalize L[k] = y at c0 c1 HS hin hup hl0
      have wr1 : IntKind.u64.wrap (sumI (L.take k) + lenI y) = sumI (L.take k) + lenI y := by
        have := HLT.out
        rw [IntKind.wrap_u64]; omega
      have LN := fun W => refLength_any y W hin
      obtain ⟨x1, x2⟩ := y
      simp only at c0 c1 LN
      generalize lenI (x1, x2) = ll at *
      generalize sumI (L.take k) = ss at *
      clear hc1 hin hup h0 hl0
      go_wp2_with (go_at_call 53; refine (LN _).mono ?_; clear LN; rintro e w2 ⟨rfl, b2⟩)
      go_roundw
      case rel => exact ⟨k + 1, by go_num, by omega, by rw [HS.out], hb.trans (b2.mono hsz)⟩
      case measure => simp [intOf]; omega
    · have hz : ¬ (k : Int) < (l : Int) := by omega
      have HE : Hid (L.take k = L) := List.take_of_length_le (by have := HLl.out; omega)
      go_wp2
      go_ret
      refine ⟨L, by rw [HE.out]; rfl, HT.out.form, HT.out.mem, fun a b h => HT.out.in64 (a, b) h, Below.step b hb⟩
theorem refMeasV_any {N : Nat} (hN : (N : Int) = 18446744073709551615) (ad : Option Addr) (n ca : Nat) (A : List (Int × Int)) (w : World) (hA : IvAt w ad n A) (hn : n ≤ 268435456) (iA : ∀ i ∈ A, In64 i) :
    Calls Tryz.prog 54 #[.slice ad n ca] w fun e w' => e = .returned (.int .u64 (muV N (memI A))) ∧ Below w.heap.size w w' := by
  refine (refMeasure_any ad n ca A w hA hn iA).mono ?_
  rintro e w' ⟨L, rfl, f, m, i, b⟩
  rw [sum_is hN f i, cntM_congr m]
  exact ⟨rfl, b⟩
end Go.Proofs.YtobjjdggjgnfcaaGreatDoor.iv
