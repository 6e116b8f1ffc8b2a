/-
  Merged: SdN, SdO.
-/
import Derived.Test.YtfgmjgoegdiieaaDoorSdH
import Derived.Test.YtfgmjgoegdiieaaDoorSaK
namespace Go.Proofs.YtfgmjgoegdiieaaDoor
open Go Go.RowKit
set_option maxRecDepth 100000

theorem any_ren (hi lo : Int) (X : List Sp) (p : Sp → Bool) (h : ∀ a, p (renS hi lo a) = p a) : (X.map (renS hi lo)).any p = X.any p := by
  rw [List.any_map]
  congr 1
  funext a
  exact h a
theorem startM_ren (hi lo : Int) (X : List Sp) : startM (X.map (renS hi lo)) = startM X := by
  unfold startM
  rw [List.foldl_map]
  rfl
theorem finM_ren (hi lo : Int) (X : List Sp) : finM (X.map (renS hi lo)) = finM X := by
  unfold finM
  rw [List.foldl_map]
  rfl
theorem holds_ren (hi lo : Int) (X : List Sp) {p : Pol} (hk : p.kind ≠ 4) : holdsB p (X.map (renS hi lo)) = holdsB p X := by
  unfold holdsB tookN
  rw [any_ren hi lo X _ (fun _ => rfl), any_ren hi lo X _ (fun _ => rfl), startM_ren, finM_ren]
  simp only [hk, if_false]
theorem sure_ren (hi lo : Int) (X : List Sp) (p : Pol) : sureB p (X.map (renS hi lo)) = sureB p X := by
  unfold sureB
  by_cases hk : p.kind = 4
  · simp [hk]
  · rw [holds_ren hi lo X hk]
theorem weight_ren (hi lo : Int) (L : List Pol) (X : List Sp) : weightN L (X.map (renS hi lo)) = weightN L X := by
  unfold weightN
  simp only [sure_ren]
/-- The policies without chance. -/
def sureL (L : List Pol) : List Pol := L.filter fun p => !decide (p.kind = 4)
theorem sureL_next (L : List Pol) (k : Nat) (hk : k < L.length) : sureL (L.take (k + 1)) = sureL (L.take k) ++ (if L[k].kind = 4 then [] else [L[k]]) := by
  unfold sureL
  rw [List.take_succ_eq_append_getElem hk, List.filter_append]
  congr 1
  by_cases h : L[k].kind = 4 <;> simp [h]
theorem chk_sure {L : List Pol} (h : chkP L = 0) : chkP (sureL L) = 0 := by
  have h2 := chkP_may h
  unfold chkP
  rw [if_pos]
  refine ⟨Nat.le_trans (List.length_filter_le _ _) h2.1, ?_⟩
  rw [List.all_eq_true]
  exact fun p hp => h2.2 p (List.mem_filter.1 hp).1
theorem maxPart_sure (L : List Pol) : maxPart (sureL L) = 0 := by
  have : ∀ (L : List Pol) (m : Int), (sureL L).foldl (fun m p => if p.kind = 4 then max m p.part else m) m = m := by
    intro L
    unfold sureL
    induction L with
    | nil => exact fun m => rfl
    | cons p r ih =>
      intro m
      by_cases h : p.kind = 4
      · simp only [List.filter_cons, h, decide_true, Bool.not_true]
        exact ih m
      · simp only [List.filter_cons, h, decide_false, Bool.not_false, if_true, List.foldl_cons, if_false]
        exact ih m
  exact this L 0
theorem maxPart_mem : ∀ (L : List Pol), 0 < maxPart L → ∃ p ∈ L, p.kind = 4 ∧ p.part = maxPart L := by
  have : ∀ (L : List Pol) (m : Int), L.foldl (fun m p => if p.kind = 4 then max m p.part else m) m = m ∨ ∃ p ∈ L, p.kind = 4 ∧ p.part = L.foldl (fun m p => if p.kind = 4 then max m p.part else m) m := by
    intro L
    induction L with
    | nil => exact fun m => Or.inl rfl
    | cons q r ih =>
      intro m
      rw [List.foldl_cons]
      rcases ih (if q.kind = 4 then max m q.part else m) with h | ⟨p, hp, h1, h2⟩
      · rw [h]
        by_cases hk : q.kind = 4
        · rw [if_pos hk]
          by_cases hm : q.part ≤ m
          · left; omega
          · right; exact ⟨q, by simp, hk, by omega⟩
        · rw [if_neg hk]; exact Or.inl rfl
      · exact Or.inr ⟨p, by simp [hp], h1, h2⟩
  intro L hp
  rcases this L 0 with h | h
  · unfold maxPart at hp; omega
  · exact h
theorem sure_any (L : List Pol) (X : List Sp) : (sureL L).any (fun p => holdsB p X) = L.any (fun p => sureB p X) := by
  unfold sureL sureB
  rw [List.any_filter]
/-- Which are kept: by a sure policy, or below the greatest part. -/
theorem holds_any_ren {hi lo : BitVec 64} {L : List Pol} (hm : ∀ p ∈ L, mayP p = true) {X : List Sp} (hX : X ≠ []) : L.any (fun p => holdsB p (X.map (renS (bvI hi) (bvI lo)))) = (L.any (fun p => sureB p X) || decide (bvI (mixB hi lo) / 281474976710656 < maxPart L)) := by
  have h0 : 0 ≤ bvI (mixB hi lo) / 281474976710656 := Int.ediv_nonneg (bvI_lo _) (by omega)
  have hpart : ∀ p ∈ L, p.kind = 4 → holdsB p (X.map (renS (bvI hi) (bvI lo))) = decide (bvI (mixB hi lo) / 281474976710656 < p.part) := fun p hp hk => by
    have h1 := mayP_part (hm p hp)
    unfold holdsB
    simp only [hk, show ¬ (4 : Int) = 1 by decide, show ¬ (4 : Int) = 2 by decide, show ¬ (4 : Int) = 3 by decide, if_false, if_true]
    rw [firstMix_ren hi lo hX, show IntKind.u64.wrap p.part = p.part by rw [IntKind.wrap_u64]; omega]
  rw [Bool.eq_iff_iff, Bool.or_eq_true, List.any_eq_true, List.any_eq_true, decide_eq_true_eq]
  constructor
  · rintro ⟨p, hp, hh⟩
    by_cases hk : p.kind = 4
    · right
      rw [hpart p hp hk] at hh
      have h2 := maxPart_ge L p hp hk
      have h3 := of_decide_eq_true hh
      omega
    · left
      refine ⟨p, hp, ?_⟩
      rw [holds_ren _ _ X hk] at hh
      unfold sureB
      rw [hh]
      simp [hk]
  · rintro (⟨p, hp, hh⟩ | hh)
    · refine ⟨p, hp, ?_⟩
      unfold sureB at hh
      simp only [Bool.and_eq_true, Bool.not_eq_true', decide_eq_false_iff_not] at hh
      rw [holds_ren _ _ X hh.1]
      exact hh.2
    · obtain ⟨p, hp, hk, he⟩ := maxPart_mem L (by omega)
      refine ⟨p, hp, ?_⟩
      rw [hpart p hp hk, he]
      exact decide_eq_true hh
theorem FirstR.any {L : List Pol} {X : List Sp} {r : Int} (h : FirstR L X r) : (r = -1 ∧ L.any (fun p => holdsB p X) = false) ∨ (0 ≤ r ∧ L.any (fun p => holdsB p X) = true) := by
  rcases h with ⟨h1, h2⟩ | ⟨i, hi, h1, h2, _⟩
  · exact Or.inl ⟨h1, h2⟩
  · exact Or.inr ⟨by omega, List.any_eq_true.2 ⟨_, List.getElem_mem hi, h2⟩⟩
/-- The two verdicts that the law holds against each other. -/
theorem weigh2 {hi lo : BitVec 64} {L : List Pol} (hc : chkP L = 0) {X : List Sp} (hX : X ≠ []) {k k' : Bool} {v g e v' g' e' : Int} (hd : DecR L (X.map (renS (bvI hi) (bvI lo))) k v g e) (hd' : DecR (sureL L) (X.map (renS (bvI hi) (bvI lo))) k' v' g' e') :
    (e = 101 ∧ e' = 101) ∨
    (e = 0 ∧ e' = 0 ∧ k' = true ∧ k = true ∧ g = 65536 ∧ 0 ≤ v) ∨
    (e = 0 ∧ e' = 0 ∧ k' = false ∧ k = true ∧ bvI (mixB hi lo) / 281474976710656 < maxPart L ∧ g = 4294967296 / maxPart L ∧ 0 ≤ v) ∨
    (e = 0 ∧ e' = 0 ∧ k' = false ∧ k = false ∧ ¬ bvI (mixB hi lo) / 281474976710656 < maxPart L ∧ g = 0 ∧ v = -1) := by
  have hm := (chkP_may hc).2
  have hc' := chk_sure hc
  have hnil : X.map (renS (bvI hi) (bvI lo)) ≠ [] := by simp [hX]
  have hany := holds_any_ren (hi := hi) (lo := lo) hm hX
  have hsa : (sureL L).any (fun p => holdsB p (X.map (renS (bvI hi) (bvI lo)))) = L.any (fun p => sureB p X) := by
    rw [sure_any]
    simp only [sure_ren]
  have hw : weightN L (X.map (renS (bvI hi) (bvI lo))) = weightN L X := weight_ren _ _ L X
  rcases hd with ⟨a1, _⟩ | ⟨_, a0, a2, a3, a4, a5⟩ | ⟨_, a0, a6, a2, a3, a4, a5⟩ | ⟨_, a0, a6, a7, a8, a2, a3, a4⟩ <;> rcases hd' with ⟨b1, _⟩ | ⟨_, b0, b2, b3, b4, b5⟩ | ⟨_, b0, b6, b2, b3, b4, b5⟩ | ⟨_, b0, b6, b7, b8, b2, b3, b4⟩
  all_goals first
    | exact absurd hc a1
    | exact absurd hc' b1
    | exact absurd ‹OneT _› ‹¬ OneT _›
    | exact Or.inl ⟨a5, b5⟩
    | skip
  · have a7 : FirstR L (X.map (renS (bvI hi) (bvI lo))) (-1) := by
      rcases a6 with h | h
      · exact absurd h hnil
      · exact h
    have b7 : FirstR (sureL L) (X.map (renS (bvI hi) (bvI lo))) (-1) := by
      rcases b6 with h | h
      · exact absurd h hnil
      · exact h
    rcases a7.any with ⟨_, h2⟩ | ⟨h1, _⟩
    · rw [hany, Bool.or_eq_false_iff, decide_eq_false_iff_not] at h2
      exact Or.inr (Or.inr (Or.inr ⟨a5, b5, b2, a2, h2.2, a4, a3⟩))
    · omega
  · have a7 : FirstR L (X.map (renS (bvI hi) (bvI lo))) (-1) := by
      rcases a6 with h | h
      · exact absurd h hnil
      · exact h
    rcases a7.any with ⟨_, h2⟩ | ⟨h1, _⟩
    · rcases b8.any with ⟨h3, _⟩ | ⟨_, h4⟩
      · omega
      · rw [hsa] at h4
        rw [hany, h4] at h2
        cases h2
    · omega
  · have b7 : FirstR (sureL L) (X.map (renS (bvI hi) (bvI lo))) (-1) := by
      rcases b6 with h | h
      · exact absurd h hnil
      · exact h
    rcases b7.any with ⟨_, h2⟩ | ⟨h1, _⟩
    · rcases a8.any with ⟨h3, _⟩ | ⟨_, h4⟩
      · omega
      · rw [hsa] at h2
        rw [hany, h2, Bool.false_or, decide_eq_true_eq] at h4
        refine Or.inr (Or.inr (Or.inl ⟨a4, b5, b2, a2, h4, ?_, a7⟩))
        rw [a3, hw]
        unfold weightN
        rw [h2]
        simp
    · omega
  · rcases b8.any with ⟨h3, _⟩ | ⟨_, h4⟩
    · omega
    · rw [hsa] at h4
      refine Or.inr (Or.inl ⟨a4, b4, b2, a2, ?_, a7⟩)
      rw [a3, hw]
      unfold weightN
      rw [if_pos h4]
theorem weight_part {q : Int} (h0 : 0 < q) (h1 : q ≤ 65536) : q * (4294967296 / q) ≤ 4294967296 ∧ 4294967296 < q * (4294967296 / q + 1) ∧ 0 ≤ 4294967296 / q := by
  have e := Int.mul_ediv_add_emod 4294967296 q
  have l := Int.emod_lt_of_pos 4294967296 h0
  have n := Int.emod_nonneg 4294967296 (show q ≠ 0 by omega)
  refine ⟨by omega, by rw [Int.mul_add, Int.mul_one]; omega, Int.ediv_nonneg (by omega) (by omega)⟩
end Go.Proofs.YtfgmjgoegdiieaaDoor

namespace Go.Proofs.YtfgmjgoegdiieaaDoor
open Go Go.RowKit
set_option maxRecDepth 100000

theorem infoUq : (Tryd.prog.info? 24).map (fun i => (i.zero, i.size, i.bytes)) = some (some (.int .u64 0), 1, 8) := by kernel_rfl
/-- Numbers in a row of one's own. -/
def OwnQ (base : Nat) (w : World) (v : Value) (L : List Int) : Prop := w.ownsRow base 24 1 v L.length (L.map (Value.int .u64))
theorem OwnQ.below {base : Nat} {w w' : World} {v : Value} {L : List Int} (h : OwnQ base w v L) (hb : Below w.heap.size w w') : OwnQ base w' v L := ownsRow_upd h (Upd.ofBelow (S := fun _ => False) hb (fun k hk hk' => by omega)) (fun _ _ h => h)
theorem OwnQ.lit (w : World) (a b c d : Int) : OwnQ w.heap.size (w.alloc (.cells #[.int .u64 a, .int .u64 b, .int .u64 c, .int .u64 d] 24)) (.slice (some ⟨w.heap.size, 0, none⟩) 4 4) [a, b, c, d] :=
  World.ownsRow_lit (base := w.heap.size) (e := 24) (size := 1) w #[.int .u64 a, .int .u64 b, .int .u64 c, .int .u64 d] 4 (Nat.le_refl _) (by decide) rfl
theorem OwnQ.cell {base : Nat} {w : World} {ad : Option Addr} {n c : Nat} {L : List Int} (h : OwnQ base w (.slice ad n c) L) (hp : 0 < L.length) : n = L.length ∧ L.length ≤ c ∧ ∃ g, ad = some ⟨g, 0, none⟩ ∧ base ≤ g ∧ ∀ i (hi : i < L.length), w.cell? ⟨g, i, none⟩ = some (.int .u64 L[i]) := by
  obtain ⟨g, cap, e, h1, h2, hb, hc⟩ := own_some h hp
  simp only [Value.slice.injEq] at e
  obtain ⟨rfl, rfl, rfl⟩ := e
  refine ⟨rfl, h1, g, rfl, hb, fun i hi => hc i _ ?_⟩
  rw [List.getElem?_map, List.getElem?_eq_getElem hi]
  rfl
/-- A number is appended. -/
theorem wpList_appQn {ops : Array Oper} {rest : List Oper} {o : Oper} {a : Act} {Q : Exit → Act → World → Prop} (w : World) (hgd : o.guard = none) (s x : Operand)
    (ho : o.op = .call { callee := .builtin .append, args := #[s, x], argTypes := #[33, 33] })
    (base : Nat) (v : Value) (L : List Int) (c : Int) (hv : a.eval s = v) (hown : OwnQ base w v L) (hx : a.eval x = .slice (some ⟨w.heap.size, 0, none⟩) 1 1) (hlen : L.length ≤ 1000) (hbase : base ≤ w.heap.size)
    (h : ∀ v' w', OwnQ base w' v' (L ++ [c]) → Upd (fun k => base ≤ k) w w' → wpList Tryd.prog ops Q rest (a.put o.dst v') w') : wpList Tryd.prog ops Q (o :: rest) a (w.alloc (.cells #[.int .u64 c] 24)) := by
  obtain ⟨i0, hi0, hz0, hz1, hz2⟩ := info_parts infoUq
  have ho' : OwnQ base (w.alloc (.cells #[.int .u64 c] 24)) v L := hown.below ((Below.refl _ _).alloc (Nat.le_refl _) _)
  have hs : Src Tryd.prog 1 33 (.slice (some ⟨w.heap.size, 0, none⟩) 1 1) 1 [.int .u64 c] (w.alloc (.cells #[.int .u64 c] 24)) := by
    refine Src.ofSlice _ Tryd.underlying33 ⟨w.heap.size, 0, none⟩ 1 1 _ rfl ?_ ?_
    · intro j u hj
      match j, hj with
      | 0, hj => simp at hj; subst hj; simp [Addr.add]
      | j + 1, hj => simp at hj
    · intro u hu
      simp at hu
      subst hu
      rfl
  refine wpList_app _ hgd s x 33 33 ho base 24 i0 _ 8 Tryd.underlying33 hi0 hz0 hz1 hz2 rfl v L.length (L.map (Value.int .u64)) hv ho' _ 1 [.int .u64 c] hx hs (by unfold maxLen; omega) (by omega) (by rw [World.size_alloc]; omega) ?_
  intro v' w' o8 g8 m8
  refine h v' w' ?_ ⟨g8.os, g8.tape, g8.output, by have := g8.size; rw [World.size_alloc] at this; omega, fun k hk hn => (g8.block k (by rw [World.size_alloc]; omega) (fun e => hn (own_block hown e.symm).1)).trans (Below.heap_alloc w _ k hk)⟩
  unfold OwnQ
  rw [List.length_append, List.map_append]
  simpa using o8
/-- Whole numbers that are read. -/
def IntQ (w : World) (ad : Option Addr) (n : Nat) (L : List Int) : Prop := L.length = n ∧ (0 < n → ∃ b off, ad = some ⟨b, off, none⟩ ∧ ∀ i (_ : i < L.length), w.cell? ⟨b, off + i, none⟩ = some (.int .i64 L[i]))
theorem IntQ.below {w w' : World} {ad : Option Addr} {n : Nat} {L : List Int} (h : IntQ w ad n L) (hb : Below w.heap.size w w') : IntQ w' ad n L := by
  refine ⟨h.1, fun hp => ?_⟩
  obtain ⟨b, off, e, hc⟩ := h.2 hp
  exact ⟨b, off, e, fun i hi => (hb.cell (p := ⟨b, off + i, none⟩) (World.block_lt_of_cell? w _ (hc i hi))).trans (hc i hi)⟩
end Go.Proofs.YtfgmjgoegdiieaaDoor
