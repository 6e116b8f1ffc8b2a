/-
  SbC.
-/
import Derived.Test.YtdodempnkkkbmaaDoorSbB
namespace Go.Proofs.YtdodempnkkkbmaaDoor
open Go Go.RowKit Go.Lib
set_option maxRecDepth 100000

theorem TrAt.src {w : World} {g : Nat} {T : List Tr} (h : TrAt w (some ⟨g, 0, none⟩) T) (hn : 0 < T.length) (c : Nat) : Src Tryd.prog 2 22 (.slice (some ⟨g, 0, none⟩) T.length c) T.length (T.flatMap trC) w := by
  obtain ⟨b, e, _, hc⟩ := h hn
  injection e with e
  injection e with e _ _
  subst e
  refine Src.ofSlice _ Tryd.underlying22 _ T.length c _ (by rw [trF_len]) ?_ (trF_one T)
  intro j u hj
  have hjl : j < T.length * 2 := by
    rw [← trF_len]
    exact (List.getElem?_eq_some_iff.mp hj).1
  rw [Addr.add_lit, Nat.zero_add]
  have e : j = j / 2 * 2 + j % 2 := by omega
  have hi : j / 2 < T.length := by omega
  have h1 : ((T.flatMap trC).drop (j / 2 * 2))[j % 2]? = (T.flatMap trC)[j]? := by rw [List.getElem?_drop, ← e]
  rw [hj, trF_drop, List.drop_eq_getElem_cons hi, List.flatMap_cons, List.getElem?_append_left (by rw [trC_len]; omega)] at h1
  have h2 := hc (j / 2) hi
  rcases Nat.mod_two_eq_zero_or_one j with h3 | h3
  · rw [h3] at h1 e
    rw [e, Nat.add_zero, h2.1]
    exact h1
  · rw [h3] at h1 e
    rw [e, h2.2]
    exact h1
theorem clone0_any (w : World) : Calls Tryd.prog 17 #[.slice none 0 0] w fun e w' => e = .returned (.slice none 0 0) ∧ Below w.heap.size w w' := by
  have hq := run_eql_slice_nil (P := Tryd.prog) w 22 32 none 0 0 Tryd.underlying22
  have BB : Hid (Below w.heap.size w w) := Below.refl _ _
  go_enter Tryd.func17, Tryd.ntmps17
  go_wp2
  go_ret
  exact ⟨rfl, BB.out⟩
theorem cloneS_any (g n c : Nat) (T : List Tr) (w : World) (hA : TrAt w (some ⟨g, 0, none⟩) T) (hl : T.length = n) (hn2 : n ≤ 1000) : Calls Tryd.prog 17 #[.slice (some ⟨g, 0, none⟩) n c] w fun e w' => ∃ v', e = .returned v' ∧ OwnTr w.heap.size w' v' T ∧ Below w.heap.size w w' := by
  have hq := run_eql_slice_nil (P := Tryd.prog) w 22 32 (some ⟨g, 0, none⟩) n c Tryd.underlying22
  obtain ⟨i0, hi0, hz0, hz1, hz2⟩ := info_parts infoTr
  have b0 : Below w.heap.size w (w.alloc (.cells #[] 32)) := (Below.refl _ _).alloc (Nat.le_refl _) _
  have hS : Src Tryd.prog 2 22 (.slice (some ⟨g, 0, none⟩) n c) n (T.flatMap trC) (w.alloc (.cells #[] 32)) := by
    rcases Nat.eq_zero_or_pos T.length with h | h
    · obtain rfl : T = [] := List.eq_nil_of_length_eq_zero h
      obtain rfl : n = 0 := hl.symm
      exact Src.ofSlice _ Tryd.underlying22 _ 0 c [] rfl (fun j u h => by simp at h) (fun u h => by cases h)
    · have := (hA.below b0).src h c
      rwa [hl] at this
  have h0 : (w.alloc (.cells #[] 32)).ownsRow w.heap.size 32 2 (.slice (some ⟨w.heap.size, 0, none⟩) 0 0) 0 [] := World.ownsRow_lit w #[] 0 (Nat.le_refl _) (by simp [maxLen]) rfl
  have HB : Hid (Below w.heap.size w (w.alloc (.cells #[] 32))) := b0
  clear hA b0
  go_enter Tryd.func17, Tryd.ntmps17
  go_wp2_with (at_builtin; refine wpList_appW (w.alloc (.cells #[] 32)) rfl (.tmp 5) (.tmp 6) 22 22 rfl w.heap.size 32 i0 _ 2 16 Tryd.underlying22 hi0 hz0 hz1 hz2 rfl _ 0 [] rfl h0 _ n (T.flatMap trC) rfl hS (by unfold maxLen; omega) (by omega) (by simp) ?_; intro v1 w1 o1 g1 m1)
  go_ret
  refine ⟨v1, rfl, ?_, HB.out.trans (((Upd.refl (fun k => w.heap.size ≤ k) _).grown g1 (fun k _ e => ?_)).below HB.out.size (fun k h1 h2 => by omega))⟩
  · unfold OwnTr
    rw [hl]
    simpa using o1
  · have : (Value.slice (some ⟨w.heap.size, 0, none⟩) 0 0).ownBlock = some k := e
    simp [Value.ownBlock] at this
    show w.heap.size ≤ k
    omega
theorem tracesF_any (f base most : Nat) (T : List Tr) (w : World) (hF : FewAt w f base most T) :
    Calls Tryd.prog 8 #[.pointer (some ⟨f, 0, none⟩)] w fun e w' => ∃ ao c, e = .returned (.slice ao T.length c) ∧ TrAt w' ao T ∧ Below w.heap.size w w' := by
  obtain ⟨ao, c, hf, hO⟩ := hF.row
  have hlen := hF.len
  have hmost := hF.most
  have CL : Calls Tryd.prog 17 #[.slice ao T.length c] w fun e w' => ∃ ao' c', e = .returned (.slice ao' T.length c') ∧ TrAt w' ao' T ∧ Below w.heap.size w w' := by
    rcases hO.2 with ⟨e, h0⟩ | ⟨g, cap, cur, e, _⟩
    · simp only [Value.slice.injEq] at e
      obtain ⟨rfl, h1, rfl⟩ := e
      rw [h1]
      refine (clone0_any w).mono ?_
      rintro e w' ⟨rfl, hb⟩
      exact ⟨none, 0, rfl, fun hp => absurd hp (by omega), hb⟩
    · simp only [Value.slice.injEq] at e
      obtain ⟨rfl, -, rfl⟩ := e
      refine (cloneS_any g T.length c T w hO.at rfl (by omega)).mono ?_
      rintro e w' ⟨v', rfl, ho, hb⟩
      obtain ⟨ao', c', e'⟩ : ∃ ao' c', v' = .slice ao' T.length c' := by
        rcases ho.2 with ⟨e, h0⟩ | ⟨g, cap, cur, e, _⟩
        · exact ⟨none, 0, by rw [e, h0]⟩
        · exact ⟨_, _, e⟩
      subst e'
      exact ⟨_, _, rfl, ho.at, hb⟩
  have c1 : w.cell? ⟨f, 1, none⟩ = some (.slice ao T.length c) := hf.cell 1 rfl
  clear hF hf hO
  go_enter Tryd.func8, Tryd.ntmps8
  go_wp2_with (go_at_call 17; (with_reducible refine CL.mono ?_); clear CL; rintro e w1 ⟨ao', c', rfl, h1, h2⟩)
  go_ret
  exact ⟨ao', c', rfl, h1, h2⟩
end Go.Proofs.YtdodempnkkkbmaaDoor
