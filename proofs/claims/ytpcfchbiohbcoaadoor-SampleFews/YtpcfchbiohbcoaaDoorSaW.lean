/-
  SaW.
-/
import Derived.Test.YtpcfchbiohbcoaaDoorSaUq
namespace Go.Proofs.YtpcfchbiohbcoaaDoor
open Go Go.RowKit Go.Lib
set_option maxRecDepth 100000

theorem insert_any (ao : Option Addr) (n c i b base : Nat) (T : List Tr) (t : Tr) (w : World) (hO : OwnTr base w (.slice ao n c) T) (hi : i ≤ n) (hn : n ≤ 1000) (hb : Blk w b #[.int .u64 (bvI t.1), .int .u64 (bvI t.2)] 33) (hne : ∀ a, ao = some a → b ≠ a.block) (hbase : base ≤ w.heap.size) :
    Calls Tryd.prog 48 #[.slice ao n c, .int .i64 i, .slice (some ⟨b, 0, none⟩) 1 1] w fun e w' => ∃ v', e = .returned v' ∧ OwnTr base w' v' (T.take i ++ t :: T.drop i) ∧ MovB ao w v' ∧ Upd (fun k => ∃ a, ao = some a ∧ a.block = k) w w' := by
  have hl : T.length = n := (own_cap hO).1.symm
  rcases Nat.lt_or_eq_of_le hi with h1 | rfl
  · rcases hO.2 with ⟨e, _⟩ | ⟨g, cap, cur, e, hg, hh, hc1, hc2, hs, ht⟩
    · simp at e
      omega
    · simp only [Value.slice.injEq] at e
      obtain ⟨rfl, -, rfl⟩ := e
      rw [hl] at hc1 ht
      rcases Nat.lt_or_ge n c with h2 | h2
      · refine (insRoom_any g b n c i base cur T t w hh hl h1 hn h2 hc2 hs ht hb (hne _ rfl) hg).mono ?_
        rintro e w' ⟨v', rfl, h3, h5, h4⟩
        exact ⟨v', rfl, h3, fun k hk => Or.inl ⟨_, rfl, Option.some.inj (h5.symm.trans hk)⟩, h4.mono (fun k _ hk => ⟨_, rfl, hk.symm⟩)⟩
      · obtain rfl : c = n := by omega
        refine (insGrow_any g b c i base cur T t w hh hl h1 hn hs ht hb hbase).mono ?_
        rintro e w' ⟨v', rfl, h3, h7, h4⟩
        exact ⟨v', rfl, h3, fun k hk => Or.inr (by have := Option.some.inj (h7.symm.trans hk); omega), Upd.ofBelow h4 (fun k h5 h6 => by omega)⟩
  · refine (insEnd_any ao i c b base T t w hO hn hb hbase).mono ?_
    rintro e w' ⟨v', rfl, h3, h7, h4⟩
    refine ⟨v', rfl, ?_, h7, h4⟩
    rw [List.take_of_length_le (by omega), List.drop_eq_nil_of_le (by omega)]
    exact h3
theorem OwnTr.cut {base : Nat} {w : World} {ao : Option Addr} {n c m : Nat} {T : List Tr} (h : OwnTr base w (.slice ao n c) T) (hm : m ≤ n) : OwnTr base w (.slice ao m c) (T.take m) := by
  have hl : T.length = n := (own_cap h).1.symm
  have hml : (T.take m).length = m := by simp; omega
  rcases h.2 with ⟨e, h0⟩ | ⟨g, cap, cur, e, hg, hh, hc1, hc2, hs, ht⟩
  · simp only [Value.slice.injEq] at e
    obtain ⟨rfl, rfl, rfl⟩ := e
    obtain rfl : m = 0 := by omega
    exact ⟨by rw [trF_len], Or.inl ⟨rfl, by simp⟩⟩
  · simp only [Value.slice.injEq] at e
    obtain ⟨rfl, -, rfl⟩ := e
    rw [hl] at hc1 ht
    unfold OwnTr
    rw [hml]
    refine ⟨by rw [trF_len, hml], Or.inr ⟨g, c, cur, rfl, hg, hh, by omega, hc2, hs, ?_⟩⟩
    rw [← trF_take, ← ht, List.take_take, Nat.min_eq_left (by omega)]
theorem OwnTr.at {base : Nat} {w : World} {ao : Option Addr} {n c : Nat} {T : List Tr} (h : OwnTr base w (.slice ao n c) T) : TrAt w ao T := fun hp => by
  obtain ⟨g, cap, e, _, _, _, hx⟩ := own_some h hp
  simp at e
  have hget : ∀ i (hi : i < T.length) (j : Nat), j < 2 → (T.flatMap trC)[i * 2 + j]? = (trC T[i])[j]? := fun i hi j hj => by
    have h1 : ((T.flatMap trC).drop (i * 2))[j]? = (T.flatMap trC)[i * 2 + j]? := by rw [List.getElem?_drop]
    rw [← h1, trF_drop, List.drop_eq_getElem_cons hi, List.flatMap_cons, List.getElem?_append_left (by rw [trC_len]; exact hj)]
  have hc : ∀ i (hi : i < T.length), w.cell? ⟨g, i * 2, none⟩ = some (.int .u64 (bvI T[i].1)) ∧ w.cell? ⟨g, i * 2 + 1, none⟩ = some (.int .u64 (bvI T[i].2)) := fun i hi =>
    ⟨hx (i * 2) _ (by have := hget i hi 0 (by omega); rw [Nat.add_zero] at this; rw [this]; rfl), hx (i * 2 + 1) _ (by rw [hget i hi 1 (by omega)]; rfl)⟩
  exact ⟨g, e.1, World.block_lt_of_cell? w _ (hc 0 hp).1, hc⟩
/-- One more trace among the few. -/
def InF (most : Nat) (T : List Tr) (t : Tr) (T' : List Tr) (f : Bool) : Prop :=
  ∃ p, SpotF T t p ∧ ((f = true ∧ (∃ h : p < T.length, T[p] = t) ∧ T' = T) ∨ (f = false ∧ p = most ∧ T' = T) ∨ (f = true ∧ p < most ∧ (¬ ∃ h : p < T.length, T[p] = t) ∧ T' = (T.take p ++ t :: T.drop p).take most))
theorem cutF {T : List Tr} {t : Tr} {p most : Nat} (hp : p < most) (hl : T.length = most) : (T.take (most - 1)).take p ++ t :: (T.take (most - 1)).drop p = (T.take p ++ t :: T.drop p).take most := by
  rw [List.take_take, Nat.min_eq_left (by omega), List.drop_take]
  have h1 : (T.take p).length = p := by simp; omega
  rw [List.take_append, h1, List.take_of_length_le (i := most) (l := T.take p) (by omega), show most - p = (most - 1 - p) + 1 by omega, List.take_succ_cons]
set_option maxHeartbeats 4000000 in
theorem keep_any (ao : Option Addr) (n c base most : Nat) (T : List Tr) (t : Tr) (w : World) (hO : OwnTr base w (.slice ao n c) T) (hR : RiseF T) (hn : n ≤ most) (hm : 2 ≤ most ∧ most ≤ 1000) (hbase : base ≤ w.heap.size) :
    Calls Tryd.prog 31 #[.slice ao n c, .agg #[.int .u64 (bvI t.1), .int .u64 (bvI t.2)], .int .i64 most, .func (.func 32) #[] #[]] w fun e w' => ∃ v' f T', e = .returned (.tuple #[v', .bool f]) ∧ InF most T t T' f ∧ OwnTr base w' v' T' ∧ MovB ao w v' ∧ Upd (fun k => ∃ a, ao = some a ∧ a.block = k) w w' := by
  have hl : T.length = n := (own_cap hO).1.symm
  have b0 : Below w.heap.size w (w.alloc (.cells #[.int .u64 (bvI t.1), .int .u64 (bvI t.2)] 33)) := (Below.refl _ _).alloc (Nat.le_refl _) _
  have SE := search_any ao n c T t (w.alloc (.cells #[.int .u64 (bvI t.1), .int .u64 (bvI t.2)] 33)) (hO.at.below b0) hl hR (by omega)
  have HN : Hid (Blk (w.alloc (.cells #[.int .u64 (bvI t.1), .int .u64 (bvI t.2)] 33)) w.heap.size #[.int .u64 (bvI t.1), .int .u64 (bvI t.2)] 33 ∧ Below w.heap.size w (w.alloc (.cells #[.int .u64 (bvI t.1), .int .u64 (bvI t.2)] 33))) := ⟨Blk.new _ _ _, b0⟩
  have HO : Hid (OwnTr base w (.slice ao n c) T ∧ ∀ a, ao = some a → a.block < w.heap.size) := ⟨hO, fun a e => by
    rcases hO.2 with ⟨e', _⟩ | ⟨g, cap, cur, e', hg, hh, _⟩
    · simp [e] at e'
    · simp [e] at e'
      obtain ⟨rfl, _⟩ := e'
      exact lt_of_block hh⟩
  have hnm : (n : Int) ≤ (most : Int) := by omega
  have hm2 : (2 : Int) ≤ (most : Int) := by omega
  have hnc : (n : Int) ≤ (c : Int) := by have := (own_cap hO).2.1; omega
  have hw1 : IntKind.i64.wrap ((most : Int) - 1) = ((most - 1 : Nat) : Int) := by simp [IntKind.wrap, IntKind.bits, IntKind.signed]; omega
  clear hO b0
  go_enter Tryd.func31, Tryd.ntmps31
  go_upto_region 2 with (go_at_call 47; (with_reducible refine SE.mono ?_); clear SE; rintro e w1 ⟨p, f, rfl, hsp, hf, hb1⟩)
  have B1 : Below w.heap.size w w1 := HN.out.2.trans (hb1.mono HN.out.2.size)
  have K1 : Blk w1 w.heap.size #[.int .u64 (bvI t.1), .int .u64 (bvI t.2)] 33 := HN.out.1.below hb1 HN.out.1.lt
  have c0 : w1.cell? ⟨w.heap.size, 0, none⟩ = some (.int .u64 (bvI t.1)) := K1.cell 0 rfl
  have c1 : w1.cell? ⟨w.heap.size, 1, none⟩ = some (.int .u64 (bvI t.2)) := K1.cell 1 rfl
  have hpn : p ≤ n := by rw [← hl]; exact hsp.1
  have O1 : OwnTr base w1 (.slice ao n c) T := ownsRow_upd HO.out.1 (Upd.ofBelow (S := fun _ => False) B1 (fun k hk hk' => by omega)) (fun _ _ h => h)
  have U1 : Upd (fun k => ∃ a, ao = some a ∧ a.block = k) w w1 := Upd.ofBelow B1 (fun k h1 h2 => by omega)
  have HI : Hid (∀ m T2, OwnTr base w1 (.slice ao m c) T2 → p ≤ m → m ≤ 1000 → Calls Tryd.prog 48 #[.slice ao m c, .int .i64 p, .slice (some ⟨w1.heap.size, 0, none⟩) 1 1] (w1.alloc (.cells #[.int .u64 (bvI t.1), .int .u64 (bvI t.2)] 33)) fun e w' => ∃ v', e = .returned v' ∧ OwnTr base w' v' (T2.take p ++ t :: T2.drop p) ∧ MovB ao w v' ∧ Upd (fun k => ∃ a, ao = some a ∧ a.block = k) w w') := fun m T2 h2 h3 h4 => by
    have ba : Below w1.heap.size w1 (w1.alloc (.cells #[.int .u64 (bvI t.1), .int .u64 (bvI t.2)] 33)) := (Below.refl _ _).alloc (Nat.le_refl _) _
    refine (insert_any ao m c p w1.heap.size base T2 t _ (ownsRow_upd h2 (Upd.ofBelow (S := fun _ => False) ba (fun k hk hk' => by omega)) (fun _ _ h => h)) h3 h4 (Blk.new _ _ _) (fun a e h => by have := HO.out.2 a e; have := B1.size; omega) (by have := B1.size; have := ba.size; omega)).mono ?_
    rintro e w' ⟨v', rfl, h5, h9, h6⟩
    exact ⟨v', rfl, h5, fun k hk => (h9 k hk).imp id (fun h => by have := B1.size; have := ba.size; omega), (U1.trans (Upd.ofBelow (S := fun k => ∃ a, ao = some a ∧ a.block = k) ba (fun k h7 h8 => by omega)) (fun _ _ h => h)).trans h6 (fun _ _ h => h)⟩
  have HH : Hid (SpotF T t p ∧ OwnTr base w1 (.slice ao n c) T ∧ Upd (fun k => ∃ a, ao = some a ∧ a.block = k) w w1) := ⟨hsp, O1, U1⟩
  clear HN HO hb1 B1 K1 O1 U1 hsp
  cases f with
  | true =>
    have HF : Hid (∃ h : p < T.length, T[p] = t) := hf.1 rfl
    clear hf HI
    go_wp2
    go_ret2
    exact ⟨_, true, T, rfl, ⟨p, HH.out.1, Or.inl ⟨rfl, HF.out, rfl⟩⟩, HH.out.2.1, fun k hk => Or.inl (ownB hk), HH.out.2.2⟩
  | false =>
    have HF : Hid (¬ ∃ h : p < T.length, T[p] = t) := fun h => by cases hf.2 h
    clear hf
    by_cases hpm : p = most
    · have e1 : ((p : Int) == (most : Int)) = true := by simp [hpm]
      clear HI
      go_wp2
      go_ret2
      exact ⟨_, false, T, rfl, ⟨p, HH.out.1, Or.inr (Or.inl ⟨rfl, hpm, rfl⟩)⟩, HH.out.2.1, fun k hk => Or.inl (ownB hk), HH.out.2.2⟩
    · have e1 : ((p : Int) == (most : Int)) = false := by simp; omega
      by_cases hfull : n = most
      · have e2 : ((n : Int) == (most : Int)) = true := by simp [hfull]
        have I1 := HI.out (most - 1) (T.take (most - 1)) (HH.out.2.1.cut (by omega)) (by omega) (by omega)
        have hb1 : ((most - 1 : Nat) : Int) ≤ (c : Int) := by omega
        have hb2 : (0 : Int) ≤ ((most - 1 : Nat) : Int) := by omega
        clear HI
        go_wp2_with (go_at_call 48; refine I1.mono ?_; clear I1; rintro e w2 ⟨v', rfl, h5, h9, h6⟩)
        go_ret2
        exact ⟨v', true, _, rfl, ⟨p, HH.out.1, Or.inr (Or.inr ⟨rfl, by omega, HF.out, cutF (by omega) (by omega)⟩)⟩, h5, h9, h6⟩
      · have e2 : ((n : Int) == (most : Int)) = false := by simp; omega
        have I1 := HI.out n T HH.out.2.1 (by omega) (by omega)
        clear HI
        go_wp2_with (go_at_call 48; refine I1.mono ?_; clear I1; rintro e w2 ⟨v', rfl, h5, h9, h6⟩)
        go_ret2
        refine ⟨v', true, _, rfl, ⟨p, HH.out.1, Or.inr (Or.inr ⟨rfl, by omega, HF.out, ?_⟩)⟩, h5, h9, h6⟩
        refine (List.take_of_length_le ?_).symm
        simp
        omega
end Go.Proofs.YtpcfchbiohbcoaaDoor
