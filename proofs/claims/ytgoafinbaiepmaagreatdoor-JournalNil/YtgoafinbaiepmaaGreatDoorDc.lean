/-
  Layer 7 (disk): file.append, pending, settle, sync, restart.
-/
import Derived.Test.YtgoafinbaiepmaaGreatDoorDb
namespace Go.Proofs.YtgoafinbaiepmaaGreatDoor
open Go.RowKit Go.Shelf
set_option maxRecDepth 100000
/-- Hidden from the walk. -/
def Hid (p : Prop) : Prop := p
theorem Hid.out {p : Prop} (h : Hid p) : p := h

theorem Moved.old {w : World} {v v' : Value} {k : Nat} (hm : Moved w v v') (e : v'.ownBlock = some k) : v.ownBlock = some k ∨ w.heap.size ≤ k := by
  rcases hm with h1 | ⟨j, h1, h2⟩
  · exact Or.inl (h1 ▸ e)
  · rw [h1] at e; simp at e; exact Or.inr (by omega)
theorem own_cell {base : Nat} {w : World} {e : TypeId} {ao : Option Addr} {l c n : Nat} {xs : List Value} (h : w.ownsRow base e 1 (.slice ao l c) n xs) (hn : 0 < n) : ∃ g, ao = some ⟨g, 0, none⟩ ∧ ∀ j u, xs[j]? = some u → w.cell? ⟨g, j, none⟩ = some u := by
  rcases h.2 with ⟨e, hn⟩ | ⟨g, c', cur, e, h2, h3, h4, h5, h6, h7⟩
  · omega
  · simp at e; obtain ⟨rfl, rfl, rfl⟩ := e
    exact ⟨g, rfl, fun j u hj => by have := h.cells (g := g) rfl j u hj; rwa [Addr.add_lit, Nat.zero_add] at this⟩
/-- A file whose blocks are its own: where its next one's may lie. -/
structure Next (w : World) (f : Nat) (F G : Fl) : Prop where
  wr : ∀ k, FW f G k → FW f F k ∨ w.heap.size ≤ k
  st : ∀ s ∈ G.S, s ∈ F.S ∨ ∀ k, s.bl = some k → w.heap.size ≤ k

set_option maxHeartbeats 1000000 in
theorem fappend_any (base : Nat) (f : Nat) (F : Fl) (ad : Option Addr) (n c : Nat) (K : List Int) (w : World) (h : FileAt base w f F) (hb : base ≤ w.heap.size) (hH : Holds w ad n K) (hn : 0 < n) (hbig : F.B.length + n ≤ 140737488355328) (hmany : F.S.length ≤ 1000000000000) :
    Calls Tryz.prog 140 #[.pointer (some ⟨f, 0, none⟩), .slice ad n c] w fun e w' => e = .returned (.tuple #[]) ∧ ∃ bv sv s, FileAt base w' f ⟨bv, F.lv, sv, F.B ++ K, F.L, F.S ++ [s]⟩ ∧ s.cut = false ∧ s.n = n ∧ s.K = K ∧ Upd (FW f F) w w' ∧ Next w f F ⟨bv, F.lv, sv, F.B ++ K, F.L, F.S ++ [s]⟩ := by
  have hl := hH.len
  obtain ⟨b0, o0, rfl⟩ := hH.some_of (by omega)
  have CL := clone_some ⟨b0, o0, none⟩ n c K w hH (by omega)
  have hz : (0 : Int) < (n : Int) := by omega
  have ST : ∀ (w1 : World) (ao : Option Addr) (c1 : Nat), Below w.heap.size w w1 → OwnB w.heap.size w1 (.slice ao n c1) K → Calls Tryz.prog 176 #[.pointer (some ⟨f, 0, none⟩), .iface 275 (.agg #[.slice ao n c1])] w1 fun e w' => e = .returned (.tuple #[]) ∧ ∃ bv sv s, FileAt base w' f ⟨bv, F.lv, sv, F.B ++ K, F.L, F.S ++ [s]⟩ ∧ s.cut = false ∧ s.n = n ∧ s.K = K ∧ Upd (FW f F) w w' ∧ Next w f F ⟨bv, F.lv, sv, F.B ++ K, F.L, F.S ++ [s]⟩ := by
    intro w1 ao c1 b1 o1
    have hsz := b1.size
    have hbl : ∀ k, (⟨false, n, ao, c1, K⟩ : St).bl = some k → w.heap.size ≤ k := fun k e => (o1.lt (St.bl_own e).2).2
    refine (fstep_app base f F ⟨false, n, ao, c1, K⟩ rfl w1 (h.below b1) (by omega) ⟨fun _ => o1.base hb, by simp only; omega⟩ (fun e => by simp at e) (fun _ => ⟨hl, hn⟩) (fun k e => ?_) (by simpa [St.units] using hbig) hmany).mono ?_
    · have := hbl k e
      exact ⟨fun e2 => by have := (h.bown.lt e2).1; omega, fun e2 => by have := (h.lown.lt e2).1; omega⟩
    · rintro e w' ⟨rfl, bv, sv, h2, u2, m1, m2⟩
      have e2 : (⟨false, n, ao, c1, K⟩ : St).on F.B (⟨false, n, ao, c1, K⟩ : St).units = F.B ++ K := by
        simp [St.on, St.units]
        rw [if_neg (by omega), List.take_of_length_le (by omega)]
      rw [e2] at h2
      refine ⟨rfl, bv, sv, _, h2, rfl, rfl, rfl, (Upd.ofBelow b1 (fun k h1 h2 => by omega)).trans u2 (fun _ _ h => h), ⟨fun k hk => ?_, fun s hs => ?_⟩⟩
      · rcases hk with hk | hk | hk | hk
        · exact Or.inl (Or.inl hk)
        · exact (m1.old hk).elim (fun e => Or.inl (Or.inr (Or.inl e))) (fun e => Or.inr (by omega))
        · exact Or.inl (Or.inr (Or.inr (Or.inl hk)))
        · exact (m2.old hk).elim (fun e => Or.inl (Or.inr (Or.inr (Or.inr e)))) (fun e => Or.inr (by omega))
      · rcases List.mem_append.1 hs with h3 | h3
        · exact Or.inl h3
        · rw [List.mem_singleton.1 h3]; exact Or.inr hbl
  obtain ⟨Q, hQ⟩ : ∃ Q : World → Prop, Q = fun w' => ∃ bv sv s, FileAt base w' f ⟨bv, F.lv, sv, F.B ++ K, F.L, F.S ++ [s]⟩ ∧ s.cut = false ∧ s.n = n ∧ s.K = K ∧ Upd (FW f F) w w' ∧ Next w f F ⟨bv, F.lv, sv, F.B ++ K, F.L, F.S ++ [s]⟩ := ⟨_, rfl⟩
  have ST2 : ∀ (w1 : World) (ao : Option Addr) (c1 : Nat), Below w.heap.size w w1 → OwnB w.heap.size w1 (.slice ao n c1) K → Calls Tryz.prog 176 #[.pointer (some ⟨f, 0, none⟩), .iface 275 (.agg #[.slice ao n c1])] w1 fun e w' => e = .returned (.tuple #[]) ∧ Q w' := fun w1 ao c1 b o => by rw [hQ]; exact ST w1 ao c1 b o
  suffices H : Calls Tryz.prog 140 #[.pointer (some ⟨f, 0, none⟩), .slice (some ⟨b0, o0, none⟩) n c] w fun e w' => e = .returned (.tuple #[]) ∧ Q w' by rw [hQ] at H; exact H
  have SH : ∀ (v : Value) (w1 : World), OwnB w.heap.size w1 v K → ∃ ao c1, v = .slice ao n c1 := fun v w1 o => by obtain ⟨ao, c1, e, _⟩ := o.shape; rw [hl] at e; exact ⟨ao, c1, e⟩
  clear ST hQ h hH hl hbig hmany
  go_enter Tryz.func140, Tryz.ntmps140
  go_wp2_with (first
    | (go_at_call 69; refine CL.mono ?_; clear CL; rintro e w1 ⟨v1, rfl, o1, b1⟩; obtain ⟨ao1, c1, rfl⟩ := SH _ _ o1; clear SH)
    | (go_at_call 176; refine (ST2 _ _ _ b1 o1).mono ?_; clear ST2; rintro e w2 ⟨rfl, q2⟩))
  go_returns
  exact ⟨rfl, q2⟩
theorem fappend_none (f : Nat) (ad : Option Addr) (c : Nat) (w : World) : Calls Tryz.prog 140 #[.pointer (some ⟨f, 0, none⟩), .slice ad 0 c] w fun e w' => e = .returned (.tuple #[]) ∧ w' = w := by
  go_enter Tryz.func140, Tryz.ntmps140
  go_wp2
  go_returns
  exact ⟨rfl, rfl⟩

theorem drop_cons {α : Type} {S : List α} {k : Nat} (hk : k < S.length) : S.drop k = S[k] :: S.drop (k + 1) := List.drop_eq_getElem_cons hk
theorem units_drop {S : List St} {k : Nat} (hk : k < S.length) : unitsL (S.drop k) = S[k].units + unitsL (S.drop (k + 1)) := by
  rw [drop_cons hk]; unfold unitsL; rw [List.map_cons, List.sum_cons]
theorem units_take {S : List St} {k : Nat} (hk : k < S.length) : unitsL (S.take (k + 1)) = unitsL (S.take k) + S[k].units := by
  unfold unitsL
  rw [List.take_succ_eq_append_getElem hk, List.map_append, List.sum_append, List.map_cons, List.map_nil, List.sum_cons, List.sum_nil, Nat.add_zero]
theorem units_take_le (S : List St) (k : Nat) : unitsL (S.take k) ≤ unitsL S := by
  have : unitsL S = unitsL (S.take k) + unitsL (S.drop k) := by
    unfold unitsL
    rw [← List.sum_append, ← List.map_append, List.take_append_drop]
  omega
set_option maxHeartbeats 2000000 in
theorem fpending_any (base : Nat) (f : Nat) (F : Fl) (w : World) (h : FileAt base w f F) (hU : unitsL F.S ≤ 4611686018427387904) :
    Calls Tryz.prog 95 #[.pointer (some ⟨f, 0, none⟩)] w fun e w' => e = .returned (.int .i64 (unitsL F.S)) ∧ Below w.heap.size w w' := by
  obtain ⟨c0, c1, c2⟩ := cell3 h.block
  obtain ⟨ao, l, c, hsv⟩ := row_shape h.sown
  have ho := h.sown
  rw [hsv] at ho c2
  obtain ⟨e1, hl1, hl2⟩ := own_len ho
  subst e1
  have hnb : F.S.length ≤ 9223372036854775807 := by unfold maxLen at hl2; omega
  clear hl1 hl2
  have HO : Hid _ := ho
  have HU : Hid _ := hU
  obtain ⟨n, hnn⟩ : ∃ n, F.S.length = n := ⟨_, rfl⟩
  have HN : Hid _ := hnn
  rw [hnn] at c2 hnb
  clear c0 c1 ho hsv h hU hnn
  generalize F.S = S at *
  have m1 := meth_app
  have m2 := meth_cut
  go_enter Tryz.func95, Tryz.ntmps95
  go_wp2
  go_loopw [3, 11] (fun a b wr => ∃ (k : Nat), b = .int .i64 k ∧ k ≤ n ∧ a = .int .i64 (unitsL (S.take k)) ∧ Below w.heap.size w wr) (fun _ b _ => n - (intOf b).toNat)
  case atStart => exact ⟨0, rfl, by omega, by simp [unitsL], Below.refl _ _⟩
  case round =>
    obtain ⟨k, rfl, hk, rfl, hb⟩ := hrel
    have hsz := hb.size
    by_cases hlt : k < n
    · have hz : (k : Int) < (n : Int) := by omega
      have hkS : k < S.length := by have := HN.out; omega
      obtain ⟨g, rfl, hc⟩ := own_cell (own_below HO.out hb) (by omega)
      have cS := hc k S[k].v (by simp [hkS])
      have HT : Hid (unitsL (S.take (k + 1)) = _) := units_take hkS
      have hle := units_take_le S (k + 1)
      have hwr : ((unitsL (S.take k) : Nat) : Int) + ((S[k].units : Nat) : Int) ≤ 4611686018427387904 := by
        have := HU.out
        rw [HT.out] at hle
        omega
      clear hc hle
      generalize S[k] = s at *
      generalize unitsL (S.take k) = uk at *
      obtain ⟨ct, sn, sa, sc, sK⟩ := s
      cases ct with
      | true =>
        simp only [St.v, St.units, if_true] at cS hwr HT
        have hwr' : (uk : Int) + 1 ≤ 4611686018427387904 := hwr
        have ub := fun W => units_cut (.int .i64 (sn : Int)) W
        go_wp2_with (go_at_call 293; refine (ub _).mono ?_; rintro e w1 ⟨rfl, b1⟩)
        go_roundw
        case rel => exact ⟨k + 1, by go_num, by omega, by rw [HT.out]; simp, hb.trans (b1.mono hsz)⟩
        case measure => simp [intOf]; omega
      | false =>
        simp only [St.v, St.units, Bool.false_eq_true, if_false] at cS hwr HT
        have ub := fun W => units_app sa sn sc W
        go_wp2_with (go_at_call 292; refine (ub _).mono ?_; rintro e w1 ⟨rfl, b1⟩)
        go_roundw
        case rel => exact ⟨k + 1, by go_num, by omega, by rw [HT.out]; simp, hb.trans (b1.mono hsz)⟩
        case measure => simp [intOf]; omega
    · have hz : ¬ (k : Int) < (n : Int) := by omega
      have HE : Hid (S.take k = S) := List.take_of_length_le (by have := HN.out; omega)
      go_wp2
      go_ret
      exact ⟨by rw [HE.out]; rfl, hb⟩
end Go.Proofs.YtgoafinbaiepmaaGreatDoor
