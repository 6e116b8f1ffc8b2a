/-
  RzJ.
-/
import Derived.Test.YtiflfapdffkcbaaGreatDoorRzI
import Derived.Test.YtiflfapdffkcbaaGreatDoorSYq
namespace Go.Proofs.YtiflfapdffkcbaaGreatDoor
open Go Go.RowKit Go.Maps Go.WideMaps
set_option maxRecDepth 100000

/-- A store that has the spans L; the blocks S are its own. -/
structure StQ (w : World) (s : Nat) (S : Nat → Prop) (L : List Sp) : Prop where
  ex : ∃ b M T X, StoreAt w s b M T X ∧ spsX X = L ∧ (∀ k, FT s b M T k → S k) ∧ (∀ x ∈ X, ∀ k, x.lo ≤ k → k < x.hi → S k)
  lt : ∀ k, S k → k < w.heap.size
  few : L.length ≤ 100000
  each : ∀ t, cntL L t ≤ 1000
theorem StQ.names {w : World} {s : Nat} {S : Nat → Prop} {L : List Sp} (h : StQ w s S L) : Names L := by
  obtain ⟨b, M, T, X, h1, rfl, _⟩ := h.ex
  have := h1.nodup
  unfold Names spsX
  rw [List.map_map]
  exact this
theorem StQ.upd {w w' : World} {s : Nat} {S R : Nat → Prop} {L : List Sp} (h : StQ w s S L) (hu : Upd R w w') (hd : ∀ k, R k → ¬ S k) : StQ w' s S L := by
  obtain ⟨b, M, T, X, h1, h2, h3, h4⟩ := h.ex
  exact ⟨⟨b, M, T, X, h1.upd hu (fun k hk hr => hd k hr (h3 k hk)) (fun x hx k k1 k2 hr => hd k hr (h4 x hx k k1 k2)), h2, h3, h4⟩, fun k hk => Nat.lt_of_lt_of_le (h.lt k hk) hu.size, h.few, h.each⟩
theorem StQ.below {w w' : World} {s : Nat} {S : Nat → Prop} {L : List Sp} (h : StQ w s S L) (hb : Below w.heap.size w w') : StQ w' s S L :=
  h.upd (R := fun _ => False) (Upd.ofBelow hb (fun k h1 h2 => by omega)) (fun _ h => h.elim)
theorem hf_step {L0 L : List Sp} {E : List (Nm × Value)} (a : Sp) (hf : ∀ n, (findL L n).isSome = ((findL L0 n).isSome || (lookE E n).isSome)) (n : Nm) : (findL (putLs L a) n).isSome = ((findL L0 n).isSome || (lookE (newLS L0 E a) n).isSome) := by
  have hfa := hf (nmS a)
  unfold putLs newLS
  cases hc : findL L (nmS a) with
  | none =>
    rw [hc] at hfa
    simp only [Option.isSome_none, Bool.false_eq, Bool.or_eq_false_iff] at hfa
    simp only [hfa.1, Bool.false_eq_true, if_false]
    rw [look_set]
    unfold findL
    rw [List.find?_append]
    have hn := hf n
    unfold findL at hn hc
    by_cases e : n = nmS a
    · subst e
      rw [hc]
      simp
    · have e2 : ¬ nmS a = n := fun h => e h.symm
      rw [if_neg e, ← hn]
      simp [e2]
  | some y =>
    rw [hc] at hfa
    have hy := findL_some hc
    have hE : (findL (if cmpP a y ≤ 0 then L else L.map (fun z => if nmS z = nmS a then a else z)) n).isSome = (findL L n).isSome := by
      split
      · rfl
      · unfold findL
        rw [Bool.eq_iff_iff, List.find?_isSome, List.find?_isSome]
        constructor
        · rintro ⟨z, hz, e⟩
          obtain ⟨q, hq, rfl⟩ := List.mem_map.1 hz
          refine ⟨q, hq, ?_⟩
          by_cases e2 : nmS q = nmS a
          · rw [if_pos e2] at e
            rw [e2]
            exact e
          · rwa [if_neg e2] at e
        · rintro ⟨z, hz, e⟩
          refine ⟨_, List.mem_map.2 ⟨z, hz, rfl⟩, ?_⟩
          by_cases e2 : nmS z = nmS a
          · rw [if_pos e2, ← e2]
            exact e
          · rw [if_neg e2]
            exact e
    simp only []
    rw [hE, hf n]
    split
    · rfl
    · rename_i h0
      rw [look_set]
      by_cases e : n = nmS a
      · subst e
        simp only [if_true, Option.isSome_some]
        rw [show (lookE E (nmS a)).isSome = true by
          have h0' : (findL L0 (nmS a)).isSome = false := by simpa using h0
          rw [h0', Bool.false_or] at hfa
          exact hfa.symm]
      · rw [if_neg e]
/-- How many names come in. -/
theorem len_put9 : ∀ (Y L0 L : List Sp) (E : List (Nm × Value)), (∀ n, (findL L n).isSome = ((findL L0 n).isSome || (lookE E n).isSome)) → L.length = L0.length + E.length → (Y.foldl putLs L).length = L0.length + (Y.foldl (newLS L0) E).length
  | [], _, _, _, _, h => h
  | a :: r, L0, L, E, hf, hl => by
    rw [List.foldl_cons, List.foldl_cons]
    refine len_put9 r L0 (putLs L a) (newLS L0 E a) (fun n => ?_) ?_
    · exact hf_step a hf n
    · have hfa := hf (nmS a)
      unfold putLs newLS
      cases hc : findL L (nmS a) with
      | none =>
        rw [hc] at hfa
        simp only [Option.isSome_none, Bool.false_eq, Bool.or_eq_false_iff] at hfa
        simp only [hfa.1, Bool.false_eq_true, if_false]
        rw [len_set, hfa.2]
        simp
        omega
      | some y =>
        rw [hc] at hfa
        have h1 : (if cmpP a y ≤ 0 then L else L.map (fun z => if nmS z = nmS a then a else z)).length = L.length := by split <;> simp
        simp only []
        rw [h1, hl]
        split
        · rfl
        · rename_i h0
          have h0' : (findL L0 (nmS a)).isSome = false := by simpa using h0
          rw [h0', Bool.false_or] at hfa
          rw [len_set, ← hfa]
          simp
theorem cnt_app9 (L : List Sp) (a : Sp) (t : Tc) : cntL (L ++ [a]) t = cntL L t + if (nmS a).1 = t then 1 else 0 := by
  unfold cntL
  rw [List.filter_append, List.length_append]
  by_cases h : (nmS a).1 = t <;> simp [h]
theorem cnt_map9 (L : List Sp) (a : Sp) (t : Tc) : cntL (L.map (fun z => if nmS z = nmS a then a else z)) t = cntL L t := by
  unfold cntL
  rw [List.filter_map, List.length_map]
  congr 2
  funext z
  simp only [Function.comp]
  by_cases h : nmS z = nmS a
  · simp only [h, if_true]
  · simp only [h, if_false]
theorem cnt_put9 (t : Tc) : ∀ (Y L0 L : List Sp) (E : List (Nm × Value)), (∀ n, (findL L n).isSome = ((findL L0 n).isSome || (lookE E n).isSome)) → cntL L t = cntL L0 t + cntE E t → cntL (Y.foldl putLs L) t = cntL L0 t + cntE (Y.foldl (newLS L0) E) t
  | [], _, _, _, _, h => h
  | a :: r, L0, L, E, hf, hl => by
    rw [List.foldl_cons, List.foldl_cons]
    refine cnt_put9 t r L0 (putLs L a) (newLS L0 E a) (fun n => hf_step a hf n) ?_
    have hfa := hf (nmS a)
    unfold putLs newLS
    cases hc : findL L (nmS a) with
    | none =>
      rw [hc] at hfa
      simp only [Option.isSome_none, Bool.false_eq, Bool.or_eq_false_iff] at hfa
      simp only [hfa.1, Bool.false_eq_true, if_false]
      rw [cnt_set, hfa.2, cnt_app9, hl]
      simp
      omega
    | some y =>
      rw [hc] at hfa
      have h1 : cntL (if cmpP a y ≤ 0 then L else L.map (fun z => if nmS z = nmS a then a else z)) t = cntL L t := by
        split
        · rfl
        · exact cnt_map9 L a t
      simp only []
      rw [h1, hl]
      split
      · rfl
      · rename_i h0
        have h0' : (findL L0 (nmS a)).isSome = false := by simpa using h0
        rw [h0', Bool.false_or] at hfa
        rw [cnt_set, ← hfa]
        simp
/-- What fits, by what comes of it alone. -/
def roomR (R : List Sp) : Int := if R.any (fun a => decide (1000 < cntL R (nmS a).1)) = true then 91 else if 100000 < R.length then 92 else 0
theorem cntE_pos {E : List (Nm × Value)} {t : Tc} (h : 0 < cntE E t) : ∃ e ∈ E, e.1.1 = t := by
  unfold cntE at h
  obtain ⟨e, he⟩ := List.exists_mem_of_length_pos h
  have := List.mem_filter.1 he
  exact ⟨e, this.1, of_decide_eq_true this.2⟩
theorem cntL_pos {L : List Sp} {t : Tc} (h : 0 < cntL L t) : ∃ a ∈ L, (nmS a).1 = t := by
  unfold cntL at h
  obtain ⟨e, he⟩ := List.exists_mem_of_length_pos h
  have := List.mem_filter.1 he
  exact ⟨e, this.1, of_decide_eq_true this.2⟩
theorem room_put {L Y : List Sp} (hL : ∀ t, cntL L t ≤ 1000) : roomL L (newL L Y) = roomR (Y.foldl putLs L) := by
  have hc : ∀ t, cntL (Y.foldl putLs L) t = cntL L t + cntE (newL L Y) t := fun t => cnt_put9 t Y L L [] (fun n => by simp [lookE]) (by simp [cntE])
  have hl : (Y.foldl putLs L).length = L.length + (newL L Y).length := len_put9 Y L L [] (fun n => by simp [lookE]) (by simp)
  have hany : (newL L Y).any (fun e => decide (1000 < cntL L e.1.1 + cntE (newL L Y) e.1.1)) = (Y.foldl putLs L).any (fun a => decide (1000 < cntL (Y.foldl putLs L) (nmS a).1)) := by
    rw [Bool.eq_iff_iff, List.any_eq_true, List.any_eq_true]
    constructor
    · rintro ⟨e, he, h⟩
      have h1 := of_decide_eq_true h
      rw [← hc] at h1
      obtain ⟨a, ha, e1⟩ := cntL_pos (show 0 < cntL (Y.foldl putLs L) e.1.1 by omega)
      exact ⟨a, ha, by rw [e1]; exact decide_eq_true h1⟩
    · rintro ⟨a, ha, h⟩
      have h1 := of_decide_eq_true h
      rw [hc] at h1
      have h2 := hL (nmS a).1
      obtain ⟨e, he, e1⟩ := cntE_pos (show 0 < cntE (newL L Y) (nmS a).1 by omega)
      exact ⟨e, he, by rw [e1]; exact decide_eq_true h1⟩
  unfold roomL roomR
  rw [hany, hl]
theorem fits_all0 {L Y : List Sp} (h : fitsL L Y = 0) : ∀ a ∈ Y, chkS a = 0 := fun a ha => by
  unfold fitsL at h
  cases hf : Y.find? (fun a => decide (chkS a ≠ 0)) with
  | some y =>
    rw [hf] at h
    have := List.find?_some hf
    simp at this
    exact absurd h this
  | none =>
    have := List.find?_eq_none.1 hf a ha
    simpa using this
theorem fits_put {L Y : List Sp} (hL : ∀ t, cntL L t ≤ 1000) (hY : ∀ a ∈ Y, chkS a = 0) : fitsL L Y = roomR (runP L Y).1 := by
  rw [run_eq, ← room_put hL]
  have : Y.find? (fun a => decide (chkS a ≠ 0)) = none := by
    rw [List.find?_eq_none]
    intro a ha
    simp [hY a ha]
  unfold fitsL
  rw [this]
theorem roomR_zero {R : List Sp} : roomR R = 0 ↔ (∀ t, cntL R t ≤ 1000) ∧ R.length ≤ 100000 := by
  unfold roomR
  constructor
  · intro h
    split at h
    · omega
    · rename_i h0
      split at h
      · omega
      · refine ⟨fun t => ?_, by omega⟩
        rcases Nat.lt_or_ge 1000 (cntL R t) with h1 | h1
        · obtain ⟨a, ha, e⟩ := cntL_pos (show 0 < cntL R t by omega)
          exact absurd (List.any_eq_true.2 ⟨a, ha, by rw [e]; exact decide_eq_true h1⟩) h0
        · exact h1
  · rintro ⟨h1, h2⟩
    rw [if_neg, if_neg (by omega)]
    intro h
    obtain ⟨a, _, h3⟩ := List.any_eq_true.1 h
    have := of_decide_eq_true h3
    have := h1 (nmS a).1
    omega
theorem fits_each {L Y : List Sp} (hL : ∀ t, cntL L t ≤ 1000) (h : fitsL L Y = 0) : ∀ t, cntL (runP L Y).1 t ≤ 1000 := by
  rw [fits_put hL (fits_all0 h)] at h
  exact (roomR_zero.1 h).1
/-- Fewer names, fewer spans. -/
theorem names_le {A B : List Sp} (hA : Names A) (h : ∀ x ∈ A, ∃ y ∈ B, nmS y = nmS x) : A.length ≤ B.length ∧ ∀ t, cntL A t ≤ cntL B t := by
  constructor
  · have := List.Nodup.length_le_of_subset (l₁ := A.map nmS) (l₂ := B.map nmS) hA (fun n hn => by
      obtain ⟨x, hx, rfl⟩ := List.mem_map.1 hn
      obtain ⟨y, hy, e⟩ := h x hx
      exact List.mem_map.2 ⟨y, hy, e⟩)
    simpa using this
  · intro t
    unfold cntL
    have hs : ((A.filter (fun a => decide ((nmS a).1 = t))).map nmS).Nodup := List.Nodup.sublist (List.Sublist.map nmS List.filter_sublist) hA
    have := hs.length_le_of_subset (l₂ := (B.filter (fun a => decide ((nmS a).1 = t))).map nmS) (fun n hn => by
      obtain ⟨x, hx, rfl⟩ := List.mem_map.1 hn
      obtain ⟨hx1, hx2⟩ := List.mem_filter.1 hx
      obtain ⟨y, hy, e⟩ := h x hx1
      exact List.mem_map.2 ⟨y, List.mem_filter.2 ⟨hy, by rw [e]; exact hx2⟩, e⟩)
    simpa using this
theorem roomR_names {A B : List Sp} (hA : Names A) (hB : Names B) (h : ∀ n, (∃ x ∈ A, nmS x = n) ↔ ∃ y ∈ B, nmS y = n) : roomR A = roomR B := by
  have h1 := names_le hA (fun x hx => (h (nmS x)).1 ⟨x, hx, rfl⟩)
  have h2 := names_le hB (fun x hx => (h (nmS x)).2 ⟨x, hx, rfl⟩)
  have hl : A.length = B.length := Nat.le_antisymm h1.1 h2.1
  have hc : ∀ t, cntL A t = cntL B t := fun t => Nat.le_antisymm (h1.2 t) (h2.2 t)
  unfold roomR
  rw [hl]
  have : A.any (fun a => decide (1000 < cntL A (nmS a).1)) = B.any (fun a => decide (1000 < cntL B (nmS a).1)) := by
    rw [Bool.eq_iff_iff, List.any_eq_true, List.any_eq_true]
    constructor
    · rintro ⟨a, ha, e⟩
      obtain ⟨y, hy, e2⟩ := (h (nmS a)).1 ⟨a, ha, rfl⟩
      exact ⟨y, hy, by rw [e2, ← hc]; exact e⟩
    · rintro ⟨a, ha, e⟩
      obtain ⟨y, hy, e2⟩ := (h (nmS a)).2 ⟨a, ha, rfl⟩
      exact ⟨y, hy, by rw [e2, hc]; exact e⟩
  rw [this]
/-- The names of what a row of puts leaves. -/
theorem fold_names {L : List Sp} (hL : Names L) (Y : List Sp) (n : Nm) : (∃ x ∈ Y.foldl putLs L, nmS x = n) ↔ ∃ x, (x ∈ L ∨ x ∈ Y) ∧ nmS x = n := by
  constructor
  · rintro ⟨x, hx, e⟩
    exact ⟨x, (((fold_top Y hL).2 x).1 hx).1, e⟩
  · rintro ⟨x, hx, e⟩
    obtain ⟨z, hz, e2, _⟩ := fold_dom Y hL x hx
    exact ⟨z, hz, e2.trans e⟩
theorem fits_few {L Y : List Sp} (h : fitsL L Y = 0) : (runP L Y).1.length ≤ 100000 := by
  rw [run_eq, len_put9 Y L L [] (fun n => by simp [lookE]) (by simp)]
  unfold fitsL at h
  cases hf : Y.find? (fun a => decide (chkS a ≠ 0)) with
  | some a =>
    rw [hf] at h
    have := List.find?_some hf
    simp at this
    exact absurd h this
  | none =>
    rw [hf] at h
    unfold roomL newL at h
    simp only at h
    split at h
    · omega
    · split at h
      · omega
      · omega
theorem new9 (w : World) :
    Calls Tryz.prog 7 #[] w fun e w' => ∃ s, e = .returned (.pointer (some ⟨s, 0, none⟩)) ∧ StQ w' s (fun k => w.heap.size ≤ k ∧ k < w'.heap.size) [] ∧ Below w.heap.size w w' := by
  refine (new_any w).mono ?_
  rintro e w' ⟨rfl, h, hb, hs⟩
  refine ⟨_, rfl, ⟨⟨_, _, _, _, h, rfl, fun k hk => ?_, fun x hx => by cases hx⟩, fun k hk => hk.2, by simp, fun t => by simp [cntL]⟩, hb⟩
  rcases hk with rfl | rfl | ⟨t, ht, _⟩
  · omega
  · omega
  · cases ht
theorem count9 {w : World} {s : Nat} {S : Nat → Prop} {L : List Sp} (h : StQ w s S L) :
    Calls Tryz.prog 9 #[.pointer (some ⟨s, 0, none⟩)] w fun e w' => e = .returned (.int .i64 (L.length : Int)) ∧ w' = w := by
  obtain ⟨b, M, T, X, h1, rfl, _⟩ := h.ex
  have := count_any s b M T X w h1
  rwa [show X.length = (spsX X).length by unfold spsX; rw [List.length_map]] at this
theorem spsX_len (X : List It) : (spsX X).length = X.length := by unfold spsX; rw [List.length_map]
theorem fits9 {w : World} {s : Nat} {S : Nat → Prop} {L : List Sp} (h : StQ w s S L) (ad : Option Addr) (n cp : Nat) (Y : List Sp) (P : Nat → Pl) (hY : SpsAt w ad n Y P) (hF : ∀ a ∈ Y, a.Fits) (hS : ∀ a ∈ Y, a.Small) (hT : Tabs w) (hn : n ≤ 900000000000) :
    Calls Tryz.prog 16 #[.pointer (some ⟨s, 0, none⟩), .slice ad n cp] w fun e w' => e = .returned (.int .i64 (fitsL L Y)) ∧ Below w.heap.size w w' := by
  have hl := hY.len
  subst hl
  have hfew := h.few
  obtain ⟨b, M, T, X, h1, rfl, _⟩ := h.ex
  rw [spsX_len] at hfew
  have := fits_any s b M T X ad cp Y P w h1 hY hF hS hT (by omega) (by omega)
  rwa [fits_sps] at this
/-- What a Put does. -/
def PutP9 (w : World) (s : Nat) (S : Nat → Prop) (L : List Sp) (Y : List Sp) (n : Nat) (e : Ending) (w' : World) : Prop :=
  (fitsL L Y ≠ 0 ∧ e = .returned (.tuple #[.slice none 0 0, .int .i64 (fitsL L Y)]) ∧ StQ w' s S L ∧ Below w.heap.size w w') ∨
  (fitsL L Y = 0 ∧ ∃ r, e = .returned (.tuple #[.slice (some ⟨r, 0, none⟩) n n, .int .i64 0]) ∧ StQ w' s (fun k => S k ∨ (w.heap.size ≤ k ∧ k < w'.heap.size)) (runP L Y).1 ∧ Blk w' r (chC (runP L Y).2 0) 51 ∧ w.heap.size ≤ r ∧ Upd S w w')
theorem put9 {w : World} {s : Nat} {S : Nat → Prop} {L : List Sp} (h : StQ w s S L) (ad : Option Addr) (n cp : Nat) (Y : List Sp) (P : Nat → Pl) (hY : ∀ W, Upd S w W → SpsAt W ad n Y P) (hF : ∀ a ∈ Y, a.Fits) (hS : ∀ a ∈ Y, a.Small) (hT : Tabs w) (hn : n ≤ 900000000000) :
    Calls Tryz.prog 8 #[.pointer (some ⟨s, 0, none⟩), .slice ad n cp] w fun e w' => PutP9 w s S L Y n e w' := by
  have hl := (hY w (Upd.refl _ _)).len
  subst hl
  have hfew := h.few
  have hq := h
  obtain ⟨b, M, T, X, h1, rfl, h3, h4⟩ := h.ex
  rw [spsX_len] at hfew
  by_cases hf : fitsI X Y = 0
  · refine (putO_any s b M T X ad cp Y P w h1 (fun W hW => hY W (hW.mono (fun k _ hk => h3 k hk))) hF hS hT (by omega) hf).mono ?_
    rintro e w' ⟨r, M', T', X', rfl, hp⟩
    have hsz := hp.upd.size
    have hsp := hp.sps
    rw [List.take_of_length_le (Nat.le_refl _)] at hsp
    have hrow := hp.row
    rw [List.take_of_length_le (Nat.le_refl _), Nat.sub_self] at hrow
    have hf2 : fitsL (spsX X) Y = 0 := by rw [← fits_sps]; exact hf
    refine Or.inr ⟨hf2, r, rfl, ⟨⟨b, M', T', X', hp.st, hsp, fun k hk => ?_, fun x hx k k1 k2 => ?_⟩, fun k hk => ?_, fits_few hf2, fits_each hq.each hf2⟩, hrow, hp.low, hp.upd.mono (fun k _ hk => h3 k hk)⟩
    · rcases hp.ft k hk with q | q
      · exact Or.inl (h3 k q)
      · exact Or.inr ⟨q, hp.st.ft_lt hk⟩
    · rcases hp.old x hx with q | q
      · exact Or.inl (h4 x q k k1 k2)
      · exact Or.inr ⟨by omega, Nat.lt_of_lt_of_le k2 (hp.st.each x hx).le⟩
    · rcases hk with q | q
      · exact Nat.lt_of_lt_of_le (hq.lt k q) hsz
      · exact q.2
  · refine (putB_any s b M T X ad cp Y P w h1 (hY w (Upd.refl _ _)) hF hS hT (by omega) (by omega) hf).mono ?_
    rintro e w' ⟨rfl, hb⟩
    exact Or.inl ⟨by rw [← fits_sps]; exact hf, by rw [fits_sps], hq.below hb, hb⟩
def ToldP9 (w : World) (L : List Sp) (e : Ending) (w' : World) : Prop := ∃ ad c Y P, e = .returned (.slice ad Y.length c) ∧ Rise Y ∧ (∀ y, y ∈ Y ↔ y ∈ L) ∧ (∀ V : World, w'.heap.size ≤ V.heap.size → (∀ k, w.heap.size ≤ k → k < w'.heap.size → V.heap[k]? = w'.heap[k]?) → SpsAt V ad Y.length Y P) ∧ Below w.heap.size w w'
theorem told9 {w : World} {s : Nat} {S : Nat → Prop} {L : List Sp} (h : StQ w s S L) :
    Calls Tryz.prog 10 #[.pointer (some ⟨s, 0, none⟩)] w fun e w' => ToldP9 w L e w' := by
  have hfew := h.few
  obtain ⟨b, M, T, X, h1, rfl, _⟩ := h.ex
  rw [spsX_len] at hfew
  exact told_any s b M T X w h1 (by omega)
/-- What is told of two lists with the same members. -/
theorem told_one {L K : List Sp} {Y Z : List Sp} (hY : Rise Y ∧ ∀ y, y ∈ Y ↔ y ∈ L) (hZ : Rise Z ∧ ∀ y, y ∈ Z ↔ y ∈ K) (he : ∀ y, y ∈ L ↔ y ∈ K) : Y = Z :=
  rise_ext hY.1 hZ.1 (fun x => by rw [hY.2, hZ.2, he])
theorem rise_nodup {Y : List Sp} (h : Rise Y) : Y.Nodup :=
  List.Pairwise.imp (fun {a b} h e => by
    subst e
    rw [cmpN_self] at h
    omega) h
theorem names_nodup {L : List Sp} (h : Names L) : L.Nodup := by
  unfold Names at h
  rw [List.nodup_iff_pairwise_ne] at h ⊢
  exact List.Pairwise.imp (fun h e => h (by rw [e])) (List.pairwise_map.1 h)
theorem told_len {L Y : List Sp} (hL : Names L) (hY : Rise Y ∧ ∀ y, y ∈ Y ↔ y ∈ L) : Y.length = L.length :=
  Nat.le_antisymm ((rise_nodup hY.1).length_le_of_subset (fun x hx => (hY.2 x).1 hx)) ((names_nodup hL).length_le_of_subset (fun x hx => (hY.2 x).2 hx))
end Go.Proofs.YtiflfapdffkcbaaGreatDoor
