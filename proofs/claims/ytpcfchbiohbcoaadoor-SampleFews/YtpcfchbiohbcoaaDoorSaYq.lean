/-
  Merged: SaY, SaZ.
-/
import Derived.Test.YtpcfchbiohbcoaaDoorSaW
namespace Go.Proofs.YtpcfchbiohbcoaaDoor
open Go Go.RowKit Go.Lib
set_option maxRecDepth 100000

/-- A Few in memory. -/
structure FewAt (w : World) (f base most : Nat) (T : List Tr) : Prop where
  row : ∃ ao c, Blk w f #[.int .i64 most, .slice ao T.length c] 64 ∧ OwnTr base w (.slice ao T.length c) T
  rise : RiseF T
  len : T.length ≤ most
  most : 2 ≤ most ∧ most ≤ 1000
  low : base ≤ w.heap.size
set_option maxHeartbeats 4000000 in
theorem putF_any (f base most : Nat) (T : List Tr) (t : Tr) (w : World) (hF : FewAt w f base most T) :
    Calls Tryd.prog 15 #[.pointer (some ⟨f, 0, none⟩), .agg #[.int .u64 (bvI t.1), .int .u64 (bvI t.2)]] w fun e w' => ∃ b T', e = .returned (.bool b) ∧ InF most T t T' b ∧ (∃ ao c, Blk w' f #[.int .i64 most, .slice ao T'.length c] 64 ∧ OwnTr base w' (.slice ao T'.length c) T' ∧ ∀ a, ao = some a → (∃ ao0 c0 a0, Blk w f #[.int .i64 most, .slice ao0 T.length c0] 64 ∧ ao0 = some a0 ∧ a0.block = a.block) ∨ w.heap.size ≤ a.block) ∧ Upd (fun k => k = f ∨ ∃ ao c, Blk w f #[.int .i64 most, .slice ao T.length c] 64 ∧ ∃ a, ao = some a ∧ a.block = k) w w' := by
  obtain ⟨ao, c, hf, hO⟩ := hF.row
  go_enter Tryd.func15, Tryd.ntmps15
  go_upto_region 1 with fail
  obtain ⟨w0, hw0⟩ : ∃ w0, w.alloc (.cells #[.int .u64 (bvI t.1), .int .u64 (bvI t.2)] 33) = w0 := ⟨_, rfl⟩
  have b0 : Below w.heap.size w w0 := by rw [← hw0]; exact (Below.refl _ _).alloc (Nat.le_refl _) _
  have O0 : OwnTr base w0 (.slice ao T.length c) T := ownsRow_upd hO (Upd.ofBelow (S := fun _ => False) b0 (fun k hk hk' => by omega)) (fun _ _ h => h)
  have f0 := hf.below b0 hf.lt
  have k0 : Blk w0 w.heap.size #[.int .u64 (bvI t.1), .int .u64 (bvI t.2)] 33 := by rw [← hw0]; exact Blk.new _ _ _
  have hnf : ∀ a, ao = some a → a.block ≠ f ∧ a.block < w.heap.size := fun a e => by
    rcases hO.2 with ⟨e', _⟩ | ⟨g, cap, cur, e', hg, hh, _⟩
    · simp [e] at e'
    · simp [e] at e'
      obtain ⟨rfl, _⟩ := e'
      refine ⟨fun h => ?_, lt_of_block hh⟩
      simp only at h
      subst h
      have h1 : w.heap[g]? = some (.cells _ 64 (0, 0)) := hf
      rw [hh] at h1
      simp at h1
  have KB : ∀ W : World, Upd (fun k => ∃ a, ao = some a ∧ a.block = k) w0 W → W.cell? ⟨f, 0, none⟩ = some (.int .i64 most) ∧ W.cell? ⟨f, 1, none⟩ = some (.slice ao T.length c) ∧ W.cell? ⟨w.heap.size, 0, none⟩ = some (.int .u64 (bvI t.1)) ∧ W.cell? ⟨w.heap.size, 1, none⟩ = some (.int .u64 (bvI t.2)) := fun W hu => by
    have k1 := f0.upd hu (fun ⟨a, e, h⟩ => (hnf a e).1 h)
    have k2 := k0.upd hu (fun ⟨a, e, h⟩ => by have := (hnf a e).2; omega)
    exact ⟨k1.cell 0 rfl, k1.cell 1 rfl, k2.cell 0 rfl, k2.cell 1 rfl⟩
  have hlow : base ≤ w0.heap.size := Nat.le_trans hF.low b0.size
  have KE := keep_any ao T.length c base most T t w0.drew O0 hF.rise hF.len hF.most hlow
  have U0 : Upd (fun k => ∃ a, ao = some a ∧ a.block = k) w0 w0.drew := ⟨rfl, rfl, rfl, Nat.le_refl _, fun _ _ _ => rfl⟩
  have HD : Hid (∀ w1 v' T', Upd (fun k => ∃ a, ao = some a ∧ a.block = k) w0 w1 → OwnTr base w1 v' T' → MovB ao w0.drew v' → ∃ ao' c', v' = .slice ao' T'.length c' ∧ Blk w1 f #[.int .i64 most, .slice ao T.length c] 64 ∧ (Blk (w1.setCell ⟨f, 1, none⟩ v') f #[.int .i64 most, v'] 64 ∧ OwnTr base (w1.setCell ⟨f, 1, none⟩ v') v' T' ∧ ∀ a, ao' = some a → (∃ ao0 c0 a0, Blk w f #[.int .i64 most, .slice ao0 T.length c0] 64 ∧ ao0 = some a0 ∧ a0.block = a.block) ∨ w.heap.size ≤ a.block) ∧ Upd (fun k => k = f ∨ ∃ ao c, Blk w f #[.int .i64 most, .slice ao T.length c] 64 ∧ ∃ a, ao = some a ∧ a.block = k) w (w1.setCell ⟨f, 1, none⟩ v')) := fun w1 v' T' hu ho hmv => by
    have k1 := f0.upd hu (fun ⟨a, e, h⟩ => (hnf a e).1 h)
    obtain ⟨ao', c', rfl⟩ : ∃ ao' c', v' = .slice ao' T'.length c' := by
      rcases ho.2 with ⟨e, h0⟩ | ⟨g, cap, cur, e, _⟩
      · exact ⟨none, 0, by rw [e, h0]⟩
      · exact ⟨_, _, e⟩
    refine ⟨ao', c', rfl, k1, ⟨k1.set 1 _, ?_, fun a e => ?_⟩, ?_⟩
    · refine ownsRow_upd ho ((Upd.refl (fun k => k = f) w1).setCell (p := ⟨f, 1, none⟩) (fun _ => rfl) _) (fun k hk h => ?_)
      obtain ⟨_, cs, fz, hh⟩ := own_block ho hk
      subst h
      have h1 : w1.heap[k]? = some (.cells _ 64 (0, 0)) := k1
      rw [hh] at h1
      simp at h1
    · subst e
      rcases hmv a.block rfl with ⟨a0, e0, h0⟩ | h0
      · exact Or.inl ⟨ao, c, a0, hf, e0, h0⟩
      · exact Or.inr (Nat.le_trans b0.size h0)
    · have u1 : Upd (fun k => ∃ a, ao = some a ∧ a.block = k) w w1 := (Upd.ofBelow b0 (fun k h1 h2 => by omega)).trans hu (fun _ _ h => h)
      have u2 : Upd (fun k => k = f ∨ ∃ ao c, Blk w f #[.int .i64 most, .slice ao T.length c] 64 ∧ ∃ a, ao = some a ∧ a.block = k) w w1 := u1.mono (fun k _ h => Or.inr ⟨ao, c, hf, h⟩)
      exact u2.setCell (p := ⟨f, 1, none⟩) (fun _ => Or.inl rfl) _
  rw [hw0]
  clear hw0 hf hO O0 f0 k0 hnf
  go_region_held3 (fun W => W.cell? ⟨f, 0, none⟩ = some (.int .i64 most) ∧ W.cell? ⟨f, 1, none⟩ = some (.slice ao T.length c) ∧ W.cell? ⟨w.heap.size, 0, none⟩ = some (.int .u64 (bvI t.1)) ∧ W.cell? ⟨w.heap.size, 1, none⟩ = some (.int .u64 (bvI t.2))) (first | exact KB _ U0 | exact KB _ U1) (first
    | (go_at_call 31; refine KE.mono ?_; clear KE; rintro e w1 ⟨v', b, T', rfl, hin, ho, hmv, hu⟩; have U1 : Upd (fun k => ∃ a, ao = some a ∧ a.block = k) w0 w1 := U0.trans hu (fun _ _ h => h))
    | fail)
  all_goals
    obtain ⟨ao', c', rfl, k1, h2, h3⟩ := HD.out w1 v' T' U1 ho hmv
    have o1 := k1.cell 1 rfl
    have g1 := k1.frozen 1
    have HX : Hid (InF most T t T' b) := hin
    have HY : Hid _ := h2
    have HZ : Hid _ := h3
    clear h2 h3 hin ho hmv hu KB U0 U1 k1 HD
    go_wp2
    go_ret
    exact ⟨b, T', rfl, HX.out, ⟨ao', c', HY.out⟩, HZ.out⟩
end Go.Proofs.YtpcfchbiohbcoaaDoor

namespace Go.Proofs.YtpcfchbiohbcoaaDoor
open Go
set_option maxRecDepth 100000

def ltF (a b : Tr) : Prop := cmpF a b < 0
theorem ltF_irr (a : Tr) : ¬ ltF a a := fun h => by
  unfold ltF at h
  rw [(good_cmpF.eq a a).2 rfl] at h
  omega
theorem ltF_trans {a b c : Tr} (h1 : ltF a b) (h2 : ltF b c) : ltF a c := by
  unfold ltF at *
  have h3 := good_cmpF.trans a b c (by omega) (by omega)
  rcases Int.lt_or_eq_of_le h3 with h4 | h4
  · exact h4
  · have e := (good_cmpF.eq _ _).1 h4
    subst e
    have := good_cmpF.anti a b
    omega
theorem ltF_tri (a b : Tr) : ltF a b ∨ a = b ∨ ltF b a := by
  unfold ltF
  rcases good_cmpF.rng a b with h | h | h
  · exact Or.inl (by omega)
  · exact Or.inr (Or.inl ((good_cmpF.eq _ _).1 h))
  · refine Or.inr (Or.inr ?_)
    have := good_cmpF.anti a b
    omega
theorem rise_pw (T : List Tr) : RiseF T ↔ T.Pairwise ltF := by
  rw [List.pairwise_iff_getElem]
  constructor
  · intro h i j hi hj hij
    have := h i j hi hj hij
    unfold ltF
    omega
  · intro h i j hi hj hij
    have h1 : cmpF T[i] T[j] < 0 := h i j hi hj hij
    rcases good_cmpF.rng T[i] T[j] with h2 | h2 | h2
    · exact h2
    · omega
    · omega
theorem pw_nodup {T : List Tr} (h : T.Pairwise ltF) : T.Nodup := by
  unfold List.Nodup
  refine h.imp ?_
  intro a b h e
  subst e
  exact ltF_irr a h
theorem pw_ext : ∀ (T U : List Tr), T.Pairwise ltF → U.Pairwise ltF → (∀ x, x ∈ T ↔ x ∈ U) → T = U
  | [], [], _, _, _ => rfl
  | [], u :: U, _, _, h => absurd ((h u).2 (List.mem_cons_self ..)) (List.not_mem_nil)
  | t :: T, [], _, _, h => absurd ((h t).1 (List.mem_cons_self ..)) (List.not_mem_nil)
  | t :: T, u :: U, hT, hU, h => by
    obtain ⟨t1, t2⟩ := List.pairwise_cons.1 hT
    obtain ⟨u1, u2⟩ := List.pairwise_cons.1 hU
    have e : t = u := by
      rcases List.mem_cons.1 ((h t).1 (List.mem_cons_self ..)) with e | m
      · exact e
      · rcases List.mem_cons.1 ((h u).2 (List.mem_cons_self ..)) with e | m'
        · exact e.symm
        · exact absurd (ltF_trans (u1 t m) (t1 u m')) (ltF_irr u)
    subst e
    refine congrArg _ (pw_ext T U t2 u2 (fun x => ⟨fun m => ?_, fun m => ?_⟩))
    · rcases List.mem_cons.1 ((h x).1 (List.mem_cons_of_mem _ m)) with e | m'
      · subst e; exact absurd (t1 x m) (ltF_irr x)
      · exact m'
    · rcases List.mem_cons.1 ((h x).2 (List.mem_cons_of_mem _ m)) with e | m'
      · subst e; exact absurd (u1 x m) (ltF_irr x)
      · exact m'
/-- The few of a set. -/
structure TopF (most : Nat) (S T : List Tr) : Prop where
  pw : T.Pairwise ltF
  sub : ∀ x ∈ T, x ∈ S
  len : T.length ≤ most
  rest : ∀ s ∈ S, s ∉ T → T.length = most ∧ ∀ x ∈ T, ltF x s
theorem TopF.nil (most : Nat) : TopF most [] [] := ⟨List.Pairwise.nil, (fun x h => by cases h), Nat.zero_le _, (fun s h => by cases h)⟩
theorem spot_low {T : List Tr} {t : Tr} {p : Nat} (h : SpotF T t p) : ∀ x ∈ T.take p, ltF x t := fun x hx => by
  obtain ⟨i, hi, rfl⟩ := List.getElem_of_mem hx
  have h1 : i < p ∧ i < T.length := by simp at hi; omega
  rw [List.getElem_take]
  exact h.2.1 i h1.2 h1.1
theorem spot_high {T : List Tr} {t : Tr} {p : Nat} (h : SpotF T t p) (hpw : T.Pairwise ltF) (hn : ¬ ∃ h : p < T.length, T[p] = t) : ∀ x ∈ T.drop p, ltF t x := fun x hx => by
  obtain ⟨i, hi, rfl⟩ := List.getElem_of_mem hx
  have h1 : p + i < T.length := by simp at hi; omega
  rw [List.getElem_drop]
  have hp : p < T.length := by omega
  have h0 : ltF t T[p] := by
    rcases ltF_tri t T[p] with h2 | h2 | h2
    · exact h2
    · exact absurd ⟨hp, h2.symm⟩ hn
    · have := h.2.2 p hp (Nat.le_refl _)
      unfold ltF at h2
      omega
  rcases Nat.eq_zero_or_pos i with rfl | hi0
  · exact h0
  · exact ltF_trans h0 (List.pairwise_iff_getElem.1 hpw p (p + i) hp h1 (by omega))
theorem TopF.put {most : Nat} {S T T' : List Tr} {t : Tr} {b : Bool} (h : TopF most S T) (hi : InF most T t T' b) : TopF most (t :: S) T' ∧ (b = true ↔ t ∈ T') := by
  obtain ⟨p, hsp, hc⟩ := hi
  rcases hc with ⟨rfl, ⟨hp, e⟩, rfl⟩ | ⟨rfl, rfl, rfl⟩ | ⟨rfl, hpm, hn, rfl⟩
  · have hm : t ∈ T' := e ▸ List.getElem_mem hp
    refine ⟨⟨h.pw, fun x hx => List.mem_cons_of_mem _ (h.sub x hx), h.len, fun s hs hn => ?_⟩, by simp [hm]⟩
    rcases List.mem_cons.1 hs with rfl | hs
    · exact absurd hm hn
    · exact h.rest s hs hn
  · have hl : T'.length = p := by have := h.len; have := hsp.1; omega
    have hall : ∀ x ∈ T', ltF x t := fun x hx => spot_low hsp x (by rw [List.take_of_length_le (by omega)]; exact hx)
    have hnm : t ∉ T' := fun hm => ltF_irr t (hall t hm)
    refine ⟨⟨h.pw, fun x hx => List.mem_cons_of_mem _ (h.sub x hx), h.len, fun s hs hn => ?_⟩, by simp [hnm]⟩
    rcases List.mem_cons.1 hs with rfl | hs
    · exact ⟨hl, hall⟩
    · exact h.rest s hs hn
  · obtain ⟨U, hU⟩ : ∃ U, T.take p ++ t :: T.drop p = U := ⟨_, rfl⟩
    have hlow := spot_low hsp
    have hhigh := spot_high hsp h.pw hn
    have hpl : p ≤ T.length := hsp.1
    have hUl : U.length = T.length + 1 := by rw [← hU]; simp; omega
    have hUm : ∀ x, x ∈ U ↔ x = t ∨ x ∈ T := fun x => by
      have hx : x ∈ T ↔ x ∈ T.take p ∨ x ∈ T.drop p := by rw [← List.mem_append, List.take_append_drop]
      rw [← hU, List.mem_append, List.mem_cons, hx]
      constructor
      · rintro (a | a | a)
        · exact Or.inr (Or.inl a)
        · exact Or.inl a
        · exact Or.inr (Or.inr a)
      · rintro (a | a | a)
        · exact Or.inr (Or.inl a)
        · exact Or.inl a
        · exact Or.inr (Or.inr a)
    have hUp : U.Pairwise ltF := by
      have h0 := h.pw
      rw [← List.take_append_drop p T, List.pairwise_append] at h0
      rw [← hU, List.pairwise_append, List.pairwise_cons]
      refine ⟨h0.1, ⟨hhigh, h0.2.1⟩, fun a ha c hc => ?_⟩
      rcases List.mem_cons.1 hc with rfl | hc
      · exact hlow a ha
      · exact h0.2.2 a ha c hc
    have hsplit := hUp
    rw [← List.take_append_drop most U, List.pairwise_append] at hsplit
    have htm : t ∈ U.take most := by
      rw [← hU, List.take_append]
      refine List.mem_append.2 (Or.inr ?_)
      rw [show most - (T.take p).length = (most - (T.take p).length - 1) + 1 by simp; omega, List.take_succ_cons]
      exact List.mem_cons_self ..
    rw [hU]
    refine ⟨⟨hsplit.1, fun x hx => ?_, by simp; omega, fun s hs hns => ?_⟩, by simp [htm]⟩
    · rcases (hUm x).1 (List.mem_of_mem_take hx) with rfl | hx
      · exact List.mem_cons_self ..
      · exact List.mem_cons_of_mem _ (h.sub x hx)
    · rcases List.mem_cons.1 hs with rfl | hs
      · exact absurd htm hns
      · by_cases hsT : s ∈ T
        · have hsU : s ∈ U := (hUm s).2 (Or.inr hsT)
          have hsd : s ∈ U.drop most := by
            rw [← List.take_append_drop most U] at hsU
            rcases List.mem_append.1 hsU with a | a
            · exact absurd a hns
            · exact a
          have hlen : most < U.length := by
            rcases Nat.lt_or_ge most U.length with a | a
            · exact a
            · rw [List.drop_eq_nil_of_le a] at hsd; cases hsd
          exact ⟨by simp; omega, fun x hx => hsplit.2.2 x hx s hsd⟩
        · obtain ⟨r1, r2⟩ := h.rest s hs hsT
          refine ⟨by simp; omega, fun x hx => ?_⟩
          rcases (hUm x).1 (List.mem_of_mem_take hx) with rfl | hx
          · have hp : p < T.length := by omega
            have hd : T[p] ∈ T.drop p := by rw [List.drop_eq_getElem_cons hp]; exact List.mem_cons_self ..
            exact ltF_trans (hhigh _ hd) (r2 _ (List.getElem_mem hp))
          · exact r2 x hx
theorem TopF.sub' {most : Nat} {S S' T U : List Tr} (h : TopF most S T) (k : TopF most S' U) (hS : ∀ x, x ∈ S ↔ x ∈ S') : ∀ x ∈ T, x ∈ U := fun x hx => by
  rcases Classical.em (x ∈ U) with a | a
  · exact a
  · exfalso
    obtain ⟨r1, r2⟩ := k.rest x ((hS x).1 (h.sub x hx)) a
    have hsub : ∀ y ∈ x :: U, y ∈ T := fun y hy => by
      rcases List.mem_cons.1 hy with rfl | hy
      · exact hx
      · rcases Classical.em (y ∈ T) with c | c
        · exact c
        · exact absurd (ltF_trans (r2 y hy) ((h.rest y ((hS y).2 (k.sub y hy)) c).2 x hx)) (ltF_irr y)
    have hnd : (x :: U).Nodup := List.nodup_cons.2 ⟨a, pw_nodup k.pw⟩
    have := hnd.length_le_of_subset hsub
    have := h.len
    simp at *
    omega
/-- A set has one few. -/
theorem TopF.one {most : Nat} {S S' T U : List Tr} (h : TopF most S T) (k : TopF most S' U) (hS : ∀ x, x ∈ S ↔ x ∈ S') : T = U :=
  pw_ext T U h.pw k.pw (fun x => ⟨h.sub' k hS x, k.sub' h (fun y => (hS y).symm) x⟩)
/-- Of what was merged in, its few are enough. -/
theorem TopF.join {most : Nat} {S1 S2 T2 U : List Tr} (k : TopF most S2 T2) (h : TopF most (T2 ++ S1) U) : TopF most (S2 ++ S1) U := by
  refine ⟨h.pw, fun x hx => ?_, h.len, fun s hs hn => ?_⟩
  · rcases List.mem_append.1 (h.sub x hx) with a | a
    · exact List.mem_append.2 (Or.inl (k.sub x a))
    · exact List.mem_append.2 (Or.inr a)
  · rcases List.mem_append.1 hs with a | a
    · by_cases hsT : s ∈ T2
      · exact h.rest s (List.mem_append.2 (Or.inl hsT)) hn
      · obtain ⟨r1, r2⟩ := k.rest s a hsT
        have hin : ∀ x ∈ U, ¬ ltF x s → ∀ y ∈ T2, y ∈ U := fun x hx hns y hy => by
          rcases Classical.em (y ∈ U) with c | c
          · exact c
          · exact absurd (ltF_trans ((h.rest y (List.mem_append.2 (Or.inl hy)) c).2 x hx) (r2 y hy)) hns
        have hall : ∀ x ∈ U, ltF x s := fun x hx => by
          rcases Classical.em (ltF x s) with c | c
          · exact c
          · exfalso
            have hxT : x ∉ T2 := fun hxT => c (r2 x hxT)
            have hsub : ∀ y ∈ x :: T2, y ∈ U := fun y hy => by
              rcases List.mem_cons.1 hy with rfl | hy
              · exact hx
              · exact hin x hx c y hy
            have := (List.nodup_cons.2 ⟨hxT, pw_nodup k.pw⟩ : (x :: T2).Nodup).length_le_of_subset hsub
            have := h.len
            simp at *
            omega
        refine ⟨?_, hall⟩
        rcases Classical.em (∀ y ∈ T2, y ∈ U) with c | c
        · have := (pw_nodup k.pw).length_le_of_subset (l₂ := U) c
          have := h.len
          omega
        · obtain ⟨y, hy⟩ := Classical.not_forall.1 c
          obtain ⟨hy1, hy2⟩ := Classical.not_imp.1 hy
          exact (h.rest y (List.mem_append.2 (Or.inl hy1)) hy2).1
    · exact h.rest s (List.mem_append.2 (Or.inr a)) hn
end Go.Proofs.YtpcfchbiohbcoaaDoor
