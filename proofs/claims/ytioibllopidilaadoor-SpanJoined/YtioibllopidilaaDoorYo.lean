/-
  Plain mathematics of span: one form; how long; what was read fits.
-/
import Derived.Test.YtioibllopidilaaDoorYn
namespace Go.Proofs.YtioibllopidilaaDoor
open Go.Shelf Go.RowKit
set_option maxRecDepth 100000

theorem countP_none (K : List Int) (m : Nat) : countP K m none = (0, none) := by
  unfold countP uintP; rw [if_neg (by simp)]; rfl
theorem linksP_none (K : List Int) : (linksP K none).2 = none := by unfold linksP; rw [countP_none]; rfl
theorem attrsP_none (K : List Int) : (attrsP K none).2 = none := by unfold attrsP; rw [countP_none]; rfl
theorem eventsP_none (K : List Int) : (eventsP K none).2 = none := by unfold eventsP; rw [countP_none]; rfl
theorem some_back {α : Type} {f : Option Nat → α × Option Nat} (h0 : (f none).2 = none) {s : Option Nat} {t : Nat} (h : (f s).2 = some t) : ∃ t', s = some t' := by
  cases s with
  | none => rw [h0] at h; simp at h
  | some t' => exact ⟨t', rfl⟩
theorem list_one {α : Type} {f : Option Nat → α × Option Nat} {enc : α → List Int} {K : List Int} {ok : α → Prop} {most : Nat} (hK : ∀ x ∈ K, 0 ≤ x ∧ x < 256) (h0 : (f none).2 = none) (hf : ∀ t x t', f (some t) = (x, some t') → ok x → K.drop t = enc x ++ K.drop t')
    {t t' : Nat} (h : (iterS f (countP K most (some t)).1 (countP K most (some t)).2).2 = some t') (hok : ∀ x ∈ (iterS f (countP K most (some t)).1 (countP K most (some t)).2).1, ok x) :
    K.drop t = encN (iterS f (countP K most (some t)).1 (countP K most (some t)).2).1.length ++ (catL enc (iterS f (countP K most (some t)).1 (countP K most (some t)).2).1 ++ K.drop t') := by
  obtain ⟨t1, h1⟩ : ∃ t1, (countP K most (some t)).2 = some t1 := some_back (iter_none h0 _) h
  have c1 := countP_one (n := (countP K most (some t)).1) hK (Prod.ext rfl h1)
  rw [h1] at h hok ⊢
  have c2 := iter_one h0 hf _ t1 _ t' (Prod.ext rfl h) hok
  rw [iterS_len, c1, c2]
theorem attrP_none (K : List Int) : (attrP K none).2 = none := rfl
theorem eventP_none (K : List Int) : (eventP K none).2 = none := rfl
theorem attrP_one {K : List Int} (hK : ∀ x ∈ K, 0 ≤ x ∧ x < 256) {t t' : Nat} {x : AttrD} (h : attrP K (some t) = (x, some t')) (hk : x.kind ≤ 2) : K.drop t = attrL x ++ K.drop t' := by
  rw [attrP_eq] at h
  simp only [Prod.mk.injEq] at h
  obtain ⟨rfl, h2⟩ := h
  obtain ⟨t3, e3⟩ := some_back (f := intP K) rfl h2
  obtain ⟨t2, e2⟩ := some_back (f := textP K 200) rfl e3
  obtain ⟨t1, e1⟩ := some_back (f := smallP K) rfl e2
  rw [e1] at e2 e3 h2 hk ⊢
  rw [e2] at e3 h2 ⊢
  rw [e3] at h2 ⊢
  have k1 := textP_one (s := (textP K 40 (some t)).1) hK (Prod.ext rfl e1)
  have k2 := smallP_one (v := (smallP K (some t1)).1) hK (Prod.ext rfl e2) (by simp only at hk; omega)
  have k3 := textP_one (s := (textP K 200 (some t2)).1) hK (Prod.ext rfl e3)
  have k4 := intP_one (v := (intP K (some t3)).1) hK (Prod.ext rfl h2)
  simp only [attrL, List.append_assoc]
  rw [k1, k2, k3, k4]
theorem eventP_one {K : List Int} (hK : ∀ x ∈ K, 0 ≤ x ∧ x < 256) {t t' : Nat} {x : EventD} (h : eventP K (some t) = (x, some t')) (hk : x.moment ≤ 4611686018427387904) : K.drop t = eventL x ++ K.drop t' := by
  rw [eventP_eq] at h
  simp only [Prod.mk.injEq] at h
  obtain ⟨rfl, h2⟩ := h
  obtain ⟨t1, e1⟩ := some_back (f := textP K 100) rfl h2
  rw [e1] at h2 ⊢
  have k1 := momP_one (v := (momP K (some t)).1) hK (Prod.ext rfl e1) (by simpa using hk)
  have k2 := textP_one (s := (textP K 100 (some t1)).1) hK (Prod.ext rfl h2)
  simp only [eventL, List.append_assoc]
  rw [k1, k2]

set_option maxHeartbeats 1000000 in
theorem span_one (K : List Int) (hK : ∀ x ∈ K, 0 ≤ x ∧ x < 256) (a : Sp) (t : Nat) (h : spanP K (some 0) = (a, some t)) (hG : a.Good) : K = encS a ++ K.drop t := by
  unfold spanP at h
  simp only [Prod.mk.injEq] at h
  obtain ⟨ha, hs⟩ := h
  generalize hr0 : rawP K (some 0) = r0 at ha hs
  generalize hr1 : rawP K r0.2 = r1 at ha hs
  generalize hr2 : rawP K r1.2 = r2 at ha hs
  generalize hr3 : rawP K r2.2 = r3 at ha hs
  generalize hr4 : linksP K r3.2 = r4 at ha hs
  generalize hr5 : textP K 60 r4.2 = r5 at ha hs
  generalize hr6 : textP K 100 r5.2 = r6 at ha hs
  generalize hr7 : smallP K r6.2 = r7 at ha hs
  generalize hr8 : smallP K r7.2 = r8 at ha hs
  generalize hr9 : momP K r8.2 = r9 at ha hs
  generalize hr10 : momP K r9.2 = r10 at ha hs
  generalize hr11 : attrsP K r10.2 = r11 at ha hs
  generalize hr12 : eventsP K r11.2 = r12 at ha hs
  subst ha
  have gk := hG.kind; have gs := hG.status; have g1 := hG.start; have g2 := hG.fin; have ga := hG.attr; have ge := hG.event
  simp only at gk gs g1 g2 ga ge
  clear hG
  obtain ⟨t11, e11⟩ := some_back (f := eventsP K) (s := r11.2) (eventsP_none K) (by rw [hr12]; exact hs)
  rw [e11] at hr12
  obtain ⟨t10, e10⟩ := some_back (f := attrsP K) (s := r10.2) (attrsP_none K) (by rw [hr11]; exact e11)
  rw [e10] at hr11
  obtain ⟨t9, e9⟩ := some_back (f := momP K) (s := r9.2) (rfl) (by rw [hr10]; exact e10)
  rw [e9] at hr10
  obtain ⟨t8, e8⟩ := some_back (f := momP K) (s := r8.2) (rfl) (by rw [hr9]; exact e9)
  rw [e8] at hr9
  obtain ⟨t7, e7⟩ := some_back (f := smallP K) (s := r7.2) (rfl) (by rw [hr8]; exact e8)
  rw [e7] at hr8
  obtain ⟨t6, e6⟩ := some_back (f := smallP K) (s := r6.2) (rfl) (by rw [hr7]; exact e7)
  rw [e6] at hr7
  obtain ⟨t5, e5⟩ := some_back (f := textP K 100) (s := r5.2) (rfl) (by rw [hr6]; exact e6)
  rw [e5] at hr6
  obtain ⟨t4, e4⟩ := some_back (f := textP K 60) (s := r4.2) (rfl) (by rw [hr5]; exact e5)
  rw [e4] at hr5
  obtain ⟨t3, e3⟩ := some_back (f := linksP K) (s := r3.2) (linksP_none K) (by rw [hr4]; exact e4)
  rw [e3] at hr4
  obtain ⟨t2, e2⟩ := some_back (f := rawP K) (s := r2.2) (rfl) (by rw [hr3]; exact e3)
  rw [e2] at hr3
  obtain ⟨t1, e1⟩ := some_back (f := rawP K) (s := r1.2) (rfl) (by rw [hr2]; exact e2)
  rw [e1] at hr2
  obtain ⟨t0, e0⟩ := some_back (f := rawP K) (s := r0.2) (rfl) (by rw [hr1]; exact e1)
  rw [e0] at hr1
  have k0 := rawP_one (v := r0.1) hK (by rw [hr0]; exact Prod.ext rfl e0)
  have k1 := rawP_one (v := r1.1) hK (by rw [hr1]; exact Prod.ext rfl e1)
  have k2 := rawP_one (v := r2.1) hK (by rw [hr2]; exact Prod.ext rfl e2)
  have k3 := rawP_one (v := r3.1) hK (by rw [hr3]; exact Prod.ext rfl e3)
  have k4 : K.drop t3 = encN r4.1.length ++ (catL rawL r4.1 ++ K.drop t4) := by
    rw [← hr4] at e4 ⊢
    unfold linksP at e4 ⊢
    exact list_one (f := rawP K) (ok := fun _ => True) hK rfl (fun t x t' h _ => rawP_one hK h) e4 (fun _ _ => trivial)
  have k5 := textP_one (s := r5.1) hK (by rw [hr5]; exact Prod.ext rfl e5)
  have k6 := textP_one (s := r6.1) hK (by rw [hr6]; exact Prod.ext rfl e6)
  have k7 := smallP_one (v := r7.1) hK (by rw [hr7]; exact Prod.ext rfl e7) (by omega)
  have k8 := smallP_one (v := r8.1) hK (by rw [hr8]; exact Prod.ext rfl e8) (by omega)
  have k9 := momP_one (v := r9.1) hK (by rw [hr9]; exact Prod.ext rfl e9) (by omega)
  have k10 := momP_one (v := r10.1) hK (by rw [hr10]; exact Prod.ext rfl e10) (by omega)
  have k11 : K.drop t10 = encN r11.1.length ++ (catL attrL r11.1 ++ K.drop t11) := by
    rw [← hr11] at e11 ga ⊢
    unfold attrsP at e11 ga ⊢
    exact list_one (f := attrP K) (ok := fun x => x.kind ≤ 2) hK rfl (fun t x t' h hx => attrP_one hK h hx) e11 (fun x hx => (ga x hx).2.2.2.2)
  have k12 : K.drop t11 = encN r12.1.length ++ (catL eventL r12.1 ++ K.drop t) := by
    rw [← hr12] at hs ge ⊢
    unfold eventsP at hs ge ⊢
    exact list_one (f := eventP K) (ok := fun x => x.moment ≤ 4611686018427387904) hK rfl (fun t x t' h hx => eventP_one hK h hx) hs (fun x hx => (ge x hx).2.2.2)
  rw [List.drop_zero] at k0
  simp only [encS, List.append_assoc]
  conv => lhs; rw [k0, k1, k2, k3, k4, k5, k6, k7, k8, k9, k10, k11, k12]
theorem catL_len {α : Type} (f : α → List Int) (c : Nat) : ∀ X : List α, (∀ x ∈ X, (f x).length ≤ c) → (catL f X).length ≤ c * X.length := by
  intro X
  induction X with
  | nil => intro _; simp [catL]
  | cons x r ih =>
    intro h
    have h1 := h x (by simp)
    have h2 := ih (fun y hy => h y (by simp [hy]))
    simp only [catL, List.length_append, List.length_cons, Nat.mul_succ]
    omega
theorem enc1 (v : Nat) (h : v < 128) : (encN v).length = 1 := by rw [encN_lt h]; rfl
theorem enc2 (v : Nat) (h : v < 16384) : (encN v).length ≤ 2 := encN_len 2 v (by omega) (by omega)
theorem enc9 (v : Nat) (h : v < 9223372036854775808) : (encN v).length ≤ 9 := encN_len 9 v (by omega) (by omega)
theorem attr_len (a : AttrD) (h : attrB a = true) (hn : -9223372036854775808 ≤ a.num ∧ a.num ≤ 9223372036854775807) : (attrL a).length ≤ 245 := by
  simp only [attrB, Bool.and_eq_true, keyB, decide_eq_true_eq] at h
  obtain ⟨⟨⟨⟨k1, k2⟩, _⟩, _⟩, v1⟩ := h
  have e1 := enc1 a.key.size (by omega)
  have hk := bytesI_length a.key
  have ht := bytesI_length a.text
  have z0 := zig_lo a.num
  have z1 := zig_hi a.num hn.1 hn.2
  have e4 := encN_len10 (zigI a.num).toNat (by omega)
  simp only [attrL, textL, List.length_append]
  unfold valB at v1
  split at v1
  · rename_i hk0
    simp only [Bool.and_eq_true, decide_eq_true_eq] at v1
    have e2 := enc1 a.kind.toNat (by omega)
    have e3 := enc2 a.text.size (by omega)
    have e5 : (encN (zigI a.num).toNat).length = 1 := by rw [v1.1.1]; exact enc1 _ (by decide)
    omega
  · split at v1
    · simp only [decide_eq_true_eq] at v1
      have e2 := enc1 a.kind.toNat (by omega)
      have e3 := enc1 a.text.size (by omega)
      omega
    · split at v1
      · simp only [Bool.and_eq_true, decide_eq_true_eq] at v1
        have e2 := enc1 a.kind.toNat (by omega)
        have e3 := enc1 a.text.size (by omega)
        omega
      · simp at v1
theorem event_len (a : EventD) (h : 1 ≤ a.name.size ∧ a.name.size ≤ 100 ∧ 0 ≤ a.moment ∧ a.moment ≤ 4611686018427387904) : (eventL a).length ≤ 110 := by
  have e1 := enc9 a.moment.toNat (by omega)
  have e2 := enc1 a.name.size (by omega)
  have hl := bytesI_length a.name
  simp only [eventL, textL, List.length_append]
  omega
theorem enc_len (a : Sp) (hf : a.Fits) (hc : chkS a = 0) : 43 ≤ (encS a).length ∧ (encS a).length ≤ 11705 := by
  have hG := chk_good hc
  obtain ⟨h6, _⟩ := chk_parts hc
  simp only [attrsB, Bool.and_eq_true, decide_eq_true_eq, List.all_eq_true] at h6
  have g1 := hG.svc; have g2 := hG.op; have g3 := hG.kind; have g4 := hG.status; have g5 := hG.start; have g6 := hG.fin; have g7 := hG.links; have g8 := hG.attrs; have g9 := hG.events
  have l1 := bytesI_length a.svc
  have l2 := bytesI_length a.op
  have e1 := enc1 a.links.length (by omega)
  have e2 := enc1 a.svc.size (by omega)
  have e3 := enc1 a.op.size (by omega)
  have e4 := enc1 a.kind.toNat (by omega)
  have e5 := enc1 a.status.toNat (by omega)
  have e6 := enc9 a.start.toNat (by omega)
  have e7 := enc9 a.fin.toNat (by omega)
  have e8 := enc1 a.attrs.length (by omega)
  have e9 := enc1 a.events.length (by omega)
  have p6 := encN_pos a.start.toNat
  have p7 := encN_pos a.fin.toNat
  have c1 := catL_len rawL 8 a.links (fun x _ => Nat.le_of_eq (rawL_len x))
  have c2 := catL_len attrL 245 a.attrs (fun x hx => attr_len x (h6.2 x hx) (hf.attrs x hx))
  have c3 := catL_len eventL 110 a.events (fun x hx => event_len x (hG.event x hx))
  simp only [encS, textL, List.length_append, rawL_len]
  omega
theorem span_small (K : List Int) (hl : K.length ≤ 140737488355328) (s : Option Nat) : (spanP K s).1.Small := by
  unfold spanP
  refine ⟨?_, ?_, ?_, ?_⟩
  · exact Nat.le_trans (textP_size _ _ _) hl
  · exact Nat.le_trans (textP_size _ _ _) hl
  · exact iter_all (f := attrP K) (ok := fun x => x.key.size ≤ 140737488355328 ∧ x.text.size ≤ 140737488355328) (fun s => ⟨Nat.le_trans (textP_size _ _ _) hl, Nat.le_trans (textP_size _ _ _) hl⟩) _ _
  · exact iter_all (f := eventP K) (ok := fun x => x.name.size ≤ 140737488355328) (fun s => Nat.le_trans (textP_size _ _ _) hl) _ _
theorem intP_rng (K : List Int) (s : Option Nat) (hK : ∀ x ∈ K, 0 ≤ x ∧ x < 256) : -9223372036854775808 ≤ (intP K s).1 ∧ (intP K s).1 ≤ 9223372036854775807 := by
  cases s with
  | none => simp [intP]
  | some t =>
    unfold intP
    simp only
    have hv := scan_val (K.drop t) 0 0
    generalize scanN (K.drop t) 0 0 = r at hv ⊢
    cases r using NumRes.each with
    | ok v n =>
      have := hv v n (fun x hx => hK x (List.mem_of_mem_drop hx)) (by omega) (by simp) rfl
      exact ⟨zag_lo _ (by omega) (by omega), zag_hi _ (by omega) (by omega)⟩
    | form => simp
    | ended => simp
theorem span_fits (K : List Int) (hK : ∀ x ∈ K, 0 ≤ x ∧ x < 256) (s : Option Nat) : (spanP K s).1.Fits := by
  unfold spanP
  exact ⟨rawP_rng _ _ hK, rawP_rng _ _ hK, rawP_rng _ _ hK, rawP_rng _ _ hK, iter_all (f := rawP K) (ok := fun x => 0 ≤ x ∧ x < 18446744073709551616) (fun s => rawP_rng _ _ hK) _ _, iter_all (f := attrP K) (ok := fun x => -9223372036854775808 ≤ x.num ∧ x.num ≤ 9223372036854775807) (fun s => intP_rng _ _ hK) _ _⟩
theorem enc_bytes (a : Sp) : ∀ x ∈ encS a, 0 ≤ x ∧ x < 256 := by
  have hc : ∀ {α : Type} (f : α → List Int), (∀ y, ∀ x ∈ f y, 0 ≤ x ∧ x < 256) → ∀ X : List α, ∀ x ∈ catL f X, 0 ≤ x ∧ x < 256 := by
    intro α f hf X
    induction X with
    | nil => intro x hx; simp [catL] at hx
    | cons y r ih =>
      intro x hx
      simp only [catL, List.mem_append] at hx
      rcases hx with hx | hx
      · exact hf y x hx
      · exact ih x hx
  have ht : ∀ s, ∀ x ∈ textL s, 0 ≤ x ∧ x < 256 := fun s x hx => by
    simp only [textL, List.mem_append] at hx
    rcases hx with hx | hx
    · exact encN_byte _ x hx
    · exact bytesI_byte s x hx
  intro x hx
  simp only [encS, List.mem_append] at hx
  rcases hx with hx | hx | hx | hx | hx | hx | hx | hx | hx | hx | hx | hx | (hx | hx) | (hx | hx)
  all_goals first | exact rawL_byte _ x hx | exact encN_byte _ x hx | exact ht _ x hx | exact hc rawL rawL_byte _ x hx | skip
  · refine hc attrL (fun y x hx => ?_) _ x hx
    simp only [attrL, List.mem_append] at hx
    rcases hx with hx | hx | hx | hx
    all_goals first | exact encN_byte _ x hx | exact ht _ x hx
  · refine hc eventL (fun y x hx => ?_) _ x hx
    simp only [eventL, List.mem_append] at hx
    rcases hx with hx | hx
    all_goals first | exact encN_byte _ x hx | exact ht _ x hx
end Go.Proofs.YtioibllopidilaaDoor
