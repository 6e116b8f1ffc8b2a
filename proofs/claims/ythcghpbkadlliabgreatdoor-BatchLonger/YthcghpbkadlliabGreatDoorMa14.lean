/-
  Merged by merge.py: Xd, Xe, Xp.
-/
import Derived.Test.YthcghpbkadlliabGreatDoorMa13
import Derived.Test.YthcghpbkadlliabGreatDoorMa03
import Derived.Test.YthcghpbkadlliabGreatDoorRw
import Derived.Test.YthcghpbkadlliabGreatDoorMa10
import Derived.WalkLawsBesides
import Derived.Lib.IfaceEq
namespace Go.Proofs.YthcghpbkadlliabGreatDoor
open Go

/-- Texts that may stand in a batch. -/
def TxtOk (x : ByteArray) : Prop := x.size ≤ 200 ∧ endL (bytesI x) = x.size
def TrcOk (x : Int × Int) : Prop := u64I x.1 ∧ u64I x.2
theorem text_read {K : List Int} {s : Dst} {x : ByteArray} {s' : Dst} (hK : ∀ x ∈ K, 0 ≤ x ∧ x < 256) (h : textD K s = .ok (x, s')) : s' = s.to (s.pos + (textL x).length) ∧ K.drop s.pos = textL x ++ K.drop s'.pos ∧ s.pos + (textL x).length ≤ K.length ∧ TxtOk x := by
  unfold textD at h
  split at h
  · rename_i f v hr
    obtain ⟨n, h1, rfl, h3⟩ := textR_ok K s.pos 200 f v hr
    simp at h
    obtain ⟨rfl, rfl⟩ := h
    have hb : ∀ x ∈ K.drop s.pos, 0 ≤ x ∧ x < 256 := fun x hx => hK x (List.mem_of_mem_drop hx)
    obtain ⟨u, k1, _, k3⟩ := scan_form _ _ _ _ _ hb h1
    have hz := scan_size _ _ _ _ _ h1
    simp only [List.length_drop] at hz
    have hu : v = u := by simpa using k1
    subst hu
    have hby : ∀ x ∈ (K.drop (s.pos + n)).take v, 0 ≤ x ∧ x < 256 := fun x hx => hK x (List.mem_of_mem_drop (List.mem_of_mem_take hx))
    have e1 := bytesI_strI _ hby
    have e2 : (strI ((K.drop (s.pos + n)).take v)).size = v := by rw [strI_size]; simp; omega
    have e3 : (encN v).length = n := by rw [← k3]; simp only [List.length_take, List.length_drop]; omega
    have e4 : (textL (strI ((K.drop (s.pos + n)).take v))).length = n + v := by unfold textL; rw [List.length_append, bytesI_length, e2, e3]
    have d1 : K.drop (s.pos + n) = (K.drop s.pos).drop n := by rw [List.drop_drop]
    have d2 : K.drop (s.pos + n + v) = ((K.drop s.pos).drop n).drop v := by rw [List.drop_drop, List.drop_drop, Nat.add_assoc]
    refine ⟨by rw [e4, Nat.add_assoc], ?_, by rw [e4]; omega, ?_⟩
    · unfold textL
      show K.drop s.pos = _ ++ K.drop (s.pos + n + v)
      rw [e1, e2, ← k3, Nat.sub_zero, List.append_assoc, d1, d2, List.take_append_drop, List.take_append_drop]
    · unfold textR at hr
      rw [if_neg (by omega), h1] at hr
      simp only at hr
      split at hr
      · simp at hr
      split at hr
      · simp at hr
      split at hr
      · simp at hr
      rename_i a1 a2 a3
      have hle := endL_le _ ((K.drop (s.pos + n)).take v) (Nat.le_refl _)
      have hlen : ((K.drop (s.pos + n)).take v).length = v := by simp; omega
      unfold TxtOk
      rw [e1, e2]
      exact ⟨by omega, by omega⟩
  · simp at h
theorem text_back {K rest : List Int} {s : Dst} {x : ByteArray} (hx : TxtOk x) (h : K.drop s.pos = textL x ++ rest) : textD K s = .ok (x, s.to (s.pos + (textL x).length)) := by
  have hl := bytesI_length x
  have h0 := h
  unfold textL at h
  rw [List.append_assoc] at h
  have h2 := drop_app h
  obtain ⟨x1, x2⟩ := hx
  have hlen : s.pos + (encN x.size).length + x.size ≤ K.length := by
    have := congrArg List.length h
    have hp := encN_pos x.size
    simp [hl] at this
    omega
  have htk : (K.drop (s.pos + (encN x.size).length)).take x.size = bytesI x := by
    rw [h2, List.take_append_of_le_length (by omega), List.take_of_length_le (by omega)]
  have hR : textR K s.pos 200 = .ok (s.pos + (encN x.size).length) x.size := by
    unfold textR
    rw [if_neg (by omega), h, scan_enc _ _ (by omega)]
    simp only
    rw [if_neg (by omega), if_neg (by omega), htk, x2, if_neg (by omega)]
  unfold textD; rw [hR]; simp only; rw [htk, strI_bytesI]
  simp [textL, hl, Nat.add_assoc]
theorem trace_read {K : List Int} {s : Dst} {x : Int × Int} {s' : Dst} (hK : ∀ x ∈ K, 0 ≤ x ∧ x < 256) (hs : s.pos ≤ K.length) (h : traceD K s = .ok (x, s')) : s' = s.to (s.pos + (traceL x).length) ∧ K.drop s.pos = traceL x ++ K.drop s'.pos ∧ s.pos + (traceL x).length ≤ K.length ∧ TrcOk x := by
  obtain ⟨hi, s1, h1, h2⟩ := bind_ok h
  obtain ⟨lo, s2, h3, h4⟩ := step_ok h2
  simp at h4; obtain ⟨rfl, rfl⟩ := h4
  obtain ⟨rfl, a2, a3, a4⟩ := reads_raw8 K s hi s1 hK hs h1
  obtain ⟨rfl, b2, b3, b4⟩ := reads_raw8 K _ lo s2 hK a3 h3
  have hl : (traceL (hi, lo)).length = 16 := rfl
  simp only [Dst.to, rawL_len] at a2 a3 b2 b3 ⊢
  refine ⟨by rw [hl], ?_, by rw [hl]; omega, a4, b4⟩
  unfold traceL
  simp only
  have c1 := List.take_append_drop 8 (K.drop s.pos)
  have c2 := List.take_append_drop 8 (K.drop (s.pos + 8))
  rw [a2, List.drop_drop] at c1
  rw [b2, List.drop_drop] at c2
  rw [List.append_assoc, c2, c1]
theorem trace_back {K rest : List Int} {s : Dst} {x : Int × Int} (hx : TrcOk x) (h : K.drop s.pos = traceL x ++ rest) : traceD K s = .ok (x, s.to (s.pos + (traceL x).length)) := by
  unfold traceL at h
  rw [List.append_assoc] at h
  have h1 := backs_raw8 K s x.1 _ hx.1 h
  have h2 := backs_raw8 K (s.to (s.pos + (rawL x.1).length)) x.2 rest hx.2 (drop_app h)
  unfold traceD
  rw [bind_mk h1]
  exact step_mk h2 (by simp [Dst.to, traceL, rawL_len])

/-- Things of a table, one behind the other, none twice. -/
theorem hearT_read {K : List Int} (hK : ∀ x ∈ K, 0 ≤ x ∧ x < 256) : ∀ (n : Nat) (acc : List Unit) (s : Dst) (L : List Unit) (s' : Dst), s.pos ≤ K.length → iterF (fun _ => hearT1) n acc K s = .ok (L, s') →
    ∃ xs ps, s' = { s with pos := s'.pos, texts := s.texts ++ xs, tpl := s.tpl ++ ps } ∧ xs.length = n ∧ ps.length = n ∧ K.drop s.pos = xs.flatMap textL ++ K.drop s'.pos ∧ s.pos + n ≤ s'.pos ∧ s'.pos ≤ K.length ∧ (∀ x ∈ xs, TxtOk x) ∧ (∀ p ∈ ps, p ≤ K.length) ∧ (s.texts.Nodup → (s.texts ++ xs).Nodup) := by
  intro n
  induction n with
  | zero => intro acc s L s' hs h; simp [iterF] at h; obtain ⟨_, rfl⟩ := h; exact ⟨[], [], by simp, rfl, rfl, by simp, by omega, hs, by simp, by simp, by simp⟩
  | succ n ih =>
    intro acc s L s' hs h
    obtain ⟨u, s1, h1, h2⟩ := bind_ok h
    obtain ⟨x, s0, h3, h4⟩ := step_ok h1
    split at h4
    · simp at h4
    rename_i hn
    simp at h4
    obtain ⟨rfl, a2, a3, a4⟩ := text_read hK h3
    subst h4
    obtain ⟨xs, ps, e1, e2, e3, e4, e5, e6, e7, e8, e9⟩ := ih _ _ _ _ a3 h2
    have hp : 0 < (textL x).length := by unfold textL; rw [List.length_append]; have := encN_pos x.size; omega
    refine ⟨x :: xs, s.pos :: ps, ?_, by simp [e2], by simp [e3], ?_, ?_, e6, ?_, ?_, ?_⟩
    · rw [e1]; simp [Dst.to]
    · rw [a2]; simp only [Dst.to] at e4 ⊢; rw [e4]; simp
    · simp only [Dst.to] at e5; omega
    · intro y hy; rcases List.mem_cons.1 hy with rfl | hy
      · exact a4
      · exact e7 y hy
    · intro y hy; rcases List.mem_cons.1 hy with rfl | hy
      · exact hs
      · exact e8 y hy
    · intro hd
      have hm : x ∉ s.texts := fun h => hn ((idx_lt _ _).2 h)
      have := e9 (by
        show (s.texts ++ [x]).Nodup
        rw [List.nodup_append]
        exact ⟨hd, by simp, by intro a ha b hb; simp at hb; subst hb; rintro rfl; exact hm ha⟩)
      simpa using this
theorem hearT_back {K : List Int} : ∀ (xs : List ByteArray) (acc : List Unit) (s : Dst) (rest : List Int), (s.texts ++ xs).Nodup → (∀ x ∈ xs, TxtOk x) → K.drop s.pos = xs.flatMap textL ++ rest →
    ∃ L ps, iterF (fun _ => hearT1) xs.length acc K s = .ok (L, { s with pos := s.pos + (xs.flatMap textL).length, texts := s.texts ++ xs, tpl := s.tpl ++ ps }) ∧ ps.length = xs.length := by
  intro xs
  induction xs with
  | nil => intro acc s rest _ _ _; exact ⟨acc, [], by simp [iterF], rfl⟩
  | cons x xs ih =>
    intro acc s rest hd hx h
    rw [List.flatMap_cons, List.append_assoc] at h
    have h1 := text_back (hx x (by simp)) h
    have hm : ¬ idxL s.texts x < s.texts.length := by
      rw [idx_lt]
      intro hin
      rw [List.nodup_append] at hd
      exact hd.2.2 x hin x (by simp) rfl
    have h2 : hearT1 K s = .ok ((), { s with pos := s.pos + (textL x).length, texts := s.texts ++ [x], tpl := s.tpl ++ [s.pos] }) := step_mk h1 (by rw [if_neg hm]; rfl)
    obtain ⟨L, ps, e1, e2⟩ := ih (acc ++ [()]) { s with pos := s.pos + (textL x).length, texts := s.texts ++ [x], tpl := s.tpl ++ [s.pos] } rest (by simpa using hd) (fun y hy => hx y (by simp [hy])) (drop_app h)
    refine ⟨L, s.pos :: ps, ?_, by simp [e2]⟩
    show bindD hearT1 (fun v => iterF (fun _ => hearT1) xs.length (acc ++ [v])) K s = _
    rw [bind_mk h2, e1]
    simp [Nat.add_assoc]
theorem hearR_read {K : List Int} (hK : ∀ x ∈ K, 0 ≤ x ∧ x < 256) : ∀ (n : Nat) (acc : List Unit) (s : Dst) (L : List Unit) (s' : Dst), s.pos ≤ K.length → iterF (fun _ => hearR1) n acc K s = .ok (L, s') →
    ∃ xs ps, s' = { s with pos := s'.pos, traces := s.traces ++ xs, rpl := s.rpl ++ ps } ∧ xs.length = n ∧ ps.length = n ∧ K.drop s.pos = xs.flatMap traceL ++ K.drop s'.pos ∧ s.pos + n ≤ s'.pos ∧ s'.pos ≤ K.length ∧ (∀ x ∈ xs, TrcOk x) ∧ (∀ p ∈ ps, p ≤ K.length) ∧ (s.traces.Nodup → (s.traces ++ xs).Nodup) := by
  intro n
  induction n with
  | zero => intro acc s L s' hs h; simp [iterF] at h; obtain ⟨_, rfl⟩ := h; exact ⟨[], [], by simp, rfl, rfl, by simp, by omega, hs, by simp, by simp, by simp⟩
  | succ n ih =>
    intro acc s L s' hs h
    obtain ⟨u, s1, h1, h2⟩ := bind_ok h
    obtain ⟨x, s0, h3, h4⟩ := step_ok h1
    split at h4
    · simp at h4
    rename_i hn
    simp only [Except.ok.injEq, Prod.mk.injEq, true_and] at h4
    obtain ⟨rfl, a2, a3, a4⟩ := trace_read hK hs h3
    subst h4
    obtain ⟨xs, ps, e1, e2, e3, e4, e5, e6, e7, e8, e9⟩ := ih _ _ _ _ a3 h2
    have hp : (traceL x).length = 16 := rfl
    refine ⟨x :: xs, s.pos :: ps, ?_, by simp [e2], by simp [e3], ?_, ?_, e6, ?_, ?_, ?_⟩
    · rw [e1]; simp [Dst.to]
    · rw [a2]; simp only [Dst.to] at e4 ⊢; rw [e4]; simp
    · simp only [Dst.to] at e5; omega
    · intro y hy; rcases List.mem_cons.1 hy with rfl | hy
      · exact a4
      · exact e7 y hy
    · intro y hy; rcases List.mem_cons.1 hy with rfl | hy
      · exact hs
      · exact e8 y hy
    · intro hd
      have hm : x ∉ s.traces := fun h => hn ((idx_lt _ _).2 h)
      have := e9 (by
        show (s.traces ++ [x]).Nodup
        rw [List.nodup_append]
        exact ⟨hd, by simp, by intro a ha b hb; simp at hb; subst hb; rintro rfl; exact hm ha⟩)
      simpa using this
theorem hearR_back {K : List Int} : ∀ (xs : List (Int × Int)) (acc : List Unit) (s : Dst) (rest : List Int), (s.traces ++ xs).Nodup → (∀ x ∈ xs, TrcOk x) → K.drop s.pos = xs.flatMap traceL ++ rest →
    ∃ L ps, iterF (fun _ => hearR1) xs.length acc K s = .ok (L, { s with pos := s.pos + (xs.flatMap traceL).length, traces := s.traces ++ xs, rpl := s.rpl ++ ps }) ∧ ps.length = xs.length := by
  intro xs
  induction xs with
  | nil => intro acc s rest _ _ _; exact ⟨acc, [], by simp [iterF], rfl⟩
  | cons x xs ih =>
    intro acc s rest hd hx h
    rw [List.flatMap_cons, List.append_assoc] at h
    have h1 := trace_back (hx x (by simp)) h
    have hm : ¬ idxL s.traces x < s.traces.length := by
      rw [idx_lt]
      intro hin
      rw [List.nodup_append] at hd
      exact hd.2.2 x hin x (by simp) rfl
    have h2 : hearR1 K s = .ok ((), { s with pos := s.pos + (traceL x).length, traces := s.traces ++ [x], rpl := s.rpl ++ [s.pos] }) := step_mk h1 (by rw [if_neg hm]; rfl)
    obtain ⟨L, ps, e1, e2⟩ := ih (acc ++ [()]) { s with pos := s.pos + (traceL x).length, traces := s.traces ++ [x], rpl := s.rpl ++ [s.pos] } rest (by simpa using hd) (fun y hy => hx y (by simp [hy])) (drop_app h)
    refine ⟨L, s.pos :: ps, ?_, by simp [e2]⟩
    show bindD hearR1 (fun v => iterF (fun _ => hearR1) xs.length (acc ++ [v])) K s = _
    rw [bind_mk h2, e1]
    simp [Nat.add_assoc]
/-- The tables of what is laid: none twice, each as it may be. -/
structure EInv (st : Est) : Prop where
  t1 : st.texts.Nodup
  t2 : ∀ x ∈ st.texts, TxtOk x
  r1 : st.traces.Nodup
  r2 : ∀ x ∈ st.traces, TrcOk x
theorem ins_nodup {α : Type} [DecidableEq α] {l : List α} (h : l.Nodup) (x : α) : (insL l x).Nodup := by
  unfold insL
  split
  · exact h
  · rename_i hn
    rw [idx_lt] at hn
    rw [List.nodup_append]
    exact ⟨h, by simp, by intro a ha b hb; simp at hb; subst hb; rintro rfl; exact hn ha⟩
theorem ins_all {α : Type} [DecidableEq α] {l : List α} {P : α → Prop} (h : ∀ y ∈ l, P y) {x : α} (hx : P x) : ∀ y ∈ insL l x, P y := by
  unfold insL
  split
  · exact h
  · intro y hy; simp at hy; rcases hy with hy | rfl
    · exact h y hy
    · exact hx
theorem EInv.put {st : Est} (h : EInv st) (bs : List Int) : EInv (putE bs st) := ⟨h.t1, h.t2, h.r1, h.r2⟩
theorem EInv.start {st : Est} (h : EInv st) (v : Int) : EInv (startE v st) := ⟨h.t1, h.t2, h.r1, h.r2⟩
theorem EInv.name {st : Est} (h : EInv st) {x : ByteArray} (hx : TxtOk x) : EInv (nameE x st) := ⟨ins_nodup h.t1 x, ins_all h.t2 hx, h.r1, h.r2⟩
theorem EInv.trace {st : Est} (h : EInv st) {x : Int × Int} (hx : TrcOk x) : EInv (traceE x st) := ⟨h.t1, h.t2, ins_nodup h.r1 x, ins_all h.r2 hx⟩
theorem EInv.iter {α : Type} {e : List α → α → Est → Est} {P : α → Prop} (he : ∀ acc v st, P v → EInv st → EInv (e acc v st)) : ∀ (l acc : List α) (st : Est), (∀ v ∈ l, P v) → EInv st → EInv (iterE e acc l st)
  | [], _, _, _, h => h
  | v :: r, acc, st, hl, h => EInv.iter he r (acc ++ [v]) (e acc v st) (fun y hy => hl y (by simp [hy])) (he acc v st (hl v (by simp)) h)
structure SpanT (a : Sp) : Prop where
  trace : TrcOk (a.hi, a.lo)
  svc : TxtOk a.svc
  op : TxtOk a.op
  attrs : ∀ x ∈ a.attrs, TxtOk x.key ∧ TxtOk x.text
  events : ∀ x ∈ a.events, TxtOk x.name
theorem EInv.span {st : Est} (h : EInv st) {a : Sp} (ha : SpanT a) : EInv (spanE a st) := by
  unfold spanE eventsE attrsE linksE
  refine EInv.iter (P := fun x : EventD => TxtOk x.name) (fun acc v st hv h => (h.put _).name hv) _ _ _ ha.events (EInv.put ?_ _)
  refine EInv.iter (P := fun x : AttrD => TxtOk x.key ∧ TxtOk x.text) (fun acc v st hv h => ?_) _ _ _ ha.attrs (EInv.put ?_ _)
  · unfold attrE1 valueE
    split
    · exact ((h.name hv.1).put _).name hv.2
    split
    · exact ((h.name hv.1).put _).put _
    · exact ((h.name hv.1).put _).put _
  refine EInv.iter (P := fun _ : Int => True) (fun acc v st hv h => h.put _) _ _ _ (fun _ _ => trivial) (EInv.put ?_ _)
  exact ((((((((h.trace ha.trace).put _).put _).name ha.svc).name ha.op).put _).start _).put _)
theorem spans_inv (l : List Sp) (h : ∀ a ∈ l, SpanT a) : EInv (spansE l) :=
  EInv.iter (P := SpanT) (fun _ _ _ ha h => h.span ha) l [] e0 h ⟨by simp [e0], by simp [e0], by simp [e0], by simp [e0]⟩
theorem sound_spanC : Sound spanC1 spanE := by
  intro K b s v s' hI h
  obtain ⟨u, s1, h1, h2⟩ := step_ok h
  split at h2
  · simp at h2; obtain ⟨rfl, rfl⟩ := h2; exact sound_span K b s _ _ hI h1
  · simp at h2
theorem comp_spans : ∀ (l acc : List Sp) (K : List Int) (b : Nat) (s : Dst), Inv K b s → (0 ≤ s.start ∧ s.start ≤ 4611686018427387904) → (∀ a ∈ l, SpanQ a ∧ chkS a = 0) → Fit K b s (iterE (fun _ => spanE) acc l (est K b s)) →
    ∃ s', iterF (fun _ => spanC1) l.length acc K s = .ok (acc ++ l, s') ∧ Inv K b s' ∧ s'.texts = s.texts ∧ s'.traces = s.traces ∧ est K b s' = iterE (fun _ => spanE) acc l (est K b s) := by
  intro l
  induction l with
  | nil => intro acc K b s hI _ _ _; exact ⟨s, by simp [iterF], hI, rfl, rfl, rfl⟩
  | cons v r ih =>
    intro acc K b s hI hst hQ hF
    have hv := hQ v (by simp)
    obtain ⟨s1, h1⟩ := comp_span K b s v hI ⟨hst, hv.1⟩ (hF.le (le_iter (fun _ => le_span) r (acc ++ [v]) _))
    obtain ⟨i1, i2, i3, i4⟩ := sound_span K b s v s1 hI h1
    have i5 := span_start K b s v s1 hI h1
    have hF1 : Fit K b s1 (iterE (fun _ => spanE) (acc ++ [v]) r (est K b s1)) := by rw [← i4]; exact hF.same i2 i3
    obtain ⟨s2, h2, j1, j2, j3, j4⟩ := ih (acc ++ [v]) K b s1 i1 (by rw [i5]; exact hv.1.start) (fun a ha => hQ a (by simp [ha])) hF1
    refine ⟨s2, ?_, j1, j2.trans i2, j3.trans i3, ?_⟩
    · show bindD spanC1 (fun v => iterF (fun _ => spanC1) r.length (acc ++ [v])) K s = _
      have hc : spanC1 K s = .ok (v, s1) := step_mk h1 (by rw [if_pos hv.2])
      rw [bind_mk hc, h2]; simp
    · rw [j4, ← i4]; rfl

theorem list_take_eq {α : Type} {l : List α} {n : Nat} (h : l.take n = l) (hn : n ≤ l.length) : n = l.length := by
  have := congrArg List.length h
  simp at this; omega
/-- P5.1: what is laid is read; and how far. -/
theorem top_back (l : List Sp) (hn : l.length ≤ 500) (hq : ∀ a ∈ l, SpanQ a ∧ SpanT a ∧ chkS a = 0) (hlen : (encB l).length < 18446744073709551616) (hby : ∀ x ∈ encB l, 0 ≤ x ∧ x < 256) :
    ∃ s, topD (encB l) d0 = .ok (l, s) ∧ s.pos = (encB l).length ∧ s.tsp = s.texts.length ∧ s.rsp = s.traces.length := by
  obtain ⟨K, hK⟩ : ∃ K, encB l = K := ⟨_, rfl⟩
  obtain ⟨st, hst⟩ : ∃ st, spansE l = st := ⟨_, rfl⟩
  have hE := spans_inv l (fun a ha => (hq a ha).2.1)
  rw [hst] at hE
  have hK' : K = headL ++ (encN st.texts.length ++ (st.texts.flatMap textL ++ (encN st.traces.length ++ (st.traces.flatMap traceL ++ (encN l.length ++ st.out))))) := by rw [← hK, ← hst]; rfl
  rw [hK] at hlen hby ⊢
  have flat_ge : ∀ (xs : List ByteArray), xs.length ≤ (xs.flatMap textL).length := by
    intro xs
    induction xs with
    | nil => simp
    | cons x r ih => rw [List.flatMap_cons, List.length_append]; have := encN_pos x.size; simp only [textL, List.length_append, List.length_cons] at *; omega
  have flat_geR : ∀ (xs : List (Int × Int)), xs.length ≤ (xs.flatMap traceL).length := by
    intro xs
    induction xs with
    | nil => simp
    | cons x r ih => rw [List.flatMap_cons, List.length_append]; have : (traceL x).length = 16 := rfl; simp only [List.length_cons]; omega
  have g1 := flat_ge st.texts
  have g2 := flat_geR st.traces
  have hl : K.length = 3 + ((encN st.texts.length).length + ((st.texts.flatMap textL).length + ((encN st.traces.length).length + ((st.traces.flatMap traceL).length + ((encN l.length).length + st.out.length))))) := by
    rw [hK']; simp only [List.length_append]; rfl
  have p0 : K.drop 3 = encN st.texts.length ++ (st.texts.flatMap textL ++ (encN st.traces.length ++ (st.traces.flatMap traceL ++ (encN l.length ++ st.out)))) := by
    rw [hK']; exact List.drop_left' rfl
  have u1 := backs_uint K d0 st.texts.length _ (by unfold u64R; omega) p0
  have p1 := drop_app p0
  obtain ⟨L1, ps1, t1, t2⟩ := hearT_back st.texts [] ⟨3 + (encN st.texts.length).length, [], [], 0, [], [], 0, 0⟩ _ (by simpa using hE.t1) hE.t2 p1
  have p2 := drop_app p1
  have u2 := backs_uint K ⟨3 + (encN st.texts.length).length + (st.texts.flatMap textL).length, st.texts, ps1, 0, [], [], 0, 0⟩ st.traces.length _ (by unfold u64R; omega) p2
  have p3 := drop_app p2
  obtain ⟨L2, ps2, t3, t4⟩ := hearR_back st.traces [] ⟨3 + (encN st.texts.length).length + (st.texts.flatMap textL).length + (encN st.traces.length).length, st.texts, ps1, 0, [], [], 0, 0⟩ _ (by simpa using hE.r1) hE.r2 p3
  have p4 := drop_app p3
  have u3 := backs_uint K ⟨3 + (encN st.texts.length).length + (st.texts.flatMap textL).length + (encN st.traces.length).length + (st.traces.flatMap traceL).length, st.texts, ps1, 0, st.traces, ps2, 0, 0⟩ l.length _ (by unfold u64R; omega) p4
  have p5 := drop_app p4
  simp only [Dst.to, d0, List.nil_append] at u1 u2 u3 t1 t3 p5
  obtain ⟨b, hb⟩ : ∃ b, 3 + (encN st.texts.length).length + (st.texts.flatMap textL).length + (encN st.traces.length).length + (st.traces.flatMap traceL).length + (encN l.length).length = b := ⟨_, rfl⟩
  rw [hb] at u3 p5
  have hI : Inv K b ⟨b, st.texts, ps1, 0, st.traces, ps2, 0, 0⟩ := ⟨hby, by simp, hE.t1, by show st.texts.length < _; omega, by simp, hE.r1, by show st.traces.length < _; omega, Nat.le_refl _, by show b ≤ K.length; omega, fun x hx => (hE.t2 x hx).1, fun x hx => hE.r2 x hx⟩
  have e0' : est K b ⟨b, st.texts, ps1, 0, st.traces, ps2, 0, 0⟩ = e0 := by simp [est, e0]
  have hF : Fit K b ⟨b, st.texts, ps1, 0, st.traces, ps2, 0, 0⟩ (iterE (fun _ => spanE) [] l (est K b ⟨b, st.texts, ps1, 0, st.traces, ps2, 0, 0⟩)) := by
    rw [e0']
    show Fit K b _ (spansE l)
    rw [hst]
    exact ⟨by rw [p5]; exact List.prefix_refl _, List.prefix_refl _, List.prefix_refl _⟩
  obtain ⟨s', h1, j1, j2, j3, j4⟩ := comp_spans l [] K b _ hI ⟨by simp, by simp⟩ (fun a ha => ⟨(hq a ha).1, (hq a ha).2.2⟩) hF
  rw [e0'] at j4
  have j5 : est K b s' = st := by rw [j4]; exact hst
  refine ⟨s', ?_, ?_, ?_, ?_⟩
  · unfold topD hearTD hearRD spansD d0
    rw [bind_mk (u := L1) (s1 := ⟨3 + (encN st.texts.length).length + (st.texts.flatMap textL).length, st.texts, ps1, 0, [], [], 0, 0⟩) (by rw [bind_mk u1]; exact t1)]
    rw [bind_mk (u := L2) (s1 := ⟨3 + (encN st.texts.length).length + (st.texts.flatMap textL).length + (encN st.traces.length).length + (st.traces.flatMap traceL).length, st.texts, ps1, 0, st.traces, ps2, 0, 0⟩) (by rw [bind_mk u2]; exact t3)]
    have hc : countD 500 53 K ⟨3 + (encN st.texts.length).length + (st.texts.flatMap textL).length + (encN st.traces.length).length + (st.traces.flatMap traceL).length, st.texts, ps1, 0, st.traces, ps2, 0, 0⟩ = .ok (l.length, ⟨b, st.texts, ps1, 0, st.traces, ps2, 0, 0⟩) := step_mk u3 (by rw [if_neg (by omega)])
    rw [bind_mk hc]
    simpa using h1
  · have := congrArg Est.out j5
    simp only [est] at this
    have hl2 := congrArg List.length this
    have b1 := j1.b1
    have b2 := j1.b2
    simp at hl2
    omega
  · have := congrArg Est.texts j5
    simp only [est] at this
    rw [j2] at this ⊢
    exact list_take_eq this (by have := j1.t1; rw [j2] at this; exact this)
  · have := congrArg Est.traces j5
    simp only [est] at this
    rw [j3] at this ⊢
    exact list_take_eq this (by have := j1.r1; rw [j3] at this; exact this)

/-- The tables stay as they were read. -/
def Stay {α : Type} (p : Pa α) : Prop := ∀ K s v s', p K s = .ok (v, s') → s'.texts = s.texts ∧ s'.tpl = s.tpl ∧ s'.traces = s.traces ∧ s'.rpl = s.rpl
theorem Stay.bind {α β : Type} {p : Pa α} {f : α → Pa β} (hp : Stay p) (hf : ∀ v, Stay (f v)) : Stay (bindD p f) := by
  intro K s v s' h
  obtain ⟨u, s1, h1, h2⟩ := bind_ok h
  obtain ⟨a1, a2, a3, a4⟩ := hp K s u s1 h1
  obtain ⟨b1, b2, b3, b4⟩ := hf u K s1 v s' h2
  exact ⟨b1.trans a1, b2.trans a2, b3.trans a3, b4.trans a4⟩
theorem Stay.step {α β : Type} {p : Pa α} {f : α → Dst → Dst → Except Nat (β × Dst)} (hp : Stay p) (hf : ∀ v s s' u s2, f v s s' = .ok (u, s2) → s2.texts = s'.texts ∧ s2.tpl = s'.tpl ∧ s2.traces = s'.traces ∧ s2.rpl = s'.rpl) : Stay (stepD p f) := by
  intro K s v s' h
  obtain ⟨u, s1, h1, h2⟩ := step_ok h
  obtain ⟨a1, a2, a3, a4⟩ := hp K s u s1 h1
  obtain ⟨b1, b2, b3, b4⟩ := hf _ _ _ _ _ h2
  exact ⟨b1.trans a1, b2.trans a2, b3.trans a3, b4.trans a4⟩
theorem Stay.iter {α : Type} {p : List α → Pa α} (hp : ∀ acc, Stay (p acc)) : ∀ n acc, Stay (iterF p n acc)
  | 0, acc => fun K s v s' h => by simp [iterF] at h; rw [← h.2]; exact ⟨rfl, rfl, rfl, rfl⟩
  | n + 1, acc => (hp acc).bind (fun v => Stay.iter hp n (acc ++ [v]))
theorem stay_uint : Stay uintD := by
  intro K s v s' h
  unfold uintD at h
  split at h
  · simp at h; rw [← h.2]; exact ⟨rfl, rfl, rfl, rfl⟩
  · simp at h
  · simp at h
theorem stay_bytes (n : Nat) : Stay (bytesD n) := by
  intro K s v s' h
  unfold bytesD at h
  split at h
  · simp at h; rw [← h.2]; exact ⟨rfl, rfl, rfl, rfl⟩
  · simp at h
theorem Stay.map {α β : Type} {p : Pa α} (hp : Stay p) (f : α → β) : Stay (stepD p fun v _ s' => .ok (f v, s')) := hp.step (fun v s s' u s2 h => by simp at h; rw [← h.2]; exact ⟨rfl, rfl, rfl, rfl⟩)
theorem stay_int : Stay intD := stay_uint.map _
theorem stay_raw8 : Stay raw8D := (stay_bytes 8).map _
theorem stay_small : Stay smallD := (stay_bytes 1).map _
theorem stay_count (m e : Nat) : Stay (countD m e) := stay_uint.step (fun v s s' u s2 h => by split at h <;> simp at h; rw [← h.2]; exact ⟨rfl, rfl, rfl, rfl⟩)
theorem stay_nextT : Stay nextT := stay_uint.step (fun v s s' u s2 h => by
  split at h
  · simp at h
  split at h
  · simp at h
  simp at h; rw [← h.2]; split <;> exact ⟨rfl, rfl, rfl, rfl⟩)
theorem stay_nextR : Stay nextR := stay_uint.step (fun v s s' u s2 h => by
  split at h
  · simp at h
  split at h
  · simp at h
  simp at h; rw [← h.2]; split <;> exact ⟨rfl, rfl, rfl, rfl⟩)
theorem stay_since : Stay sinceD := stay_int.step (fun v s s' u s2 h => by split at h <;> simp at h; rw [← h.2]; exact ⟨rfl, rfl, rfl, rfl⟩)
theorem stay_above (o m : Int) : Stay (aboveD o m) := stay_uint.step (fun v s s' u s2 h => by split at h <;> simp at h; rw [← h.2]; exact ⟨rfl, rfl, rfl, rfl⟩)
theorem stay_atMost (m : Int) : Stay (atMostD m) := stay_small.step (fun v s s' u s2 h => by split at h <;> simp at h; rw [← h.2]; exact ⟨rfl, rfl, rfl, rfl⟩)
theorem stay_value : Stay valueD := (stay_atMost 2).bind fun k => by
  show Stay (if k = 0 then _ else if k = 1 then _ else _)
  split
  · exact stay_nextT.map _
  split
  · exact stay_int.map _
  · exact (stay_atMost 1).map _
theorem stay_attr : Stay attrD1 := stay_nextT.bind fun _ => stay_value.map _
theorem stay_event (acc : List EventD) : Stay (eventD1 acc) := (stay_above _ _).bind fun _ => stay_nextT.map _
theorem stay_links : Stay linksD := (stay_count 16 55).bind fun _ => Stay.iter (fun _ => stay_above _ _) _ _
theorem stay_attrs : Stay attrsD := (stay_count 32 55).bind fun _ => Stay.iter (fun _ => stay_attr) _ _
theorem stay_events : Stay eventsD := (stay_count 32 55).bind fun _ => Stay.iter (fun _ => stay_event _) _ _
theorem stay_span : Stay spanD :=
  stay_nextR.bind fun _ => stay_raw8.bind fun _ => stay_raw8.bind fun _ => stay_nextT.bind fun _ => stay_nextT.bind fun _ => stay_small.bind fun _ =>
  stay_since.bind fun _ => (stay_above _ _).bind fun _ => stay_links.bind fun _ => stay_attrs.bind fun _ => stay_events.bind fun _ => fun K s v s' h => by simp at h; rw [← h.2]; exact ⟨rfl, rfl, rfl, rfl⟩
theorem stay_spanC : Stay spanC1 := stay_span.step (fun v s s' u s2 h => by split at h <;> simp at h; rw [← h.2]; exact ⟨rfl, rfl, rfl, rfl⟩)
theorem stay_spans : Stay spansD := (stay_count 500 53).bind fun _ => Stay.iter (fun _ => stay_spanC) _ _

/-- What top reads: the tables, then the spans. -/
theorem top_read {K : List Int} (hK : ∀ x ∈ K, 0 ≤ x ∧ x < 256) (hl : 3 ≤ K.length) (h64 : K.length < 18446744073709551616) {s2 : Dst} {L1 L2 : List Unit} {s1 : Dst} (h1 : hearTD K d0 = .ok (L1, s1)) (h2 : hearRD K s1 = .ok (L2, s2)) :
    Inv K s2.pos s2 ∧ s2.tsp = 0 ∧ s2.rsp = 0 ∧ s2.start = 0 ∧ s2.tpl.length = s2.texts.length ∧ s2.rpl.length = s2.traces.length ∧ (∀ p ∈ s2.tpl, p ≤ K.length) ∧ (∀ p ∈ s2.rpl, p ≤ K.length) ∧ s2.texts.length ≤ K.length ∧ s2.traces.length ≤ K.length ∧
      K.drop 3 = encN s2.texts.length ++ (s2.texts.flatMap textL ++ (encN s2.traces.length ++ (s2.traces.flatMap traceL ++ K.drop s2.pos))) := by
  obtain ⟨n, t1, u1, u2⟩ := bind_ok h1
  obtain ⟨rfl, a2, a3, a4⟩ := reads_uint K d0 n t1 hK hl u1
  obtain ⟨xs, ps, e1, e2, e3, e4, e5, e6, e7, e8, e9⟩ := hearT_read hK n [] _ _ _ a3 u2
  obtain ⟨m, t2, v1, v2⟩ := bind_ok h2
  obtain ⟨rfl, b2, b3, b4⟩ := reads_uint K s1 m t2 hK e6 v1
  obtain ⟨ys, qs, f1, f2, f3, f4, f5, f6, f7, f8, f9⟩ := hearR_read hK m [] _ _ _ b3 v2
  simp only [Dst.to, d0, List.nil_append] at e1 e4 e5 e9 f1 f4 f5 f9 a2 b2 a3
  have q1 : s1.texts = xs := by rw [e1]
  have q2 : s1.tpl = ps := by rw [e1]
  have q3 : s1.traces = [] := by rw [e1]
  have q4 : s1.rpl = [] := by rw [e1]
  have q5 : s1.tsp = 0 := by rw [e1]
  have q6 : s1.rsp = 0 := by rw [e1]
  have q7 : s1.start = 0 := by rw [e1]
  have r1 : s2.texts = xs := by rw [f1]; exact q1
  have r2 : s2.tpl = ps := by rw [f1]; exact q2
  have r3 : s2.traces = ys := by rw [f1]; simp [q3]
  have r4 : s2.rpl = qs := by rw [f1]; simp [q4]
  have r5 : s2.tsp = 0 := by rw [f1]; exact q5
  have r6 : s2.rsp = 0 := by rw [f1]; exact q6
  have r7 : s2.start = 0 := by rw [f1]; exact q7
  rw [q3] at f9
  refine ⟨⟨hK, by omega, by rw [r1]; exact e9 (by simp), by rw [r1]; omega, by omega, by rw [r3]; simpa using f9 (by simp), by rw [r3]; omega, Nat.le_refl _, f6, by rw [r1]; exact fun x hx => (e7 x hx).1, by rw [r3]; exact fun x hx => f7 x hx⟩, r5, r6, r7, by rw [r1, r2]; omega, by rw [r3, r4]; omega, by rw [r2]; exact e8, by rw [r4]; exact f8, by rw [r1]; omega, by rw [r3]; omega, ?_⟩
  rw [r1, r3, e2, f2]
  have c1 := List.take_append_drop (encN n).length (K.drop 3)
  rw [a2, List.drop_drop] at c1
  have c2 := List.take_append_drop (encN m).length (K.drop s1.pos)
  rw [b2, List.drop_drop] at c2
  rw [← f4, c2, ← e4, c1]
theorem iter_chk : ∀ (n : Nat) (acc : List Sp) (K : List Int) (s : Dst) (L : List Sp) (s' : Dst), iterF (fun _ => spanC1) n acc K s = .ok (L, s') → (∀ a ∈ acc, chkS a = 0) → ∀ a ∈ L, chkS a = 0 := by
  intro n
  induction n with
  | zero => intro acc K s L s' h ha; simp [iterF] at h; rw [← h.1]; exact ha
  | succ n ih =>
    intro acc K s L s' h ha
    obtain ⟨v, s1, h1, h2⟩ := bind_ok h
    refine ih _ K s1 L s' h2 ?_
    obtain ⟨u, s0, h3, h4⟩ := step_ok h1
    split at h4
    · rename_i hc
      simp at h4; obtain ⟨rfl, rfl⟩ := h4
      intro a hm; simp at hm; rcases hm with hm | rfl
      · exact ha a hm
      · exact hc
    · simp at h4
/-- P5.2, P5.5: what is read has just these bytes. -/
theorem dec_one {K : List Int} (hK : ∀ x ∈ K, 0 ≤ x ∧ x < 256) {l : List Sp} (h : decB K = .ok l) : encB l = K ∧ l.length ≤ 500 ∧ K.length ≤ 65536 ∧ ∀ a ∈ l, chkS a = 0 := by
  unfold decB at h
  split at h
  · simp at h
  rename_i g1
  split at h
  · simp at h
  rename_i g2
  split at h
  · simp at h
  rename_i L s' ht
  split at h
  · simp at h
  rename_i g3
  split at h
  · simp at h
  rename_i g4
  split at h
  · simp at h
  rename_i g5
  simp at h; subst h
  have hh : K.take 3 = headL := by simpa using g2
  have hl : 3 ≤ K.length := by have := congrArg List.length hh; simp [headL] at this; omega
  obtain ⟨L1, s1, h1, ht⟩ := bind_ok ht
  obtain ⟨L2, s2, h2, ht⟩ := bind_ok ht
  obtain ⟨hI, z1, z2, z3, z4, z5, z6, z7, z8, z9, z10⟩ := top_read hK hl (by omega) h1 h2
  have ht0 := ht
  obtain ⟨n, s3, h3, h4⟩ := bind_ok ht
  have hst := stay_spans K s2 L s' ht0
  obtain ⟨u, t3, w1, w2⟩ := step_ok h3
  split at w2
  · simp at w2
  rename_i hn
  simp at w2; obtain ⟨rfl, rfl⟩ := w2
  obtain ⟨x1, x2, x3, x4⟩ := reads_uint K s2 u t3 hK hI.b2 w1
  have hI3 : Inv K t3.pos t3 := by
    rw [x1]; exact ⟨hK, hI.t1, hI.t2, hI.t3, hI.r1, hI.r2, hI.r3, Nat.le_refl _, x3, hI.z1, hI.z2⟩
  obtain ⟨j1, j2, j3, l, j4, j5, j6⟩ := sound_iter (fun _ => sound_spanC) u [] K t3.pos t3 L s' hI3 h4
  simp at j4; subst j4
  have e0' : est K t3.pos t3 = e0 := by rw [x1]; simp [est, e0, Dst.to, z1, z2, z3]
  rw [e0'] at j6
  have hs' : s'.pos = K.length := by have := j1.b2; omega
  have hst1 := hst.1
  have hst3 := hst.2.2.1
  have q1 : (spansE L).texts = s2.texts := by
    show (iterE (fun _ => spanE) [] L e0).texts = _
    rw [j6]; simp only [est]; rw [hst1, List.take_of_length_le (by rw [← hst1]; omega)]
  have q2 : (spansE L).traces = s2.traces := by
    show (iterE (fun _ => spanE) [] L e0).traces = _
    rw [j6]; simp only [est]; rw [hst3, List.take_of_length_le (by rw [← hst3]; omega)]
  have q3 : (spansE L).out = K.drop t3.pos := by
    show (iterE (fun _ => spanE) [] L e0).out = _
    rw [j6]; simp only [est]; rw [hs', List.take_of_length_le (by simp)]
  refine ⟨?_, by omega, by omega, iter_chk u [] K t3 L s' h4 (by simp)⟩
  unfold encB wholeE
  rw [q1, q2, q3, j5, ← hh]
  have c1 := List.take_append_drop (encN u).length (K.drop s2.pos)
  rw [x2, List.drop_drop] at c1
  have e3 : t3.pos = s2.pos + (encN u).length := by rw [x1]; rfl
  rw [e3, c1, ← z10, List.take_append_drop]
theorem dec_err {K : List Int} (hK : ∀ x ∈ K, 0 ≤ x ∧ x < 256) {a e : Nat} (h : decB K = .error (a, e)) : a ≤ K.length ∧ 0 < e := by
  unfold decB at h
  split at h
  · simp at h; omega
  rename_i g1
  split at h
  · simp at h; omega
  rename_i g2
  have hh : K.take 3 = headL := by simpa using g2
  have hl : 3 ≤ K.length := by have := congrArg List.length hh; simp [headL] at this; omega
  split at h
  · rename_i x ht
    simp at h; subst h
    exact nice_top.err K d0 a e hl ht
  rename_i L s' ht
  have hm := (nice_top.mono K d0 L s' hl ht).2
  obtain ⟨L1, s1, h1, ht⟩ := bind_ok ht
  obtain ⟨L2, s2, h2, ht⟩ := bind_ok ht
  obtain ⟨hI, z1, z2, z3, z4, z5, z6, z7, z8, z9, z10⟩ := top_read hK hl (by omega) h1 h2
  obtain ⟨y1, y2, y3, y4⟩ := stay_spans K s2 L s' ht
  split at h
  · rename_i g3
    simp at h
    rw [← h.1, ← h.2, y2]
    have hlt : s'.tsp < s2.tpl.length := by rw [z4, ← y1]; exact g3
    refine ⟨?_, by omega⟩
    rw [List.getElem?_eq_getElem hlt]
    exact z6 _ (List.getElem_mem hlt)
  split at h
  · rename_i g3 g4
    simp at h
    rw [← h.1, ← h.2, y4]
    have hlt : s'.rsp < s2.rpl.length := by rw [z5, ← y3]; exact g4
    refine ⟨?_, by omega⟩
    rw [List.getElem?_eq_getElem hlt]
    exact z7 _ (List.getElem_mem hlt)
  split at h
  · simp at h; omega
  · simp at h
theorem enc_head (l : List Sp) : ∃ r, encB l = headL ++ r := ⟨_, rfl⟩
theorem dec_back (l : List Sp) (hn : l.length ≤ 500) (hq : ∀ a ∈ l, SpanQ a ∧ SpanT a ∧ chkS a = 0) (hlen : (encB l).length ≤ 65536) (hby : ∀ x ∈ encB l, 0 ≤ x ∧ x < 256) : decB (encB l) = .ok l := by
  obtain ⟨s, h1, h2, h3, h4⟩ := top_back l hn hq (by omega) hby
  obtain ⟨r, hr⟩ := enc_head l
  unfold decB
  rw [if_neg (by omega), if_neg (by rw [hr]; simp [headL]), h1]
  simp only
  rw [if_neg (by omega), if_neg (by omega), if_neg (by omega)]
theorem dec_cut (l : List Sp) (hn : l.length ≤ 500) (hq : ∀ a ∈ l, SpanQ a ∧ SpanT a ∧ chkS a = 0) (hlen : (encB l).length ≤ 65536) (hby : ∀ x ∈ encB l, 0 ≤ x ∧ x < 256) (n : Nat) (h : n < (encB l).length) :
    decB ((encB l).take n) = if n < 3 then .error (0, 52) else .error (n, 11) := by
  obtain ⟨s, h1, h2, h3, h4⟩ := top_back l hn hq (by omega) hby
  obtain ⟨r, hr⟩ := enc_head l
  have hz : ((encB l).take n).length = n := by simp; omega
  unfold decB
  rw [if_neg (by omega)]
  by_cases h3' : n < 3
  · rw [if_pos h3', if_pos]
    intro he
    have := congrArg List.length he
    rw [List.length_take, hz] at this
    simp [headL] at this; omega
  · rw [if_neg h3', if_neg (by rw [List.take_take, Nat.min_eq_left (by omega), hr]; simp [headL])]
    rw [← List.take_append_drop n (encB l)] at h1
    rcases nice_top.cut _ _ _ _ _ (by rw [hz]; simp [d0]; omega) h1 with ⟨c1, c2⟩ | ⟨c1, c2⟩
    · omega
    · rw [c2, hz]
theorem dec_more (l : List Sp) (hn : l.length ≤ 500) (hq : ∀ a ∈ l, SpanQ a ∧ SpanT a ∧ chkS a = 0) (hlen : (encB l).length ≤ 65536) (hby : ∀ x ∈ encB l, 0 ≤ x ∧ x < 256) (M : List Int) (h : 0 < M.length) :
    decB (encB l ++ M) = if 65536 < (encB l).length + M.length then .error (0, 51) else .error ((encB l).length, 15) := by
  obtain ⟨s, h1, h2, h3, h4⟩ := top_back l hn hq (by omega) hby
  obtain ⟨r, hr⟩ := enc_head l
  unfold decB
  rw [List.length_append]
  by_cases hb : 65536 < (encB l).length + M.length
  · rw [if_pos hb, if_pos hb]
  · have hl : 3 ≤ (encB l).length := by rw [hr]; simp [headL]
    rw [if_neg hb, if_neg hb, if_neg (by rw [hr]; simp [headL]), nice_top.ext _ M _ _ _ (by simp [d0]; omega) h1]
    simp only
    rw [if_neg (by omega), if_neg (by omega), if_pos (by omega), h2]
theorem encN_mono : ∀ (b a : Nat), a ≤ b → (encN a).length ≤ (encN b).length := by
  intro b
  induction b using Nat.strongRecOn with
  | ind b ih =>
    intro a h
    by_cases hb : b < 128
    · rw [encN_lt hb, encN_lt (by omega)]; simp
    · rw [encN_ge (by omega : 128 ≤ b)]
      by_cases ha : a < 128
      · rw [encN_lt ha]; simp
      · rw [encN_ge (by omega : 128 ≤ a)]
        have := ih (b / 128) (by omega) (a / 128) (by omega)
        simpa using this
theorem iterE_app {α : Type} (e : List α → α → Est → Est) : ∀ (l m acc : List α) (st : Est), iterE e acc (l ++ m) st = iterE e (acc ++ l) m (iterE e acc l st)
  | [], m, acc, st => by simp [iterE]
  | v :: r, m, acc, st => by
    show iterE e (acc ++ [v]) (r ++ m) (e acc v st) = iterE e (acc ++ v :: r) m (iterE e (acc ++ [v]) r (e acc v st))
    rw [iterE_app e r m (acc ++ [v])]; simp
/-- P5.4. -/
theorem enc_longer (l : List Sp) (n : Nat) (h : n < l.length) : (encB (l.take n)).length < (encB l).length := by
  obtain ⟨v, hv⟩ : ∃ v, l.drop n = v :: l.drop (n + 1) := ⟨l[n], List.drop_eq_getElem_cons h⟩
  have e : spansE l = iterE (fun _ => spanE) (l.take n ++ [v]) (l.drop (n + 1)) (spanE v (spansE (l.take n))) := by
    have : l = l.take n ++ (v :: l.drop (n + 1)) := by rw [← hv, List.take_append_drop]
    unfold spansE
    conv => lhs; rw [this]
    rw [iterE_app]; rfl
  have hle : LeE (spanE v (spansE (l.take n))) (spansE l) := by rw [e]; exact le_iter (fun _ => le_span) _ _ _
  have hls := le_span v (spansE (l.take n))
  have hout : (spansE (l.take n)).out.length < (spanE v (spansE (l.take n))).out.length := by
    have h1 : LeE (putE (rawL v.id) (traceE (v.hi, v.lo) (spansE (l.take n)))) (spanE v (spansE (l.take n))) := by
      unfold spanE
      exact (le_put _ _).trans ((le_name _ _).trans ((le_name _ _).trans ((le_put _ _).trans ((le_start _ _).trans ((le_put _ _).trans ((le_links _ _).trans ((le_attrs _ _).trans (le_events _ _))))))))
    have h2 := h1.out.length_le
    have h3 := (le_trace (v.hi, v.lo) (spansE (l.take n))).out.length_le
    have h4 : (putE (rawL v.id) (traceE (v.hi, v.lo) (spansE (l.take n)))).out.length = (traceE (v.hi, v.lo) (spansE (l.take n))).out.length + 8 := by simp [putE, rawL_len]
    omega
  have hT := (hls.trans hle).texts
  have hR := (hls.trans hle).traces
  have o1 := hle.out.length_le
  have m1 := encN_mono _ _ hT.length_le
  have m2 := encN_mono _ _ hR.length_le
  have m3 := encN_mono l.length (l.take n).length (by simp; omega)
  have f1 : ((spansE (l.take n)).texts.flatMap textL).length ≤ ((spansE l).texts.flatMap textL).length := by
    obtain ⟨r, hr⟩ := hT
    rw [← hr, List.flatMap_append, List.length_append]; omega
  have f2 : ((spansE (l.take n)).traces.flatMap traceL).length ≤ ((spansE l).traces.flatMap traceL).length := by
    obtain ⟨r, hr⟩ := hR
    rw [← hr, List.flatMap_append, List.length_append]; omega
  unfold encB wholeE
  simp only [List.length_append]
  omega
end Go.Proofs.YthcghpbkadlliabGreatDoor

namespace Go.Proofs.YthcghpbkadlliabGreatDoor
open Go

theorem lastI_snoc (acc : List Int) (v : Int) : lastI (acc ++ [v]) = v := by simp [lastI]
theorem lastE_snoc (acc : List EventD) (v : EventD) : lastE (acc ++ [v]) = v.moment := by simp [lastE, lastI]
theorem cmpI_neg {a b : Int} (h : cmpI a b < 0) : a < b := by
  unfold cmpI at h
  split at h
  · assumption
  split at h <;> omega
theorem cmpE_neg {a b : EventD} (h : cmpE a b < 0) : a.moment ≤ b.moment := by
  unfold cmpE at h
  by_cases hlt : b.moment < a.moment
  · have : cmpI a.moment b.moment = 1 := by unfold cmpI; rw [if_neg (by omega), if_pos hlt]
    rw [this] at h
    simp [orL, orI] at h
  · omega
theorem rise_links_all : ∀ (l acc : List Int), (∀ x ∈ l, 0 ≤ x ∧ x < 18446744073709551616) → riseB cmpI l = true → 0 ≤ lastI acc → (∀ x, l.head? = some x → lastI acc ≤ x) → AllQ linkQ acc l
  | [], _, _, _, _, _ => trivial
  | v :: r, acc, hl, hr, h0, hh => by
    have hv := hl v (by simp)
    have h1 := hh v rfl
    refine ⟨⟨h1, by omega, by omega⟩, rise_links_all r (acc ++ [v]) (fun x hx => hl x (by simp [hx])) ?_ (by rw [lastI_snoc]; exact hv.1) ?_⟩
    · cases r with
      | nil => rfl
      | cons y t => simp only [riseB, Bool.and_eq_true] at hr; exact hr.2
    · intro x hx
      cases r with
      | nil => simp at hx
      | cons y t =>
        simp only [riseB, Bool.and_eq_true, decide_eq_true_eq] at hr
        simp at hx; subst hx
        rw [lastI_snoc]; exact Int.le_of_lt (cmpI_neg hr.1)
theorem rise_events_all : ∀ (l acc : List EventD), (∀ x ∈ l, 0 ≤ x.moment ∧ x.moment ≤ 4611686018427387904) → riseB cmpE l = true → 0 ≤ lastE acc → (∀ x, l.head? = some x → lastE acc ≤ x.moment) → AllQ eventQ acc l
  | [], _, _, _, _, _ => trivial
  | v :: r, acc, hl, hr, h0, hh => by
    have hv := hl v (by simp)
    have h1 := hh v rfl
    refine ⟨⟨h1, by omega, by omega⟩, rise_events_all r (acc ++ [v]) (fun x hx => hl x (by simp [hx])) ?_ (by rw [lastE_snoc]; exact hv.1) ?_⟩
    · cases r with
      | nil => rfl
      | cons y t => simp only [riseB, Bool.and_eq_true] at hr; exact hr.2
    · intro x hx
      cases r with
      | nil => simp at hx
      | cons y t =>
        simp only [riseB, Bool.and_eq_true, decide_eq_true_eq] at hr
        simp at hx; subst hx
        rw [lastE_snoc]; exact cmpE_neg hr.1
theorem all_attrs : ∀ (l acc : List AttrD), (∀ x ∈ l, valQ (x.kind, x.text, x.num)) → AllQ attrQ acc l
  | [], _, _ => trivial
  | v :: r, acc, h => ⟨h v (by simp), all_attrs r (acc ++ [v]) (fun x hx => h x (by simp [hx]))⟩
theorem chk_all {a : Sp} (h : chkS a = 0) : a.start ≤ a.fin ∧ linksB a.id a.links = true ∧ attrsB a.attrs = true ∧ eventsB a.events = true := by
  unfold chkS at h
  split at h
  · omega
  split at h
  · omega
  rename_i h2
  split at h
  · omega
  split at h
  · omega
  split at h
  · omega
  rename_i h5
  split at h
  · omega
  rename_i h6
  split at h
  · omega
  rename_i h7
  simp only [Bool.or_eq_true, decide_eq_true_eq, not_or] at h2
  exact ⟨by omega, by simpa using h5, by simpa using h6, by simpa using h7⟩
theorem empty_of {s : ByteArray} (h : s.size = 0) : s = ByteArray.empty := by
  have h1 : s.data = #[] := Array.eq_empty_of_size_eq_zero h
  cases s
  simp at h1
  rw [h1]; rfl
/-- A span that may be, of numbers that fit, can be laid and read. -/
theorem span_can {a : Sp} (hf : a.Fits) (hc : chkS a = 0) : SpanQ a ∧ SpanT a := by
  have hG := chk_good hc
  have hU := chk_utf hc
  obtain ⟨c1, c2, c3, c4⟩ := chk_all hc
  simp only [linksB, attrsB, eventsB, Bool.and_eq_true, decide_eq_true_eq, List.all_eq_true] at c2 c3 c4
  have g1 := hG.fin
  refine ⟨⟨hf.id, hf.par, hG.kind, hG.status, hG.start, ⟨c1, g1.2⟩, ⟨hG.links, ?_⟩, ⟨hG.attrs, ?_⟩, ⟨hG.events, ?_⟩⟩, ⟨⟨hf.hi, hf.lo⟩, ⟨by have := hG.svc; omega, hU.svc⟩, ⟨by have := hG.op; omega, hU.op⟩, fun x hx => ?_, fun x hx => ?_⟩⟩
  · refine rise_links_all a.links [] hf.links c2.1.2 (by simp [lastI]) (fun x hx => ?_)
    have := hf.links x (List.mem_of_mem_head? hx)
    simpa [lastI] using this.1
  · refine all_attrs a.attrs [] (fun x hx => ?_)
    have hb := c3.2 x hx
    simp only [attrB, Bool.and_eq_true] at hb
    have v1 := hb.2
    unfold valB at v1
    split at v1
    · simp only [Bool.and_eq_true, decide_eq_true_eq] at v1; exact Or.inl ⟨by assumption, v1.1.1⟩
    split at v1
    · simp only [decide_eq_true_eq] at v1; exact Or.inr (Or.inl ⟨by assumption, empty_of v1, hf.attrs x hx⟩)
    split at v1
    · simp only [Bool.and_eq_true, Bool.or_eq_true, decide_eq_true_eq] at v1; exact Or.inr (Or.inr ⟨by assumption, empty_of v1.1, by simp only; omega, by simp only; omega⟩)
    · simp at v1
  · refine rise_events_all a.events [] (fun x hx => (hG.event x hx).2.2) c4.1.2 (by simp [lastE, lastI]) (fun x hx => ?_)
    have := (hG.event x (List.mem_of_mem_head? hx)).2.2
    simpa [lastE, lastI] using this.1
  · have := hG.attr x hx
    have u := hU.attrs x hx
    exact ⟨⟨by omega, u.1⟩, ⟨by omega, u.2⟩⟩
  · have := hG.event x hx
    exact ⟨by omega, hU.events x hx⟩
/-- All that is laid are bytes. -/
def Byt (l : List Int) : Prop := ∀ x ∈ l, 0 ≤ x ∧ x < 256
theorem Byt.app {a b : List Int} (h : Byt a) (k : Byt b) : Byt (a ++ b) := fun x hx => (List.mem_append.1 hx).elim (h x) (k x)
theorem byt_encN (n : Nat) : Byt (encN n) := encN_byte n
theorem byt_rawL (v : Int) : Byt (rawL v) := rawL_byte v
theorem byt_one {v : Int} (h : 0 ≤ v ∧ v < 256) : Byt [v] := fun x hx => by simp at hx; subst hx; exact h
theorem byt_put {st : Est} (h : Byt st.out) {bs : List Int} (hb : Byt bs) : Byt (putE bs st).out := h.app hb
theorem byt_name {st : Est} (h : Byt st.out) (x : ByteArray) : Byt (nameE x st).out := h.app (byt_encN _)
theorem byt_trace {st : Est} (h : Byt st.out) (x : Int × Int) : Byt (traceE x st).out := h.app (byt_encN _)
theorem byt_start {st : Est} (h : Byt st.out) (x : Int) : Byt (startE x st).out := h.app (byt_encN _)
theorem byt_iter {α : Type} {e : List α → α → Est → Est} {P : α → Prop} (he : ∀ acc v st, P v → Byt st.out → Byt (e acc v st).out) : ∀ (l acc : List α) (st : Est), (∀ v ∈ l, P v) → Byt st.out → Byt (iterE e acc l st).out
  | [], _, _, _, h => h
  | v :: r, acc, st, hl, h => byt_iter he r (acc ++ [v]) (e acc v st) (fun y hy => hl y (by simp [hy])) (he acc v st (hl v (by simp)) h)
theorem allQ_mem : ∀ (l acc : List AttrD), AllQ attrQ acc l → ∀ x ∈ l, valQ (x.kind, x.text, x.num)
  | [], _, _, x, hx => by simp at hx
  | v :: r, acc, h, x, hx => by
    rcases List.mem_cons.1 hx with rfl | hx
    · exact h.1
    · exact allQ_mem r _ h.2 x hx
theorem byt_span {st : Est} (h : Byt st.out) {a : Sp} (hq : SpanQ a) : Byt (spanE a st).out := by
  unfold spanE eventsE attrsE linksE
  refine byt_iter (P := fun _ : EventD => True) (fun acc v st _ h => byt_name (byt_put h (byt_encN _)) _) _ _ _ (fun _ _ => trivial) (byt_put ?_ (byt_encN _))
  refine byt_iter (P := fun x : AttrD => valQ (x.kind, x.text, x.num)) (fun acc v st hv h => ?_) _ _ _ (allQ_mem a.attrs [] hq.attrs.2) (byt_put ?_ (byt_encN _))
  · have hk : 0 ≤ v.kind ∧ v.kind < 256 := by rcases hv with ⟨h1, _⟩ | ⟨h1, _⟩ | ⟨h1, _⟩ <;> simp only at h1 <;> omega
    unfold attrE1 valueE
    split
    · exact byt_name (byt_put (byt_name h _) (byt_one hk)) _
    split
    · exact byt_put (byt_put (byt_name h _) (byt_one hk)) (byt_encN _)
    · rename_i n0 n1
      refine byt_put (byt_put (byt_name h _) (byt_one hk)) (byt_one ?_)
      rcases hv with ⟨h1, _⟩ | ⟨h1, _⟩ | ⟨_, _, h3, h4⟩
      · exact absurd h1 n0
      · exact absurd h1 n1
      · simp only at h3 h4; omega
  refine byt_iter (P := fun _ : Int => True) (fun acc v st _ h => byt_put h (byt_encN _)) _ _ _ (fun _ _ => trivial) (byt_put ?_ (byt_encN _))
  have k1 := hq.kind
  have k2 := hq.status
  exact byt_put (byt_start (byt_put (byt_name (byt_name (byt_put (byt_put (byt_trace h _) (byt_rawL _)) (byt_rawL _)) _) _) (byt_one ⟨by omega, by omega⟩)) _) (byt_encN _)
theorem byt_flat {α : Type} {f : α → List Int} (hf : ∀ x, Byt (f x)) : ∀ l : List α, Byt (l.flatMap f)
  | [] => fun x hx => by simp at hx
  | v :: r => by rw [List.flatMap_cons]; exact (hf v).app (byt_flat hf r)
theorem enc_byt (l : List Sp) (h : ∀ a ∈ l, SpanQ a) : Byt (encB l) := by
  have ho : Byt (spansE l).out := byt_iter (P := SpanQ) (fun _ _ _ ha h => byt_span h ha) l [] e0 h (fun x hx => by simp [e0] at hx)
  unfold encB wholeE
  refine Byt.app (fun x hx => ?_) ((byt_encN _).app ((byt_flat (fun x => (byt_encN _).app (bytesI_byte x)) _).app ((byt_encN _).app ((byt_flat (fun x => (byt_rawL _).app (byt_rawL _)) _).app ((byt_encN _).app ho)))))
  simp [headL] at hx
  rcases hx with rfl | rfl | rfl <;> omega
/-- What is read fits. -/
theorem links_fit {K : List Int} : ∀ (n : Nat) (acc : List Int) (s : Dst) (L : List Int) (s' : Dst), iterF linkD1 n acc K s = .ok (L, s') → (∀ x ∈ acc, 0 ≤ x ∧ x < 18446744073709551616) → ∀ x ∈ L, 0 ≤ x ∧ x < 18446744073709551616 := by
  intro n
  induction n with
  | zero => intro acc s L s' h ha; simp [iterF] at h; rw [← h.1]; exact ha
  | succ n ih =>
    intro acc s L s' h ha
    obtain ⟨v, s1, h1, h2⟩ := bind_ok h
    refine ih _ s1 L s' h2 ?_
    unfold linkD1 aboveD at h1
    obtain ⟨u, s0, h3, h4⟩ := step_ok h1
    split at h4
    · simp at h4
    rename_i hm
    simp at h4; obtain ⟨rfl, rfl⟩ := h4
    have hl : 0 ≤ lastI acc := by
      unfold lastI
      rcases List.eq_nil_or_concat acc with rfl | ⟨r, x, rfl⟩
      · simp
      · simp; exact (ha x (by simp)).1
    intro x hx; simp at hx; rcases hx with hx | rfl
    · exact ha x hx
    · omega
theorem attrs_fit {K : List Int} {b : Nat} : ∀ (n : Nat) (acc : List AttrD) (s : Dst) (L : List AttrD) (s' : Dst), Inv K b s → iterF (fun _ => attrD1) n acc K s = .ok (L, s') → (∀ x ∈ acc, (-9223372036854775808 ≤ x.num ∧ x.num ≤ 9223372036854775807) ∧ x.key.size ≤ 200 ∧ x.text.size ≤ 200) → ∀ x ∈ L, (-9223372036854775808 ≤ x.num ∧ x.num ≤ 9223372036854775807) ∧ x.key.size ≤ 200 ∧ x.text.size ≤ 200 := by
  intro n
  induction n with
  | zero => intro acc s L s' _ h ha; simp [iterF] at h; rw [← h.1]; exact ha
  | succ n ih =>
    intro acc s L s' hI h ha
    obtain ⟨v, s1, h1, h2⟩ := bind_ok h
    refine ih _ s1 L s' (sound_attr K b s v s1 hI h1).1 h2 ?_
    obtain ⟨key, t1, g1, g2⟩ := bind_ok h1
    obtain ⟨i1, i2, i3, i4⟩ := sound_nextT K b s key t1 hI g1
    have nx : ∀ (s : Dst) (x : ByteArray) (s' : Dst), Inv K b s → nextT K s = .ok (x, s') → x.size ≤ 200 := by
      intro s x s' hI h
      obtain ⟨m, q, _, h4⟩ := step_ok h
      split at h4
      · simp at h4
      rename_i hm
      split at h4
      · simp at h4
      simp at h4
      have hlt : m < s.texts.length := by omega
      rw [← h4.1]
      simp only [hlt, List.getElem?_eq_getElem, Option.getD_some]
      exact hI.z1 _ (List.getElem_mem hlt)
    have hk := nx s key t1 hI g1
    obtain ⟨val, t2, g3, g4⟩ := step_ok g2
    simp at g4
    obtain ⟨rfl, rfl⟩ := g4
    have hv : i64R val.2.2 ∧ val.2.1.size ≤ 200 := by
      obtain ⟨k, t3, g5, g6⟩ := bind_ok g3
      have j1 := (sound_atMost 2 K b t1 k t3 i1 g5).1
      split at g6
      · obtain ⟨x, t4, g7, g8⟩ := step_ok g6
        simp at g8; rw [← g8.1]
        exact ⟨by unfold i64R; simp, nx _ _ _ j1 g7⟩
      split at g6
      · obtain ⟨x, t4, g7, g8⟩ := step_ok g6
        simp at g8; rw [← g8.1]
        exact ⟨(reads_int K t3 x t4 j1.byts j1.b2 g7).2.2.2, by simp⟩
      · obtain ⟨x, t4, g7, g8⟩ := step_ok g6
        simp at g8; rw [← g8.1]
        obtain ⟨y, t5, g9, g10⟩ := step_ok g7
        split at g10
        · simp at g10
        · simp at g10; rw [← g10.1]
          have := (reads_small K t3 y t5 j1.byts j1.b2 g9).2.2.2
          unfold u8R at this
          exact ⟨by unfold i64R; simp only; omega, by simp⟩
    intro x hx; simp at hx; rcases hx with hx | rfl
    · exact ha x hx
    · exact ⟨hv.1, hk, hv.2⟩
theorem nextT_size {K : List Int} {b : Nat} {s : Dst} {x : ByteArray} {s' : Dst} (hI : Inv K b s) (h : nextT K s = .ok (x, s')) : x.size ≤ 200 := by
  obtain ⟨m, q, _, h4⟩ := step_ok h
  split at h4
  · simp at h4
  rename_i hm
  split at h4
  · simp at h4
  simp at h4
  have hlt : m < s.texts.length := by omega
  rw [← h4.1]
  simp only [hlt, List.getElem?_eq_getElem, Option.getD_some]
  exact hI.z1 _ (List.getElem_mem hlt)
theorem events_fit {K : List Int} {b : Nat} : ∀ (n : Nat) (acc : List EventD) (s : Dst) (L : List EventD) (s' : Dst), Inv K b s → iterF eventD1 n acc K s = .ok (L, s') → (∀ x ∈ acc, x.name.size ≤ 200) → ∀ x ∈ L, x.name.size ≤ 200 := by
  intro n
  induction n with
  | zero => intro acc s L s' _ h ha; simp [iterF] at h; rw [← h.1]; exact ha
  | succ n ih =>
    intro acc s L s' hI h ha
    obtain ⟨v, s1, h1, h2⟩ := bind_ok h
    refine ih _ s1 L s' (sound_event acc K b s v s1 hI h1).1 h2 ?_
    obtain ⟨m, t1, g1, g2⟩ := bind_ok h1
    obtain ⟨i1, _, _, _⟩ := sound_later _ K b s m t1 hI g1
    obtain ⟨x, t2, g3, g4⟩ := step_ok g2
    simp at g4
    obtain ⟨rfl, rfl⟩ := g4
    intro y hy; simp at hy; rcases hy with hy | rfl
    · exact ha y hy
    · exact nextT_size i1 g3
structure Sp.Sized (a : Sp) : Prop where
  fits : a.Fits
  svc : a.svc.size ≤ 200
  op : a.op.size ≤ 200
  attrs : ∀ x ∈ a.attrs, x.key.size ≤ 200 ∧ x.text.size ≤ 200
  events : ∀ x ∈ a.events, x.name.size ≤ 200
theorem span_fit {K : List Int} {b : Nat} {s : Dst} {v : Sp} {s' : Dst} (hI : Inv K b s) (h : spanD K s = .ok (v, s')) : v.Sized := by
  obtain ⟨tr, s1, h1, h⟩ := bind_ok h
  obtain ⟨a1, _, _, _⟩ := sound_nextR K b s tr s1 hI h1
  have htr : TrcOk tr := by
    obtain ⟨m, q, _, h4⟩ := step_ok h1
    split at h4
    · simp at h4
    rename_i hm
    split at h4
    · simp at h4
    simp at h4
    have hlt : m < s.traces.length := by omega
    rw [← h4.1]
    simp only [hlt, List.getElem?_eq_getElem, Option.getD_some]
    exact hI.z2 _ (List.getElem_mem hlt)
  obtain ⟨id, s2, h2, h⟩ := bind_ok h
  obtain ⟨a2, _, _, _⟩ := sound_raw8 K b s1 id s2 a1 h2
  have hid := (reads_raw8 K s1 id s2 a1.byts a1.b2 h2).2.2.2
  obtain ⟨par, s3, h3, h⟩ := bind_ok h
  obtain ⟨a3, _, _, _⟩ := sound_raw8 K b s2 par s3 a2 h3
  have hpar := (reads_raw8 K s2 par s3 a2.byts a2.b2 h3).2.2.2
  obtain ⟨svc, s4, h4, h⟩ := bind_ok h
  obtain ⟨a4, _, _, _⟩ := sound_nextT K b s3 svc s4 a3 h4
  obtain ⟨op, s5, h5, h⟩ := bind_ok h
  obtain ⟨a5, _, _, _⟩ := sound_nextT K b s4 op s5 a4 h5
  obtain ⟨both, s6, h6, h⟩ := bind_ok h
  obtain ⟨a6, _, _, _⟩ := sound_small K b s5 both s6 a5 h6
  obtain ⟨start, s7, h7, h⟩ := bind_ok h
  obtain ⟨a7, _, _, _⟩ := sound_since K b s6 start s7 a6 h7
  obtain ⟨fin, s8, h8, h⟩ := bind_ok h
  obtain ⟨a8, _, _, _⟩ := sound_later start K b s7 fin s8 a7 h8
  obtain ⟨links, s9, h9, h⟩ := bind_ok h
  obtain ⟨a9, _, _, _⟩ := sound_links K b s8 links s9 a8 h9
  obtain ⟨attrs, s10, h10, h⟩ := bind_ok h
  obtain ⟨a10, _, _, _⟩ := sound_attrs K b s9 attrs s10 a9 h10
  obtain ⟨events, s11, h11, h⟩ := bind_ok h
  simp at h
  obtain ⟨rfl, rfl⟩ := h
  obtain ⟨n1, t1, u1, u2⟩ := bind_ok h9
  obtain ⟨n2, t2, u3, u4⟩ := bind_ok h10
  obtain ⟨n3, t3, u5, u6⟩ := bind_ok h11
  have q1 := links_fit n1 [] t1 links s9 u2 (by simp)
  have q2 := attrs_fit n2 [] t2 attrs s10 (sound_count 32 55 K b s9 n2 t2 a9 u3).1 u4 (by simp)
  have q3 := events_fit n3 [] t3 events s11 (sound_count 32 55 K b s10 n3 t3 a10 u5).1 u6 (by simp)
  exact ⟨⟨htr.1, htr.2, hid, hpar, q1, fun x hx => (q2 x hx).1⟩, nextT_size a3 h4, nextT_size a4 h5, fun x hx => (q2 x hx).2, q3⟩
end Go.Proofs.YthcghpbkadlliabGreatDoor

namespace Go.Proofs.YthcghpbkadlliabGreatDoor
open Go.Shelf Go.RowKit
set_option maxRecDepth 100000

def upV (q : Nat) : Value := .iface 93 (.pointer (some ⟨q, 0, none⟩))
/-- What was given up: a fault, wrapped. -/
def GaveUp (w : World) (q p : Nat) (at_ no : Int) : Prop := w.heap[q]? = some (.cells #[errV p] 101 (0, 0)) ∧ IsF w p at_ no
/-- It ends so: this is given up. -/
def Ups (w' : World) (at_ no : Int) (e : Ending) : Prop := ∃ q p, e = .panicked [{ v := upV q, recovered := false }] ∧ GaveUp w' q p at_ no
theorem GaveUp.below {w w' : World} {q p : Nat} {a n : Int} (h : GaveUp w q p a n) (hb : Below w.heap.size w w') : GaveUp w' q p a n :=
  ⟨(hb.block q (lt_of_block h.1)).trans h.1, (hb.block p (lt_of_block h.2)).trans h.2⟩
theorem giveUp_any (at_ no : Int) (w : World) :
    Calls Tryz.prog 18 #[.int .i64 at_, .int .i64 no] w fun e w' => Ups w' at_ no e ∧ Below w.heap.size w w' := by
  go_enter Tryz.func18, Tryz.ntmps18
  go_wp2
  refine ⟨rfl, ⟨w.heap.size + 1, w.heap.size, rfl, ?_, ?_⟩, ((Below.refl _ _).alloc (Nat.le_refl _) _).alloc (by simp) _⟩
  · exact alloc_at (by simp)
  · show ((w.alloc _).alloc _).heap[w.heap.size]? = _
    rw [Below.heap_alloc _ _ _ (by simp)]
    exact heap_alloc_new _ _
theorem neq_nil (w : World) (p : Nat) : (binOp .neq 26 (.iface 95 (.pointer (some ⟨p, 0, none⟩))) .nilIface).run Tryz.prog w = .ok (.bool true) w := by kernel_rfl
theorem need_nil (w : World) : Calls Tryz.prog 39 #[.nilIface] w fun e w' => e = .returned (.tuple #[]) ∧ w' = w := by
  go_enter Tryz.func39, Tryz.ntmps39
  go_wp2
  go_end0
  exact ⟨rfl, rfl⟩
theorem need_bad (p : Nat) (at_ no : Int) (w : World) (h : IsF w p at_ no) : Calls Tryz.prog 39 #[errV p] w fun e w' => Ups w' at_ no e ∧ Below w.heap.size w w' := by
  have hn := neq_nil w p
  unfold errV
  go_enter Tryz.func39, Tryz.ntmps39
  go_wp2
  refine ⟨rfl, ⟨w.heap.size, p, rfl, heap_alloc_new _ _, ?_⟩, (Below.refl _ _).alloc (Nat.le_refl _) _⟩
  exact (Below.heap_alloc _ _ _ (lt_of_block h)).trans h
end Go.Proofs.YthcghpbkadlliabGreatDoor
