/-
  Plain mathematics of span: texts that are UTF-8; a span there and back.
-/
import Derived.Test.YtioibllopidilaaDoorYm
namespace Go.Proofs.YtioibllopidilaaDoor
open Go.Shelf Go.RowKit
set_option maxRecDepth 100000

def intsU (l : List UInt8) : List Int := l.map fun b => (b.toNat : Int)
theorem strI_intsU (l : List UInt8) : strI (intsU l) = ⟨l.toArray⟩ := by
  have := strI_bytesI ⟨l.toArray⟩
  simpa [bytesI, intsU] using this
theorem intsU_byte (l : List UInt8) : ∀ x ∈ intsU l, 0 ≤ x ∧ x < 256 := by
  intro x hx
  obtain ⟨b, _, rfl⟩ := List.mem_map.1 hx
  have := b.toNat_lt
  omega
theorem valid_endG : ∀ (n : Nat) (l : List UInt8), l.length ≤ n → Lib.validGoD n l = true → endL (intsU l) = l.length := by
  intro n
  induction n with
  | zero => intro l hl _; have : l = [] := List.eq_nil_of_length_eq_zero (by omega); subst this; rfl
  | succ n ih =>
    intro l hl h
    by_cases h0 : l = []
    · subst h0; rfl
    · have hpos : 0 < l.length := List.length_pos_iff.2 h0
      rw [Lib.validGoD, if_neg h0] at h
      split at h
      · simp at h
      · rename_i hv
        have hd : Lib.decodeGo (strI (intsU l)) = Lib.decodeL l := by
          rw [strI_intsU]
          unfold Lib.decodeGo Lib.decodeL
          rw [if_neg (by show ¬ l.toArray.size = 0; simp; exact h0)]
        obtain ⟨q1, q2⟩ := decode_rune (intsU l) (by simpa [intsU] using hpos) (intsU_byte l)
        rw [hd] at q1 q2
        have hr : runeL (intsU l) ≠ 0 := fun e => by
          have := q1 e
          exact hv ⟨by rw [this], by rw [this]⟩
        obtain ⟨q3, _⟩ := q2 (by omega)
        have hle := rune_le (intsU l)
        have hll : (intsU l).length = l.length := by simp [intsU]
        rw [hll] at hle
        rw [q3] at h
        rw [endL_step _ (by omega)]
        have e : (intsU l).drop (runeL (intsU l)) = intsU (l.drop (runeL (intsU l))) := by simp [intsU, List.map_drop]
        rw [e, ih (l.drop (runeL (intsU l))) (by simp; omega) h]
        simp; omega
theorem valid_end (s : ByteArray) (h : Lib.validD s.data.toList = true) : endL (bytesI s) = s.size := by
  have := valid_endG _ s.data.toList (Nat.le_refl _) h
  have e : (s.data.toList).length = s.size := by rw [Array.length_toList]; rfl
  rw [e] at this
  exact this
theorem ascii_end : ∀ (l : List Int), (∀ x ∈ l, 0 ≤ x ∧ x < 128) → endL l = l.length := by
  intro l
  induction l with
  | nil => intro _; rfl
  | cons x r ih =>
    intro h
    have hx := h x (by simp)
    have e : runeL (x :: r) = 1 := by
      unfold runeL
      rw [show bt (x :: r) 0 = x by rfl]
      unfold runeOf
      rw [if_neg (by omega), if_pos (by omega)]
    rw [endL_step _ (by omega), e]
    simp only [List.drop_one, List.tail_cons, List.length_cons]
    rw [ih (fun y hy => h y (by simp [hy]))]
    omega
theorem inF_ascii : ∀ c ∈ keyF, c.toNat < 128 := by decide
theorem inR_ascii : ∀ c ∈ keyR, c.toNat < 128 := by decide
theorem inL_lt {l : List UInt8} (hl : ∀ c ∈ l, c.toNat < 128) {x : Int} (h0 : 0 ≤ x) (h1 : x < 256) (h : inL l x = true) : x < 128 := by
  unfold inL at h
  have hm := List.contains_iff_mem.1 h
  have := hl _ hm
  have e : x.toNat.toUInt8.toNat = x.toNat := by simp; omega
  omega
theorem key_end (s : ByteArray) (h : keyB s = true) : endL (bytesI s) = s.size := by
  simp only [keyB, Bool.and_eq_true, decide_eq_true_eq, List.all_eq_true] at h
  obtain ⟨⟨⟨h1, _⟩, h3⟩, h4⟩ := h
  have hb := bytesI_byte s
  have hl := bytesI_length s
  rw [← hl]
  apply ascii_end
  intro x hx
  have hxb := hb x hx
  refine ⟨hxb.1, ?_⟩
  cases hs : bytesI s with
  | nil => rw [hs] at hx; simp at hx
  | cons y r =>
    rw [hs] at hx h3 h4
    simp only [List.mem_cons] at hx
    rcases hx with rfl | hx
    · exact inL_lt inF_ascii hxb.1 hxb.2 (by simpa [bt] using h3)
    · exact inL_lt inR_ascii hxb.1 hxb.2 (h4 x (by simpa using hx))
/-- All its texts are UTF-8. -/
structure Sp.Utf (a : Sp) : Prop where
  svc : endL (bytesI a.svc) = a.svc.size
  op : endL (bytesI a.op) = a.op.size
  attrs : ∀ x ∈ a.attrs, endL (bytesI x.key) = x.key.size ∧ endL (bytesI x.text) = x.text.size
  events : ∀ x ∈ a.events, endL (bytesI x.name) = x.name.size
theorem chk_parts {a : Sp} (h : chkS a = 0) : attrsB a.attrs = true ∧ eventsB a.events = true := by
  unfold chkS at h
  split at h
  · omega
  split at h
  · omega
  split at h
  · omega
  split at h
  · omega
  split at h
  · omega
  split at h
  · omega
  rename_i h6
  split at h
  · omega
  rename_i h7
  simpa using And.intro h6 h7
theorem chk_utf {a : Sp} (h : chkS a = 0) : a.Utf := by
  have hG := chk_good h
  obtain ⟨h6, h7⟩ := chk_parts h
  simp only [attrsB, eventsB, Bool.and_eq_true, decide_eq_true_eq, List.all_eq_true] at h6 h7
  refine ⟨valid_end _ hG.svc.2.2, valid_end _ hG.op.2.2, fun x hx => ?_, fun x hx => ?_⟩
  · have := h6.2 x hx
    simp only [attrB, Bool.and_eq_true] at this
    refine ⟨key_end _ this.1, ?_⟩
    have hz : x.text.size = 0 → endL (bytesI x.text) = x.text.size := fun e => by
      have : bytesI x.text = [] := List.eq_nil_of_length_eq_zero (by rw [bytesI_length]; exact e)
      rw [this, e]; rfl
    have v1 := this.2
    unfold valB at v1
    split at v1
    · simp only [Bool.and_eq_true, decide_eq_true_eq] at v1
      exact valid_end _ v1.2
    · split at v1
      · simp only [decide_eq_true_eq] at v1; exact hz v1
      · split at v1
        · simp only [Bool.and_eq_true, decide_eq_true_eq] at v1; exact hz v1.1
        · simp at v1
  · have := h7.2 x hx
    simp only [eventB, Bool.and_eq_true] at this
    exact valid_end _ (plainB_ok this.2).2.2

theorem attrP_back {K rest : List Int} {t : Nat} {x : AttrD} (h1 : x.key.size ≤ 40) (h2 : x.text.size ≤ 200) (h3 : 0 ≤ x.kind ∧ x.kind ≤ 2) (h4 : -9223372036854775808 ≤ x.num ∧ x.num ≤ 9223372036854775807) (u1 : endL (bytesI x.key) = x.key.size) (u2 : endL (bytesI x.text) = x.text.size)
    (h : K.drop t = attrL x ++ rest) : attrP K (some t) = (x, some (t + (attrL x).length)) := by
  unfold attrL at h
  simp only [List.append_assoc] at h
  have k1 := textP_back (most := 40) (by omega) u1 (by omega) h
  have d1 := drop_app h
  have k2 := smallP_back d1 (by omega)
  have d2 := drop_app d1
  have k3 := textP_back (most := 200) (by omega) u2 (by omega) d2
  have d3 := drop_app d2
  have k4 := intP_back h4.1 h4.2 d3
  rw [attrP_eq, k1]
  simp only
  rw [k2]
  simp only
  rw [k3]
  simp only
  rw [k4]
  simp only [attrL, List.length_append, Nat.add_assoc]
  rw [show ((x.kind.toNat : Nat) : Int) = x.kind by omega]
theorem eventP_back {K rest : List Int} {t : Nat} {x : EventD} (h1 : x.name.size ≤ 100) (h3 : 0 ≤ x.moment ∧ x.moment ≤ 4611686018427387904) (u1 : endL (bytesI x.name) = x.name.size)
    (h : K.drop t = eventL x ++ rest) : eventP K (some t) = (x, some (t + (eventL x).length)) := by
  unfold eventL at h
  simp only [List.append_assoc] at h
  have k1 := momP_back h (by omega)
  have d1 := drop_app h
  have k2 := textP_back (most := 100) (by omega) u1 (by omega) d1
  rw [eventP_eq, k1]
  simp only
  rw [k2]
  simp only [eventL, List.length_append, Nat.add_assoc]
  rw [show ((x.moment.toNat : Nat) : Int) = x.moment by omega]
set_option maxHeartbeats 1000000 in
theorem span_back (a : Sp) (hf : a.Fits) (hc : chkS a = 0) : spanP (encS a) (some 0) = (a, some (encS a).length) := by
  have hG := chk_good hc
  have hU := chk_utf hc
  have g := hG.kind; have g1 := hG.status; have g2 := hG.start; have g3 := hG.fin
  obtain ⟨K, hK⟩ : ∃ K, encS a = K := ⟨_, rfl⟩
  have D : K.drop 0 = rawL a.hi ++ (rawL a.lo ++ (rawL a.id ++ (rawL a.par ++ (encN a.links.length ++ (catL rawL a.links ++ (textL a.svc ++ (textL a.op ++ (encN a.kind.toNat ++ (encN a.status.toNat ++ (encN a.start.toNat ++ (encN a.fin.toNat ++ (encN a.attrs.length ++ (catL attrL a.attrs ++ (encN a.events.length ++ (catL eventL a.events ++ []))))))))))))))) := by
    rw [← hK]; simp [encS]
  have r0 := rawP_back hf.hi.1 hf.hi.2 D
  have d0 := drop_app D
  have r1 := rawP_back hf.lo.1 hf.lo.2 d0
  have d1 := drop_app d0
  have r2 := rawP_back hf.id.1 hf.id.2 d1
  have d2 := drop_app d1
  have r3 := rawP_back hf.par.1 hf.par.2 d2
  have d3 := drop_app d2
  have c4 := countP_back (most := 16) d3 hG.links (by omega)
  have d3' := drop_app d3
  have r4 := iter_back (f := rawP K) (enc := rawL) (ok := fun x => 0 ≤ x ∧ x < 18446744073709551616) (fun t x rest ok h => rawP_back ok.1 ok.2 h) a.links _ _ hf.links d3'
  have d4 := drop_app d3'
  have r5 := textP_back (most := 60) (by have := hG.svc.2.1; omega) hU.svc (by have := hG.svc.2.1; omega) d4
  have d5 := drop_app d4
  have r6 := textP_back (most := 100) (by have := hG.op.2.1; omega) hU.op (by have := hG.op.2.1; omega) d5
  have d6 := drop_app d5
  have r7 := smallP_back d6 (by omega)
  have d7 := drop_app d6
  have r8 := smallP_back d7 (by omega)
  have d8 := drop_app d7
  have r9 := momP_back d8 (by omega)
  have d9 := drop_app d8
  have r10 := momP_back d9 (by omega)
  have d10 := drop_app d9
  have c11 := countP_back (most := 32) d10 hG.attrs (by omega)
  have d10' := drop_app d10
  have r11 := iter_back (f := attrP K) (enc := attrL) (ok := fun x => x ∈ a.attrs) (fun t x rest ok h => by
    have h1 := hG.attr x ok
    have h2 := hU.attrs x ok
    exact attrP_back (by omega) (by omega) (by omega) (hf.attrs x ok) h2.1 h2.2 h) a.attrs _ _ (fun x hx => hx) d10'
  have d11 := drop_app d10'
  have c12 := countP_back (most := 32) d11 hG.events (by omega)
  have d11' := drop_app d11
  have r12 := iter_back (f := eventP K) (enc := eventL) (ok := fun x => x ∈ a.events) (fun t x rest ok h => by
    have h1 := hG.event x ok
    have h2 := hU.events x ok
    exact eventP_back (by omega) (by omega) h2 h) a.events _ _ (fun x hx => hx) d11'
  have R4 : linksP K (some (0 + (rawL a.hi).length + (rawL a.lo).length + (rawL a.id).length + (rawL a.par).length)) = (a.links, some (0 + (rawL a.hi).length + (rawL a.lo).length + (rawL a.id).length + (rawL a.par).length + (encN a.links.length).length + (catL rawL a.links).length)) := by
    unfold linksP; rw [c4]; exact r4
  rw [hK]
  unfold spanP
  simp only [r0, r1, r2, r3, R4, r5, r6, r7, r8, r9, r10]
  unfold attrsP
  simp only [c11, r11]
  unfold eventsP
  simp only [c12, r12]
  have L : K.length = 0 + (rawL a.hi).length + (rawL a.lo).length + (rawL a.id).length + (rawL a.par).length + (encN a.links.length).length + (catL rawL a.links).length + (textL a.svc).length + (textL a.op).length + (encN a.kind.toNat).length + (encN a.status.toNat).length + (encN a.start.toNat).length + (encN a.fin.toNat).length + (encN a.attrs.length).length + (catL attrL a.attrs).length + (encN a.events.length).length + (catL eventL a.events).length := by
    rw [← hK]; simp only [encS, List.length_append, Nat.add_assoc, Nat.zero_add]
  rw [L]
  rw [show ((a.kind.toNat : Nat) : Int) = a.kind by omega, show ((a.status.toNat : Nat) : Int) = a.status by omega, show ((a.start.toNat : Nat) : Int) = a.start by omega, show ((a.fin.toNat : Nat) : Int) = a.fin by omega]
end Go.Proofs.YtioibllopidilaaDoor
