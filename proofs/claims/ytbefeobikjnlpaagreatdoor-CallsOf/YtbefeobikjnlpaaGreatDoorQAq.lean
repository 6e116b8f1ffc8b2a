/-
  Merged: QA, QB, QC, QD, QE.
-/
import Derived.Test.YtbefeobikjnlpaaGreatDoorPR
import Derived.Test.YtbefeobikjnlpaaGreatDoorFKq
import Derived.Test.YtbefeobikjnlpaaGreatDoorSOq
import Derived.Test.YtbefeobikjnlpaaGreatDoorOZ
import Derived.Test.YtbefeobikjnlpaaGreatDoorGMq
import Derived.Test.YtbefeobikjnlpaaGreatDoorOXq
namespace Go.Proofs.YtbefeobikjnlpaaGreatDoor
open Go Go.RowKit
set_option maxRecDepth 100000

theorem ring_shift {nm : List Int} {n : Nat} {c : Int} {p : Nat} (h : Ring nm n c p) (j : Nat) : ∃ p', Ring nm n (upN nm j c) p' := by
  refine ring_least (j := p) h.pos ?_ (fun t _ => ?_)
  · rw [← upN_add, Nat.add_comm, upN_add, h.back]
  · rw [← upN_add]
    exact h.inn ⟨_, rfl⟩
theorem ring_home {nm : List Int} {n : Nat} {c : Int} {p : Nat} (h : Ring nm n c p) (t : Nat) : ∃ s, upN nm s (upN nm t c) = c := by
  obtain ⟨t', h1, h2⟩ := h.in_ t
  refine ⟨p - t', ?_⟩
  rw [h2, ← upN_add, show t' + (p - t') = p by omega]
  exact h.back
/-- What is cut is the least one of a ring. -/
theorem CutsL.only {nm : List Int} {n : Nat} (hr : ∀ x ∈ nm, -1 ≤ x ∧ x < (n : Int)) (hn : nm.length = n) : ∀ (k : Nat) (C : List Int), k ≤ n → CutsL nm n k C → ∀ m ∈ C, ∃ (c : Int) (p : Nat), Ring nm n c p ∧ LeastR nm c m
  | 0, C, _, h => fun m hm => by
    have e : C = [] := h
    rw [e] at hm
    cases hm
  | k + 1, C, hk, h => fun m hm => by
    rcases h with ⟨⟨m1, m2⟩, C0, m', h1, h2, rfl⟩ | ⟨_, h1⟩
    · rcases List.mem_append.1 hm with hm | hm
      · exact CutsL.only hr hn k C0 (by omega) h1 m hm
      · simp at hm
        subst hm
        have hb := frAt_back nm n hr hn k (by omega)
        obtain ⟨c, hc⟩ : ∃ c : Nat, cutEnd nm n k = c := ⟨(cutEnd nm n k).toNat, by omega⟩
        rw [hc] at m2 h2
        obtain ⟨p, hp⟩ := ring_of hr hn (by omega) hc (by simpa using m2)
        exact ⟨c, p, hp, h2⟩
    · exact CutsL.only hr hn k C (by omega) h1 m hm
/-- The least one of its own ring. -/
def LeastOwn (nm : List Int) (n : Nat) (i : Int) : Prop := (∃ p, Ring nm n i p) ∧ ∀ j, i ≤ upN nm j i
theorem cut_iff {nm : List Int} {n : Nat} (hr : ∀ x ∈ nm, -1 ≤ x ∧ x < (n : Int)) (hn : nm.length = n) {C : List Int} (hC : CutsL nm n n C) (i : Nat) : (∃ c ∈ C, c.toNat = i) ↔ LeastOwn nm n i := by
  constructor
  · rintro ⟨m, hm, rfl⟩
    obtain ⟨c, p, hp, ⟨j, h1⟩, h2⟩ := hC.only hr hn n C (Nat.le_refl _) m hm
    have h0 := hp.inn ⟨j, h1⟩
    have e : ((m.toNat : Nat) : Int) = m := by omega
    rw [e]
    refine ⟨by rw [h1]; exact ring_shift hp j, fun j' => ?_⟩
    have := h2 (j + j')
    rwa [upN_add, ← h1] at this
  · rintro ⟨⟨p, hp⟩, hl⟩
    obtain ⟨m, hm, t, h1⟩ := ring_cut hr hn hC hp
    obtain ⟨c, q, hq, ⟨j, h2⟩, h3⟩ := hC.only hr hn n C (Nat.le_refl _) m hm
    obtain ⟨s, h4⟩ := ring_home hp t
    refine ⟨m, hm, ?_⟩
    have g1 := hl t
    have g2 := h3 (j + s)
    rw [upN_add, ← h2, h1, h4] at g2
    omega
theorem cutX_org (C : List Int) : ∀ (X : List Spot) (i : Nat) (h : i < X.length) (h' : i < (cutX C X).length), (cutX C X)[i].nd.par = X[i].nd.par ∧ ((∃ c ∈ C, c.toNat = i) → (cutX C X)[i].nd.org = 3) ∧ ((¬ ∃ c ∈ C, c.toNat = i) → (cutX C X)[i].nd.org = X[i].nd.org) := by
  induction C with
  | nil =>
    intro X i h h'
    refine ⟨rfl, fun hh => ?_, fun _ => rfl⟩
    obtain ⟨c, hc, _⟩ := hh
    cases hc
  | cons c r ih =>
    intro X i h h'
    obtain ⟨i1, i2, i3⟩ := ih (X.modify c.toNat loopS) i (by simpa using h) h'
    rw [List.getElem_modify] at i1 i3
    refine ⟨?_, fun hh => ?_, fun hh => ?_⟩
    · show (cutX r (X.modify c.toNat loopS))[i].nd.par = _
      rw [i1]
      split <;> rfl
    · show (cutX r (X.modify c.toNat loopS))[i].nd.org = 3
      by_cases hr : ∃ c ∈ r, c.toNat = i
      · exact i2 hr
      · obtain ⟨d, hd, e⟩ := hh
        rcases List.mem_cons.1 hd with rfl | hd
        · rw [i3 hr, if_pos e]
          rfl
        · exact absurd ⟨d, hd, e⟩ hr
    · show (cutX r (X.modify c.toNat loopS))[i].nd.org = _
      rw [i3 (fun ⟨d, hd, e⟩ => hh ⟨d, by simp [hd], e⟩), if_neg (fun e => hh ⟨c, by simp, e⟩)]
abbrev nmY (Y : List Sp) : List Int := nmOf (zs Y)
theorem nmY_len (Y : List Sp) : (nmY Y).length = Y.length := by simp [nmY, nmOf, zs_len]
theorem nmY_range (Y : List Sp) : ∀ x ∈ nmY Y, -1 ≤ x ∧ x < (Y.length : Int) := fun x hx => by
  unfold nmY nmOf at hx
  obtain ⟨s, _, rfl⟩ := List.mem_map.1 hx
  have := idx_range (zs Y) s.a.par
  rw [zs_len] at this
  exact this
theorem nmY_at (Y : List Sp) (i : Nat) (hi : i < Y.length) : (nmY Y).getD i 0 = idxI (zs Y) Y[i].par := by
  have : i < (nmY Y).length := by rw [nmY_len]; exact hi
  rw [List.getD_eq_getElem?_getD, List.getElem?_eq_getElem this]
  simp [nmY, nmOf, zs]
theorem rise_zs {Y : List Sp} (hr : Y.Pairwise (fun a b => a.id < b.id)) : RiseS (zs Y) := fun i j hi hj hij => by
  rw [zs_len] at hi hj
  simp only [zs, List.getElem_map]
  exact List.pairwise_iff_getElem.1 hr i j hi hj hij
theorem nmY_some {Y : List Sp} (hr : Y.Pairwise (fun a b => a.id < b.id)) {i j : Nat} (hi : i < Y.length) (hj : j < Y.length) : (nmY Y).getD i 0 = (j : Int) ↔ Y[j].id = Y[i].par := by
  rw [nmY_at Y i hi]
  obtain ⟨hz, _, z2⟩ := zs_get Y j hj
  constructor
  · intro h
    by_cases hh : ∃ q, ∃ h : q < Y.length, Y[q].id = Y[i].par
    · obtain ⟨q, hq, e⟩ := hh
      obtain ⟨hzq, _, q2⟩ := zs_get Y q hq
      have := idx_found (rise_zs hr) hzq (id := Y[i].par) (by rw [q2]; exact e)
      have : q = j := by omega
      subst this
      exact e
    · have := idx_none (X := zs Y) (id := Y[i].par) (fun q hq e => hh ⟨q, by rw [zs_len] at hq; exact hq, by
        obtain ⟨_, _, q2⟩ := zs_get Y q (by rw [zs_len] at hq; exact hq)
        rw [← q2]; exact e⟩)
      omega
  · intro e
    exact idx_found (rise_zs hr) hz (by rw [z2]; exact e)
theorem nmY_none {Y : List Sp} (hr : Y.Pairwise (fun a b => a.id < b.id)) {i : Nat} (hi : i < Y.length) : (nmY Y).getD i 0 = -1 ↔ ∀ j (hj : j < Y.length), Y[j].id ≠ Y[i].par := by
  constructor
  · intro h j hj e
    have := (nmY_some hr hi hj).2 e
    omega
  · intro h
    rw [nmY_at Y i hi]
    exact idx_none fun q hq e => by
      have hq' : q < Y.length := by rw [zs_len] at hq; exact hq
      obtain ⟨_, _, q2⟩ := zs_get Y q hq'
      exact h q hq' (by rw [← q2]; exact e)
theorem chk_id {a : Sp} (h : chkS a = 0) : a.id ≠ 0 := fun e => by
  unfold chkS at h
  rw [if_pos (by simp [e])] at h
  omega
/-- Where a span stands, and why. -/
structure OrgK (Y : List Sp) (d : Nod) (i : Nat) (hi : i < Y.length) : Prop where
  born : Y[i].par = 0 → d.org = 1
  orphan : Y[i].par ≠ 0 → (∀ j (hj : j < Y.length), Y[j].id ≠ Y[i].par) → d.org = 2
  looped : ∀ j (hj : j < Y.length), Y[j].id = Y[i].par → LeastOwn (nmY Y) Y.length i → d.org = 3
  inner : ∀ j (hj : j < Y.length), Y[j].id = Y[i].par → ¬ LeastOwn (nmY Y) Y.length i → d.org = 0
  par : (d.org = 0 → d.par = Y[i].par) ∧ (d.org ≠ 0 → d.par = 0)
theorem getD_eq {l : List Int} {i : Nat} (h : i < l.length) (a b : Int) : l.getD i a = l.getD i b := by simp [List.getD, h]
theorem FoB.org {Y : List Sp} {C : List Int} {dp : Nat → Nat} {fin : Nat → Nod} {X : List Spot} {K : Nat → List Int} {R : List Int} (h : FoB Y C dp fin X K R) (hr : Y.Pairwise (fun a b => a.id < b.id)) (hC : CutsL (nmOf (zs Y)) Y.length Y.length C) (i : Nat) (hi : i < Y.length) : OrgK Y (fin i) i hi := by
  have hcl : (cutX C (zs Y)).length = Y.length := by rw [cutX_len, zs_len]
  have hi' : i < (cutX C (zs Y)).length := by omega
  obtain ⟨hz, z1, z2⟩ := zs_get Y i hi
  obtain ⟨s1, _, s3⟩ := cutX_same C (zs Y) i hz hi'
  obtain ⟨o1, o2, o3⟩ := cutX_org C (zs Y) i hz hi'
  have zo : (zs Y)[i].nd.org = 0 := by simp [zs, ndOf]
  have zp : (zs Y)[i].nd.par = 0 := by simp [zs, ndOf]
  have hnl := nmY_len Y
  have ci := cut_iff (nmY_range Y) hnl hC i
  have hg := cutN_get C (nmY Y) i (by omega)
  have hcn : i < (cutN C (nmY Y)).length := by rw [cutN_len]; omega
  rw [getD_eq hcn 0 (-1)] at hg
  have idz : ∀ j (hj : j < Y.length), Y[j].id ≠ 0 := fun j hj => chk_id (h.one.chk _ (List.getElem_mem hj))
  by_cases hL : LeastOwn (nmY Y) Y.length i
  · have hc := ci.2 hL
    rw [if_pos hc] at hg
    have e := (h.sh.rt i hi' hg).2
    have ho : (fin i).org = 3 := by rw [e]; unfold rootN; simp only; rw [if_pos (o2 hc)]
    have hp : (fin i).par = 0 := by rw [e]; unfold rootN; simp only; rw [o1, zp]
    obtain ⟨⟨p, hp'⟩, _⟩ := hL
    have h1 := hp'.inn ⟨1, rfl⟩
    have h2 : upN (nmY Y) 1 (i : Int) = (nmY Y).getD i 0 := rfl
    rw [h2] at h1
    have hj := (nmY_some hr hi (j := ((nmY Y).getD i 0).toNat) (by omega)).1 (by omega)
    refine ⟨fun hp0 => absurd (hj.trans hp0) (idz _ _), fun _ hn => absurd hj (hn _ _), fun _ _ _ _ => ho, fun _ _ _ hn => absurd ⟨⟨p, hp'⟩, by assumption⟩ hn, fun h0 => by omega, fun _ => hp⟩
  · have hc : ¬ ∃ c ∈ C, c.toNat = i := fun hc => hL (ci.1 hc)
    rw [if_neg hc] at hg
    have oo := o3 hc
    rw [zo] at oo
    rcases nmC_range Y C i hi with hn | ⟨j, hj, hn⟩
    · have hn' : (nmY Y).getD i 0 = -1 := hg.symm.trans hn
      have e := (h.sh.rt i hi' hn).2
      have hp : (fin i).par = 0 := by rw [e]; unfold rootN; simp only; rw [o1, zp]
      have no := (nmY_none hr hi).1 hn'
      have ho : (fin i).org = if Y[i].par = 0 then 1 else 2 := by
        rw [e]
        unfold rootN
        simp only
        rw [oo, if_neg (by omega), s1, z1]
      refine ⟨fun h0 => by rw [ho, if_pos h0], fun h0 _ => by rw [ho, if_neg h0], fun j hj e => absurd e (no j hj), fun j hj e => absurd e (no j hj), fun h0 => ?_, fun _ => hp⟩
      rw [ho] at h0
      split at h0 <;> omega
    · have hn' : (nmY Y).getD i 0 = (j : Int) := hg.symm.trans hn
      have e := (h.sh.kd i j hi' (by omega) hn).2
      have hj' := (nmY_some hr hi hj).1 hn'
      have ho : (fin i).org = 0 := by rw [e]; unfold hangN; simp only; exact oo
      have hp : (fin i).par = Y[i].par := by
        rw [e]
        unfold hangN
        simp only
        rw [← hj', ← h.ids j hj]
        simp [spAt, List.getD, hj]
      exact ⟨fun h0 => absurd (hj'.trans h0) (idz j hj), fun _ hn => absurd hj' (hn j hj), fun _ _ _ hl => absurd hl hL, fun _ _ _ _ => ho, fun _ => hp, fun h0 => absurd ho h0⟩
end Go.Proofs.YtbefeobikjnlpaaGreatDoor

namespace Go.Proofs.YtbefeobikjnlpaaGreatDoor
open Go Go.RowKit
set_option maxRecDepth 100000

theorem ring_move {U V : List Int} {n : Nat} (s : Nat → Nat) (hs : ∀ q, q < n → s q < n) (inj : ∀ q r, q < n → r < n → s q = s r → q = r) (step : ∀ q r : Nat, q < n → r < n → U.getD q 0 = (r : Int) → V.getD (s q) 0 = (s r : Int)) {c p : Nat} (h : Ring U n c p) : Ring V n (s c) p ∧ ∀ t, upN V t (s c) = (s (upN U t c).toNat : Int) := by
  have inn : ∀ t, 0 ≤ upN U t c ∧ upN U t c < n := fun t => h.inn ⟨t, rfl⟩
  have key : ∀ t, upN V t (s c) = (s (upN U t c).toNat : Int) := by
    intro t
    induction t with
    | zero => simp [upN]
    | succ t ih =>
      have a1 := inn t
      have a2 := inn (t + 1)
      rw [upN_succ, ih, Int.toNat_natCast]
      refine step _ _ (by omega) (by omega) ?_
      rw [← upN_succ]
      omega
  have hc : c < n := by
    have := inn 0
    simp only [upN] at this
    omega
  refine ⟨⟨h.pos, ?_, fun j _ => ?_, fun j h1 h2 e => ?_⟩, key⟩
  · rw [key, h.back]
    simp
  · rw [key]
    have a1 := inn j
    have := hs (upN U j c).toNat (by omega)
    omega
  · rw [key] at e
    have a1 := inn j
    have e2 : s (upN U j c).toNat = s c := by omega
    have := inj _ _ (by omega) hc e2
    exact h.first j h1 h2 (by omega)
/-- Of each span the place of the one that it names. -/
structure ParU (X : List Sp) (U : List Int) : Prop where
  len : U.length = X.length
  at_ : ∀ k (hk : k < X.length), (U.getD k 0 = -1 ∧ (X[k].par = 0 ∨ ∀ i (hi : i < X.length), X[i].id ≠ X[k].par)) ∨ ∃ i, ∃ hi : i < X.length, U.getD k 0 = (i : Int) ∧ X[k].par ≠ 0 ∧ X[i].id = X[k].par
/-- The ring of a span in which it is the least, as the law asks for it. -/
def LeastX (X : List Sp) (U : List Int) (k : Nat) : Prop := ∃ p, Ring U X.length k p ∧ ∀ t, t < p → ∀ (a b : Sp), X[k]? = some a → X[(upN U t k).toNat]? = some b → a.id ≤ b.id
theorem perm_map {X Y : List Sp} (hp : X.Perm Y) : ∃ s : Nat → Nat, ∀ k (hk : k < X.length), ∃ h : s k < Y.length, Y[s k] = X[k] := by
  have h : ∀ k, ∃ i, ∀ hk : k < X.length, ∃ h : i < Y.length, Y[i] = X[k] := fun k => by
    by_cases hk : k < X.length
    · obtain ⟨i, hi, e⟩ := List.mem_iff_getElem.1 (hp.mem_iff.1 (List.getElem_mem hk))
      exact ⟨i, fun _ => ⟨hi, e⟩⟩
    · exact ⟨0, fun hk' => absurd hk' hk⟩
  exact ⟨fun k => Classical.choose (h k), fun k hk => Classical.choose_spec (h k) hk⟩
theorem ids_inj {X : List Sp} (h : (X.map (fun a => a.id)).Nodup) {i j : Nat} (hi : i < X.length) (hj : j < X.length) (e : X[i].id = X[j].id) : i = j := by
  have h' := List.pairwise_iff_getElem.1 (List.nodup_iff_pairwise_ne.1 h)
  rcases Nat.lt_trichotomy i j with g | g | g
  · exact (h' i j (by simpa using hi) (by simpa using hj) g (by simp only [List.getElem_map]; exact e)).elim
  · exact g
  · exact (h' j i (by simpa using hj) (by simpa using hi) g (by simp only [List.getElem_map]; exact e.symm)).elim
theorem least_move {X Y : List Sp} {U : List Int} (h1 : OneT X) (hp : X.Perm Y) (hr : Y.Pairwise (fun a b => a.id < b.id)) (hU : ParU X U) (s : Nat → Nat) (hs : ∀ k (hk : k < X.length), ∃ h : s k < Y.length, Y[s k] = X[k]) (k : Nat) (hk : k < X.length) : LeastX X U k ↔ LeastOwn (nmY Y) Y.length (s k) := by
  have hl := hp.length_eq
  obtain ⟨τ, hτ⟩ := perm_map hp.symm
  have h1Y : (Y.map (fun a => a.id)).Nodup := (hp.map _).nodup_iff.1 h1.ids
  have hts : ∀ q, q < X.length → τ (s q) = q := fun q hq => by
    obtain ⟨a1, a2⟩ := hs q hq
    obtain ⟨b1, b2⟩ := hτ (s q) a1
    exact ids_inj h1.ids b1 hq (by rw [b2, a2])
  have hst : ∀ q, q < Y.length → s (τ q) = q := fun q hq => by
    obtain ⟨a1, a2⟩ := hτ q hq
    obtain ⟨b1, b2⟩ := hs (τ q) a1
    exact ids_inj h1Y b1 hq (by rw [b2, a2])
  have step1 : ∀ q r : Nat, q < Y.length → r < Y.length → U.getD q 0 = (r : Int) → (nmY Y).getD (s q) 0 = (s r : Int) := fun q r hq hr' e => by
    obtain ⟨a1, a2⟩ := hs q (by omega)
    obtain ⟨b1, b2⟩ := hs r (by omega)
    refine (nmY_some hr a1 b1).2 ?_
    rw [a2, b2]
    rcases hU.at_ q (by omega) with ⟨u1, _⟩ | ⟨i, hi, u1, _, u3⟩
    · omega
    · have : i = r := by omega
      subst this
      exact u3
  have step2 : ∀ q r : Nat, q < Y.length → r < Y.length → (nmY Y).getD q 0 = (r : Int) → U.getD (τ q) 0 = (τ r : Int) := fun q r hq hr' e => by
    obtain ⟨a1, a2⟩ := hτ q hq
    obtain ⟨b1, b2⟩ := hτ r hr'
    have e2 := (nmY_some hr hq hr').1 e
    rcases hU.at_ (τ q) a1 with ⟨u1, u2 | u2⟩ | ⟨i, hi, u1, _, u3⟩
    · rw [a2] at u2
      exact absurd (e2.trans u2) (chk_id (h1.chk _ (hp.mem_iff.2 (List.getElem_mem hr'))))
    · exact absurd (by rw [b2, a2]; exact e2) (u2 (τ r) b1)
    · have : i = τ r := ids_inj h1.ids hi b1 (by rw [u3, a2, b2, e2])
      rw [u1, this]
  have rY : ∀ i j (hi : i < Y.length) (hj : j < Y.length), Y[i].id ≤ Y[j].id → i ≤ j := fun i j hi hj e => by
    rcases Nat.lt_or_ge j i with g | g
    · have := List.pairwise_iff_getElem.1 hr j i hj hi g
      omega
    · exact g
  obtain ⟨k1, k2⟩ := hs k hk
  constructor
  · rintro ⟨p, hR, hm⟩
    rw [hl] at hR
    obtain ⟨m1, m2⟩ := ring_move s (fun q hq => (hs q (by omega)).1) (fun q r hq hr' e => by rw [← hts q (by omega), e, hts r (by omega)]) step1 hR
    refine ⟨⟨p, m1⟩, fun j => ?_⟩
    obtain ⟨t, t1, t2⟩ := hR.in_ j
    have a1 := hR.inn (q := upN U t k) ⟨t, rfl⟩
    rw [m2, t2]
    obtain ⟨b1, b2⟩ := hs (upN U t k).toNat (by omega)
    have := hm t t1 X[k] X[(upN U t k).toNat] (List.getElem?_eq_getElem hk) (List.getElem?_eq_getElem (by omega))
    have := rY _ _ k1 b1 (by rw [k2, b2]; exact this)
    omega
  · rintro ⟨⟨p, hR⟩, hm⟩
    obtain ⟨m1, m2⟩ := ring_move τ (fun q hq => by rw [← hl]; exact (hτ q hq).1) (fun q r hq hr' e => by rw [← hst q (by omega), e, hst r (by omega)]) step2 hR
    rw [hts k hk] at m1 m2
    refine ⟨p, by rw [hl]; exact m1, fun t ht a b ha hb => ?_⟩
    have a1 := hR.inn (q := upN (nmY Y) t (s k)) ⟨t, rfl⟩
    obtain ⟨b1, b2⟩ := hτ (upN (nmY Y) t (s k)).toNat (by omega)
    rw [m2, Int.toNat_natCast, List.getElem?_eq_getElem b1, b2] at hb
    rw [List.getElem?_eq_getElem hk, ← k2] at ha
    obtain rfl := Option.some.inj ha
    obtain rfl := Option.some.inj hb
    have g := hm t
    rcases Nat.lt_or_ge (s k) (upN (nmY Y) t (s k)).toNat with h | h
    · have := List.pairwise_iff_getElem.1 hr _ _ k1 (by omega) h
      omega
    · have : (upN (nmY Y) t (s k)).toNat = s k := by omega
      simp [this]
end Go.Proofs.YtbefeobikjnlpaaGreatDoor

namespace Go.Proofs.YtbefeobikjnlpaaGreatDoor
open Go Go.RowKit
set_option maxRecDepth 100000

theorem infoID_parts : ∃ i, Tryz.prog.info? 48 = some i ∧ i.zero = some (.int .u64 0) ∧ i.size = 1 ∧ i.bytes = 8 := by
  have h := infoID
  cases hi : Tryz.prog.info? 48 with
  | none => rw [hi] at h; simp at h
  | some i => rw [hi] at h; simp at h; exact ⟨i, rfl, h.1, h.2.1, h.2.2⟩
/-- A span's ID and parent, where they lie. -/
theorem SpsAt.idpar {w : World} {ad : Option Addr} {n : Nat} {X : List Sp} {P : Nat → Pl} (h : SpsAt w ad n X P) (k : Nat) (hk : k < n) : ∃ b off a, ad = some ⟨b, off, none⟩ ∧ X[k]? = some a ∧ w.cell? ⟨b, off + k * 13 + 2, none⟩ = some (.int .u64 a.id) ∧ w.cell? ⟨b, off + k * 13 + 3, none⟩ = some (.int .u64 a.par) := by
  obtain ⟨b, off, e, hc⟩ := h.lies (by omega)
  have hk' : k < X.length := by rw [h.len]; exact hk
  exact ⟨b, off, X[k], e, List.getElem?_eq_getElem hk', hc k hk' 2 _ rfl, hc k hk' 3 _ rfl⟩
/-- Among so many spans the one that a span names. -/
def ParAt (X : List Sp) (k m : Nat) (u : Int) : Prop := (u = -1 ∧ ∀ a, X[k]? = some a → a.par = 0 ∨ ∀ i b, i < m → X[i]? = some b → b.id ≠ a.par) ∨ ∃ i a b, i < m ∧ u = (i : Int) ∧ X[k]? = some a ∧ X[i]? = some b ∧ a.par ≠ 0 ∧ b.id = a.par
theorem ParAt.skip {X : List Sp} {k m : Nat} {u : Int} {a b : Sp} (h : ParAt X k m u) (ha : X[k]? = some a) (hb : X[m]? = some b) (hn : a.par = 0 ∨ b.id ≠ a.par) : ParAt X k (m + 1) u := by
  rcases h with ⟨h1, h2⟩ | ⟨i, a', b', h1, h2⟩
  · refine Or.inl ⟨h1, fun a' ha' => ?_⟩
    obtain rfl := Option.some.inj (ha.symm.trans ha')
    rcases hn with hn | hn
    · exact Or.inl hn
    · rcases h2 a ha with h2 | h2
      · exact Or.inl h2
      · refine Or.inr fun i b' hi hb' => ?_
        by_cases e : i = m
        · subst e
          obtain rfl := Option.some.inj (hb.symm.trans hb')
          exact hn
        · exact h2 i b' (by omega) hb'
  · exact Or.inr ⟨i, a', b', by omega, h2⟩
theorem ParAt.put {X : List Sp} {k m : Nat} {a b : Sp} (ha : X[k]? = some a) (hb : X[m]? = some b) (h1 : a.par ≠ 0) (h2 : b.id = a.par) : ParAt X k (m + 1) (m : Int) := Or.inr ⟨m, a, b, by omega, rfl, ha, hb, h1, h2⟩
end Go.Proofs.YtbefeobikjnlpaaGreatDoor

namespace Go.Proofs.YtbefeobikjnlpaaGreatDoor
open Go Go.RowKit
set_option maxRecDepth 100000

theorem Ring.le {nm : List Int} {n : Nat} {c : Int} {p : Nat} (h : Ring nm n c p) : p ≤ n := by
  obtain ⟨d, hd⟩ := dist_exists nm n c p h
  have hnd : ((List.range p).map (fun k => (upN nm (k + 1) c).toNat)).Nodup := by
    rw [List.nodup_iff_pairwise_ne, List.pairwise_map]
    refine List.Pairwise.imp_of_mem ?_ List.pairwise_lt_range
    intro a b ha hb hab e
    have ha' := List.mem_range.1 ha
    have hb' := List.mem_range.1 hb
    have h1 := h.inn (q := upN nm (a + 1) c) ⟨_, rfl⟩
    have h2 := h.inn (q := upN nm (b + 1) c) ⟨_, rfl⟩
    have e' : upN nm (a + 1) c = upN nm (b + 1) c := by omega
    have d1 := hd (a + 1) (by omega) (by omega)
    have d2 := hd (b + 1) (by omega) (by omega)
    rw [e', d2] at d1
    omega
  have := sub_len _ (List.range n) hnd (fun x hx => by
    obtain ⟨k, _, rfl⟩ := List.mem_map.1 hx
    have := h.inn (q := upN nm (k + 1) c) ⟨_, rfl⟩
    exact List.mem_range.2 (by omega))
  simpa using this
/-- So far no way back. -/
def OnWay (U : List Int) (n k t : Nat) : Prop := ∀ j, 0 < j → j < t → 0 ≤ upN U j k ∧ upN U j k < n ∧ upN U j k ≠ k
/-- The IDs on the way. -/
def wayIds (X : List Sp) (U : List Int) (k t : Nat) : List Int := (List.range t).map (fun j => match X[(upN U j k).toNat]? with | some a => a.id | none => 0)
theorem wayIds_succ (X : List Sp) (U : List Int) (k t : Nat) : wayIds X U k (t + 1) = wayIds X U k t ++ [match X[(upN U t k).toNat]? with | some a => a.id | none => 0] := by
  unfold wayIds
  rw [List.range_succ, List.map_append]
  rfl
/-- The ring as it is told: nothing, where a span is in none. -/
def RingT (X : List Sp) (U : List Int) (n k : Nat) (w : World) (v : Value) : Prop := (v = .slice none 0 0 ∧ ¬ ∃ p, Ring U n k p) ∨ ∃ p g cap, Ring U n k p ∧ p ≤ n ∧ v = .slice (some ⟨g, 0, none⟩) p cap ∧ g < w.heap.size ∧ ∀ j, j < p → ∃ a, X[(upN U j k).toNat]? = some a ∧ w.cell? ⟨g, j, none⟩ = some (.int .u64 a.id)
theorem owns_new1 {W : World} {base : Nat} {e : TypeId} (v : Value) (hb : base ≤ W.heap.size) : (W.alloc (.cells #[v] e)).ownsRow base e 1 (.slice (some ⟨W.heap.size, 0, none⟩) 1 1) 1 [v] :=
  ⟨by simp, .inr ⟨W.heap.size, 1, #[v], rfl, hb, heap_alloc_new W _, by omega, by unfold maxLen; omega, by simp, by simp⟩⟩
theorem owns_cellU {w : World} {base : Nat} {e : TypeId} {g n cap : Nat} {xs : List Value} (h : w.ownsRow base e 1 (.slice (some ⟨g, 0, none⟩) n cap) n xs) {i : Nat} {v : Value} (hv : xs[i]? = some v) : w.cell? ⟨g, i, none⟩ = some v := by
  have := h.cells (g := g) rfl i v hv
  rwa [Addr.add_lit, Nat.zero_add] at this
end Go.Proofs.YtbefeobikjnlpaaGreatDoor

namespace Go.Proofs.YtbefeobikjnlpaaGreatDoor
open Go Go.RowKit
set_option maxRecDepth 100000

theorem parU_of {X : List Sp} {U : List Int} {n : Nat} (hn : X.length = n) (hl : U.length = n) (h : ∀ k, k < n → ParAt X k n (U.getD k 0)) : ParU X U := by
  refine ⟨by omega, fun k hk => ?_⟩
  rcases h k (by omega) with ⟨h1, h2⟩ | ⟨i, a, b, h1, h2, h3, h4, h5, h6⟩
  · refine Or.inl ⟨h1, ?_⟩
    rcases h2 X[k] (List.getElem?_eq_getElem hk) with h2 | h2
    · exact Or.inl h2
    · exact Or.inr fun i hi => h2 i X[i] (by omega) (List.getElem?_eq_getElem hi)
  · have hi : i < X.length := by omega
    rw [List.getElem?_eq_getElem hk] at h3
    rw [List.getElem?_eq_getElem hi] at h4
    obtain rfl := Option.some.inj h3
    obtain rfl := Option.some.inj h4
    exact Or.inr ⟨i, hi, h2, h5, h6⟩
theorem ParU.range {X : List Sp} {U : List Int} (h : ParU X U) (k : Nat) (hk : k < X.length) : -1 ≤ U.getD k 0 ∧ U.getD k 0 < X.length := by
  rcases h.at_ k hk with ⟨h1, _⟩ | ⟨i, hi, h1, _⟩ <;> omega
/-- A span's origin, as the law asks for it. -/
structure OrgX (X : List Sp) (a : Sp) (k : Nat) (d : Nod) : Prop where
  born : a.par = 0 → d.org = 1
  orphan : ∀ U, ParU X U → a.par ≠ 0 → U.getD k 0 < 0 → d.org = 2
  looped : ∀ U, ParU X U → a.par ≠ 0 → 0 ≤ U.getD k 0 → LeastX X U k → d.org = 3
  inner : ∀ U, ParU X U → a.par ≠ 0 → 0 ≤ U.getD k 0 → ¬ LeastX X U k → d.org = 0
  par : (d.org = 0 → d.par = a.par) ∧ (d.org ≠ 0 → d.par = 0)
/-- All that is asked of a forest's nodes. -/
def AskN (X : List Sp) (n f : Nat) (w : World) : Prop := ∀ k, k < n → ∃ (d : Nod) (a : Sp), X[k]? = some a ∧ OrgX X a k d ∧ ∀ W, Below w.heap.size w W → Calls Tryz.prog 14 #[.pointer (some ⟨f, 0, none⟩), .int .u64 a.id] W fun e W' => e = .returned (.tuple #[ndV d, .bool true]) ∧ Below W.heap.size W W'
theorem askN_of {X Y : List Sp} {C : List Int} {dp : Nat → Nat} {fin : Nat → Nod} {X' : List Spot} {K : Nat → List Int} {R : List Int} {rv : Value} {f sb : Nat} {w : World} (hF : ForestAt w f sb X' K rv R) (h : FoB Y C dp fin X' K R) (h1 : OneT X) (hp : X.Perm Y) (hr : Y.Pairwise (fun a b => a.id < b.id)) (hC : CutsL (nmOf (zs Y)) Y.length Y.length C) : AskN X X.length f w := by
  obtain ⟨s, hs⟩ := perm_map hp
  intro k hk
  obtain ⟨k1, k2⟩ := hs k hk
  have O := h.org hr hC (s k) k1
  have hxX : s k < X'.length := by rw [h.fo.len]; exact k1
  have hnd : X'[s k].nd = fin (s k) := (h.fo.each (s k) k1 hxX).2
  have hid : (fin (s k)).id = X[k].id := by
    rw [← h.ids (s k) k1, ← k2]
    simp [spAt, List.getD, k1]
  refine ⟨fin (s k), X[k], List.getElem?_eq_getElem hk, ⟨fun h0 => O.born (by rw [k2]; exact h0), fun U hU h0 hu => ?_, fun U hU h0 hu hL => ?_, fun U hU h0 hu hL => ?_, ?_⟩, fun W hb => ?_⟩
  · refine O.orphan (by rw [k2]; exact h0) fun j hj => ?_
    rw [k2]
    rcases hU.at_ k hk with ⟨_, g | g⟩ | ⟨i, hi, g, _⟩
    · exact absurd g h0
    · obtain ⟨i, hi, e⟩ := List.mem_iff_getElem.1 (hp.mem_iff.2 (List.getElem_mem hj))
      rw [← e]
      exact g i hi
    · omega
  · rcases hU.at_ k hk with ⟨g, _⟩ | ⟨i, hi, g, g2, g3⟩
    · omega
    · obtain ⟨i1, i2⟩ := hs i hi
      exact O.looped (s i) i1 (by rw [i2, k2]; exact g3) ((least_move h1 hp hr hU s hs k hk).1 hL)
  · rcases hU.at_ k hk with ⟨g, _⟩ | ⟨i, hi, g, g2, g3⟩
    · omega
    · obtain ⟨i1, i2⟩ := hs i hi
      exact O.inner (s i) i1 (by rw [i2, k2]; exact g3) (fun hh => hL ((least_move h1 hp hr hU s hs k hk).2 hh))
  · have := O.par
    rw [k2] at this
    exact this
  · have := node_at (hF.below hb) (s k) hxX X[k].id (by rw [hnd]; exact hid)
    rwa [hnd] at this
theorem one_permR {X Y : List Sp} (h : OneT X) (hp : X.Perm Y) : OneT Y :=
  ⟨by rw [← hp.length_eq]; exact h.len, fun a ha => h.chk a (hp.mem_iff.2 ha), fun a ha => h.fits a (hp.mem_iff.2 ha), fun a ha => h.small a (hp.mem_iff.2 ha), fun a ha b hb => h.tr a (hp.mem_iff.2 ha) b (hp.mem_iff.2 hb), (hp.map _).nodup_iff.1 h.ids⟩
/-- Build, and what may be asked then. -/
theorem buildA (ad : Option Addr) (n cap : Nat) (X : List Sp) (P : Nat → Pl) (w w1 : World) (hb : Below w.heap.size w w1) (hX : SpsAt w ad n X P) (hF : ∀ a ∈ X, a.Fits) (hS : ∀ a ∈ X, a.Small) (hT : Tabs w) :
    Calls Tryz.prog 6 #[.slice ad n cap] w1 fun e w' => (∃ f, e = .returned (.tuple #[.pointer (some ⟨f, 0, none⟩), .int .i64 0]) ∧ OneT X ∧ AskN X n f w' ∧ Below w.heap.size w w') ∨ (e = .returned (.tuple #[.pointer none, .int .i64 101]) ∧ ¬ OneT X ∧ Below w.heap.size w w') := by
  refine (build_total ad n cap X P w1 (hX.below hb) hF hS (hT.below hb)).mono ?_
  rintro e w' (⟨h1, Y, hp, hr, f, sb, X', K, rv, R, C, dp, fin, rfl, h2, hC, h4, h5, h6⟩ | ⟨h1, rfl, h3⟩)
  · refine Or.inl ⟨f, rfl, h1, ?_, hb.trans (h6.mono hb.size)⟩
    have := askN_of h2 ⟨h5, h4, h2.rise, one_permR h1 hp⟩ h1 hp hr hC
    rw [hX.len] at this
    exact this
  · exact Or.inr ⟨rfl, h1, hb.trans (h3.mono hb.size)⟩
end Go.Proofs.YtbefeobikjnlpaaGreatDoor
