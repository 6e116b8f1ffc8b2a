/-
  Merged: QA, QB, QC, QD, QE.
-/
import Derived.Test.YtbefeobikjnlpaaGreatDoorPR
import Derived.Test.YtbefeobikjnlpaaGreatDoorFKq
import Derived.Test.YtbefeobikjnlpaaGreatDoorSOq
import Derived.Test.YtbefeobikjnlpaaGreatDoorOZ
import Derived.Test.YtbefeobikjnlpaaGreatDoorGMq
import Derived.Test.YtbefeobikjnlpaaGreatDoorOXq
namespace Go.Proofs.YtbefeobikjnlpaaGreatDoor
open Go Go.RowKit
set_option maxRecDepth 100000

theorem ring_shift {nm : List Int} {n : Nat} {c : Int} {p : Nat} (h : Ring nm n c p) (j : Nat) : ∃ p', Ring nm n (upN nm j c) p' := by
  refine ring_least (j := p) h.pos ?_ (fun t _ => ?_)
  · rw [← upN_add, Nat.add_comm, upN_add, h.back]
  · rw [← upN_add]
    exact h.inn ⟨_, rfl⟩
theorem ring_home {nm : List Int} {n : Nat} {c : Int} {p : Nat} (h : Ring nm n c p) (t : Nat) : ∃ s, upN nm s (upN nm t c) = c := by
  obtain ⟨t', h1, h2⟩ := h.in_ t
  refine ⟨p - t', ?_⟩
  rw [h2, ← upN_add, show t' + (p - t') = p by omega]
  exact h.back
/-- What is cut is the least one of a ring. -/
theorem CutsL.only {nm : List Int} {n : Nat} (hr : ∀ x ∈ nm, -1 ≤ x ∧ x < (n : Int)) (hn : nm.length = n) : ∀ (k : Nat) (C : List Int), k ≤ n → CutsL nm n k C → ∀ m ∈ C, ∃ (c : Int) (p : Nat), Ring nm n c p ∧ LeastR nm c m
  | 0, C, _, h => fun m hm => by
    have e : C = [] := h
    rw [e] at hm
    cases hm
  | k + 1, C, hk, h => fun m hm => by
    rcases h with ⟨⟨m1, m2⟩, C0, m', h1, h2, rfl⟩ | ⟨_, h1⟩
    · rcases List.mem_append.1 hm with hm | hm
      · exact CutsL.only hr hn k C0 (by omega) h1 m hm
      · simp at hm
        subst hm
        have hb := frAt_back nm n hr hn k (by omega)
        obtain ⟨c, hc⟩ : ∃ c : Nat, cutEnd nm n k = c := ⟨(cutEnd nm n k).toNat, by omega⟩
        rw [hc] at m2 h2
        obtain ⟨p, hp⟩ := ring_of hr hn (by omega) hc (by simpa using m2)
        exact ⟨c, p, hp, h2⟩
    · exact CutsL.only hr hn k C (by omega) h1 m hm
/-- The least one of its own ring. -/
def LeastOwn (nm : List Int) (n : Nat) (i : Int) : Prop := (∃ p, Ring nm n i p) ∧ ∀ j, i ≤ upN nm j i
theorem cut_iff {nm : List Int} {n : Nat} (hr : ∀ x ∈ nm, -1 ≤ x ∧ x < (n : Int)) (hn : nm.length = n) {C : List Int} (hC : CutsL nm n n C) (i : Nat) : (∃ c ∈ C, c.toNat = i) ↔ LeastOwn nm n i := by
  constructor
  · rintro ⟨m, hm, rfl⟩
    obtain ⟨c, p, hp, ⟨j, h1⟩, h2⟩ := hC.only hr hn n C (Nat.le_refl _) m hm
    have h0 := hp.inn ⟨j, h1⟩
    have e : ((m.toNat : Nat) : Int) = m := by omega
    rw [e]
    refine ⟨by rw [h1]; exact ring_shift hp j, fun j' => ?_⟩
    have := h2 (j + j')
    rwa [upN_add, ← h1] at this
  · rintro ⟨⟨p, hp⟩, hl⟩
    obtain ⟨m, hm, t, h1⟩ := ring_cut hr hn hC hp
    obtain ⟨c, q, hq, ⟨j, h2⟩, h3⟩ := hC.only hr hn n C (Nat.le_refl _) m hm
    obtain ⟨s, h4⟩ := ring_home hp t
    refine ⟨m, hm, ?_⟩
    have g1 := hl t
    have g2 := h3 (j + s)
    rw [upN_add, ← h2, h1, h4] at g2
    omega
theorem cutX_org (C : List Int) : ∀ (X : List Spot) (i : Nat) (h : i < X.length) (h' : i < (cutX C X).length), (cutX C X)[i].nd.par = X[i].nd.par ∧ ((∃ c ∈ C, c.toNat = i) → (cutX C X)[i].nd.org = 3) ∧ ((¬ ∃ c ∈ C, c.toNat = i) → (cutX C X)[i].nd.org = X[i].nd.org) := by
  induction C with
  | nil =>
    intro X i h h'
    refine ⟨rfl, fun hh => ?_, fun _ => rfl⟩
    obtain ⟨c, hc, _⟩ := hh
    cases hc
  | cons c r ih =>
    intro X i h h'
    obtain ⟨i1, i2, i3⟩ := ih (X.modify c.toNat loopS) i (by simpa using h) h'
    rw [List.getElem_modify] at i1 i3
    refine ⟨?_, fun hh => ?_, fun hh => ?_⟩
    · show (cutX r (X.modify c.toNat loopS))[i].nd.par = _
      rw [i1]
      split <;> rfl
    · show (cutX r (X.modify c.toNat loopS))[i].nd.org = 3
      by_cases hr : ∃ c ∈ r, c.toNat = i
      · exact i2 hr
      · obtain ⟨d, hd, e⟩ := hh
        rcases List.mem_cons.1 hd with rfl | hd
        · rw [i3 hr, if_pos e]
          rfl
        · exact absurd ⟨d, hd, e⟩ hr
    · show (cutX r (X.modify c.toNat loopS))[i].nd.org = _
      rw [i3 (fun ⟨d, hd, e⟩ => hh ⟨d, by simp [hd], e⟩), if_neg (fun e => hh ⟨c, by simp, e⟩)]
abbrev nmY (Y : List Sp) : List Int := nmOf (zs Y)
theorem nmY_len (Y : List Sp) : (nmY Y).length = Y.length := by simp [nmY, nmOf, zs_len]
theorem nmY_range (Y : List Sp) : ∀ x ∈ nmY Y, -1 ≤ x ∧ x < (Y.length : Int) := fun x hx => by
  unfold nmY nmOf at hx
  obtain ⟨s, _, rfl⟩ := List.mem_map.1 hx
  have := idx_range (zs Y) s.a.par
  rw [zs_len] at this
  exact this
theorem nmY_at (Y : List Sp) (i : Nat) (hi : i < Y.length) : (nmY Y).getD i 0 = idxI (zs Y) Y[i].par := by
  have : i < (nmY Y).length := by rw [nmY_len]; exact hi
  rw [List.getD_eq_getElem?_getD, List.getElem?_eq_getElem this]
  simp [nmY, nmOf, zs]
theorem rise_zs {Y : List Sp} (hr : Y.Pairwise (fun a b => a.id < b.id)) : RiseS (zs Y) := fun i j hi hj hij => by
  rw [zs_len] at hi hj
  simp only [zs, List.getElem_map]
  exact List.pairwise_iff_getElem.1 hr i j hi hj hij
theorem nmY_some {Y : List Sp} (hr : Y.Pairwise (fun a b => a.id < b.id)) {i j : Nat} (hi : i < Y.length) (hj : j < Y.length) : (nmY Y).getD i 0 = (j : Int) ↔ Y[j].id = Y[i].par := by
  rw [nmY_at Y i hi]
  obtain ⟨hz, _, z2⟩ := zs_get Y j hj
  constructor
  · intro h
    by_cases hh : ∃ q, ∃ h : q < Y.length, Y[q].id = Y[i].par
    · obtain ⟨q, hq, e⟩ := hh
      obtain ⟨hzq, _, q2⟩ := zs_get Y q hq
      have := idx_found (rise_zs hr) hzq (id := Y[i].par) (by rw [q2]; exact e)
      have : q = j := by omega
      subst this
      exact e
    · have := idx_none (X := zs Y) (id := Y[i].par) (fun q hq e => hh ⟨q, by rw [zs_len] at hq; exact hq, by
        obtain ⟨_, _, q2⟩ := zs_get Y q (by rw [zs_len] at hq; exact hq)
        rw [← q2]; exact e⟩)
      omega
  · intro e
    exact idx_found (rise_zs hr) hz (by rw [z2]; exact e)
theorem nmY_none {Y : List Sp} (hr : Y.Pairwise (fun a b => a.id < b.id)) {i : Nat} (hi : i < Y.length) : (nmY Y).getD i 0 = -1 ↔ ∀ j (hj : j < Y.length), Y[j].id ≠ Y[i].par := by
  constructor
  · intro h j hj e
    have := (nmY_some hr hi hj).2 e
    omega
  · intro h
    rw [nmY_at Y i hi]
    exact idx_none fun q hq e => by
      have hq' : q < Y.length := by rw [zs_len] at hq; exact hq
      obtain ⟨_, _, q2⟩ := zs_get Y q hq'
      exact h q hq' (by rw [← q2]; exact e)
theorem chk_id {a : Sp} (h : chkS a = 0) : a.id ≠ 0 := fun e => by
  unfold chkS at h
  rw [if_pos (by simp [e])] at h
  omega
/-- Where a span stands, and why. -/
structure OrgK (Y : List Sp) (d : Nod) (i : Nat) (hi : i < Y.length) : Prop where
  born : Y[i].par = 0 → d.org = 1
  orphan : Y[i].par ≠ 0 → (∀ j (hj : j < Y.length), Y[j].id ≠ Y[i].par) → d.org = 2
  looped : ∀ j (hj : j < Y.length), Y[j].id = Y[i].par → LeastOwn (nmY Y) Y.length i → d.org = 3
  inner : ∀ j (hj : j < Y.length), Y[j].id = Y[i].par → ¬ LeastOwn (nmY Y) Y.length i → d.org = 0
  par : (d.org = 0 → d.par = Y[i].par) ∧ (d.org ≠ 0 → d.par = 0)
theorem getD_eq {l : List Int} {i : Nat} (h : i < l.length) (a b : Int) : l.getD i a = l.getD i b := by simp [List.getD, h]
theorem FoB.org {Y : List Sp} {C : List Int} {dp : Nat → Nat} {fin : Nat → Nod} {X : List Spot} {K : Nat → List Int} {R : List Int} (h : FoB Y C dp fin X K R) (hr : Y.Pairwise (fun a b => a.id < b.id)) (hC : CutsL (nmOf (zs Y)) Y.length Y.length C) (i : Nat) (hi : i < Y.length) : OrgK Y (fin i) i hi := by
  have hcl : (cutX C (zs Y)).length = Y.length := by rw [cutX_len, zs_len]
  have hi' : i < (cutX C (zs Y)).length := by omega
  obtain ⟨hz, z1, z2⟩ := zs_get Y i hi
  obtain ⟨s1, _, s3⟩ := cutX_same C (zs Y) i hz hi'
  obtain ⟨o1, o2, o3⟩ := cutX_org C (zs Y) i hz hi'
  have zo : (zs Y)[i].nd.org = 0 := by simp [zs, ndOf]
  have zp : (zs Y)[i].nd.par = 0 := by simp [zs, ndOf]
  have hnl := nmY_len Y
  have ci := cut_iff (nmY_range Y) hnl hC i
  have hg := cutN_get C (nmY Y) i (by omega)
  have hcn : i < (cutN C (nmY Y)).length := by rw [cutN_len]; omega
  rw [getD_eq hcn 0 (-1)] at hg
  have idz : ∀ j (hj : j < Y.length), Y[j].id ≠ 0 := fun j hj => chk_id (h.one.chk _ (List.getElem_mem hj))
  by_cases hL : LeastOwn (nmY Y) Y.length i
  · have hc := ci.2 hL
    rw [if_pos hc] at hg
    have e := (h.sh.rt i hi' hg).2
    have ho : (fin i).org = 3 := by rw [e]; unfold rootN; simp only; rw [if_pos (o2 hc)]
    have hp : (fin i).par = 0 := by rw [e]; unfold rootN; simp only; rw [o1, zp]
    obtain ⟨⟨p, hp'⟩, _⟩ := hL
    have h1 := hp'.inn ⟨1, rfl⟩
    have h2 : upN (nmY Y) 1 (i : Int) = (nmY Y).getD i 0 := rfl
    rw [h2] at h1
    have hj := (nmY_some hr hi (j := ((nmY Y).getD i 0).toNat) (by omega)).1 (by omega)
    refine ⟨fun hp0 => absurd (hj.trans hp0) (idz _ _), fun _ hn => absurd hj (hn _ _), fun _ _ _ _ => ho, fun _ _ _ hn => absurd ⟨⟨p, hp'⟩, by assumption⟩ hn, fun h0 => by omega, fun _ => hp⟩
  · have hc : ¬ ∃ c ∈ C, c.toNat = i := fun hc => hL (ci.1 hc)
    rw [if_neg hc] at hg
    have oo := o3 hc
    rw [zo] at oo
    rcases nmC_range Y C i hi with hn | ⟨j, hj, hn⟩
    · have hn' : (nmY Y).getD i 0 = -1 := hg.symm.trans hn
      have e := (h.sh.rt i hi' hn).2
      have hp : (fin i).par = 0 := by rw [e]; unfold rootN; simp only; rw [o1, zp]
      have no := (nmY_none hr hi).1 hn'
      have ho : (fin i).org = if Y[i].par = 0 then 1 else 2 := by
        rw [e]
        unfold rootN
        simp only
        rw [oo, if_neg (by omega), s1, z1]
      refine ⟨fun h0 => by rw [ho, if_pos h0], fun h0 _ => by rw [ho, if_neg h0], fun j hj e => absurd e (no j hj), fun j hj e => absurd e (no j hj), fun h0 => ?_, fun _ => hp⟩
      rw [ho] at h0
      split at h0 <;> omega
    · have hn' : (nmY Y).getD i 0 = (j : Int) := hg.symm.trans hn
      have e := (h.sh.kd i j hi' (by omega) hn).2
      have hj' := (nmY_some hr hi hj).1 hn'
      have ho : (fin i).org = 0 := by rw [e]; unfold hangN; simp only; exact oo
      have hp : (fin i).par = Y[i].par := by
        rw [e]
        unfold hangN
        simp only
        rw [← hj', ← h.ids j hj]
        simp [spAt, List.getD, hj]
      exact ⟨fun h0 => absurd (hj'.trans h0) (idz j hj), fun _ hn => absurd hj' (hn j hj), fun _ _ _ hl => absurd hl hL, fun _ _ _ _ => ho, fun _ => hp, fun h0 => absurd ho h0⟩
end Go.Proofs.YtbefeobikjnlpaaGreatDoor

namespace Go.Proofs.YtbefeobikjnlpaaGreatDoor
open Go Go.RowKit
set_option maxRecDepth 100000

/-- Of each span the place of the one that it names. -/
structure ParU (X : List Sp) (U : List Int) : Prop where
  len : U.length = X.length
  at_ : ∀ k (hk : k < X.length), (U.getD k 0 = -1 ∧ (X[k].par = 0 ∨ ∀ i (hi : i < X.length), X[i].id ≠ X[k].par)) ∨ ∃ i, ∃ hi : i < X.length, U.getD k 0 = (i : Int) ∧ X[k].par ≠ 0 ∧ X[i].id = X[k].par
end Go.Proofs.YtbefeobikjnlpaaGreatDoor

namespace Go.Proofs.YtbefeobikjnlpaaGreatDoor
open Go Go.RowKit
set_option maxRecDepth 100000

/-- A span's ID and parent, where they lie. -/
theorem SpsAt.idpar {w : World} {ad : Option Addr} {n : Nat} {X : List Sp} {P : Nat → Pl} (h : SpsAt w ad n X P) (k : Nat) (hk : k < n) : ∃ b off a, ad = some ⟨b, off, none⟩ ∧ X[k]? = some a ∧ w.cell? ⟨b, off + k * 13 + 2, none⟩ = some (.int .u64 a.id) ∧ w.cell? ⟨b, off + k * 13 + 3, none⟩ = some (.int .u64 a.par) := by
  obtain ⟨b, off, e, hc⟩ := h.lies (by omega)
  have hk' : k < X.length := by rw [h.len]; exact hk
  exact ⟨b, off, X[k], e, List.getElem?_eq_getElem hk', hc k hk' 2 _ rfl, hc k hk' 3 _ rfl⟩
/-- Among so many spans the one that a span names. -/
def ParAt (X : List Sp) (k m : Nat) (u : Int) : Prop := (u = -1 ∧ ∀ a, X[k]? = some a → a.par = 0 ∨ ∀ i b, i < m → X[i]? = some b → b.id ≠ a.par) ∨ ∃ i a b, i < m ∧ u = (i : Int) ∧ X[k]? = some a ∧ X[i]? = some b ∧ a.par ≠ 0 ∧ b.id = a.par
theorem ParAt.skip {X : List Sp} {k m : Nat} {u : Int} {a b : Sp} (h : ParAt X k m u) (ha : X[k]? = some a) (hb : X[m]? = some b) (hn : a.par = 0 ∨ b.id ≠ a.par) : ParAt X k (m + 1) u := by
  rcases h with ⟨h1, h2⟩ | ⟨i, a', b', h1, h2⟩
  · refine Or.inl ⟨h1, fun a' ha' => ?_⟩
    obtain rfl := Option.some.inj (ha.symm.trans ha')
    rcases hn with hn | hn
    · exact Or.inl hn
    · rcases h2 a ha with h2 | h2
      · exact Or.inl h2
      · refine Or.inr fun i b' hi hb' => ?_
        by_cases e : i = m
        · subst e
          obtain rfl := Option.some.inj (hb.symm.trans hb')
          exact hn
        · exact h2 i b' (by omega) hb'
  · exact Or.inr ⟨i, a', b', by omega, h2⟩
theorem ParAt.put {X : List Sp} {k m : Nat} {a b : Sp} (ha : X[k]? = some a) (hb : X[m]? = some b) (h1 : a.par ≠ 0) (h2 : b.id = a.par) : ParAt X k (m + 1) (m : Int) := Or.inr ⟨m, a, b, by omega, rfl, ha, hb, h1, h2⟩
end Go.Proofs.YtbefeobikjnlpaaGreatDoor

namespace Go.Proofs.YtbefeobikjnlpaaGreatDoor
open Go Go.RowKit
set_option maxRecDepth 100000

theorem Ring.le {nm : List Int} {n : Nat} {c : Int} {p : Nat} (h : Ring nm n c p) : p ≤ n := by
  obtain ⟨d, hd⟩ := dist_exists nm n c p h
  have hnd : ((List.range p).map (fun k => (upN nm (k + 1) c).toNat)).Nodup := by
    rw [List.nodup_iff_pairwise_ne, List.pairwise_map]
    refine List.Pairwise.imp_of_mem ?_ List.pairwise_lt_range
    intro a b ha hb hab e
    have ha' := List.mem_range.1 ha
    have hb' := List.mem_range.1 hb
    have h1 := h.inn (q := upN nm (a + 1) c) ⟨_, rfl⟩
    have h2 := h.inn (q := upN nm (b + 1) c) ⟨_, rfl⟩
    have e' : upN nm (a + 1) c = upN nm (b + 1) c := by omega
    have d1 := hd (a + 1) (by omega) (by omega)
    have d2 := hd (b + 1) (by omega) (by omega)
    rw [e', d2] at d1
    omega
  have := sub_len _ (List.range n) hnd (fun x hx => by
    obtain ⟨k, _, rfl⟩ := List.mem_map.1 hx
    have := h.inn (q := upN nm (k + 1) c) ⟨_, rfl⟩
    exact List.mem_range.2 (by omega))
  simpa using this
/-- So far no way back. -/
def OnWay (U : List Int) (n k t : Nat) : Prop := ∀ j, 0 < j → j < t → 0 ≤ upN U j k ∧ upN U j k < n ∧ upN U j k ≠ k
end Go.Proofs.YtbefeobikjnlpaaGreatDoor

namespace Go.Proofs.YtbefeobikjnlpaaGreatDoor
open Go Go.RowKit
set_option maxRecDepth 100000

theorem ParU.range {X : List Sp} {U : List Int} (h : ParU X U) (k : Nat) (hk : k < X.length) : -1 ≤ U.getD k 0 ∧ U.getD k 0 < X.length := by
  rcases h.at_ k hk with ⟨h1, _⟩ | ⟨i, hi, h1, _⟩ <;> omega
theorem one_permR {X Y : List Sp} (h : OneT X) (hp : X.Perm Y) : OneT Y :=
  ⟨by rw [← hp.length_eq]; exact h.len, fun a ha => h.chk a (hp.mem_iff.2 ha), fun a ha => h.fits a (hp.mem_iff.2 ha), fun a ha => h.small a (hp.mem_iff.2 ha), fun a ha b hb => h.tr a (hp.mem_iff.2 ha) b (hp.mem_iff.2 hb), (hp.map _).nodup_iff.1 h.ids⟩
end Go.Proofs.YtbefeobikjnlpaaGreatDoor
