/-
  Merged: KC, KE, KF.
-/
import Derived.Test.YtkkeffodbngibaaGreatDoorKBq
import Derived.Test.YtkkeffodbngibaaGreatDoorPMq
import Derived.Test.YtkkeffodbngibaaGreatDoorPIq
namespace Go.Proofs.YtkkeffodbngibaaGreatDoor
open Go Go.RowKit
set_option maxRecDepth 100000

/-- A span's tree is a root's. -/
theorem FoB.top {Y : List Sp} {C : List Int} {dp : Nat → Nat} {fin : Nat → Nod} {X : List Spot} {K : Nat → List Int} {R : List Int} (h : FoB Y C dp fin X K R) : ∀ (d i : Nat), dp i = d → i < Y.length → ∃ x : Nat, (x : Int) ∈ R ∧ x < Y.length ∧ (fin x).org ≠ 0 ∧ (fin x).tree = (fin x).id ∧ (fin i).tree = (fin x).id := by
  intro d
  induction d using Nat.strongRecOn with
  | ind d ih =>
    intro i hd hi
    rcases nmC_range Y C i hi with hn | ⟨j, hj, hn⟩
    · have hm : (i : Int) ∈ R := h.fo.roots.1.mem_iff.1 (kidsF_iff.2 ⟨i, rfl, hi, hn⟩)
      obtain ⟨x, e, hx, h1, h2⟩ := h.root _ hm
      have : i = x := by omega
      subst this
      exact ⟨i, hm, hx, h1, h2, h2⟩
    · have hc : i ∈ knK K j := (h.mem j hj i).2 ⟨hi, hn⟩
      have e := h.tree.hdp j hj i hc
      obtain ⟨x, a1, a2, a3, a4, a5⟩ := ih (dp j) (by omega) j rfl hj
      exact ⟨x, a1, a2, a3, a4, by rw [(h.kid j hj i hc).2.2]; exact a5⟩
theorem FoB.u64 {Y : List Sp} {C : List Int} {dp : Nat → Nat} {fin : Nat → Nod} {X : List Spot} {K : Nat → List Int} {R : List Int} (h : FoB Y C dp fin X K R) (i : Nat) (hi : i < Y.length) : u64J (fin i).id ∧ u64J (fin i).tree := by
  have h1 : ∀ x, x < Y.length → u64J (fin x).id := fun x hx => by
    rw [← h.ids x hx]
    unfold spAt
    rw [List.getD_eq_getElem?_getD, List.getElem?_eq_getElem hx]
    exact (h.one.fits _ (List.getElem_mem hx)).id
  obtain ⟨x, _, hx, _, _, e⟩ := h.top (dp i) i rfl hi
  exact ⟨h1 i hi, by rw [e]; exact h1 x hx⟩
/-- Whom latest finds. -/
theorem latL_mem {X : List Spot} {T I : List Int} {d : Nod} (h : d ∈ latL X T I) : ∃ j, ∃ hj : j < X.length, X[j].nd = d ∧ d.id ∈ I ∧ d.tree ∉ T := by
  unfold latL at h
  rw [List.mem_flatMap] at h
  obtain ⟨id, hid, hd⟩ := h
  unfold latO at hd
  cases e : X.find? (fun x => decide (x.nd.id = id)) with
  | none => rw [e] at hd; simp at hd
  | some x =>
    rw [e] at hd
    by_cases ht : x.nd.tree ∈ T
    · simp [ht] at hd
    · simp [ht] at hd
      subst hd
      have hp := List.find?_some e
      obtain ⟨j, hj, e2⟩ := List.mem_iff_getElem.1 (List.mem_of_find?_eq_some e)
      simp at hp
      exact ⟨j, hj, by rw [e2], by rw [hp]; exact hid, ht⟩
theorem latL_all {X : List Spot} (hr : RiseS X) {T I : List Int} {j : Nat} (hj : j < X.length) (hi : X[j].nd.id ∈ I) (ht : X[j].nd.tree ∉ T) : X[j].nd ∈ latL X T I := by
  unfold latL
  rw [List.mem_flatMap]
  refine ⟨_, hi, ?_⟩
  unfold latO
  rw [find_nd hr hj]
  simp [ht]
/-- A hop: its root, whence it was linked, its gap, its legs. -/
abbrev Hop : Type := Nat × Nat × Int × Value × List (Nat × Int × Int)
def hopL (fin : Nat → Nod) (h : Hop) : List Value := [.int .u64 (fin h.1).id, .int .u64 (fin h.2.1).id, .int .i64 h.2.2.1, h.2.2.2.1]
/-- What is told of a chain. -/
structure HopsR (n : Nat) (fin : Nat → Nod) (A : Nat → Sp) (R : List Int) (H : List Hop) : Prop where
  each : ∀ h ∈ H, h.1 < n ∧ h.2.1 < n ∧ (fin h.2.1).tree = (fin h.1).id ∧ (fin h.1).org ≠ 0
  two : (H.map (fun h => (fin h.1).id)).Nodup
  first : ∀ h0 : 0 < H.length, H[0].2.1 = H[0].1 ∧ H[0].2.2.1 = 0 ∧ ∀ z : Nat, (z : Int) ∈ R → ¬ cmpEnd (fin z) (fin H[0].1) < 0
  next : ∀ i (hi : i + 1 < H.length), (fin H[i + 1].2.1).id ∈ (A H[i].1).links ∧ H[i + 1].2.2.1 = IntKind.i64.wrap ((fin H[i].1).fr - (fin H[i + 1].2.1).til)
/-- Where a chain goes on. -/
structure NextR (n : Nat) (fin : Nat → Nod) (A : Nat → Sp) (R : List Int) (H : List Hop) (y : Nat) (gap : Int) : Prop where
  lt : y < n
  out : (fin y).tree ∉ H.map (fun h => (fin h.1).id)
  first : H = [] → (fin y).tree = (fin y).id ∧ gap = 0 ∧ ∀ z : Nat, (z : Int) ∈ R → ¬ cmpEnd (fin z) (fin y) < 0
  next : ∀ i (hi : i + 1 = H.length), (fin y).id ∈ (A (H[i]'(by omega)).1).links ∧ gap = IntKind.i64.wrap ((fin (H[i]'(by omega)).1).fr - (fin y).til)
theorem HopsR.nil (n : Nat) (fin : Nat → Nod) (A : Nat → Sp) (R : List Int) : HopsR n fin A R [] := ⟨fun _ h => (by cases h), List.Pairwise.nil, fun h => absurd h (by simp), fun i h => absurd h (by simp)⟩
theorem HopsR.snoc {n : Nat} {fin : Nat → Nod} {A : Nat → Sp} {R : List Int} {H : List Hop} {y : Nat} {gap : Int} (h : HopsR n fin A R H) (hn : NextR n fin A R H y gap) {x : Nat} (hx : x < n) (ho : (fin x).org ≠ 0) (ht : (fin y).tree = (fin x).id) (hi : (fin y).id = (fin x).id → y = x) (lv : Value) (L : List (Nat × Int × Int)) : HopsR n fin A R (H ++ [(x, y, gap, lv, L)]) := by
  refine ⟨fun k hk => ?_, ?_, fun h0 => ?_, fun i hi => ?_⟩
  · rcases List.mem_append.1 hk with hk | hk
    · exact h.each k hk
    · rw [List.mem_singleton] at hk
      subst hk
      exact ⟨hx, hn.lt, ht, ho⟩
  · rw [List.map_append, List.nodup_append]
    refine ⟨h.two, by simp, fun a ha b hb e => ?_⟩
    simp at hb
    subst hb
    subst e
    exact hn.out (by rw [ht]; exact ha)
  · by_cases hH : H = []
    · subst hH
      obtain ⟨a, b, c⟩ := hn.first rfl
      have e := hi (by rw [← a, ht])
      subst e
      exact ⟨rfl, b, c⟩
    · have hl : 0 < H.length := List.length_pos_iff.2 hH
      have := h.first hl
      rw [List.getElem_append_left hl]
      exact this
  · rw [List.length_append, List.length_singleton] at hi
    by_cases hl : i + 1 < H.length
    · rw [List.getElem_append_left hl, List.getElem_append_left (by omega)]
      exact h.next i hl
    · have e : i + 1 = H.length := by omega
      have := hn.next i e
      rw [List.getElem_append_left (by omega), List.getElem_append_right (by omega)]
      simp only [e, Nat.sub_self, List.getElem_cons_zero]
      exact this
theorem HopsR.len {n : Nat} {fin : Nat → Nod} {A : Nat → Sp} {R : List Int} {H : List Hop} (h : HopsR n fin A R H) : H.length ≤ n := by
  have hnd : (H.map (fun h => h.1)).Nodup := by
    have := h.two
    rw [List.Nodup, List.pairwise_map] at this ⊢
    exact this.imp (fun hab e => hab (by rw [e]))
  have := sub_len _ (List.range n) hnd (fun x hx => by
    obtain ⟨k, hk, rfl⟩ := List.mem_map.1 hx
    exact List.mem_range.2 (h.each k hk).1)
  simpa using this
/-- A hop's legs in memory. -/
def LegH (W : World) (A : Nat → Sp) (fin : Nat → Nod) (C : Nat → List Nat) (h : Hop) : Prop := ∃ la cap, h.2.2.2.1 = .slice la h.2.2.2.2.length cap ∧ PathR fin C h.1 (fin h.1).til h.2.2.2.2 ∧ h.2.2.2.2.length ≤ 2000 ∧ (h.2.2.2.2 ≠ [] → ∃ g, la = some ⟨g, 0, none⟩ ∧ g < W.heap.size ∧ LegsIn W g ((h.2.2.2.2.map (legX A)).reverse))
theorem LegH.upd {S : Nat → Prop} {W W' : World} {A : Nat → Sp} {fin : Nat → Nod} {C : Nat → List Nat} {h : Hop} (hl : LegH W A fin C h) (hu : Upd S W W') (hS : ∀ g c, W.cell? ⟨g, 1, none⟩ = some (.int .i64 c) → ¬ S g) : LegH W' A fin C h := by
  obtain ⟨la, cap, h1, h2, h3, h4⟩ := hl
  refine ⟨la, cap, h1, h2, h3, fun hn => ?_⟩
  obtain ⟨g, h5, h6, h7⟩ := h4 hn
  have hne : ((h.2.2.2.2.map (legX A)).reverse) ≠ [] := by simpa using hn
  have c1 := (h7 0 (List.length_pos_iff.2 hne)).2.1
  have hb := hu.block g h6 (hS g _ c1)
  refine ⟨g, h5, Nat.lt_of_lt_of_le h6 hu.size, fun i hi => ?_⟩
  have e : ∀ j, W'.cell? ⟨g, j, none⟩ = W.cell? ⟨g, j, none⟩ := fun j => by simp only [World.cell?, hb]
  rw [e, e, e]
  exact h7 i hi
/-- A chain's hops in memory. -/
structure HopsM (base : Nat) (W : World) (A : Nat → Sp) (fin : Nat → Nod) (C : Nat → List Nat) (hv : Value) (H : List Hop) : Prop where
  own : W.ownsRow base 43 4 hv H.length (H.flatMap (hopL fin))
  legs : ∀ h ∈ H, LegH W A fin C h
  nil : H = [] → hv.ownBlock = Option.none
theorem HopsM.upd {S : Nat → Prop} {base : Nat} {W W' : World} {A : Nat → Sp} {fin : Nat → Nod} {C : Nat → List Nat} {hv : Value} {H : List Hop} (h : HopsM base W A fin C hv H) (hu : Upd S W W') (h1 : ∀ k, hv.ownBlock = some k → ¬ S k) (h2 : ∀ g c, W.cell? ⟨g, 1, none⟩ = some (.int .i64 c) → ¬ S g) : HopsM base W' A fin C hv H :=
  ⟨ownsRow_upd h.own hu h1, fun k hk => (h.legs k hk).upd hu h2, h.nil⟩
theorem HopsM.below {base : Nat} {W W' : World} {A : Nat → Sp} {fin : Nat → Nod} {C : Nat → List Nat} {hv : Value} {H : List Hop} (h : HopsM base W A fin C hv H) (hb : Below W.heap.size W W') : HopsM base W' A fin C hv H :=
  h.upd (Upd.ofBelow (S := fun _ => False) hb (fun k h1 h2 => by omega)) (fun _ _ h => h) (fun _ _ _ h => h)
/-- What is no leg's block. -/
theorem HopsM.no {base : Nat} {W : World} {A : Nat → Sp} {fin : Nat → Nod} {C : Nat → List Nat} {hv : Value} {H : List Hop} (h : HopsM base W A fin C hv H) {g : Nat} {c : Int} (hc : W.cell? ⟨g, 1, none⟩ = some (.int .i64 c)) : hv.ownBlock ≠ some g := fun e => by
  by_cases hH : H = []
  · rw [h.nil hH] at e
    simp at e
  · obtain ⟨k, r, rfl⟩ := List.exists_cons_of_ne_nil hH
    rcases h.own.2 with ⟨e1, _⟩ | ⟨g', cap, cur, e1, _, hh, _, _, hcs, ht⟩
    · rw [e1] at e
      simp [Value.ownBlock] at e
    · rw [e1] at e
      simp [Value.ownBlock] at e
      subst e
      have h1 : (cur.toList.take ((k :: r).length * 4))[1]? = some (.int .u64 (fin k.2.1).id) := by
        rw [ht, List.flatMap_cons]
        rfl
      rw [List.getElem?_take_of_lt (by simp only [List.length_cons]; omega)] at h1
      simp [World.cell?, hh] at hc
      simp at h1
      rw [h1] at hc
      simp at hc
/-- One hop more. -/
theorem HopsM.more {base : Nat} {W W' : World} {A : Nat → Sp} {fin : Nat → Nod} {C : Nat → List Nat} {hv hv' : Value} {H : List Hop} {k : Hop} (h : HopsM base W A fin C hv H) (hk : LegH W A fin C k) (hu : Upd (fun q => hv.ownBlock = some q) W W') (ho : W'.ownsRow base 43 4 hv' (H.length + 1) ((H ++ [k]).flatMap (hopL fin))) : HopsM base W' A fin C hv' (H ++ [k]) := by
  refine ⟨by rw [List.length_append]; exact ho, fun j hj => ?_, fun e => by simp at e⟩
  rcases List.mem_append.1 hj with hj | hj
  · exact (h.legs j hj).upd hu (fun g c hc => h.no hc)
  · rw [List.mem_singleton] at hj
    subst hj
    exact hk.upd hu (fun g c hc => h.no hc)
end Go.Proofs.YtkkeffodbngibaaGreatDoor

namespace Go.Proofs.YtkkeffodbngibaaGreatDoor
open Go Go.RowKit Go.Maps
set_option maxRecDepth 100000

theorem idsOf_mem {Y : List Sp} {C : List Int} {dp : Nat → Nat} {fin : Nat → Nod} {X : List Spot} {K : Nat → List Int} {R : List Int} (h : FoB Y C dp fin X K R) {id : Int} : id ∈ idsOf X R ↔ ∃ x : Nat, (x : Int) ∈ R ∧ x < Y.length ∧ (fin x).id = id := by
  unfold idsOf
  rw [List.mem_map]
  have hl := h.fo.len
  constructor
  · rintro ⟨z, hz, e⟩
    obtain ⟨x, rfl, hx, _⟩ := h.root z hz
    have e2 := (h.fo.each x hx (by omega)).2
    simp [hl, hx, e2] at e
    exact ⟨x, hz, hx, e⟩
  · rintro ⟨x, hz, hx, e⟩
    have e2 := (h.fo.each x hx (by omega)).2
    exact ⟨x, hz, by simp [hl, hx, e2, e]⟩
theorem next_first {Y : List Sp} {C : List Int} {dp : Nat → Nat} {fin : Nat → Nod} {X : List Spot} {K : Nat → List Int} {R : List Int} (h : FoB Y C dp fin X K R) (A : Nat → Sp) {d : Nod} (hd : d ∈ latL X [] (idsOf X R)) (hm : ∀ x ∈ latL X [] (idsOf X R), ¬ cmpEnd x d < 0) : ∃ y, d = fin y ∧ NextR Y.length fin A R [] y 0 := by
  have hl := h.fo.len
  obtain ⟨j, hj, e1, e2, _⟩ := latL_mem hd
  have e3 := (h.fo.each j (by omega) hj).2
  have e4 : d = fin j := by rw [← e1, e3]
  obtain ⟨x, hx, hxn, e5⟩ := (idsOf_mem h).1 e2
  have e6 : x = j := h.idInj hxn (by omega) (by rw [e5, e4])
  subst e6
  obtain ⟨x', q, _, _, ht⟩ := h.root _ hx
  have : x = x' := by omega
  subst this
  refine ⟨x, e4, hxn, by simp, fun _ => ⟨ht, rfl, fun z hz => ?_⟩, fun i hi => absurd hi (by simp)⟩
  obtain ⟨z', q, hz', _, _⟩ := h.root _ hz
  have : z = z' := by omega
  subst this
  have e7 := (h.fo.each z hz' (by omega)).2
  have := hm (fin z) (by
    rw [← e7]
    refine latL_all h.rise (by omega) ?_ (by simp)
    rw [e7]
    exact (idsOf_mem h).2 ⟨z, hz, hz', rfl⟩)
  rw [e4] at this
  exact this
theorem first_none {Y : List Sp} {C : List Int} {dp : Nat → Nat} {fin : Nat → Nod} {X : List Spot} {K : Nat → List Int} {R : List Int} (h : FoB Y C dp fin X K R) (hn : latL X [] (idsOf X R) = []) : R = [] := by
  cases hR : R with
  | nil => rfl
  | cons z r =>
    have hl := h.fo.len
    have hz : z ∈ R := by rw [hR]; simp
    obtain ⟨x, rfl, hx, _, _⟩ := h.root z hz
    have e7 := (h.fo.each x hx (by omega)).2
    have : X[x]'(by omega) ∈ X := List.getElem_mem _
    have hm := latL_all h.rise (T := []) (I := idsOf X R) (j := x) (by omega) (by rw [e7]; exact (idsOf_mem h).2 ⟨x, hz, hx, rfl⟩) (by simp)
    rw [hn] at hm
    cases hm
theorem next_step {Y : List Sp} {C : List Int} {dp : Nat → Nat} {fin : Nat → Nod} {X : List Spot} {K : Nat → List Int} {R : List Int} (h : FoB Y C dp fin X K R) (A : Nat → Sp) {H : List Hop} {k : Hop} {d : Nod} (hd : d ∈ latL X ((H ++ [k]).map (fun h => (fin h.1).id)) (A k.1).links) : ∃ y, d = fin y ∧ NextR Y.length fin A R (H ++ [k]) y (IntKind.i64.wrap ((fin k.1).fr - (fin y).til)) := by
  have hl := h.fo.len
  obtain ⟨j, hj, e1, e2, e0⟩ := latL_mem hd
  have e3 := (h.fo.each j (by omega) hj).2
  have e4 : d = fin j := by rw [← e1, e3]
  rw [e4] at e2 e0
  refine ⟨j, e4, by omega, e0, fun e => absurd e (by simp), fun i hi => ?_⟩
  rw [List.length_append, List.length_singleton] at hi
  have e5 : (H ++ [k])[i]'(by simp; omega) = k := by
    rw [List.getElem_append_right (by omega)]
    simp [show i - H.length = 0 from by omega]
  rw [e5]
  exact ⟨e2, rfl⟩
/-- A tree that was swept, as Chain reads it; w5 has all its blocks. -/
structure TreeP (w5 : World) (t bx : Nat) (a : Sp) (d : Nod) (la : Option Addr) (lc : Nat) (lv : Value) : Prop where
  c0 : w5.cell? ⟨t, 0, none⟩ = some (.pointer (some ⟨bx, 0, none⟩))
  c2 : w5.cell? ⟨t, 2, none⟩ = some lv
  id : w5.cell? ⟨bx, 2, none⟩ = some (.int .u64 d.id)
  lk : w5.cell? ⟨bx, 4, none⟩ = some (.slice la a.links.length lc)
  fr : w5.cell? ⟨bx, 13, none⟩ = some (.int .i64 d.fr)
  ids : IdsAt w5 la a.links
theorem swept_tree (f sb : Nat) (X : List Spot) (K : Nat → List Int) (rvv : Value) (R : List Int) (A : Nat → Sp) (fin : Nat → Nod) (KN C : Nat → List Nat) (fuel x : Nat) (W : World) (hF : ForestAt W f sb X K rvv R) (T : SvE X K A fin KN C fuel x) (hid : (A x).id = (fin x).id) (y : Nat) (gap : Int) :
    Calls Tryz.prog 22 #[.pointer (some ⟨f, 0, none⟩), .int .u64 (fin x).id] W fun e W' => e = .returned (.pointer (some ⟨W.heap.size, 0, none⟩)) ∧ (∃ bx la lc lv L, (∀ w5 : World, (∀ j, W.heap.size ≤ j → j < W'.heap.size → w5.heap[j]? = W'.heap[j]?) → TreeP w5 W.heap.size bx (A x) (fin x) la lc lv) ∧ LegH W' A fin C (x, y, gap, lv, L)) ∧ Below W.heap.size W W' := by
  refine (swept_any f sb X K rvv R A fin KN C fuel x W hF T).mono ?_
  rintro e W' ⟨rfl, ⟨lv, L, h⟩, hb⟩
  refine ⟨rfl, ?_, hb⟩
  obtain ⟨B, sv, ht, ⟨p, cv, hbk, hsp, hxD, hBx⟩, _⟩ := h.tree
  obtain ⟨ad, cap, rfl, hl⟩ := h.legs
  refine ⟨B x, (p x).la, (p x).lc, .slice ad L.length cap, L, fun w5 h5 => ?_, ad, cap, rfl, h.path, h.len, hl⟩
  have e1 : w5.heap[W.heap.size]? = W'.heap[W.heap.size]? := h5 _ (Nat.le_refl _) ht.lt
  have e2 : w5.heap[B x]? = W'.heap[B x]? := h5 _ hBx (hbk x hxD).lt
  have t5 : Blk w5 W.heap.size _ 79 := e1.trans ht
  have b5 : Blk w5 (B x) _ 83 := e2.trans (hbk x hxD)
  refine ⟨t5.cell 0 rfl, t5.cell 2 rfl, by rw [← hid]; exact b5.cell 2 rfl, b5.cell 4 rfl, b5.cell 13 rfl, fun k hk => ?_⟩
  exact (hsp w5 h5).links.cells k _ (by simp [intsV, hk])
end Go.Proofs.YtkkeffodbngibaaGreatDoor

namespace Go.Proofs.YtkkeffodbngibaaGreatDoor
open Go Go.RowKit Go.Maps
set_option maxRecDepth 100000

/-- What Chain tells. -/
def ChnP (Y : List Sp) (fin : Nat → Nod) (K : Nat → List Int) (R : List Int) (W : World) (e : Ending) (W' : World) : Prop := ∃ ad cap H, e = .returned (.slice ad H.length cap) ∧ HopsM (W.heap.size + 1) W' (spAt Y) fin (cnK fin K) (.slice ad H.length cap) H ∧ HopsR Y.length fin (spAt Y) R H ∧ (H = [] → R = []) ∧ Below W.heap.size W W'
theorem SetH.nocell {w : World} {b : Nat} {L : List Int} (h : SetH w b L) (j : Nat) : w.cell? ⟨b, j, none⟩ = none := by
  obtain ⟨D, ⟨es, clock, hb, _⟩, _⟩ := h
  simp [World.cell?, hb]
theorem infoHop_parts : ∃ i, Tryz.prog.info? 43 = some i ∧ i.zero = some (.agg #[.int .u64 0, .int .u64 0, .int .i64 0, .slice none 0 0]) ∧ i.size = 4 ∧ i.bytes = 48 := by
  have h : (Tryz.prog.info? 43).map (fun i => (i.zero, i.size, i.bytes)) = some (some (.agg #[.int .u64 0, .int .u64 0, .int .i64 0, .slice none 0 0]), 4, 48) := by kernel_rfl
  cases hi : Tryz.prog.info? 43 with
  | none => rw [hi] at h; simp at h
  | some i => rw [hi] at h; simp at h; exact ⟨i, rfl, h.1, h.2.1, h.2.2⟩
theorem src_at4 {P : Program} {tx e : TypeId} (hu : P.underlying tx = some (.slice e)) {W : World} {b : Nat} {x y z v : Value} {t : TypeId} (h : W.heap[b]? = some (.cells #[x, y, z, v] t (0, 0))) (h1 : x.oneCell' = true) (h2 : y.oneCell' = true) (h3 : z.oneCell' = true) (h4 : v.oneCell' = true) : Src P 4 tx (.slice (some ⟨b, 0, none⟩) 1 1) 1 [x, y, z, v] W := by
  refine Src.ofSlice _ hu ⟨b, 0, none⟩ 1 1 _ rfl ?_ ?_
  · intro j u hj
    match j, hj with
    | 0, hj => simp at hj; subst hj; simp [Addr.add, World.cell?, h]
    | 1, hj => simp at hj; subst hj; simp [Addr.add, World.cell?, h]
    | 2, hj => simp at hj; subst hj; simp [Addr.add, World.cell?, h]
    | 3, hj => simp at hj; subst hj; simp [Addr.add, World.cell?, h]
    | j + 4, hj => simp at hj
  · intro u hu
    simp at hu
    rcases hu with rfl | rfl | rfl | rfl <;> assumption
/-- Midway in Chain. -/
def ChI (W : World) (Y : List Sp) (fin : Nat → Nod) (K : Nat → List Int) (R : List Int) (la : Option Addr) (ll lc : Nat) (gap : Int) (fb : Nat) (b : Bool) (wr : World) : Prop := ∃ H d, H.length = ll ∧ HopsM (W.heap.size + 1) wr (spAt Y) fin (cnK fin K) (.slice la ll lc) H ∧ HopsR Y.length fin (spAt Y) R H ∧ SetH wr W.heap.size (H.map (fun h => (fin h.1).id)) ∧ Blk wr fb (ndL d).toArray 38 ∧ W.heap.size < fb ∧ ((b = true ∧ ∃ y, d = fin y ∧ NextR Y.length fin (spAt Y) R H y gap) ∨ (b = false ∧ (H = [] → R = []))) ∧ Below W.heap.size W wr
/-- A round, from its latest on. -/
def ChL (W : World) (Y : List Sp) (fin : Nat → Nod) (K : Nat → List Int) (R : List Int) (va : Option Addr) (ll vc f fb : Nat) (d : Nod) (t bx : Nat) (a : Sp) (dx : Nod) (la : Option Addr) (lc : Nat) (lv : Value) (w9 : World) : Prop :=
  TreeP w9 t bx a dx la lc lv ∧ Calls Tryz.prog 21 #[.pointer (some ⟨f, 0, none⟩), .slice la a.links.length lc, .map (some W.heap.size)] w9 fun e w10 => ∃ d' b, e = .returned (.tuple #[ndV d', .bool b]) ∧ Blk w10 fb (ndL d).toArray 38 ∧ ∀ w11, Blk w11 fb (ndL d').toArray 38 → Upd (fun k => k = fb) w10 w11 → TreeP w11 t bx a dx la lc lv ∧ W.heap.size < w11.heap.size ∧ ∀ w12 fb', Below w11.heap.size w11 w12 → Blk w12 fb' (ndL d').toArray 38 → w11.heap.size ≤ fb' → ChI W Y fin K R va (ll + 1) vc (IntKind.i64.wrap (dx.fr - d'.til)) fb' b w12
/-- A round, from its append on. -/
def ChA (W : World) (Y : List Sp) (fin : Nat → Nod) (K : Nat → List Int) (R : List Int) (la0 : Option Addr) (ll lc0 f fb : Nat) (gap : Int) (d : Nod) (t bx : Nat) (a : Sp) (dx : Nod) (la : Option Addr) (lc : Nat) (lv : Value) (xs : List Value) (w1 : World) : Prop :=
  TreeP w1 t bx a dx la lc lv ∧ Blk w1 fb (ndL d).toArray 38 ∧ (∃ a n c, lv = .slice a n c) ∧ ll < Y.length ∧ ll ≤ 1000 ∧ W.heap.size + 1 ≤ w1.heap.size ∧ (∀ u, Below w1.heap.size w1 u → u.ownsRow (W.heap.size + 1) 43 4 (.slice la0 ll lc0) ll xs) ∧ ∀ u2 u3 va vc, Below w1.heap.size w1 u2 → u2.grownBy u3 (Value.slice la0 ll lc0).ownBlock → u3.ownsRow (W.heap.size + 1) 43 4 (.slice va (ll + 1) vc) (ll + 1) (xs ++ [.int .u64 dx.id, .int .u64 d.id, .int .i64 gap, lv]) → TreeP u3 t bx a dx la lc lv ∧ ∃ w9, (Instr.mapUpdate 72 (.map (some W.heap.size)) (.int .u64 dx.id) (.agg #[])).run Tryz.prog u3 = .ok () w9 ∧ ChL W Y fin K R va ll vc f fb d t bx a dx la lc lv w9
theorem chain_round (f sb : Nat) (X : List Spot) (K : Nat → List Int) (rv : Value) (R : List Int) (Y : List Sp) (C : List Int) (dp : Nat → Nat) (fin : Nat → Nod) (W : World) (hF : ForestAt W f sb X K rv R) (hB : FoB Y C dp fin X K R) (la0 : Option Addr) (ll lc0 : Nat) (gap : Int) (fb : Nat) (wr : World) (h : ChI W Y fin K R la0 ll lc0 gap fb true wr) :
    ∃ d : Nod, Blk wr fb (ndL d).toArray 38 ∧ Calls Tryz.prog 22 #[.pointer (some ⟨f, 0, none⟩), .int .u64 d.tree] wr fun e w1 => e = .returned (.pointer (some ⟨wr.heap.size, 0, none⟩)) ∧ ∃ bx a dx la lc lv xs, ChA W Y fin K R la0 ll lc0 f fb gap d wr.heap.size bx a dx la lc lv xs w1 := by
  obtain ⟨H, d, hl, hM, hR, hS, hb, hfb, hor, hbw⟩ := h
  rcases hor with ⟨_, y, rfl, hN⟩ | ⟨e, _⟩
  · obtain ⟨x, hxR, hx, hox, htx, hty⟩ := hB.top (dp y) y rfl hN.lt
    have hidx := hB.ids x hx
    refine ⟨fin y, hb, ?_⟩
    rw [hty]
    refine (swept_tree f sb X K rv R (spAt Y) fin (knK K) (cnK fin K) 1001 x wr (hF.below hbw) (hB.senv x hx) hidx y gap).mono ?_
    rintro e w1 ⟨rfl, ⟨bx, la, lc, lv, L, hT, hLg⟩, hb1⟩
    refine ⟨rfl, bx, spAt Y x, fin x, la, lc, lv, H.flatMap (hopL fin), ?_⟩
    have hR2 : HopsR Y.length fin (spAt Y) R (H ++ [(x, y, gap, lv, L)]) := hR.snoc hN hx hox hty (fun e => hB.idInj hN.lt hx e) lv L
    have hln := hR2.len
    rw [List.length_append, List.length_singleton] at hln
    have hn1 := hB.one.len
    have hs1 := hb1.size
    have hsw := hbw.size
    have hM1 := hM.below hb1
    have ktl := hS.lt
    -- what later worlds keep
    have keep : ∀ w5, Upd (fun k => k < wr.heap.size ∨ w1.heap.size ≤ k) w1 w5 → TreeP w5 wr.heap.size bx (spAt Y x) (fin x) la lc lv := fun w5 u => hT w5 (fun j h1 h2 => u.block j h2 (by omega))
    have hone : ∃ a n c, lv = .slice a n c := by
      obtain ⟨la', cap', e, _⟩ := hLg
      exact ⟨la', _, cap', e⟩
    refine ⟨keep w1 (Upd.refl _ _), hb.below hb1 hb.lt, hone, by omega, by omega, by omega, fun u hu => ?_, fun u2 u3 va vc hu hg ho => ?_⟩
    · have := (hM1.below hu).own
      rw [hl] at this
      exact this
    · have hM2 := hM1.below hu
      have uu : Upd (fun q => (Value.slice la0 ll lc0).ownBlock = some q) u2 u3 := ⟨hg.os, hg.tape, hg.output, hg.size, fun k hk hn => hg.block k hk (fun e => hn e.symm)⟩
      have hL2 : LegH u2 (spAt Y) fin (cnK fin K) (x, y, gap, lv, L) := hLg.upd (Upd.ofBelow (S := fun _ => False) hu (fun k h1 h2 => by omega)) (fun _ _ _ h => h)
      have hown : ∀ q, (Value.slice la0 ll lc0).ownBlock = some q → W.heap.size + 1 ≤ q ∧ q < wr.heap.size := fun q e => owns_lt hM.own e
      have hM3 : HopsM (W.heap.size + 1) u3 (spAt Y) fin (cnK fin K) (.slice va (ll + 1) vc) (H ++ [(x, y, gap, lv, L)]) := hM2.more hL2 uu (by
        rw [hl, List.flatMap_append]
        simpa [hopL] using ho)
      have U3 : Upd (fun k => k < wr.heap.size ∨ w1.heap.size ≤ k) w1 u3 := (Upd.ofBelow (S := fun k => k < wr.heap.size ∨ w1.heap.size ≤ k) hu (fun k h1 h2 => by omega)).trans uu (fun k _ e => Or.inl (hown k e).2)
      have hS1 : SetH u2 W.heap.size (H.map (fun h => (fin h.1).id)) := hS.upd (Upd.ofBelow (S := fun _ => False) (hb1.trans (hu.mono hs1)) (fun k h1 h2 => by omega)) (fun h => h)
      have hS3 : SetH u3 W.heap.size (H.map (fun h => (fin h.1).id)) := hS1.upd uu (fun e => by have := hown _ e; omega)
      obtain ⟨w9, hrun, hS9, u9⟩ := hS3.add (hB.u64 x hx).1 (by rw [← hty]; exact hN.out) (by rw [List.length_map]; omega)
      refine ⟨keep u3 U3, w9, hrun, ?_⟩
      have U9 := U3.trans u9 (fun k _ e => Or.inl (by omega))
      have e9 : H.map (fun h => (fin h.1).id) ++ [(fin x).id] = (H ++ [(x, y, gap, lv, L)]).map (fun h => (fin h.1).id) := by simp
      rw [e9] at hS9
      have hM9 := hM3.upd u9 (fun k e e' => by have := (owns_lt hM3.own e).1; omega) (fun g c hc e => by rw [e, hS3.nocell] at hc; simp at hc)
      have hb9 : Below W.heap.size W w9 := ((hbw.trans (hb1.mono hsw)).trans (hu.mono (by omega))).trans ((uu.below (by have := hu.size; omega) (fun k hk e => by have := hown _ e; omega)).trans (u9.below (by have := hu.size; have := uu.size; omega) (fun k hk e => by omega)))
      have hfb9 : Blk w9 fb (ndL (fin y)).toArray 38 := by
        have q1 := (hb.below hb1 hb.lt).below hu (hb.below hb1 hb.lt).lt
        refine (q1.upd uu (fun e => row_type hM2.own q1 (by decide) e)).upd u9 (fun e => by omega)
      have hT9 := keep w9 U9
      refine ⟨hT9, ?_⟩
      have LA := latest_any f sb X K rv R la (spAt Y x).links.length lc (spAt Y x).links W.heap.size _ w9 (hF.below hb9) hT9.ids rfl (by
        have e : spAt Y x = Y[x] := by
          unfold spAt
          rw [List.getD_eq_getElem?_getD, List.getElem?_eq_getElem hx]
          rfl
        have := (chk_good (hB.one.chk Y[x] (List.getElem_mem hx))).links
        rw [e]
        omega) hS9 (fun i hi => by
        have hl := hB.fo.len
        rw [(hB.fo.each i (by omega) hi).2]
        exact (hB.u64 i (by omega)).2)
      refine LA.mono ?_
      rintro e w10 ⟨d', b, rfl, hor, hb10⟩
      have q10 := hfb9.below hb10 hfb9.lt
      refine ⟨d', b, rfl, q10, fun w11 hb11 u11 => ?_⟩
      have hs10 := hb10.size
      have U10 : Upd (fun k => k < wr.heap.size ∨ w1.heap.size ≤ k) w1 w10 := U9.trans (Upd.ofBelow (S := fun k => w9.heap.size ≤ k) hb10 (fun k h1 h2 => h2)) (fun k hk e => by have := U9.size; omega)
      have hbl := hb.lt
      have U11 := U10.trans u11 (fun k _ e => Or.inl (by omega))
      have hM10 := hM9.below hb10
      have hM11 := hM10.upd u11 (fun k e e' => row_type hM10.own q10 (by decide) (by rw [← e']; exact e)) (fun g c hc e => by
        have := q10.cell 1 (show (ndL (fin y)).toArray[1]? = some (.int .u64 (fin y).par) from rfl)
        rw [e, this] at hc
        simp at hc)
      have hS11 := (hS9.upd (Upd.ofBelow (S := fun _ => False) hb10 (fun k h1 h2 => by omega)) (fun h => h)).upd u11 (fun e => by omega)
      have hb11' : Below W.heap.size W w11 := (hb9.trans (hb10.mono hb9.size)).trans (u11.below (by have := hb9.size; omega) (fun k hk e => by omega))
      refine ⟨keep w11 U11, by have := hS11.lt; exact this, fun w12 fb' hb12 hB12 hle => ?_⟩
      refine ⟨H ++ [(x, y, gap, lv, L)], d', by simp [hl], hM11.below hb12, hR2, hS11.upd (Upd.ofBelow (S := fun _ => False) hb12 (fun k h1 h2 => by omega)) (fun h => h), hB12, by have := hS11.lt; omega, ?_, hb11'.trans (hb12.mono hb11'.size)⟩
      rcases hor with ⟨rfl, hd, _⟩ | ⟨rfl, _, _⟩
      · obtain ⟨y', e, hN'⟩ := next_step hB (spAt Y) (k := (x, y, gap, lv, L)) hd
        subst e
        exact Or.inl ⟨rfl, y', rfl, hN'⟩
      · exact Or.inr ⟨rfl, fun e => absurd e (by simp)⟩
  · cases e
end Go.Proofs.YtkkeffodbngibaaGreatDoor
