/-
  Merged: PA, PT.
-/
import Derived.Test.YtnffedmcblbkoaaGreatDoorSOq
namespace Go.Proofs.YtnffedmcblbkoaaGreatDoor
open Go Go.RowKit
set_option maxRecDepth 100000
def untM (d : Nod) (to : Int) : Int := min d.til to
def outM (a b : Nod) (to : Int) : Bool := decide (untM b to < untM a to) || (decide (untM a to = untM b to) && decide (a.id < b.id))
def pickA (fin : Nat → Nod) (to : Int) (last : Option Nat) (c : Nat) : Option Nat :=
 if (fin c).fr < to then
  match last with
  | none => some c
  | some l => if outM (fin c) (fin l) to = true then some c else some l
 else last
def awaitM (fin : Nat → Nod) (to : Int) (C : List Nat) : Option Nat := C.foldl (pickA fin to) none
theorem awaitM_take (fin : Nat → Nod) (to : Int) (C : List Nat) (i : Nat) (hi : i < C.length) : awaitM fin to (C.take (i + 1)) = pickA fin to (awaitM fin to (C.take i)) C[i] := by
 unfold awaitM
 rw [List.take_succ_eq_append_getElem hi, List.foldl_append]
 rfl
theorem foldA (fin : Nat → Nod) (to : Int) : ∀ (C : List Nat) (last : Option Nat) (D : List Nat), (∀ c, last = some c → c ∈ D ∧ (fin c).fr < to) → (∀ x ∈ D, (fin x).fr < to → ∃ c, last = some c ∧ untM (fin x) to ≤ untM (fin c) to ∧ (untM (fin x) to = untM (fin c) to → (fin c).id ≤ (fin x).id)) →
  (∀ c, C.foldl (pickA fin to) last = some c → c ∈ D ++ C ∧ (fin c).fr < to) ∧ (∀ x ∈ D ++ C, (fin x).fr < to → ∃ c, C.foldl (pickA fin to) last = some c ∧ untM (fin x) to ≤ untM (fin c) to ∧ (untM (fin x) to = untM (fin c) to → (fin c).id ≤ (fin x).id))
 | [], last, D, h1, h2 => by
  simp only [List.foldl_nil, List.append_nil]
  exact ⟨h1, h2⟩
 | y :: r, last, D, h1, h2 => by
  rw [List.foldl_cons]
  have := foldA fin to r (pickA fin to last y) (D ++ [y]) (fun c hc => ?_) (fun x hx hxt => ?_)
  ·simpa using this
  ·unfold pickA at hc
   by_cases hy : (fin y).fr < to
   ·rw [if_pos hy] at hc
    cases last with
    | none => simp at hc; subst hc; exact ⟨by simp, hy⟩
    | some l =>
     simp only at hc
     by_cases ho : outM (fin y) (fin l) to = true
     ·rw [if_pos ho] at hc; simp at hc; subst hc; exact ⟨by simp, hy⟩
     ·rw [if_neg ho] at hc; simp at hc; subst hc; exact ⟨List.mem_append_left _ (h1 _ rfl).1, (h1 _ rfl).2⟩
   ·rw [if_neg hy] at hc
    exact ⟨List.mem_append_left _ (h1 _ hc).1, (h1 _ hc).2⟩
  ·rcases List.mem_append.1 hx with hx | hx
   ·obtain ⟨c, rfl, h3, h4⟩ := h2 x hx hxt
    unfold pickA
    by_cases hy : (fin y).fr < to
    ·rw [if_pos hy]
     simp only
     by_cases ho : outM (fin y) (fin c) to = true
     ·rw [if_pos ho]
      unfold outM at ho
      simp at ho
      exact ⟨y, rfl, by omega, by omega⟩
     ·rw [if_neg ho]
      exact ⟨c, rfl, h3, h4⟩
    ·rw [if_neg hy]
     exact ⟨c, rfl, h3, h4⟩
   ·simp at hx
    subst hx
    unfold pickA
    rw [if_pos hxt]
    cases last with
    | none => exact ⟨x, rfl, Int.le_refl _, fun _ => Int.le_refl _⟩
    | some l =>
     simp only
     by_cases ho : outM (fin x) (fin l) to = true
     ·rw [if_pos ho]
      exact ⟨x, rfl, Int.le_refl _, fun _ => Int.le_refl _⟩
     ·rw [if_neg ho]
      unfold outM at ho
      simp at ho
      exact ⟨l, rfl, by omega, by omega⟩
theorem awaitM_some {fin : Nat → Nod} {to : Int} {C : List Nat} {c : Nat} (h : awaitM fin to C = some c) : c ∈ C ∧ (fin c).fr < to ∧ ∀ x ∈ C, (fin x).fr < to → untM (fin x) to ≤ untM (fin c) to ∧ (untM (fin x) to = untM (fin c) to → (fin c).id ≤ (fin x).id) := by
 obtain ⟨h1, h2⟩ := foldA fin to C none [] (fun c hc => by cases hc) (fun x hx => by cases hx)
 obtain ⟨h3, h4⟩ := h1 c h
 refine ⟨by simpa using h3, h4, fun x hx hxt => ?_⟩
 obtain ⟨c', h5, h6⟩ := h2 x (by simpa using hx) hxt
 have : c = c' := Option.some.inj (h.symm.trans h5)
 subst this
 exact h6
theorem awaitM_none {fin : Nat → Nod} {to : Int} {C : List Nat} (h : awaitM fin to C = none) : ∀ x ∈ C, to ≤ (fin x).fr := fun x hx => by
 obtain ⟨_, h2⟩ := foldA fin to C none [] (fun c hc => by cases hc) (fun x hx => by cases hx)
 by_cases hxt : (fin x).fr < to
 ·obtain ⟨c', h5, _⟩ := h2 x (by simpa using hx) hxt
  have h' : awaitM fin to C = some c' := h5
  rw [h] at h'
  cases h'
 ·omega
def hangM (s : Nat) (a b : Int) : List (Nat × Int × Int) := if a < b then [(s, a, b)] else []
def PathR (fin : Nat → Nod) (C : Nat → List Nat) (s0 : Nat) (t0 : Int) (L0 : List (Nat × Int × Int)) : Prop :=
 ∀ P : Nat → Int → List (Nat × Int × Int) → Prop, (∀ s tt, tt ≤ (fin s).fr → P s tt []) → (∀ s tt, (fin s).fr < tt → awaitM fin tt (C s) = none → P s tt [(s, (fin s).fr, tt)]) → (∀ s tt c L M, (fin s).fr < tt → awaitM fin tt (C s) = some c → P c (untM (fin c) tt) L → P s (fin c).fr M → P s tt (hangM s (untM (fin c) tt) tt ++ L ++ M)) → P s0 t0 L0
theorem PathR.stop {fin : Nat → Nod} {C : Nat → List Nat} {s : Nat} {tt : Int} (h : tt ≤ (fin s).fr) : PathR fin C s tt [] := fun _ h1 _ _ => h1 s tt h
theorem PathR.own {fin : Nat → Nod} {C : Nat → List Nat} {s : Nat} {tt : Int} (h : (fin s).fr < tt) (ha : awaitM fin tt (C s) = none) : PathR fin C s tt [(s, (fin s).fr, tt)] := fun _ _ h2 _ => h2 s tt h ha
theorem PathR.via {fin : Nat → Nod} {C : Nat → List Nat} {s : Nat} {tt : Int} {c : Nat} {L M : List (Nat × Int × Int)} (h : (fin s).fr < tt) (ha : awaitM fin tt (C s) = some c) (p1 : PathR fin C c (untM (fin c) tt) L) (p2 : PathR fin C s (fin c).fr M) : PathR fin C s tt (hangM s (untM (fin c) tt) tt ++ L ++ M) := fun P h1 h2 h3 => h3 s tt c L M h ha (p1 P h1 h2 h3) (p2 P h1 h2 h3)
theorem PathR.ind {fin : Nat → Nod} {C : Nat → List Nat} {motive : (s : Nat) → (tt : Int) → (L : List (Nat × Int × Int)) → PathR fin C s tt L → Prop} (stop : ∀ {s : Nat} {tt : Int} (h : tt ≤ (fin s).fr), motive s tt [] (.stop h)) (own : ∀ {s : Nat} {tt : Int} (h : (fin s).fr < tt) (ha : awaitM fin tt (C s) = none), motive s tt [(s, (fin s).fr, tt)] (.own h ha)) (via : ∀ {s : Nat} {tt : Int} {c : Nat} {L M : List (Nat × Int × Int)} (h : (fin s).fr < tt) (ha : awaitM fin tt (C s) = some c) (p1 : PathR fin C c (untM (fin c) tt) L) (p2 : PathR fin C s (fin c).fr M), motive c (untM (fin c) tt) L p1 → motive s (fin c).fr M p2 → motive s tt (hangM s (untM (fin c) tt) tt ++ L ++ M) (.via h ha p1 p2)) {s : Nat} {tt : Int} {L : List (Nat × Int × Int)} (h : PathR fin C s tt L) : motive s tt L h :=
 (h (fun s tt L => ∃ hp : PathR fin C s tt L, motive s tt L hp) (fun _ _ h => ⟨.stop h, stop h⟩) (fun _ _ h ha => ⟨.own h ha, own h ha⟩) (fun _ _ _ _ _ h ha i1 i2 => ⟨.via h ha i1.1 i2.1, via h ha i1.1 i2.1 i1.2 i2.2⟩)).2
theorem PathR.inv {fin : Nat → Nod} {C : Nat → List Nat} {s : Nat} {tt : Int} {L : List (Nat × Int × Int)} (h : PathR fin C s tt L) : (tt ≤ (fin s).fr ∧ L = []) ∨ ((fin s).fr < tt ∧ awaitM fin tt (C s) = none ∧ L = [(s, (fin s).fr, tt)]) ∨ ∃ c L1 M, (fin s).fr < tt ∧ awaitM fin tt (C s) = some c ∧ PathR fin C c (untM (fin c) tt) L1 ∧ PathR fin C s (fin c).fr M ∧ L = hangM s (untM (fin c) tt) tt ++ L1 ++ M := by
 induction h using PathR.ind with
 | stop h => exact Or.inl ⟨h, rfl⟩
 | own h ha => exact Or.inr (Or.inl ⟨h, ha, rfl⟩)
 | via h ha p1 p2 _ _ => exact Or.inr (Or.inr ⟨_, _, _, h, ha, p1, p2, rfl⟩)
theorem PathR.one {fin : Nat → Nod} {C : Nat → List Nat} {s : Nat} {tt : Int} {L : List (Nat × Int × Int)} (h : PathR fin C s tt L) : ∀ M, PathR fin C s tt M → M = L := by
 induction h using PathR.ind with
 | stop h =>
  intro M h'
  rcases h'.inv with ⟨_, e⟩ | ⟨h1, _⟩ | ⟨_, _, _, h1, _⟩
  ·exact e
  ·omega
  ·omega
 | own h ha =>
  intro M h'
  rcases h'.inv with ⟨h1, _⟩ | ⟨_, _, e⟩ | ⟨_, _, _, _, h2, _⟩
  ·omega
  ·exact e
  ·rw [ha] at h2; cases h2
 | via h ha _ _ i1 i2 =>
  intro M h'
  rcases h'.inv with ⟨h1, _⟩ | ⟨_, h2, _⟩ | ⟨_, _, _, _, h2, h3, h4, e⟩
  ·omega
  ·rw [ha] at h2; cases h2
  ·have e' := Option.some.inj (ha.symm.trans h2)
   subst e'
   rw [e, i1 _ h3, i2 _ h4]
def szN (C : Nat → List Nat) : Nat → Nat → Nat
 | 0, _ => 0
 | fu + 1, x => 1 + ((C x).map (szN C fu)).sum
def potN (fin : Nat → Nod) (g : Nat → Nat) (to : Int) (L : List Nat) : Nat := ((L.filter (fun c => decide ((fin c).fr < to))).map g).sum
theorem potN_le (fin : Nat → Nod) (g : Nat → Nat) (to : Int) : ∀ L : List Nat, potN fin g to L ≤ (L.map g).sum
 | [] => by simp [potN]
 | x :: r => by
  have := potN_le fin g to r
  unfold potN at *
  by_cases h : (fin x).fr < to
  ·simp only [List.filter_cons, decide_eq_true h, if_true, List.map_cons, List.sum_cons]; omega
  ·simp only [List.filter_cons, decide_eq_false h, List.map_cons, List.sum_cons]; simp; omega
theorem potN_mono (fin : Nat → Nod) (g : Nat → Nat) {a b : Int} (hab : a ≤ b) : ∀ L : List Nat, potN fin g a L ≤ potN fin g b L
 | [] => by simp [potN]
 | x :: r => by
  have := potN_mono fin g hab r
  unfold potN at *
  by_cases h : (fin x).fr < a
  ·simp only [List.filter_cons, decide_eq_true h, decide_eq_true (show (fin x).fr < b by omega), if_true, List.map_cons, List.sum_cons]; omega
  ·by_cases h' : (fin x).fr < b
   ·simp only [List.filter_cons, decide_eq_false h, decide_eq_true h', if_true, List.map_cons, List.sum_cons]; simp; omega
   ·simp only [List.filter_cons, decide_eq_false h, decide_eq_false h']; simpa using this
theorem potN_less (fin : Nat → Nod) (g : Nat → Nat) (to : Int) (c : Nat) (hc : (fin c).fr < to) : ∀ L : List Nat, c ∈ L → potN fin g (fin c).fr L + g c ≤ potN fin g to L
 | [], h => by cases h
 | x :: r, h => by
  by_cases e : x = c
  ·subst e
   have := potN_mono fin g (show (fin x).fr ≤ to by omega) r
   unfold potN at *
   simp only [List.filter_cons, decide_eq_false (show ¬ (fin x).fr < (fin x).fr by omega), decide_eq_true hc, if_true, List.map_cons, List.sum_cons]
   simp
   omega
  ·have hr : c ∈ r := by
    rcases List.mem_cons.1 h with h | h
    ·exact absurd h.symm e
    ·exact h
   have := potN_less fin g to c hc r hr
   unfold potN at *
   by_cases h1 : (fin x).fr < (fin c).fr
   ·simp only [List.filter_cons, decide_eq_true h1, decide_eq_true (show (fin x).fr < to by omega), if_true, List.map_cons, List.sum_cons]; omega
   ·by_cases h2 : (fin x).fr < to
    ·simp only [List.filter_cons, decide_eq_false h1, decide_eq_true h2, if_true, List.map_cons, List.sum_cons]; simp; omega
    ·simp only [List.filter_cons, decide_eq_false h1, decide_eq_false h2]; simpa using this
abbrev LegN := Nat × Int × Int
def TileR (lo : Int) : Int → List LegN → Prop
 | hi, [] => hi = lo
 | hi, (_, a, b) :: r => b = hi ∧ a < b ∧ TileR lo a r
theorem TileR.app {lo m : Int} : ∀ (hi : Int) (L M : List LegN), TileR m hi L → TileR lo m M → TileR lo hi (L ++ M)
 | hi, [], M, h1, h2 => by
  have e : hi = m := h1
  rw [e]
  exact h2
 | hi, (_, a, b) :: r, M, h1, h2 => ⟨h1.1, h1.2.1, TileR.app a r M h1.2.2 h2⟩
def TileF (hi : Int) : Int → List LegN → Prop
 | lo, [] => lo = hi
 | lo, (_, a, b) :: r => a = lo ∧ a < b ∧ TileF hi b r
theorem TileF.snoc {hi m : Int} : ∀ (lo : Int) (L : List LegN) (y : Nat), TileF m lo L → m < hi → TileF hi lo (L ++ [(y, m, hi)])
 | _, [], _, h, hm => ⟨h.symm, hm, rfl⟩
 | _, (_, _, b) :: r, y, h, hm => ⟨h.1, h.2.1, TileF.snoc b r y h.2.2 hm⟩
theorem TileR.rev {lo : Int} : ∀ (hi : Int) (L : List LegN), TileR lo hi L → TileF hi lo L.reverse
 | hi, [], h => by
  have e : hi = lo := h
  exact e.symm
 | hi, (y, a, b) :: r, h => by
  rw [List.reverse_cons]
  have e : b = hi := h.1
  subst e
  exact (TileR.rev a r h.2.2).snoc _ _ y h.2.1
def AdjN : List LegN → Prop
 | x :: y :: r => x.1 ≠ y.1 ∧ AdjN (y :: r)
 | _ => True
theorem AdjN.app : ∀ (L M : List LegN), AdjN L → AdjN M → (∀ x y, L.getLast? = some x → M.head? = some y → x.1 ≠ y.1) → AdjN (L ++ M)
 | [], M, _, h2, _ => h2
 | [x], M, _, h2, h3 => by
  cases M with
  | nil => trivial
  | cons y r => exact ⟨h3 x y rfl rfl, h2⟩
 | x :: y :: r, M, h1, h2, h3 => ⟨h1.1, AdjN.app (y :: r) M h1.2 h2 (fun u v hu hv => h3 u v (by rw [← hu]; simp [List.getLast?_cons_cons]) hv)⟩
theorem AdjN.rev : ∀ (L : List LegN), AdjN L → AdjN L.reverse
 | [], _ => trivial
 | [x], _ => trivial
 | x :: y :: r, h => by
  rw [List.reverse_cons]
  refine AdjN.app _ _ (AdjN.rev (y :: r) h.2) trivial (fun u v hu hv => ?_)
  rw [List.getLast?_reverse] at hu
  simp at hu hv
  subst hu hv
  exact fun e => h.1 e.symm
theorem AdjN.at_ : ∀ (L : List LegN), AdjN L → ∀ k (h : k + 1 < L.length), (L[k]'(by omega)).1 ≠ L[k + 1].1
 | [], _, k, h => by simp at h
 | [x], _, k, h => by simp at h
 | x :: y :: r, hA, 0, h => hA.1
 | x :: y :: r, hA, k + 1, h => AdjN.at_ (y :: r) hA.2 k (by simpa using h)
def BelN (C : Nat → List Nat) (s0 y0 : Nat) : Prop := ∀ P : Nat → Nat → Prop, (∀ s, P s s) → (∀ s c y, c ∈ C s → P c y → P s y) → P s0 y0
theorem BelN.here {C : Nat → List Nat} {s : Nat} : BelN C s s := fun _ h1 _ => h1 s
theorem BelN.down {C : Nat → List Nat} {s c y : Nat} (hc : c ∈ C s) (h : BelN C c y) : BelN C s y := fun P h1 h2 => h2 s c y hc (h P h1 h2)
theorem BelN.ind {C : Nat → List Nat} {motive : (s y : Nat) → BelN C s y → Prop} (here : ∀ {s : Nat}, motive s s .here) (down : ∀ {s c y : Nat} (hc : c ∈ C s) (h : BelN C c y), motive c y h → motive s y (.down hc h)) {s y : Nat} (h : BelN C s y) : motive s y h :=
 (h (fun s y => ∃ hp : BelN C s y, motive s y hp) (fun _ => ⟨.here, here⟩) (fun _ _ _ hc i => ⟨.down hc i.1, down hc i.1 i.2⟩)).2
structure NestN (fin : Nat → Nod) (C : Nat → List Nat) (T : Nat → Prop) : Prop where
 sub : ∀ s, T s → ∀ c ∈ C s, T c
 inn : ∀ s, T s → ∀ c ∈ C s, (fin s).fr ≤ (fin c).fr ∧ (fin c).til ≤ (fin s).til ∧ (fin c).fr < (fin c).til
 no : ∀ s, T s → ∀ c ∈ C s, ¬ BelN C c s
 apart : ∀ s, T s → ∀ c ∈ C s, ∀ d ∈ C s, c ≠ d → ∀ y, BelN C c y → ¬ BelN C d y
def GoodL (fin : Nat → Nod) (C : Nat → List Nat) (l : LegN) : Prop := (fin l.1).fr ≤ l.2.1 ∧ l.2.2 ≤ (fin l.1).til ∧ ∀ c ∈ C l.1, ¬ ((fin c).fr < l.2.2 ∧ l.2.1 < (fin c).til)
theorem hangM_mem {s : Nat} {a b : Int} {l : LegN} (h : l ∈ hangM s a b) : l = (s, a, b) ∧ a < b := by
 unfold hangM at h
 by_cases e : a < b
 ·rw [if_pos e] at h; simp at h; exact ⟨h, e⟩
 ·rw [if_neg e] at h; cases h
theorem PathR.bel {fin : Nat → Nod} {C : Nat → List Nat} {s : Nat} {to : Int} {L : List LegN} (h : PathR fin C s to L) : ∀ l ∈ L, BelN C s l.1 := by
 induction h using PathR.ind with
 | stop _ => intro l hl; cases hl
 | own _ _ => intro l hl; simp at hl; subst hl; exact .here
 | via h1 ha _ _ i1 i2 =>
  intro l hl
  rcases List.mem_append.1 hl with hl | hl
  ·rcases List.mem_append.1 hl with hl | hl
   ·obtain ⟨rfl, _⟩ := hangM_mem hl; exact .here
   ·exact .down (awaitM_some ha).1 (i1 l hl)
  ·exact i2 l hl
theorem PathR.head {fin : Nat → Nod} {C : Nat → List Nat} {s : Nat} {to : Int} {L : List LegN} (h : PathR fin C s to L) : ∀ l, L.head? = some l → l.1 = s ∨ ∃ c ∈ C s, (fin c).fr < to ∧ BelN C c l.1 := by
 induction h using PathR.ind with
 | stop _ => intro l hl; cases hl
 | own _ _ => intro l hl; simp at hl; subst hl; exact Or.inl rfl
 | @via s to c L M h1 ha p1 _ i1 i2 =>
  intro l hl
  obtain ⟨a1, a2, _⟩ := awaitM_some ha
  unfold hangM at hl
  by_cases e : untM (fin c) to < to
  ·rw [if_pos e] at hl; simp at hl; subst hl; exact Or.inl rfl
  ·rw [if_neg e, List.nil_append] at hl
   cases L with
   | nil =>
    rcases i2 l hl with h | ⟨d, d1, d2, d3⟩
    ·exact Or.inl h
    ·exact Or.inr ⟨d, d1, by omega, d3⟩
   | cons x r =>
    simp at hl
    subst hl
    exact Or.inr ⟨c, a1, a2, p1.bel x (by simp)⟩
theorem PathR.tiles {fin : Nat → Nod} {C : Nat → List Nat} {T : Nat → Prop} (N : NestN fin C T) {s : Nat} {to : Int} {L : List LegN} (h : PathR fin C s to L) : T s → (fin s).fr ≤ to → to ≤ (fin s).til → TileR (fin s).fr to L ∧ AdjN L ∧ ∀ l ∈ L, GoodL fin C l := by
 induction h using PathR.ind with
 | stop h => intro hT h1 h2; exact ⟨by show _ = _; omega, trivial, fun l hl => by cases hl⟩
 | @own s to h ha =>
  intro hT h1 h2
  refine ⟨⟨rfl, h, rfl⟩, trivial, fun l hl => ?_⟩
  simp at hl
  subst hl
  exact ⟨Int.le_refl _, h2, fun c hc h3 => by have := awaitM_none ha c hc; simp at h3; omega⟩
 | @via s to c L M h ha p1 p2 i1 i2 =>
  intro hT h1 h2
  obtain ⟨a1, a2, a3⟩ := awaitM_some ha
  obtain ⟨n1, n2, n3⟩ := N.inn s hT c a1
  have e1 : untM (fin c) to = min (fin c).til to := rfl
  obtain ⟨t1, t2, t3⟩ := i1 (N.sub s hT c a1) (by omega) (by omega)
  obtain ⟨u1, u2, u3⟩ := i2 hT n1 (by omega)
  have hL : L ≠ [] := fun e => by
   rw [e] at t1
   have : untM (fin c) to = (fin c).fr := t1
   omega
  refine ⟨?_, ?_, fun l hl => ?_⟩
  ·refine TileR.app _ _ _ ?_ u1
   unfold hangM
   by_cases e : untM (fin c) to < to
   ·rw [if_pos e]; exact ⟨rfl, e, t1⟩
   ·rw [if_neg e]
    have e2 : untM (fin c) to = to := by omega
    rw [e2] at t1
    exact t1
  ·refine AdjN.app _ _ ?_ u2 (fun x y hx hy => ?_)
   ·refine AdjN.app _ _ ?_ t2 (fun x y hx hy => ?_)
    ·unfold hangM
     by_cases e : untM (fin c) to < to
     ·rw [if_pos e]; trivial
     ·rw [if_neg e]; trivial
    ·obtain ⟨rfl, _⟩ := hangM_mem (List.mem_of_getLast? hx)
     intro e
     have := p1.bel y (List.mem_of_head? hy)
     rw [← e] at this
     exact N.no s hT c a1 this
   ·have hxL : x ∈ L := by
     rw [List.getLast?_append] at hx
     cases hg : L.getLast? with
     | none => exact absurd (List.getLast?_eq_none_iff.1 hg) hL
     | some z =>
      rw [hg] at hx
      simp at hx
      subst hx
      exact List.mem_of_getLast? hg
    have hb := p1.bel x hxL
    intro e
    rcases p2.head y hy with h | ⟨d, d1, d2, d3⟩
    ·rw [e, h] at hb
     exact N.no s hT c a1 hb
    ·rw [e] at hb
     exact N.apart s hT c a1 d d1 (fun e => by subst e; omega) _ hb d3
  ·rcases List.mem_append.1 hl with hl | hl
   ·rcases List.mem_append.1 hl with hl | hl
    ·obtain ⟨rfl, e⟩ := hangM_mem hl
     refine ⟨by simp; omega, h2, fun d hd h3 => ?_⟩
     simp at h3
     have := (a3 d hd h3.1).1
     have e2 : untM (fin d) to = min (fin d).til to := rfl
     omega
    ·exact t3 l hl
   ·exact u3 l hl
end Go.Proofs.YtnffedmcblbkoaaGreatDoor
