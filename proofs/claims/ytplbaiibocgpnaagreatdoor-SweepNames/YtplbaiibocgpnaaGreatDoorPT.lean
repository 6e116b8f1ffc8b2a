/-
  PT.
-/
import Derived.Test.YtplbaiibocgpnaaGreatDoorMa09
namespace Go.Proofs.YtplbaiibocgpnaaGreatDoor
open Go Go.RowKit
set_option maxRecDepth 100000

abbrev LegN := Nat × Int × Int
/-- Legs, the last one first, that fill what is between two moments. -/
def TileR (lo : Int) : Int → List LegN → Prop
  | hi, [] => hi = lo
  | hi, (_, a, b) :: r => b = hi ∧ a < b ∧ TileR lo a r
theorem TileR.app {lo m : Int} : ∀ (hi : Int) (L M : List LegN), TileR m hi L → TileR lo m M → TileR lo hi (L ++ M)
  | hi, [], M, h1, h2 => by
    have e : hi = m := h1
    rw [e]
    exact h2
  | hi, (_, a, b) :: r, M, h1, h2 => ⟨h1.1, h1.2.1, TileR.app a r M h1.2.2 h2⟩
/-- Legs in the order of time that fill what is between two moments. -/
def TileF (hi : Int) : Int → List LegN → Prop
  | lo, [] => lo = hi
  | lo, (_, a, b) :: r => a = lo ∧ a < b ∧ TileF hi b r
theorem TileF.snoc {hi m : Int} : ∀ (lo : Int) (L : List LegN) (y : Nat), TileF m lo L → m < hi → TileF hi lo (L ++ [(y, m, hi)])
  | _, [], _, h, hm => ⟨h.symm, hm, rfl⟩
  | _, (_, _, b) :: r, y, h, hm => ⟨h.1, h.2.1, TileF.snoc b r y h.2.2 hm⟩
theorem TileR.rev {lo : Int} : ∀ (hi : Int) (L : List LegN), TileR lo hi L → TileF hi lo L.reverse
  | hi, [], h => by
    have e : hi = lo := h
    exact e.symm
  | hi, (y, a, b) :: r, h => by
    rw [List.reverse_cons]
    have e : b = hi := h.1
    subst e
    exact (TileR.rev a r h.2.2).snoc _ _ y h.2.1
/-- No two neighbours are of one span. -/
def AdjN : List LegN → Prop
  | x :: y :: r => x.1 ≠ y.1 ∧ AdjN (y :: r)
  | _ => True
theorem AdjN.app : ∀ (L M : List LegN), AdjN L → AdjN M → (∀ x y, L.getLast? = some x → M.head? = some y → x.1 ≠ y.1) → AdjN (L ++ M)
  | [], M, _, h2, _ => h2
  | [x], M, _, h2, h3 => by
    cases M with
    | nil => trivial
    | cons y r => exact ⟨h3 x y rfl rfl, h2⟩
  | x :: y :: r, M, h1, h2, h3 => ⟨h1.1, AdjN.app (y :: r) M h1.2 h2 (fun u v hu hv => h3 u v (by rw [← hu]; simp [List.getLast?_cons_cons]) hv)⟩
theorem AdjN.rev : ∀ (L : List LegN), AdjN L → AdjN L.reverse
  | [], _ => trivial
  | [x], _ => trivial
  | x :: y :: r, h => by
    rw [List.reverse_cons]
    refine AdjN.app _ _ (AdjN.rev (y :: r) h.2) trivial (fun u v hu hv => ?_)
    rw [List.getLast?_reverse] at hu
    simp at hu hv
    subst hu hv
    exact fun e => h.1 e.symm
theorem AdjN.at_ : ∀ (L : List LegN), AdjN L → ∀ k (h : k + 1 < L.length), (L[k]'(by omega)).1 ≠ L[k + 1].1
  | [], _, k, h => by simp at h
  | [x], _, k, h => by simp at h
  | x :: y :: r, hA, 0, h => hA.1
  | x :: y :: r, hA, k + 1, h => AdjN.at_ (y :: r) hA.2 k (by simpa using h)
/-- It is a span, or beneath it. -/
def BelN (C : Nat → List Nat) (s0 y0 : Nat) : Prop := ∀ P : Nat → Nat → Prop, (∀ s, P s s) → (∀ s c y, c ∈ C s → P c y → P s y) → P s0 y0
theorem BelN.here {C : Nat → List Nat} {s : Nat} : BelN C s s := fun _ h1 _ => h1 s
theorem BelN.down {C : Nat → List Nat} {s c y : Nat} (hc : c ∈ C s) (h : BelN C c y) : BelN C s y := fun P h1 h2 => h2 s c y hc (h P h1 h2)
theorem BelN.ind {C : Nat → List Nat} {motive : (s y : Nat) → BelN C s y → Prop} (here : ∀ {s : Nat}, motive s s .here) (down : ∀ {s c y : Nat} (hc : c ∈ C s) (h : BelN C c y), motive c y h → motive s y (.down hc h)) {s y : Nat} (h : BelN C s y) : motive s y h :=
  (h (fun s y => ∃ hp : BelN C s y, motive s y hp) (fun _ => ⟨.here, here⟩) (fun _ _ _ hc i => ⟨.down hc i.1, down hc i.1 i.2⟩)).2
theorem BelN.inv {C : Nat → List Nat} {s y : Nat} (h : BelN C s y) : y = s ∨ ∃ c, c ∈ C s ∧ BelN C c y := by
  induction h using BelN.ind with
  | here => exact Or.inl rfl
  | down hc h _ => exact Or.inr ⟨_, hc, h⟩
/-- What a path stands on: who is beneath whom, whose intervals lie within whose. -/
structure NestN (fin : Nat → Nod) (C : Nat → List Nat) (T : Nat → Prop) : Prop where
  sub : ∀ s, T s → ∀ c ∈ C s, T c
  inn : ∀ s, T s → ∀ c ∈ C s, (fin s).fr ≤ (fin c).fr ∧ (fin c).til ≤ (fin s).til ∧ (fin c).fr < (fin c).til
  no : ∀ s, T s → ∀ c ∈ C s, ¬ BelN C c s
  apart : ∀ s, T s → ∀ c ∈ C s, ∀ d ∈ C s, c ≠ d → ∀ y, BelN C c y → ¬ BelN C d y
/-- A leg lies in its owner's interval, and in none of its children's. -/
def GoodL (fin : Nat → Nod) (C : Nat → List Nat) (l : LegN) : Prop := (fin l.1).fr ≤ l.2.1 ∧ l.2.2 ≤ (fin l.1).til ∧ ∀ c ∈ C l.1, ¬ ((fin c).fr < l.2.2 ∧ l.2.1 < (fin c).til)
theorem hangM_mem {s : Nat} {a b : Int} {l : LegN} (h : l ∈ hangM s a b) : l = (s, a, b) ∧ a < b := by
  unfold hangM at h
  by_cases e : a < b
  · rw [if_pos e] at h; simp at h; exact ⟨h, e⟩
  · rw [if_neg e] at h; cases h
theorem PathR.bel {fin : Nat → Nod} {C : Nat → List Nat} {s : Nat} {to : Int} {L : List LegN} (h : PathR fin C s to L) : ∀ l ∈ L, BelN C s l.1 := by
  induction h using PathR.ind with
  | stop _ => intro l hl; cases hl
  | own _ _ => intro l hl; simp at hl; subst hl; exact .here
  | via h1 ha _ _ i1 i2 =>
    intro l hl
    rcases List.mem_append.1 hl with hl | hl
    · rcases List.mem_append.1 hl with hl | hl
      · obtain ⟨rfl, _⟩ := hangM_mem hl; exact .here
      · exact .down (awaitM_some ha).1 (i1 l hl)
    · exact i2 l hl
theorem PathR.head {fin : Nat → Nod} {C : Nat → List Nat} {s : Nat} {to : Int} {L : List LegN} (h : PathR fin C s to L) : ∀ l, L.head? = some l → l.1 = s ∨ ∃ c ∈ C s, (fin c).fr < to ∧ BelN C c l.1 := by
  induction h using PathR.ind with
  | stop _ => intro l hl; cases hl
  | own _ _ => intro l hl; simp at hl; subst hl; exact Or.inl rfl
  | @via s to c L M h1 ha p1 _ i1 i2 =>
    intro l hl
    obtain ⟨a1, a2, _⟩ := awaitM_some ha
    unfold hangM at hl
    by_cases e : untM (fin c) to < to
    · rw [if_pos e] at hl; simp at hl; subst hl; exact Or.inl rfl
    · rw [if_neg e, List.nil_append] at hl
      cases L with
      | nil =>
        rcases i2 l hl with h | ⟨d, d1, d2, d3⟩
        · exact Or.inl h
        · exact Or.inr ⟨d, d1, by omega, d3⟩
      | cons x r =>
        simp at hl
        subst hl
        exact Or.inr ⟨c, a1, a2, p1.bel x (by simp)⟩
theorem PathR.tiles {fin : Nat → Nod} {C : Nat → List Nat} {T : Nat → Prop} (N : NestN fin C T) {s : Nat} {to : Int} {L : List LegN} (h : PathR fin C s to L) : T s → (fin s).fr ≤ to → to ≤ (fin s).til → TileR (fin s).fr to L ∧ AdjN L ∧ ∀ l ∈ L, GoodL fin C l := by
  induction h using PathR.ind with
  | stop h => intro hT h1 h2; exact ⟨by show _ = _; omega, trivial, fun l hl => by cases hl⟩
  | @own s to h ha =>
    intro hT h1 h2
    refine ⟨⟨rfl, h, rfl⟩, trivial, fun l hl => ?_⟩
    simp at hl
    subst hl
    exact ⟨Int.le_refl _, h2, fun c hc h3 => by have := awaitM_none ha c hc; simp at h3; omega⟩
  | @via s to c L M h ha p1 p2 i1 i2 =>
    intro hT h1 h2
    obtain ⟨a1, a2, a3⟩ := awaitM_some ha
    obtain ⟨n1, n2, n3⟩ := N.inn s hT c a1
    have e1 : untM (fin c) to = min (fin c).til to := rfl
    obtain ⟨t1, t2, t3⟩ := i1 (N.sub s hT c a1) (by omega) (by omega)
    obtain ⟨u1, u2, u3⟩ := i2 hT n1 (by omega)
    have hL : L ≠ [] := fun e => by
      rw [e] at t1
      have : untM (fin c) to = (fin c).fr := t1
      omega
    refine ⟨?_, ?_, fun l hl => ?_⟩
    · refine TileR.app _ _ _ ?_ u1
      unfold hangM
      by_cases e : untM (fin c) to < to
      · rw [if_pos e]; exact ⟨rfl, e, t1⟩
      · rw [if_neg e]
        have e2 : untM (fin c) to = to := by omega
        rw [e2] at t1
        exact t1
    · refine AdjN.app _ _ ?_ u2 (fun x y hx hy => ?_)
      · refine AdjN.app _ _ ?_ t2 (fun x y hx hy => ?_)
        · unfold hangM
          by_cases e : untM (fin c) to < to
          · rw [if_pos e]; trivial
          · rw [if_neg e]; trivial
        · obtain ⟨rfl, _⟩ := hangM_mem (List.mem_of_getLast? hx)
          intro e
          have := p1.bel y (List.mem_of_head? hy)
          rw [← e] at this
          exact N.no s hT c a1 this
      · have hxL : x ∈ L := by
          rw [List.getLast?_append] at hx
          cases hg : L.getLast? with
          | none => exact absurd (List.getLast?_eq_none_iff.1 hg) hL
          | some z =>
            rw [hg] at hx
            simp at hx
            subst hx
            exact List.mem_of_getLast? hg
        have hb := p1.bel x hxL
        intro e
        rcases p2.head y hy with h | ⟨d, d1, d2, d3⟩
        · rw [e, h] at hb
          exact N.no s hT c a1 hb
        · rw [e] at hb
          exact N.apart s hT c a1 d d1 (fun e => by subst e; omega) _ hb d3
    · rcases List.mem_append.1 hl with hl | hl
      · rcases List.mem_append.1 hl with hl | hl
        · obtain ⟨rfl, e⟩ := hangM_mem hl
          refine ⟨by simp; omega, h2, fun d hd h3 => ?_⟩
          simp at h3
          have := (a3 d hd h3.1).1
          have e2 : untM (fin d) to = min (fin d).til to := rfl
          omega
        · exact t3 l hl
      · exact u3 l hl
end Go.Proofs.YtplbaiibocgpnaaGreatDoor
