/-
  PL.
-/
import Derived.Test.YtplbaiibocgpnaaGreatDoorPM
import Derived.Test.YtplbaiibocgpnaaGreatDoorG0
namespace Go.Proofs.YtplbaiibocgpnaaGreatDoor
open Go Go.RowKit
set_option maxRecDepth 100000

def svS : ByteArray := ⟨#[115]⟩
def svO : ByteArray := ⟨#[111]⟩
/-- A span of the trace 0/1. -/
def spW (id par s e : Int) : Sp := ⟨0, 1, id, par, [], svS, svO, 0, 0, s, e, [], []⟩
theorem atW (w : World) (id par s e : Int) : SpAt w (spW id par s e) pl0 :=
  ⟨⟨rfl, fun j u hj => by simp [spW, intsV] at hj⟩, ⟨rfl, fun h => by cases h⟩, ⟨rfl, fun h => by cases h⟩, by simp [spW], by simp [spW], by simp [spW]⟩
def wY : List Sp := [spW 1 0 0 10, spW 2 1 1 4, spW 3 1 2 7, spW 4 1 7 9, spW 5 4 8 9]
theorem wRise : wY.Pairwise (fun a b => a.id < b.id) := by
  simp [wY, spW]
theorem wOne : OneT wY := by
  refine ⟨by simp [wY], fun a ha => ?_, fun a ha => ?_, fun a ha => ?_, fun a ha b hb => ?_, by simp [wY, spW]⟩
  · simp only [wY, List.mem_cons, List.not_mem_nil, or_false] at ha
    rcases ha with rfl | rfl | rfl | rfl | rfl <;> decide +kernel
  · simp only [wY, List.mem_cons, List.not_mem_nil, or_false] at ha
    rcases ha with rfl | rfl | rfl | rfl | rfl <;> exact ⟨by simp [spW], by simp [spW], by simp [spW], by simp [spW], (fun _ h => by cases h), (fun _ h => by cases h)⟩
  · simp only [wY, List.mem_cons, List.not_mem_nil, or_false] at ha
    rcases ha with rfl | rfl | rfl | rfl | rfl <;> exact ⟨by simp only [spW]; decide, by simp only [spW]; decide, (fun _ h => by cases h), (fun _ h => by cases h)⟩
  · simp only [wY, List.mem_cons, List.not_mem_nil, or_false] at ha hb
    rcases ha with rfl | rfl | rfl | rfl | rfl <;> rcases hb with rfl | rfl | rfl | rfl | rfl <;> exact ⟨rfl, rfl⟩
theorem wNm : nmOf (zs wY) = [-1, 0, 0, 0, 3] := by decide +kernel
def wDp : Nat → Nat
  | 1 => 1
  | 2 => 1
  | 3 => 1
  | 4 => 2
  | _ => 0
def wFin : Nat → Nod
  | 0 => ⟨1, 0, 1, 1, 0, 0, 10⟩
  | 1 => ⟨2, 1, 0, 1, 1, 1, 4⟩
  | 2 => ⟨3, 1, 0, 1, 1, 2, 7⟩
  | 3 => ⟨4, 1, 0, 1, 1, 7, 9⟩
  | _ => ⟨5, 4, 0, 1, 2, 8, 9⟩
theorem five {i : Nat} (h : i < 5) : i = 0 ∨ i = 1 ∨ i = 2 ∨ i = 3 ∨ i = 4 := by omega
theorem wNo : NoRing (nmOf (zs wY)) wY.length := by
  rw [wNm]
  intro i hi
  rcases five (show i < 5 from hi) with rfl | rfl | rfl | rfl | rfl
  · exact Or.inl (by decide +kernel)
  · exact Or.inr (by decide +kernel)
  · exact Or.inr (by decide +kernel)
  · exact Or.inr (by decide +kernel)
  · exact Or.inr (by decide +kernel)
theorem wShape : Shape (zs wY) (nmOf (zs wY)) wDp wFin := by
  rw [wNm]
  refine ⟨fun i hi hn => ?_, fun i j hi hj hn => ?_, fun i hi => ?_⟩
  · rcases five (show i < 5 from hi) with rfl | rfl | rfl | rfl | rfl
    · exact ⟨rfl, rfl⟩
    · exact absurd hn (by decide)
    · exact absurd hn (by decide)
    · exact absurd hn (by decide)
    · exact absurd hn (by decide)
  · rcases five (show i < 5 from hi) with rfl | rfl | rfl | rfl | rfl
    · exact absurd hn (by simp)
    · have : j = 0 := by simp at hn; omega
      subst this
      exact ⟨rfl, rfl⟩
    · have : j = 0 := by simp at hn; omega
      subst this
      exact ⟨rfl, rfl⟩
    · have : j = 0 := by simp at hn; omega
      subst this
      exact ⟨rfl, rfl⟩
    · have : j = 3 := by simp at hn; omega
      subst this
      exact ⟨rfl, rfl⟩
  · rcases five (show i < 5 from hi) with rfl | rfl | rfl | rfl | rfl <;> exact ⟨by decide, by decide, by decide⟩
theorem wFoB {X : List Spot} {K : Nat → List Int} {R : List Int} (h : FoR wY wFin X K R) (hr : RiseS X) : FoB wY [] wDp wFin X K R :=
  ⟨⟨h.len, h.each, h.kids, h.roots⟩, wShape, hr, wOne⟩
theorem awaitM_is {fin : Nat → Nod} {tm : Int} {C : List Nat} {c : Nat} (hc : c ∈ C) (hf : (fin c).fr < tm) (hx : ∀ x ∈ C, (fin x).fr < tm → x = c ∨ untM (fin x) tm < untM (fin c) tm) : awaitM fin tm C = some c := by
  cases ha : awaitM fin tm C with
  | none => have := awaitM_none ha c hc; omega
  | some d =>
    obtain ⟨h1, h2, h3⟩ := awaitM_some ha
    rcases hx d h1 h2 with e | e
    · rw [e]
    · have := (h3 c hc hf).1
      omega
theorem awaitM_no {fin : Nat → Nod} {tm : Int} {C : List Nat} (hx : ∀ x ∈ C, tm ≤ (fin x).fr) : awaitM fin tm C = none := by
  cases ha : awaitM fin tm C with
  | none => rfl
  | some d =>
    obtain ⟨h1, h2, _⟩ := awaitM_some ha
    have := hx d h1
    omega
def wP : List (Nat × Int × Int) := [(0, 9, 10), (4, 8, 9), (3, 7, 8), (2, 2, 7), (1, 1, 2), (0, 0, 1)]
theorem wPath {X : List Spot} {K : Nat → List Int} {R : List Int} (h : FoB wY [] wDp wFin X K R) : PathR wFin (cnK wFin K) 0 10 wP := by
  have mem : ∀ i, i < 5 → ∀ c, c ∈ cnK wFin K i ↔ c < 5 ∧ ([-1, 0, 0, 0, 3] : List Int).getD c (-1) = (i : Int) := fun i hi c => by
    have e := h.mem i hi c
    have e2 : cutN [] (nmOf (zs wY)) = [-1, 0, 0, 0, 3] := wNm
    rw [e2] at e
    constructor
    · intro hc
      exact e.1 (List.mem_filter.1 hc).1
    · intro hc
      refine List.mem_filter.2 ⟨e.2 hc, ?_⟩
      rcases five hc.1 with rfl | rfl | rfl | rfl | rfl <;> decide
  have m0 : ∀ c, c ∈ cnK wFin K 0 → c = 1 ∨ c = 2 ∨ c = 3 := fun c hc => by
    obtain ⟨h1, h2⟩ := (mem 0 (by omega) c).1 hc
    rcases five h1 with rfl | rfl | rfl | rfl | rfl
    · exact absurd h2 (by decide)
    · exact Or.inl rfl
    · exact Or.inr (Or.inl rfl)
    · exact Or.inr (Or.inr rfl)
    · exact absurd h2 (by decide)
  have m3 : ∀ c, c ∈ cnK wFin K 3 → c = 4 := fun c hc => by
    obtain ⟨h1, h2⟩ := (mem 3 (by omega) c).1 hc
    rcases five h1 with rfl | rfl | rfl | rfl | rfl
    · exact absurd h2 (by decide)
    · exact absurd h2 (by decide)
    · exact absurd h2 (by decide)
    · exact absurd h2 (by decide)
    · rfl
  have mN : ∀ i, i = 1 ∨ i = 2 ∨ i = 4 → ∀ c, c ∉ cnK wFin K i := fun i hi c hc => by
    obtain ⟨h1, h2⟩ := (mem i (by omega) c).1 hc
    rcases hi with rfl | rfl | rfl <;> rcases five h1 with rfl | rfl | rfl | rfl | rfl <;> exact absurd h2 (by decide)
  have p4 : PathR wFin (cnK wFin K) 4 9 [(4, 8, 9)] := PathR.own (s := 4) (tt := 9) (by decide) (awaitM_no (fun x hx => absurd hx (mN 4 (by omega) x)))
  have p3b : PathR wFin (cnK wFin K) 3 8 [(3, 7, 8)] := PathR.own (s := 3) (tt := 8) (by decide) (awaitM_no (fun x hx => by rw [m3 x hx]; decide))
  have p3 : PathR wFin (cnK wFin K) 3 9 [(4, 8, 9), (3, 7, 8)] := PathR.via (s := 3) (tt := 9) (c := 4) (L := [(4, 8, 9)]) (M := [(3, 7, 8)]) (by decide) (awaitM_is ((mem 3 (by omega) 4).2 (by decide)) (by decide) (fun x hx _ => Or.inl (m3 x hx))) p4 p3b
  have p2 : PathR wFin (cnK wFin K) 2 7 [(2, 2, 7)] := PathR.own (s := 2) (tt := 7) (by decide) (awaitM_no (fun x hx => absurd hx (mN 2 (by omega) x)))
  have p1 : PathR wFin (cnK wFin K) 1 2 [(1, 1, 2)] := PathR.own (s := 1) (tt := 2) (by decide) (awaitM_no (fun x hx => absurd hx (mN 1 (by omega) x)))
  have p0a : PathR wFin (cnK wFin K) 0 1 [(0, 0, 1)] := PathR.own (s := 0) (tt := 1) (by decide) (awaitM_no (fun x hx => by rcases m0 x hx with e | e | e <;> rw [e] <;> decide))
  have p0b : PathR wFin (cnK wFin K) 0 2 [(1, 1, 2), (0, 0, 1)] := PathR.via (s := 0) (tt := 2) (c := 1) (L := [(1, 1, 2)]) (M := [(0, 0, 1)]) (by decide) (awaitM_is ((mem 0 (by omega) 1).2 (by decide)) (by decide) (fun x hx hf => by rcases m0 x hx with e | e | e <;> rw [e] at hf ⊢ <;> first | exact Or.inl rfl | exact absurd hf (by decide))) p1 p0a
  have p0c : PathR wFin (cnK wFin K) 0 7 [(2, 2, 7), (1, 1, 2), (0, 0, 1)] := PathR.via (s := 0) (tt := 7) (c := 2) (L := [(2, 2, 7)]) (M := [(1, 1, 2), (0, 0, 1)]) (by decide) (awaitM_is ((mem 0 (by omega) 2).2 (by decide)) (by decide) (fun x hx hf => by rcases m0 x hx with e | e | e <;> rw [e] at hf ⊢ <;> first | exact Or.inl rfl | exact Or.inr (by decide) | exact absurd hf (by decide))) p2 p0b
  exact PathR.via (s := 0) (tt := 10) (c := 3) (L := [(4, 8, 9), (3, 7, 8)]) (M := [(2, 2, 7), (1, 1, 2), (0, 0, 1)]) (by decide) (awaitM_is ((mem 0 (by omega) 3).2 (by decide)) (by decide) (fun x hx hf => by rcases m0 x hx with e | e | e <;> rw [e] at hf ⊢ <;> first | exact Or.inl rfl | exact Or.inr (by decide))) p3 p0c
end Go.Proofs.YtplbaiibocgpnaaGreatDoor
