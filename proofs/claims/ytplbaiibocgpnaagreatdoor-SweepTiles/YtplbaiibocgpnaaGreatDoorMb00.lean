/-
  Merged by merge.py: G0, PL, PK, PN, PO, PP.
-/
import Derived.Test.YtplbaiibocgpnaaGreatDoorMa46
import Derived.Test.YtplbaiibocgpnaaGreatDoorMa28
import Derived.Test.YtplbaiibocgpnaaGreatDoorPM
import Derived.Test.YtplbaiibocgpnaaGreatDoorPJ
namespace Go.Proofs.YtplbaiibocgpnaaGreatDoor
open Go Go.RowKit
set_option maxRecDepth 100000

def pl0 : Pl := ⟨none, 0, none, 0, none, 0⟩
/-- A span of the trace 0/7. -/
def spE (sv : ByteArray) (id par s e : Int) : Sp := ⟨0, 7, id, par, [], sv, ⟨#[98]⟩, 0, 0, s, e, [], []⟩
theorem atE (w : World) (sv : ByteArray) (id par s e : Int) : SpAt w (spE sv id par s e) pl0 :=
  ⟨⟨rfl, fun j u hj => by simp [spE, intsV] at hj⟩, ⟨rfl, fun h => by cases h⟩, ⟨rfl, fun h => by cases h⟩, by simp [spE], by simp [spE], by simp [spE]⟩
theorem smallE (sv : ByteArray) (hs : sv.size ≤ 1000) (id par s e : Int) : (spE sv id par s e).Small := ⟨by simp only [spE]; omega, by simp only [spE]; decide, (fun _ h => by cases h), (fun _ h => by cases h)⟩
theorem fitsE (sv : ByteArray) (id par s e : Int) (h2 : 0 ≤ id ∧ id < 18446744073709551616) (h3 : 0 ≤ par ∧ par < 18446744073709551616) : (spE sv id par s e).Fits :=
  ⟨by simp [spE], by simp [spE], h2, h3, (fun _ h => by cases h), (fun _ h => by cases h)⟩
def enP (a : Sp) : List Value := (spC a pl0).toList
theorem enP_len (a : Sp) : (enP a).length = 13 := rfl
theorem flatP_get : ∀ (X : List Sp) (i : Nat) (h : i < X.length) (j : Nat), j < 13 → (X.flatMap enP)[i * 13 + j]? = (enP X[i])[j]?
  | [], i, h, j, _ => absurd h (by simp)
  | x :: r, 0, h, j, hj => by
    rw [List.flatMap_cons, List.getElem?_append_left (by rw [enP_len]; omega)]
    simp
  | x :: r, i + 1, h, j, hj => by
    rw [List.flatMap_cons, List.getElem?_append_right (by rw [enP_len]; omega), enP_len, show (i + 1) * 13 + j - 13 = i * 13 + j by omega]
    exact flatP_get r i (by simpa using h) j hj
theorem spsFlat {w : World} {g : Nat} {X : List Sp} {T : TypeId} (h : Blk w g (X.flatMap enP).toArray T) (hat : ∀ a ∈ X, SpAt w a pl0) : SpsAt w (some ⟨g, 0, none⟩) X.length X (fun _ => pl0) := by
  refine ⟨rfl, fun _ => ⟨g, 0, rfl, fun i hi j u hu => ?_⟩, fun i hi => hat _ (List.getElem_mem hi)⟩
  have hj : j < 13 := (Array.getElem?_eq_some_iff.1 hu).1
  rw [Nat.zero_add]
  refine h.cell _ ?_
  rw [List.getElem?_toArray, flatP_get X i hi j hj]
  unfold enP
  rw [Array.getElem?_toList]
  exact hu
theorem oneE {X : List Sp} (h : ∀ a ∈ X, ∃ sv id par s e, a = spE sv id par s e ∧ sv.size ≤ 1000 ∧ (0 ≤ id ∧ id < 18446744073709551616) ∧ (0 ≤ par ∧ par < 18446744073709551616) ∧ chkS a = 0) (hl : X.length ≤ 1000) (hn : (X.map (fun a => a.id)).Nodup) : OneT X := by
  refine ⟨hl, fun a ha => ?_, fun a ha => ?_, fun a ha => ?_, fun a ha b hb => ?_, hn⟩
  · obtain ⟨_, _, _, _, _, _, _, _, _, h4⟩ := h a ha; exact h4
  · obtain ⟨_, _, _, _, _, rfl, _, h3, h4, _⟩ := h a ha; exact fitsE _ _ _ _ _ h3 h4
  · obtain ⟨_, _, _, _, _, rfl, h2, _, _⟩ := h a ha; exact smallE _ h2 _ _ _ _
  · obtain ⟨_, _, _, _, _, rfl, _⟩ := h a ha
    obtain ⟨_, _, _, _, _, rfl, _⟩ := h b hb
    exact ⟨rfl, rfl⟩
def svA : ByteArray := ⟨#[97]⟩
theorem four {i : Nat} (h : i < 4) : i = 0 ∨ i = 1 ∨ i = 2 ∨ i = 3 := by omega
theorem pair_of {R : List Int} {a b : Int} (hp : [a, b].Perm R) (hab : a ≠ b) (h : ∀ x y, R = [x, y] → ¬ (x = b ∧ y = a)) : R = [a, b] := by
  have hl := hp.length_eq
  match R, hl, hp, h with
  | [x, y], _, hp, h =>
    have hx : x = a ∨ x = b := by have := hp.mem_iff.2 (show x ∈ [x, y] by simp); simpa using this
    have hy : y = a ∨ y = b := by have := hp.mem_iff.2 (show y ∈ [x, y] by simp); simpa using this
    have hn : [x, y].Nodup := hp.nodup_iff.1 (by simp [hab])
    simp at hn
    have := h x y rfl
    rcases hx with rfl | rfl <;> rcases hy with rfl | rfl
    · exact absurd rfl hn
    · rfl
    · exact absurd ⟨rfl, rfl⟩ this
    · exact absurd rfl hn
end Go.Proofs.YtplbaiibocgpnaaGreatDoor

namespace Go.Proofs.YtplbaiibocgpnaaGreatDoor
open Go Go.RowKit
set_option maxRecDepth 100000

def svS : ByteArray := ⟨#[115]⟩
def svO : ByteArray := ⟨#[111]⟩
/-- A span of the trace 0/1. -/
def spW (id par s e : Int) : Sp := ⟨0, 1, id, par, [], svS, svO, 0, 0, s, e, [], []⟩
theorem atW (w : World) (id par s e : Int) : SpAt w (spW id par s e) pl0 :=
  ⟨⟨rfl, fun j u hj => by simp [spW, intsV] at hj⟩, ⟨rfl, fun h => by cases h⟩, ⟨rfl, fun h => by cases h⟩, by simp [spW], by simp [spW], by simp [spW]⟩
def wY : List Sp := [spW 1 0 0 10, spW 2 1 1 4, spW 3 1 2 7, spW 4 1 7 9, spW 5 4 8 9]
theorem wRise : wY.Pairwise (fun a b => a.id < b.id) := by
  simp [wY, spW]
theorem wOne : OneT wY := by
  refine ⟨by simp [wY], fun a ha => ?_, fun a ha => ?_, fun a ha => ?_, fun a ha b hb => ?_, by simp [wY, spW]⟩
  · simp only [wY, List.mem_cons, List.not_mem_nil, or_false] at ha
    rcases ha with rfl | rfl | rfl | rfl | rfl <;> decide +kernel
  · simp only [wY, List.mem_cons, List.not_mem_nil, or_false] at ha
    rcases ha with rfl | rfl | rfl | rfl | rfl <;> exact ⟨by simp [spW], by simp [spW], by simp [spW], by simp [spW], (fun _ h => by cases h), (fun _ h => by cases h)⟩
  · simp only [wY, List.mem_cons, List.not_mem_nil, or_false] at ha
    rcases ha with rfl | rfl | rfl | rfl | rfl <;> exact ⟨by simp only [spW]; decide, by simp only [spW]; decide, (fun _ h => by cases h), (fun _ h => by cases h)⟩
  · simp only [wY, List.mem_cons, List.not_mem_nil, or_false] at ha hb
    rcases ha with rfl | rfl | rfl | rfl | rfl <;> rcases hb with rfl | rfl | rfl | rfl | rfl <;> exact ⟨rfl, rfl⟩
theorem wNm : nmOf (zs wY) = [-1, 0, 0, 0, 3] := by decide +kernel
def wDp : Nat → Nat
  | 1 => 1
  | 2 => 1
  | 3 => 1
  | 4 => 2
  | _ => 0
def wFin : Nat → Nod
  | 0 => ⟨1, 0, 1, 1, 0, 0, 10⟩
  | 1 => ⟨2, 1, 0, 1, 1, 1, 4⟩
  | 2 => ⟨3, 1, 0, 1, 1, 2, 7⟩
  | 3 => ⟨4, 1, 0, 1, 1, 7, 9⟩
  | _ => ⟨5, 4, 0, 1, 2, 8, 9⟩
theorem five {i : Nat} (h : i < 5) : i = 0 ∨ i = 1 ∨ i = 2 ∨ i = 3 ∨ i = 4 := by omega
theorem wNo : NoRing (nmOf (zs wY)) wY.length := by
  rw [wNm]
  intro i hi
  rcases five (show i < 5 from hi) with rfl | rfl | rfl | rfl | rfl
  · exact Or.inl (by decide +kernel)
  · exact Or.inr (by decide +kernel)
  · exact Or.inr (by decide +kernel)
  · exact Or.inr (by decide +kernel)
  · exact Or.inr (by decide +kernel)
theorem wShape : Shape (zs wY) (nmOf (zs wY)) wDp wFin := by
  rw [wNm]
  refine ⟨fun i hi hn => ?_, fun i j hi hj hn => ?_, fun i hi => ?_⟩
  · rcases five (show i < 5 from hi) with rfl | rfl | rfl | rfl | rfl
    · exact ⟨rfl, rfl⟩
    · exact absurd hn (by decide)
    · exact absurd hn (by decide)
    · exact absurd hn (by decide)
    · exact absurd hn (by decide)
  · rcases five (show i < 5 from hi) with rfl | rfl | rfl | rfl | rfl
    · exact absurd hn (by simp)
    · have : j = 0 := by simp at hn; omega
      subst this
      exact ⟨rfl, rfl⟩
    · have : j = 0 := by simp at hn; omega
      subst this
      exact ⟨rfl, rfl⟩
    · have : j = 0 := by simp at hn; omega
      subst this
      exact ⟨rfl, rfl⟩
    · have : j = 3 := by simp at hn; omega
      subst this
      exact ⟨rfl, rfl⟩
  · rcases five (show i < 5 from hi) with rfl | rfl | rfl | rfl | rfl <;> exact ⟨by decide, by decide, by decide⟩
theorem wFoB {X : List Spot} {K : Nat → List Int} {R : List Int} (h : FoR wY wFin X K R) (hr : RiseS X) : FoB wY [] wDp wFin X K R :=
  ⟨⟨h.len, h.each, h.kids, h.roots⟩, wShape, hr, wOne⟩
theorem awaitM_is {fin : Nat → Nod} {tm : Int} {C : List Nat} {c : Nat} (hc : c ∈ C) (hf : (fin c).fr < tm) (hx : ∀ x ∈ C, (fin x).fr < tm → x = c ∨ untM (fin x) tm < untM (fin c) tm) : awaitM fin tm C = some c := by
  cases ha : awaitM fin tm C with
  | none => have := awaitM_none ha c hc; omega
  | some d =>
    obtain ⟨h1, h2, h3⟩ := awaitM_some ha
    rcases hx d h1 h2 with e | e
    · rw [e]
    · have := (h3 c hc hf).1
      omega
theorem awaitM_no {fin : Nat → Nod} {tm : Int} {C : List Nat} (hx : ∀ x ∈ C, tm ≤ (fin x).fr) : awaitM fin tm C = none := by
  cases ha : awaitM fin tm C with
  | none => rfl
  | some d =>
    obtain ⟨h1, h2, _⟩ := awaitM_some ha
    have := hx d h1
    omega
def wP : List (Nat × Int × Int) := [(0, 9, 10), (4, 8, 9), (3, 7, 8), (2, 2, 7), (1, 1, 2), (0, 0, 1)]
theorem wPath {X : List Spot} {K : Nat → List Int} {R : List Int} (h : FoB wY [] wDp wFin X K R) : PathR wFin (cnK wFin K) 0 10 wP := by
  have mem : ∀ i, i < 5 → ∀ c, c ∈ cnK wFin K i ↔ c < 5 ∧ ([-1, 0, 0, 0, 3] : List Int).getD c (-1) = (i : Int) := fun i hi c => by
    have e := h.mem i hi c
    have e2 : cutN [] (nmOf (zs wY)) = [-1, 0, 0, 0, 3] := wNm
    rw [e2] at e
    constructor
    · intro hc
      exact e.1 (List.mem_filter.1 hc).1
    · intro hc
      refine List.mem_filter.2 ⟨e.2 hc, ?_⟩
      rcases five hc.1 with rfl | rfl | rfl | rfl | rfl <;> decide
  have m0 : ∀ c, c ∈ cnK wFin K 0 → c = 1 ∨ c = 2 ∨ c = 3 := fun c hc => by
    obtain ⟨h1, h2⟩ := (mem 0 (by omega) c).1 hc
    rcases five h1 with rfl | rfl | rfl | rfl | rfl
    · exact absurd h2 (by decide)
    · exact Or.inl rfl
    · exact Or.inr (Or.inl rfl)
    · exact Or.inr (Or.inr rfl)
    · exact absurd h2 (by decide)
  have m3 : ∀ c, c ∈ cnK wFin K 3 → c = 4 := fun c hc => by
    obtain ⟨h1, h2⟩ := (mem 3 (by omega) c).1 hc
    rcases five h1 with rfl | rfl | rfl | rfl | rfl
    · exact absurd h2 (by decide)
    · exact absurd h2 (by decide)
    · exact absurd h2 (by decide)
    · exact absurd h2 (by decide)
    · rfl
  have mN : ∀ i, i = 1 ∨ i = 2 ∨ i = 4 → ∀ c, c ∉ cnK wFin K i := fun i hi c hc => by
    obtain ⟨h1, h2⟩ := (mem i (by omega) c).1 hc
    rcases hi with rfl | rfl | rfl <;> rcases five h1 with rfl | rfl | rfl | rfl | rfl <;> exact absurd h2 (by decide)
  have p4 : PathR wFin (cnK wFin K) 4 9 [(4, 8, 9)] := PathR.own (s := 4) (tt := 9) (by decide) (awaitM_no (fun x hx => absurd hx (mN 4 (by omega) x)))
  have p3b : PathR wFin (cnK wFin K) 3 8 [(3, 7, 8)] := PathR.own (s := 3) (tt := 8) (by decide) (awaitM_no (fun x hx => by rw [m3 x hx]; decide))
  have p3 : PathR wFin (cnK wFin K) 3 9 [(4, 8, 9), (3, 7, 8)] := PathR.via (s := 3) (tt := 9) (c := 4) (L := [(4, 8, 9)]) (M := [(3, 7, 8)]) (by decide) (awaitM_is ((mem 3 (by omega) 4).2 (by decide)) (by decide) (fun x hx _ => Or.inl (m3 x hx))) p4 p3b
  have p2 : PathR wFin (cnK wFin K) 2 7 [(2, 2, 7)] := PathR.own (s := 2) (tt := 7) (by decide) (awaitM_no (fun x hx => absurd hx (mN 2 (by omega) x)))
  have p1 : PathR wFin (cnK wFin K) 1 2 [(1, 1, 2)] := PathR.own (s := 1) (tt := 2) (by decide) (awaitM_no (fun x hx => absurd hx (mN 1 (by omega) x)))
  have p0a : PathR wFin (cnK wFin K) 0 1 [(0, 0, 1)] := PathR.own (s := 0) (tt := 1) (by decide) (awaitM_no (fun x hx => by rcases m0 x hx with e | e | e <;> rw [e] <;> decide))
  have p0b : PathR wFin (cnK wFin K) 0 2 [(1, 1, 2), (0, 0, 1)] := PathR.via (s := 0) (tt := 2) (c := 1) (L := [(1, 1, 2)]) (M := [(0, 0, 1)]) (by decide) (awaitM_is ((mem 0 (by omega) 1).2 (by decide)) (by decide) (fun x hx hf => by rcases m0 x hx with e | e | e <;> rw [e] at hf ⊢ <;> first | exact Or.inl rfl | exact absurd hf (by decide))) p1 p0a
  have p0c : PathR wFin (cnK wFin K) 0 7 [(2, 2, 7), (1, 1, 2), (0, 0, 1)] := PathR.via (s := 0) (tt := 7) (c := 2) (L := [(2, 2, 7)]) (M := [(1, 1, 2), (0, 0, 1)]) (by decide) (awaitM_is ((mem 0 (by omega) 2).2 (by decide)) (by decide) (fun x hx hf => by rcases m0 x hx with e | e | e <;> rw [e] at hf ⊢ <;> first | exact Or.inl rfl | exact Or.inr (by decide) | exact absurd hf (by decide))) p2 p0b
  exact PathR.via (s := 0) (tt := 10) (c := 3) (L := [(4, 8, 9), (3, 7, 8)]) (M := [(2, 2, 7), (1, 1, 2), (0, 0, 1)]) (by decide) (awaitM_is ((mem 0 (by omega) 3).2 (by decide)) (by decide) (fun x hx hf => by rcases m0 x hx with e | e | e <;> rw [e] at hf ⊢ <;> first | exact Or.inl rfl | exact Or.inr (by decide))) p3 p0c
end Go.Proofs.YtplbaiibocgpnaaGreatDoor

namespace Go.Proofs.YtplbaiibocgpnaaGreatDoor
open Go Go.RowKit
set_option maxRecDepth 100000

theorem legsIn_below {w w' : World} {g : Nat} {L : List (Int × Int × Int)} (h : LegsIn w g L) (hb : Below w.heap.size w w') (hg : g < w.heap.size) : LegsIn w' g L := fun i hi => by
  have k : ∀ j, w'.cell? ⟨g, j, none⟩ = w.cell? ⟨g, j, none⟩ := fun j => hb.cell (p := ⟨g, j, none⟩) hg
  rw [k, k, k]
  exact h i hi
/-- A root is not lacking. -/
theorem lacksW_any (f sb : Nat) (X : List Spot) (K : Nat → List Int) (rvv : Value) (R : List Int) (W : World) (h : ForestAt W f sb X K rvv R) (x : Nat) (hx : x < X.length) (d : Nod) (hd : X[x].nd = d) (ho : d.org ≠ 0) :
    Calls Tryz.prog 22 #[.pointer (some ⟨f, 0, none⟩), .int .u64 d.id] W fun e W' => e = .returned (.int .i64 0) ∧ Below W.heap.size W W' := by
  have N := node_at h x hx d.id (by rw [hd])
  rw [hd] at N
  unfold ndV at N
  have hne : (d.org == 0) = false := by simp [ho]
  clear h hd
  go_enter Tryz.func22, Tryz.ntmps22
  go_wp2_with (go_at_call 8; refine N.mono ?_; clear N; rintro e w1 ⟨rfl, hb⟩)
  go_ret
  exact ⟨rfl, hb.alloc hb.size _⟩
/-- What is none is lacking. -/
theorem lacksW_inner (f sb : Nat) (X : List Spot) (K : Nat → List Int) (rvv : Value) (R : List Int) (W : World) (h : ForestAt W f sb X K rvv R) (x : Nat) (hx : x < X.length) (d : Nod) (hd : X[x].nd = d) (ho : d.org = 0) :
    Calls Tryz.prog 22 #[.pointer (some ⟨f, 0, none⟩), .int .u64 d.id] W fun e W' => e = .returned (.int .i64 111) ∧ Below W.heap.size W W' := by
  have N := node_at h x hx d.id (by rw [hd])
  rw [hd] at N
  unfold ndV at N
  rw [ho] at N
  clear h hd
  go_enter Tryz.func22, Tryz.ntmps22
  go_wp2_with (go_at_call 8; refine N.mono ?_; clear N; rintro e w1 ⟨rfl, hb⟩)
  go_ret
  exact ⟨rfl, hb.alloc hb.size _⟩
theorem pathGone (f : Nat) (id : Int) (W : World) (LA : Calls Tryz.prog 22 #[.pointer (some ⟨f, 0, none⟩), .int .u64 id] W fun e W' => e = .returned (.int .i64 111) ∧ Below W.heap.size W W') : Calls Tryz.prog 9 #[.pointer (some ⟨f, 0, none⟩), .int .u64 id] W fun e W' => e = .returned (.tuple #[.slice none 0 0, .int .i64 111]) ∧ Below W.heap.size W W' := by
  go_enter Tryz.func9, Tryz.ntmps9
  go_wp2_with (go_at_call 22; refine LA.mono ?_; clear LA; rintro e w1 ⟨rfl, hb⟩)
  go_ret2
  exact ⟨rfl, hb⟩
/-- What Path tells. -/
def PathT (W W' : World) (A : Nat → Sp) (fin : Nat → Nod) (C : Nat → List Nat) (x : Nat) (ad : Option Addr) (L : List (Nat × Int × Int)) : Prop := PathR fin C x (fin x).til L ∧ L.length ≤ 2000 ∧ (L ≠ [] → ∃ g, ad = some ⟨g, 0, none⟩ ∧ g < W'.heap.size ∧ LegsIn W' g ((L.map (legX A)).reverse)) ∧ Below W.heap.size W W'
set_option maxHeartbeats 2000000 in
theorem path_any (f sb : Nat) (X : List Spot) (K : Nat → List Int) (rvv : Value) (R : List Int) (A : Nat → Sp) (fin : Nat → Nod) (KN C : Nat → List Nat) (fuel x : Nat) (W : World) (hF : ForestAt W f sb X K rvv R) (T : SvE X K A fin KN C fuel x) (ho : (fin x).org ≠ 0) :
    Calls Tryz.prog 9 #[.pointer (some ⟨f, 0, none⟩), .int .u64 (fin x).id] W fun e W' => ∃ ad cap L, e = .returned (.tuple #[.slice ad L.length cap, .int .i64 0]) ∧ PathT W W' A fin C x ad L := by
  have LA := lacksW_any f sb X K rvv R W hF x T.xX (fin x) (T.nd x T.xX) ho
  have SV : Hid (∀ w1, Below W.heap.size W w1 → Calls Tryz.prog 23 #[.pointer (some ⟨f, 0, none⟩), .int .u64 (fin x).id] w1 fun e W' => ∃ (ad : Option Addr) (cap : Nat) (L : List (Nat × Int × Int)), e = .returned (.pointer (some ⟨w1.heap.size, 0, none⟩)) ∧ W'.cell? ⟨w1.heap.size, 2, none⟩ = some (.slice ad L.length cap) ∧ PathT W W' A fin C x ad L) := fun w1 hb => by
    refine (swept_any f sb X K rvv R A fin KN C fuel x w1 (hF.below hb) T).mono ?_
    rintro e W' ⟨rfl, ⟨lv, L, h1⟩, hb2⟩
    obtain ⟨ad, cap, rfl, hl⟩ := h1.legs
    obtain ⟨B, sv, ht, _⟩ := h1.tree
    exact ⟨ad, cap, L, rfl, ht.cell 2 rfl, h1.path, h1.len, hl, hb.trans (hb2.mono hb.size)⟩
  obtain ⟨id, hid⟩ : ∃ id, (fin x).id = id := ⟨_, rfl⟩
  rw [hid] at LA SV ⊢
  clear hF T ho hid
  go_enter Tryz.func9, Tryz.ntmps9
  go_wp2_with (first
    | (go_at_call 22; refine LA.mono ?_; clear LA; rintro e w1 ⟨rfl, hb1⟩; have S1 := SV.out w1 hb1; clear hb1 SV)
    | (go_at_call 23; refine S1.mono ?_; clear S1; rintro e w2 ⟨ad, cap, L, rfl, e2, hT⟩; have HT : Hid (PathT W w2 A fin C x ad L) := hT; clear hT))
  go_ret2
  exact ⟨ad, cap, L, rfl, HT.out⟩
set_option maxHeartbeats 2000000 in
theorem sameLegsW_any (g h n c d : Nat) (L : List (Int × Int × Int)) (w : World) (hn : L.length = n) (hl : n ≤ 4000) (k1 : LegsIn w g L) (k2 : LegsIn w h L) :
    Calls Tryz.prog 12 #[.slice (some ⟨g, 0, none⟩) n c, .slice (some ⟨h, 0, none⟩) n d] w fun e w' => e = .returned (.bool true) ∧ Below w.heap.size w w' := by
  have KK : Hid (∀ (i : Nat) (hi : i < n), ∃ o a t : Int, (∀ m, (w.drewN m).cell? ⟨g, i * 3, none⟩ = some (.int .u64 o) ∧ (w.drewN m).cell? ⟨g, i * 3 + 1, none⟩ = some (.int .i64 a) ∧ (w.drewN m).cell? ⟨g, i * 3 + 2, none⟩ = some (.int .i64 t)) ∧ (∀ m, (w.drewN m).cell? ⟨h, i * 3, none⟩ = some (.int .u64 o) ∧ (w.drewN m).cell? ⟨h, i * 3 + 1, none⟩ = some (.int .i64 a) ∧ (w.drewN m).cell? ⟨h, i * 3 + 2, none⟩ = some (.int .i64 t))) := fun i hi => by
    have hi' : i < L.length := by omega
    exact ⟨L[i].1, L[i].2.1, L[i].2.2, fun m => k1 i hi', fun m => k2 i hi'⟩
  clear k1 k2 hn
  go_enter Tryz.func12, Tryz.ntmps12
  go_wp2
  go_loopw [5] (fun y wr => ∃ i m : Nat, y = .int .i64 i ∧ i ≤ n ∧ wr = w.drewN m) (fun y _ => n - (intOf y).toNat)
  case atStart => exact ⟨0, 0, rfl, by omega, rfl⟩
  case round =>
    obtain ⟨i, m, rfl, hi, rfl⟩ := hrel
    by_cases hlt : i < n
    · obtain ⟨o, a, t, q1, q2⟩ := KK.out i hlt
      have hin : (i : Int) < (n : Int) := by omega
      obtain ⟨a1, a2, a3⟩ := q1 m
      obtain ⟨b1, b2, b3⟩ := q2 m
      obtain ⟨c1, c2, c3⟩ := q1 0
      obtain ⟨d1, d2, d3⟩ := q2 0
      rw [World.drewN_zero] at c1 c2 c3 d1 d2 d3
      clear q1 q2
      go_wp2
      go_region
      go_wp2
      go_roundw
      case rel => exact ⟨i + 1, m + 1, by go_num, by omega, by simp⟩
      case measure => (simp [intOf]; try omega)
    · obtain rfl : i = n := by omega
      go_wp2
      go_ret
      exact ⟨rfl, (Upd.drewN (Upd.refl (fun _ => False) w) _).below (Nat.le_refl _) (fun _ _ h => h)⟩
end Go.Proofs.YtplbaiibocgpnaaGreatDoor

namespace Go.Proofs.YtplbaiibocgpnaaGreatDoor
open Go Go.RowKit
set_option maxRecDepth 100000

theorem wFlat : (wY.flatMap enP).toArray = #[.int .u64 0, .int .u64 1, .int .u64 1, .int .u64 0, .slice none 0 0, .string svS, .string svO, .int .i64 0, .int .i64 0, .int .i64 0, .int .i64 10, .slice none 0 0, .slice none 0 0, .int .u64 0, .int .u64 1, .int .u64 2, .int .u64 1, .slice none 0 0, .string svS, .string svO, .int .i64 0, .int .i64 0, .int .i64 1, .int .i64 4, .slice none 0 0, .slice none 0 0, .int .u64 0, .int .u64 1, .int .u64 3, .int .u64 1, .slice none 0 0, .string svS, .string svO, .int .i64 0, .int .i64 0, .int .i64 2, .int .i64 7, .slice none 0 0, .slice none 0 0, .int .u64 0, .int .u64 1, .int .u64 4, .int .u64 1, .slice none 0 0, .string svS, .string svO, .int .i64 0, .int .i64 0, .int .i64 7, .int .i64 9, .slice none 0 0, .slice none 0 0, .int .u64 0, .int .u64 1, .int .u64 5, .int .u64 4, .slice none 0 0, .string svS, .string svO, .int .i64 0, .int .i64 0, .int .i64 8, .int .i64 9, .slice none 0 0, .slice none 0 0] := rfl
set_option maxHeartbeats 4000000 in
theorem exampleW_any (w : World) : Calls Tryz.prog 11 #[] w fun e w' => e = .returned (.slice (some ⟨w.heap.size + 5, 0, none⟩) 5 5) ∧ Blk w' (w.heap.size + 5) (wY.flatMap enP).toArray 59 ∧ Below w.heap.size w w' := by
  rw [wFlat]
  go_enter Tryz.func11, Tryz.ntmps11
  go_wp2
  go_ret
  refine ⟨rfl, ?_, ?_⟩
  · exact alloc_atS (by simp)
  · repeat' first | exact Below.refl _ _ | refine Below.alloc ?_ (by first | exact Nat.le_refl _ | (simp; done) | (simp; omega)) _ | refine Below.setCell ?_ (by first | exact Nat.le_refl _ | (simp; done) | (simp; omega)) _
theorem buildW (w w1 : World) (hT : Tabs w) (g : Nat) (hb : Below w.heap.size w w1) (hB : Blk w1 g (wY.flatMap enP).toArray 59) : Calls Tryz.prog 6 #[.slice (some ⟨g, 0, none⟩) 5 5] w1 fun e w' => ∃ f sb X K rv R, e = .returned (.tuple #[.pointer (some ⟨f, 0, none⟩), .int .i64 0]) ∧ ForestAt w' f sb X K rv R ∧ FoR wY wFin X K R ∧ Below w.heap.size w w' := by
  refine (build_any (some ⟨g, 0, none⟩) 5 5 wY wY (fun _ => pl0) w1 (spsFlat hB (fun a ha => ?_)) wOne (hT.below hb) (List.Perm.refl _) wRise wNo wDp wFin wShape).mono ?_
  · simp only [wY, List.mem_cons, List.not_mem_nil, or_false] at ha
    rcases ha with rfl | rfl | rfl | rfl | rfl <;> exact atW _ _ _ _ _
  · rintro e w' ⟨f, sb, X, K, rv, R, rfl, hF, hO, hb'⟩
    exact ⟨f, sb, X, K, rv, R, rfl, hF, hO, hb.trans (hb'.mono hb.size)⟩
def wL : List (Int × Int × Int) := [(1, 0, 1), (2, 1, 2), (3, 2, 7), (4, 7, 8), (5, 8, 9), (1, 9, 10)]
theorem pathW1 {W : World} {f sb : Nat} {X : List Spot} {K : Nat → List Int} {rv : Value} {R : List Int} (hF : ForestAt W f sb X K rv R) (hO : FoR wY wFin X K R) : Calls Tryz.prog 9 #[.pointer (some ⟨f, 0, none⟩), .int .u64 1] W fun e W' => ∃ g c, e = .returned (.tuple #[.slice (some ⟨g, 0, none⟩) 6 c, .int .i64 0]) ∧ LegsIn W' g wL ∧ g < W'.heap.size ∧ Below W.heap.size W W' := by
  have hB := wFoB hO hF.rise
  refine (path_any f sb X K rv R (spAt wY) wFin (knK K) (cnK wFin K) 1001 0 W hF (hB.senv 0 (by decide)) (by decide)).mono ?_
  rintro e W' ⟨ad, cap, L, rfl, h1, h2, h3, h4⟩
  have e : L = wP := (wPath hB).one L h1
  subst e
  obtain ⟨g, rfl, hg, hL⟩ := h3 (by decide)
  exact ⟨g, cap, rfl, hL, hg, h4⟩
theorem pathW2 {W : World} {f sb : Nat} {X : List Spot} {K : Nat → List Int} {rv : Value} {R : List Int} (hF : ForestAt W f sb X K rv R) (hO : FoR wY wFin X K R) : Calls Tryz.prog 9 #[.pointer (some ⟨f, 0, none⟩), .int .u64 2] W fun e W' => e = .returned (.tuple #[.slice none 0 0, .int .i64 111]) ∧ Below W.heap.size W W' := by
  have hl : X.length = 5 := hO.len
  exact pathGone f 2 W (lacksW_inner f sb X K rv R W hF 1 (by omega) (wFin 1) (hO.each 1 (by decide) (by omega)).2 rfl)
set_option maxHeartbeats 4000000 in
theorem aliveW_any (w : World) (hT : Tabs w) : Calls Tryz.prog 5 #[] w fun e w' => e = .returned (.bool true) ∧ Below w.heap.size w w' := by
  have EX := exampleW_any w
  have BD : Hid (∀ w1 g, Below w.heap.size w w1 → Blk w1 g (wY.flatMap enP).toArray 59 → Calls Tryz.prog 6 #[.slice (some ⟨g, 0, none⟩) 5 5] w1 fun e w' => ∃ f sb X K rv R, e = .returned (.tuple #[.pointer (some ⟨f, 0, none⟩), .int .i64 0]) ∧ ForestAt w' f sb X K rv R ∧ FoR wY wFin X K R ∧ Below w.heap.size w w') := fun w1 g hb hB => buildW w w1 hT g hb hB
  clear hT
  go_enter Tryz.func5, Tryz.ntmps5
  go_wp2_with (first
    | (go_at_call 11; refine EX.mono ?_; clear EX; rintro e w1 ⟨rfl, hB, hb⟩; have B1 := BD.out _ _ hb hB; clear hB hb)
    | (go_at_call 6; refine B1.mono ?_; clear B1; rintro e w2 ⟨f, sb, X, K, rv, R, rfl, hF, hO, hb⟩; have P1 := pathW1 hF hO; have HF : Hid (ForestAt w2 f sb X K rv R ∧ FoR wY wFin X K R ∧ Below w.heap.size w w2) := ⟨hF, hO, hb⟩; clear hF hO hb)
    | (go_at_call 9; (with_reducible refine P1.mono ?_); clear P1; rintro e w3 ⟨g, c, rfl, hL, hg, hb⟩; have P2 := pathW2 (ForestAt.below HF.out.1 hb) HF.out.2.1; have H3 : Hid (LegsIn w3 g wL ∧ g < w3.heap.size ∧ Below w.heap.size w w3) := ⟨hL, hg, HF.out.2.2.trans (hb.mono HF.out.2.2.size)⟩; clear hL hg hb)
    | (go_at_call 9; (with_reducible refine P2.mono ?_); clear P2; rintro e w4 ⟨rfl, hb⟩; have H4 : Hid (LegsIn w4 g wL ∧ g < w4.heap.size ∧ Below w.heap.size w w4) := ⟨legsIn_below H3.out.1 hb H3.out.2.1, Nat.lt_of_lt_of_le H3.out.2.1 hb.size, H3.out.2.2.trans (hb.mono H3.out.2.2.size)⟩; clear hb H3)
    | (go_at_call 12; refine (sameLegsW_any _ _ 6 _ _ wL _ rfl (by omega) (legsIn_alloc H4.out.1 H4.out.2.1) (legsIn_blk (alloc_atS (by simp)))).mono ?_; rintro e w5 ⟨rfl, hb⟩; have B5 : Hid (Below w.heap.size w w5) := (H4.out.2.2.alloc H4.out.2.2.size _).trans (hb.mono (by have := H4.out.2.2.size; rw [World.size_alloc]; omega)); clear hb))
  go_ret
  exact ⟨rfl, B5.out⟩
set_option maxHeartbeats 1000000 in
theorem sweepNames_any (w : World) (hT : Tabs w) : Calls Tryz.prog 3 #[] w fun e w' => e = .returned (.bool true) ∧ Below w.heap.size w w' := by
  have SH := aliveW_any w hT
  clear hT
  go_enter Tryz.func3, Tryz.ntmps3
  go_wp2_with (go_at_call 5; refine SH.mono ?_; clear SH; rintro e w1 ⟨rfl, hb⟩)
  go_ret
  exact ⟨rfl, hb⟩
end Go.Proofs.YtplbaiibocgpnaaGreatDoor

namespace Go.Proofs.YtplbaiibocgpnaaGreatDoor
open Go Go.RowKit
set_option maxRecDepth 100000

set_option maxHeartbeats 4000000 in
theorem free_any (f sb : Nat) (X : List Spot) (K : Nat → List Int) (rvv : Value) (R : List Int) (fin : Nat → Nod) (KN : Nat → List Nat) (W : World) (hF : ForestAt W f sb X K rvv R) (nd : ∀ i (h : i < X.length), X[i].nd = fin i) (y : Nat) (hy : y < X.length) (kn : K y = (KN y).map (fun c : Nat => (c : Int))) (kl : ∀ c ∈ KN y, c < X.length) (kn1 : (KN y).length ≤ 1000) (a b : Int) (hno : ∀ c ∈ KN y, ¬ ((fin c).fr < (fin c).til ∧ (fin c).fr < b ∧ a < (fin c).til)) :
    Calls Tryz.prog 10 #[.pointer (some ⟨f, 0, none⟩), .agg #[.int .u64 (fin y).id, .int .i64 a, .int .i64 b]] W fun e W' => e = .returned (.bool true) ∧ Below W.heap.size W W' := by
  obtain ⟨W1, hW1⟩ : ∃ W1, W.alloc (.cells #[.int .u64 (fin y).id, .int .i64 a, .int .i64 b] 43) = W1 := ⟨_, rfl⟩
  have b1 : Below W.heap.size W W1 := by rw [← hW1]; exact (Below.refl _ _).alloc (Nat.le_refl _) _
  have l1 : Blk W1 W.heap.size #[.int .u64 (fin y).id, .int .i64 a, .int .i64 b] 43 := by rw [← hW1]; exact Blk.new _ _ _
  have c0 : W1.cell? ⟨W.heap.size, 0, none⟩ = some (.int .u64 (fin y).id) := l1.cell 0 rfl
  have CH := children_at f sb X K rvv R fin KN W1 (hF.below b1) nd y hy kn kl
  obtain ⟨n, hn⟩ : ∃ n, (KN y).length = n := ⟨_, rfl⟩
  rw [hn] at CH
  have hn1 : (n : Int) ≤ 1000 := by omega
  have ND : Hid (∀ (i : Nat) (hi : i < n), ∃ c, (∀ w rc, Blk w rc (fillC .u64 ((KN y).map (fun c => (fin c).id)) 0) 31 → w.cell? ⟨rc, i, none⟩ = some (.int .u64 (fin c).id)) ∧ ¬ ((fin c).fr < (fin c).til ∧ (fin c).fr < b ∧ a < (fin c).til) ∧ ∀ wr, Below W.heap.size W wr → Calls Tryz.prog 8 #[.pointer (some ⟨f, 0, none⟩), .int .u64 (fin c).id] wr fun e w' => e = .returned (.tuple #[ndV (fin c), .bool true]) ∧ Below wr.heap.size wr w') := fun i hi => by
    have hi' : i < (KN y).length := by omega
    have hc := kl _ (List.getElem_mem hi')
    refine ⟨(KN y)[i], fun w rc hB => hB.cell i (by simp [fillC, hi']), hno _ (List.getElem_mem hi'), fun wr hb => ?_⟩
    have := node_at (hF.below hb) _ hc (fin (KN y)[i]).id (by rw [nd _ hc])
    rwa [nd _ hc] at this
  have HB1 : Hid (Below W.heap.size W W1 ∧ Blk W1 W.heap.size #[.int .u64 (fin y).id, .int .i64 a, .int .i64 b] 43) := ⟨b1, l1⟩
  clear hF nd hy kn kl kn1 hno b1 l1 hn
  go_enter Tryz.func10, Tryz.ntmps10
  go_upto_region 1 with fail
  (try rw [hW1])
  go_wp2_with (go_at_call 24; refine CH.mono ?_; clear CH; rintro e wd ⟨rc, rfl, hrc, hrl, hbd⟩; have HST : Hid (Below W.heap.size W wd ∧ Blk wd rc (fillC .u64 ((KN y).map (fun c => (fin c).id)) 0) 31 ∧ Blk wd W.heap.size #[.int .u64 (fin y).id, .int .i64 a, .int .i64 b] 43) := ⟨HB1.out.1.trans (hbd.mono HB1.out.1.size), hrc, HB1.out.2.below hbd HB1.out.2.lt⟩; clear hrc hrl hbd HB1)
  go_loopw [6] (fun z wr => ∃ i : Nat, z = .int .i64 i ∧ i ≤ n ∧ Below W.heap.size W wr ∧ Blk wr rc (fillC .u64 ((KN y).map (fun c => (fin c).id)) 0) 31 ∧ Blk wr W.heap.size #[.int .u64 (fin y).id, .int .i64 a, .int .i64 b] 43) (fun z _ => n - (intOf z).toNat)
  case atStart => exact ⟨0, rfl, by omega, HST.out⟩
  case round =>
    obtain ⟨i, rfl, hin, hb, hr, hl⟩ := hrel
    have HWR : Hid (Below W.heap.size W wr ∧ Blk wr rc (fillC .u64 ((KN y).map (fun c => (fin c).id)) 0) 31 ∧ Blk wr W.heap.size #[.int .u64 (fin y).id, .int .i64 a, .int .i64 b] 43) := ⟨hb, hr, hl⟩
    by_cases hlt : i < n
    · obtain ⟨c, cr, hno, NC⟩ := ND.out i hlt
      have cr := cr wr rc hr
      have hin' : (i : Int) < (n : Int) := by omega
      clear hb hr hl ND HST c0
      by_cases h1 : (fin c).fr < (fin c).til
      · have d1 : decide ((fin c).fr < (fin c).til) = true := decide_eq_true h1
        by_cases h2 : (fin c).fr < b
        · have d2 : decide ((fin c).fr < b) = true := decide_eq_true h2
          have h3 : ¬ a < (fin c).til := fun h => hno ⟨h1, h2, h⟩
          have d3 : decide (a < (fin c).til) = false := decide_eq_false h3
          clear hno
          go_wp2_with (go_at_call 8; refine (NC wr HWR.out.1).mono ?_; clear NC; rintro e w2 ⟨rfl, hb2⟩; unfold ndV; have H2 : Hid (∀ o, Below W.heap.size W (w2.alloc o) ∧ Blk (w2.alloc o) rc (fillC .u64 ((KN y).map (fun c => (fin c).id)) 0) 31 ∧ Blk (w2.alloc o) W.heap.size #[.int .u64 (fin y).id, .int .i64 a, .int .i64 b] 43) := (fun o => ⟨(HWR.out.1.trans (hb2.mono HWR.out.1.size)).alloc (by have := HWR.out.1.size; have := hb2.size; omega) o, (HWR.out.2.1.below hb2 HWR.out.2.1.lt).alloc o, (HWR.out.2.2.below hb2 HWR.out.2.2.lt).alloc o⟩); have k1 := fun (o : Obj) => (H2.out o).2.2.cell 1 rfl; have k2 := fun (o : Obj) => (H2.out o).2.2.cell 2 rfl; clear hb2)
          go_wp2
          go_roundw
          case rel => exact ⟨i + 1, by simp, by omega, H2.out _⟩
          case measure => (simp [intOf]; try omega)
        · have d2 : decide ((fin c).fr < b) = false := decide_eq_false h2
          clear hno
          go_wp2_with (go_at_call 8; refine (NC wr HWR.out.1).mono ?_; clear NC; rintro e w2 ⟨rfl, hb2⟩; unfold ndV; have H2 : Hid (∀ o, Below W.heap.size W (w2.alloc o) ∧ Blk (w2.alloc o) rc (fillC .u64 ((KN y).map (fun c => (fin c).id)) 0) 31 ∧ Blk (w2.alloc o) W.heap.size #[.int .u64 (fin y).id, .int .i64 a, .int .i64 b] 43) := (fun o => ⟨(HWR.out.1.trans (hb2.mono HWR.out.1.size)).alloc (by have := HWR.out.1.size; have := hb2.size; omega) o, (HWR.out.2.1.below hb2 HWR.out.2.1.lt).alloc o, (HWR.out.2.2.below hb2 HWR.out.2.2.lt).alloc o⟩); have k1 := fun (o : Obj) => (H2.out o).2.2.cell 1 rfl; have k2 := fun (o : Obj) => (H2.out o).2.2.cell 2 rfl; clear hb2)
          go_wp2
          go_roundw
          case rel => exact ⟨i + 1, by simp, by omega, H2.out _⟩
          case measure => (simp [intOf]; try omega)
      · have d1 : decide ((fin c).fr < (fin c).til) = false := decide_eq_false h1
        clear hno
        go_wp2_with (go_at_call 8; refine (NC wr HWR.out.1).mono ?_; clear NC; rintro e w2 ⟨rfl, hb2⟩; unfold ndV; have H2 : Hid (∀ o, Below W.heap.size W (w2.alloc o) ∧ Blk (w2.alloc o) rc (fillC .u64 ((KN y).map (fun c => (fin c).id)) 0) 31 ∧ Blk (w2.alloc o) W.heap.size #[.int .u64 (fin y).id, .int .i64 a, .int .i64 b] 43) := (fun o => ⟨(HWR.out.1.trans (hb2.mono HWR.out.1.size)).alloc (by have := HWR.out.1.size; have := hb2.size; omega) o, (HWR.out.2.1.below hb2 HWR.out.2.1.lt).alloc o, (HWR.out.2.2.below hb2 HWR.out.2.2.lt).alloc o⟩); have k1 := fun (o : Obj) => (H2.out o).2.2.cell 1 rfl; have k2 := fun (o : Obj) => (H2.out o).2.2.cell 2 rfl; clear hb2)
        go_wp2
        go_roundw
        case rel => exact ⟨i + 1, by simp, by omega, H2.out _⟩
        case measure => (simp [intOf]; try omega)
    · have hni : ¬ (i : Int) < (n : Int) := by omega
      have HB : Hid (Below W.heap.size W wr) := hb
      clear hb hr hl ND HST hin hlt HWR
      go_wp2
      go_ret
      exact ⟨rfl, HB.out⟩
end Go.Proofs.YtplbaiibocgpnaaGreatDoor

namespace Go.Proofs.YtplbaiibocgpnaaGreatDoor
open Go Go.RowKit
set_option maxRecDepth 100000

/-- What is so of a leg. -/
structure LegK (Y : List Sp) (fin : Nat → Nod) (K : Nat → List Int) (x : Nat) (M : List (Nat × Int × Int)) (k : Nat) (y : Nat) (a b : Int) : Prop where
  yY : y < Y.length
  tree : (fin y).tree = (fin x).tree
  fr : (fin y).fr ≤ a
  til : b ≤ (fin y).til
  ab : a < b
  adj : ∀ (_ : 0 < k) (h' : k - 1 < M.length), (fin M[k - 1].1).id ≠ (fin y).id
  free : ∀ c ∈ knK K y, ¬ ((fin c).fr < (fin c).til ∧ (fin c).fr < b ∧ a < (fin c).til)
theorem FoB.idInj {Y : List Sp} {C : List Int} {dp : Nat → Nat} {fin : Nat → Nod} {X : List Spot} {K : Nat → List Int} {R : List Int} (h : FoB Y C dp fin X K R) {i j : Nat} (hi : i < Y.length) (hj : j < Y.length) (e : (fin i).id = (fin j).id) : i = j := by
  have hl := h.fo.len
  refine rise_same h.rise (by omega) (by omega) ?_
  rw [(h.fo.each i hi (by omega)).2, (h.fo.each j hj (by omega)).2]
  exact e
/-- The legs of a root, in the order of time. -/
theorem FoB.legs {Y : List Sp} {C : List Int} {dp : Nat → Nat} {fin : Nat → Nod} {X : List Spot} {K : Nat → List Int} {R : List Int} (h : FoB Y C dp fin X K R) {x : Nat} (hx : x < Y.length) {L : List (Nat × Int × Int)} (hP : PathR fin (cnK fin K) x (fin x).til L) :
    TileF (fin x).til (fin x).fr L.reverse ∧ ∀ k (hk : k < L.reverse.length) (at_ : Int), TileF (fin x).til at_ (L.reverse.drop k) → L.reverse[k].2.1 = at_ ∧ TileF (fin x).til L.reverse[k].2.2 (L.reverse.drop (k + 1)) ∧ LegK Y fin K x L.reverse k L.reverse[k].1 L.reverse[k].2.1 L.reverse[k].2.2 := by
  have hi := h.inn (dp x) x rfl hx
  obtain ⟨t1, t2, t3⟩ := hP.tiles h.nest hx hi.2.1 (Int.le_refl _)
  have t2' := AdjN.rev L t2
  refine ⟨t1.rev, fun k hk at_ hT => ?_⟩
  have hm : L.reverse[k] ∈ L := List.mem_reverse.1 (List.getElem_mem hk)
  have hb := h.bel (hP.bel _ hm) hx
  obtain ⟨g1, g2, g3⟩ := t3 _ hm
  rw [List.drop_eq_getElem_cons hk] at hT
  obtain ⟨e1, e2, e3⟩ := hT
  refine ⟨e1, e3, hb.1, hb.2.1, g1, g2, e2, fun h0 h1 e => ?_, fun c hc hh => ?_⟩
  · have hm1 : L.reverse[k - 1] ∈ L := List.mem_reverse.1 (List.getElem_mem h1)
    have hb1 := h.bel (hP.bel _ hm1) hx
    have := t2'.at_ _ (k - 1) (by omega)
    have hk1 : k - 1 + 1 = k := by omega
    simp only [hk1] at this
    exact this (h.idInj hb1.1 hb.1 e)
  · exact g3 c (List.mem_filter.2 ⟨hc, decide_eq_true hh.1⟩) ⟨hh.2.1, hh.2.2⟩
/-- A root. -/
theorem FoB.root {Y : List Sp} {C : List Int} {dp : Nat → Nat} {fin : Nat → Nod} {X : List Spot} {K : Nat → List Int} {R : List Int} (h : FoB Y C dp fin X K R) (z : Int) (hz : z ∈ R) : ∃ x : Nat, z = (x : Int) ∧ x < Y.length ∧ (fin x).org ≠ 0 ∧ (fin x).tree = (fin x).id := by
  have hcl : (cutX C (zs Y)).length = Y.length := by rw [cutX_len, zs_len]
  obtain ⟨x, rfl, hx, hn⟩ := kidsF_iff.1 (h.fo.roots.1.mem_iff.2 hz)
  have := (h.sh.rt x (by omega) hn).2
  refine ⟨x, rfl, hx, ?_, ?_⟩
  · rw [this]
    unfold rootN
    simp only
    split
    · omega
    · split <;> omega
  · rw [this]
    rfl
theorem FoB.idsR {Y : List Sp} {C : List Int} {dp : Nat → Nat} {fin : Nat → Nod} {X : List Spot} {K : Nat → List Int} {R : List Int} (h : FoB Y C dp fin X K R) (i : Nat) (hi : i < R.length) : ∃ x : Nat, x < Y.length ∧ (fin x).org ≠ 0 ∧ (fin x).tree = (fin x).id ∧ ∀ w rc, Blk w rc (fillC .u64 (idsOf X R) 0) 31 → w.cell? ⟨rc, i, none⟩ = some (.int .u64 (fin x).id) := by
  obtain ⟨x, hz, hx, h1, h2⟩ := h.root R[i] (List.getElem_mem hi)
  refine ⟨x, hx, h1, h2, fun w rc hB => hB.cell i ?_⟩
  have hl := h.fo.len
  have e := (h.fo.each x hx (by omega)).2
  simp [fillC, idsOf, hi, hz, hl, hx, e]
end Go.Proofs.YtplbaiibocgpnaaGreatDoor
