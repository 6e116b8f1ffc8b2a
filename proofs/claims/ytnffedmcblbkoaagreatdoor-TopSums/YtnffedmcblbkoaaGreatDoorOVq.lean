/-
  Merged: OV, OW.
-/
import Derived.Test.YtnffedmcblbkoaaGreatDoorORq
import Derived.Test.YtnffedmcblbkoaaGreatDoorPAq
import Derived.Test.YtnffedmcblbkoaaGreatDoorRAq
namespace Go.Proofs.YtnffedmcblbkoaaGreatDoor
open Go Go.RowKit Go.Lib
set_option maxRecDepth 100000
def runB (fin : Nat → Nod) (t : Int) (c : Nat) : Bool := decide ((fin c).fr ≤ t) && decide (t < (fin c).til)
def lastR (fin : Nat → Nod) (t : Int) (L : List Nat) : Option Nat := (L.filter (runB fin t)).getLast?
def ownF (fin : Nat → Nod) (S : Nat → List Nat) (t : Int) : Nat → Nat → Nat
 | 0, x => x
 | fu + 1, x => match lastR fin t (S x) with
  | none => x
  | some c => ownF fin S t fu c
def StN (fin : Nat → Nod) (S : List Nat) (T : Int) (w r : List Nat) : Prop :=
 ∃ A, S = A ++ w ∧ r.Sublist A ∧ (∀ c ∈ A, (fin c).fr ≤ T) ∧ ∀ c ∈ A, c ∉ r → (fin c).til ≤ T
theorem StN.mono {fin : Nat → Nod} {S : List Nat} {T T' : Int} {w r : List Nat} (h : StN fin S T w r) (hT : T ≤ T') : StN fin S T' w r := by
 obtain ⟨A, h1, h2, h3, h4⟩ := h
 exact ⟨A, h1, h2, fun c hc => Int.le_trans (h3 c hc) hT, fun c hc hr => Int.le_trans (h4 c hc hr) hT⟩
theorem StN.start (fin : Nat → Nod) (S : List Nat) (T : Int) : StN fin S T S [] := ⟨[], rfl, List.Sublist.refl _, (fun _ h => by cases h), (fun _ h => by cases h)⟩
theorem moveM_spec (fin : Nat → Nod) (t : Int) : ∀ (w r : List Nat), ∃ M, w = M ++ (moveM fin t w r).1 ∧ (moveM fin t w r).2 = r ++ M ∧ (∀ c ∈ M, (fin c).fr ≤ t) ∧ ∀ c, (moveM fin t w r).1.head? = some c → ¬ (fin c).fr ≤ t
 | [], r => ⟨[], rfl, by simp [moveM], (fun _ h => by cases h), (fun c h => by simp [moveM] at h)⟩
 | c :: w, r => by
  by_cases h : (fin c).fr ≤ t
  ·obtain ⟨M, m1, m2, m3, m4⟩ := moveM_spec fin t w (r ++ [c])
   have e : moveM fin t (c :: w) r = moveM fin t w (r ++ [c]) := by simp [moveM, h]
   rw [e]
   refine ⟨c :: M, by rw [List.cons_append, ← m1], by rw [m2]; simp, fun d hd => ?_, m4⟩
   rcases List.mem_cons.1 hd with rfl | hd
   ·exact h
   ·exact m3 d hd
  ·have e : moveM fin t (c :: w) r = (c :: w, r) := by simp [moveM, h]
   rw [e]
   exact ⟨[], rfl, by simp, (fun _ h => by cases h), (fun d hd => by simp at hd; subst hd; exact h)⟩
theorem popR_spec (fin : Nat → Nod) (t : Int) : ∀ (l : List Nat), ∃ P, l = P ++ popR fin t l ∧ (∀ c ∈ P, (fin c).til ≤ t) ∧ ∀ c, (popR fin t l).head? = some c → t < (fin c).til
 | [] => ⟨[], rfl, (fun _ h => by cases h), (fun c h => by simp [popR] at h)⟩
 | c :: l => by
  by_cases h : t < (fin c).til
  ·have e : popR fin t (c :: l) = c :: l := by simp [popR, h]
   rw [e]
   exact ⟨[], rfl, (fun _ h => by cases h), (fun d hd => by simp at hd; subst hd; exact h)⟩
  ·obtain ⟨P, p1, p2, p3⟩ := popR_spec fin t l
   have e : popR fin t (c :: l) = popR fin t l := by simp [popR, h]
   rw [e]
   refine ⟨c :: P, by rw [List.cons_append, ← p1], fun d hd => ?_, p3⟩
   rcases List.mem_cons.1 hd with rfl | hd
   ·omega
   ·exact p2 d hd
theorem popM_spec (fin : Nat → Nod) (t : Int) (r : List Nat) : ∃ P, r = popM fin t r ++ P ∧ (∀ c ∈ P, (fin c).til ≤ t) ∧ ∀ c, (popM fin t r).getLast? = some c → t < (fin c).til := by
 obtain ⟨P, p1, p2, p3⟩ := popR_spec fin t r.reverse
 refine ⟨P.reverse, ?_, fun c hc => p2 c (by simpa using hc), fun c hc => p3 c ?_⟩
 ·unfold popM
  rw [← List.reverse_append, ← p1, List.reverse_reverse]
 ·unfold popM at hc
  rw [List.getLast?_reverse] at hc
  exact hc
theorem filter_subl {p : Nat → Bool} {r A : List Nat} (h : r.Sublist A) : A.Nodup → (∀ c ∈ A, p c = true → c ∈ r) → A.filter p = r.filter p := by
 induction h with
 | slnil => exact fun _ _ => rfl
 | @cons r A a h ih =>
  intro hn hp
  rw [List.nodup_cons] at hn
  have ha : ¬ p a = true := fun e => hn.1 (h.subset (hp a (by simp) e))
  rw [List.filter_cons_of_neg ha]
  exact ih hn.2 (fun c hc e => hp c (by simp [hc]) e)
 | @cons_cons r A a h ih =>
  intro hn hp
  rw [List.nodup_cons] at hn
  have ih' := ih hn.2 (fun c hc e => by
   rcases List.mem_cons.1 (hp c (by simp [hc]) e) with q | q
   ·subst q; exact absurd hc hn.1
   ·exact q)
  rw [List.filter_cons, List.filter_cons, ih']
theorem next_spec {fin : Nat → Nod} {S : List Nat} {T t : Int} {w r : List Nat} (h : StN fin S T w r) (hT : T ≤ t) (hs : S.Pairwise (fun a b => ltG (fin a) (fin b))) (hn : S.Nodup) : (nextM fin t w r).1 = lastR fin t S ∧ StN fin S t (nextM fin t w r).2.1 (nextM fin t w r).2.2 := by
 obtain ⟨A, hS, hr, h1, h2⟩ := h
 obtain ⟨M, m1, m2, m3, m4⟩ := moveM_spec fin t w r
 obtain ⟨P, p1, p2, p3⟩ := popM_spec fin t (moveM fin t w r).2
 show (popM fin t (moveM fin t w r).2).getLast? = _ ∧ StN fin S t (moveM fin t w r).1 (popM fin t (moveM fin t w r).2)
 obtain ⟨w', hw'⟩ : ∃ x, (moveM fin t w r).1 = x := ⟨_, rfl⟩
 obtain ⟨r2, hr2⟩ : ∃ x, popM fin t (moveM fin t w r).2 = x := ⟨_, rfl⟩
 rw [hr2] at p1 p3 ⊢
 rw [hw'] at m1 m4 ⊢
 rw [m2] at p1
 have hSA : S = (A ++ M) ++ w' := by rw [hS, m1, List.append_assoc]
 have sub : r2.Sublist (A ++ M) := by
  have s1 : r2.Sublist (r ++ M) := by rw [p1]; exact List.sublist_append_left _ _
  exact s1.trans (hr.append (List.Sublist.refl M))
 have hfr : ∀ c ∈ A ++ M, (fin c).fr ≤ t := fun c hc => by
  rcases List.mem_append.1 hc with q | q
  ·have := h1 c q; omega
  ·exact m3 c q
 have gone : ∀ c ∈ A ++ M, c ∉ r2 → (fin c).til ≤ t := fun c hc hno => by
  have hP : c ∈ r ++ M → (fin c).til ≤ t := fun q => by
   rw [p1] at q
   rcases List.mem_append.1 q with q | q
   ·exact absurd q hno
   ·exact p2 c q
  rcases List.mem_append.1 hc with q | q
  ·by_cases hcr : c ∈ r
   ·exact hP (List.mem_append.2 (Or.inl hcr))
   ·have := h2 c q hcr; omega
  ·exact hP (List.mem_append.2 (Or.inr q))
 refine ⟨?_, A ++ M, hSA, sub, hfr, gone⟩
 have hw0 : ∀ c ∈ w', ¬ runB fin t c = true := fun c hc e => by
  unfold runB at e
  simp only [Bool.and_eq_true, decide_eq_true_eq] at e
  cases w' with
  | nil => cases hc
  | cons d l =>
   have hd := m4 d rfl
   rcases List.mem_cons.1 hc with rfl | hc
   ·exact hd e.1
   ·rw [hSA] at hs
    have := (List.pairwise_append.1 hs).2.1
    have := (List.pairwise_cons.1 this).1 c hc
    unfold ltG at this
    omega
 have hf : S.filter (runB fin t) = r2.filter (runB fin t) := by
  rw [hSA, List.filter_append, List.filter_eq_nil_iff.2 hw0, List.append_nil]
  refine filter_subl sub ?_ (fun c hc e => ?_)
  ·rw [hSA] at hn
   exact (List.nodup_append.1 hn).1
  ·by_cases q : c ∈ r2
   ·exact q
   ·have := gone c hc q
    unfold runB at e
    simp only [Bool.and_eq_true, decide_eq_true_eq] at e
    omega
 unfold lastR
 rw [hf]
 rcases List.eq_nil_or_concat r2 with e | ⟨l, c, e⟩
 ·subst e; rfl
 ·rw [List.concat_eq_append] at e
  subst e
  have hc : runB fin t c = true := by
   unfold runB
   simp only [Bool.and_eq_true, decide_eq_true_eq]
   exact ⟨hfr c (sub.subset (by simp)), p3 c (by simp)⟩
  rw [List.filter_append, List.filter_cons_of_pos hc]
  simp
structure KidS (fin : Nat → Nod) (S : Nat → List Nat) (D : Nat → Prop) (mu : Nat → Nat) : Prop where
 sort : ∀ y, D y → (S y).Pairwise (fun a b => ltG (fin a) (fin b))
 nd : ∀ y, D y → (S y).Nodup
 kid : ∀ y, D y → ∀ c ∈ S y, D c ∧ mu c < mu y
theorem lastR_some {fin : Nat → Nod} {t : Int} {L : List Nat} {c : Nat} (h : lastR fin t L = some c) : c ∈ L ∧ runB fin t c = true := by
 unfold lastR at h
 exact List.mem_filter.1 (List.mem_of_getLast? h)
theorem lastR_none {fin : Nat → Nod} {t : Int} {L : List Nat} (h : lastR fin t L = none) : ∀ c ∈ L, runB fin t c = false := by
 unfold lastR at h
 rw [List.getLast?_eq_none_iff, List.filter_eq_nil_iff] at h
 intro c hc
 have := h c hc
 simpa using this
theorem owner_spec {fin : Nat → Nod} {S : Nat → List Nat} {D : Nat → Prop} {mu : Nat → Nat} (hK : KidS fin S D mu) (t : Int) : ∀ (fu x : Nat) (T : Int) (sw sr : Nat → List Nat), T ≤ t → D x → (∀ y, D y → StN fin (S y) T (sw y) (sr y)) → (ownerM fin t fu sw sr x).1 = ownF fin S t fu x ∧ ∀ y, D y → StN fin (S y) t ((ownerM fin t fu sw sr x).2.1 y) ((ownerM fin t fu sw sr x).2.2 y)
 | 0, x, T, sw, sr, hT, _, h => ⟨rfl, fun y hy => (h y hy).mono hT⟩
 | fu + 1, x, T, sw, sr, hT, hx, h => by
  obtain ⟨n1, n2⟩ := next_spec (h x hx) hT (hK.sort x hx) (hK.nd x hx)
  have hup : ∀ y, D y → StN fin (S y) t (upF sw x (nextM fin t (sw x) (sr x)).2.1 y) (upF sr x (nextM fin t (sw x) (sr x)).2.2 y) := fun y hy => by
   by_cases e : y = x
   ·subst e
    rw [upF_same, upF_same]
    exact n2
   ·rw [upF_ne _ _ e, upF_ne _ _ e]
    exact (h y hy).mono hT
  cases hl : lastR fin t (S x) with
  | none =>
   rw [hl] at n1
   have e : ownerM fin t (fu + 1) sw sr x = (x, upF sw x (nextM fin t (sw x) (sr x)).2.1, upF sr x (nextM fin t (sw x) (sr x)).2.2) := by
    rw [ownerM, n1]
   have e2 : ownF fin S t (fu + 1) x = x := by rw [ownF, hl]
   rw [e, e2]
   exact ⟨rfl, hup⟩
  | some c =>
   rw [hl] at n1
   have e : ownerM fin t (fu + 1) sw sr x = ownerM fin t fu (upF sw x (nextM fin t (sw x) (sr x)).2.1) (upF sr x (nextM fin t (sw x) (sr x)).2.2) c := by
    rw [ownerM, n1]
   have e2 : ownF fin S t (fu + 1) x = ownF fin S t fu c := by rw [ownF, hl]
   rw [e, e2]
   exact owner_spec hK t fu c t _ _ (Int.le_refl _) (hK.kid x hx c (lastR_some hl).1).1 hup
theorem ownF_spec {fin : Nat → Nod} {S : Nat → List Nat} {D : Nat → Prop} {mu : Nat → Nat} (hK : KidS fin S D mu) (t : Int) : ∀ (fu x : Nat), D x → mu x < fu → runB fin t x = true → D (ownF fin S t fu x) ∧ runB fin t (ownF fin S t fu x) = true ∧ (∀ c ∈ S (ownF fin S t fu x), runB fin t c = false) ∧ mu (ownF fin S t fu x) ≤ mu x
 | 0, x, _, h, _ => by omega
 | fu + 1, x, hx, hm, hr => by
  cases hl : lastR fin t (S x) with
  | none =>
   have e2 : ownF fin S t (fu + 1) x = x := by rw [ownF, hl]
   rw [e2]
   exact ⟨hx, hr, lastR_none hl, Nat.le_refl _⟩
  | some c =>
   have e2 : ownF fin S t (fu + 1) x = ownF fin S t fu c := by rw [ownF, hl]
   have hc := hK.kid x hx c (lastR_some hl).1
   have := ownF_spec hK t fu c hc.1 (by omega) (lastR_some hl).2
   rw [e2]
   exact ⟨this.1, this.2.1, this.2.2.1, by omega⟩
theorem ownF_same {fin : Nat → Nod} {S : Nat → List Nat} {D : Nat → Prop} {mu : Nat → Nat} (hK : KidS fin S D mu) (s t : Int) (he : ∀ y, D y → runB fin s y = runB fin t y) : ∀ (fu x : Nat), D x → ownF fin S s fu x = ownF fin S t fu x
 | 0, _, _ => rfl
 | fu + 1, x, hx => by
  have hl : lastR fin s (S x) = lastR fin t (S x) := by
   unfold lastR
   congr 1
   exact List.filter_congr (fun c hc => he c (hK.kid x hx c hc).1)
  rw [ownF, ownF, hl]
  cases h : lastR fin t (S x) with
  | none => rfl
  | some c => exact ownF_same hK s t he fu c (hK.kid x hx c (lastR_some h).1).1
def stepN (N : List LegN) (y : Nat) (a b : Int) : List LegN :=
 match N.getLast? with
 | some l => if l.1 = y then N.dropLast ++ [(l.1, l.2.1, b)] else N ++ [(y, a, b)]
 | none => [(y, a, b)]
def foldN (o : Int → Nat) : List Int → List LegN → List LegN
 | a :: b :: r, N => foldN o (b :: r) (stepN N (o a) a b)
 | [_], N => N
 | [], N => N
def legI (fin : Nat → Nod) (l : LegN) : Int × Int × Int := ((fin l.1).id, l.2.1, l.2.2)
theorem stepL_map {fin : Nat → Nod} {D : Nat → Prop} (inj : ∀ a b, D a → D b → (fin a).id = (fin b).id → a = b) {N : List LegN} (hN : ∀ l ∈ N, D l.1) {y : Nat} (hy : D y) (a b : Int) : stepL (N.map (legI fin)) (fin y).id a b = (stepN N y a b).map (legI fin) := by
 rcases List.eq_nil_or_concat N with e | ⟨M, l, e⟩
 ·subst e; rfl
 ·rw [List.concat_eq_append] at e
  subst e
  have hl := hN l (by simp)
  unfold stepL stepN
  rw [List.map_append, List.map_singleton, List.getLast?_append, List.getLast?_append]
  simp only [List.getLast?_singleton, Option.some_or]
  by_cases h : l.1 = y
  ·have h' : (legI fin l).1 = (fin y).id := by unfold legI; rw [h]
   rw [if_pos h, if_pos h', List.dropLast_concat, List.dropLast_concat, List.map_append]
   rfl
  ·have h' : ¬ (legI fin l).1 = (fin y).id := fun e => h (inj _ _ hl hy e)
   rw [if_neg h, if_neg h', List.map_append, List.map_append]
   rfl
theorem stepN_mem {N : List LegN} {y : Nat} {a b : Int} {l : LegN} (h : l ∈ stepN N y a b) : l.1 = y ∨ ∃ l' ∈ N, l'.1 = l.1 := by
 rcases List.eq_nil_or_concat N with e | ⟨M, k, e⟩
 ·subst e
  unfold stepN at h
  simp at h
  exact Or.inl (by rw [h])
 ·rw [List.concat_eq_append] at e
  subst e
  unfold stepN at h
  simp only [List.getLast?_append, List.getLast?_singleton, Option.some_or, List.dropLast_concat] at h
  split at h
  ·rcases List.mem_append.1 h with q | q
   ·exact Or.inr ⟨l, by simp [q], rfl⟩
   ·simp at q
    exact Or.inr ⟨k, by simp, by rw [q]⟩
  ·rcases List.mem_append.1 h with q | q
   ·exact Or.inr ⟨l, q, rfl⟩
   ·simp at q
    exact Or.inl (by rw [q])
theorem stepN_len (N : List LegN) (y : Nat) (a b : Int) : (stepN N y a b).length ≤ N.length + 1 := by
 rcases List.eq_nil_or_concat N with e | ⟨M, k, e⟩
 ·subst e; simp [stepN]
 ·rw [List.concat_eq_append] at e
  subst e
  unfold stepN
  simp only [List.getLast?_append, List.getLast?_singleton, Option.some_or, List.dropLast_concat]
  split <;> simp
theorem foldN_len (o : Int → Nat) : ∀ (M : List Int) (N : List LegN), (foldN o M N).length ≤ N.length + M.length
 | [], N => Nat.le_refl _
 | [_], N => by simp [foldN]
 | a :: b :: r, N => by
  have h1 := foldN_len o (b :: r) (stepN N (o a) a b)
  have h2 := stepN_len N (o a) a b
  rw [foldN]
  simp only [List.length_cons] at h1 ⊢
  omega
theorem legs_fold {fin : Nat → Nod} {S : Nat → List Nat} {D : Nat → Prop} {mu : Nat → Nat} (hK : KidS fin S D mu) (inj : ∀ a b, D a → D b → (fin a).id = (fin b).id → a = b) {fu x : Nat} (hx : D x) (hm : mu x < fu) : ∀ (M : List Int) (T : Int) (sw sr : Nat → List Nat) (N : List LegN), M.Pairwise (· < ·) → (∀ m ∈ M, T ≤ m) → (∀ a b r, M = a :: b :: r → ∀ m ∈ (a :: b :: r).dropLast, runB fin m x = true) → (∀ y, D y → StN fin (S y) T (sw y) (sr y)) → (∀ l ∈ N, D l.1) → legsM fin fu x M sw sr (N.map (legI fin)) = (foldN (fun t => ownF fin S t fu x) M N).map (legI fin)
 | [], _, _, _, _, _, _, _, _, _ => rfl
 | [_], _, _, _, _, _, _, _, _, _ => rfl
 | a :: b :: r, T, sw, sr, N, hp, hT, hrun, hst, hN => by
  obtain ⟨o1, o2⟩ := owner_spec hK a fu x T sw sr (hT a (by simp)) hx hst
  have hra := hrun a b r rfl a (by simp [List.dropLast])
  have hD := (ownF_spec hK a fu x hx hm hra).1
  rw [legsM, o1, stepL_map inj hN hD, foldN]
  rw [List.pairwise_cons] at hp
  refine legs_fold hK inj hx hm (b :: r) a _ _ _ hp.2 (fun m hm => Int.le_of_lt (hp.1 m hm)) (fun c d s e m hm => ?_) o2 (fun l hl => ?_)
  ·injection e with e1 e2
   subst e1
   subst e2
   exact hrun a b (d :: s) rfl m (by rw [List.dropLast_cons_cons]; exact List.mem_cons_of_mem _ hm)
  ·rcases stepN_mem hl with q | ⟨l', h1, h2⟩
   ·rw [q]; exact hD
   ·rw [← h2]; exact hN l' h1
theorem tile_app {hi : Int} {y : Nat} {s e : Int} : ∀ (lo : Int) (L : List LegN), TileF hi lo (L ++ [(y, s, e)]) ↔ (e = hi ∧ s < e ∧ TileF s lo L)
 | lo, [] => by
  show (s = lo ∧ s < e ∧ e = hi) ↔ (e = hi ∧ s < e ∧ lo = s)
  constructor
  ·rintro ⟨h1, h2, h3⟩; exact ⟨h3, h2, h1.symm⟩
  ·rintro ⟨h1, h2, h3⟩; exact ⟨h3.symm, h2, h1⟩
 | lo, (z, a, b) :: L => by
  have ih := tile_app b L (hi := hi) (y := y) (s := s) (e := e)
  show (a = lo ∧ a < b ∧ TileF hi b (L ++ [(y, s, e)])) ↔ (e = hi ∧ s < e ∧ a = lo ∧ a < b ∧ TileF s b L)
  rw [ih]
  constructor
  ·rintro ⟨h1, h2, h3, h4, h5⟩; exact ⟨h3, h4, h1, h2, h5⟩
  ·rintro ⟨h1, h2, h3, h4, h5⟩; exact ⟨h3, h4, h1, h2, h5⟩
theorem adj_end {x y : LegN} (e : x.1 = y.1) : ∀ (L : List LegN), AdjN (L ++ [x]) → AdjN (L ++ [y])
 | [], _ => trivial
 | [_], h => ⟨fun q => h.1 (q.trans e.symm), trivial⟩
 | _ :: u :: L, h => ⟨h.1, adj_end e (u :: L) h.2⟩
theorem adj_more {x y : LegN} (e : x.1 ≠ y.1) : ∀ (L : List LegN), AdjN (L ++ [x]) → AdjN (L ++ [x] ++ [y])
 | [], _ => ⟨e, trivial⟩
 | [_], h => ⟨h.1, e, trivial⟩
 | _ :: u :: L, h => ⟨h.1, adj_more e (u :: L) h.2⟩
structure LegT (o : Int → Nat) (lo cur : Int) (N : List LegN) : Prop where
 tile : TileF cur lo N
 adj : AdjN N
 own : ∀ l ∈ N, ∀ t, l.2.1 ≤ t → t < l.2.2 → o t = l.1
theorem LegT.step {o : Int → Nat} {lo a b : Int} {N : List LegN} (h : LegT o lo a N) (hab : a < b) (ho : ∀ t, a ≤ t → t < b → o t = o a) : LegT o lo b (stepN N (o a) a b) := by
 rcases List.eq_nil_or_concat N with e | ⟨M, ⟨y, s, f⟩, e⟩
 ·subst e
  have hl : lo = a := h.tile
  refine ⟨⟨hl.symm, hab, rfl⟩, trivial, fun l hl t h1 h2 => ?_⟩
  unfold stepN at hl
  simp at hl
  subst hl
  exact ho t h1 h2
 ·rw [List.concat_eq_append] at e
  subst e
  obtain ⟨t1, t2, t3⟩ := (tile_app lo M).1 h.tile
  subst t1
  unfold stepN
  simp only [List.getLast?_append, List.getLast?_singleton, Option.some_or, List.dropLast_concat]
  by_cases hy : y = o f
  ·rw [if_pos hy]
   refine ⟨(tile_app lo M).2 ⟨rfl, by omega, t3⟩, adj_end (x := (y, s, f)) (y := (y, s, b)) rfl M h.adj, fun l hl t h1 h2 => ?_⟩
   rcases List.mem_append.1 hl with q | q
   ·exact h.own l (by simp [q]) t h1 h2
   ·simp at q
    subst q
    simp only at h1 h2 ⊢
    by_cases h3 : t < f
    ·exact h.own (y, s, f) (by simp) t h1 h3
    ·rw [ho t (by omega) h2, hy]
  ·rw [if_neg hy]
   refine ⟨(tile_app lo _).2 ⟨rfl, hab, h.tile⟩, adj_more hy M h.adj, fun l hl t h1 h2 => ?_⟩
   rcases List.mem_append.1 hl with q | q
   ·exact h.own l q t h1 h2
   ·simp at q
    subst q
    exact ho t h1 h2
theorem LegT.fold {o : Int → Nat} {lo : Int} : ∀ (M : List Int) (a : Int) (N : List LegN), LegT o lo a N → (a :: M).Pairwise (· < ·) → (∀ i (h : i + 1 < (a :: M).length), ∀ t, (a :: M)[i] ≤ t → t < (a :: M)[i + 1] → o t = o ((a :: M)[i])) → LegT o lo ((a :: M).getLast (by simp)) (foldN o (a :: M) N)
 | [], a, N, h, _, _ => h
 | b :: M, a, N, h, hp, hc => by
  rw [foldN, List.getLast_cons (by simp)]
  rw [List.pairwise_cons] at hp
  refine LegT.fold M b _ (h.step (hp.1 b (by simp)) (fun t h1 h2 => hc 0 (by simp) t h1 h2)) hp.2 (fun i hi t h1 h2 => ?_)
  exact hc (i + 1) (by simpa using hi) t h1 h2
theorem TileF.leO {hi : Int} : ∀ (lo : Int) (N : List LegN), TileF hi lo N → lo ≤ hi ∧ ∀ l ∈ N, lo ≤ l.2.1 ∧ l.2.1 < l.2.2 ∧ l.2.2 ≤ hi
 | lo, [], h => by
  have e : lo = hi := h
  exact ⟨by omega, fun _ h => by cases h⟩
 | lo, (y, a, b) :: r, h => by
  obtain ⟨h1, h2, h3⟩ := h
  obtain ⟨i1, i2⟩ := TileF.leO b r h3
  refine ⟨by omega, fun l hl => ?_⟩
  rcases List.mem_cons.1 hl with rfl | hl
  ·exact ⟨by simp only; omega, h2, i1⟩
  ·have := i2 l hl
   exact ⟨by omega, this.2.1, this.2.2⟩
theorem gap_mem {M : List Int} (hp : M.Pairwise (· < ·)) {i : Nat} (h : i + 1 < M.length) {v : Int} (hv : v ∈ M) : v ≤ M[i] ∨ M[i + 1] ≤ v := by
 obtain ⟨j, hj, rfl⟩ := List.mem_iff_getElem.1 hv
 have hq := List.pairwise_iff_getElem.1 hp
 by_cases h1 : j < i
 ·exact Or.inl (Int.le_of_lt (hq j i hj (by omega) h1))
 ·by_cases h2 : j = i
  ·subst h2; exact Or.inl (Int.le_refl _)
  ·by_cases h3 : j = i + 1
   ·subst h3; exact Or.inr (Int.le_refl _)
   ·exact Or.inr (Int.le_of_lt (hq (i + 1) j h hj (by omega)))
theorem legs_all {fin : Nat → Nod} {S : Nat → List Nat} {D : Nat → Prop} {mu : Nat → Nat} (hK : KidS fin S D mu) (inj : ∀ a b, D a → D b → (fin a).id = (fin b).id → a = b) {fu x : Nat} (hx : D x) (hm : mu x < fu) (hin : ∀ y, D y → (fin x).fr ≤ (fin y).fr ∧ (fin y).fr ≤ (fin y).til ∧ (fin y).til ≤ (fin x).til) {M : List Int} (hp : M.Pairwise (· < ·)) (hM : ∀ v, v ∈ M ↔ ∃ y, D y ∧ (v = (fin y).fr ∨ v = (fin y).til)) :
  legsM fin fu x M S (fun _ => []) [] = (foldN (fun t => ownF fin S t fu x) M []).map (legI fin) ∧ LegT (fun t => ownF fin S t fu x) (fin x).fr (fin x).til (foldN (fun t => ownF fin S t fu x) M []) ∧ (foldN (fun t => ownF fin S t fu x) M []).length ≤ M.length ∧ ∀ l ∈ foldN (fun t => ownF fin S t fu x) M [], D l.1 ∧ (fin l.1).fr ≤ l.2.1 ∧ l.2.1 < l.2.2 ∧ l.2.2 ≤ (fin l.1).til ∧ ∀ c ∈ S l.1, ∀ t, l.2.1 ≤ t → t < l.2.2 → runB fin t c = false := by
 have hlo : ∀ v ∈ M, (fin x).fr ≤ v ∧ v ≤ (fin x).til := fun v hv => by
  obtain ⟨y, hy, e⟩ := (hM v).1 hv
  have := hin y hy
  rcases e with rfl | rfl <;> omega
 cases M with
 | nil => exact absurd ((hM (fin x).fr).2 ⟨x, hx, Or.inl rfl⟩) (by simp)
 | cons a M =>
  have ha : a = (fin x).fr := by
   have h1 := (hlo a (by simp)).1
   rcases List.mem_cons.1 ((hM (fin x).fr).2 ⟨x, hx, Or.inl rfl⟩) with e | e
   ·exact e.symm
   ·have := (List.pairwise_cons.1 hp).1 _ e
    omega
  have hz : (a :: M).getLast (by simp) = (fin x).til := by
   have h1 := (hlo _ (List.getLast_mem (l := a :: M) (by simp))).2
   obtain ⟨j, hj, e⟩ := List.mem_iff_getElem.1 ((hM (fin x).til).2 ⟨x, hx, Or.inr rfl⟩)
   rw [List.getLast_eq_getElem] at h1 ⊢
   by_cases hjl : j = (a :: M).length - 1
   ·subst hjl; exact e
   ·have := List.pairwise_iff_getElem.1 hp j ((a :: M).length - 1) hj (by simp) (by omega)
    omega
  have hrun : ∀ m ∈ (a :: M).dropLast, runB fin m x = true := fun m hm2 => by
   have h1 := hlo m (List.dropLast_subset _ hm2)
   obtain ⟨j, hj, e⟩ := List.mem_iff_getElem.1 hm2
   rw [List.length_dropLast] at hj
   rw [List.getElem_dropLast] at e
   have h2 : m < (a :: M).getLast (by simp) := by
    rw [← e, List.getLast_eq_getElem]
    exact List.pairwise_iff_getElem.1 hp j ((a :: M).length - 1) (by omega) (by simp) (by omega)
   rw [hz] at h2
   unfold runB
   simp only [Bool.and_eq_true, decide_eq_true_eq]
   exact ⟨h1.1, h2⟩
  have hfold := legs_fold hK inj hx hm (a :: M) a S (fun _ => []) [] hp (fun m hm2 => by
   rcases List.mem_cons.1 hm2 with rfl | q
   ·exact Int.le_refl _
   ·exact Int.le_of_lt ((List.pairwise_cons.1 hp).1 m q)) (fun c d r e m hm2 => hrun m (by rw [e]; exact hm2)) (fun y _ => StN.start fin (S y) a) (fun _ h => by cases h)
  have hT : LegT (fun t => ownF fin S t fu x) (fin x).fr (fin x).til (foldN (fun t => ownF fin S t fu x) (a :: M) []) := by
   have h0 : LegT (fun t => ownF fin S t fu x) (fin x).fr a [] := ⟨ha.symm, trivial, fun _ h => by cases h⟩
   have := LegT.fold M a [] h0 hp (fun i hi t h1 h2 => ownF_same hK t _ (fun y hy => by
    have g1 := gap_mem hp hi ((hM (fin y).fr).2 ⟨y, hy, Or.inl rfl⟩)
    have g2 := gap_mem hp hi ((hM (fin y).til).2 ⟨y, hy, Or.inr rfl⟩)
    unfold runB
    rw [Bool.eq_iff_iff]
    simp only [Bool.and_eq_true, decide_eq_true_eq]
    omega) fu x hx)
   rw [hz] at this
   exact this
  refine ⟨hfold, hT, (by have := foldN_len (fun t => ownF fin S t fu x) (a :: M) []; simpa using this), fun l hl => ?_⟩
  obtain ⟨b1, b2, b3⟩ := (TileF.leO _ _ hT.tile).2 l hl
  have spec : ∀ t, l.2.1 ≤ t → t < l.2.2 → D l.1 ∧ runB fin t l.1 = true ∧ ∀ c ∈ S l.1, runB fin t c = false := fun t h1 h2 => by
   have hr : runB fin t x = true := by
    unfold runB
    simp only [Bool.and_eq_true, decide_eq_true_eq]
    omega
   have := ownF_spec hK t fu x hx hm hr
   rw [hT.own l hl t h1 h2] at this
   exact ⟨this.1, this.2.1, this.2.2.1⟩
  have s1 := spec l.2.1 (Int.le_refl _) b2
  have s2 := spec (l.2.2 - 1) (by omega) (by omega)
  have r1 := s1.2.1
  have r2 := s2.2.1
  unfold runB at r1 r2
  simp only [Bool.and_eq_true, decide_eq_true_eq] at r1 r2
  exact ⟨s1.1, r1.1, b2, by omega, fun c hc t h1 h2 => (spec t h1 h2).2.2 c hc⟩
theorem cpt_upto (d : Array Int) (hs : ∀ i j, i ≤ j → j < d.size → d[i]! ≤ d[j]!) : ∀ m, m ≤ d.size → (compactUpTo d m).Pairwise (· < ·) ∧ ∀ v, v ∈ compactUpTo d m ↔ ∃ j, j < m ∧ d[j]! = v
 | 0, _ => ⟨by simp [compactUpTo], fun v => by simp [compactUpTo]⟩
 | m + 1, hm => by
  obtain ⟨i1, i2⟩ := cpt_upto d hs m (by omega)
  rw [compactUpTo_succ]
  by_cases hk : keeps d m = true
  ·rw [if_pos hk]
   refine ⟨List.pairwise_append.2 ⟨i1, by simp, fun a ha b hb => ?_⟩, fun v => ?_⟩
   ·rw [List.mem_singleton.1 hb]
    obtain ⟨j, hj, rfl⟩ := (i2 a).1 ha
    unfold keeps at hk
    have hk2 := of_decide_eq_true hk
    have h1 := hs j (m - 1) (by omega) (by omega)
    have h2 := hs (m - 1) m (by omega) (by omega)
    rcases hk2 with e | e
    ·omega
    ·omega
   ·rw [List.mem_append, i2, List.mem_singleton]
    constructor
    ·rintro (⟨j, hj, e⟩ | e)
     ·exact ⟨j, by omega, e⟩
     ·exact ⟨m, by omega, e.symm⟩
    ·rintro ⟨j, hj, e⟩
     by_cases h : j = m
     ·subst h; exact Or.inr e.symm
     ·exact Or.inl ⟨j, by omega, e⟩
  ·rw [if_neg hk, List.append_nil]
   refine ⟨i1, fun v => ?_⟩
   rw [i2]
   unfold keeps at hk
   simp only [decide_eq_true_eq] at hk
   constructor
   ·rintro ⟨j, hj, e⟩
    exact ⟨j, by omega, e⟩
   ·rintro ⟨j, hj, e⟩
    by_cases h : j = m
    ·subst h
     refine ⟨j - 1, by omega, ?_⟩
     rw [← e]
     have : ¬ (d[j]! ≠ d[j - 1]!) := fun q => hk (Or.inr q)
     omega
    ·exact ⟨j, by omega, e⟩
theorem cptE_spec (E : List Int) : (cptE (srtE E)).Pairwise (· < ·) ∧ ∀ v, v ∈ cptE (srtE E) ↔ v ∈ E := by
 have hp : (srtE E).Pairwise (fun a b => decide (a ≤ b) = true) := List.pairwise_mergeSort (fun a b c h1 h2 => by simp at *; omega) (fun a b => by simp; omega) E
 have hm : ∀ v, v ∈ srtE E ↔ v ∈ E := fun v => (List.mergeSort_perm E _).mem_iff
 have hs : ∀ i j, i ≤ j → j < (srtE E).toArray.size → (srtE E).toArray[i]! ≤ (srtE E).toArray[j]! := fun i j hij hj => by
  have hj' : j < (srtE E).length := by simpa using hj
  rw [getElem!_pos _ i (by simp; omega), getElem!_pos _ j (by simpa using hj')]
  simp only [List.getElem_toArray]
  by_cases e : i = j
  ·subst e; exact Int.le_refl _
  ·have := List.pairwise_iff_getElem.1 hp i j (by omega) hj' (by omega)
   simpa using this
 obtain ⟨h1, h2⟩ := cpt_upto (srtE E).toArray hs (srtE E).length (by simp)
 refine ⟨h1, fun v => ?_⟩
 unfold cptE
 rw [h2, ← hm v, List.mem_iff_getElem]
 constructor
 ·rintro ⟨j, hj, e⟩
  refine ⟨j, hj, ?_⟩
  rw [getElem!_pos _ j (by simpa using hj)] at e
  simpa using e
 ·rintro ⟨j, hj, e⟩
  refine ⟨j, hj, ?_⟩
  rw [getElem!_pos _ j (by simpa using hj)]
  simpa using e
theorem preN_all (KN : Nat → List Nat) (Q : Nat → Prop) (hQ : ∀ y, Q y → ∀ c ∈ KN y, Q c) : ∀ (fu : Nat) (L : List Nat), (∀ y ∈ L, Q y) → ∀ y ∈ preN KN fu L, Q y
 | 0, _, _, y, hy => by cases hy
 | fu + 1, L, hL, y, hy => by
  simp only [preN, List.mem_flatMap, List.mem_cons] at hy
  obtain ⟨z, hz, rfl | hy⟩ := hy
  ·exact hL y hz
  ·exact preN_all KN Q hQ fu (KN z) (fun c hc => hQ z (hL z hz) c hc) y hy
abbrev swF (fin : Nat → Nod) (K : Nat → List Int) : Nat → List Nat := fun i => swO fin (knO K i)
def inT (K : Nat → List Int) (x y : Nat) : Prop := y ∈ preN (knO K) 1001 [x]
section
variable {Y : List Sp} {C : List Int} {dp : Nat → Nat} {fin : Nat → Nod} {X : List Spot} {K : Nat → List Int} {R : List Int}
theorem FoB.envO (h : FoB Y C dp fin X K R) {x : Nat} (hx : x < Y.length) : TEnv X K fin (knO K) (swF fin K) 1001 x := tenv_of h.fo h.sh h.rise h.one.len x hx
theorem FoB.inj (h : FoB Y C dp fin X K R) {a b : Nat} (ha : a < Y.length) (hb : b < Y.length) (e : (fin a).id = (fin b).id) : a = b := by
 have hl := h.fo.len
 refine rise_same h.rise (by omega) (by omega) ?_
 rw [(h.fo.each a ha (by omega)).2, (h.fo.each b hb (by omega)).2]
 exact e
theorem FoB.swMem (h : FoB Y C dp fin X K R) {i : Nat} (hi : i < Y.length) (c : Nat) : c ∈ swF fin K i ↔ c ∈ knK K i :=
 ((h.envO hi).sw i (by have := h.fo.len; omega)).1.mem_iff.symm
theorem FoB.inTx (h : FoB Y C dp fin X K R) {x : Nat} (hx : x < Y.length) : inT K x x := preN_mem _ 1001 [x] (h.envO hx).dp x (by simp)
theorem FoB.inTlt (h : FoB Y C dp fin X K R) {x : Nat} (hx : x < Y.length) : ∀ y, inT K x y → y < Y.length ∧ (fin x).fr ≤ (fin y).fr ∧ (fin y).fr ≤ (fin y).til ∧ (fin y).til ≤ (fin x).til ∧ (fin y).tree = (fin x).tree := fun y hy => by
 refine preN_all (knO K) (fun y => y < Y.length ∧ (fin x).fr ≤ (fin y).fr ∧ (fin y).fr ≤ (fin y).til ∧ (fin y).til ≤ (fin x).til ∧ (fin y).tree = (fin x).tree) (fun z hz c hc => ?_) 1001 [x] (fun z hz => ?_) y hy
 ·have hcl := ((h.mem z hz.1 c).1 hc).1
  have hk := h.kid z hz.1 c hc
  have hi := h.inn (dp c) c rfl hcl
  exact ⟨hcl, by omega, hi.2.1, by omega, hk.2.2.trans hz.2.2.2.2⟩
 ·rw [List.mem_singleton.1 hz]
  have hi := h.inn (dp x) x rfl hx
  exact ⟨hx, Int.le_refl _, hi.2.1, Int.le_refl _, rfl⟩
theorem FoB.kidS (h : FoB Y C dp fin X K R) {x : Nat} (hx : x < Y.length) : KidS fin (swF fin K) (inT K x) (fun i => 1000 - dp i) := by
 have hl := h.fo.len
 refine ⟨fun y hy => ?_, fun y hy => ?_, fun y hy c hc => ?_⟩
 ·have hyl := (h.inTlt hx y hy).1
  exact ((h.envO hx).sw y (by omega)).2
 ·have hyl := (h.inTlt hx y hy).1
  exact ((h.envO hx).sw y (by omega)).1.nodup_iff.1 (h.nodup y hyl)
 ·have hyl := (h.inTlt hx y hy).1
  have hck := (h.swMem hyl c).1 hc
  have h1 := h.tree.hdp y hyl c hck
  have h2 := h.tree.hbd c (h.tree.hlt y hyl c hck)
  exact ⟨preN_down (knO K) 1001 [x] (h.envO hx).dp y hy c hck, by omega⟩
abbrev ownX (fin : Nat → Nod) (K : Nat → List Int) (dp : Nat → Nat) (x : Nat) (t : Int) : Nat := ownF fin (swF fin K) t (1000 - dp x + 1) x
theorem FoB.ends (_h : FoB Y C dp fin X K R) {x : Nat} (_hx : x < Y.length) : (cptE (srtE (endsN fin (preN (knO K) 1001 [x])))).Pairwise (· < ·) ∧ ∀ v, v ∈ cptE (srtE (endsN fin (preN (knO K) 1001 [x]))) ↔ ∃ y, inT K x y ∧ (v = (fin y).fr ∨ v = (fin y).til) := by
 obtain ⟨h1, h2⟩ := cptE_spec (endsN fin (preN (knO K) 1001 [x]))
 refine ⟨h1, fun v => ?_⟩
 rw [h2]
 unfold endsN inT
 simp only [List.mem_flatMap, List.mem_cons, List.not_mem_nil, or_false]
def legsX (fin : Nat → Nod) (K : Nat → List Int) (dp : Nat → Nat) (x : Nat) : List LegN := foldN (ownX fin K dp x) (cptE (srtE (endsN fin (preN (knO K) 1001 [x])))) []
theorem FoB.legsO (h : FoB Y C dp fin X K R) {x : Nat} (hx : x < Y.length) : legsM fin (1000 - dp x + 1) x (cptE (srtE (endsN fin (preN (knO K) 1001 [x])))) (fun i => swO fin (knO K i)) nils [] = (legsX fin K dp x).map (legI fin) ∧ LegT (ownX fin K dp x) (fin x).fr (fin x).til (legsX fin K dp x) ∧ (legsX fin K dp x).length ≤ 2000 ∧ ∀ l ∈ legsX fin K dp x, l.1 < Y.length ∧ (fin l.1).tree = (fin x).tree ∧ (fin l.1).fr ≤ l.2.1 ∧ l.2.1 < l.2.2 ∧ l.2.2 ≤ (fin l.1).til ∧ ∀ c ∈ knK K l.1, ∀ t, l.2.1 ≤ t → t < l.2.2 → runB fin t c = false := by
 obtain ⟨e1, e2⟩ := h.ends hx
 obtain ⟨n1, n2, n4, n3⟩ := legs_all (h.kidS hx) (fun a b ha hb e => h.inj (h.inTlt hx a ha).1 (h.inTlt hx b hb).1 e) (fu := 1000 - dp x + 1) (x := x) (h.inTx hx) (by omega) (fun y hy => by have := h.inTlt hx y hy; exact ⟨this.2.1, this.2.2.1, this.2.2.2.1⟩) e1 e2
 have hcl : (legsX fin K dp x).length ≤ 2000 := by
  have h0 : (legsX fin K dp x).length ≤ _ := n4
  have h1 := (h.envO hx).ln
  have h2 := endsN_len fin (preN (knO K) 1001 [x])
  have h3 := srtE_len (endsN fin (preN (knO K) 1001 [x]))
  have h5 : 1 ≤ (preN (knO K) 1001 [x]).length := List.length_pos_of_mem (h.inTx hx)
  have h4 := cptE_len (srtE (endsN fin (preN (knO K) 1001 [x]))) (by omega)
  omega
 refine ⟨n1, n2, hcl, fun l hl => ?_⟩
 obtain ⟨d1, d2, d3, d4, d5⟩ := n3 l hl
 have dl := h.inTlt hx l.1 d1
 exact ⟨dl.1, dl.2.2.2.2, d2, d3, d4, fun c hc t h1 h2 => d5 c ((h.swMem dl.1 c).2 hc) t h1 h2⟩
theorem cnt_clip {a b : Int} (h1 : 0 ≤ a) (h2 : a ≤ b) (h3 : b ≤ 4611686018427387904) {n : Nat} (hn : (n : Int) = 18446744073709551615) : cntM (fun x => decide (a ≤ x) && decide (x < b)) (-9223372036854775808) n = lenI (a, b) := by
 rw [cntM_iv _ _ _ (by omega) (by omega), if_neg (by omega)]
 unfold lenI
 simp only
 split <;> split <;> omega
theorem FoB.kidsIn (h : FoB Y C dp fin X K R) {y : Nat} (hy : y < Y.length) (t : Int) (ht : memI (kidI fin K y) t = true) : (decide ((fin y).fr ≤ t) && decide (t < (fin y).til)) = true := by
 obtain ⟨i, hi, h1, h2⟩ := memI_iff.1 ht
 obtain ⟨c, hc, rfl⟩ := List.mem_map.1 hi
 have hk := h.kid y hy c hc
 simp only at h1 h2
 simp only [Bool.and_eq_true, decide_eq_true_eq]
 omega
theorem kids_run {fin : Nat → Nod} {K : Nat → List Int} {y : Nat} {t : Int} : memI (kidI fin K y) t = true ↔ ∃ c ∈ knK K y, runB fin t c = true := by
 rw [memI_iff]
 unfold kidI runB
 simp only [List.mem_map, Bool.and_eq_true, decide_eq_true_eq]
 constructor
 ·rintro ⟨i, ⟨c, hc, rfl⟩, h1, h2⟩; exact ⟨c, hc, h1, h2⟩
 ·rintro ⟨c, hc, h1, h2⟩; exact ⟨_, ⟨c, hc, rfl⟩, h1, h2⟩
theorem FoB.ownLe (h : FoB Y C dp fin X K R) {x : Nat} (hx : x < Y.length) {N : List LegN} (hN : TileF (fin x).til (fin x).fr N) (hL : ∀ l ∈ N, (fin l.1).fr ≤ l.2.1 ∧ l.2.1 < l.2.2 ∧ l.2.2 ≤ (fin l.1).til ∧ ∀ c ∈ knK K l.1, ∀ t, l.2.1 ≤ t → t < l.2.2 → runB fin t c = false) {y : Nat} (hy : y < Y.length) {n : Nat} (hn : (n : Int) = 18446744073709551615) : sumH N y + cntM (memI (kidI fin K y)) (-9223372036854775808) n ≤ lenI ((fin y).fr, (fin y).til) := by
 have hi := h.inn (dp x) x rfl hx
 have hiy := h.inn (dp y) y rfl hy
 obtain ⟨c1, _, _⟩ := tile_cnt y (lo0 := -9223372036854775808) (n := n) _ _ hN (by omega) (by omega)
 have ec := cnt_clip (a := (fin y).fr) (b := (fin y).til) hiy.1 hiy.2.1 hiy.2.2 hn
 have hp : ∀ x, memI ((N.filter (fun l => decide (l.1 = y))).map (fun l => (l.2.1, l.2.2))) x = true → ((decide ((fin y).fr ≤ x) && decide (x < (fin y).til)) && !memI (kidI fin K y) x) = true := fun t ht => by
  obtain ⟨i, hi, h1, h2⟩ := memI_iff.1 ht
  obtain ⟨l, hl, rfl⟩ := List.mem_map.1 hi
  obtain ⟨hl1, hl2⟩ := List.mem_filter.1 hl
  have hly : l.1 = y := by simpa using hl2
  obtain ⟨g1, g2, g3, g4⟩ := hL l hl1
  simp only at h1 h2
  rw [hly] at g1 g3 g4
  have hno : memI (kidI fin K y) t = false := by
   cases hk : memI (kidI fin K y) t with
   | false => rfl
   | true =>
    obtain ⟨c, hc, hr⟩ := kids_run.1 hk
    rw [g4 c hc t h1 h2] at hr
    cases hr
  simp only [hno, Bool.not_false, Bool.and_true, Bool.and_eq_true, decide_eq_true_eq]
  omega
 have s1 := cntM_split (fun x => decide ((fin y).fr ≤ x) && decide (x < (fin y).til)) (memI (kidI fin K y)) (-9223372036854775808) n
 have s2 : sumH N y ≤ cntM (fun x => (decide ((fin y).fr ≤ x) && decide (x < (fin y).til)) && !memI (kidI fin K y) x) (-9223372036854775808) n := by
  rw [c1]
  exact cntM_le hp (-9223372036854775808) n
 have s3 : cntM (memI (kidI fin K y)) (-9223372036854775808) n ≤ cntM (fun x => (decide ((fin y).fr ≤ x) && decide (x < (fin y).til)) && memI (kidI fin K y) x) (-9223372036854775808) n := cntM_le (fun x hx => by rw [h.kidsIn hy x hx, hx]; rfl) _ n
 rw [ec] at s1
 omega
end
end Go.Proofs.YtnffedmcblbkoaaGreatDoor
