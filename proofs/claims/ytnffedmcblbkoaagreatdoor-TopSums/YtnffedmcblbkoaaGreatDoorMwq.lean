/-
  Merged: Mw, Va, Vb.
-/
import Derived.Test.YtnffedmcblbkoaaGreatDoorZmq
import Derived.Deep.DeepAppendWide
import Derived.Sort.Statements
import Derived.Test.YtnffedmcblbkoaaGreatDoorProg
import Derived.BigQuiet
import Derived.WalkMore
import Derived.Handy
namespace Go.Proofs.YtnffedmcblbkoaaGreatDoor
open Go Go.RowKit
theorem run_appW {P : Program} (w : World) (base : Nat) (t tx ty e : TypeId) (i : TypeInfo) (z : Value) (s : Nat) (ht : P.underlying t = some (.slice e)) (hi : P.info? e = some i) (hz : i.zero = some z) (hsize : i.size = s) (hzs : z.cells.size = s)
  (v : Value) (n : Nat) (xs : List Value) (hown : w.ownsRow base e s v n xs) (x : Value) (m : Nat) (news : List Value) (hs : Src P s tx x m news w)
  (h63 : n + m ≤ maxLen) (hbytes : (n + m + (n + m) / 4 + 192) * i.bytes ≤ 281474976710656) (hbase : base ≤ w.heap.size) :
  ∃ v' w', (Builtin.append_ #[t, tx] ty #[v, x]).run P w = .ok v' w' ∧ w'.ownsRow base e s v' (n + m) (xs ++ news) ∧ w.grownBy w' v.ownBlock ∧ Moved w v v' := by
 have hs' : Src P i.size tx x m news w := by rw [hsize]; exact hs
 have hnl : news.length = m * s := hs.newsLen
 have hxl : xs.length = n * s := hown.1
 have hnm : (n + m) * s = n * s + m * s := Nat.add_mul _ _ _
 have hsmall : n + m ≤ 9223372036854775807 := by simp only [maxLen] at h63; omega
 have grow : ∀ (ad : Option Addr) (cap : Nat), v = .slice ad n cap → cap < n + m → (Builtin.firstCells i.size n v).run P w.drew = .ok xs.toArray w.drew →
   ∃ v' w', (Builtin.append_ #[t, tx] ty #[v, x]).run P w = .ok v' w' ∧ w'.ownsRow base e s v' (n + m) (xs ++ news) ∧ w.grownBy w' v.ownBlock ∧ Moved w v v' := by
  intro ad cap hv hc hold
  subst hv
  have hr := run_append_grow_src (P := P) w t tx ty e i z ht hi hz ad n cap xs hold x m news hs' hc (by omega) (growslice_fits_wide (by omega) hbytes)
  refine ⟨_, _, hr, ⟨by simp; omega, Or.inr ⟨w.heap.size, _, _, rfl, hbase, heap_alloc_new w.drew _, grownCap_ge w (n + m) cap e, grownCap_le_maxLen w (n + m) cap e h63, ?_, ?_⟩⟩, ⟨rfl, rfl, rfl, by simp, fun k hk _ => Below.heap_alloc w.drew _ k hk⟩, Or.inr ⟨w.heap.size, rfl, Nat.le_refl _⟩⟩
  ·have hge := grownCap_ge w (n + m) cap e
   obtain ⟨d, hd⟩ : ∃ d, grownCap w (n + m) cap e = n + m + d := ⟨grownCap w (n + m) cap e - (n + m), by omega⟩
   rw [hd]
   simp only [Array.size_append, List.size_toArray, size_zeroCells, hzs, List.length_append, hxl, hnl, Nat.add_sub_cancel_left, Nat.add_mul]
  ·simp only [Array.toList_append]
   rw [show (n + m) * s = (xs ++ news).length by simp; omega]
   exact List.take_left
 rcases hown.2 with ⟨rfl, rfl⟩ | ⟨g, cap, cur, rfl, hbg, hg, hnc, hcm, hcs, htake⟩
 ·have hx : xs = [] := List.eq_nil_of_length_eq_zero (by simpa using hxl)
  subst hx
  by_cases hm : m = 0
  ·subst hm
   have hn : news = [] := List.eq_nil_of_length_eq_zero (by simpa using hnl)
   subst hn
   refine ⟨.slice none 0 0, w, ?_, World.ownsRow_nil w base e s, ⟨rfl, rfl, rfl, Nat.le_refl _, fun _ _ _ => rfl⟩, Moved.refl _ _⟩
   have hc := hs'.cells
   rcases hs.kind with ⟨e', hk⟩ | hk <;> simp [Builtin.append_, run_underlying ht, run_underlying hk, sizeOf, typeInfo, hi, hs.len, hc]
  ·exact grow none 0 rfl (by omega) (run_firstCells_none w.drew i.size 0 0 0)
 ·by_cases hroom : n + m ≤ cap
  ·have hcap : (n + m) * s ≤ cap * s := Nat.mul_le_mul_right _ hroom
   have hfit : n * i.size + news.length ≤ cur.size := by rw [hsize]; omega
   have hst := run_storeCells_at P g (n * i.size) e news 0 cur w hg (by simpa using hfit) hs.one
   simp only [Nat.add_zero] at hst
   have hr : (Builtin.append_ #[t, tx] ty #[.slice (some ⟨g, 0, none⟩) n cap, x]).run P w = .ok (.slice (some ⟨g, 0, none⟩) (n + m) cap) (w.setRow g (cur.toList.take (n * i.size) ++ news ++ cur.toList.drop (n * i.size + news.length)).toArray) := by
    rcases hs.kind with ⟨e', hk⟩ | hk <;> simp [Builtin.append_, run_underlying ht, run_underlying hk, sizeOf, typeInfo, hi, hs.len, hroom, hs'.cells, Addr.add_lit, hst]
   refine ⟨_, _, hr, ⟨by simp; omega, Or.inr ⟨g, cap, _, rfl, hbg, setRow_heap w g cur _ e _ hg, hroom, hcm, ?_, ?_⟩⟩, ⟨rfl, rfl, rfl, by simp, fun k _ hk => setRow_other w g k _ (fun e => hk (by simp [Value.ownBlock, e]))⟩, Or.inl rfl⟩
   ·simp only [List.size_toArray, List.length_append, List.length_take, List.length_drop, Array.length_toList]
    omega
   ·rw [hsize, htake, show (n + m) * s = (xs ++ news).length by simp; omega]
    exact List.take_left
  ·have holds : ∀ j u, xs[j]? = some u → w.drew.cell? ((⟨g, 0, none⟩ : Addr).add j) = some u := by simpa using hown.cells (g := g) rfl
   exact grow (some ⟨g, 0, none⟩) cap rfl (by omega) (run_firstCells_some w.drew i.size n ⟨g, 0, none⟩ n cap xs (by rw [hsize]; omega) holds)
theorem wpList_appW {P : Program} (w : World) {ops : Array Oper} {rest : List Oper} {o : Oper} {a : Act} {Q : Exit → Act → World → Prop} (hgd : o.guard = none) (s x : Operand) (t tx : TypeId)
  (ho : o.op = .call { callee := .builtin .append, args := #[s, x], argTypes := #[t, tx] })
  (base : Nat) (e : TypeId) (i : TypeInfo) (z : Value) (size bytes : Nat) (ht : P.underlying t = some (.slice e)) (hi : P.info? e = some i) (hz : i.zero = some z) (hsize : i.size = size) (hby : i.bytes = bytes) (hzs : z.cells.size = size)
  (v : Value) (n : Nat) (xs : List Value) (hv : a.eval s = v) (hown : w.ownsRow base e size v n xs) (y : Value) (m : Nat) (news : List Value) (hx : a.eval x = y) (hs : Src P size tx y m news w)
  (h63 : n + m ≤ maxLen) (hbytes : (n + m + (n + m) / 4 + 192) * bytes ≤ 281474976710656) (hbase : base ≤ w.heap.size)
  (h : ∀ v' w', w'.ownsRow base e size v' (n + m) (xs ++ news) → w.grownBy w' v.ownBlock → Moved w v v' → wpList P ops Q rest (a.put o.dst v') w') : wpList P ops Q (o :: rest) a w := by
 subst hby
 refine wpList_plain hgd fun K hK => ?_
 obtain ⟨v', w', hr, h2, h3, h4⟩ := run_appW (P := P) w base t tx o.type e i z size ht hi hz hsize hzs v n xs hown y m news hs h63 hbytes hbase
 unfold Oper.wp execOp
 simp only [ho, resolve, invoke, builtin, Sem.run_bind, Sem.run_pure, Result.andThen_ok, List.map_toArray, List.map_cons, List.map_nil, hv, hx, hr]
 exact hK _ _ (h v' w' h2 h3 h4)
end Go.Proofs.YtnffedmcblbkoaaGreatDoor
namespace Go.Proofs.YtnffedmcblbkoaaGreatDoor
open Go
def memI (l : List (Int × Int)) (x : Int) : Bool := l.any fun i => decide (i.1 ≤ x) && decide (x < i.2)
theorem memI_iff {l : List (Int × Int)} {x : Int} : memI l x = true ↔ ∃ i ∈ l, i.1 ≤ x ∧ x < i.2 := by
  unfold memI; rw [List.any_eq_true]
  constructor
  · rintro ⟨i, hi, h⟩; exact ⟨i, hi, by simpa using h⟩
  · rintro ⟨i, hi, h⟩; exact ⟨i, hi, by simpa using h⟩
theorem memI_not {l : List (Int × Int)} {x : Int} : memI l x = false ↔ ∀ i ∈ l, i.1 ≤ x → i.2 ≤ x := by
  rw [← Bool.not_eq_true, memI_iff]
  constructor
  · intro h i hi h1; exact Int.not_lt.mp fun h2 => h ⟨i, hi, h1, h2⟩
  · rintro h ⟨i, hi, h1, h2⟩; have := h i hi h1; omega
theorem memI_cons (i : Int × Int) (l : List (Int × Int)) (x : Int) : memI (i :: l) x = ((decide (i.1 ≤ x) && decide (x < i.2)) || memI l x) := rfl
theorem memI_append (l m : List (Int × Int)) (x : Int) : memI (l ++ m) x = (memI l x || memI m x) := by
  unfold memI; rw [List.any_append]
def Form (l : List (Int × Int)) : Prop := (∀ i ∈ l, i.1 < i.2) ∧ l.Pairwise fun i j => i.2 < j.1
theorem Form.nil : Form [] := ⟨fun _ h => (by cases h), List.Pairwise.nil⟩
theorem Form.tail {i : Int × Int} {l : List (Int × Int)} (h : Form (i :: l)) : Form l := ⟨fun j hj => h.1 j (List.mem_cons_of_mem _ hj), (List.pairwise_cons.mp h.2).2⟩
/-! ## The ends -/
def stepE (e : Int × Int × Int) : Int := if e.2.1 = 0 then 1 else -1
def cnt (j : Int) (E : List (Int × Int × Int)) (x : Int) : Int := (E.map fun e => if e.2.2 = j ∧ e.1 ≤ x then stepE e else 0).sum
def tot (j : Int) (E : List (Int × Int × Int)) : Int := (E.map fun e => if e.2.2 = j then stepE e else 0).sum
def endsL (j : Int) : List (Int × Int) → List (Int × Int × Int)
  | [] => []
  | i :: l => if i.2 ≤ i.1 then endsL j l else (i.1, 0, j) :: (i.2, 1, j) :: endsL j l
theorem cnt_append (j : Int) (E F : List (Int × Int × Int)) (x : Int) : cnt j (E ++ F) x = cnt j E x + cnt j F x := by
  unfold cnt; rw [List.map_append, List.sum_append]
theorem tot_append (j : Int) (E F : List (Int × Int × Int)) : tot j (E ++ F) = tot j E + tot j F := by
  unfold tot; rw [List.map_append, List.sum_append]
theorem sum_perm {l m : List Int} (h : l.Perm m) : l.sum = m.sum := by
  induction h with
  | nil => rfl
  | cons a _ ih => simp only [List.sum_cons, ih]
  | swap a b l => simp only [List.sum_cons]; omega
  | trans _ _ h1 h2 => exact h1.trans h2
theorem cnt_perm (j : Int) {E F : List (Int × Int × Int)} (h : E.Perm F) (x : Int) : cnt j E x = cnt j F x := sum_perm (h.map _)
theorem tot_perm (j : Int) {E F : List (Int × Int × Int)} (h : E.Perm F) : tot j E = tot j F := sum_perm (h.map _)
theorem cnt_other (j k : Int) (hjk : j ≠ k) : ∀ (l : List (Int × Int)) (x : Int), cnt k (endsL j l) x = 0
  | [], _ => rfl
  | i :: l, x => by
    unfold endsL
    split
    · exact cnt_other j k hjk l x
    · have := cnt_other j k hjk l x
      unfold cnt at this ⊢
      simp only [List.map_cons, List.sum_cons, hjk, false_and, if_false, this]
      rfl
theorem cnt_mem (j : Int) : ∀ (l : List (Int × Int)) (x : Int), 0 ≤ cnt j (endsL j l) x ∧ (decide (0 < cnt j (endsL j l) x) = memI l x)
  | [], _ => ⟨Int.le_refl 0, rfl⟩
  | i :: l, x => by
    obtain ⟨h0, h1⟩ := cnt_mem j l x
    unfold endsL
    rw [memI_cons]
    split
    · rename_i hi
      refine ⟨h0, ?_⟩
      rw [h1]
      by_cases a : i.1 ≤ x
      · have : ¬ x < i.2 := by omega
        simp [this]
      · simp [a]
    · rename_i hi
      have e : cnt j ((i.1, 0, j) :: (i.2, 1, j) :: endsL j l) x = (if i.1 ≤ x then 1 else 0) + ((if i.2 ≤ x then -1 else 0) + cnt j (endsL j l) x) := by
        unfold cnt; simp only [List.map_cons, List.sum_cons, stepE, true_and]; rfl
      rw [e, ← h1]
      by_cases a : i.1 ≤ x
      · by_cases b : i.2 ≤ x
        · have b' : ¬ x < i.2 := by omega
          simp only [a, b, b', if_true, decide_true, decide_false, Bool.true_and, Bool.false_or]
          refine ⟨by omega, decide_eq_decide.mpr (by omega)⟩
        · have b' : x < i.2 := by omega
          simp only [a, b, b', if_true, if_false, decide_true, Bool.true_and, Bool.true_or, decide_eq_true_eq]
          refine ⟨by omega, by omega⟩
      · have b : ¬ i.2 ≤ x := by omega
        simp only [a, b, if_false, decide_false, Bool.false_and, Bool.false_or]
        refine ⟨by omega, decide_eq_decide.mpr (by omega)⟩
theorem tot_ends (j k : Int) : ∀ l : List (Int × Int), tot k (endsL j l) = 0
  | [] => rfl
  | i :: l => by
    unfold endsL
    split
    · exact tot_ends j k l
    · have h := tot_ends j k l
      unfold tot at h ⊢
      simp only [List.map_cons, List.sum_cons, h]
      by_cases c : j = k <;> simp [c, stepE]
/-! ## The walk -/
structure Wk where
  n0 : Int
  n1 : Int
  at_ : Int
  out : List (Int × Int)
def tellL (out : List (Int × Int)) (a : Int × Int) : List (Int × Int) :=
  match out.getLast? with
  | none => [a]
  | some l => if l.2 = a.1 then out.dropLast ++ [(l.1, a.2)] else out ++ [a]
def closeL (want : Bool → Bool → Bool) (s : Wk) (t : Int) : List (Int × Int) :=
  if s.at_ ≠ t ∧ want (decide (0 < s.n0)) (decide (0 < s.n1)) = true then tellL s.out (s.at_, t) else s.out
def passL (want : Bool → Bool → Bool) (s : Wk) (e : Int × Int × Int) : Wk :=
  ⟨if e.2.2 = 0 then s.n0 + stepE e else s.n0, if e.2.2 = 1 then s.n1 + stepE e else s.n1, e.1, closeL want s e.1⟩
def runL (want : Bool → Bool → Bool) (E : List (Int × Int × Int)) : Wk := E.foldl (passL want) ⟨0, 0, 0, []⟩
theorem runL_snoc (want : Bool → Bool → Bool) (E : List (Int × Int × Int)) (e : Int × Int × Int) : runL want (E ++ [e]) = passL want (runL want E) e := by
  unfold runL; rw [List.foldl_append]; rfl
theorem tell_form {out : List (Int × Int)} {a : Int × Int} (h : Form out) (hu : ∀ i ∈ out, i.2 ≤ a.1) (ha : a.1 < a.2) :
    Form (tellL out a) ∧ (∀ i ∈ tellL out a, i.2 ≤ a.2) ∧ ∀ x, memI (tellL out a) x = (memI out x || (decide (a.1 ≤ x) && decide (x < a.2))) := by
  rcases List.eq_nil_or_concat out with rfl | ⟨pre, l, rfl⟩
  · refine ⟨⟨?_, ?_⟩, ?_, ?_⟩
    · intro i hi; cases List.mem_singleton.mp hi; exact ha
    · exact List.pairwise_singleton _ _
    · intro i hi; cases List.mem_singleton.mp hi; exact Int.le_refl _
    · intro x; simp [tellL, memI]
  · rw [List.concat_eq_append] at *
    unfold tellL
    rw [List.getLast?_concat, List.dropLast_concat]
    have hl := h.1 l (by simp)
    have hlu := hu l (by simp)
    obtain ⟨p1, p2, p3⟩ := List.pairwise_append.mp h.2
    show Form (if l.2 = a.1 then pre ++ [(l.1, a.2)] else pre ++ [l] ++ [a]) ∧ (∀ i ∈ (if l.2 = a.1 then pre ++ [(l.1, a.2)] else pre ++ [l] ++ [a]), i.2 ≤ a.2) ∧ ∀ x, memI (if l.2 = a.1 then pre ++ [(l.1, a.2)] else pre ++ [l] ++ [a]) x = _
    split
    · rename_i hc
      refine ⟨⟨?_, ?_⟩, ?_, ?_⟩
      · intro i hi
        rcases List.mem_append.mp hi with hi | hi
        · exact h.1 i (List.mem_append_left _ hi)
        · cases List.mem_singleton.mp hi; show l.1 < a.2; omega
      · refine List.pairwise_append.mpr ⟨p1, List.pairwise_singleton _ _, ?_⟩
        intro i hi k hk
        cases List.mem_singleton.mp hk
        exact p3 i hi l (List.mem_singleton.mpr rfl)
      · intro i hi
        rcases List.mem_append.mp hi with hi | hi
        · have := hu i (List.mem_append_left _ hi); omega
        · cases List.mem_singleton.mp hi; exact Int.le_refl _
      · intro x
        rw [memI_append, memI_append, Bool.or_assoc]
        congr 1
        simp only [memI, List.any_cons, List.any_nil, Bool.or_false]
        rw [← Bool.decide_and, ← Bool.decide_and, ← Bool.decide_and, ← Bool.decide_or]
        exact decide_eq_decide.mpr (by show l.1 ≤ x ∧ x < a.2 ↔ _; omega)
    · rename_i hc
      refine ⟨⟨?_, ?_⟩, ?_, ?_⟩
      · intro i hi
        rcases List.mem_append.mp hi with hi | hi
        · exact h.1 i hi
        · cases List.mem_singleton.mp hi; exact ha
      · refine List.pairwise_append.mpr ⟨h.2, List.pairwise_singleton _ _, ?_⟩
        intro i hi k hk
        cases List.mem_singleton.mp hk
        rcases List.mem_append.mp hi with hi | hi
        · have := p3 i hi l (List.mem_singleton.mpr rfl); show i.2 < a.1; omega
        · cases List.mem_singleton.mp hi; show l.2 < a.1; omega
      · intro i hi
        rcases List.mem_append.mp hi with hi | hi
        · have := hu i hi; omega
        · cases List.mem_singleton.mp hi; exact Int.le_refl _
      · intro x
        rw [memI_append]
        simp [memI]
structure Told (want : Bool → Bool → Bool) (E : List (Int × Int × Int)) (s : Wk) : Prop where
  n0 : s.n0 = tot 0 E
  n1 : s.n1 = tot 1 E
  le : ∀ e ∈ E, e.1 ≤ s.at_
  at_in : ∃ e ∈ E, s.at_ = e.1
  form : Form s.out
  up : ∀ i ∈ s.out, i.2 ≤ s.at_
  mem : ∀ x, memI s.out x = (decide (x < s.at_) && want (decide (0 < cnt 0 E x)) (decide (0 < cnt 1 E x)))
theorem cnt_all {j : Int} : ∀ {E : List (Int × Int × Int)} {x : Int}, (∀ e ∈ E, e.1 ≤ x) → cnt j E x = tot j E
  | [], _, _ => rfl
  | e :: E, x, h => by
    have := cnt_all (j := j) (E := E) (x := x) fun e he => h e (List.mem_cons_of_mem _ he)
    have h1 := h e List.mem_cons_self
    unfold cnt tot at *
    simp only [List.map_cons, List.sum_cons, this, h1, and_true]
theorem cnt_none {j : Int} {e : Int × Int × Int} {x : Int} (h : x < e.1) : cnt j [e] x = 0 := by
  have : ¬ e.1 ≤ x := by omega
  unfold cnt; simp [this]
theorem told_run (want : Bool → Bool → Bool) (hw : want false false = false) : ∀ (n : Nat) (E : List (Int × Int × Int)), E.length = n → E.Pairwise (fun e f => e.1 ≤ f.1) → E ≠ [] → Told want E (runL want E)
  | 0, E, hn, _, he => absurd (List.eq_nil_of_length_eq_zero hn) he
  | n + 1, E, hn, hp, he => by
    rcases List.eq_nil_or_concat E with rfl | ⟨P, e, rfl⟩
    · exact absurd rfl he
    rw [List.concat_eq_append] at *
    rw [runL_snoc]
    obtain ⟨q1, q2, q3⟩ := List.pairwise_append.mp hp
    have hle : ∀ f ∈ P, f.1 ≤ e.1 := fun f hf => q3 f hf e (List.mem_singleton.mpr rfl)
    have t0 : ∀ j, tot j (P ++ [e]) = tot j P + if e.2.2 = j then stepE e else 0 := fun j => by
      rw [tot_append]; unfold tot; simp
    have c0 : ∀ j x, x < e.1 → cnt j (P ++ [e]) x = cnt j P x := fun j x hx => by rw [cnt_append, cnt_none hx]; omega
    by_cases hP : P = []
    · subst hP
      have hr : runL want [] = ⟨0, 0, 0, []⟩ := rfl
      rw [hr]
      have hc : closeL want ⟨0, 0, 0, []⟩ e.1 = [] := by unfold closeL; simp [hw]
      refine ⟨?_, ?_, ?_, ⟨e, List.mem_singleton.mpr rfl, rfl⟩, ?_, ?_, ?_⟩
      · rw [t0]; unfold passL tot; simp
      · rw [t0]; unfold passL tot; simp
      · intro f hf; cases List.mem_singleton.mp hf; exact Int.le_refl _
      · unfold passL; rw [hc]; exact Form.nil
      · unfold passL; rw [hc]; intro i hi; cases hi
      · intro x
        unfold passL; rw [hc]
        show false = (decide (x < e.1) && _)
        by_cases hx : x < e.1
        · rw [c0 0 x hx, c0 1 x hx]
          show false = (decide (x < e.1) && want (decide (0 < (0 : Int))) (decide (0 < (0 : Int))))
          simp [hw]
        · simp [hx]
    · have IH := told_run want hw n P (by simp at hn; exact hn) q1 hP
      generalize runL want P = s at IH ⊢
      have hat : s.at_ ≤ e.1 := by obtain ⟨f, hf, hfe⟩ := IH.at_in; rw [hfe]; exact hle f hf
      have hmem : ∀ x, s.at_ ≤ x → want (decide (0 < cnt 0 P x)) (decide (0 < cnt 1 P x)) = want (decide (0 < s.n0)) (decide (0 < s.n1)) := fun x hx => by
        have hl : ∀ f ∈ P, f.1 ≤ x := fun f hf => Int.le_trans (IH.le f hf) hx
        rw [cnt_all hl, cnt_all hl, IH.n0, IH.n1]
      have hc : Form (closeL want s e.1) ∧ (∀ i ∈ closeL want s e.1, i.2 ≤ e.1) ∧ ∀ x, memI (closeL want s e.1) x = (decide (x < e.1) && want (decide (0 < cnt 0 P x)) (decide (0 < cnt 1 P x))) := by
        unfold closeL
        split
        · rename_i h
          obtain ⟨f1, f2, f3⟩ := tell_form (a := (s.at_, e.1)) IH.form IH.up (by show s.at_ < e.1; have := h.1; omega)
          refine ⟨f1, f2, fun x => ?_⟩
          rw [f3, IH.mem]
          show (_ || (decide (s.at_ ≤ x) && decide (x < e.1))) = _
          by_cases hx : x < s.at_
          · have hx1 : x < e.1 := by omega
            have hx2 : ¬ s.at_ ≤ x := by omega
            simp [hx, hx1, hx2]
          · have hx1 : s.at_ ≤ x := by omega
            rw [hmem x hx1, h.2]
            simp [hx, hx1]
        · rename_i h
          refine ⟨IH.form, fun i hi => by have := IH.up i hi; omega, fun x => ?_⟩
          rw [IH.mem]
          by_cases hx : x < s.at_
          · have hx1 : x < e.1 := by omega
            simp [hx, hx1]
          · have hx1 : s.at_ ≤ x := by omega
            rw [hmem x hx1]
            by_cases hq : x < e.1
            · have hne : s.at_ ≠ e.1 := by omega
              have hf : want (decide (0 < s.n0)) (decide (0 < s.n1)) = false := by
                rw [← Bool.not_eq_true]; exact fun hh => h ⟨hne, hh⟩
              rw [hf]; simp
            · simp [hx, hq]
      refine ⟨?_, ?_, ?_, ⟨e, List.mem_append_right _ (List.mem_singleton.mpr rfl), rfl⟩, hc.1, hc.2.1, ?_⟩
      · rw [t0, ← IH.n0]; unfold passL; simp only; split <;> simp
      · rw [t0, ← IH.n1]; unfold passL; simp only; split <;> simp
      · intro f hf
        rcases List.mem_append.mp hf with hf | hf
        · exact hle f hf
        · cases List.mem_singleton.mp hf; exact Int.le_refl _
      · intro x
        show memI (closeL want s e.1) x = (decide (x < e.1) && _)
        rw [hc.2.2 x]
        by_cases hq : x < e.1
        · rw [c0 0 x hq, c0 1 x hq]
        · simp [hq]
theorem gather_form (want : Bool → Bool → Bool) (hw : want false false = false) (a b : List (Int × Int)) (E : List (Int × Int × Int)) (hE : (endsL 0 a ++ endsL 1 b).Perm E) (hp : E.Pairwise fun e f => e.1 ≤ f.1) :
    Form (runL want E).out ∧ ∀ x, memI (runL want E).out x = want (memI a x) (memI b x) := by
  have e0 : ∀ x, decide (0 < cnt 0 E x) = memI a x := fun x => by
    rw [← cnt_perm 0 hE x, cnt_append, cnt_other 1 0 (by decide), Int.add_zero]; exact (cnt_mem 0 a x).2
  have e1 : ∀ x, decide (0 < cnt 1 E x) = memI b x := fun x => by
    rw [← cnt_perm 1 hE x, cnt_append, cnt_other 0 1 (by decide), Int.zero_add]; exact (cnt_mem 1 b x).2
  have z : ∀ j, tot j E = 0 := fun j => by rw [← tot_perm j hE, tot_append, tot_ends, tot_ends]; rfl
  by_cases h : E = []
  · subst h
    refine ⟨Form.nil, fun x => ?_⟩
    rw [← e0, ← e1]
    show false = want (decide (0 < (0 : Int))) (decide (0 < (0 : Int)))
    simp [hw]
  · have T := told_run want hw E.length E rfl hp h
    refine ⟨T.form, fun x => ?_⟩
    rw [T.mem, e0, e1]
    by_cases hx : x < (runL want E).at_
    · simp [hx]
    · have hl : ∀ f ∈ E, f.1 ≤ x := fun f hf => Int.le_trans (T.le f hf) (by omega)
      have ea := e0 x
      have eb := e1 x
      rw [cnt_all hl, z] at ea eb
      rw [← ea, ← eb]
      simp [hw]
/-! ## How many moments -/
def lenI (i : Int × Int) : Int := if i.2 ≤ i.1 then 0 else i.2 - i.1
def sumI (l : List (Int × Int)) : Int := (l.map lenI).sum
def cntM (p : Int → Bool) (lo : Int) : Nat → Int
  | 0 => 0
  | n + 1 => cntM p lo n + if p (lo + n) = true then 1 else 0
theorem cntM_congr {p q : Int → Bool} (h : ∀ x, p x = q x) (lo : Int) (n : Nat) : cntM p lo n = cntM q lo n := by
  rw [show p = q from funext h]
theorem cntM_split (p q : Int → Bool) (lo : Int) : ∀ n, cntM (fun x => p x && q x) lo n + cntM (fun x => p x && !q x) lo n = cntM p lo n
  | 0 => rfl
  | n + 1 => by
    have := cntM_split p q lo n
    unfold cntM
    cases p (lo + n) <;> cases q (lo + n) <;> simp <;> omega
theorem cntM_or (p q : Int → Bool) (lo : Int) (h : ∀ x, p x = true → q x = false) : ∀ n, cntM (fun x => p x || q x) lo n = cntM p lo n + cntM q lo n
  | 0 => rfl
  | n + 1 => by
    have h1 := cntM_or p q lo h n
    have h2 := h (lo + n)
    unfold cntM
    rw [h1]
    cases hp : p (lo + n) <;> cases hq : q (lo + n) <;> simp_all <;> omega
theorem cntM_iv (a b lo : Int) (h1 : lo ≤ a) (h2 : a ≤ b) : ∀ n : Nat, cntM (fun x => decide (a ≤ x) && decide (x < b)) lo n = if lo + n ≤ a then 0 else if lo + n ≤ b then lo + n - a else b - a
  | 0 => by unfold cntM; repeat' split
            all_goals omega
  | n + 1 => by
    unfold cntM
    rw [cntM_iv a b lo h1 h2 n]
    simp only [Bool.and_eq_true, decide_eq_true_eq]
    repeat' split
    all_goals omega
theorem cntM_nonneg (p : Int → Bool) (lo : Int) : ∀ n, 0 ≤ cntM p lo n ∧ cntM p lo n ≤ n
  | 0 => ⟨Int.le_refl _, Int.le_refl _⟩
  | n + 1 => by have := cntM_nonneg p lo n; unfold cntM; split <;> omega
theorem sum_cnt (lo : Int) (n : Nat) : ∀ (l : List (Int × Int)), Form l → (∀ i ∈ l, lo ≤ i.1 ∧ i.2 ≤ lo + n) → sumI l = cntM (memI l) lo n
  | [], _, _ => by
    have : ∀ n, cntM (memI []) lo n = 0 := fun n => by
      induction n with
      | zero => rfl
      | succ n ih => unfold cntM; rw [ih]; rfl
    rw [this]; rfl
  | i :: l, hf, hr => by
    have IH := sum_cnt lo n l hf.tail fun j hj => hr j (List.mem_cons_of_mem _ hj)
    have i0 := hf.1 i List.mem_cons_self
    have ir := hr i List.mem_cons_self
    have il := (List.pairwise_cons.mp hf.2).1
    have hor := cntM_or (fun x => decide (i.1 ≤ x) && decide (x < i.2)) (memI l) lo (fun x hx => memI_not.mpr fun k hk k1 => by
      have := il k hk; simp at hx; omega) n
    have e : cntM (memI (i :: l)) lo n = cntM (fun x => (decide (i.1 ≤ x) && decide (x < i.2)) || memI l x) lo n := rfl
    rw [e, hor, ← IH, cntM_iv i.1 i.2 lo ir.1 (by omega) n]
    unfold sumI lenI
    simp only [List.map_cons, List.sum_cons]
    have c1 : ¬ i.2 ≤ i.1 := by omega
    have c2 : ¬ lo + n ≤ i.1 := by omega
    rw [if_neg c1, if_neg c2]
    split <;> omega
end Go.Proofs.YtnffedmcblbkoaaGreatDoor
namespace Go.Proofs.YtnffedmcblbkoaaGreatDoor
open Go.RowKit
set_option maxRecDepth 100000
def brI (v f t : Int) : Int := min (max v f) t
theorem empty_any (f t : Int) (w : World) :
  Calls Tryz.prog 97 #[.agg #[.int .i64 f, .int .i64 t]] w fun e w' => e = .returned (.bool (decide (t ≤ f))) ∧ w' = w.alloc (.cells #[.int .i64 f, .int .i64 t] 36) := by
 go_enter Tryz.func97, Tryz.ntmps97
 go_wp2
 go_ret
 exact ⟨rfl, rfl⟩
theorem bring_any (v f t : Int) (w : World) :
  Calls Tryz.prog 193 #[.int .i64 v, .agg #[.int .i64 f, .int .i64 t]] w fun e w' => e = .returned (.int .i64 (brI v f t)) ∧ w' = w.alloc (.cells #[.int .i64 f, .int .i64 t] 36) := by
 go_enter Tryz.func193, Tryz.ntmps193
 go_wp2
 all_goals go_ret
 all_goals refine ⟨?_, rfl⟩
 all_goals (unfold brI; show Ending.returned (Value.int _ _) = _; congr 2; try (split at * <;> omega))
def clipI (a w : Int × Int) : Int × Int := if w.2 ≤ w.1 then (w.1, w.1) else if a.2 ≤ a.1 then (brI a.1 w.1 w.2, brI a.1 w.1 w.2) else (brI a.1 w.1 w.2, brI a.2 w.1 w.2)
theorem clip_any (a b : Int × Int) (w : World) :
  Calls Tryz.prog 139 #[.agg #[.int .i64 a.1, .int .i64 a.2], .agg #[.int .i64 b.1, .int .i64 b.2]] w fun e w' => e = .returned (.agg #[.int .i64 (clipI a b).1, .int .i64 (clipI a b).2]) ∧ Below w.heap.size w w' := by
 obtain ⟨a1, a2⟩ := a
 obtain ⟨b1, b2⟩ := b
 have E := empty_any
 have B := bring_any
 unfold clipI
 by_cases h : b2 ≤ b1
 ·rw [if_pos h]
  have h' : decide (b2 ≤ b1) = true := decide_eq_true h
  go_enter Tryz.func139, Tryz.ntmps139
  go_wp2_with (go_at_call 97; refine (E _ _ _).mono ?_; rintro e w1 ⟨rfl, rfl⟩)
  go_returns
  refine ⟨rfl, ?_⟩
  repeat' first | exact Below.refl _ _ | refine Below.alloc ?_ (by simp <;> omega) _ | refine Below.setCell ?_ ?_ _
 ·rw [if_neg h]
  have h' : decide (b2 ≤ b1) = false := decide_eq_false h
  by_cases k : a2 ≤ a1
  ·rw [if_pos k]
   have k' : decide (a2 ≤ a1) = true := decide_eq_true k
   go_enter Tryz.func139, Tryz.ntmps139
   go_wp2_with (first
    | (go_at_call 97; refine (E _ _ _).mono ?_; rintro e w1 ⟨rfl, rfl⟩)
    | (go_at_call 193; refine (B _ _ _ _).mono ?_; rintro e w1 ⟨rfl, rfl⟩))
   go_returns
   refine ⟨rfl, ?_⟩
   repeat' first | exact Below.refl _ _ | refine Below.alloc ?_ (by simp <;> omega) _ | refine Below.setCell ?_ ?_ _
  ·rw [if_neg k]
   have k' : decide (a2 ≤ a1) = false := decide_eq_false k
   go_enter Tryz.func139, Tryz.ntmps139
   go_wp2_with (first
    | (go_at_call 97; refine (E _ _ _).mono ?_; rintro e w1 ⟨rfl, rfl⟩)
    | (go_at_call 193; refine (B _ _ _ _).mono ?_; rintro e w1 ⟨rfl, rfl⟩))
   go_returns
   refine ⟨rfl, ?_⟩
   repeat' first | exact Below.refl _ _ | refine Below.alloc ?_ (by simp <;> omega) _ | refine Below.setCell ?_ ?_ _
def in64 (x : Int) : Prop := -9223372036854775808 ≤ x ∧ x ≤ 9223372036854775807
def In64 (i : Int × Int) : Prop := in64 i.1 ∧ in64 i.2
theorem wrap_diff {f t : Int} (hf : in64 f) (ht : in64 t) (h : ¬ t ≤ f) : IntKind.u64.wrap (IntKind.u64.wrap t - IntKind.u64.wrap f) = t - f := by
 unfold in64 at *
 simp only [IntKind.wrap_u64]
 omega
theorem length_any (a : Int × Int) (w : World) (ha : In64 a) :
  Calls Tryz.prog 62 #[.agg #[.int .i64 a.1, .int .i64 a.2]] w fun e w' => e = .returned (.int .u64 (lenI a)) ∧ Below w.heap.size w w' := by
 obtain ⟨a1, a2⟩ := a
 obtain ⟨ha1, ha2⟩ := ha
 have E := empty_any
 unfold lenI
 by_cases k : a2 ≤ a1
 ·rw [if_pos k]
  have k' : decide (a2 ≤ a1) = true := decide_eq_true k
  clear ha1 ha2
  go_enter Tryz.func62, Tryz.ntmps62
  go_wp2_with (go_at_call 97; refine (E _ _ _).mono ?_; rintro e w1 ⟨rfl, rfl⟩)
  go_ret
  refine ⟨rfl, ?_⟩
  repeat' first | exact Below.refl _ _ | refine Below.alloc ?_ (by simp <;> omega) _
 ·rw [if_neg k]
  have k' : decide (a2 ≤ a1) = false := decide_eq_false k
  have W := wrap_diff ha1 ha2 k
  clear ha1 ha2
  go_enter Tryz.func62, Tryz.ntmps62
  go_wp2_with (go_at_call 97; refine (E _ _ _).mono ?_; rintro e w1 ⟨rfl, rfl⟩)
  go_ret
  refine ⟨rfl, ?_⟩
  repeat' first | exact Below.refl _ _ | refine Below.alloc ?_ (by simp <;> omega) _
end Go.Proofs.YtnffedmcblbkoaaGreatDoor
