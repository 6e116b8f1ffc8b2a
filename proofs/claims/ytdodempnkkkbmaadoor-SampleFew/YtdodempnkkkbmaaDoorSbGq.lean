/-
  Merged: SbG, SbH.
-/
import Derived.Test.YtdodempnkkkbmaaDoorSbE
import Derived.Test.YtdodempnkkkbmaaDoorSbF
namespace Go.Proofs.YtdodempnkkkbmaaDoor
open Go Go.RowKit
set_option maxRecDepth 100000

abbrev arrF (F : Nat → Nat) (m : Nat) : Array Value := ((List.range 5).map fun j => Value.pointer (if j < m then some ⟨F j, 0, none⟩ else none)).toArray
/-- Fews beside one another: so many of them. -/
structure FamF (w W : World) (arr most : Nat) (F : Nat → Nat) (TT : Nat → List Tr) (m : Nat) : Prop where
  arrB : Blk W arr (arrF F m) 28
  arrl : w.heap.size ≤ arr
  few : ∀ i, i < m → FewAt W (F i) w.heap.size most (TT i)
  ge : ∀ i, i < m → w.heap.size ≤ F i
  ne : ∀ i j, i < m → j < m → i ≠ j → F i ≠ F j
  ap : ∀ i j, i < m → j < m → i ≠ j → ∀ ai ci aj cj, Blk W (F i) #[.int .i64 most, .slice ai (TT i).length ci] 60 → Blk W (F j) #[.int .i64 most, .slice aj (TT j).length cj] 60 → ∀ a b, ai = some a → aj = some b → a.block ≠ b.block
  bel : Below w.heap.size w W
def upF (TT : Nat → List Tr) (i : Nat) (T : List Tr) : Nat → List Tr := fun j => if j = i then T else TT j
theorem upF_at (TT : Nat → List Tr) (i : Nat) (T : List Tr) : upF TT i T i = T := if_pos rfl
theorem upF_ne (TT : Nat → List Tr) {i j : Nat} (T : List Tr) (h : j ≠ i) : upF TT i T j = TT j := if_neg h
theorem FamF.cell {w W : World} {arr most m : Nat} {F : Nat → Nat} {TT : Nat → List Tr} (h : FamF w W arr most F TT m) (i : Nat) (hi : i < m) (h5 : i < 5) : W.cell? ⟨arr, i, none⟩ = some (.pointer (some ⟨F i, 0, none⟩)) :=
  h.arrB.cell i (by simp [arrF, List.getElem?_range h5, hi])
theorem FamF.turn {w W W' : World} {arr most m i : Nat} {F : Nat → Nat} {TT : Nat → List Tr} {T' : List Tr} (h : FamF w W arr most F TT m) (hi : i < m)
    (hrow : ∃ ao c, Blk W' (F i) #[.int .i64 most, .slice ao T'.length c] 60 ∧ OwnTr w.heap.size W' (.slice ao T'.length c) T' ∧ ∀ a, ao = some a → (∃ ao0 c0 a0, Blk W (F i) #[.int .i64 most, .slice ao0 (TT i).length c0] 60 ∧ ao0 = some a0 ∧ a0.block = a.block) ∨ W.heap.size ≤ a.block)
    (hu : Upd (fun k => k = F i ∨ ∃ ao c, Blk W (F i) #[.int .i64 most, .slice ao (TT i).length c] 60 ∧ ∃ a, ao = some a ∧ a.block = k) W W')
    (hr : RiseF T') (hl : T'.length ≤ most) : FamF w W' arr most F (upF TT i T') m := by
  obtain ⟨af, cf, kf, of, hmv⟩ := hrow
  obtain ⟨ar, cr, kr, orr⟩ := (h.few i hi).row
  have hS : ∀ k, (k = F i ∨ ∃ ao c, Blk W (F i) #[.int .i64 most, .slice ao (TT i).length c] 60 ∧ ∃ a, ao = some a ∧ a.block = k) → k = F i ∨ ∃ a, ar = some a ∧ a.block = k := fun k hk => by
    rcases hk with e | ⟨ao, c, hb, a, e, ha⟩
    · exact Or.inl e
    · have := few_uniq hb kr
      simp only [Value.slice.injEq] at this
      obtain ⟨rfl, -, rfl⟩ := this
      exact Or.inr ⟨a, e, ha⟩
  have hfew : ∀ {b : Nat} {cs : Array Value} {T : TypeId}, Blk W b cs T → T ≠ 32 → b ≠ F i → ¬ (b = F i ∨ ∃ ao c, Blk W (F i) #[.int .i64 most, .slice ao (TT i).length c] 60 ∧ ∃ a, ao = some a ∧ a.block = b) := fun {b cs T} hb hT hne hs => by
    rcases hS b hs with e | ⟨a, e, ha⟩
    · exact hne e
    · obtain ⟨_, cs', hh⟩ := row_lt orr e
      rw [ha] at hh
      have h1 : W.heap[b]? = some (.cells cs T (0, 0)) := hb
      rw [h1] at hh
      simp at hh
      exact hT hh.2
  have hrowk : ∀ {j : Nat}, j < m → j ≠ i → ∀ {aj : Option Addr} {cj : Nat}, Blk W (F j) #[.int .i64 most, .slice aj (TT j).length cj] 60 → OwnTr w.heap.size W (.slice aj (TT j).length cj) (TT j) → ∀ k, (Value.slice aj (TT j).length cj).ownBlock = some k → ¬ (k = F i ∨ ∃ ao c, Blk W (F i) #[.int .i64 most, .slice ao (TT i).length c] 60 ∧ ∃ a, ao = some a ∧ a.block = k) := fun {j} hj hji {aj cj} kj oj k hk hs => by
    obtain ⟨b, eb, hb⟩ := ownB hk
    rcases hS k hs with e | ⟨a, e, ha⟩
    · obtain ⟨_, cs', hh⟩ := row_lt oj eb
      rw [hb, e] at hh
      have h1 : W.heap[F i]? = some (.cells _ 60 (0, 0)) := kr
      rw [h1] at hh
      simp at hh
    · exact h.ap i j hi hj (Ne.symm hji) ar cr aj cj kr kj a b e eb (ha.trans hb.symm)
  have hne : ∀ j, j < m → j ≠ i → F j ≠ F i := fun j hj hji => h.ne j i hj hi hji
  have harr : arr ≠ F i := fun e => by
    have h1 : W.heap[arr]? = some (.cells _ 28 (0, 0)) := h.arrB
    have h2 : W.heap[F i]? = some (.cells _ 60 (0, 0)) := kr
    rw [e, h2] at h1
    simp at h1
  have hkeep : ∀ j, j < m → j ≠ i → ∀ aj cj, Blk W' (F j) #[.int .i64 most, .slice aj (TT j).length cj] 60 → ∃ aj' cj', aj = aj' ∧ cj = cj' ∧ Blk W (F j) #[.int .i64 most, .slice aj' (TT j).length cj'] 60 := fun j hj hji aj cj kj => by
    obtain ⟨a', c', k', o'⟩ := (h.few j hj).row
    have k2 := k'.upd hu (hfew k' (by decide) (hne j hj hji))
    have := few_uniq kj k2
    simp only [Value.slice.injEq] at this
    exact ⟨a', c', this.1, this.2.2, k'⟩
  have hlow : W.heap.size ≤ W'.heap.size := hu.size
  refine ⟨h.arrB.upd hu (hfew h.arrB (by decide) harr), h.arrl, fun j hj => ?_, h.ge, h.ne, fun j k hj hk hjk aj cj ak ck bj bk a b ea eb hab => ?_, h.bel.trans (hu.below h.bel.size (fun k hk hs => ?_))⟩
  · by_cases hji : j = i
    · subst hji
      rw [upF_at]
      exact ⟨⟨af, cf, kf, of⟩, hr, hl, (h.few j hj).most, Nat.le_trans (h.few j hj).low hlow⟩
    · rw [upF_ne _ _ hji]
      have F0 := h.few j hj
      obtain ⟨a', c', k', o'⟩ := F0.row
      exact ⟨⟨a', c', k'.upd hu (hfew k' (by decide) (hne j hj hji)), ownsRow_upd o' hu (hrowk hj hji k' o')⟩, F0.rise, F0.len, F0.most, Nat.le_trans F0.low hlow⟩
  · have old : ∀ (x : Nat), x < m → x ≠ i → ∀ ax cx, Blk W' (F x) #[.int .i64 most, .slice ax (TT x).length cx] 60 → ∀ p q, ax = some p → af = some q → p.block ≠ q.block := fun x hx hxi ax cx bx p q ep eq hpq => by
      obtain ⟨ax', cx', rfl, rfl, kx⟩ := hkeep x hx hxi ax cx bx
      rcases hmv q eq with ⟨ao0, c0, a0, k0, e0, h0⟩ | h0
      · exact h.ap i x hi hx (Ne.symm hxi) ao0 c0 ax cx k0 kx a0 p e0 ep (h0.trans hpq.symm)
      · obtain ⟨a', c', k', o'⟩ := (h.few x hx).row
        have := few_uniq kx k'
        simp only [Value.slice.injEq] at this
        obtain ⟨rfl, -, rfl⟩ := this
        have := (row_lt o' ep).1
        omega
    by_cases hji : j = i
    · subst hji
      have hki : k ≠ j := Ne.symm hjk
      rw [upF_at] at bj
      rw [upF_ne _ _ hki] at bk
      have := few_uniq bj kf
      simp only [Value.slice.injEq] at this
      obtain ⟨rfl, -, rfl⟩ := this
      exact old k hk hki ak ck bk b a eb ea hab.symm
    · rw [upF_ne _ _ hji] at bj
      by_cases hki : k = i
      · subst hki
        rw [upF_at] at bk
        have := few_uniq bk kf
        simp only [Value.slice.injEq] at this
        obtain ⟨rfl, -, rfl⟩ := this
        exact old j hj hji aj cj bj a b ea eb hab
      · rw [upF_ne _ _ hki] at bk
        obtain ⟨aj', cj', rfl, rfl, kj⟩ := hkeep j hj hji aj cj bj
        obtain ⟨ak', ck', rfl, rfl, kk⟩ := hkeep k hk hki ak ck bk
        exact h.ap j k hj hk hjk aj cj ak ck kj kk a b ea eb hab
  · rcases hS k hs with e | ⟨a, e, ha⟩
    · have := h.ge i hi
      omega
    · rcases orr.2 with ⟨e', _⟩ | ⟨g, cap, cur, e', hg, _⟩
      · simp [e] at e'
      · simp [e] at e'
        rw [e'.1] at ha
        simp at ha
        omega
theorem FamF.below {w W W' : World} {arr most m : Nat} {F : Nat → Nat} {TT : Nat → List Tr} (h : FamF w W arr most F TT m) (hb : Below W.heap.size W W') : FamF w W' arr most F TT m := by
  have hu : Upd (fun _ => False) W W' := Upd.ofBelow hb (fun k hk hk' => by omega)
  have hk : ∀ j, j < m → ∀ aj cj, Blk W' (F j) #[.int .i64 most, .slice aj (TT j).length cj] 60 → ∃ aj' cj', aj = aj' ∧ cj = cj' ∧ Blk W (F j) #[.int .i64 most, .slice aj' (TT j).length cj'] 60 := fun j hj aj cj kj => by
    obtain ⟨a', c', k', o'⟩ := (h.few j hj).row
    have := few_uniq kj (k'.below hb k'.lt)
    simp only [Value.slice.injEq] at this
    exact ⟨a', c', this.1, this.2.2, k'⟩
  refine ⟨h.arrB.below hb h.arrB.lt, h.arrl, fun j hj => ?_, h.ge, h.ne, fun j k hj hk' hjk aj cj ak ck bj bk a b ea eb hab => ?_, h.bel.trans (hb.mono h.bel.size)⟩
  · have F0 := h.few j hj
    obtain ⟨a', c', k', o'⟩ := F0.row
    exact ⟨⟨a', c', k'.below hb k'.lt, ownsRow_upd o' hu (fun _ _ h => h)⟩, F0.rise, F0.len, F0.most, Nat.le_trans F0.low hb.size⟩
  · obtain ⟨aj', cj', rfl, rfl, kj⟩ := hk j hj aj cj bj
    obtain ⟨ak', ck', rfl, rfl, kk⟩ := hk k hk' ak ck bk
    exact h.ap j k hj hk' hjk aj cj ak ck kj kk a b ea eb hab
/-- A trace is put into one of them. -/
theorem FamF.put {w W : World} {arr most m : Nat} {F : Nat → Nat} {TT : Nat → List Tr} (h : FamF w W arr most F TT m) (i : Nat) (hi : i < m) (t : Tr) :
    Calls Tryd.prog 6 #[.pointer (some ⟨F i, 0, none⟩), .agg #[.int .u64 (bvI t.1), .int .u64 (bvI t.2)]] W fun e W' => ∃ b T', e = .returned (.bool b) ∧ FamF w W' arr most F (upF TT i T') m ∧ ∀ S, TopF most S (TT i) → TopF most (t :: S) T' := by
  refine (putF_any (F i) w.heap.size most (TT i) t W (h.few i hi)).mono ?_
  rintro e W' ⟨b, T', rfl, h1, h2, h3⟩
  obtain ⟨r1, r2⟩ := h1.few (h.few i hi).rise (h.few i hi).len
  exact ⟨b, T', rfl, h.turn hi h2 h3 r1 r2, fun S hS => (hS.put h1).1⟩
/-- One of them is merged into another one. -/
theorem FamF.merge {w W : World} {arr most m : Nat} {F : Nat → Nat} {TT : Nat → List Tr} (h : FamF w W arr most F TT m) (i j : Nat) (hi : i < m) (hj : j < m) (hij : i ≠ j) :
    Calls Tryd.prog 7 #[.pointer (some ⟨F i, 0, none⟩), .pointer (some ⟨F j, 0, none⟩)] W fun e W' => ∃ T', e = .returned (.int .i64 0) ∧ FamF w W' arr most F (upF TT i T') m ∧ ∀ S, TopF most S (TT i) → TopF most ((TT j).reverse ++ S) T' := by
  refine (mergeF_any (F i) (F j) w.heap.size w.heap.size most (TT i) (TT j) W (h.few i hi) (h.few j hj) (h.ne i j hi hj hij) (fun af cf ao co => h.ap i j hi hj hij af cf ao co)).mono ?_
  rintro e W' ⟨ao, co, T', rfl, hM⟩
  obtain ⟨af, cf, kf, of⟩ := hM.few.row
  refine ⟨T', rfl, h.turn hi ⟨af, cf, kf, of, hM.mv af cf kf⟩ hM.upd hM.few.rise hM.few.len, fun S hS => ?_⟩
  have := hM.top S hS
  rwa [List.take_of_length_le (Nat.le_refl _)] at this
theorem TopF.same {most : Nat} {S S' T : List Tr} (h : TopF most S T) (hS : ∀ x, x ∈ S ↔ x ∈ S') : TopF most S' T :=
  ⟨h.pw, fun x hx => (hS x).1 (h.sub x hx), h.len, fun s hs hn => h.rest s ((hS s).2 hs) hn⟩
end Go.Proofs.YtdodempnkkkbmaaDoor

namespace Go.Proofs.YtdodempnkkkbmaaDoor
open Go Go.RowKit
set_option maxRecDepth 100000

/-- What the five hold behind i rounds. -/
structure Tops (most c n i : Nat) (L : List Tr) (TT : Nat → List Tr) : Prop where
  t0 : TopF most (L.take i) (TT 0)
  t1 : TopF most (L.drop (n - i)) (TT 1)
  t2 : TopF most (L.take (min i c)) (TT 2)
  t3 : TopF most ((L.take i).drop c) (TT 3)
  t4 : TopF most ((L.take i).drop c) (TT 4)
theorem Tops.zero (most c : Nat) (L : List Tr) : Tops most c L.length 0 L (fun _ => []) := by
  have h : ∀ S : List Tr, S = [] → TopF most S [] := fun S e => by subst e; exact TopF.nil most
  exact ⟨h _ (by simp), h _ (by simp), h _ (by simp), h _ (by simp), h _ (by simp)⟩
theorem take_more {L : List Tr} {i : Nat} (hi : i < L.length) : ∀ x, x ∈ L[i] :: L.take i ↔ x ∈ L.take (i + 1) := fun x => by
  rw [List.take_add_one, List.getElem?_eq_getElem hi, List.mem_cons, List.mem_append]
  simp
  exact Or.comm
theorem drop_more {L : List Tr} {i : Nat} (hi : i < L.length) : L[L.length - 1 - i]'(by omega) :: L.drop (L.length - i) = L.drop (L.length - (i + 1)) := by
  rw [List.drop_eq_getElem_cons (i := L.length - (i + 1)) (by omega)]
  congr 1
  · congr 1
    omega
  · congr 1
    omega
theorem part_more {L : List Tr} {i c : Nat} (hi : i < L.length) (hc : c ≤ i) : ∀ x, x ∈ L[i] :: (L.take i).drop c ↔ x ∈ (L.take (i + 1)).drop c := fun x => by
  rw [List.take_add_one, List.getElem?_eq_getElem hi, List.drop_append_of_le_length (by simp; omega), List.mem_cons, List.mem_append]
  simp
  exact Or.comm
theorem Tops.low {most c i : Nat} {L : List Tr} {TT : Nat → List Tr} {T0 T1 T2 : List Tr} (h : Tops most c L.length i L TT) (hi : i < L.length) (hc : i < c)
    (p0 : ∀ S, TopF most S (TT 0) → TopF most (L[i] :: S) T0) (p1 : ∀ S, TopF most S (upF TT 0 T0 1) → TopF most (L[L.length - 1 - i]'(by omega) :: S) T1) (p2 : ∀ S, TopF most S (upF (upF TT 0 T0) 1 T1 2) → TopF most (L[i] :: S) T2) : Tops most c L.length (i + 1) L (upF (upF (upF TT 0 T0) 1 T1) 2 T2) := by
  refine ⟨(p0 _ h.t0).same (take_more hi), ?_, ?_, ?_, ?_⟩
  · have := p1 _ h.t1
    rw [drop_more hi] at this
    exact this
  · have h2 := h.t2
    rw [Nat.min_eq_left (by omega)] at h2
    rw [Nat.min_eq_left (by omega)]
    exact (p2 _ h2).same (take_more hi)
  · have e : (L.take (i + 1)).drop c = (L.take i).drop c := by
      rw [List.drop_eq_nil_of_le (by simp; omega), List.drop_eq_nil_of_le (by simp; omega)]
    rw [e]
    exact h.t3
  · have e : (L.take (i + 1)).drop c = (L.take i).drop c := by
      rw [List.drop_eq_nil_of_le (by simp; omega), List.drop_eq_nil_of_le (by simp; omega)]
    rw [e]
    exact h.t4
theorem Tops.high {most c i : Nat} {L : List Tr} {TT : Nat → List Tr} {T0 T1 T3 T4 : List Tr} (h : Tops most c L.length i L TT) (hi : i < L.length) (hc : c ≤ i)
    (p0 : ∀ S, TopF most S (TT 0) → TopF most (L[i] :: S) T0) (p1 : ∀ S, TopF most S (upF TT 0 T0 1) → TopF most (L[L.length - 1 - i]'(by omega) :: S) T1) (p3 : ∀ S, TopF most S (upF (upF TT 0 T0) 1 T1 3) → TopF most (L[i] :: S) T3) (p4 : ∀ S, TopF most S (upF (upF (upF TT 0 T0) 1 T1) 3 T3 4) → TopF most (L[i] :: S) T4) : Tops most c L.length (i + 1) L (upF (upF (upF (upF TT 0 T0) 1 T1) 3 T3) 4 T4) := by
  refine ⟨(p0 _ h.t0).same (take_more hi), ?_, ?_, (p3 _ h.t3).same (part_more hi hc), (p4 _ h.t4).same (part_more hi hc)⟩
  · have := p1 _ h.t1
    rw [drop_more hi] at this
    exact this
  · have e : min (i + 1) c = min i c := by omega
    rw [e]
    exact h.t2
theorem Tops.lowN {most c i n : Nat} {L : List Tr} {TT : Nat → List Tr} {T0 T1 T2 : List Tr} {x y : Tr} (h : Tops most c n i L TT) (hn : L.length = n) (hX : ∃ (_ : i < L.length) (_ : L.length - 1 - i < L.length), L[i] = x ∧ L[L.length - 1 - i] = y) (hc : i < c)
    (p0 : ∀ S, TopF most S (TT 0) → TopF most (x :: S) T0) (p1 : ∀ S, TopF most S (upF TT 0 T0 1) → TopF most (y :: S) T1) (p2 : ∀ S, TopF most S (upF (upF TT 0 T0) 1 T1 2) → TopF most (x :: S) T2) : Tops most c n (i + 1) L (upF (upF (upF TT 0 T0) 1 T1) 2 T2) := by
  obtain ⟨h1, h2, rfl, rfl⟩ := hX
  subst hn
  exact h.low h1 hc p0 p1 p2
theorem Tops.highN {most c i n : Nat} {L : List Tr} {TT : Nat → List Tr} {T0 T1 T3 T4 : List Tr} {x y : Tr} (h : Tops most c n i L TT) (hn : L.length = n) (hX : ∃ (_ : i < L.length) (_ : L.length - 1 - i < L.length), L[i] = x ∧ L[L.length - 1 - i] = y) (hc : c ≤ i)
    (p0 : ∀ S, TopF most S (TT 0) → TopF most (x :: S) T0) (p1 : ∀ S, TopF most S (upF TT 0 T0 1) → TopF most (y :: S) T1) (p3 : ∀ S, TopF most S (upF (upF TT 0 T0) 1 T1 3) → TopF most (x :: S) T3) (p4 : ∀ S, TopF most S (upF (upF (upF TT 0 T0) 1 T1) 3 T3 4) → TopF most (x :: S) T4) : Tops most c n (i + 1) L (upF (upF (upF (upF TT 0 T0) 1 T1) 3 T3) 4 T4) := by
  obtain ⟨h1, h2, rfl, rfl⟩ := hX
  subst hn
  exact h.high h1 hc p0 p1 p3 p4
/-- In the end. -/
structure TopsE (most c : Nat) (L : List Tr) (TT : Nat → List Tr) : Prop where
  t0 : TopF most L (TT 0)
  t1 : TopF most L (TT 1)
  t2 : TopF most (L.take c) (TT 2)
  t3 : TopF most (L.drop c) (TT 3)
  t4 : TopF most (L.drop c) (TT 4)
theorem Tops.done {most c : Nat} {L : List Tr} {TT : Nat → List Tr} (h : Tops most c L.length L.length L TT) (hc : c ≤ L.length) : TopsE most c L TT := by
  obtain ⟨h0, h1, h2, h3, h4⟩ := h
  rw [List.take_of_length_le (Nat.le_refl _)] at h0 h3 h4
  rw [Nat.sub_self, List.drop_zero] at h1
  rw [Nat.min_eq_right hc] at h2
  exact ⟨h0, h1, h2, h3, h4⟩
theorem TopsE.again {most c : Nat} {L : List Tr} {TT : Nat → List Tr} {t : Tr} {T1 : List Tr} (h : TopsE most c L TT) (ht : t ∈ L) (p1 : ∀ S, TopF most S (TT 1) → TopF most (t :: S) T1) : TopsE most c L (upF TT 1 T1) :=
  ⟨h.t0, (p1 _ h.t1).same (fun x => ⟨fun hx => by rcases List.mem_cons.1 hx with rfl | hx; exact ht; exact hx, fun hx => List.mem_cons_of_mem _ hx⟩), h.t2, h.t3, h.t4⟩
theorem TopF.rev {most : Nat} {A B U : List Tr} (h : TopF most (A.reverse ++ B) U) : TopF most (A ++ B) U := h.same (fun x => by simp)
/-- The four are one. -/
theorem TopsE.merged {most c : Nat} {L : List Tr} {TT : Nat → List Tr} {T3 T2 : List Tr} (h : TopsE most c L TT) (p3 : ∀ S, TopF most S (TT 3) → TopF most ((TT 2).reverse ++ S) T3) (p2 : ∀ S, TopF most S (upF TT 3 T3 2) → TopF most ((upF TT 3 T3 4).reverse ++ S) T2) :
    TopF most L (TT 0) ∧ ∀ j, j < 4 → upF (upF TT 3 T3) 2 T2 j = TT 0 := by
  have h3 : TopF most L T3 := by
    have := h.t2.join (p3 _ h.t3).rev
    rw [List.take_append_drop] at this
    exact this
  have h2 : TopF most L T2 := by
    have k4 : TopF most (L.drop c) (upF TT 3 T3 4) := h.t4
    have := k4.join (p2 _ h.t2).rev
    refine this.same (fun x => ?_)
    rw [List.mem_append, Or.comm, ← List.mem_append, List.take_append_drop]
  refine ⟨h.t0, fun j hj => ?_⟩
  have e : j = 0 ∨ j = 1 ∨ j = 2 ∨ j = 3 := by omega
  rcases e with rfl | rfl | rfl | rfl
  · rfl
  · exact h.t1.one h.t0 (fun x => Iff.rfl)
  · exact h2.one h.t0 (fun x => Iff.rfl)
  · exact h3.one h.t0 (fun x => Iff.rfl)
/-- One Few more. -/
theorem FamF.add {w W W' : World} {arr most i : Nat} {F : Nat → Nat} (h : FamF w W arr most F (fun _ => []) i) (hi : i < 5) (hb : Below W.heap.size W W') (hf : FewAt W' W.heap.size (W.heap.size + 1) most []) :
    FamF w (W'.setCell ⟨arr, i, none⟩ (.pointer (some ⟨W.heap.size, 0, none⟩))) arr most (fun j => if j = i then W.heap.size else F j) (fun _ => []) (i + 1) := by
  have h' := h.below hb
  have hu : Upd (fun k => k = arr) W' (W'.setCell ⟨arr, i, none⟩ (.pointer (some ⟨W.heap.size, 0, none⟩))) := (Upd.refl (fun k => k = arr) W').setCell (p := ⟨arr, i, none⟩) (fun _ => rfl) _
  have hnf : ∀ {b : Nat} {cs : Array Value} {T : TypeId}, Blk W' b cs T → T ≠ 28 → ¬ b = arr := fun {b cs T} hb hT e => by
    have h1 : W'.heap[arr]? = some (.cells _ 28 (0, 0)) := h'.arrB
    have h2 : W'.heap[b]? = some (.cells cs T (0, 0)) := hb
    rw [e, h1] at h2
    simp at h2
    exact hT h2.2.symm
  have hnr : ∀ {base : Nat} {v : Value}, OwnTr base W' v [] → ∀ k, v.ownBlock = some k → ¬ k = arr := fun {base v} ho k hk e => by
    obtain ⟨_, cs, fz, hh⟩ := own_block ho hk
    have h1 : W'.heap[arr]? = some (.cells _ 28 (0, 0)) := h'.arrB
    rw [← e, hh] at h1
    simp at h1
  have hFj : ∀ j, j < i → F j < W.heap.size := fun j hj => by
    obtain ⟨_, _, k, _⟩ := (h.few j hj).row
    exact k.lt
  have hold : ∀ j, j < i → ∀ aj cj, Blk (W'.setCell ⟨arr, i, none⟩ (.pointer (some ⟨W.heap.size, 0, none⟩))) (F j) #[.int .i64 most, .slice aj 0 cj] 60 → ∀ a, aj = some a → a.block < W.heap.size ∧ ∃ aj' cj', aj = aj' ∧ cj = cj' ∧ Blk W (F j) #[.int .i64 most, .slice aj' 0 cj'] 60 := fun j hj aj cj kj a ea => by
    obtain ⟨a', c', k', o'⟩ := (h.few j hj).row
    have k2 := (k'.below hb k'.lt).upd hu (hnf (k'.below hb k'.lt) (by decide))
    have e := few_uniq kj k2
    simp only [List.length_nil, Value.slice.injEq] at e
    obtain ⟨rfl, -, rfl⟩ := e
    exact ⟨(row_lt o' ea).1, aj, cj, rfl, rfl, k'⟩
  have hnew : ∀ aj cj, Blk (W'.setCell ⟨arr, i, none⟩ (.pointer (some ⟨W.heap.size, 0, none⟩))) W.heap.size #[.int .i64 most, .slice aj 0 cj] 60 → ∀ a, aj = some a → W.heap.size < a.block := fun aj cj kj a ea => by
    obtain ⟨a', c', k', o'⟩ := hf.row
    have k2 := k'.upd hu (hnf k' (by decide))
    have e := few_uniq kj k2
    simp only [List.length_nil, Value.slice.injEq] at e
    obtain ⟨rfl, -, rfl⟩ := e
    rcases o'.2 with ⟨e', _⟩ | ⟨g, cap, cur, e', hg, _⟩
    · simp [ea] at e'
    · simp [ea] at e'
      rw [e'.1]
      exact hg
  refine ⟨?_, h.arrl, fun j hj => ?_, fun j hj => ?_, fun j k hj hk hjk => ?_, fun j k hj hk hjk aj cj ak ck bj bk a b ea eb hab => ?_, h'.bel.trans (hu.below h'.bel.size (fun k hk e => by have := h.arrl; omega))⟩
  · have := h'.arrB.set i (.pointer (some ⟨W.heap.size, 0, none⟩))
    have e : (arrF F i).setIfInBounds i (.pointer (some ⟨W.heap.size, 0, none⟩)) = arrF (fun j => if j = i then W.heap.size else F j) (i + 1) := by
      have e5 : i = 0 ∨ i = 1 ∨ i = 2 ∨ i = 3 ∨ i = 4 := by omega
      rcases e5 with rfl | rfl | rfl | rfl | rfl <;> rfl
    rw [e] at this
    exact this
  · by_cases hji : j = i
    · subst hji
      rw [if_pos rfl]
      obtain ⟨a', c', k', o'⟩ := hf.row
      have ow : OwnTr w.heap.size W' (.slice a' ([] : List Tr).length c') [] := by
        refine ⟨o'.1, ?_⟩
        rcases o'.2 with x | ⟨g, cap, cur, e', hg, r⟩
        · exact Or.inl x
        · exact Or.inr ⟨g, cap, cur, e', by have := h.bel.size; omega, r⟩
      exact ⟨⟨a', c', k'.upd hu (hnf k' (by decide)), ownsRow_upd ow hu (hnr ow)⟩, hf.rise, hf.len, hf.most, by have := h.bel.size; have := hb.size; have := hu.size; omega⟩
    · have hj' : j < i := by omega
      rw [if_neg hji]
      have F0 := h'.few j hj'
      obtain ⟨a', c', k', o'⟩ := F0.row
      exact ⟨⟨a', c', k'.upd hu (hnf k' (by decide)), ownsRow_upd o' hu (hnr o')⟩, F0.rise, F0.len, F0.most, by have := F0.low; have := hu.size; omega⟩
  · show w.heap.size ≤ if j = i then W.heap.size else F j
    by_cases hji : j = i
    · rw [if_pos hji]
      exact h.bel.size
    · rw [if_neg hji]
      exact h.ge j (by omega)
  · show (if j = i then W.heap.size else F j) ≠ if k = i then W.heap.size else F k
    by_cases hji : j = i
    · rw [if_pos hji, if_neg (by omega)]
      have := hFj k (by omega)
      omega
    · rw [if_neg hji]
      by_cases hki : k = i
      · rw [if_pos hki]
        have := hFj j (by omega)
        omega
      · rw [if_neg hki]
        exact h.ne j k (by omega) (by omega) hjk
  · simp only [List.length_nil] at bj bk
    by_cases hji : j = i
    · rw [if_pos hji] at bj
      rw [if_neg (by omega)] at bk
      have h1 := hnew aj cj bj a ea
      have h2 := (hold k (by omega) ak ck bk b eb).1
      omega
    · rw [if_neg hji] at bj
      obtain ⟨h1, aj', cj', rfl, rfl, kj⟩ := hold j (by omega) aj cj bj a ea
      by_cases hki : k = i
      · rw [if_pos hki] at bk
        have h2 := hnew ak ck bk b eb
        omega
      · rw [if_neg hki] at bk
        obtain ⟨h2, ak', ck', rfl, rfl, kk⟩ := hold k (by omega) ak ck bk b eb
        exact h.ap j k (by omega) (by omega) hjk aj cj ak ck kj kk a b ea eb hab
theorem FamF.new (w W : World) (most : Nat) (F : Nat → Nat) (hb : Below w.heap.size w W) : FamF w (W.alloc (.cells #[.pointer none, .pointer none, .pointer none, .pointer none, .pointer none] 28)) W.heap.size most F (fun _ => []) 0 :=
  ⟨Blk.new _ _ _, hb.size, fun i hi => absurd hi (by omega), fun i hi => absurd hi (by omega), fun i j hi => absurd hi (by omega), fun i j hi => absurd hi (by omega), hb.alloc hb.size _⟩
end Go.Proofs.YtdodempnkkkbmaaDoor
