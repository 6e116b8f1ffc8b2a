/-
  Mathematics of layer 13: sketches as functions from a bar's number to its count.
-/
import Derived.Test.YtmegmjhkjaejgaaSkA
namespace Go.Proofs.Ytmegmjhkjaejgaa.sk
set_option maxRecDepth 100000

def topC : Nat := 18446744073709551615
theorem topC_eq : topC = 18446744073709551615 := rfl
/-- May these bars be, behind the bar a? -/
def chkF (a : Int) : List (Int × Int) → Bool
  | [] => true
  | b :: l => !(decide (b.1 ≤ a)) && !(decide (1920 ≤ b.1)) && !(b.2 == 0) && chkF b.1 l
theorem chkF_cons (a : Int) (b : Int × Int) (l : List (Int × Int)) : chkF a (b :: l) = (!(decide (b.1 ≤ a)) && !(decide (1920 ≤ b.1)) && !(b.2 == 0) && chkF b.1 l) := rfl
theorem chkF_iff : ∀ {l : List (Int × Int)} {a : Int}, chkF a l = true ↔ (∀ b ∈ l, a < b.1 ∧ b.1 < 1920 ∧ b.2 ≠ 0) ∧ l.Pairwise fun x y => x.1 < y.1
  | [], a => by simp [chkF]
  | b :: l, a => by
    have ih := chkF_iff (l := l) (a := b.1)
    rw [chkF_cons, Bool.and_eq_true, Bool.and_eq_true, Bool.and_eq_true, ih, List.pairwise_cons]
    simp only [Bool.not_eq_true', decide_eq_false_iff_not, beq_eq_false_iff_ne, ne_eq, List.mem_cons]
    constructor
    · rintro ⟨⟨⟨h1, h2⟩, h3⟩, h4, h5⟩
      refine ⟨?_, fun y hy => (h4 y hy).1, h5⟩
      rintro y (rfl | hy)
      · exact ⟨by omega, by omega, h3⟩
      · have := h4 y hy
        exact ⟨by omega, this.2.1, this.2.2⟩
    · rintro ⟨h1, h2, h3⟩
      have hb := h1 b (Or.inl rfl)
      refine ⟨⟨⟨by omega, by omega⟩, hb.2.2⟩, fun y hy => ?_, h3⟩
      have := h1 y (Or.inr hy)
      exact ⟨h2 y hy, this.2.1, this.2.2⟩

def cntF : List (Int × Int) → Nat → Nat
  | [], _ => 0
  | b :: l, i => if b.1 = (i : Int) then b.2.toNat else cntF l i
theorem cntF_cons (b : Int × Int) (l : List (Int × Int)) (i : Nat) : cntF (b :: l) i = if b.1 = (i : Int) then b.2.toNat else cntF l i := rfl
theorem cntF_none : ∀ {l : List (Int × Int)} {i : Nat}, (∀ b ∈ l, b.1 ≠ (i : Int)) → cntF l i = 0
  | [], _, _ => rfl
  | b :: l, i, h => by
    rw [cntF_cons, if_neg (h b (List.mem_cons_self ..))]
    exact cntF_none fun y hy => h y (List.mem_cons_of_mem _ hy)
theorem cntF_snoc_ne {x : Int × Int} {i : Nat} (hx : x.1 ≠ (i : Int)) : ∀ l : List (Int × Int), cntF (l ++ [x]) i = cntF l i
  | [] => by rw [List.nil_append, cntF_cons, if_neg hx]
  | b :: l => by rw [List.cons_append, cntF_cons, cntF_cons, cntF_snoc_ne hx l]
theorem cntF_snoc_eq {x : Int × Int} {i : Nat} (hx : x.1 = (i : Int)) : ∀ {l : List (Int × Int)}, (∀ b ∈ l, b.1 ≠ (i : Int)) → cntF (l ++ [x]) i = x.2.toNat
  | [], _ => by rw [List.nil_append, cntF_cons, if_pos hx]
  | b :: l, h => by
    rw [List.cons_append, cntF_cons, if_neg (h b (List.mem_cons_self ..))]
    exact cntF_snoc_eq hx fun y hy => h y (List.mem_cons_of_mem _ hy)
theorem cntF_mem : ∀ {l : List (Int × Int)} {a : Int}, chkF a l = true → -1 ≤ a → ∀ b ∈ l, cntF l b.1.toNat = b.2.toNat
  | [], _, _, _, b, hb => by cases hb
  | c :: l, a, h, ha, b, hb => by
    have h' := chkF_iff.mp h
    rcases List.mem_cons.mp hb with rfl | hb
    · have := (h'.1 b (List.mem_cons_self ..)).1
      rw [cntF_cons, if_pos (by omega)]
    · have hc := (h'.1 c (List.mem_cons_self ..)).1
      have hlt := (List.pairwise_cons.mp h'.2).1 b hb
      rw [cntF_cons, if_neg (by omega)]
      rw [chkF_cons, Bool.and_eq_true] at h
      exact cntF_mem h.2 (by omega) b hb
/-- One list for one function. -/
theorem bars_ext : ∀ {l m : List (Int × Int)} {a : Int}, -1 ≤ a → chkF a l = true → chkF a m = true → (∀ b ∈ l, 0 ≤ b.2) → (∀ b ∈ m, 0 ≤ b.2) → (∀ i : Nat, i < 1920 → a < (i : Int) → cntF l i = cntF m i) → l = m
  | [], [], _, _, _, _, _, _, _ => rfl
  | [], c :: m, a, ha, _, hm, _, pm, he => by
    have hc := (chkF_iff.mp hm).1 c (List.mem_cons_self ..)
    have h1 := he c.1.toNat (by omega) (by omega)
    have p := pm c (List.mem_cons_self ..)
    rw [cntF_cons, if_pos (by omega)] at h1
    have : cntF [] c.1.toNat = 0 := rfl
    omega
  | b :: l, [], a, ha, hl, _, pl, _, he => by
    have hc := (chkF_iff.mp hl).1 b (List.mem_cons_self ..)
    have h1 := he b.1.toNat (by omega) (by omega)
    have p := pl b (List.mem_cons_self ..)
    rw [cntF_cons, if_pos (by omega)] at h1
    have : cntF [] b.1.toNat = 0 := rfl
    omega
  | b :: l, c :: m, a, ha, hl, hm, pl, pm, he => by
    have hb := (chkF_iff.mp hl).1 b (List.mem_cons_self ..)
    have hc := (chkF_iff.mp hm).1 c (List.mem_cons_self ..)
    have qb := pl b (List.mem_cons_self ..)
    have qc := pm c (List.mem_cons_self ..)
    have wl := (List.pairwise_cons.mp (chkF_iff.mp hl).2).1
    have wm := (List.pairwise_cons.mp (chkF_iff.mp hm).2).1
    have e1 : b.1 = c.1 := by
      rcases Int.lt_trichotomy b.1 c.1 with h | h | h
      · have h1 := he b.1.toNat (by omega) (by omega)
        rw [cntF_cons, if_pos (by omega), cntF_cons, if_neg (by omega), cntF_none (fun y hy => by have := wm y hy; omega)] at h1
        omega
      · exact h
      · have h1 := he c.1.toNat (by omega) (by omega)
        rw [cntF_cons, if_neg (by omega), cntF_cons, if_pos (by omega), cntF_none (fun y hy => by have := wl y hy; omega)] at h1
        omega
    have e2 : b.2 = c.2 := by
      have h1 := he b.1.toNat (by omega) (by omega)
      rw [cntF_cons, if_pos (by omega), cntF_cons, if_pos (by omega)] at h1
      omega
    have e : b = c := Prod.ext e1 e2
    subst e
    rw [chkF_cons, Bool.and_eq_true] at hl hm
    have IH := bars_ext (by omega) hl.2 hm.2 (fun y hy => pl y (List.mem_cons_of_mem _ hy)) (fun y hy => pm y (List.mem_cons_of_mem _ hy)) (fun i h1 h2 => by
      have := he i h1 (by omega)
      rwa [cntF_cons, if_neg (by omega), cntF_cons, if_neg (by omega)] at this)
    rw [IH]

def barsN (f : Nat → Nat) : Nat → List (Int × Int)
  | 0 => []
  | n + 1 => barsN f n ++ if f n = 0 then [] else [((n : Int), (f n : Int))]
def barsF (f : Nat → Nat) : List (Int × Int) := barsN f 1920
theorem barsN_succ (f : Nat → Nat) (n : Nat) : barsN f (n + 1) = barsN f n ++ if f n = 0 then [] else [((n : Int), (f n : Int))] := rfl
theorem barsF_eq (f : Nat → Nat) : barsF f = barsN f 1920 := rfl
theorem barsN_mem {f : Nat → Nat} : ∀ {n : Nat} {b : Int × Int}, b ∈ barsN f n → ∃ i : Nat, i < n ∧ b = ((i : Int), (f i : Int)) ∧ f i ≠ 0
  | 0, _, h => by cases h
  | n + 1, b, h => by
    rw [barsN_succ, List.mem_append] at h
    rcases h with h | h
    · obtain ⟨i, h1, h2⟩ := barsN_mem h
      exact ⟨i, by omega, h2⟩
    · split at h
      · cases h
      · rename_i hn
        rw [List.mem_singleton] at h
        exact ⟨n, by omega, h, hn⟩
theorem barsN_chk (f : Nat → Nat) {n : Nat} (hn : n ≤ 1920) : chkF (-1) (barsN f n) = true := by
  rw [chkF_iff]
  constructor
  · intro b hb
    obtain ⟨i, h1, rfl, h2⟩ := barsN_mem hb
    simp only
    omega
  · clear hn
    induction n with
    | zero => exact List.Pairwise.nil
    | succ n ih =>
      rw [barsN_succ, List.pairwise_append]
      refine ⟨ih, ?_, ?_⟩
      · split
        · exact List.Pairwise.nil
        · exact List.pairwise_singleton _ _
      · intro x hx y hy
        obtain ⟨i, h1, rfl, _⟩ := barsN_mem hx
        split at hy
        · cases hy
        · rw [List.mem_singleton] at hy
          subst hy
          simp only
          omega
theorem barsF_chk (f : Nat → Nat) : chkF (-1) (barsF f) = true := barsN_chk f (Nat.le_refl _)
theorem barsN_cnt (f : Nat → Nat) : ∀ (n i : Nat), cntF (barsN f n) i = if i < n then f i else 0
  | 0, i => by rw [if_neg (by omega)]; rfl
  | n + 1, i => by
    have ih := barsN_cnt f n i
    rw [barsN_succ]
    by_cases h0 : f n = 0
    · rw [if_pos h0, List.append_nil, ih]
      by_cases h : i < n
      · rw [if_pos h, if_pos (by omega)]
      · rw [if_neg h]
        split
        · obtain rfl : i = n := by omega
          exact h0.symm
        · rfl
    · rw [if_neg h0]
      by_cases h : i = n
      · subst h
        rw [cntF_snoc_eq rfl (fun b hb => by obtain ⟨k, h1, rfl, _⟩ := barsN_mem hb; simp only; omega), if_pos (by omega)]
        simp
      · rw [cntF_snoc_ne (by simp only; omega), ih]
        by_cases h1 : i < n
        · rw [if_pos h1, if_pos (by omega)]
        · rw [if_neg h1, if_neg (by omega)]
theorem barsF_cnt (f : Nat → Nat) {i : Nat} (h : i < 1920) : cntF (barsF f) i = f i := by rw [barsF_eq, barsN_cnt, if_pos h]
theorem barsF_pos (f : Nat → Nat) : ∀ b ∈ barsF f, 0 ≤ b.2 := by
  intro b hb
  obtain ⟨i, _, rfl, _⟩ := barsN_mem hb
  simp
theorem bars_of {l : List (Int × Int)} (h : chkF (-1) l = true) (hp : ∀ b ∈ l, 0 ≤ b.2) : l = barsF (cntF l) :=
  bars_ext (by omega) h (barsF_chk _) hp (barsF_pos _) fun i h1 _ => (barsF_cnt _ h1).symm
theorem barsN_congr {f g : Nat → Nat} : ∀ {n : Nat}, (∀ i, i < n → f i = g i) → barsN f n = barsN g n
  | 0, _ => rfl
  | n + 1, h => by rw [barsN_succ, barsN_succ, barsN_congr (n := n) fun i hi => h i (by omega), h n (by omega)]
theorem barsF_congr {f g : Nat → Nat} (h : ∀ i, i < 1920 → f i = g i) : barsF f = barsF g := barsN_congr h
theorem barsF_inj {f g : Nat → Nat} (h : barsF f = barsF g) : ∀ i, i < 1920 → f i = g i := fun i hi => by rw [← barsF_cnt f hi, h, barsF_cnt g hi]
theorem barsN_le (f : Nat → Nat) : ∀ n, (barsN f n).length ≤ n
  | 0 => Nat.le_refl _
  | n + 1 => by
    have := barsN_le f n
    rw [barsN_succ, List.length_append]
    split <;> simp <;> omega
theorem barsN_pre (f : Nat → Nat) : ∀ {m n : Nat}, n ≤ m → ∃ r, barsN f m = barsN f n ++ r
  | 0, n, h => by obtain rfl : n = 0 := by omega
                  exact ⟨[], rfl⟩
  | m + 1, n, h => by
    rcases Nat.lt_or_ge m n with h1 | h1
    · obtain rfl : n = m + 1 := by omega
      exact ⟨[], by rw [List.append_nil]⟩
    · obtain ⟨r, hr⟩ := barsN_pre f h1
      rw [barsN_succ, hr, List.append_assoc]
      exact ⟨_, rfl⟩
def numF (f : Nat → Nat) : Nat := (barsF f).length
theorem numF_le (f : Nat → Nat) : numF f ≤ 1920 := barsN_le f 1920
theorem barsN_len_le (f : Nat → Nat) {n : Nat} (h : n ≤ 1920) : (barsN f n).length ≤ numF f := by
  obtain ⟨r, hr⟩ := barsN_pre f h
  unfold numF
  rw [barsF_eq, hr, List.length_append]
  omega
theorem barsN_whole (f : Nat → Nat) {n : Nat} (h : n ≤ 1920) (hl : numF f ≤ (barsN f n).length) : barsN f n = barsF f := by
  obtain ⟨r, hr⟩ := barsN_pre f h
  unfold numF at hl
  rw [barsF_eq, hr, List.length_append] at hl
  have : r = [] := List.eq_nil_of_length_eq_zero (by omega)
  rw [barsF_eq, hr, this, List.append_nil]

def setF (f : Nat → Nat) (i x : Nat) : Nat → Nat := fun j => if j = i then x else f j
theorem setF_same (f : Nat → Nat) (i x : Nat) : setF f i x i = x := by unfold setF; rw [if_pos rfl]
theorem setF_other {f : Nat → Nat} {i x j : Nat} (h : j ≠ i) : setF f i x j = f j := by unfold setF; rw [if_neg h]
theorem num_set (f : Nat → Nat) (i x : Nat) : ∀ n, i < n → (barsN (setF f i x) n).length + (if f i = 0 then 0 else 1) = (barsN f n).length + (if x = 0 then 0 else 1)
  | 0, h => by omega
  | n + 1, h => by
    rw [barsN_succ, barsN_succ, List.length_append, List.length_append]
    by_cases hn : i = n
    · subst hn
      rw [barsN_congr (f := setF f i x) (g := f) (fun j hj => setF_other (by omega)), setF_same]
      by_cases h1 : x = 0 <;> by_cases h2 : f i = 0 <;> simp [h1, h2]
    · have ih := num_set f i x n (by omega)
      rw [setF_other (f := f) (i := i) (x := x) (j := n) (by omega)]
      omega
theorem numF_set {f : Nat → Nat} {i x : Nat} (h : i < 1920) : numF (setF f i x) + (if f i = 0 then 0 else 1) = numF f + (if x = 0 then 0 else 1) := num_set f i x 1920 h
theorem numF_zero : numF (fun _ => 0) = 0 := by
  have : ∀ n, (barsN (fun _ => 0) n) = [] := by
    intro n
    induction n with
    | zero => rfl
    | succ n ih => rw [barsN_succ, ih]; rfl
  unfold numF
  rw [barsF_eq, this]
  rfl

def putF (f : Nat → Nat) (i m : Nat) : Nat → Nat := setF f i (min (f i + m) topC)
theorem putF_at (f : Nat → Nat) (i m j : Nat) : putF f i m j = if j = i then min (f i + m) topC else f j := rfl
theorem putF_le {f : Nat → Nat} (h : ∀ j, f j ≤ topC) (i m : Nat) : ∀ j, putF f i m j ≤ topC := by
  intro j
  rw [putF_at]
  split
  · omega
  · exact h j
def putsF : (Nat → Nat) → List (Int × Int) → Nat → Nat
  | f, [] => f
  | f, b :: l => putsF (putF f b.1.toNat b.2.toNat) l
theorem putsF_cons (f : Nat → Nat) (b : Int × Int) (l : List (Int × Int)) : putsF f (b :: l) = putsF (putF f b.1.toNat b.2.toNat) l := rfl
theorem putsF_at : ∀ {l : List (Int × Int)} {a : Int} {f : Nat → Nat}, -1 ≤ a → chkF a l = true → (∀ j, f j ≤ topC) → ∀ j, putsF f l j = min (f j + cntF l j) topC
  | [], a, f, _, _, hf, j => by
    have := hf j
    show f j = min (f j + 0) topC
    omega
  | b :: l, a, f, ha, h, hf, j => by
    have h' := chkF_iff.mp h
    have hb := h'.1 b (List.mem_cons_self ..)
    have wl := (List.pairwise_cons.mp h'.2).1
    rw [chkF_cons, Bool.and_eq_true] at h
    rw [putsF_cons, putsF_at (by omega) h.2 (putF_le hf _ _), putF_at, cntF_cons]
    by_cases hj : j = b.1.toNat
    · subst hj
      rw [if_pos rfl, if_pos (by omega), cntF_none (fun y hy => by have := wl y hy; omega)]
      omega
    · rw [if_neg hj, if_neg (by omega)]
theorem putsF_zero {l : List (Int × Int)} (h : chkF (-1) l = true) (hp : ∀ b ∈ l, b.2 ≤ 18446744073709551615) (j : Nat) : putsF (fun _ => 0) l j = cntF l j := by
  rw [putsF_at (by omega) h (fun _ => Nat.zero_le _)]
  have : cntF l j ≤ topC := by
    by_cases hm : ∃ b ∈ l, b.1 = (j : Int)
    · obtain ⟨b, hb, e⟩ := hm
      have := cntF_mem h (by omega) b hb
      rw [show b.1.toNat = j by omega] at this
      have := hp b hb
      rw [topC_eq]
      omega
    · rw [cntF_none fun b hb e => hm ⟨b, hb, e⟩]
      omega
  omega
theorem putsF_le : ∀ {l : List (Int × Int)} {f : Nat → Nat}, (∀ j, f j ≤ topC) → ∀ j, putsF f l j ≤ topC
  | [], _, h => h
  | b :: l, f, h => by
    rw [putsF_cons]
    exact putsF_le (putF_le h _ _)
/-- Taking all of a list: what is left, if there was as much. -/
def takeL : (Nat → Nat) → List (Int × Int) → Option (Nat → Nat)
  | f, [] => some f
  | f, b :: l => if f b.1.toNat < b.2.toNat then none else takeL (setF f b.1.toNat (f b.1.toNat - b.2.toNat)) l
theorem takeL_cons (f : Nat → Nat) (b : Int × Int) (l : List (Int × Int)) : takeL f (b :: l) = if f b.1.toNat < b.2.toNat then none else takeL (setF f b.1.toNat (f b.1.toNat - b.2.toNat)) l := rfl
theorem takeL_some : ∀ {l : List (Int × Int)} {a : Int} {f : Nat → Nat}, -1 ≤ a → chkF a l = true → (∀ j, cntF l j ≤ f j) → ∃ g, takeL f l = some g ∧ ∀ j, g j = f j - cntF l j
  | [], _, f, _, _, _ => ⟨f, rfl, fun j => rfl⟩
  | b :: l, a, f, ha, h, hf => by
    have h' := chkF_iff.mp h
    have hb := h'.1 b (List.mem_cons_self ..)
    have wl := (List.pairwise_cons.mp h'.2).1
    have h0 := hf b.1.toNat
    rw [cntF_cons, if_pos (by omega)] at h0
    rw [chkF_cons, Bool.and_eq_true] at h
    rw [takeL_cons, if_neg (by omega)]
    obtain ⟨g, e, hg⟩ := takeL_some (l := l) (a := b.1) (f := setF f b.1.toNat (f b.1.toNat - b.2.toNat)) (by omega) h.2 (fun j => by
      by_cases hj : j = b.1.toNat
      · subst hj
        rw [cntF_none (fun y hy => by have := wl y hy; omega)]
        exact Nat.zero_le _
      · rw [setF_other hj]
        have := hf j
        rwa [cntF_cons, if_neg (by omega)] at this)
    refine ⟨g, e, fun j => ?_⟩
    rw [hg j, cntF_cons]
    by_cases hj : j = b.1.toNat
    · subst hj
      rw [setF_same, if_pos (by omega), cntF_none (fun y hy => by have := wl y hy; omega)]
      omega
    · rw [setF_other hj, if_neg (by omega)]
theorem takeL_none : ∀ {l : List (Int × Int)} {a : Int} {f : Nat → Nat}, -1 ≤ a → chkF a l = true → (∃ j, f j < cntF l j) → takeL f l = none
  | [], _, f, _, _, ⟨j, hj⟩ => by
    have : cntF [] j = 0 := rfl
    omega
  | b :: l, a, f, ha, h, ⟨j, hj⟩ => by
    have h' := chkF_iff.mp h
    have hb := h'.1 b (List.mem_cons_self ..)
    have wl := (List.pairwise_cons.mp h'.2).1
    rw [chkF_cons, Bool.and_eq_true] at h
    rw [takeL_cons]
    split
    · rfl
    · rename_i hn
      refine takeL_none (by omega) h.2 ⟨j, ?_⟩
      rw [cntF_cons] at hj
      by_cases hjb : j = b.1.toNat
      · subst hjb
        rw [if_pos (by omega)] at hj
        omega
      · rw [if_neg (by omega)] at hj
        rwa [setF_other hjb]
/-- All of them together. -/
def sumB (l : List (Int × Int)) : Nat := (l.map fun b => b.2.toNat).sum
theorem sumB_snoc (l : List (Int × Int)) (b : Int × Int) : sumB (l ++ [b]) = sumB l + b.2.toNat := by
  unfold sumB
  rw [List.map_append, List.sum_append]
  simp
theorem sumB_take (l : List (Int × Int)) (k : Nat) (h : k < l.length) : sumB (l.take (k + 1)) = sumB (l.take k) + l[k].2.toNat := by
  rw [List.take_succ_eq_append_getElem h, sumB_snoc]
theorem sumB_le {l : List (Int × Int)} (hp : ∀ b ∈ l, b.2 ≤ 18446744073709551615) : sumB l ≤ l.length * 18446744073709551615 := by
  induction l with
  | nil => exact Nat.le_refl _
  | cons b l ih =>
    have := ih fun y hy => hp y (List.mem_cons_of_mem _ hy)
    have := hp b (List.mem_cons_self ..)
    unfold sumB at *
    simp only [List.map_cons, List.sum_cons, List.length_cons]
    omega
theorem chk_len : ∀ {l : List (Int × Int)} {a : Int}, -1 ≤ a → chkF a l = true → (l.length : Int) ≤ 1919 - min a 1919
  | [], a, _, _ => by simp; omega
  | b :: l, a, ha, h => by
    have hb := (chkF_iff.mp h).1 b (List.mem_cons_self ..)
    rw [chkF_cons, Bool.and_eq_true] at h
    have := chk_len (by omega) h.2
    simp only [List.length_cons]
    omega
end Go.Proofs.Ytmegmjhkjaejgaa.sk
