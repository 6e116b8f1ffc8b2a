/-
  Plain mathematics: the sum of bytes. A state's step (shr), bits that are put to it (ss), the division that the reference makes (rr, restR), a burst of turned bits.
-/
import Derived.WalkKit
namespace Go.Proofs.YtgoafinbaiepmaaGreatDoor.fr
open Go

/-- One step of a state: it moves by one bit; if a 1 fell out, the divisor is put to it. -/
def shr (s : BitVec 32) : BitVec 32 := (s >>> 1) ^^^ (if s.getLsbD 0 then 0x82f63b78#32 else 0#32)

theorem shr_xor (a b : BitVec 32) : shr (a ^^^ b) = shr a ^^^ shr b := by
  unfold shr
  rw [BitVec.ushiftRight_xor_distrib, BitVec.getLsbD_xor]
  cases a.getLsbD 0 <;> cases b.getLsbD 0 <;> simp
  all_goals first | ac_rfl | skip
  rw [show (a >>> 1 ^^^ 2197175160#32 ^^^ (b >>> 1 ^^^ 2197175160#32)) = (a >>> 1 ^^^ b >>> 1) ^^^ (2197175160#32 ^^^ 2197175160#32) by ac_rfl]
  simp

def shrN : Nat → BitVec 32 → BitVec 32
  | 0, s => s
  | n + 1, s => shrN n (shr s)

theorem shrN_xor (n : Nat) : ∀ a b : BitVec 32, shrN n (a ^^^ b) = shrN n a ^^^ shrN n b := by
  induction n with
  | zero => intro a b; rfl
  | succ n ih => intro a b; show shrN n (shr (a ^^^ b)) = _; rw [shr_xor, ih]; rfl

theorem shrN_succ' (n : Nat) : ∀ a, shrN (n + 1) a = shr (shrN n a) := by
  induction n with
  | zero => intro a; rfl
  | succ n ih => intro a; show shrN (n + 1) (shr a) = _; rw [ih]; rfl

theorem shr_high (s : BitVec 32) (h : s.getLsbD 0 = false) : shr s = s >>> 1 := by
  unfold shr; rw [h]; simp

theorem shrN_high (n : Nat) : ∀ s : BitVec 32, (∀ i, i < n → s.getLsbD i = false) → shrN n s = s >>> n := by
  induction n with
  | zero => intro s _; simp [shrN]
  | succ n ih =>
    intro s h
    show shrN n (shr s) = _
    rw [shr_high s (h 0 (by omega)), ih]
    · rw [← BitVec.shiftRight_add, Nat.add_comm]
    · intro i hi
      rw [BitVec.getLsbD_ushiftRight]; exact h _ (by omega)

/-- The table's entry of a byte. -/
def tabB (i : BitVec 32) : BitVec 32 := shrN 8 i

/-- A byte is put to a state. -/
def crcB (s : BitVec 32) (c : BitVec 32) : BitVec 32 := shrN 8 (s ^^^ c)

theorem low_high (x : BitVec 32) : x = (x &&& 255#32) ^^^ (x >>> 8 <<< 8) := by
  apply BitVec.eq_of_getLsbD_eq
  intro i hi
  simp
  rcases (by omega : i < 8 ∨ 8 ≤ i) with h | h
  · have : (255#32).getLsbD i = true := by
      revert h; revert i; decide
    simp [this, h]
  · have : (255#32).getLsbD i = false := by
      revert h; revert i; decide
    rw [BitVec.getLsbD_eq_getElem hi] at this
    simp [this, show ¬ i < 8 by omega, show 8 + (i - 8) = i by omega, hi]

theorem crcB_tab (s c : BitVec 32) (hc : c >>> 8 = 0#32) : crcB s c = (s >>> 8) ^^^ tabB ((s ^^^ c) &&& 255#32) := by
  unfold crcB tabB
  conv => lhs; rw [low_high (s ^^^ c)]
  rw [shrN_xor, BitVec.xor_comm]
  congr 1
  rw [shrN_high]
  · rw [BitVec.ushiftRight_xor_distrib, hc]
    apply BitVec.eq_of_getLsbD_eq
    intro i hi
    simp
    intro h1
    by_cases h2 : 8 + i < 32
    · exact h2
    · rw [BitVec.getLsbD_of_ge s _ (by omega)] at h1; cases h1
  · intro i hi
    simp [hi]


/-- The lowest bit, the highest bit. -/
def low (b : Bool) : BitVec 32 := if b then 1#32 else 0#32
def top (b : Bool) : BitVec 32 := if b then 0x80000000#32 else 0#32
theorem low_xor (a b : Bool) : low (a ^^ b) = low a ^^^ low b := by cases a <;> cases b <;> rfl
theorem top_xor (a b : Bool) : top (a ^^ b) = top a ^^^ top b := by cases a <;> cases b <;> rfl

/-- Bits that come in at the top, from 0 on. -/
def rr (X : Nat → Bool) : Nat → BitVec 32
  | 0 => 0#32
  | n + 1 => shr (rr X n) ^^^ top (X n)
/-- Bits that are put to the lowest. -/
def ss (X : Nat → Bool) (s : BitVec 32) : Nat → BitVec 32
  | 0 => s
  | n + 1 => shr (ss X s n ^^^ low (X n))

theorem shr_zero : shr 0#32 = 0#32 := by decide
theorem shrN_zero (n : Nat) : shrN n 0#32 = 0#32 := by
  induction n with
  | zero => rfl
  | succ n ih => show shrN n (shr 0#32) = _; rw [shr_zero, ih]
theorem shrN_add (a b : Nat) : ∀ s, shrN (a + b) s = shrN b (shrN a s) := by
  induction a with
  | zero => intro s; rw [Nat.zero_add]; rfl
  | succ a ih => intro s; rw [show a + 1 + b = (a + b) + 1 by omega]; show shrN (a + b) (shr s) = _; rw [ih]; rfl
theorem shrN_shr (n : Nat) (s : BitVec 32) : shrN n (shr s) = shr (shrN n s) := by
  rw [← shrN_succ']; rfl

theorem rr_xor (X Y : Nat → Bool) (n : Nat) : rr (fun i => X i ^^ Y i) n = rr X n ^^^ rr Y n := by
  induction n with
  | zero => simp [rr]
  | succ n ih => simp only [rr, ih, shr_xor, top_xor]; ac_rfl
theorem xor_swap4 (a b c d : BitVec 32) : (a ^^^ b) ^^^ (c ^^^ d) = (a ^^^ c) ^^^ (b ^^^ d) := by ac_rfl
theorem ss_xor (X Y : Nat → Bool) (s t : BitVec 32) (n : Nat) : ss (fun i => X i ^^ Y i) (s ^^^ t) n = ss X s n ^^^ ss Y t n := by
  induction n with
  | zero => rfl
  | succ n ih => simp only [ss, ih, ← shr_xor, low_xor]; rw [xor_swap4]
theorem ss_none (X : Nat → Bool) (s : BitVec 32) (k n : Nat) (h : ∀ i, k ≤ i → i < k + n → X i = false) : ss X s (k + n) = shrN n (ss X s k) := by
  induction n with
  | zero => rfl
  | succ n ih => rw [shrN_succ', ← ih (fun i h1 h2 => h i h1 (by omega))]; show shr (ss X s (k + n) ^^^ low (X (k + n))) = _; rw [h (k + n) (by omega) (by omega)]; simp [low]
theorem rr_none (X : Nat → Bool) (k n : Nat) (h : ∀ i, k ≤ i → i < k + n → X i = false) : rr X (k + n) = shrN n (rr X k) := by
  induction n with
  | zero => rfl
  | succ n ih => rw [shrN_succ', ← ih (fun i h1 h2 => h i h1 (by omega))]; show shr (rr X (k + n)) ^^^ top (X (k + n)) = _; rw [h (k + n) (by omega) (by omega)]; simp [top]
theorem shrN32_top (b : Bool) : shrN 32 (top b) = shr (low b) := by cases b <;> decide
theorem rr_ss (X : Nat → Bool) (n : Nat) : shrN 32 (rr X n) = ss X 0#32 n := by
  induction n with
  | zero => exact shrN_zero 32
  | succ n ih => show shrN 32 (shr (rr X n) ^^^ top (X n)) = shr (ss X 0#32 n ^^^ low (X n)); rw [shrN_xor, shrN_shr, ih, shrN32_top, ← shr_xor]
theorem ss_state (X : Nat → Bool) (s : BitVec 32) (n : Nat) : ss X s n = ss X 0#32 n ^^^ shrN n s := by
  have h := ss_xor X (fun _ => false) 0#32 s n
  simp only [Bool.xor_false, BitVec.zero_xor] at h
  rw [h]
  have h2 := ss_none (fun _ => false) s 0 n (fun _ _ _ => rfl)
  rw [Nat.zero_add] at h2
  rw [h2]; rfl

/-- A state's bits come in at the top: after 32 they are there. -/
theorem rr_in (st : BitVec 32) (Y : Nat → Bool) (hY : ∀ i, i < 32 → Y i = st.getLsbD i) : ∀ k, k ≤ 32 → rr Y k = st <<< (32 - k) := by
  intro k
  induction k with
  | zero => intro _; show 0#32 = st <<< 32; simp
  | succ k ih =>
    intro hk
    show shr (rr Y k) ^^^ top (Y k) = _
    rw [ih (by omega), shr_high _ (by rw [BitVec.getLsbD_shiftLeft]; simp; omega), hY k (by omega)]
    apply BitVec.eq_of_getLsbD_eq
    intro i hi
    rw [BitVec.getLsbD_xor, BitVec.getLsbD_ushiftRight, BitVec.getLsbD_shiftLeft, BitVec.getLsbD_shiftLeft]
    have ht : (top (st.getLsbD k)).getLsbD i = (st.getLsbD k && decide (i = 31)) := by
      unfold top
      cases st.getLsbD k
      · simp
      · simp only [↓reduceIte, Bool.true_and]; revert i; decide
    rw [ht]
    by_cases h31 : i = 31
    · subst h31
      rw [show 31 - (32 - (k + 1)) = k by omega]
      simp [show ¬ 31 < 31 - k by omega]
    · simp [h31, show 1 + i < 32 by omega, hi]
      by_cases h1 : i < 31 - k
      · simp [show 1 + i < 32 - k by omega, h1]
      · simp [show ¬ 1 + i < 32 - k by omega, h1, show 1 + i - (32 - k) = i - (32 - (k + 1)) by omega]

/-- What the division leaves is the state behind the bits. -/
theorem rr_all (X : Nat → Bool) (st : BitVec 32) (n : Nat) (hX : ∀ i, n ≤ i → X i = false) :
    rr (fun i => X i ^^ (decide (i < 32) && st.getLsbD i)) (n + 32) = ss X st n := by
  rw [rr_xor X (fun i => decide (i < 32) && st.getLsbD i), rr_none X n 32 (fun i h _ => hX i h), rr_ss, ss_state X st n]
  congr 1
  rw [Nat.add_comm n 32, rr_none _ 32 n (fun i h _ => by simp; omega), rr_in st _ (fun i hi => by simp [hi]) 32 (Nat.le_refl _)]
  simp

/-- Bits of a word, one after the other, against the whole word at once. -/
theorem ss_word (X : Nat → Bool) (s : BitVec 32) (k : Nat) (c : BitVec 32) (hc : ∀ i, i < 32 → X (k + i) = c.getLsbD i) : ∀ j, j ≤ 32 → shrN j (ss X s k ^^^ c) = ss X s (k + j) ^^^ (c >>> j) := by
  intro j
  induction j with
  | zero => intro _; simp [shrN]
  | succ j ih =>
    intro hj
    rw [shrN_succ', ih (by omega), shr_xor]
    show _ = shr (ss X s (k + j) ^^^ low (X (k + j))) ^^^ _
    rw [hc j (by omega), shr_xor, BitVec.xor_assoc]
    congr 1
    have e : shr (c >>> j) = shr (low (c.getLsbD j)) ^^^ shr ((c >>> j) ^^^ low (c.getLsbD j)) := by
      rw [← shr_xor]; congr 1
      rw [BitVec.xor_comm (c >>> j), ← BitVec.xor_assoc, BitVec.xor_self, BitVec.zero_xor]
    rw [e]
    congr 1
    rw [shr_high]
    · rw [BitVec.ushiftRight_xor_distrib, ← BitVec.shiftRight_add]
      cases c.getLsbD j <;> simp [low]
    · rw [BitVec.getLsbD_xor, BitVec.getLsbD_ushiftRight]
      cases h : c.getLsbD j <;> simp [low]

/-- The same for j bits of a word that has no further ones. -/
theorem ss_bits (X : Nat → Bool) (s : BitVec 32) (k j : Nat) (hj : j ≤ 32) (c : BitVec 32) (hc : ∀ i, i < j → X (k + i) = c.getLsbD i) (hz : c >>> j = 0#32) : ss X s (k + j) = shrN j (ss X s k ^^^ c) := by
  have hz' : ∀ i, j ≤ i → c.getLsbD i = false := by
    intro i hi
    have : (c >>> j).getLsbD (i - j) = false := by rw [hz]; simp
    rw [BitVec.getLsbD_ushiftRight, show j + (i - j) = i by omega] at this
    exact this
  have e : ∀ m, m ≤ j → ss X s (k + m) = ss (fun i => if i < k then X i else c.getLsbD (i - k)) s (k + m) := by
    intro m
    induction m with
    | zero =>
      intro _
      have : ∀ q, q ≤ k → ss X s q = ss (fun i => if i < k then X i else c.getLsbD (i - k)) s q := by
        intro q
        induction q with
        | zero => intro _; rfl
        | succ q ih => intro hq; simp only [ss]; rw [ih (by omega), if_pos (by omega)]
      exact this k (Nat.le_refl _)
    | succ m ih =>
      intro hm
      show shr (ss X s (k + m) ^^^ low (X (k + m))) = shr (ss _ s (k + m) ^^^ low (if k + m < k then X (k + m) else c.getLsbD (k + m - k)))
      rw [ih (by omega), hc m (by omega), if_neg (by omega), show k + m - k = m by omega]
  rw [e j (Nat.le_refl _)]
  have h := ss_word (fun i => if i < k then X i else c.getLsbD (i - k)) s k c (fun i hi => by show (if k + i < k then _ else _) = _; rw [if_neg (by omega), show k + i - k = i by omega]) j hj
  rw [hz, BitVec.xor_zero] at h
  rw [← h]
  have := e 0 (by omega)
  rw [Nat.add_zero] at this
  rw [this]

theorem shr_inj0 (s : BitVec 32) (h : shr s = 0#32) : s = 0#32 := by
  unfold shr at h
  cases hl : s.getLsbD 0
  · rw [hl] at h
    simp at h
    apply BitVec.eq_of_getLsbD_eq
    intro i hi
    rcases Nat.eq_zero_or_pos i with rfl | hp
    · rw [hl]; simp
    · have : (s >>> 1).getLsbD (i - 1) = false := by rw [h]; simp
      rw [BitVec.getLsbD_ushiftRight, show 1 + (i - 1) = i by omega] at this
      rw [this]; simp
  · rw [hl] at h
    have h31 : (s >>> 1 ^^^ 0x82f63b78#32).getLsbD 31 = false := by rw [if_pos rfl] at h; rw [h]; simp
    rw [BitVec.getLsbD_xor, BitVec.getLsbD_ushiftRight, BitVec.getLsbD_of_ge s _ (by omega)] at h31
    exact absurd h31 (by decide)
theorem shrN_inj0 (n : Nat) : ∀ s, shrN n s = 0#32 → s = 0#32 := by
  induction n with
  | zero => intro s h; exact h
  | succ n ih => intro s h; exact shr_inj0 s (ih _ h)

/-- A word out of its bits. -/
def wordN (X : Nat → Bool) : Nat → BitVec 32
  | 0 => 0#32
  | n + 1 => wordN X n ^^^ (low (X n) <<< n)
theorem wordN_bit (X : Nat → Bool) (n : Nat) : ∀ i, i < 32 → (wordN X n).getLsbD i = (decide (i < n) && X i) := by
  induction n with
  | zero => intro i _; simp [wordN]
  | succ n ih =>
    intro i hi
    simp only [wordN]
    rw [BitVec.getLsbD_xor, ih i hi, BitVec.getLsbD_shiftLeft]
    have hl : ∀ m, (low (X n)).getLsbD m = (X n && decide (m = 0)) := by
      intro m; unfold low; cases X n <;> simp
    rw [hl]
    rcases (by omega : i < n ∨ i = n ∨ n < i) with h | h | h
    · simp [h, show i < n + 1 by omega]
    · subst h; simp [hi]
    · simp [show ¬ i < n by omega, show ¬ i < n + 1 by omega, show ¬ i - n = 0 by omega]

/-- Bits that are turned within 32 that stand together leave another state. -/
theorem burst (E : Nat → Bool) (n f : Nat) (hf : f ≤ n) (h0 : ∀ i, i < n → (i < f ∨ f + 32 ≤ i) → E i = false) (q : Nat) (hq : q < n) (hE : E q = true) : ss E 0#32 n ≠ 0#32 := by
  intro hz
  have hfq : f ≤ q := by
    by_cases h : f ≤ q
    · exact h
    · rw [h0 q hq (by omega)] at hE; cases hE
  have hqf : q < f + 32 := by
    by_cases h : q < f + 32
    · exact h
    · rw [h0 q hq (by omega)] at hE; cases hE
  obtain ⟨j, hj, hj1, hj2⟩ : ∃ j, j = min 32 (n - f) ∧ f + j ≤ n ∧ (f + j = n ∨ j = 32) := ⟨_, rfl, by omega, by omega⟩
  let c : BitVec 32 := wordN (fun i => E (f + i)) j
  have hcb : ∀ i, i < 32 → c.getLsbD i = (decide (i < j) && E (f + i)) := by
    intro i hi
    exact wordN_bit _ j i hi
  have e0 : ss E 0#32 f = 0#32 := by
    have := ss_none E 0#32 0 f (fun i _ h => h0 i (by omega) (Or.inl (by omega)))
    rw [Nat.zero_add] at this
    rw [this]; exact shrN_zero f
  have e1 : ss E 0#32 (f + j) = shrN j (0#32 ^^^ c) := by
    have h := ss_bits E 0#32 f j (by omega) c
    rw [e0] at h
    apply h
    · intro i hi; rw [hcb i (by omega)]; simp [hi]
    · apply BitVec.eq_of_getLsbD_eq
      intro i hi
      rw [BitVec.getLsbD_ushiftRight]
      by_cases h : j + i < 32
      · rw [hcb _ h]; simp [show ¬ j + i < j by omega]
      · rw [BitVec.getLsbD_of_ge _ _ (by omega)]; simp
  have e2 : ss E 0#32 n = shrN (n - (f + j)) (ss E 0#32 (f + j)) := by
    have := ss_none E 0#32 (f + j) (n - (f + j)) (fun i h1 h2 => h0 i (by omega) (by omega))
    rw [show f + j + (n - (f + j)) = n by omega] at this
    exact this
  rw [e2, e1] at hz
  have hc := shrN_inj0 _ _ (shrN_inj0 _ _ hz)
  rw [BitVec.zero_xor] at hc
  have : c.getLsbD (q - f) = true := by
    rw [hcb _ (by omega)]
    simp
    refine ⟨by omega, ?_⟩
    rw [show f + (q - f) = q by omega]; exact hE
  rw [hc] at this
  simp at this

theorem ss_congr (X Y : Nat → Bool) (s : BitVec 32) (n : Nat) (h : ∀ i, i < n → X i = Y i) : ss X s n = ss Y s n := by
  induction n with
  | zero => rfl
  | succ n ih => simp only [ss]; rw [ih (fun i hi => h i (by omega)), h n (by omega)]
theorem rr_congr (X Y : Nat → Bool) (n : Nat) (h : ∀ i, i < n → X i = Y i) : rr X n = rr Y n := by
  induction n with
  | zero => rfl
  | succ n ih => simp only [rr]; rw [ih (fun i hi => h i (by omega)), h n (by omega)]

/-- Bytes. -/
def ByteL (L : List Int) : Prop := ∀ x ∈ L, 0 ≤ x ∧ x < 256
def bvI (x : Int) : BitVec 32 := BitVec.ofNat 32 x.toNat
def bitI (L : List Int) (i : Nat) : Bool := (L.getD (i / 8) 0).toNat.testBit (i % 8)
/-- The state behind bytes. -/
def crcL (s : BitVec 32) (L : List Int) : BitVec 32 := L.foldl (fun s c => crcB s (bvI c)) s
theorem crcL_append (s : BitVec 32) (L K : List Int) : crcL s (L ++ K) = crcL (crcL s L) K := by unfold crcL; rw [List.foldl_append]
theorem bvI_bit (x : Int) (i : Nat) (hi : i < 32) : (bvI x).getLsbD i = x.toNat.testBit i := by
  unfold bvI; rw [BitVec.getLsbD_ofNat]; simp [hi]
theorem bvI_high (x : Int) (h : x < 256) : bvI x >>> 8 = 0#32 := by
  apply BitVec.eq_of_getLsbD_eq
  intro i hi
  rw [BitVec.getLsbD_ushiftRight]
  by_cases hs : 8 + i < 32
  · rw [bvI_bit _ _ hs, Nat.testBit_lt_two_pow]
    · simp
    · have : (2 : Nat) ^ 8 ≤ 2 ^ (8 + i) := Nat.pow_le_pow_right (by omega) (by omega)
      omega
  · rw [BitVec.getLsbD_of_ge _ _ (by omega)]; simp

theorem crcL_bits (s : BitVec 32) (L : List Int) (hL : ByteL L) : crcL s L = ss (bitI L) s (8 * L.length) := by
  have key : ∀ (n : Nat) (L : List Int), L.length = n → ByteL L → crcL s L = ss (bitI L) s (8 * L.length) := by
    intro n
    induction n with
    | zero => intro L h _; obtain rfl : L = [] := List.eq_nil_of_length_eq_zero h; rfl
    | succ n ih =>
      intro L h hb
      obtain ⟨K, c, rfl⟩ : ∃ K c, L = K ++ [c] := ⟨L.dropLast, L.getLast (by intro e; subst e; simp at h), (List.dropLast_concat_getLast _).symm⟩
      have hK : K.length = n := by simpa using h
      have hc := hb c (by simp)
      rw [crcL_append, ih K hK (fun x hx => hb x (by simp [hx]))]
      have e1 : ss (bitI (K ++ [c])) s (8 * K.length) = ss (bitI K) s (8 * K.length) := by
        apply ss_congr
        intro i hi
        unfold bitI
        rw [List.getD, List.getD, List.getElem?_append_left (by omega)]
      show crcB (ss (bitI K) s (8 * K.length)) (bvI c) = _
      unfold crcB
      rw [List.length_append, List.length_singleton, Nat.mul_add, Nat.mul_one, ss_bits (bitI (K ++ [c])) s (8 * K.length) 8 (by omega) (bvI c) ?_ (bvI_high c hc.2), e1]
      intro i hi
      unfold bitI
      rw [bvI_bit _ _ (by omega), show (8 * K.length + i) / 8 = K.length by omega, show (8 * K.length + i) % 8 = i by omega]
      simp
  exact key _ L rfl hL

/-- The reference's step. -/
def stepR (r : BitVec 32) (c : Bool) : BitVec 32 := (r <<< 1 ^^^ low c) ^^^ (if r.getLsbD 31 then 0x1edc6f41#32 else 0#32)
theorem rev_step (r : BitVec 32) (c : Bool) : (stepR r c).reverse = shr r.reverse ^^^ top c := by
  apply BitVec.eq_of_getLsbD_eq
  intro i hi
  unfold stepR shr
  rw [BitVec.getLsbD_reverse, BitVec.getMsbD_eq_getLsbD]
  simp only [hi, decide_true, Bool.true_and, BitVec.getLsbD_xor, BitVec.getLsbD_ushiftRight, BitVec.getLsbD_reverse, BitVec.getMsbD_eq_getLsbD, BitVec.getLsbD_shiftLeft]
  have hl : ∀ m, (low c).getLsbD m = (c && decide (m = 0)) := by
    intro m; unfold low; cases c <;> simp
  have ht : (top c).getLsbD i = (c && decide (i = 31)) := by
    unfold top
    cases c
    · simp
    · simp only [↓reduceIte, Bool.true_and]; revert i; decide
  have hp : ∀ b : Bool, (if b then 0x1edc6f41#32 else 0#32).getLsbD (32 - 1 - i) = (if b then 0x82f63b78#32 else 0#32).getLsbD i := by
    intro b
    cases b
    · simp
    · simp only [↓reduceIte]; clear ht; revert i; decide
  rw [hl, ht, hp]
  simp only [show (0 < 32) = True by simp, decide_true, Bool.true_and, show 32 - 1 - 0 = 31 by rfl]
  by_cases h31 : i = 31
  · subst h31; simp [Bool.xor_comm]
  · simp [h31, show 1 + i < 32 by omega, show ¬ 31 - i < 1 by omega, show ¬ 31 - i = 0 by omega, show 31 - i - 1 = 31 - (1 + i) by omega, show 31 - i < 32 by omega]

/-- The reference's rest behind n bits. -/
def restR (X : Nat → Bool) : Nat → BitVec 32
  | 0 => 0#32
  | n + 1 => stepR (restR X n) (X n)
theorem rev_rest (X : Nat → Bool) (n : Nat) : (restR X n).reverse = rr X n := by
  induction n with
  | zero => show (0#32).reverse = 0#32; apply BitVec.eq_of_getLsbD_eq; intro i hi; rw [BitVec.getLsbD_reverse, BitVec.getMsbD_eq_getLsbD]; simp
  | succ n ih => simp only [restR, rr]; rw [rev_step, ih]

/-- How the reference turns a word: bit by bit. -/
def turnR (r : BitVec 32) : Nat → BitVec 32
  | 0 => 0#32
  | n + 1 => (turnR r n <<< 1) ^^^ low (r.getLsbD n)
theorem turnR_bit (r : BitVec 32) (n : Nat) : ∀ i, i < 32 → (turnR r n).getLsbD i = (decide (i < n) && r.getLsbD (n - 1 - i)) := by
  induction n with
  | zero => intro i _; simp [turnR]
  | succ n ih =>
    intro i hi
    simp only [turnR]
    have hl : ∀ m, (low (r.getLsbD n)).getLsbD m = (r.getLsbD n && decide (m = 0)) := by
      intro m; unfold low; cases r.getLsbD n <;> simp
    rw [BitVec.getLsbD_xor, BitVec.getLsbD_shiftLeft, hl]
    by_cases h : i = 0
    · subst h; simp
    · simp [h, hi, show ¬ i < 1 by omega]
      rw [ih (i - 1) (by omega)]
      rw [show n - 1 - (i - 1) = n - i by omega]
      by_cases h2 : i < n + 1
      · simp [h2, show i - 1 < n by omega]
      · simp [h2, show ¬ i - 1 < n by omega]
theorem turnR_rev (r : BitVec 32) : turnR r 32 = r.reverse := by
  apply BitVec.eq_of_getLsbD_eq
  intro i hi
  rw [turnR_bit r 32 i hi, BitVec.getLsbD_reverse, BitVec.getMsbD_eq_getLsbD]

/-- What the division leaves, turned, is the state behind the bytes. -/
theorem ref_more (st : BitVec 32) (L : List Int) (hL : ByteL L) :
    turnR (restR (fun i => bitI L i ^^ (decide (i < 32) && st.getLsbD i)) (8 * L.length + 32)) 32 = crcL st L := by
  rw [turnR_rev, rev_rest, crcL_bits st L hL]
  apply rr_all
  intro i hi
  unfold bitI
  rw [List.getD, List.getElem?_eq_none (by omega)]
  simp
end Go.Proofs.YtgoafinbaiepmaaGreatDoor.fr