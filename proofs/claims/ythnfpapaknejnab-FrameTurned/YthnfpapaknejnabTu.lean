/-
  Plain mathematics: bits of a frame that are turned.
-/
import Derived.Test.YthnfpapaknejnabCu
namespace Go.Proofs.Ythnfpapaknejnab
open Go

/-- One bit is turned. -/
def flipL (L : List Int) (n : Nat) : List Int := L.set (n / 8) (((L.getD (n / 8) 0).toNat ^^^ 2 ^ (n % 8) : Nat) : Int)
theorem flipL_len (L : List Int) (n : Nat) : (flipL L n).length = L.length := by simp [flipL]
theorem flipL_bytes (L : List Int) (h : ByteL L) (n : Nat) : ByteL (flipL L n) := by
  intro x hx
  unfold flipL at hx
  rcases List.mem_or_eq_of_mem_set hx with e | e
  · exact h x e
  · subst e
    have hb : (L.getD (n / 8) 0).toNat < 2 ^ 8 := by
      by_cases hn : n / 8 < L.length
      · have := h _ (List.getElem_mem hn)
        rw [List.getD, List.getElem?_eq_getElem hn]
        simp; omega
      · rw [List.getD, List.getElem?_eq_none (by omega)]; simp
    have h2 : 2 ^ (n % 8) < 2 ^ 8 := Nat.pow_lt_pow_right (by omega) (by omega)
    have := Nat.xor_lt_two_pow hb h2
    omega
theorem flipL_bit (L : List Int) (n : Nat) (hn : n < 8 * L.length) (m : Nat) : bitI (flipL L n) m = (bitI L m ^^ decide (m = n)) := by
  unfold bitI flipL
  by_cases e : m / 8 = n / 8
  · rw [e, List.getD, List.getElem?_set_self (by omega)]
    simp only [Option.getD_some, Int.toNat_natCast, Nat.testBit_xor]
    congr 1
    rw [Nat.testBit_two_pow]
    by_cases h : m = n
    · subst h; simp
    · have : ¬ n % 8 = m % 8 := by omega
      simp [this, h]
  · rw [List.getD, List.getD, List.getElem?_set_ne (fun h => e h.symm)]
    have : ¬ m = n := fun h => e (by rw [h])
    simp [this]
/-- Bits are turned from a place on, where a word has them. -/
def turnL (L : List Int) (p : Nat) (run : Nat) : Nat → List Int
  | 0 => L
  | j + 1 => if run.testBit j then flipL (turnL L p run j) (p + j) else turnL L p run j
theorem turnL_len (L : List Int) (p run j : Nat) : (turnL L p run j).length = L.length := by
  induction j with
  | zero => rfl
  | succ j ih => simp only [turnL]; split <;> simp [flipL_len, ih]
theorem turnL_bytes (L : List Int) (h : ByteL L) (p run j : Nat) : ByteL (turnL L p run j) := by
  induction j with
  | zero => exact h
  | succ j ih => simp only [turnL]; split
                 · exact flipL_bytes _ ih _
                 · exact ih
/-- Is a bit among them? -/
def inB (p run j m : Nat) : Bool := decide (p ≤ m) && decide (m < p + j) && run.testBit (m - p)
theorem turnL_bit (L : List Int) (p run j : Nat) (hj : p + j ≤ 8 * L.length) (m : Nat) : bitI (turnL L p run j) m = (bitI L m ^^ inB p run j m) := by
  induction j with
  | zero =>
    have : inB p run 0 m = false := by
      unfold inB
      by_cases h1 : p ≤ m
      · simp [show ¬ m < p by omega]
      · simp [h1]
    rw [this]
    simp [turnL]
  | succ j ih =>
    have ih := ih (by omega)
    simp only [turnL]
    by_cases hb : run.testBit j = true
    · rw [if_pos hb, flipL_bit _ _ (by rw [turnL_len]; omega), ih]
      unfold inB
      rcases (by omega : m < p ∨ (p ≤ m ∧ m < p + j) ∨ m = p + j ∨ p + j < m) with h | ⟨h, h'⟩ | h | h
      · simp [show ¬ p ≤ m by omega, show ¬ m = p + j by omega]
      · simp [h, h', show m < p + (j + 1) by omega, show ¬ m = p + j by omega]
      · subst h; simp [hb]
      · simp [show ¬ m < p + j by omega, show ¬ m < p + (j + 1) by omega, show ¬ m = p + j by omega]
    · rw [if_neg hb, ih]
      unfold inB
      rcases (by omega : m < p ∨ (p ≤ m ∧ m < p + j) ∨ m = p + j ∨ p + j < m) with h | ⟨h, h'⟩ | h | h
      · simp [show ¬ p ≤ m by omega]
      · simp [h, h', show m < p + (j + 1) by omega]
      · subst h; simp at hb; simp [hb]
      · simp [show ¬ m < p + j by omega, show ¬ m < p + (j + 1) by omega]
theorem turnL_none (L : List Int) (p run j : Nat) (h : ∀ i, i < j → run.testBit i = false) : turnL L p run j = L := by
  induction j with
  | zero => rfl
  | succ j ih => simp only [turnL]; rw [if_neg (by rw [h j (by omega)]; simp), ih (fun i hi => h i (by omega))]

/-- Two lists of bytes with the same bits are the same. -/
theorem bits_ext (K L : List Int) (hK : ByteL K) (hL : ByteL L) (hl : K.length = L.length) (h : ∀ m, m < 8 * K.length → bitI K m = bitI L m) : K = L := by
  apply List.ext_getElem hl
  intro i hi hi'
  have a := hK _ (List.getElem_mem hi)
  have b := hL _ (List.getElem_mem hi')
  have e : K[i].toNat = L[i].toNat := by
    apply Nat.eq_of_testBit_eq
    intro r
    by_cases hr : r < 8
    · have := h (8 * i + r) (by omega)
      unfold bitI at this
      rw [show (8 * i + r) / 8 = i by omega, show (8 * i + r) % 8 = r by omega, List.getD, List.getD, List.getElem?_eq_getElem hi, List.getElem?_eq_getElem hi'] at this
      exact this
    · have p8 : (2 : Nat) ^ 8 ≤ 2 ^ r := Nat.pow_le_pow_right (by omega) (by omega)
      rw [Nat.testBit_lt_two_pow (by omega), Nat.testBit_lt_two_pow (by omega)]
  omega
theorem bitI_append_left (A B : List Int) (m : Nat) (h : m < 8 * A.length) : bitI (A ++ B) m = bitI A m := by
  unfold bitI; rw [List.getD, List.getD, List.getElem?_append_left (by omega)]
theorem bitI_append_right (A B : List Int) (m : Nat) : bitI (A ++ B) (8 * A.length + m) = bitI B m := by
  unfold bitI
  rw [List.getD, List.getD, List.getElem?_append_right (by omega), show (8 * A.length + m) / 8 - A.length = m / 8 by omega, show (8 * A.length + m) % 8 = m % 8 by omega]
theorem bitI_out (A : List Int) (m : Nat) (h : 8 * A.length ≤ m) : bitI A m = false := by
  unfold bitI; rw [List.getD, List.getElem?_eq_none (by omega)]; simp
theorem bitI_take (A : List Int) (n m : Nat) (h : m < 8 * n) : bitI (A.take n) m = bitI A m := by
  unfold bitI; rw [List.getD, List.getD, List.getElem?_take, if_pos (by omega)]
theorem bitI_drop (A : List Int) (n m : Nat) : bitI (A.drop n) m = bitI A (8 * n + m) := by
  unfold bitI; rw [List.getD, List.getD, List.getElem?_drop, show (8 * n + m) / 8 = n + m / 8 by omega, show (8 * n + m) % 8 = m % 8 by omega]
theorem bitI_part (A : List Int) (i n m : Nat) (h : m < 8 * n) : bitI (part A i n) m = bitI A (8 * i + m) := by
  unfold part; rw [bitI_take _ _ _ h, bitI_drop]

/-- A sum's bits are those of its bytes. -/
theorem sumI_bits (P : List Int) (hl : P.length = 4) (hb : ByteL P) (i : Nat) (hi : i < 32) : (BitVec.ofNat 32 (sumI P)).getLsbD i = bitI P i := by
  match P, hl with
  | [a, b, c, d], _ =>
    have ha := hb a (by simp)
    have hbb := hb b (by simp)
    have hc := hb c (by simp)
    have hd := hb d (by simp)
    have e : sumI [a, b, c, d] = a.toNat + 256 * b.toNat + 65536 * c.toNat + 16777216 * d.toNat := by
      unfold sumI
      have : numI [a, b, c, d] = d.toNat + 256 * c.toNat + 65536 * b.toNat + 16777216 * a.toNat := by unfold numI; simp; omega
      rw [this, rev4 _ _ _ _ (by omega) (by omega) (by omega)]
    have e2 : a.toNat + 256 * b.toNat + 65536 * c.toNat + 16777216 * d.toNat = 2 ^ 8 * (2 ^ 8 * (2 ^ 8 * d.toNat + c.toNat) + b.toNat) + a.toNat := by omega
    rw [BitVec.getLsbD_ofNat, e, e2]
    simp only [hi, decide_true, Bool.true_and]
    unfold bitI
    rw [Nat.testBit_two_pow_mul_add _ (by omega)]
    by_cases h1 : i < 8
    · rw [if_pos h1, show i / 8 = 0 by omega, show i % 8 = i by omega]; rfl
    · rw [if_neg h1, Nat.testBit_two_pow_mul_add _ (by omega)]
      by_cases h2 : i - 8 < 8
      · rw [if_pos h2, show i / 8 = 1 by omega, show i % 8 = i - 8 by omega]; rfl
      · rw [if_neg h2, Nat.testBit_two_pow_mul_add _ (by omega)]
        by_cases h3 : i - 8 - 8 < 8
        · rw [if_pos h3, show i / 8 = 2 by omega, show i % 8 = i - 8 - 8 by omega]; rfl
        · rw [if_neg h3, show i / 8 = 3 by omega, show i % 8 = i - 8 - 8 - 8 by omega]; rfl
/-- Bytes of which bits are turned within 32 have another sum. -/
theorem more_turned (K L : List Int) (hK : ByteL K) (hL : ByteL L) (hl : K.length = L.length) (E : Nat → Bool) (hE : ∀ m, m < 8 * L.length → bitI K m = (bitI L m ^^ E m)) (f q : Nat) (hf : f ≤ 8 * L.length) (h0 : ∀ i, i < 8 * L.length → (i < f ∨ f + 32 ≤ i) → E i = false) (hq : q < 8 * L.length) (hEq : E q = true) : moreB 0#32 K ≠ moreB 0#32 L := by
  intro h
  unfold moreB at h
  have h1 := congrArg (fun x => ~~~ x) h
  simp only [BitVec.not_not] at h1
  rw [crcL_bits _ K hK, crcL_bits _ L hL, hl] at h1
  rw [ss_congr (bitI K) (fun i => bitI L i ^^ E i) _ _ hE] at h1
  have h2 := ss_xor (bitI L) E (~~~ 0#32) 0#32 (8 * L.length)
  rw [BitVec.xor_zero, h1] at h2
  have h3 : ss E 0#32 (8 * L.length) = 0#32 := by
    have := congrArg (fun x => ss (bitI L) (~~~ 0#32) (8 * L.length) ^^^ x) h2
    simp only [← BitVec.xor_assoc, BitVec.xor_self, BitVec.zero_xor] at this
    exact this.symm
  exact burst E _ f hf h0 q hq hEq h3
/-- A head of which bits are turned within 32 is none. -/
theorem head_turned (K L : List Int) (hK : ByteL K) (hL : ByteL L) (hl : 24 ≤ L.length) (hlK : 24 ≤ K.length) (hR : RightH L) (E : Nat → Bool) (hE : ∀ m, m < 192 → bitI K m = (bitI L m ^^ E m)) (f q : Nat) (hf : f ≤ 192) (h0 : ∀ i, i < 192 → (i < f ∨ f + 32 ≤ i) → E i = false) (hq : q < 192) (hEq : E q = true) : ¬ RightH K := by
  intro hRK
  have s1 := hR.2.2.2
  have s2 := hRK.2.2.2
  have w1 : BitVec.ofNat 32 (sumI (part L 20 4)) = moreB 0#32 (L.take 20) := by rw [s1]; simp
  have w2 : BitVec.ofNat 32 (sumI (part K 20 4)) = moreB 0#32 (K.take 20) := by rw [s2]; simp
  have lL : (L.take 20).length = 20 := by simp; omega
  have lK : (K.take 20).length = 20 := by simp; omega
  have c1 : crcL (~~~ 0#32) (K.take 20) = crcL (~~~ 0#32) (L.take 20) ^^^ ss E 0#32 160 := by
    rw [crcL_bits _ _ (hK.take 20), crcL_bits _ _ (hL.take 20), lK, lL]
    have h2 := ss_xor (bitI (L.take 20)) E (~~~ 0#32) 0#32 160
    rw [BitVec.xor_zero] at h2
    show ss (bitI (K.take 20)) (~~~ 0#32) 160 = ss (bitI (L.take 20)) (~~~ 0#32) 160 ^^^ _
    rw [← h2]
    apply ss_congr
    intro i hi
    rw [bitI_take _ _ _ (by omega), bitI_take _ _ _ (by omega), hE i (by omega)]
  obtain ⟨c, hc⟩ : ∃ c, wordN (fun i => E (160 + i)) 32 = c := ⟨_, rfl⟩
  have hcb : ∀ i, i < 32 → c.getLsbD i = E (160 + i) := by
    intro i hi
    rw [← hc, wordN_bit _ 32 i hi]
    simp [hi]
  have c2 : BitVec.ofNat 32 (sumI (part K 20 4)) = BitVec.ofNat 32 (sumI (part L 20 4)) ^^^ c := by
    apply BitVec.eq_of_getLsbD_eq
    intro i hi
    rw [BitVec.getLsbD_xor, sumI_bits _ (part_len (by omega)) (hK.part _ _) i hi, sumI_bits _ (part_len (by omega)) (hL.part _ _) i hi, bitI_part _ _ _ _ (by omega), bitI_part _ _ _ _ (by omega), hE _ (by omega), hcb i hi]
  have c3 : ss E 0#32 160 = c := by
    rw [w1, w2] at c2
    unfold moreB at c2
    rw [c1] at c2
    generalize crcL (~~~ 0#32) (L.take 20) = x at c2
    generalize ss E 0#32 160 = y at c2
    have h1 : ~~~ (x ^^^ y) = ~~~ x ^^^ y := by
      apply BitVec.eq_of_getLsbD_eq
      intro i hi
      simp [hi]
    rw [h1] at c2
    have h2 := congrArg (fun t => ~~~ x ^^^ t) c2
    simp only [← BitVec.xor_assoc, BitVec.xor_self, BitVec.zero_xor] at h2
    exact h2
  have c4 := ss_bits E 0#32 160 32 (by omega) c (fun i hi => (hcb i hi).symm) (by
    apply BitVec.eq_of_getLsbD_eq
    intro i hi
    rw [BitVec.getLsbD_ushiftRight, BitVec.getLsbD_of_ge _ _ (by omega)]; simp)
  rw [c3, BitVec.xor_self, shrN_zero] at c4
  exact burst E 192 f hf h0 q hq hEq c4
end Go.Proofs.Ythnfpapaknejnab
