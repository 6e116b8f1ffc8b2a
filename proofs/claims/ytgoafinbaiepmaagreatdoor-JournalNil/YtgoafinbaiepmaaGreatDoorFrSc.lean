/-
  Plain mathematics: heads and frames, there and back; what Scan tells.
-/
import Derived.Test.YtgoafinbaiepmaaGreatDoorFrMk
namespace Go.Proofs.YtgoafinbaiepmaaGreatDoor.fr
open Go

theorem bigL_succ (x k : Nat) : bigL x (k + 1) = bigL (x / 256) k ++ [((x % 256 : Nat) : Int)] := by
  unfold bigL
  rw [List.range_succ, List.map_append]
  congr 1
  · apply List.map_congr_left
    intro i hi
    have hi' : i < k := by simpa using hi
    rw [Nat.div_div_eq_div_mul, ← Nat.pow_succ', show k + 1 - 1 - i = (k - 1 - i) + 1 by omega]
  · simp
theorem numI_big (k : Nat) : ∀ x, x < 256 ^ k → numI (bigL x k) = x := by
  induction k with
  | zero => intro x hx; simp at hx; subst hx; rfl
  | succ k ih =>
    intro x hx
    rw [bigL_succ, numI_snoc, ih (x / 256) (by rw [Nat.pow_succ] at hx; omega)]
    simp; omega
theorem big_numI (n : Nat) : ∀ K : List Int, K.length = n → ByteL K → bigL (numI K) n = K := by
  induction n with
  | zero => intro K h _; obtain rfl : K = [] := List.eq_nil_of_length_eq_zero h; rfl
  | succ n ih =>
    intro K h hb
    obtain ⟨L, c, rfl⟩ : ∃ L c, K = L ++ [c] := ⟨K.dropLast, K.getLast (by intro e; subst e; simp at h), (List.dropLast_concat_getLast _).symm⟩
    have hc := hb c (by simp)
    rw [numI_snoc, bigL_succ, show (numI L * 256 + c.toNat) / 256 = numI L by omega, ih L (by simpa using h) (fun x hx => hb x (by simp [hx])), show ((numI L * 256 + c.toNat) % 256) = c.toNat by omega]
    congr 2
    omega
theorem rev4 (a b c d : Nat) (ha : a < 256) (hb : b < 256) (hc : c < 256) : revN (a + 256 * b + 65536 * c + 16777216 * d) = d + 256 * c + 65536 * b + 16777216 * a := by
  unfold revN
  omega
theorem revN_revN (x : Nat) (hx : x < 4294967296) : revN (revN x) = x := by
  obtain ⟨a, b, c, d, ha, hb, hc, hd, rfl⟩ : ∃ a b c d, a < 256 ∧ b < 256 ∧ c < 256 ∧ d < 256 ∧ x = a + 256 * b + 65536 * c + 16777216 * d :=
    ⟨x % 256, x / 256 % 256, x / 65536 % 256, x / 16777216, by omega, by omega, by omega, by omega, by omega⟩
  rw [rev4 a b c d ha hb hc, rev4 d c b a hd hc hb]
theorem sumI_le (s : Nat) (hs : s < 4294967296) : sumI (leL s) = s := by
  unfold sumI leL
  rw [numI_big 4 _ (by have := rev_lt s hs; omega), revN_revN s hs]
theorem le_sumI (K : List Int) (h : K.length = 4) (hb : ByteL K) : leL (sumI K) = K := by
  unfold sumI leL
  rw [revN_revN _ (by have := numI_lt 4 K h hb; omega), big_numI 4 K h hb]
theorem sumI_lt (K : List Int) (h : K.length = 4) (hb : ByteL K) : sumI K < 4294967296 := rev_lt _ (by have := numI_lt 4 K h hb; omega)

/-! What a head says. -/
theorem head_parts (k : Int) (q n s : Nat) (rest : List Int) :
    (headL k q n s ++ rest).take 3 = [83, 80, 82] ∧ (headL k q n s ++ rest).getD 3 0 = k ∧ part (headL k q n s ++ rest) 4 8 = bigL q 8 ∧ part (headL k q n s ++ rest) 12 4 = bigL n 4 ∧ part (headL k q n s ++ rest) 16 4 = leL s ∧ part (headL k q n s ++ rest) 20 4 = leL (moreB 0#32 (headA k q n s)).toNat ∧ (headL k q n s ++ rest).take 20 = headA k q n s := by
  generalize hS : (moreB 0#32 (headA k q n s)).toNat = S
  unfold headL
  rw [hS]
  have l1 := bigL_len q 8
  have l2 := bigL_len n 4
  have l3 := leL_len s
  have l4 := leL_len S
  have l0 := headA_len k q n s
  refine ⟨?_, ?_, ?_, ?_, ?_, ?_, ?_⟩
  · simp [headA]
  · simp [headA]
  · unfold part headA; simp [List.drop_append, l1, l2, l3, l4]
  · unfold part headA; simp [l1, l2]
  · unfold part headA; simp [List.drop_append, List.take_append, l1, l2, l3]
  · unfold part; simp [l0, l4]
  · rw [List.append_assoc, List.take_append, l0]; simp [← l0]
theorem right_head (k : Int) (q n s : Nat) (rest : List Int) (hk : 1 ≤ k ∧ k ≤ 9) (hn : n ≤ 1048576) : RightH (headL k q n s ++ rest) := by
  obtain ⟨h1, h2, h3, h4, h5, h6, h7⟩ := head_parts k q n s rest
  refine ⟨h1, by rw [h2]; exact hk, by rw [h4, numI_big 4 n (by omega)]; exact hn, ?_⟩
  rw [h6, h7, sumI_le _ (moreB 0#32 (headA k q n s)).isLt]
theorem take_part (R : List Int) (i m : Nat) : R.take (i + m) = R.take i ++ part R i m := by unfold part; rw [List.take_add]
theorem head_back (R : List Int) (hl : 24 ≤ R.length) (hb : ByteL R) (hR : RightH R) : R.take 24 = headL (R.getD 3 0) (numI (part R 4 8)) (numI (part R 12 4)) (sumI (part R 16 4)) := by
  obtain ⟨h1, h2, h3, h4⟩ := hR
  have hA : R.take 20 = headA (R.getD 3 0) (numI (part R 4 8)) (numI (part R 12 4)) (sumI (part R 16 4)) := by
    unfold headA
    rw [big_numI 8 _ (part_len (by omega)) (hb.part _ _), big_numI 4 _ (part_len (by omega)) (hb.part _ _), le_sumI _ (part_len (by omega)) (hb.part _ _)]
    rw [take_part R 16 4, take_part R 12 4, take_part R 4 8, take_part R 3 1, h1]
    congr 4
    unfold part
    rw [List.drop_eq_getElem_cons (show 3 < R.length by omega), List.take_succ_cons, List.take_zero, List.getD, List.getElem?_eq_getElem (show 3 < R.length by omega)]
    rfl
  rw [take_part R 20 4, hA]
  unfold headL
  congr 1
  rw [← hA, ← h4, le_sumI _ (part_len (by omega)) (hb.part _ _)]

/-- A piece: kind, seq, place, length. -/
abbrev Pc := Int × Nat × Nat × Nat
def pcCells (p : Pc) : List Value := [.int .i64 p.1, .int .u64 p.2.1, .int .i64 p.2.2.1, .int .i64 p.2.2.2]
def rightB (R : List Int) : Bool := decide (R.take 3 = [83, 80, 82] ∧ (1 ≤ R.getD 3 0 ∧ R.getD 3 0 ≤ 9) ∧ numI (part R 12 4) ≤ 1048576 ∧ sumI (part R 20 4) = (moreB 0#32 (R.take 20)).toNat)
theorem rightB_iff (R : List Int) : rightB R = true ↔ RightH R := by unfold rightB RightH; simp
/-- What stands at the head of bytes: an error, or a frame's kind, seq, length. -/
def stepS (R : List Int) : Except Int (Int × Nat × Nat) :=
  if R.length < 24 then .error 23
  else if rightB R then
    if R.length - 24 < numI (part R 12 4) then .error 23
    else if (moreB 0#32 (part R 24 (numI (part R 12 4)))).toNat = sumI (part R 16 4) then .ok (R.getD 3 0, numI (part R 4 8), numI (part R 12 4))
    else .error 25
  else .error 24
/-- What Scan tells of bytes, from a place on. -/
def scanG : Nat → List Int → Nat → List Pc × Nat × Int
  | 0, _, p => ([], p, 0)
  | f + 1, R, p =>
    if R.length = 0 then ([], p, 0)
    else match stepS R with
      | .error e => ([], p, e)
      | .ok (k, q, n) => ((k, q, p + 24, n) :: (scanG f (R.drop (24 + n)) (p + 24 + n)).1, (scanG f (R.drop (24 + n)) (p + 24 + n)).2)
theorem scanG_nil (f p : Nat) : scanG f [] p = ([], p, 0) := by cases f <;> rfl
theorem scanG_err (f p : Nat) (R : List Int) (e : Int) (h0 : 0 < R.length) (h : stepS R = .error e) : scanG (f + 1) R p = ([], p, e) := by
  unfold scanG; rw [if_neg (by omega), h]
theorem scanG_ok (f p : Nat) (R : List Int) (k : Int) (q n : Nat) (h0 : 0 < R.length) (h : stepS R = .ok (k, q, n)) : scanG (f + 1) R p = ((k, q, p + 24, n) :: (scanG f (R.drop (24 + n)) (p + 24 + n)).1, (scanG f (R.drop (24 + n)) (p + 24 + n)).2) := by
  conv => lhs; unfold scanG
  rw [if_neg (by omega), h]
theorem scanG_fuel (f : Nat) : ∀ (R : List Int) (p g : Nat), R.length ≤ f → R.length ≤ g → scanG f R p = scanG g R p := by
  induction f with
  | zero =>
    intro R p g hf _
    obtain rfl : R = [] := List.eq_nil_of_length_eq_zero (by omega)
    rw [scanG_nil, scanG_nil]
  | succ f ih =>
    intro R p g hf hg
    by_cases h0 : R.length = 0
    · obtain rfl : R = [] := List.eq_nil_of_length_eq_zero h0
      rw [scanG_nil, scanG_nil]
    · obtain ⟨g', rfl⟩ : ∃ g', g = g' + 1 := ⟨g - 1, by omega⟩
      cases hs : stepS R with
      | error e => rw [scanG_err f p R e (by omega) hs, scanG_err g' p R e (by omega) hs]
      | ok x =>
        obtain ⟨k, q, n⟩ := x
        rw [scanG_ok f p R k q n (by omega) hs, scanG_ok g' p R k q n (by omega) hs, ih (R.drop (24 + n)) (p + 24 + n) g' (by simp; omega) (by simp; omega)]
/-- What Scan tells. -/
def scanL (K : List Int) : List Pc × Nat × Int := scanG K.length K 0

theorem stepS_ok (R : List Int) (k : Int) (q n : Nat) (hb : ByteL R) (h : stepS R = .ok (k, q, n)) : 24 + n ≤ R.length ∧ (1 ≤ k ∧ k ≤ 9) ∧ q < 18446744073709551616 ∧ n ≤ 1048576 ∧ R.take (24 + n) = makeL k q (part R 24 n) := by
  unfold stepS at h
  split at h
  · cases h
  · rename_i h24
    split at h
    · rename_i hr
      split at h
      · cases h
      · rename_i hn
        split at h
        · rename_i hs
          obtain ⟨rfl, rfl, rfl⟩ : R.getD 3 0 = k ∧ numI (part R 4 8) = q ∧ numI (part R 12 4) = n := by simpa using h
          have hR := (rightB_iff R).1 hr
          refine ⟨by omega, hR.2.1, by have := numI_lt 8 (part R 4 8) (part_len (by omega)) (hb.part _ _); omega, hR.2.2.1, ?_⟩
          rw [take_part]
          unfold makeL
          rw [head_back R (by omega) hb hR, part_len (by omega), hs]
        · cases h
    · cases h
theorem stepS_err (R : List Int) (e : Int) (h : stepS R = .error e) : (R.length < 24 ∧ e = 23) ∨ (24 ≤ R.length ∧ ¬ RightH R ∧ e = 24) ∨ (24 ≤ R.length ∧ RightH R ∧ R.length - 24 < numI (part R 12 4) ∧ e = 23) ∨ (24 ≤ R.length ∧ RightH R ∧ numI (part R 12 4) ≤ R.length - 24 ∧ (moreB 0#32 (part R 24 (numI (part R 12 4)))).toNat ≠ sumI (part R 16 4) ∧ e = 25) := by
  unfold stepS at h
  split at h
  · rename_i h24; left; exact ⟨h24, by simpa using h.symm⟩
  · rename_i h24
    split at h
    · rename_i hr
      have hR := (rightB_iff R).1 hr
      split at h
      · rename_i hn; right; right; left; exact ⟨by omega, hR, hn, by simpa using h.symm⟩
      · rename_i hn
        split at h
        · cases h
        · rename_i hs; right; right; right; exact ⟨by omega, hR, by omega, hs, by simpa using h.symm⟩
    · rename_i hr
      right; left; exact ⟨by omega, fun hR => hr ((rightB_iff R).2 hR), by simpa using h.symm⟩
theorem stepS_ok' (R : List Int) (k : Int) (q n : Nat) (h : stepS R = .ok (k, q, n)) : 24 ≤ R.length ∧ RightH R ∧ n ≤ R.length - 24 ∧ R.getD 3 0 = k ∧ numI (part R 4 8) = q ∧ numI (part R 12 4) = n ∧ (moreB 0#32 (part R 24 n)).toNat = sumI (part R 16 4) := by
  unfold stepS at h
  split at h
  · cases h
  · rename_i h24
    split at h
    · rename_i hr
      split at h
      · cases h
      · rename_i hn
        split at h
        · rename_i hs
          obtain ⟨rfl, rfl, rfl⟩ : R.getD 3 0 = k ∧ numI (part R 4 8) = q ∧ numI (part R 12 4) = n := by simpa using h
          exact ⟨by omega, (rightB_iff R).1 hr, by omega, rfl, rfl, rfl, hs⟩
        · cases h
    · cases h
theorem stepS_make (k : Int) (q : Nat) (P rest : List Int) (hk : 1 ≤ k ∧ k ≤ 9) (hq : q < 18446744073709551616) (hP : P.length ≤ 1048576) : stepS (makeL k q P ++ rest) = .ok (k, q, P.length) := by
  have hml := makeL_len k q P
  have e : makeL k q P ++ rest = headL k q P.length (moreB 0#32 P).toNat ++ (P ++ rest) := by unfold makeL; rw [List.append_assoc]
  obtain ⟨h1, h2, h3, h4, h5, h6, h7⟩ := head_parts k q P.length (moreB 0#32 P).toNat (P ++ rest)
  have hR := (rightB_iff _).2 (right_head k q P.length (moreB 0#32 P).toNat (P ++ rest) hk hP)
  have hl : (makeL k q P ++ rest).length = 24 + P.length + rest.length := by rw [List.length_append, hml]
  unfold stepS
  rw [if_neg (by omega), e, hR, if_pos rfl, h2, h3, h4, h5, numI_big 4 _ (by omega), numI_big 8 _ (by omega), sumI_le _ (moreB 0#32 P).isLt, ← e, if_neg (by omega), e]
  have hp : part (headL k q P.length (moreB 0#32 P).toNat ++ (P ++ rest)) 24 P.length = P := by
    unfold part
    rw [List.drop_append, List.drop_of_length_le (by rw [headL_len]; omega), headL_len]
    simp
  rw [hp, if_pos rfl]
end Go.Proofs.YtgoafinbaiepmaaGreatDoor.fr