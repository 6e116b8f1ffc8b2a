/-
  Layer 7 (disk), the statements' own: letters.
-/
import Derived.Test.YtgoafinbaiepmaaGreatDoorDo
import Derived.Test.YtgoafinbaiepmaaGreatDoorDp
namespace Go.Proofs.YtgoafinbaiepmaaGreatDoor
open Go Go.RowKit
set_option maxRecDepth 100000

/-- A number's digits, the last one first. -/
def digL : Nat → Nat → List Int
  | 0, _ => []
  | f + 1, n => if n = 0 then [] else ((48 + n % 10 : Nat) : Int) :: digL f (n / 10)
/-- The name of a number. -/
def lettI (n : Nat) : List Int := 102 :: digL n n
theorem digL_fuel : ∀ (f g n : Nat), n ≤ f → n ≤ g → digL f n = digL g n
  | 0, g, n, h, _ => by
    obtain rfl : n = 0 := by omega
    cases g <;> simp [digL]
  | f + 1, 0, n, _, h => by
    obtain rfl : n = 0 := by omega
    simp [digL]
  | f + 1, g + 1, n, h1, h2 => by
    unfold digL
    by_cases hn : n = 0
    · rw [if_pos hn, if_pos hn]
    · rw [if_neg hn, if_neg hn, digL_fuel f g (n / 10) (by omega) (by omega)]
theorem digL_step (n : Nat) (hn : 0 < n) : digL n n = ((48 + n % 10 : Nat) : Int) :: digL (n / 10) (n / 10) := by
  obtain ⟨f, rfl⟩ : ∃ f, n = f + 1 := ⟨n - 1, by omega⟩
  conv => lhs; unfold digL
  rw [if_neg (by omega), digL_fuel f ((f + 1) / 10) ((f + 1) / 10) (by omega) (by omega)]
theorem strI_app (A B : List Int) : strI A ++ strI B = strI (A ++ B) := by
  unfold strI
  rw [List.map_append]
  apply ByteArray.ext
  rw [ByteArray.data_append]
  simp
theorem digL_len : ∀ (m f n : Nat), n < 10 ^ m → (digL f n).length ≤ m
  | m, 0, n, _ => by simp [digL]
  | 0, f + 1, n, h => by
    have : n = 0 := by simp at h; exact h
    simp [digL, this]
  | m + 1, f + 1, n, h => by
    unfold digL
    by_cases hn : n = 0
    · rw [if_pos hn]; simp
    · rw [if_neg hn, List.length_cons]
      have := digL_len m f (n / 10) (by rw [Nat.pow_succ] at h; omega)
      omega
theorem digL_range : ∀ (f n : Nat) (x : Int), x ∈ digL f n → 48 ≤ x ∧ x ≤ 57
  | 0, n, x, h => by simp [digL] at h
  | f + 1, n, x, h => by
    unfold digL at h
    by_cases hn : n = 0
    · rw [if_pos hn] at h; simp at h
    · rw [if_neg hn] at h
      rcases List.mem_cons.1 h with rfl | h
      · omega
      · exact digL_range f _ x h
theorem digL_inj : ∀ (f g n m : Nat), n ≤ f → m ≤ g → digL f n = digL g m → n = m
  | 0, g, n, m, h1, h2, e => by
    obtain rfl : n = 0 := by omega
    cases g with
    | zero => omega
    | succ g =>
      unfold digL at e
      by_cases hm : m = 0
      · exact hm.symm
      · rw [if_neg hm] at e; simp at e
  | f + 1, 0, n, m, h1, h2, e => by
    obtain rfl : m = 0 := by omega
    unfold digL at e
    by_cases hn : n = 0
    · exact hn
    · rw [if_neg hn] at e; simp at e
  | f + 1, g + 1, n, m, h1, h2, e => by
    unfold digL at e
    by_cases hn : n = 0
    · rw [if_pos hn] at e
      by_cases hm : m = 0
      · omega
      · rw [if_neg hm] at e; simp at e
    · rw [if_neg hn] at e
      by_cases hm : m = 0
      · rw [if_pos hm] at e; simp at e
      · rw [if_neg hm] at e
        injection e with e1 e2
        have := digL_inj f g (n / 10) (m / 10) (by omega) (by omega) e2
        omega
theorem strI_bytes (K : List Int) (hK : ∀ x ∈ K, 0 ≤ x ∧ x < 256) : bytesI (strI K) = K := by
  unfold bytesI strI
  simp only [List.map_map]
  conv => rhs; rw [← List.map_id K]
  refine List.map_congr_left (fun x hx => ?_)
  have := hK x hx
  simp only [Function.comp, id, UInt8.toNat_ofNat']
  omega
theorem lett_range (n : Nat) : ∀ x ∈ lettI n, 0 ≤ x ∧ x < 256 := fun x hx => by
  rcases List.mem_cons.1 hx with rfl | h
  · omega
  · have := digL_range n n x h
    omega
theorem lett_ok (n : Nat) (hn : n < 10 ^ 39) : nameB (strI (lettI n)) = true := by
  have hl := digL_len 39 n n hn
  unfold nameB
  rw [strI_size, strI_bytes _ (lett_range n)]
  have h1 : (lettI n).length = (digL n n).length + 1 := rfl
  have h3 : (lettI n).all standB = true := by
    rw [List.all_eq_true]
    intro x hx
    rcases List.mem_cons.1 hx with rfl | h
    · decide
    · have := digL_range n n x h
      unfold standB
      rw [decide_eq_true this.1, decide_eq_true this.2]
      simp
  rw [h3, h1, decide_eq_true (by omega), decide_eq_true (by omega)]
  rfl
theorem lett_inj (n m : Nat) (h : strI (lettI n) = strI (lettI m)) : n = m := by
  have h1 := congrArg bytesI h
  rw [strI_bytes _ (lett_range n), strI_bytes _ (lett_range m)] at h1
  injection h1 with _ h2
  exact digL_inj n m n m (Nat.le_refl _) (Nat.le_refl _) h2
end Go.Proofs.YtgoafinbaiepmaaGreatDoor
