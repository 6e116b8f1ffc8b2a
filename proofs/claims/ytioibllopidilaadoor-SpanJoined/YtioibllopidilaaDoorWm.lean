/-
  Plain mathematics of wire: numbers and texts there and back.
-/
import Derived.Test.YtioibllopidilaaDoorTx
namespace Go.Proofs.YtioibllopidilaaDoor
open Go.Shelf Go.RowKit
set_option maxRecDepth 100000

theorem scan_enc_gen : ∀ (u s v : Nat) (rest : List Int), s ≤ 9 → (s = 0 ∨ 0 < u) → u * 128 ^ s < 18446744073709551616 →
    scanN (encN u ++ rest) s v = .ok (v + u * 128 ^ s) (s + (encN u).length) := by
  intro u
  induction u using Nat.strongRecOn with
  | _ u ih =>
    intro s v rest hs h0 hb
    by_cases hu : u < 128
    · rw [encN_lt hu]
      show scanN ((u : Int) :: rest) s v = _
      rw [scanN_last _ _ _ _ (by omega) (by omega), if_neg]
      · simp
      · simp [badLast]
        refine ⟨fun h => by omega, fun h9 => ?_⟩
        subst h9
        have : (128 : Nat) ^ 9 = 9223372036854775808 := by decide
        rw [this] at hb
        omega
    · rw [encN_ge (by omega)]
      show scanN (((u % 128 + 128 : Nat) : Int) :: (encN (u / 128) ++ rest)) s v = _
      rw [scanN_more _ _ _ _ (by omega) (by omega)]
      have hp : 128 ^ (s + 1) = 128 * 128 ^ s := by rw [Nat.pow_succ]; omega
      have h1 : 128 * 128 ^ s ≤ u * 128 ^ s := Nat.mul_le_mul_right _ (by omega)
      have hs9 : s + 1 ≤ 9 := by
        by_cases h9 : s = 9
        · subst h9
          have : (128 : Nat) ^ 9 = 9223372036854775808 := by decide
          rw [this] at h1 hb; omega
        · omega
      have hsplit : (u % 128) * 128 ^ s + (u / 128) * 128 ^ (s + 1) = u * 128 ^ s := by
        rw [hp, ← Nat.mul_assoc, ← Nat.add_mul]
        congr 1
        omega
      rw [ih (u / 128) (by omega) (s + 1) _ rest hs9 (Or.inr (by omega)) (by omega)]
      have e1 : (((u % 128 + 128 : Nat) : Int)).toNat - 128 = u % 128 := by omega
      rw [e1]
      congr 1
      · omega
      · simp; omega
theorem scan_enc (u : Nat) (rest : List Int) (hu : u < 18446744073709551616) : scanN (encN u ++ rest) 0 0 = .ok u (encN u).length := by
  have := scan_enc_gen u 0 0 rest (by omega) (Or.inl rfl) (by simpa using hu)
  simpa using this

theorem bytesI_byte (s : ByteArray) : ∀ x ∈ bytesI s, 0 ≤ x ∧ x < 256 := by
  intro x hx
  unfold bytesI at hx
  obtain ⟨b, _, rfl⟩ := List.mem_map.1 hx
  have := b.toNat_lt
  omega
theorem strI_bytesI (s : ByteArray) : strI (bytesI s) = s := by
  have : (bytesI s).map (fun n => UInt8.ofNat n.toNat) = s.data.toList := by
    unfold bytesI
    rw [List.map_map]
    have : ((fun n : Int => UInt8.ofNat n.toNat) ∘ fun b : UInt8 => (b.toNat : Int)) = id := by funext b; simp
    rw [this]; simp
  unfold strI
  rw [this]

theorem scan_form : ∀ (l : List Int) (s v v' s' : Nat), (∀ x ∈ l, 0 ≤ x ∧ x < 256) → scanN l s v = .ok v' s' →
    ∃ u, v' = v + u * 128 ^ s ∧ (0 < s → 0 < u) ∧ l.take (s' - s) = encN u := by
  intro l
  induction l with
  | nil => intro s v v' s' _ h; unfold scanN at h; split at h <;> simp at h
  | cons x r ih =>
    intro s v v' s' hl h
    have hx := hl x (by simp)
    unfold scanN at h
    split at h
    · simp at h
    · split at h
      · split at h
        · simp at h
        · rename_i hx128 hb
          simp at h
          obtain ⟨rfl, rfl⟩ := h
          refine ⟨x.toNat, rfl, fun hs => ?_, ?_⟩
          · by_cases h0 : x = 0
            · exact absurd (by simp [badLast]; omega) hb
            · omega
          · rw [encN_lt (by omega), show s + 1 - s = 1 by omega]
            simp; omega
      · obtain ⟨u, h1, h2, h3⟩ := ih (s + 1) _ v' s' (fun y hy => hl y (by simp [hy])) h
        have hs := scan_size r (s + 1) _ v' s' h
        have hu := h2 (by omega)
        refine ⟨(x.toNat - 128) + 128 * u, ?_, fun _ => by omega, ?_⟩
        · rw [h1, Nat.pow_succ, Nat.add_mul, Nat.add_assoc]
          congr 2
          rw [Nat.mul_comm (128 ^ s) 128, ← Nat.mul_assoc, Nat.mul_comm u 128]
        · rw [encN_ge (by omega), show s' - s = (s' - (s + 1)) + 1 by omega, List.take_succ_cons, h3]
          congr 1
          · omega
          · congr 1; omega

theorem textR_ok (K : List Int) (t : Nat) (N : Int) (f v : Nat) (h : textR K t N = .ok f v) : ∃ s, scanN (K.drop t) 0 0 = .ok v s ∧ f = t + s ∧ t + s + v ≤ K.length := by
  by_cases hN : N < 0
  · rw [textR, if_pos hN] at h; simp at h
  rw [textR, if_neg hN] at h
  cases hr : scanN (K.drop t) 0 0 using NumRes.each with
  | form => rw [hr] at h; simp at h
  | ended => rw [hr] at h; simp at h
  | ok v1 s =>
    rw [hr] at h
    replace h : (if N < (v1 : Int) then TxtRes.bad t 13 else if K.length < t + s + v1 then .bad K.length 11 else if endL ((K.drop (t + s)).take v1) < v1 then .bad (t + s + endL ((K.drop (t + s)).take v1)) 14 else .ok (t + s) v1) = .ok f v := h
    by_cases c1 : N < (v1 : Int)
    · rw [if_pos c1] at h; simp at h
    rw [if_neg c1] at h
    by_cases c2 : K.length < t + s + v1
    · rw [if_pos c2] at h; simp at h
    rw [if_neg c2] at h
    by_cases c3 : endL ((K.drop (t + s)).take v1) < v1
    · rw [if_pos c3] at h; simp at h
    · rw [if_neg c3] at h
      simp at h
      obtain ⟨rfl, rfl⟩ := h
      exact ⟨s, rfl, rfl, by omega⟩

theorem bytesI_strI (K : List Int) (hb : ∀ x ∈ K, 0 ≤ x ∧ x < 256) : bytesI (strI K) = K := by
  unfold bytesI strI
  simp only [List.map_map]
  refine (List.map_congr_left (g := id) ?_).trans (List.map_id _)
  intro x hx
  have := hb x hx
  simp
  omega

end Go.Proofs.YtioibllopidilaaDoor
