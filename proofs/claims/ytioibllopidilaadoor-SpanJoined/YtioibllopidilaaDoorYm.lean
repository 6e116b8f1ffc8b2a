/-
  Plain mathematics of span: what is encoded is decoded; what is decoded has just these bytes.
-/
import Derived.Test.YtioibllopidilaaDoorWm
import Derived.Test.YtioibllopidilaaDoorZy
import Derived.Test.YtioibllopidilaaDoorZj
namespace Go.Proofs.YtioibllopidilaaDoor
open Go.Shelf Go.RowKit
set_option maxRecDepth 100000

theorem drop_app {K A B : List Int} {t : Nat} (h : K.drop t = A ++ B) : K.drop (t + A.length) = B := by
  rw [← List.drop_drop, h, List.drop_left]
theorem uintP_back {K rest : List Int} {t u : Nat} (h : K.drop t = encN u ++ rest) (hu : u < 18446744073709551616) : uintP K (some t) = ((u : Int), some (t + (encN u).length)) := by
  unfold uintP; simp only; rw [h, scan_enc u rest hu]
theorem uintP_one {K : List Int} {t t' : Nat} {v : Int} (hK : ∀ x ∈ K, 0 ≤ x ∧ x < 256) (h : uintP K (some t) = (v, some t')) : 0 ≤ v ∧ K.drop t = encN v.toNat ++ K.drop t' := by
  unfold uintP at h
  simp only at h
  have hf := scan_form (K.drop t) 0 0
  generalize hr : scanN (K.drop t) 0 0 = r at h hf
  cases r using NumRes.each with
  | ok v0 n =>
    simp at h
    obtain ⟨rfl, rfl⟩ := h
    obtain ⟨u, h1, _, h3⟩ := hf v0 n (fun x hx => hK x (List.mem_of_mem_drop hx)) rfl
    have hu : v0 = u := by simpa using h1
    subst hu
    refine ⟨by omega, ?_⟩
    rw [show ((v0 : Int)).toNat = v0 by omega, ← h3, Nat.sub_zero, ← List.drop_drop, List.take_append_drop]
  | form => simp at h
  | ended => simp at h
theorem intP_back {K rest : List Int} {t : Nat} {x : Int} (h0 : -9223372036854775808 ≤ x) (h1 : x ≤ 9223372036854775807) (h : K.drop t = encN (zigI x).toNat ++ rest) : intP K (some t) = (x, some (t + (encN (zigI x).toNat).length)) := by
  have z0 := zig_lo x
  have z1 := zig_hi x h0 h1
  unfold intP; simp only; rw [h, scan_enc _ rest (by omega)]
  simp only
  rw [show (((zigI x).toNat : Nat) : Int) = zigI x by omega, zag_zig]
theorem intP_one {K : List Int} {t t' : Nat} {v : Int} (hK : ∀ x ∈ K, 0 ≤ x ∧ x < 256) (h : intP K (some t) = (v, some t')) : K.drop t = encN (zigI v).toNat ++ K.drop t' := by
  unfold intP at h
  simp only at h
  have hf := scan_form (K.drop t) 0 0
  generalize hr : scanN (K.drop t) 0 0 = r at h hf
  cases r using NumRes.each with
  | ok v0 n =>
    simp at h
    obtain ⟨rfl, rfl⟩ := h
    obtain ⟨u, h1, _, h3⟩ := hf v0 n (fun x hx => hK x (List.mem_of_mem_drop hx)) rfl
    have hu : v0 = u := by simpa using h1
    subst hu
    rw [zig_zag _ (by omega), show ((v0 : Int)).toNat = v0 by omega, ← h3, Nat.sub_zero, ← List.drop_drop, List.take_append_drop]
  | form => simp at h
  | ended => simp at h
theorem raw_y (x : Int) : ∀ i : Nat, x / 256 ^ (i + 1) = x / 256 ^ i / 256 := by
  intro i
  rw [Int.pow_succ, Int.ediv_ediv_of_nonneg (by apply Int.pow_nonneg; decide)]
theorem unraw_raw (x : Int) (h0 : 0 ≤ x) (h1 : x < 18446744073709551616) : unrawL (rawL x) = x := by
  have y1 := raw_y x 0
  have y2 := raw_y x 1
  have y3 := raw_y x 2
  have y4 := raw_y x 3
  have y5 := raw_y x 4
  have y6 := raw_y x 5
  have y7 := raw_y x 6
  simp only [rawL, rawK, rawA, unrawL, List.foldl_cons, List.foldl_nil]
  simp only [show (7:Nat) < 8 by decide, show (6:Nat) < 8 by decide, show (5:Nat) < 8 by decide, show (4:Nat) < 8 by decide, show (3:Nat) < 8 by decide, show (2:Nat) < 8 by decide, show (1:Nat) < 8 by decide, show (0:Nat) < 8 by decide, if_true]
  simp only [Nat.zero_add, Int.pow_zero, Int.ediv_one] at *
  generalize x / 256 ^ 1 = a1 at *
  generalize x / 256 ^ 2 = a2 at *
  generalize x / 256 ^ 3 = a3 at *
  generalize x / 256 ^ 4 = a4 at *
  generalize x / 256 ^ 5 = a5 at *
  generalize x / 256 ^ 6 = a6 at *
  generalize x / 256 ^ 7 = a7 at *
  omega
theorem raw_unraw (l : List Int) (hl : l.length = 8) (hb : ∀ x ∈ l, 0 ≤ x ∧ x < 256) : rawL (unrawL l) = l := by
  match l, hl with
  | [b7, b6, b5, b4, b3, b2, b1, b0], _ =>
    have k7 := hb b7 (by simp)
    have k6 := hb b6 (by simp)
    have k5 := hb b5 (by simp)
    have k4 := hb b4 (by simp)
    have k3 := hb b3 (by simp)
    have k2 := hb b2 (by simp)
    have k1 := hb b1 (by simp)
    have k0 := hb b0 (by simp)
    obtain ⟨x, hx⟩ : ∃ x, unrawL [b7, b6, b5, b4, b3, b2, b1, b0] = x := ⟨_, rfl⟩
    rw [hx]
    simp only [unrawL, List.foldl_cons, List.foldl_nil] at hx
    have y1 := raw_y x 0
    have y2 := raw_y x 1
    have y3 := raw_y x 2
    have y4 := raw_y x 3
    have y5 := raw_y x 4
    have y6 := raw_y x 5
    have y7 := raw_y x 6
    simp only [rawL, rawK, rawA]
    simp only [show (7:Nat) < 8 by decide, show (6:Nat) < 8 by decide, show (5:Nat) < 8 by decide, show (4:Nat) < 8 by decide, show (3:Nat) < 8 by decide, show (2:Nat) < 8 by decide, show (1:Nat) < 8 by decide, show (0:Nat) < 8 by decide, if_true]
    simp only [Nat.zero_add, Int.pow_zero, Int.ediv_one] at *
    generalize x / 256 ^ 1 = a1 at *
    generalize x / 256 ^ 2 = a2 at *
    generalize x / 256 ^ 3 = a3 at *
    generalize x / 256 ^ 4 = a4 at *
    generalize x / 256 ^ 5 = a5 at *
    generalize x / 256 ^ 6 = a6 at *
    generalize x / 256 ^ 7 = a7 at *
    have e1 : a1 = (((((b7 * 256 + b6) * 256 + b5) * 256 + b4) * 256 + b3) * 256 + b2) * 256 + b1 := by omega
    have e2 : a2 = ((((b7 * 256 + b6) * 256 + b5) * 256 + b4) * 256 + b3) * 256 + b2 := by omega
    have e3 : a3 = (((b7 * 256 + b6) * 256 + b5) * 256 + b4) * 256 + b3 := by omega
    have e4 : a4 = ((b7 * 256 + b6) * 256 + b5) * 256 + b4 := by omega
    have e5 : a5 = (b7 * 256 + b6) * 256 + b5 := by omega
    have e6 : a6 = b7 * 256 + b6 := by omega
    have e7 : a7 = b7 := by omega
    rw [show a7 % 256 = b7 by omega, show a6 % 256 = b6 by omega, show a5 % 256 = b5 by omega, show a4 % 256 = b4 by omega, show a3 % 256 = b3 by omega, show a2 % 256 = b2 by omega, show a1 % 256 = b1 by omega, show x % 256 = b0 by omega]
theorem rawP_back {K rest : List Int} {t : Nat} {x : Int} (h0 : 0 ≤ x) (h1 : x < 18446744073709551616) (h : K.drop t = rawL x ++ rest) : rawP K (some t) = (x, some (t + (rawL x).length)) := by
  have hl : t + 8 ≤ K.length := by
    have := congrArg List.length h
    simp [rawL_len] at this
    omega
  unfold rawP; simp only; rw [if_pos hl, h, List.take_append_of_le_length (by rw [rawL_len]; omega), List.take_of_length_le (by rw [rawL_len]; omega), unraw_raw x h0 h1]
  rfl
theorem rawP_one {K : List Int} {t t' : Nat} {v : Int} (hK : ∀ x ∈ K, 0 ≤ x ∧ x < 256) (h : rawP K (some t) = (v, some t')) : K.drop t = rawL v ++ K.drop t' := by
  unfold rawP at h
  simp only at h
  split at h
  · simp at h
    obtain ⟨rfl, rfl⟩ := h
    rw [raw_unraw _ (by simp; omega) (fun x hx => hK x (List.mem_of_mem_drop (List.mem_of_mem_take hx))), ← List.drop_drop, List.take_append_drop]
  · simp at h
theorem textP_back {K rest : List Int} {t : Nat} {most : Int} {s : ByteArray} (hm : (s.size : Int) ≤ most) (hu : endL (bytesI s) = s.size) (hs : s.size < 18446744073709551616) (h : K.drop t = textL s ++ rest) : textP K most (some t) = (s, some (t + (textL s).length)) := by
  have hl := bytesI_length s
  unfold textL at h
  rw [List.append_assoc] at h
  have h2 := drop_app h
  have hlen : t + (encN s.size).length + s.size ≤ K.length := by
    have := congrArg List.length h
    have hp := encN_pos s.size
    simp [hl] at this
    omega
  have htk : (K.drop (t + (encN s.size).length)).take s.size = bytesI s := by
    rw [h2, List.take_append_of_le_length (by omega), List.take_of_length_le (by omega)]
  have hR : textR K t most = .ok (t + (encN s.size).length) s.size := by
    unfold textR
    rw [if_neg (by omega), h, scan_enc _ _ hs]
    simp only
    rw [if_neg (by omega), if_neg (by omega), htk, hu, if_neg (by omega)]
  unfold textP; simp only; rw [hR]; simp only; rw [htk, strI_bytesI]
  simp [textL, hl, Nat.add_assoc]
theorem textP_one {K : List Int} {t t' : Nat} {most : Int} {s : ByteArray} (hK : ∀ x ∈ K, 0 ≤ x ∧ x < 256) (h : textP K most (some t) = (s, some t')) : K.drop t = textL s ++ K.drop t' := by
  unfold textP at h
  simp only at h
  generalize hr : textR K t most = r at h
  cases r using TxtRes.each with
  | ok f v =>
    simp at h
    obtain ⟨rfl, rfl⟩ := h
    obtain ⟨n, h1, rfl, h3⟩ := textR_ok K t most f v hr
    obtain ⟨u, k1, _, k3⟩ := scan_form (K.drop t) 0 0 v n (fun x hx => hK x (List.mem_of_mem_drop hx)) h1
    have hu : v = u := by simpa using k1
    subst hu
    have hby : ∀ x ∈ (K.drop (t + n)).take v, 0 ≤ x ∧ x < 256 := fun x hx => hK x (List.mem_of_mem_drop (List.mem_of_mem_take hx))
    have e1 := bytesI_strI _ hby
    have e2 : (strI ((K.drop (t + n)).take v)).size = v := by rw [strI_size]; simp; omega
    unfold textL
    have d1 : K.drop (t + n) = (K.drop t).drop n := by rw [List.drop_drop]
    have d2 : K.drop (t + n + v) = ((K.drop t).drop n).drop v := by rw [List.drop_drop, List.drop_drop, Nat.add_assoc]
    rw [e1, e2, ← k3, Nat.sub_zero, List.append_assoc, d1, d2, List.take_append_drop, List.take_append_drop]
  | bad a n => simp at h
theorem textP_size (K : List Int) (most : Int) (s : Option Nat) : (textP K most s).1.size ≤ K.length := by
  cases s with
  | none => simp [textP]
  | some t =>
    unfold textP
    simp only
    generalize textR K t most = r
    cases r using TxtRes.each with
    | ok f v => simp only [strI_size]; simp; omega
    | bad a n => simp
theorem smallP_back {K rest : List Int} {t u : Nat} (h : K.drop t = encN u ++ rest) (hu : u ≤ 2147483647) : smallP K (some t) = ((u : Int), some (t + (encN u).length)) := by
  unfold smallP; rw [uintP_back h (by omega)]; simp; omega
theorem smallP_one {K : List Int} {t t' : Nat} {v : Int} (hK : ∀ x ∈ K, 0 ≤ x ∧ x < 256) (h : smallP K (some t) = (v, some t')) (hv : v ≤ 100) : K.drop t = encN v.toNat ++ K.drop t' := by
  unfold smallP at h
  simp only [Prod.mk.injEq] at h
  obtain ⟨h1, h2⟩ := h
  have := uintP_one (v := (uintP K (some t)).1) (t' := t') hK (Prod.ext rfl h2)
  rw [show (uintP K (some t)).1 = v by omega] at this
  exact this.2
theorem momP_back {K rest : List Int} {t u : Nat} (h : K.drop t = encN u ++ rest) (hu : u ≤ 4611686018427387904) : momP K (some t) = ((u : Int), some (t + (encN u).length)) := by
  unfold momP; rw [uintP_back h (by omega)]; simp; omega
theorem momP_one {K : List Int} {t t' : Nat} {v : Int} (hK : ∀ x ∈ K, 0 ≤ x ∧ x < 256) (h : momP K (some t) = (v, some t')) (hv : v ≤ 4611686018427387904) : K.drop t = encN v.toNat ++ K.drop t' := by
  unfold momP at h
  simp only [Prod.mk.injEq] at h
  obtain ⟨h1, h2⟩ := h
  have := uintP_one (v := (uintP K (some t)).1) (t' := t') hK (Prod.ext rfl h2)
  rw [show (uintP K (some t)).1 = v by omega] at this
  exact this.2
theorem countP_back {K rest : List Int} {t u most : Nat} (h : K.drop t = encN u ++ rest) (hu : u ≤ most) (hm : most ≤ 1000) : countP K most (some t) = (u, some (t + (encN u).length)) := by
  unfold countP; rw [uintP_back h (by omega), if_neg (by simp; omega)]; simp
theorem countP_one {K : List Int} {t t' most n : Nat} (hK : ∀ x ∈ K, 0 ≤ x ∧ x < 256) (h : countP K most (some t) = (n, some t')) : K.drop t = encN n ++ K.drop t' := by
  unfold countP at h
  split at h
  · simp at h
  · simp only [Prod.mk.injEq] at h
    obtain ⟨h1, h2⟩ := h
    have := uintP_one (v := (uintP K (some t)).1) (t' := t') hK (Prod.ext rfl h2)
    rw [h1] at this
    exact this.2
theorem iterS_cons {α : Type} (f : Option Nat → α × Option Nat) (k : Nat) : ∀ s, iterS f (k + 1) s = ((f s).1 :: (iterS f k (f s).2).1, (iterS f k (f s).2).2) := by
  induction k with
  | zero => intro s; rfl
  | succ k ih => intro s; rw [iterS, ih s]; rfl
theorem iter_back {α : Type} {f : Option Nat → α × Option Nat} {enc : α → List Int} {K : List Int} {ok : α → Prop} (hf : ∀ t x rest, ok x → K.drop t = enc x ++ rest → f (some t) = (x, some (t + (enc x).length))) :
    ∀ (X : List α) (t : Nat) (rest : List Int), (∀ x ∈ X, ok x) → K.drop t = catL enc X ++ rest → iterS f X.length (some t) = (X, some (t + (catL enc X).length)) := by
  intro X
  induction X with
  | nil => intro t rest _ _; simp [iterS, catL]
  | cons x r ih =>
    intro t rest hok h
    simp only [catL, List.append_assoc] at h
    have h1 := hf t x _ (hok x (by simp)) h
    rw [List.length_cons, iterS_cons, h1]
    simp only
    rw [ih (t + (enc x).length) rest (fun y hy => hok y (by simp [hy])) (drop_app h)]
    simp [catL, Nat.add_assoc]
theorem iter_none {α : Type} {f : Option Nat → α × Option Nat} (h0 : (f none).2 = none) : ∀ n, (iterS f n none).2 = none := by
  intro n
  induction n with
  | zero => rfl
  | succ n ih => rw [iterS]; simp only; rw [ih]; exact h0
theorem iter_one {α : Type} {f : Option Nat → α × Option Nat} {enc : α → List Int} {K : List Int} {ok : α → Prop} (h0 : (f none).2 = none) (hf : ∀ t x t', f (some t) = (x, some t') → ok x → K.drop t = enc x ++ K.drop t') :
    ∀ (n t : Nat) (X : List α) (t' : Nat), iterS f n (some t) = (X, some t') → (∀ x ∈ X, ok x) → K.drop t = catL enc X ++ K.drop t' := by
  intro n
  induction n with
  | zero => intro t X t' h _; simp [iterS] at h; obtain ⟨rfl, rfl⟩ := h; simp [catL]
  | succ n ih =>
    intro t X t' h hok
    rw [iterS_cons] at h
    simp only [Prod.mk.injEq] at h
    obtain ⟨rfl, h2⟩ := h
    cases hs : (f (some t)).2 with
    | none => rw [hs, iter_none h0] at h2; simp at h2
    | some t1 =>
      rw [hs] at h2 hok
      have k1 := hf t (f (some t)).1 t1 (Prod.ext rfl hs) (hok _ (by simp))
      have k2 := ih t1 (iterS f n (some t1)).1 t' (Prod.ext rfl h2) (fun x hx => hok x (by simp [hx]))
      rw [k1, k2]
      simp [catL]
theorem iter_all {α : Type} {f : Option Nat → α × Option Nat} {ok : α → Prop} (hf : ∀ s, ok (f s).1) : ∀ n s, ∀ x ∈ (iterS f n s).1, ok x := by
  intro n
  induction n with
  | zero => intro s x hx; simp [iterS] at hx
  | succ n ih =>
    intro s x hx
    simp only [iterS, List.mem_append, List.mem_singleton] at hx
    rcases hx with hx | rfl
    · exact ih s x hx
    · exact hf _
end Go.Proofs.YtioibllopidilaaDoor
