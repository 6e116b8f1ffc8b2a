/-
  Layer 7 (disk), DiskLasts: what is kept of appended bytes; the names that last.
-/
import Derived.Test.YtgoafinbaiepmaaGreatDoorDz
namespace Go.Proofs.YtgoafinbaiepmaaGreatDoor
open Go.RowKit Go.Shelf Go.Maps Go.WideMaps
set_option maxRecDepth 100000

theorem on_zero (s : St) (L : List Int) : s.on L 0 = L := by simp [St.on]
theorem firstOn_zero : ∀ (S : List St) (L : List Int), firstOn L S 0 = L
  | [], _ => rfl
  | s :: r, L => by
    show firstOn (s.on L 0) r (0 - min 0 s.units) = L
    rw [on_zero, Nat.zero_sub]
    exact firstOn_zero r L
theorem allOn_pre : ∀ (S : List St) (L : List Int), (∀ s ∈ S, s.cut = false) → ∃ T, allOn L S = L ++ T
  | [], L, _ => ⟨[], by simp [allOn]⟩
  | s :: r, L, h => by
    have hc := h s (by simp)
    have e : ∃ X, s.on L s.units = L ++ X := by
      unfold St.on
      split
      · exact ⟨[], by simp⟩
      · rw [hc]; exact ⟨_, rfl⟩
    obtain ⟨X, hX⟩ := e
    obtain ⟨T, hT⟩ := allOn_pre r (s.on L s.units) (fun t ht => h t (by simp [ht]))
    refine ⟨X ++ T, ?_⟩
    show allOn (s.on L s.units) r = _
    rw [hT, hX, List.append_assoc]
/-- Of appended bytes a beginning is kept, as long as is said. -/
theorem firstOn_app : ∀ (S : List St) (L : List Int) (u : Nat), Legal L S → (∀ s ∈ S, s.cut = false) → firstOn L S u = (allOn L S).take (L.length + u)
  | [], L, u, _, _ => by
    show L = L.take _
    rw [List.take_of_length_le (by omega)]
  | s :: r, L, u, hl, h => by
    have hc := h s (by simp)
    have hr : ∀ t ∈ r, t.cut = false := fun t ht => h t (by simp [ht])
    obtain ⟨hk, hp⟩ := hl.2.1 hc
    have hu : s.units = s.n := by simp [St.units, hc]
    have hall : s.on L s.units = L ++ s.K := by
      unfold St.on
      rw [hu, if_neg (by omega), hc]
      simp only [Bool.false_eq_true, if_false, Nat.min_self]
      rw [List.take_of_length_le (by omega)]
    show firstOn (s.on L u) r (u - min u s.units) = (allOn (s.on L s.units) r).take (L.length + u)
    have hlr := hl.2.2
    rw [hu] at hlr hall ⊢
    rw [hall] at hlr
    by_cases hun : s.n ≤ u
    · have e : s.on L u = L ++ s.K := by
        unfold St.on
        rw [if_neg (by omega), hc]
        simp only [Bool.false_eq_true, if_false]
        rw [Nat.min_eq_right hun, List.take_of_length_le (by omega)]
      have := firstOn_app r (L ++ s.K) (u - min u s.n) hlr hr
      rw [e, this, hall]
      congr 1
      rw [List.length_append]
      omega
    · have e : s.on L u = L ++ s.K.take u := by
        unfold St.on
        by_cases h0 : u = 0
        · rw [if_pos h0, h0]; simp
        · rw [if_neg h0, hc]
          simp only [Bool.false_eq_true, if_false]
          rw [Nat.min_eq_left (by omega)]
      have e0 : u - min u s.n = 0 := by omega
      rw [e0, firstOn_zero, e, hall]
      obtain ⟨T, hT⟩ := allOn_pre r (L ++ s.K) hr
      rw [hT, List.append_assoc, List.take_append, List.take_of_length_le (by omega : L.length ≤ L.length + u), Nat.add_sub_cancel_left, List.take_append_of_le_length (by omega)]
theorem unitsA : ∀ (S : List St) (L : List Int), Legal L S → (∀ s ∈ S, s.cut = false) → L.length + unitsL S = (allOn L S).length
  | [], L, _, _ => by simp [unitsL, allOn]
  | s :: r, L, hl, h => by
    have hc := h s (by simp)
    have hr : ∀ t ∈ r, t.cut = false := fun t ht => h t (by simp [ht])
    obtain ⟨hk, hp⟩ := hl.2.1 hc
    have hu : s.units = s.n := by simp [St.units, hc]
    have hall : s.on L s.units = L ++ s.K := by
      unfold St.on
      rw [hu, if_neg (by omega), hc]
      simp only [Bool.false_eq_true, if_false, Nat.min_self]
      rw [List.take_of_length_le (by omega)]
    have hlr := hl.2.2
    rw [hall] at hlr
    have := unitsA r (L ++ s.K) hlr hr
    show _ = (allOn (s.on L s.units) r).length
    rw [hall, ← this, List.length_append]
    have e : unitsL (s :: r) = s.units + unitsL r := by simp [unitsL]
    omega
/-- What a file has: bytes that were appended alone, of which the first s last. -/
structure FilB (F : Fl) (B : List Int) (s : Nat) : Prop where
  bytes : F.B = B
  lasts : F.L = B.take s
  le : s ≤ B.length
  app : ∀ t ∈ F.S, t.cut = false
theorem FilB.first {base : Nat} {w : World} {f : Nat} {F : Fl} {B : List Int} {s : Nat} (h : FilB F B s) (hf : FileAt base w f F) (u : Nat) : firstOn F.L F.S u = B.take (s + u) := by
  rw [firstOn_app F.S F.L u hf.legal h.app, ← hf.sum, h.bytes, h.lasts, List.length_take, Nat.min_eq_left h.le]
theorem FilB.units {base : Nat} {w : World} {f : Nat} {F : Fl} {B : List Int} {s : Nat} (h : FilB F B s) (hf : FileAt base w f F) : F.L.length + unitsL F.S = B.length := by
  rw [unitsA F.S F.L hf.legal h.app, ← hf.sum, h.bytes]
/-- The names of files from a on, b of them. -/
def nmL (nm : Nat → ByteArray) (a b : Nat) : List (ByteArray × Nat) := (List.range' a b).map fun i => (nm i, i)
theorem nmL_len (nm : Nat → ByteArray) (a b : Nat) : (nmL nm a b).length = b := by simp [nmL]
theorem nmL_succ (nm : Nat → ByteArray) (a b : Nat) : nmL nm a (b + 1) = nmL nm a b ++ [(nm (a + b), a + b)] := by
  unfold nmL
  rw [List.range'_concat]
  simp
theorem putL_app (D : DataW Unit) (L M : List (ByteArray × Nat)) : putL D (L ++ M) = putL (putL D L) M := by
  unfold putL
  rw [List.foldl_append]
theorem nmL_add (nm : Nat → ByteArray) (a b k : Nat) : nmL nm a (b + k) = nmL nm a b ++ nmL nm (a + b) k := by
  unfold nmL
  rw [← List.map_append, List.range'_append_1]
theorem nmL_take (nm : Nat → ByteArray) (a b k : Nat) (h : k ≤ b) : (nmL nm a b).take k = nmL nm a k := by
  obtain ⟨c, rfl⟩ := Nat.exists_eq_add_of_le h
  rw [nmL_add, List.take_append_of_le_length (by rw [nmL_len]; exact Nat.le_refl _), List.take_of_length_le (by rw [nmL_len]; exact Nat.le_refl _)]
/-- Names that may be, one unlike the other. -/
structure Nms (nm : Nat → ByteArray) (n : Nat) : Prop where
  inj : ∀ i j : Nat, i < n → j < n → j ≠ i → (nm j).data.toList ≠ (nm i).data.toList
  small : ∀ i : Nat, i < n → (nm i).size ≤ 140737488355328
theorem isMap_putL (L : List (ByteArray × Nat)) : ∀ (D : DataW Unit), IsMap D → IsMap (putL D L) := by
  induction L with
  | nil => exact fun D h => h
  | cons p r ih =>
    intro D h
    refine ih _ ?_
    obtain ⟨es, rfl⟩ := h
    exact ⟨_, rfl⟩
theorem keyLit (s : ByteArray) (hs : s.size ≤ 140737488355328) : WideAt.IsKeyLit (.string s.data.toList) := law_s.key (keyS s hs)
theorem putL_has (nm : Nat → ByteArray) (n : Nat) (hn : Nms nm n) : ∀ m : Nat, m ≤ n → (∀ i : Nat, i < m → Maps.has (putL (.map []) (nmL nm 0 m)) (.string (nm i).data.toList) = true ∧ (putL (.map []) (nmL nm 0 m)).atKey (.string (nm i).data.toList) (.lit (.int .i64 0)) = .lit (.int .i64 (i : Int))) ∧ (∀ kl, Maps.has (putL (.map []) (nmL nm 0 m)) kl = true → ∃ i : Nat, i < m ∧ kl = .string (nm i).data.toList) ∧ Tidy (putL (.map []) (nmL nm 0 m)) ∧ Maps.size (putL (.map []) (nmL nm 0 m)) = m
  | 0, _ => ⟨fun i hi => by omega, fun kl h => by simp [nmL, putL, Maps.has] at h, tidy_empty, rfl⟩
  | m + 1, hm => by
    obtain ⟨h1, h2, h3, h4⟩ := putL_has nm n hn m (by omega)
    have hk := keyLit (nm m) (hn.small m (by omega))
    have hno : Maps.has (putL (.map []) (nmL nm 0 m)) (.string (nm m).data.toList) = false := by
      cases e : Maps.has (putL (.map []) (nmL nm 0 m)) (.string (nm m).data.toList) with
      | false => rfl
      | true =>
        obtain ⟨i, hi, he⟩ := h2 _ e
        simp at he
        exact absurd (congrArg Array.toList he) (hn.inj i m (by omega) (by omega) (by omega))
    rw [nmL_succ, Nat.zero_add, putL_snoc]
    refine ⟨fun i hi => ?_, fun kl h => ?_, h3.put hk _, ?_⟩
    · by_cases him : i = m
      · subst him
        exact ⟨has_put_same h3.isMap hk _, atKey_put_same h3.isMap hk _ _⟩
      · have hne : (Lit.string (nm i).data.toList) ≠ .string (nm m).data.toList := fun e => hn.inj m i (by omega) (by omega) him (by injection e)
        obtain ⟨q1, q2⟩ := h1 i (by omega)
        exact ⟨(has_put_other hne _).trans q1, (atKey_put_other hne _ _).trans q2⟩
    · by_cases hkl : kl = .string (nm m).data.toList
      · exact ⟨m, by omega, hkl⟩
      · rw [has_put_other hkl] at h
        obtain ⟨i, hi, he⟩ := h2 kl h
        exact ⟨i, by omega, he⟩
    · rw [size_put h3, hno, h4]
      simp
theorem lasting_of (nm : Nat → ByteArray) (n : Nat) (hn : Nms nm n) (m : Nat) (hm : m ≤ n) : Lasting nm m (putL (.map []) (nmL nm 0 m)) :=
  ⟨(putL_has nm n hn m hm).1, (putL_has nm n hn m hm).2.1, fun i j hi hj hji => hn.inj i j (by omega) (by omega) hji⟩
end Go.Proofs.YtgoafinbaiepmaaGreatDoor
