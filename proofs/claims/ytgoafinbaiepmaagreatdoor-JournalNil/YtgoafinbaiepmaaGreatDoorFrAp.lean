/-
  Contracts: numbers are appended.
-/
import Derived.Test.YtgoafinbaiepmaaGreatDoorFrHg
namespace Go.Proofs.YtgoafinbaiepmaaGreatDoor.fr
open Go.RowKit
set_option maxRecDepth 100000

/-- A number in k bytes, the highest first. -/
def bigL (x k : Nat) : List Int := (List.range k).map fun i => ((x / 256 ^ (k - 1 - i) % 256 : Nat) : Int)
theorem bigL_len (x k : Nat) : (bigL x k).length = k := by simp [bigL]
theorem bigL_bytes (x k : Nat) : ByteL (bigL x k) := by
  intro y hy
  simp [bigL] at hy
  obtain ⟨i, _, rfl⟩ := hy
  omega
/-- The first j of them. -/
def bigJ (x k j : Nat) : List Int := (List.range j).map fun i => ((x / 256 ^ (k - 1 - i) % 256 : Nat) : Int)
theorem bigJ_succ (x k j : Nat) : bigJ x k (j + 1) = bigJ x k j ++ [((x / 256 ^ (k - 1 - j) % 256 : Nat) : Int)] := by simp [bigJ, List.range_succ]
theorem bigJ_len (x k j : Nat) : (bigJ x k j).length = j := by simp [bigJ]

theorem appendNumber_any (base : Nat) (v : Value) (L : List Int) (x k : Nat) (hk : k ≤ 8) (w : World) (h : w.ownsRow base 5 1 v L.length (L.map (Value.int .u8))) (hb : base ≤ w.heap.size) (hlen : L.length + k ≤ 140737488355328) :
    Calls Tryz.prog 119 #[v, .int .u64 (x : Int), .int .i64 (k : Int)] w fun e w' => ∃ v', e = .returned v' ∧ w'.ownsRow base 5 1 v' (L ++ bigL x k).length ((L ++ bigL x k).map (Value.int .u8)) ∧ Upd (fun j => v.ownBlock = some j) w w' ∧ Moved w v v' := by
  obtain ⟨i0, hi, hz0, hz1, hz2⟩ := info_parts Tryz.info5
  go_enter Tryz.func119, Tryz.ntmps119
  go_wp2
  go_loopw [0, 9] (fun a b wr => ∃ (j : Nat) (vr : Value), a = vr ∧ b = .int .i64 j ∧ j ≤ k ∧ wr.ownsRow base 5 1 vr (L ++ bigJ x k j).length ((L ++ bigJ x k j).map (Value.int .u8)) ∧ Upd (fun j => v.ownBlock = some j) w wr ∧ Moved w v vr) (fun _ b _ => k - (intOf b).toNat)
  case atStart => exact ⟨0, v, rfl, rfl, by omega, by simpa [bigJ] using h, Upd.refl _ _, Moved.refl _ _⟩
  case round =>
    obtain ⟨j, vr, rfl, rfl, hjk, hO, hU, hM⟩ := hrel
    have hsz := hU.size
    by_cases hlt : j < k
    · have hz : (j : Int) < (k : Int) := by omega
      obtain ⟨c, hc⟩ : ∃ c : Nat, k - 1 - j = c := ⟨_, rfl⟩
      have e1 : (k : Int) - 1 - (j : Int) = (c : Int) := by omega
      have ev : (x : Int) / 2 ^ (8 * c) % 256 = ((x / 256 ^ c % 256 : Nat) : Int) := by
        rw [show (2 : Int) ^ (8 * c) = ((2 ^ (8 * c) : Nat) : Int) by rw [Int.natCast_pow]; rfl, Nat.pow_mul, show (2 : Nat) ^ 8 = 256 by rfl, Int.natCast_emod, Int.natCast_ediv]
        rfl
      have HS : Hid (bigJ x k (j + 1) = bigJ x k j ++ [((x / 256 ^ c % 256 : Nat) : Int)]) := by rw [bigJ_succ, hc]; exact rfl
      have hll : (L ++ bigJ x k j).length = L.length + j := by simp [bigJ_len]
      generalize hLj : L ++ bigJ x k j = Lj at hO hll
      have HE : Hid ((x : Int) / 2 ^ (8 * c) % 256 = ((x / 256 ^ c % 256 : Nat) : Int)) := ev
      have HL : Hid (L ++ bigJ x k j = Lj) := hLj
      clear ev hLj hc
      go_wp2_with (at_builtin; refine wpList_app _ rfl (.tmp 12) (.tmp 21) 37 37 rfl base 5 i0 (.int .u8 0) 1 Tryz.underlying37 hi hz0 hz1 hz2 rfl _ _ _ rfl (hO.alloc _) _ 1 [.int .u8 ((x : Int) / 2 ^ (8 * c) % 256)] rfl (Src.ofSlice _ Tryz.underlying37 ⟨wr.heap.size, 0, none⟩ 1 1 _ rfl ?c1 ?c2) ?c3 ?c4 ?c5 ?_)
      case c1 =>
        intro j u hj
        match j, hj with
        | 0, hj => simp at hj; subst hj; simp [Addr.add]
      case c2 => intro u hu; simp at hu; subst hu; rfl
      case c3 => unfold maxLen; omega
      case c4 => omega
      case c5 => simp; omega
      intro v' w2 ho hg hm
      have u2 : Upd (fun j => v.ownBlock = some j) w w2 := (hU.alloc _).grown hg (fun i hi e => by
        rcases hM with m | ⟨i', m, hi'⟩
        · rw [← m]; exact e
        · rw [e] at m; simp at m; omega)
      have hm2 : Moved w v v' := hM.trans hsz ((Moved.refl wr _).trans (by simp) hm)
      clear hg hm
      go_wp2
      go_roundw
      case rel => exact ⟨j + 1, _, rfl, by go_num, by omega, by rw [HS.out, ← List.append_assoc, HL.out, ← HE.out]; simpa [hll] using ho, u2, hm2⟩
      case measure => simp [intOf]; omega
    · obtain rfl : j = k := by omega
      go_wp2
      go_ret
      exact ⟨_, rfl, hO, hU, hM⟩

/-- A sum's bytes, the lowest first. -/
def leL (s : Nat) : List Int := bigL (revN s) 4
theorem leL_len (s : Nat) : (leL s).length = 4 := bigL_len _ _
theorem appendSum_any (base : Nat) (v : Value) (L : List Int) (s : Nat) (hs : s < 4294967296) (w : World) (h : w.ownsRow base 5 1 v L.length (L.map (Value.int .u8))) (hb : base ≤ w.heap.size) (hlen : L.length + 4 ≤ 140737488355328) :
    Calls Tryz.prog 120 #[v, .int .u32 (s : Int)] w fun e w' => ∃ v', e = .returned v' ∧ w'.ownsRow base 5 1 v' (L ++ leL s).length ((L ++ leL s).map (Value.int .u8)) ∧ Upd (fun j => v.ownBlock = some j) w w' ∧ Moved w v v' := by
  have R := reverse_any s hs w
  have hr := rev_lt s hs
  unfold leL
  generalize revN s = r at R hr ⊢
  have A := appendNumber_any base v L r 4 (by omega) w h hb hlen
  have e1 : (r : Int) % 18446744073709551616 = r := by omega
  obtain ⟨ao, l, c, rfl⟩ := row_shape h
  go_enter Tryz.func120, Tryz.ntmps120
  go_wp2_with (first
    | (go_at_call 171; refine R.mono ?_; rintro e w' ⟨rfl, hw⟩; obtain rfl := hw.symm)
    | (go_at_call 119; refine A.mono ?_; rintro e w' ⟨v', rfl, q1, q2, q3⟩; obtain ⟨ao', l', c', rfl⟩ := row_shape q1))
  go_ret
  exact ⟨_, rfl, q1, q2, q3⟩
end Go.Proofs.YtgoafinbaiepmaaGreatDoor.fr