/-
  Contracts: the reference's big, small, told.
-/
import Derived.Test.YtkfefebjciolcaaMk
import Derived.Test.YtkfefebjciolcaaSc
import Derived.Test.YtkfefebjciolcaaRg
namespace Go.Proofs.Ytkfefebjciolcaa
open Go.RowKit
set_option maxRecDepth 100000

theorem refBig_any (base : Nat) (v : Value) (L : List Int) (x k : Nat) (hk : k ≤ 8) (w : World) (h : w.ownsRow base 5 1 v L.length (L.map (Value.int .u8))) (hb : base ≤ w.heap.size) (hlen : L.length + k ≤ 140737488355328) :
    Calls Try.prog 25 #[v, .int .u64 (x : Int), .int .i64 (k : Int)] w fun e w' => ∃ v', e = .returned v' ∧ w'.ownsRow base 5 1 v' (L ++ bigL x k).length ((L ++ bigL x k).map (Value.int .u8)) ∧ Upd (fun j => v.ownBlock = some j) w w' ∧ Moved w v v' := by
  obtain ⟨i0, hi, hz0, hz1, hz2⟩ := info_parts Try.info5
  go_enter Try.func25, Try.ntmps25
  go_wp2
  go_loopw [0, 7] (fun a b wr => ∃ (j : Nat) (vr : Value), a = vr ∧ b = .int .i64 ((k : Int) - 1 - (j : Int)) ∧ j ≤ k ∧ wr.ownsRow base 5 1 vr (L ++ bigJ x k j).length ((L ++ bigJ x k j).map (Value.int .u8)) ∧ Upd (fun j => v.ownBlock = some j) w wr ∧ Moved w v vr) (fun _ b _ => (intOf b + 1).toNat)
  case atStart => exact ⟨0, v, rfl, by go_num, by omega, by simpa [bigJ] using h, Upd.refl _ _, Moved.refl _ _⟩
  case round =>
    obtain ⟨j, vr, hvr, rfl, hjk, hO, hU, hM⟩ := hrel
    subst hvr
    have hsz := hU.size
    by_cases hlt : j < k
    · obtain ⟨c, hc⟩ : ∃ c : Nat, k - 1 - j = c := ⟨_, rfl⟩
      have e1 : (k : Int) - 1 - (j : Int) = (c : Int) := by omega
      have ec : c + j + 1 = k := by omega
      have ev : (x : Int) / 2 ^ (8 * c) % 256 = ((x / 256 ^ c % 256 : Nat) : Int) := by
        rw [show (2 : Int) ^ (8 * c) = ((2 ^ (8 * c) : Nat) : Int) by rw [Int.natCast_pow]; rfl, Nat.pow_mul, show (2 : Nat) ^ 8 = 256 by rfl, Int.natCast_emod, Int.natCast_ediv]
        rfl
      have HS : Hid (bigJ x k (j + 1) = bigJ x k j ++ [((x / 256 ^ c % 256 : Nat) : Int)]) := by rw [bigJ_succ, hc]; exact rfl
      have hll : (L ++ bigJ x k j).length = L.length + j := by simp [bigJ_len]
      generalize hLj : L ++ bigJ x k j = Lj at hO hll
      have HE : Hid ((x : Int) / 2 ^ (8 * c) % 256 = ((x / 256 ^ c % 256 : Nat) : Int)) := ev
      have HL : Hid (L ++ bigJ x k j = Lj) := hLj
      have HC : Hid (c + j + 1 = k) := ec
      have hck : (c : Int) ≤ 7 := by omega
      rw [e1]
      clear ev hLj hc e1 ec
      go_wp2_with (at_builtin; refine wpList_app _ rfl (.tmp 14) (.tmp 20) 23 23 rfl base 5 i0 (.int .u8 0) 1 Try.underlying23 hi hz0 hz1 hz2 rfl _ _ _ rfl (hO.alloc _) _ 1 [.int .u8 ((x : Int) / 2 ^ (8 * c) % 256)] rfl (Src.ofSlice _ Try.underlying23 ⟨wr.heap.size, 0, none⟩ 1 1 _ rfl ?c1 ?c2) ?c3 ?c4 ?c5 ?_)
      case c1 =>
        intro j u hj
        match j, hj with
        | 0, hj => simp at hj; subst hj; simp [Addr.add]
      case c2 => intro u hu; simp at hu; subst hu; rfl
      case c3 => unfold maxLen; omega
      case c4 => omega
      case c5 => simp; omega
      intro v' w2 ho hg hm
      have u2 : Upd (fun j => v.ownBlock = some j) w w2 := (hU.alloc _).grown hg (fun i hi e => by
        rcases hM with m | ⟨i', m, hi'⟩
        · rw [← m]; exact e
        · rw [e] at m; simp at m; omega)
      have hm2 : Moved w v v' := hM.trans hsz ((Moved.refl wr _).trans (by simp) hm)
      clear hg hm
      go_wp2
      go_roundw
      case rel => exact ⟨j + 1, _, rfl, by have := HC.out; congr 1; omega, by omega, by rw [HS.out, ← List.append_assoc, HL.out, ← HE.out]; simpa [hll] using ho, u2, hm2⟩
      case measure => simp [intOf]
    · obtain rfl : j = k := by omega
      have hneg : ¬ ((0 : Int) ≤ (j : Int) - 1 - (j : Int)) := by omega
      have hO2 : wr.ownsRow base 5 1 _ (L ++ bigL x j).length ((L ++ bigL x j).map (Value.int .u8)) := hO
      go_wp2
      go_ret
      exact ⟨_, rfl, by simpa using hO2, hU, hM⟩

/-- The first j bytes of a sum, the lowest first. -/
def smJ (s j : Nat) : List Int := (List.range j).map fun i => ((s / 256 ^ i % 256 : Nat) : Int)
theorem smJ_succ (s j : Nat) : smJ s (j + 1) = smJ s j ++ [((s / 256 ^ j % 256 : Nat) : Int)] := by simp [smJ, List.range_succ]
theorem dig (a b c d : Nat) (ha : a < 256) (hb : b < 256) (hc : c < 256) (hd : d < 256) : (a + 256 * b + 65536 * c + 16777216 * d) % 256 = a ∧ (a + 256 * b + 65536 * c + 16777216 * d) / 256 % 256 = b ∧ (a + 256 * b + 65536 * c + 16777216 * d) / 65536 % 256 = c ∧ (a + 256 * b + 65536 * c + 16777216 * d) / 16777216 = d ∧ d % 256 = d :=
  ⟨by omega, by omega, by omega, by omega, by omega⟩
theorem smJ_len (s j : Nat) : (smJ s j).length = j := by simp [smJ]
theorem smJ_le (s : Nat) (hs : s < 4294967296) : smJ s 4 = leL s := by
  obtain ⟨a, b, c, d, ha, hb, hc, hd, rfl⟩ : ∃ a b c d, a < 256 ∧ b < 256 ∧ c < 256 ∧ d < 256 ∧ s = a + 256 * b + 65536 * c + 16777216 * d :=
    ⟨s % 256, s / 256 % 256, s / 65536 % 256, s / 16777216, by omega, by omega, by omega, by omega, by omega⟩
  unfold leL
  rw [rev4 a b c d ha hb hc]
  have e1 : smJ (a + 256 * b + 65536 * c + 16777216 * d) 4 = [(a : Int), (b : Int), (c : Int), (d : Int)] := by
    obtain ⟨h0, h1, h2, h3, h3'⟩ := dig a b c d ha hb hc hd
    generalize a + 256 * b + 65536 * c + 16777216 * d = X at *
    show [((X / 256 ^ 0 % 256 : Nat) : Int), ((X / 256 ^ 1 % 256 : Nat) : Int), ((X / 256 ^ 2 % 256 : Nat) : Int), ((X / 256 ^ 3 % 256 : Nat) : Int)] = _
    rw [Nat.pow_zero, Nat.div_one, h0, Nat.pow_one, h1, show 256 ^ 2 = 65536 by rfl, h2, show 256 ^ 3 = 16777216 by rfl, h3, h3']
  have e2 : bigL (d + 256 * c + 65536 * b + 16777216 * a) 4 = [(a : Int), (b : Int), (c : Int), (d : Int)] := by
    obtain ⟨h0, h1, h2, h3, h3'⟩ := dig d c b a hd hc hb ha
    generalize d + 256 * c + 65536 * b + 16777216 * a = X at *
    show [((X / 256 ^ 3 % 256 : Nat) : Int), ((X / 256 ^ 2 % 256 : Nat) : Int), ((X / 256 ^ 1 % 256 : Nat) : Int), ((X / 256 ^ 0 % 256 : Nat) : Int)] = _
    rw [Nat.pow_zero, Nat.div_one, h0, Nat.pow_one, h1, show 256 ^ 2 = 65536 by rfl, h2, show 256 ^ 3 = 16777216 by rfl, h3, h3']
  rw [e1, e2]
theorem refSmall_any (base : Nat) (v : Value) (L : List Int) (s : Nat) (hs : s < 4294967296) (w : World) (h : w.ownsRow base 5 1 v L.length (L.map (Value.int .u8))) (hb : base ≤ w.heap.size) (hlen : L.length + 4 ≤ 140737488355328) :
    Calls Try.prog 26 #[v, .int .u32 (s : Int)] w fun e w' => ∃ v', e = .returned v' ∧ w'.ownsRow base 5 1 v' (L ++ leL s).length ((L ++ leL s).map (Value.int .u8)) ∧ Upd (fun j => v.ownBlock = some j) w w' ∧ Moved w v v' := by
  obtain ⟨i0, hi, hz0, hz1, hz2⟩ := info_parts Try.info5
  have HLE : Hid (smJ s 4 = leL s) := smJ_le s hs
  go_enter Try.func26, Try.ntmps26
  go_wp2
  go_loopw [0, 5] (fun a b wr => ∃ (j : Nat) (vr : Value), a = vr ∧ b = .int .i64 j ∧ j ≤ 4 ∧ wr.ownsRow base 5 1 vr (L ++ smJ s j).length ((L ++ smJ s j).map (Value.int .u8)) ∧ Upd (fun j => v.ownBlock = some j) w wr ∧ Moved w v vr) (fun _ b _ => 4 - (intOf b).toNat)
  case atStart => exact ⟨0, v, rfl, rfl, by omega, by simpa [smJ] using h, Upd.refl _ _, Moved.refl _ _⟩
  case round =>
    obtain ⟨j, vr, rfl, rfl, hjk, hO, hU, hM⟩ := hrel
    have hsz := hU.size
    by_cases hlt : j < 4
    · have hz : (j : Int) < 4 := by omega
      have ev : (s : Int) / 2 ^ (8 * j) % 256 = ((s / 256 ^ j % 256 : Nat) : Int) := by
        rw [show (2 : Int) ^ (8 * j) = ((2 ^ (8 * j) : Nat) : Int) by rw [Int.natCast_pow]; rfl, Nat.pow_mul, show (2 : Nat) ^ 8 = 256 by rfl, Int.natCast_emod, Int.natCast_ediv]
        rfl
      have HS : Hid (smJ s (j + 1) = smJ s j ++ [((s / 256 ^ j % 256 : Nat) : Int)]) := by rw [smJ_succ]; exact rfl
      have hll : (L ++ smJ s j).length = L.length + j := by simp [smJ_len]
      generalize hLj : L ++ smJ s j = Lj at hO hll
      have HE : Hid ((s : Int) / 2 ^ (8 * j) % 256 = ((s / 256 ^ j % 256 : Nat) : Int)) := ev
      have HL : Hid (L ++ smJ s j = Lj) := hLj
      clear ev hLj
      go_wp2_with (at_builtin; refine wpList_app _ rfl (.tmp 10) (.tmp 16) 23 23 rfl base 5 i0 (.int .u8 0) 1 Try.underlying23 hi hz0 hz1 hz2 rfl _ _ _ rfl (hO.alloc _) _ 1 [.int .u8 ((s : Int) / 2 ^ (8 * j) % 256)] rfl (Src.ofSlice _ Try.underlying23 ⟨wr.heap.size, 0, none⟩ 1 1 _ rfl ?c1 ?c2) ?c3 ?c4 ?c5 ?_)
      case c1 =>
        intro j u hj
        match j, hj with
        | 0, hj => simp at hj; subst hj; simp [Addr.add]
      case c2 => intro u hu; simp at hu; subst hu; rfl
      case c3 => unfold maxLen; omega
      case c4 => omega
      case c5 => simp; omega
      intro v' w2 ho hg hm
      have u2 : Upd (fun j => v.ownBlock = some j) w w2 := (hU.alloc _).grown hg (fun i hi e => by
        rcases hM with m | ⟨i', m, hi'⟩
        · rw [← m]; exact e
        · rw [e] at m; simp at m; omega)
      have hm2 : Moved w v v' := hM.trans hsz ((Moved.refl wr _).trans (by simp) hm)
      clear hg hm
      go_wp2
      go_roundw
      case rel => exact ⟨j + 1, _, rfl, by go_num, by omega, by rw [HS.out, ← List.append_assoc, HL.out, ← HE.out]; simpa [hll] using ho, u2, hm2⟩
      case measure => simp [intOf]; omega
    · obtain rfl : j = 4 := by omega
      rw [HLE.out] at hO
      go_wp2
      go_ret
      exact ⟨_, rfl, hO, hU, hM⟩

end Go.Proofs.Ytkfefebjciolcaa
