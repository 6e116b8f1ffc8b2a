/-
  The reference of layer 13: Merge of what may not be, Add.
-/
import Derived.Test.YtmegmjhkjaejgaaSlF
namespace Go.Proofs.Ytmegmjhkjaejgaa.sk
open Go.RowKit
set_option maxRecDepth 100000

set_option maxHeartbeats 400000 in
theorem refMerge_no (ad bd : Option Addr) (n m ca cb : Nat) (a b : List (Int × Int)) (w : World) (hA : InAt w ad n a) (hB : InAt w bd m b) (hc : (chkF (-1) a && chkF (-1) b) = false) :
    Calls Try.prog 22 #[.slice ad n ca, .slice bd m cb] w (MadeP none 131 w) := by
  have KA := refCheck_any ad n ca a w hA.at_ hA.len hA.bin
  have KB := fun q => refCheck_any bd m cb b (w.drewN q) (hB.at_.drewN q) hB.len hB.bin
  have hu : ∀ q, Below w.heap.size w (w.drewN q) := fun q => ((Upd.refl (fun _ => False) w).drewN q).below (Nat.le_refl _) (fun _ _ h => h)
  cases ha : chkF (-1) a with
  | false =>
    simp only [chkE_no ha] at KA
    clear KB hA hB hc ha
    go_enter Try.func22, Try.ntmps22
    go_wp2_with (go_at_call 18; (with_reducible refine KA.mono ?_); clear KA; rintro e w' ⟨rfl, q1, rfl⟩)
    go_returns
    exact ⟨hu _, rfl⟩
  | true =>
    have hb : chkF (-1) b = false := by rw [ha] at hc; simpa using hc
    simp only [chkE_ok ha] at KA
    simp only [chkE_no hb] at KB
    clear hA hB hc ha hb
    go_enter Try.func22, Try.ntmps22
    go_wp2_with (first
      | (go_at_call 18; (with_reducible refine KA.mono ?_); clear KA; rintro e w' ⟨rfl, q1, rfl⟩)
      | (go_at_call 18; (with_reducible refine (KB q1).mono ?_); clear KB; rintro e w' ⟨rfl, q2, rfl⟩))
    go_returns
    exact ⟨hu _, rfl⟩
/-- What Merge tells, whatever the lists are. -/
def mergeR (a b : List (Int × Int)) : Option (Nat → Nat) := if (chkF (-1) a && chkF (-1) b) = true then some (mergeF a b) else none
theorem refMerge_any (ad bd : Option Addr) (n m ca cb : Nat) (a b : List (Int × Int)) (w : World) (hA : InAt w ad n a) (hB : InAt w bd m b) :
    Calls Try.prog 22 #[.slice ad n ca, .slice bd m cb] w (MadeP (mergeR a b) 131 w) := by
  unfold mergeR
  cases h : chkF (-1) a && chkF (-1) b with
  | true =>
    rw [if_pos rfl]
    rw [Bool.and_eq_true] at h
    exact (refMerge_ok ad bd n m ca cb a b w hA hB h.1 h.2).mono fun e w' h => h
  | false =>
    rw [if_neg (by decide)]
    exact refMerge_no ad bd n m ca cb a b w hA hB h
theorem merge_any (ad bd : Option Addr) (n m ca cb : Nat) (a b : List (Int × Int)) (w : World) (hA : InAt w ad n a) (hB : InAt w bd m b) :
    Calls Try.prog 21 #[.slice ad n ca, .slice bd m cb] w (MadeP (mergeR a b) 131 w) := by
  unfold mergeR
  cases h : chkF (-1) a && chkF (-1) b with
  | true =>
    rw [if_pos rfl]
    rw [Bool.and_eq_true] at h
    exact (merge_ok ad bd n m ca cb a b w hA hB h.1 h.2).mono fun e w' h => h
  | false =>
    rw [if_neg (by decide)]
    exact merge_no ad bd n m ca cb a b w hA hB h
theorem MadeP.weaken {r : Option (Nat → Nat)} {e : Int} {w w1 : World} {x : Ending} {w2 : World} (hb : Below w.heap.size w w1) (h : MadeP r e w1 x w2) : MadeP r e w x w2 := by
  unfold MadeP at *
  refine ⟨hb.trans (h.1.mono hb.size), ?_⟩
  cases r with
  | none => exact h.2
  | some f =>
    obtain ⟨v, h1, h2⟩ := h.2
    exact ⟨v, h1, own_base h2 hb.size⟩
/-- What Add tells. -/
def addR (l : List (Int × Int)) (v t : Nat) : Option (Nat → Nat) := if chkF (-1) l = true then some (addF l v t) else none
theorem add_any (ad : Option Addr) (n c : Nat) (l : List (Int × Int)) (v t : Nat) (hv : v < 18446744073709551616) (ht : t < 18446744073709551616) (w : World) (hI : InAt w ad n l) :
    Calls Try.prog 10 #[.slice ad n c, .int .u64 (v : Int), .int .u64 (t : Int)] w (MadeP (addR l v t) 131 w) := by
  unfold addR
  cases h : chkF (-1) l with
  | true =>
    rw [if_pos rfl]
    exact (add_ok ad n c l v t hv ht w hI h).mono fun e w' h => h
  | false =>
    rw [if_neg (by decide)]
    exact add_no ad n c l v t w hI h
theorem MadeP.same {r s : Option (Nat → Nat)} {e : Int} {w : World} {x : Ending} {w2 : World} (h : MadeP r e w x w2) (hrs : r.map barsF = s.map barsF) : MadeP s e w x w2 := by
  cases r with
  | none => cases s with
    | none => exact h
    | some g => simp at hrs
  | some f => cases s with
    | none => simp at hrs
    | some g =>
      have e1 : barsF f = barsF g := by simpa using hrs
      obtain ⟨h0, v, h1, h2⟩ := h
      rw [e1] at h2
      exact ⟨h0, v, h1, h2⟩
theorem chk_one {i t : Nat} (hi : i < 1920) (ht : t ≠ 0) : chkF (-1) [((i : Int), (t : Int))] = true := chk_cons (by simp only; omega) (by simp only; omega) (by simp only; omega) rfl
theorem addR_zero {l : List (Int × Int)} (hi : Bin l) (v : Nat) : (mergeR l []).map barsF = (addR l v 0).map barsF := by
  unfold mergeR addR
  have h0 : chkF (-1) [] = true := rfl
  rw [h0, Bool.and_true]
  split
  · rw [Option.map_some, Option.map_some, barsF_congr (g := addF l v 0) fun i _ => ?_]
    have := cntF_le hi i
    have h1 : cntF [] i = 0 := rfl
    unfold mergeF addF putF setF
    rw [h1]
    split
    · rename_i h
      subst h
      rfl
    · omega
  · rfl
theorem addR_one {l : List (Int × Int)} (hi : Bin l) {v t : Nat} (hv : v < 18446744073709551616) (ht : t ≠ 0) : (mergeR l [((idxN v : Int), (t : Int))]).map barsF = (addR l v t).map barsF := by
  unfold mergeR addR
  rw [chk_one (idxN_lt hv) ht, Bool.and_true]
  split
  · rw [Option.map_some, Option.map_some, barsF_congr (g := addF l v t) fun i _ => ?_]
    have := cntF_le hi i
    unfold mergeF addF putF setF
    rw [cntF_cons]
    simp only
    split
    · rename_i h
      obtain rfl : i = idxN v := by omega
      rw [if_pos rfl, Int.toNat_natCast]
    · rename_i h
      rw [if_neg (by omega)]
      have h1 : cntF [] i = 0 := rfl
      rw [h1]
      omega
  · rfl
theorem MadeP.shape {r : Option (Nat → Nat)} {x : Int} {w : World} {e : Ending} {w2 : World} (h : MadeP r x w e w2) : ∃ v y, e = .returned (.tuple #[v, .int .i64 y]) ∧ Hid (MadeP r x w (.returned (.tuple #[v, .int .i64 y])) w2) := by
  have h' := h
  unfold MadeP at h
  cases r with
  | none => exact ⟨_, _, h.2, by have := h.2; subst this; exact h'⟩
  | some f =>
    obtain ⟨v, h1, h2⟩ := h.2
    exact ⟨v, 0, h1, by subst h1; exact h'⟩
set_option maxHeartbeats 1000000 in
theorem refAdd_any (ad : Option Addr) (n c : Nat) (l : List (Int × Int)) (v t : Nat) (hv : v < 18446744073709551616) (ht : t < 18446744073709551616) (w : World) (hI : InAt w ad n l) :
    Calls Try.prog 19 #[.slice ad n c, .int .u64 (v : Int), .int .u64 (t : Int)] w (MadeP (addR l v t) 131 w) := by
  by_cases h0 : t = 0
  · subst h0
    have K := (refMerge_any ad none n 0 c 0 l [] w hI (InAt.nil w)).mono fun e w' h => (h.same (addR_zero hI.bin v)).shape
    generalize MadeP (addR l v 0) 131 w = R at *
    clear hI hv ht
    go_enter Try.func19, Try.ntmps19
    go_wp2_with (go_at_call 22; (with_reducible refine K.mono ?_); clear K; rintro e w' ⟨v', y', rfl, HR⟩)
    exact HR.out
  · have t0 : ((t : Int) == 0) = false := by simp; omega
    have IX := refIndex v hv
    have bw : Below w.heap.size w (w.alloc (.cells #[.int .i64 (idxN v : Int), .int .u64 (t : Int)] 46)) := (Below.refl _ w).alloc (Nat.le_refl _) _
    have one : InAt (w.alloc (.cells #[.int .i64 (idxN v : Int), .int .u64 (t : Int)] 46)) (some ⟨w.heap.size, 0, none⟩) 1 [((idxN v : Int), (t : Int))] := by
      refine ⟨⟨rfl, fun _ => ⟨w.heap.size, 0, rfl, fun i hi => ?_⟩⟩, ?_, by unfold maxLen; omega, ?_⟩
      · obtain rfl : i = 0 := by simp at hi; exact hi
        exact ⟨by simp, by simp⟩
      · rintro a ha _
        injection ha with ha
        subst ha
        simp
      · intro b hb
        rw [List.mem_singleton] at hb
        subst hb
        have := idxN_lt hv
        simp only
        omega
    have W1 := (refMerge_any ad (some ⟨w.heap.size, 0, none⟩) n 1 c 1 l _ _ (hI.below bw) one).mono fun e w' h => ((h.weaken bw).same (addR_one hI.bin hv h0)).shape
    clear one bw
    generalize MadeP (addR l v t) 131 w = R at *
    generalize (idxN v : Int) = ix at *
    clear hI hv ht h0
    go_enter Try.func19, Try.ntmps19
    go_wp2_with (first
      | (go_at_call 16; (with_reducible refine (IX _).mono ?_); clear IX; rintro e w' ⟨rfl, hw⟩; obtain rfl := hw.symm)
      | (go_at_call 22; (with_reducible refine W1.mono ?_); clear W1; rintro e w' ⟨v', y', rfl, HR⟩))
    exact HR.out
end Go.Proofs.Ytmegmjhkjaejgaa.sk
