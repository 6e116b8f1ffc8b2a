/-
  Layer 6, the law's own: spared, kept.
-/
import Derived.Test.YtakannfkbmnlfaaVF
namespace Go.Proofs.Ytakannfkbmnlfaa
open Go.Shelf Go.RowKit Go.Lib
set_option maxRecDepth 100000

theorem ofB_any (f t : Int) (w : World) :
    Calls Try.prog 22 #[.int .i64 f, .int .i64 t] w fun e w' => e = .returned (.agg #[.int .i64 f, .int .i64 t]) ∧ Below w.heap.size w w' :=
  (of_any f t w).mono fun e w' h => ⟨h.1, by rw [h.2]; exact (Below.refl _ _).alloc (Nat.le_refl _) _⟩
theorem marks_step (A : List (Int × Int)) (m z : Int × Int) (n t s : Nat) (hn : A.length = n) : (A ++ List.replicate t m ++ List.replicate (s + 1) z).set (n + t) m = A ++ List.replicate (t + 1) m ++ List.replicate s z := by
  rw [List.set_append_right _ _ (by simp; omega), List.length_append, List.length_replicate, hn, Nat.sub_self, List.replicate_succ, List.set_cons_zero]
  rw [show List.replicate (t + 1) m = List.replicate t m ++ [m] from List.replicate_succ', ← List.append_assoc, List.append_assoc, List.append_assoc, List.append_assoc]
  rfl
/-- The caller's list, with four marks behind it. -/
def SpareP (A : List (Int × Int)) (n : Nat) (w : World) (e : Ending) (w' : World) : Prop :=
  e = .returned (.slice (some ⟨w.heap.size, 0, none⟩) (n + 4) (n + 4)) ∧ Hid (BlkI w' w.heap.size (A ++ List.replicate 4 (-77, -78))) ∧ Hid (Below w.heap.size w w')
set_option maxHeartbeats 4000000 in
theorem spared_any (ad : Option Addr) (n c : Nat) (A : List (Int × Int)) (w : World) (hA : IvAt w ad n A) (hnil : ad = none → n = 0 ∧ c = 0) (hz : n ≤ 1099511627776) :
    Calls Try.prog 6 #[.slice ad n c] w (SpareP A n w) := by
  have HA : Hid (IvAt w ad n A) := hA
  have HL : Hid (A.length = n) := hA.len
  have HN : Hid (ad = none → n = 0 ∧ c = 0) := hnil
  unfold SpareP
  have hw4 : IntKind.i64.wrap ((n : Int) + 4) = ((n + 4 : Nat) : Int) := by rw [IntKind.wrap_i64]; omega
  have OF := ofB_any (-77) (-78)
  clear hA hnil
  go_enter Try.func6, Try.ntmps6
  go_wp2_with (first
    | (refine wpList_mkI rfl _ _ rfl (n + 4) rfl rfl (by omega) (by unfold maxLen; omega) ?_; intro w1 n1 b1; have HN1 : Hid (BlkI w1 w.heap.size (List.replicate (n + 4) (0, 0))) := n1; have HB1 : Hid (Below w.heap.size w w1) := b1; clear n1 b1)
    | (refine wpList_copyI rfl (.tmp 9) (.tmp 10) rfl w.heap.size 4 ad n c A rfl rfl HN.out HN1.out (HA.out.below HB1.out) ?_; intro w2 n2 u2; have HN2 : Hid (BlkI w2 w.heap.size (A ++ List.replicate 4 (0, 0))) := n2; have HB2 : Hid (Below w.heap.size w w2) := HB1.out.trans (u2.below HB1.out.size (fun k hk e => Nat.ne_of_lt hk e)); clear n2 u2 HN1 HB1))
  clear HN HA
  go_loopw [4] (fun a wr => ∃ (t s : Nat), a = .int .i64 ((n + t : Nat) : Int) ∧ t + s = 4 ∧ Hid (BlkI wr w.heap.size (A ++ List.replicate t (-77, -78) ++ List.replicate s (0, 0))) ∧ Hid (Below w.heap.size w wr)) (fun a _ => n + 4 - (intOf a).toNat)
  case atStart => exact ⟨0, 4, rfl, rfl, (by show BlkI _ _ _; rw [List.replicate_zero, List.append_nil]; exact HN2.out), HB2⟩
  case round =>
    obtain ⟨t, s, ha, hts, HK, HW⟩ := hrel
    obtain ⟨i, hi⟩ : ∃ i, n + t = i := ⟨_, rfl⟩
    rw [hi] at ha
    subst ha
    have HI : Hid (n + t = i) := hi
    by_cases hlt : i < n + 4
    · have hlt' : (i : Int) < ((n + 4 : Nat) : Int) := by omega
      obtain ⟨s', rfl⟩ : ∃ s', s = s' + 1 := ⟨s - 1, by omega⟩
      have hlen : i < (A ++ List.replicate t ((-77, -78) : Int × Int) ++ List.replicate (s' + 1) (0, 0)).length := by simp; have := HL.out; omega
      have HST := marks_step A (-77, -78) (0, 0) n t s' HL.out
      rw [hi] at HST
      have HST : Hid ((A ++ List.replicate t ((-77, -78) : Int × Int) ++ List.replicate (s' + 1) (0, 0)).set i (-77, -78) = A ++ List.replicate (t + 1) (-77, -78) ++ List.replicate s' (0, 0)) := HST
      have HSET : Hid (∀ W, BlkI W w.heap.size (A ++ List.replicate t (-77, -78) ++ List.replicate (s' + 1) (0, 0)) → Hid (BlkI ((W.setCell ⟨w.heap.size, i * 2, none⟩ (.int .i64 (-77))).setCell ⟨w.heap.size, i * 2 + 1, none⟩ (.int .i64 (-78))) w.heap.size (A ++ List.replicate (t + 1) (-77, -78) ++ List.replicate s' (0, 0)))) := fun W hW => by
        have := hW.set i hlen (-77) (-78)
        rw [HST.out] at this
        exact this
      clear hi
      generalize hX : (A ++ List.replicate t ((-77, -78) : Int × Int) ++ List.replicate (s' + 1) (0, 0)) = X at hlen HK HSET
      clear HST hX
      go_wp2_with (go_at_call 22; (with_reducible refine (OF _).mono ?_); clear OF; rintro e w5 ⟨rfl, b5⟩; have HK5 : Hid (BlkI w5 w.heap.size X) := HK.out.below b5; have HB5 : Hid (Below w.heap.size w w5) := HW.out.trans (b5.mono HW.out.size); have c0 := HK5.out.c0 i hlen; have c1 := HK5.out.c1 i hlen; have f0 := HK5.out.free (i * 2); have f1 := HK5.out.free (i * 2 + 1); clear b5)
      go_roundw
      case rel => exact ⟨t + 1, s', by have := HI.out; go_num, by omega, HSET.out _ HK5.out, HB5.out.trans ((upd_two w5 w.heap.size (i * 2) (i * 2 + 1) _ _).below HB5.out.size (fun k hk e => by omega))⟩
      case measure => simp [intOf]; omega
    · have hlt' : ¬ (i : Int) < ((n + 4 : Nat) : Int) := by omega
      have HT : Hid (t = 4 ∧ s = 0) := by show _ ∧ _; omega
      go_wp2
      go_ret
      refine ⟨rfl, ?_, HW⟩
      have h := HK.out
      rw [HT.out.1, HT.out.2] at h
      show BlkI _ _ _
      simpa using h
end Go.Proofs.Ytakannfkbmnlfaa
