/-
  Layer 6, the law's own: kept.
-/
import Derived.Test.YtakannfkbmnlfaaVG
import Derived.BigQuiet
namespace Go.Proofs.Ytakannfkbmnlfaa
open Go.Shelf Go.RowKit Go.Lib
set_option maxRecDepth 100000

theorem over_step (X : List (Int × Int)) (m : Int × Int) (i : Nat) (hi : i < X.length) : (List.replicate i m ++ X.drop i).set i m = List.replicate (i + 1) m ++ X.drop (i + 1) := by
  rw [List.set_append_right _ _ (by simp), List.length_replicate, Nat.sub_self, List.drop_eq_getElem_cons hi, List.set_cons_zero, show List.replicate (i + 1) m = List.replicate i m ++ [m] from List.replicate_succ', List.append_assoc]
  rfl
/-- A list of the caller's is as it was; then all of it is written over. -/
def KeptP (g n : Nat) (w : World) (e : Ending) (w' : World) : Prop :=
  e = .returned (.bool true) ∧ Hid (BlkI w' g (List.replicate (n + 4) (-79, 80))) ∧ Hid (Upd (fun k => k = g) w w')
set_option maxHeartbeats 4000000 in
theorem kept_any (g : Nat) (ad : Option Addr) (n c : Nat) (A : List (Int × Int)) (w : World) (hA : IvAt w ad n A) (hg : BlkI w g (A ++ List.replicate 4 (-77, -78))) (hz : n ≤ 1099511627776) :
    Calls Try.prog 18 #[.slice (some ⟨g, 0, none⟩) (n + 4) (n + 4), .slice ad n c] w (KeptP g n w) := by
  have HL : Hid (A.length = n) := hA.len
  have HG : Hid (BlkI w g (A ++ List.replicate 4 (-77, -78))) := hg
  have SA := same_any (some ⟨g, 0, none⟩) ad n n (n + 4) c A A w (by have h := hg.at n (by simp; have := hA.len; omega); rw [List.take_left' hA.len] at h; exact h) hA hz
  rw [decide_eq_true rfl] at SA
  have gd := guard_iv
  have hw4 : IntKind.i64.wrap ((n : Int) + 4) = ((n + 4 : Nat) : Int) := by rw [IntKind.wrap_i64]; omega
  have OF1 := ofB_any (-77) (-78)
  have OF2 := ofB_any (-79) 80
  unfold KeptP
  have h44 : (((n + 4 : Nat) : Int) == ((n + 4 : Nat) : Int)) = true := beq_self_eq_true _
  clear hA hg
  go_enter Try.func18, Try.ntmps18
  go_wp2_with (go_at_call 7; (with_reducible refine SA.mono ?_); clear SA; rintro e w1 ⟨rfl, b1⟩; have HG1 : Hid (BlkI w1 g (A ++ List.replicate 4 (-77, -78))) := HG.out.below b1; have HB1 : Hid (Below w.heap.size w w1) := b1; clear b1)
  clear HG
  obtain ⟨X, hX⟩ : ∃ X, A ++ List.replicate 4 ((-77, -78) : Int × Int) = X := ⟨_, rfl⟩
  have HXl : Hid (X.length = n + 4) := by show _ = _; rw [← hX, List.length_append, HL.out]; rfl
  have HXm : Hid (∀ i (h : i < X.length), n ≤ i → X[i] = (-77, -78)) := fun i h hn => by
    subst hX
    rw [List.getElem_append_right (by rw [HL.out]; exact hn), List.getElem_replicate]
  rw [hX] at HG1
  clear hX
  go_loopw [5, 6] (fun a b wr => ∃ (i : Nat), b = .int .i64 i ∧ a = .bool true ∧ i ≤ n + 4 ∧ Hid (BlkI wr g (List.replicate i (-79, 80) ++ X.drop i)) ∧ Hid (Upd (fun k => k = g) w wr)) (fun _ b _ => n + 4 - (intOf b).toNat)
  case atStart => exact ⟨0, rfl, rfl, by omega, HG1, Upd.ofBelow HB1.out (fun k hk hk' => by omega)⟩
  case round =>
    obtain ⟨i, rfl, rfl, hi4, HK, HU⟩ := hrel
    by_cases hlt : i < n + 4
    · have hlt' : (i : Int) < ((n + 4 : Nat) : Int) := by omega
      have hiX : i < X.length := by rw [HXl.out]; exact hlt
      have HST : Hid ((List.replicate i ((-79, 80) : Int × Int) ++ X.drop i).set i (-79, 80) = List.replicate (i + 1) (-79, 80) ++ X.drop (i + 1)) := over_step X _ i hiX
      have hlen : i < (List.replicate i ((-79, 80) : Int × Int) ++ X.drop i).length := by rw [List.length_append, List.length_replicate, List.length_drop]; omega
      have HGT : Hid (n ≤ i → (List.replicate i ((-79, 80) : Int × Int) ++ X.drop i)[i] = (-77, -78)) := fun hn => by
        rw [List.getElem_append_right (by simp)]
        simp only [List.length_replicate, Nat.sub_self, List.getElem_drop, Nat.add_zero]
        exact HXm.out i hiX hn
      generalize (List.replicate i ((-79, 80) : Int × Int) ++ X.drop i) = Y at HK HST hlen HGT
      have HSET : Hid (∀ W, BlkI W g Y → Hid (BlkI ((W.setCell ⟨g, i * 2, none⟩ (.int .i64 (-79))).setCell ⟨g, i * 2 + 1, none⟩ (.int .i64 80)) g (List.replicate (i + 1) (-79, 80) ++ X.drop (i + 1)))) := fun W hW => by
        have := hW.set i hlen (-79) 80
        rw [HST.out] at this
        exact this
      by_cases hin : i < n
      · have hin' : (i : Int) < (n : Int) := by omega
        have hid : decide ((i : Int) < (n : Int)) = true := decide_eq_true hin'
        clear OF1
        go_wp2
        go_quiet (fail)
        obtain ⟨w3, hw3⟩ : ∃ V, wr.drewN nq = V := ⟨_, rfl⟩
        have HK3 : Hid (BlkI w3 g Y) := by rw [← hw3]; exact HK.out
        have HU3 : Hid (Upd (fun k => k = g) w w3) := by rw [← hw3]; exact HU.out.drewN _
        rw [hw3]
        clear hw3
        go_wp2_with (go_at_call 22; (with_reducible refine (OF2 _).mono ?_); clear OF2; rintro e w5 ⟨rfl, b5⟩; have HK5 : Hid (BlkI w5 g Y) := HK3.out.below b5; have HU5 : Hid (Upd (fun k => k = g) w w5) := HU3.out.trans (Upd.ofBelow (S := fun _ => False) b5 (fun k hk hk' => absurd hk (Nat.not_lt.mpr hk'))) (fun _ _ h => h.elim); have c0 := HK5.out.c0 i hlen; have c1 := HK5.out.c1 i hlen; have f0 := HK5.out.free (i * 2); have f1 := HK5.out.free (i * 2 + 1); clear b5)
        go_roundw
        case rel => exact ⟨i + 1, by go_num, rfl, by omega, HSET.out _ HK5.out, HU5.out.trans (upd_two w5 g (i * 2) (i * 2 + 1) _ _) (fun _ _ h => h)⟩
        case measure => simp [intOf]; omega
      · have hin' : ¬ (i : Int) < (n : Int) := by omega
        have hid : decide ((i : Int) < (n : Int)) = false := decide_eq_false hin'
        have k0 := HK.out.c0 i hlen
        have k1 := HK.out.c1 i hlen
        rw [HGT.out (by omega)] at k0 k1
        simp only at k0 k1
        have KC : ∀ W, Below wr.heap.size wr W → W.cell? ⟨g, i * 2, none⟩ = some (.int .i64 (-77)) ∧ W.cell? ⟨g, i * 2 + 1, none⟩ = some (.int .i64 (-78)) := fun W hb => ⟨below_cell hb k0, below_cell hb k1⟩
        have EQ := fun W => run_eql_of (eqI_iv 9998 (-77) (-78) (-77) (-78) W)
        have hde : decide ((-77 : Int) = -77 ∧ (-78 : Int) = -78) = true := by decide
        rw [hde] at EQ
        have B0 : Below wr.heap.size wr wr.drew := (Below.refl _ _).drew
        clear hde
        go_wp2
        go_region_held3 (fun W => W.cell? ⟨g, i * 2, none⟩ = some (.int .i64 (-77)) ∧ W.cell? ⟨g, i * 2 + 1, none⟩ = some (.int .i64 (-78))) (exact KC _ (by assumption)) (first | (go_at_call 22; (with_reducible refine (OF1 _).mono ?_); clear OF1; rintro e w3 ⟨rfl, b3⟩; have B3 : Below wr.heap.size wr w3 := B0.trans b3; clear b3))
        have HK3 : Hid (BlkI w3 g Y) := HK.out.below B3
        have HU3 : Hid (Upd (fun k => k = g) w w3) := HU.out.trans (Upd.ofBelow (S := fun _ => False) B3 (fun k hk hk' => by omega)) (fun _ _ h => h.elim)
        clear B3 B0 KC k0 k1 EQ
        go_wp2_with (go_at_call 22; (with_reducible refine (OF2 _).mono ?_); clear OF2; rintro e w5 ⟨rfl, b5⟩; have HK5 : Hid (BlkI w5 g Y) := HK3.out.below b5; have HU5 : Hid (Upd (fun k => k = g) w w5) := HU3.out.trans (Upd.ofBelow (S := fun _ => False) b5 (fun k hk hk' => absurd hk (Nat.not_lt.mpr hk'))) (fun _ _ h => h.elim); have c0 := HK5.out.c0 i hlen; have c1 := HK5.out.c1 i hlen; have f0 := HK5.out.free (i * 2); have f1 := HK5.out.free (i * 2 + 1); clear b5)
        go_roundw
        case rel => exact ⟨i + 1, by go_num, rfl, by omega, HSET.out _ HK5.out, HU5.out.trans (upd_two w5 g (i * 2) (i * 2 + 1) _ _) (fun _ _ h => h)⟩
        case measure => simp [intOf]; omega
    · have hlt' : ¬ (i : Int) < ((n + 4 : Nat) : Int) := by omega
      have HT : Hid (i = n + 4) := by show _ = _; omega
      go_wp2
      go_ret
      refine ⟨rfl, ?_, HU⟩
      have h := HK.out
      rw [HT.out, List.drop_eq_nil_of_le (by rw [HXl.out]; omega), List.append_nil] at h
      exact h
end Go.Proofs.Ytakannfkbmnlfaa
