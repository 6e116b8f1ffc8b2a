/-
  Layer 6, the law's own: marked, looks, grown; one list for each set.
-/
import Derived.Test.YtakannfkbmnlfaaVH
import Derived.Test.YtakannfkbmnlfaaVl
import Derived.Test.YtakannfkbmnlfaaMq
namespace Go.Proofs.Ytakannfkbmnlfaa
open Go.Shelf Go.RowKit Go.Lib
set_option maxRecDepth 100000

/-- The list of a set, as gather tells it. -/
theorem norm_exists (want : Bool → Bool → Bool) (hw : want false false = false) (A B : List (Int × Int)) : ∃ L, Form L ∧ (∀ x, memI L x = want (memI A x) (memI B x)) ∧ L.length ≤ 2 * (A.length + B.length) := by
  obtain ⟨E, hp, hs⟩ : ∃ E : List (Int × Int × Int), E.Perm (endsL 0 A ++ endsL 1 B) ∧ E.Pairwise (fun (e f : Int × Int × Int) => decide (e.1 ≤ f.1) = true) := by
    refine ⟨(endsL 0 A ++ endsL 1 B).mergeSort (fun e f => decide (e.1 ≤ f.1)), List.mergeSort_perm _ _, ?_⟩
    refine List.pairwise_mergeSort (fun a b c h1 h2 => ?_) (fun a b => ?_) _
    · simp only [decide_eq_true_eq] at *; omega
    · simp only [Bool.or_eq_true, decide_eq_true_eq]; omega
  have h := gather_form want hw A B E hp.symm (hs.imp (fun h => of_decide_eq_true h))
  refine ⟨_, h.1, h.2, ?_⟩
  have hb := (run_b want E.length E rfl).2.2
  refine Nat.le_trans hb ?_
  rw [hp.length_eq, List.length_append]
  have a := endsL_len 0 A
  have b := endsL_len 1 B
  omega
/-- A new list, with these intervals. -/
def NewP (C : List (Int × Int)) (w : World) (e : Ending) (w' : World) : Prop := ∃ ao l c, e = .returned (.slice ao l c) ∧ Hid (OwnI w.heap.size w' (.slice ao l c) C) ∧ Below w.heap.size w w'
theorem tells_new {p : Int → Bool} {N : Nat} {C : List (Int × Int)} {w : World} {f : Nat} {args : Array Value} (h : Calls Try.prog f args w fun e w' => ∃ v L, e = .returned v ∧ Tells w.heap.size w' v p N L ∧ Below w.heap.size w w') (hC : Form C ∧ ∀ x, memI C x = p x) : Calls Try.prog f args w (NewP C w) := by
  refine h.mono ?_
  rintro e w' ⟨v, L, rfl, t, b⟩
  obtain ⟨ao, l, c, rfl⟩ := row_shape t.own
  obtain rfl : L = C := form_one t.form hC.1 (fun x => (t.mem x).trans (hC.2 x).symm)
  exact ⟨ao, l, c, rfl, t.own, b⟩

theorem ownI_set {base g L cap : Nat} {w : World} {X : List (Int × Int)} {i : Nat} (hi : i < X.length) (a b : Int) (h : OwnI base w (.slice (some ⟨g, 0, none⟩) L cap) X) : OwnI base ((w.setCell ⟨g, i * 2, none⟩ (.int .i64 a)).setCell ⟨g, i * 2 + 1, none⟩ (.int .i64 b)) (.slice (some ⟨g, 0, none⟩) L cap) (X.set i (a, b)) := by
  have hl := (own_cap h).1
  unfold OwnI at h ⊢
  rw [List.length_set, ← ivC_set X i hi (a, b)]
  rw [← hl] at h ⊢
  exact ownsRow_set (ownsRow_set h _ _) _ _
set_option maxHeartbeats 4000000 in
theorem marked_any (base : Nat) (ao : Option Addr) (l c : Nat) (X : List (Int × Int)) (m : Int) (w : World) (ho : OwnI base w (.slice ao l c) X) (hm : IntKind.i64.wrap (-m) = -m) (hl : l ≤ 1099511627776) :
    Calls Try.prog 19 #[.slice ao l c, .int .i64 m] w fun e w' => e = .returned (.tuple #[]) ∧ Hid (OwnI base w' (.slice ao l c) (List.replicate l (m, -m))) ∧ Hid (Upd (fun k => (Value.slice ao l c).ownBlock = some k) w w') := by
  have HO : Hid (OwnI base w (.slice ao l c) X) := ho
  have HL : Hid (l = X.length) := ho.len
  have OF := ofB_any m (-m)
  clear ho
  go_enter Try.func19, Try.ntmps19
  go_wp2
  go_loopw [4] (fun a wr => ∃ (i : Nat), a = .int .i64 i ∧ i ≤ l ∧ Hid (OwnI base wr (.slice ao l c) (List.replicate i (m, -m) ++ X.drop i)) ∧ Hid (Upd (fun k => (Value.slice ao l c).ownBlock = some k) w wr)) (fun a _ => l - (intOf a).toNat)
  case atStart => exact ⟨0, rfl, by omega, HO, Upd.refl _ _⟩
  case round =>
    obtain ⟨i, rfl, hil, HR, HU⟩ := hrel
    by_cases hlt : i < l
    · have hlt' : (i : Int) < (l : Int) := by omega
      have hiX : i < X.length := by rw [← HL.out]; exact hlt
      have HST : Hid ((List.replicate i (m, -m) ++ X.drop i).set i (m, -m) = List.replicate (i + 1) (m, -m) ++ X.drop (i + 1)) := over_step X _ i hiX
      have hlen : i < (List.replicate i (m, -m) ++ X.drop i).length := by rw [List.length_append, List.length_replicate, List.length_drop]; omega
      generalize (List.replicate i (m, -m) ++ X.drop i) = Y at HR HST hlen
      obtain ⟨g, cap', ev, _, _, hbg, hcells⟩ := own_some HR.out (by omega)
      simp at ev
      obtain ⟨rfl, ev1, ev2⟩ := ev
      clear ev1 ev2 hcells hbg
      have HSET : Hid (∀ W, OwnI base W (.slice (some ⟨g, 0, none⟩) l c) Y → Hid (OwnI base ((W.setCell ⟨g, i * 2, none⟩ (.int .i64 m)).setCell ⟨g, i * 2 + 1, none⟩ (.int .i64 (-m))) (.slice (some ⟨g, 0, none⟩) l c) (List.replicate (i + 1) (m, -m) ++ X.drop (i + 1)))) := fun W hW => by
        have := ownI_set hlen m (-m) hW
        rw [HST.out] at this
        exact this
      have HC : Hid (∀ W, OwnI base W (.slice (some ⟨g, 0, none⟩) l c) Y → W.cell? ⟨g, i * 2, none⟩ = some (.int .i64 (Y[i]).1) ∧ W.cell? ⟨g, i * 2 + 1, none⟩ = some (.int .i64 (Y[i]).2)) := fun W hW => by
        obtain ⟨b, off, e, hc⟩ := hW.at.lies (by omega)
        simp at e
        obtain ⟨rfl, rfl⟩ := e
        have := hc i hlen
        rw [Nat.zero_add] at this
        exact this
      go_wp2_with (go_at_call 22; (with_reducible refine (OF _).mono ?_); clear OF; rintro e w5 ⟨rfl, b5⟩; have HR5 : Hid (OwnI base w5 (.slice (some ⟨g, 0, none⟩) l c) Y) := ownI_bel HR.out b5; have HU5 : Hid (Upd (fun k => (Value.slice (some ⟨g, 0, none⟩) l c).ownBlock = some k) w w5) := HU.out.trans (Upd.ofBelow (S := fun _ => False) b5 (fun k hk hk' => absurd hk (Nat.not_lt.mpr hk'))) (fun _ _ h => h.elim); obtain ⟨c0, c1⟩ := HC.out w5 HR5.out; have f0 := own_free HR5.out rfl (i * 2); have f1 := own_free HR5.out rfl (i * 2 + 1); clear b5)
      go_roundw
      case rel => exact ⟨i + 1, by go_num, by omega, HSET.out _ HR5.out, HU5.out.trans (upd_two w5 g (i * 2) (i * 2 + 1) _ _) (fun k _ e => by rw [e]; rfl)⟩
      case measure => simp [intOf]; omega
    · have hlt' : ¬ (i : Int) < (l : Int) := by omega
      have HT : Hid (List.replicate i (m, -m) ++ X.drop i = List.replicate l (m, -m)) := by
        show _ = _
        rw [show i = l by omega, List.drop_eq_nil_of_le (by rw [HL.out]; omega), List.append_nil]
      go_wp2
      go_returns
      refine ⟨rfl, ?_, HU⟩
      have := HR.out
      rw [HT.out] at this
      exact this
set_option maxHeartbeats 4000000 in
theorem looks_any (ao : Option Addr) (l c : Nat) (m : Int) (w : World) (hX : IvAt w ao l (List.replicate l (m, -m))) (hm : IntKind.i64.wrap (-m) = -m) (hl : l ≤ 1099511627776) :
    Calls Try.prog 21 #[.slice ao l c, .int .i64 m] w fun e w' => e = .returned (.bool true) ∧ Below w.heap.size w w' := by
  have HX : Hid (IvAt w ao l (List.replicate l (m, -m))) := hX
  have OF := ofB_any m (-m)
  have gd := guard_iv
  clear hX
  go_enter Try.func21, Try.ntmps21
  go_wp2
  go_loopw [5] (fun a wr => ∃ (i : Nat), a = .int .i64 i ∧ i ≤ l ∧ Hid (Below w.heap.size w wr)) (fun a _ => l - (intOf a).toNat)
  case atStart => exact ⟨0, rfl, by omega, Below.refl _ _⟩
  case round =>
    obtain ⟨i, rfl, hil, HW⟩ := hrel
    by_cases hlt : i < l
    · have hlt' : (i : Int) < (l : Int) := by omega
      obtain ⟨b, off, had, hc⟩ := (HX.out.below HW.out).lies (by omega)
      subst had
      obtain ⟨k0, k1⟩ := hc i (by rw [List.length_replicate]; exact hlt)
      simp only [List.getElem_replicate] at k0 k1
      have KC : ∀ W, Below wr.heap.size wr W → W.cell? ⟨b, off + i * 2, none⟩ = some (.int .i64 m) ∧ W.cell? ⟨b, off + i * 2 + 1, none⟩ = some (.int .i64 (-m)) := fun W hb => ⟨below_cell hb k0, below_cell hb k1⟩
      have EQ := fun W => run_neq_of (eqI_iv 9998 m (-m) m (-m) W)
      rw [decide_eq_true (⟨rfl, rfl⟩ : m = m ∧ -m = -m)] at EQ
      simp only [Bool.not_true] at EQ
      have B0 : Below wr.heap.size wr wr.drew := (Below.refl _ _).drew
      clear hc
      go_wp2
      go_region_held3 (fun W => W.cell? ⟨b, off + i * 2, none⟩ = some (.int .i64 m) ∧ W.cell? ⟨b, off + i * 2 + 1, none⟩ = some (.int .i64 (-m))) (exact KC _ (by assumption)) (first | (go_at_call 22; (with_reducible refine (OF _).mono ?_); clear OF; rintro e w3 ⟨rfl, b3⟩; have B3 : Below wr.heap.size wr w3 := B0.trans b3; clear b3))
      have HB3 : Hid (Below w.heap.size w w3) := HW.out.trans (B3.mono HW.out.size)
      clear B3 B0 KC k0 k1 EQ
      go_wp2
      go_roundw
      case rel => exact ⟨i + 1, by go_num, by omega, HB3⟩
      case measure => simp [intOf]; omega
    · have hlt' : ¬ (i : Int) < (l : Int) := by omega
      go_wp2
      go_ret
      exact ⟨rfl, HW.out⟩
end Go.Proofs.Ytakannfkbmnlfaa
