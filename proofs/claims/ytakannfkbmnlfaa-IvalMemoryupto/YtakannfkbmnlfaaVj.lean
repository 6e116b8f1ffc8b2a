/-
  Contracts of layer 6: gather, Normal, Meet, Minus.
-/
import Derived.Test.YtakannfkbmnlfaaVi
namespace Go.Proofs.Ytakannfkbmnlfaa
open Go.Shelf Go.RowKit Go.Lib
set_option maxRecDepth 100000

theorem tell_len (out : List (Int × Int)) (a : Int × Int) : (tellL out a).length ≤ out.length + 1 := by
  unfold tellL
  split
  · simp
  · split
    · simp
    · simp
theorem close_len (want : Bool → Bool → Bool) (s : Wk) (t : Int) : (closeL want s t).length ≤ s.out.length + 1 := by
  unfold closeL
  split
  · exact tell_len _ _
  · omega
theorem step_b (e : Int × Int × Int) : -1 ≤ stepE e ∧ stepE e ≤ 1 := by unfold stepE; split <;> omega
theorem run_b (want : Bool → Bool → Bool) : ∀ (n : Nat) (E : List (Int × Int × Int)), E.length = n → (-(n : Int) ≤ (runL want E).n0 ∧ (runL want E).n0 ≤ n) ∧ (-(n : Int) ≤ (runL want E).n1 ∧ (runL want E).n1 ≤ n) ∧ (runL want E).out.length ≤ n
  | 0, E, h => by
    have : E = [] := List.eq_nil_of_length_eq_zero h
    subst this
    exact ⟨⟨Int.le_refl _, Int.le_refl _⟩, ⟨Int.le_refl _, Int.le_refl _⟩, Nat.le_refl _⟩
  | n + 1, E, h => by
    rcases List.eq_nil_or_concat E with rfl | ⟨P, e, rfl⟩
    · simp at h
    rw [List.concat_eq_append] at *
    have IH := run_b want n P (by simpa using h)
    rw [runL_snoc]
    have hs := step_b e
    have hc := close_len want (runL want P) e.1
    obtain ⟨⟨a, b⟩, ⟨c, d⟩, f⟩ := IH
    unfold passL
    refine ⟨?_, ?_, ?_⟩
    · simp only
      split <;> omega
    · simp only
      split <;> omega
    · simp only
      omega
theorem run_take (want : Bool → Bool → Bool) (E : List (Int × Int × Int)) (i : Nat) (hi : i < E.length) : runL want (E.take (i + 1)) = passL want (runL want (E.take i)) E[i] := by
  rw [List.take_succ_eq_append_getElem hi, runL_snoc]
theorem form_in {L A B : List (Int × Int)} {want : Bool → Bool → Bool} (hw : want false false = false) (hF : Form L) (hm : ∀ x, memI L x = want (memI A x) (memI B x)) (hA : ∀ i ∈ A, In64 i) (hB : ∀ i ∈ B, In64 i) : ∀ i ∈ L, In64 i := by
  intro i hi
  have h0 := hF.1 i hi
  have key : ∀ x, i.1 ≤ x → x < i.2 → ∃ k, In64 k ∧ k.1 ≤ x ∧ x < k.2 := by
    intro x h1 h2
    have a : memI L x = true := memI_iff.mpr ⟨i, hi, h1, h2⟩
    rw [hm x] at a
    by_cases ha : memI A x = true
    · obtain ⟨k, hk, k1, k2⟩ := memI_iff.mp ha
      exact ⟨k, hA k hk, k1, k2⟩
    · by_cases hb : memI B x = true
      · obtain ⟨k, hk, k1, k2⟩ := memI_iff.mp hb
        exact ⟨k, hB k hk, k1, k2⟩
      · simp only [Bool.not_eq_true] at ha hb
        rw [ha, hb, hw] at a
        cases a
  obtain ⟨k, k0, k1, k2⟩ := key i.1 (Int.le_refl _) h0
  obtain ⟨l, l0, l1, l2⟩ := key (i.2 - 1) (by omega) (by omega)
  unfold In64 in64 at *
  omega

set_option maxHeartbeats 1000000 in
theorem gather_any (g : Nat) (want : Bool → Bool → Bool) (hg : Wants g want) (ad bd : Option Addr) (n m ca cb : Nat) (A B : List (Int × Int)) (w : World) (hA : IvAt w ad n A) (hB : IvAt w bd m B) (hn : n + m ≤ 274877906944) :
    Calls Try.prog 25 #[.slice ad n ca, .slice bd m cb, .func (.func g) #[] #[]] w fun e w' => ∃ v E, e = .returned v ∧ (endsL 0 A ++ endsL 1 B).Perm E ∧ E.Pairwise (fun e f => e.1 ≤ f.1) ∧ OwnI w.heap.size w' v (runL want E).out ∧ Below w.heap.size w w' := by
  have u1 : Below w.heap.size w (w.alloc (.cells #[.func (.func g) #[] #[], .int .i64 0, .int .i64 0, .int .i64 0, .slice none 0 0] 46)) := (Below.refl _ _).alloc (Nat.le_refl _) _
  have hst := fun (W : World) (a : Addr) => run_store Try.prog W a (.func (.func g) #[] #[]) .plain rfl
  go_enter Try.func25, Try.ntmps25
  go_wp2_with (go_at_call 33; refine (endsOf_any ad bd n m ca cb A B _ (hA.below u1) (hB.below u1) (by omega)).mono ?_; rintro e w2 ⟨gE, k, cap, E, rfl, p1, p2, p3, hlo, b2⟩)
  have z1 : (w.alloc (.cells #[.func (.func g) #[] #[], .int .i64 0, .int .i64 0, .int .i64 0, .slice none 0 0] 46)).heap.size = w.heap.size + 1 := by simp
  have K2 : IsWk w.heap.size w2 w.heap.size g 0 0 0 (.slice none 0 0) [] := by
    refine ⟨?_, World.ownsRow_nil _ _ _ _⟩
    exact (b2.block _ (by rw [z1]; omega)).trans (heap_alloc_new _ _)
  have bw2 : Below w.heap.size w w2 := u1.trans (b2.mono u1.size)
  have hE2 := p3.len
  have hkE : k ≤ 2 * (n + m) := by
    have := p1.length_eq
    rw [List.length_append] at this
    have a := endsL_len 0 A
    have b := endsL_len 1 B
    rw [hA.len] at a
    rw [hB.len] at b
    omega
  have HOK : Hid (∀ e ∈ E, EndOk e) := fun e he => by
    rcases List.mem_append.mp (p1.mem_iff.mpr he) with h | h
    · exact endsL_ok 0 (Or.inl rfl) A e h
    · exact endsL_ok 1 (Or.inr rfl) B e h
  have hgE : gE ≠ w.heap.size := by omega
  have HP1 : Hid _ := p1
  have HP2 : Hid _ := p2
  clear p1 p2 hst u1 b2 hA hB z1
  go_loopw [16] (fun a wr => ∃ (i : Nat) (v : Value), a = .int .i64 i ∧ i ≤ k ∧ IsWk w.heap.size wr w.heap.size g (runL want (E.take i)).n0 (runL want (E.take i)).n1 (runL want (E.take i)).at_ v (runL want (E.take i)).out ∧ Upd (fun q => q = w.heap.size) w2 wr ∧ (∀ q, v.ownBlock = some q → w2.heap.size ≤ q)) (fun a _ => k - (intOf a).toNat)
  case atStart => exact ⟨0, _, rfl, by omega, K2, Upd.refl _ _, fun q hq => by simp [Value.ownBlock] at hq⟩
  case round =>
    obtain ⟨i, v, rfl, hik, hW, hu, hv⟩ := hrel
    have HV : Hid _ := hv
    clear K2 hv
    have hsz := hu.size
    have hsw := bw2.size
    by_cases hlt : i < k
    · have hlt' : (i : Int) < (k : Int) := by omega
      obtain ⟨b, off, ha, hc⟩ := (p3.upd hu (fun a e => by cases e; exact hgE)).lies (by omega)
      injection ha with ha
      injection ha with ha1 ha2
      subst ha1
      subst ha2
      obtain ⟨c0, c1, c2⟩ := hc i (by omega)
      simp only [Nat.zero_add] at c0 c1 c2
      have hrt := run_take want E i (by omega)
      have hok := HOK.out E[i] (List.getElem_mem (by omega))
      have hb := run_b want i (E.take i) (by rw [List.length_take]; omega)
      generalize E[i]'(by omega) = x at c0 c1 c2 hrt hok
      have HRT : Hid _ := hrt
      have h1 := hW.alloc (.cells #[.int .i64 x.1, .int .i64 x.2.1, .int .i64 x.2.2] 50)
      have P := pass_any w.heap.size w.heap.size g want (runL want (E.take i)) v x _ h1 hg (by simp; omega) (by omega) (by omega) (by omega) hok
      unfold PassP at P
      clear hrt hok hb hc
      go_wp2_with (go_at_call 34; refine P.mono ?_; clear P; rintro e w3 ⟨rfl, v3, h3, u3, m3⟩)
      go_roundw
      case rel =>
        refine ⟨i + 1, v3, by go_num, by omega, ?_, ?_, ?_⟩
        · rw [show runL want (E.take (i + 1)) = _ from HRT.out]; exact h3
        · exact (hu.alloc _).trans u3 (fun q hq e => e.elim id (fun e => by have := HV.out q e; omega))
        · intro q hq
          rcases m3 with h | ⟨r, h, h'⟩
          · exact HV.out q (by rw [← h]; exact hq)
          · rw [hq] at h; cases h; simp at h'; omega
      case measure => simp [intOf]; omega
    · have hlt' : ¬ (i : Int) < (k : Int) := by omega
      have HT : Hid (E.take i = E) := List.take_of_length_le (by omega)
      have HW : Hid _ := hW
      obtain ⟨ao, l, cp, rfl⟩ := row_shape hW.own
      have c4 : wr.cell? ⟨w.heap.size, 4, none⟩ = some (.slice ao l cp) := blk_cell hW.blk 4 rfl
      clear hW
      go_wp2
      go_ret
      refine ⟨_, rfl, E, HP1.out, HP2.out, ?_, bw2.trans (hu.below hsw (fun q hq e => by omega))⟩
      have := HW.out.own
      rw [HT.out] at this
      exact this

/-- The list in its form of a set, as a row of the answer's own. -/
structure Tells (base : Nat) (w : World) (v : Value) (p : Int → Bool) (N : Nat) (L : List (Int × Int)) : Prop where
  own : OwnI base w v L
  form : Form L
  mem : ∀ x, memI L x = p x
  in64 : ∀ i ∈ L, In64 i
  few : L.length ≤ N
theorem gather_set (g : Nat) (want : Bool → Bool → Bool) (hg : Wants g want) (hw : want false false = false) (ad bd : Option Addr) (n m ca cb : Nat) (A B : List (Int × Int)) (w : World) (hA : IvAt w ad n A) (hB : IvAt w bd m B) (hn : n + m ≤ 274877906944) (iA : ∀ i ∈ A, In64 i) (iB : ∀ i ∈ B, In64 i) :
    Calls Try.prog 25 #[.slice ad n ca, .slice bd m cb, .func (.func g) #[] #[]] w fun e w' => ∃ v L, e = .returned v ∧ Tells w.heap.size w' v (fun x => want (memI A x) (memI B x)) (2 * (n + m)) L ∧ Below w.heap.size w w' := by
  refine (gather_any g want hg ad bd n m ca cb A B w hA hB hn).mono ?_
  rintro e w' ⟨v, E, rfl, p1, p2, o, b⟩
  obtain ⟨f, h⟩ := gather_form want hw A B E p1 p2
  refine ⟨v, _, rfl, ⟨o, f, h, form_in hw f h iA iB, ?_⟩, b⟩
  have hb := (run_b want E.length E rfl).2.2
  have := p1.length_eq
  rw [List.length_append] at this
  have a := endsL_len 0 A
  have b := endsL_len 1 B
  rw [hA.len] at a
  rw [hB.len] at b
  omega
theorem wantsN : Wants 26 (fun x _ => x) where
  calls x y w := by
    go_enter Try.func26, Try.ntmps26
    go_wp2
    go_ret
    exact ⟨rfl, rfl⟩
  enters := enters_of Try.func26 (by kernel_rfl) rfl
theorem wantsM : Wants 29 (fun x y => x && y) where
  calls x y w := by
    go_enter Try.func29, Try.ntmps29
    cases x <;> cases y <;> (go_wp2; go_ret; exact ⟨rfl, rfl⟩)
  enters := enters_of Try.func29 (by kernel_rfl) rfl
theorem wantsX : Wants 30 (fun x y => x && !y) where
  calls x y w := by
    go_enter Try.func30, Try.ntmps30
    cases x <;> cases y <;> (go_wp2; go_ret; exact ⟨rfl, rfl⟩)
  enters := enters_of Try.func30 (by kernel_rfl) rfl
theorem normal_any (ad : Option Addr) (n ca : Nat) (A : List (Int × Int)) (w : World) (hA : IvAt w ad n A) (hn : n ≤ 274877906944) (iA : ∀ i ∈ A, In64 i) :
    Calls Try.prog 8 #[.slice ad n ca] w fun e w' => ∃ v L, e = .returned v ∧ Tells w.heap.size w' v (memI A) (2 * n) L ∧ Below w.heap.size w w' := by
  have G := gather_set _ _ wantsN rfl ad none n 0 ca 0 A [] w hA ⟨rfl, fun h => by omega⟩ (by omega) iA (fun _ h => by cases h)
  clear hA
  go_enter Try.func8, Try.ntmps8
  go_wp2_with (go_at_call 25; refine G.mono ?_; clear G; rintro e w' ⟨v, L, rfl, t, b⟩; obtain ⟨ao, l, cp, rfl⟩ := row_shape t.own)
  go_ret
  exact ⟨_, L, rfl, t, b⟩
theorem meet_any (ad bd : Option Addr) (n m ca cb : Nat) (A B : List (Int × Int)) (w : World) (hA : IvAt w ad n A) (hB : IvAt w bd m B) (hn : n + m ≤ 274877906944) (iA : ∀ i ∈ A, In64 i) (iB : ∀ i ∈ B, In64 i) :
    Calls Try.prog 12 #[.slice ad n ca, .slice bd m cb] w fun e w' => ∃ v L, e = .returned v ∧ Tells w.heap.size w' v (fun x => memI A x && memI B x) (2 * (n + m)) L ∧ Below w.heap.size w w' := by
  have G := gather_set _ _ wantsM rfl ad bd n m ca cb A B w hA hB hn iA iB
  clear hA hB
  go_enter Try.func12, Try.ntmps12
  go_wp2_with (go_at_call 25; refine G.mono ?_; clear G; rintro e w' ⟨v, L, rfl, t, b⟩; obtain ⟨ao, l, cp, rfl⟩ := row_shape t.own)
  go_ret
  exact ⟨_, L, rfl, t, b⟩
theorem minus_any (ad bd : Option Addr) (n m ca cb : Nat) (A B : List (Int × Int)) (w : World) (hA : IvAt w ad n A) (hB : IvAt w bd m B) (hn : n + m ≤ 274877906944) (iA : ∀ i ∈ A, In64 i) (iB : ∀ i ∈ B, In64 i) :
    Calls Try.prog 14 #[.slice ad n ca, .slice bd m cb] w fun e w' => ∃ v L, e = .returned v ∧ Tells w.heap.size w' v (fun x => memI A x && !memI B x) (2 * (n + m)) L ∧ Below w.heap.size w w' := by
  have G := gather_set _ _ wantsX rfl ad bd n m ca cb A B w hA hB hn iA iB
  clear hA hB
  go_enter Try.func14, Try.ntmps14
  go_wp2_with (go_at_call 25; refine G.mono ?_; clear G; rintro e w' ⟨v, L, rfl, t, b⟩; obtain ⟨ao, l, cp, rfl⟩ := row_shape t.own)
  go_ret
  exact ⟨_, L, rfl, t, b⟩
end Go.Proofs.Ytakannfkbmnlfaa
