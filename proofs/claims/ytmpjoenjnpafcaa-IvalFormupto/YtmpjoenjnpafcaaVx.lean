/-
  The walk of IvalForm.
-/
import Derived.Test.YtmpjoenjnpafcaaVq
import Derived.Test.YtmpjoenjnpafcaaVw
import Derived.Deep.RegionHeldLaw
namespace Go.Proofs.Ytmpjoenjnpafcaa
open Go.Shelf Go.RowKit Go.Lib
set_option maxRecDepth 100000

/-- Moments lie here. -/
structure MsAt (w : World) (ad : Option Addr) (n : Nat) (l : List Int) : Prop where
  len : l.length = n
  lies : 0 < n → ∃ b off, ad = some ⟨b, off, none⟩ ∧ ∀ i (_ : i < l.length), w.cell? ⟨b, off + i, none⟩ = some (.int .i64 l[i])
theorem MsAt.below {w w' : World} {ad : Option Addr} {n : Nat} {l : List Int} (h : MsAt w ad n l) (hb : Below w.heap.size w w') : MsAt w' ad n l := by
  refine ⟨h.len, fun hp => ?_⟩
  obtain ⟨b, off, ha, hc⟩ := h.lies hp
  exact ⟨b, off, ha, fun i hi => cell_upd (Upd.ofBelow (S := fun _ => False) hb (fun k hk hk' => by omega)) (hc i hi) (fun h => h)⟩
theorem two_mem {T : List (Int × Int)} {x1 x2 m : Int} (h1 : x1 ≤ m) (h2 : m ≤ x2) (x : Int) : memI (T ++ [(m, x2), (x1, m)]) x = ((decide (x1 ≤ x) && decide (x < x2)) || memI T x) := by
  rw [memI_append, Bool.or_comm]
  congr 1
  rw [Bool.eq_iff_iff]
  simp only [memI, List.any_cons, List.any_nil, Bool.or_false, Bool.or_eq_true, Bool.and_eq_true, decide_eq_true_eq]
  omega
theorem one_mem {T : List (Int × Int)} {x1 x2 : Int} (x : Int) : memI (T ++ [(x1, x2)]) x = ((decide (x1 ≤ x) && decide (x < x2)) || memI T x) := by
  rw [memI_append, Bool.or_comm]; simp [memI]
theorem drop_mem {A : List (Int × Int)} {k : Nat} (hk : k < A.length) (x : Int) : memI (A.drop k) x = ((decide (A[k].1 ≤ x) && decide (x < A[k].2)) || memI (A.drop (k + 1)) x) := by
  rw [List.drop_eq_getElem_cons hk]; rfl
theorem ofB (f t : Int) (w : World) :
    Calls Try.prog 28 #[.int .i64 f, .int .i64 t] w fun e w' => e = .returned (.agg #[.int .i64 f, .int .i64 t]) ∧ Below w.heap.size w w' :=
  (of_any f t w).mono fun _ _ ⟨h, h'⟩ => ⟨h, h' ▸ (Below.refl _ _).alloc (Nat.le_refl _) _⟩
/-- Midway: the intervals from the end on, some cut in two. -/
structure Turn (w wr : World) (v : Value) (A : List (Int × Int)) (n j : Nat) : Prop where
  below : Below w.heap.size w wr
  own : ∃ T, OwnI w.heap.size wr v T ∧ (∀ x, memI T x = memI (A.drop j) x) ∧ (∀ i ∈ T, In64 i) ∧ T.length ≤ 2 * (n - j)
set_option maxHeartbeats 2000000 in
theorem formlaw_walk (ad bd md : Option Addr) (n m p ca cb cm : Nat) (A B : List (Int × Int)) (M : List Int) (w : World) (hA : IvAt w ad n A) (hB : IvAt w bd m B) (hM : MsAt w md p M) (hn : n ≤ 1048576) (hm : m ≤ 1048576) (hp : p ≤ 1048576) (iA : ∀ i ∈ A, In64 i) (iB : ∀ i ∈ B, In64 i) (iM : ∀ i ∈ M, in64 i) :
    Calls Try.prog 6 #[.slice ad n ca, .slice bd m cb, .slice md p cm] w fun e w' => e = .returned (.bool true) ∧ Below w.heap.size w w' := by
  obtain ⟨i0, hi, hz0, hz1, hz2⟩ := info_parts Try.info23
  have B0 : Below w.heap.size w w := Below.refl _ _
  have hAl := hA.len
  have N1 := fun W (b : Below w.heap.size w W) => normal_any ad n ca A W (hA.below b) (by omega) iA
  have P1 := fun W (b : Below w.heap.size w W) => meet_any ad bd n m ca cb A B W (hA.below b) (hB.below b) (by omega) iA iB
  have P2 := fun W (b : Below w.heap.size w W) => minus_any ad bd n m ca cb A B W (hA.below b) (hB.below b) (by omega) iA iB
  have N2 : ∀ {base : Nat} {W : World} {ao : Option Addr} {l c : Nat} {L : List (Int × Int)}, Tells base W (.slice ao l c) (memI A) (2 * n) L → Calls Try.prog 16 #[.slice ao l c] W fun e w' => ∃ v L', e = .returned v ∧ Tells W.heap.size w' v (memI L) (2 * l) L' ∧ Below W.heap.size W w' := fun t =>
    normal_any _ _ _ _ _ t.own.at (by have := t.own.len; have := t.few; omega) t.in64
  have hw1 : IntKind.i64.wrap ((n : Int) - 1) = (n : Int) - 1 := wrap_i64_in _ (by omega) (by omega)
  have HAB : Hid (IvAt w ad n A ∧ MsAt w md p M ∧ (∀ i ∈ A, In64 i) ∧ (∀ i ∈ M, in64 i)) := ⟨hA, hM, iA, iM⟩
  clear hA hB hM iA iB iM
  go_enter Try.func6, Try.ntmps6
  go_wp2_with (first
    | (go_at_call 9; refine (alive_any _).mono ?_; rintro e w1 ⟨rfl, b1⟩; have B1 := Below.step B0 b1; clear b1)
    | (go_at_call 16; (with_reducible refine (N1 _ B1).mono ?_); clear N1; rintro e w2 ⟨v2, L2, rfl, t2, b2⟩; obtain ⟨ao2, l2, cp2, rfl⟩ := row_shape t2.own; have B2 := Below.step B1 b2; clear b2)
    | (go_at_call 16; (with_reducible refine (N2 t2).mono ?_); clear N2; rintro e w3 ⟨v3, L3, rfl, t3, b3⟩; obtain ⟨ao3, l3, cp3, rfl⟩ := row_shape t3.own; have B3 := Below.step B2 b3; have O2 := t2.own.below b3; clear b3)
    | (go_at_call 20; (with_reducible refine (P1 _ B3).mono ?_); clear P1; rintro e w4 ⟨v4, L4, rfl, t4, b4⟩; obtain ⟨ao4, l4, cp4, rfl⟩ := row_shape t4.own; have B4 := Below.step B3 b4; have O2 := O2.below b4; have O3 := t3.own.below b4; clear b4)
    | (go_at_call 22; (with_reducible refine (P2 _ B4).mono ?_); clear P2; rintro e w5 ⟨v5, L5, rfl, t5, b5⟩; obtain ⟨ao5, l5, cp5, rfl⟩ := row_shape t5.own; have B5 := Below.step B4 b5; have O2 := O2.below b5; have O3 := O3.below b5; have O4 := t4.own.below b5; clear b5))
  have hfew2 : l2 ≤ 2 * n := by have := t2.few; have := t2.own.len; omega
  have HX : Hid _ := And.intro t2 (And.intro t3 (And.intro t4 (And.intro t5 (And.intro O2 (And.intro O3 O4)))))
  clear t2 t3 t4 t5 O2 O3 O4 B1 B2 B3 B4
  go_loopw [12, 13] (fun v a wr => ∃ (j : Nat), j ≤ n ∧ ((j = 0 ∧ a = .int .i64 (-1)) ∨ (∃ q : Nat, j = q + 1 ∧ a = .int .i64 (q : Int))) ∧ Turn w5 wr v A n j) (fun _ a _ => ((intOf a) + 1).toNat)
  case atStart =>
    refine ⟨n, Nat.le_refl _, ?_, ⟨Below.refl _ _, [], World.ownsRow_nil _ _ _ _, fun x => ?_, (fun _ h => by cases h), by simp⟩⟩
    · by_cases h0 : n = 0
      · exact Or.inl ⟨h0, by rw [h0]; rfl⟩
      · exact Or.inr ⟨n - 1, by omega, by congr 1; omega⟩
    · rw [List.drop_of_length_le (by omega)]
  case round =>
    obtain ⟨j, hj, hcase, hT⟩ := hrel
    obtain ⟨hb, T, oT, mT, iT, lT⟩ := hT
    have hsz := hb.size
    have hs5 := B5.size
    obtain ⟨aoT, lnT, cpT, rfl⟩ := row_shape oT
    have hLT : lnT = T.length := oT.len
    rcases hcase with ⟨rfl, rfl⟩ | ⟨q, rfl, rfl⟩
    · -- the end
      obtain ⟨t2, t3, t4, t5, O2, O3, O4⟩ := HX.out
      have Bw := Below.step B5 hb
      have d0 : decide ((0 : Int) ≤ -1) = false := by decide
      have NT := normal_any aoT lnT cpT T wr oT.at (by omega) iT
      have mA : ∀ x, memI T x = memI A x := fun x => by rw [mT]; rfl
      have e3 : L3 = L2 := form_one t3.form t2.form (fun x => by rw [t3.mem])
      have Q2 := O2.below hb
      have Q3 := O3.below hb
      have Q4 := O4.below hb
      have Q5 := t5.own.below hb
      have HS : Hid _ := And.intro t2 (And.intro t4 (And.intro t5 mA))
      have n3 := Q3.len
      have n4 : l4 ≤ 16777216 := by have := Q4.len; have := t4.few; omega
      have n5 : l5 ≤ 16777216 := by have := Q5.len; have := t5.few; omega
      clear t2 t3 t4 t5 O2 O3 O4 oT mT iT mA hLT lT HX
      subst e3
      have n3' : l3 ≤ 16777216 := by have := Q2.len; omega
      clear n3
      go_wp2_with (first
        | (go_at_call 16; (with_reducible refine NT.mono ?_); clear NT; rintro e w6 ⟨v6, L6, rfl, t6, b6⟩; obtain ⟨ao6, l6, cp6, rfl⟩ := row_shape t6.own; have B6 := Below.step Bw b6; have Q2 := Q2.below b6; have Q3 := Q3.below b6; have Q4 := Q4.below b6; have Q5 := Q5.below b6; obtain rfl : L6 = L3 := form_one t6.form HS.out.1.form (fun x => by rw [t6.mem, HS.out.1.mem]; exact HS.out.2.2.2 x); have Q6 := t6.own; have n6 : l6 ≤ 16777216 := (by have := Q6.len; have := Q2.len; omega); clear b6 t6)
        | (go_at_call 29; (with_reducible refine (form_any ao2 l2 cp2 _ _ Q2.at HS.out.1.form (by omega)).mono ?_); rintro e w7 ⟨rfl, b7⟩; have B7 := Below.step B6 b7; clear B6; have Q2 := Q2.below b7; have Q3 := Q3.below b7; have Q4 := Q4.below b7; have Q5 := Q5.below b7; have Q6 := Q6.below b7; clear b7)
        | (go_at_call 29; (with_reducible refine (form_any ao4 l4 cp4 _ _ Q4.at HS.out.2.1.form (by omega)).mono ?_); rintro e w8 ⟨rfl, b8⟩; have B8 := Below.step B7 b8; clear B7; have Q2 := Q2.below b8; have Q3 := Q3.below b8; have Q4 := Q4.below b8; have Q5 := Q5.below b8; have Q6 := Q6.below b8; clear b8)
        | (go_at_call 29; (with_reducible refine (form_any ao5 l5 cp5 _ _ Q5.at HS.out.2.2.1.form (by omega)).mono ?_); rintro e w9 ⟨rfl, b9⟩; have B9 := Below.step B8 b9; clear B8; have Q2 := Q2.below b9; have Q3 := Q3.below b9; have Q4 := Q4.below b9; have Q5 := Q5.below b9; have Q6 := Q6.below b9; clear b9)
        | (go_at_call 15; (with_reducible refine (same_eq ao3 ao2 l3 l2 cp3 cp2 _ _ Q3.at Q2.at (by omega)).mono ?_); rintro e w10 ⟨rfl, b10⟩; have B10 := Below.step B9 b10; clear B9; have Q2 := Q2.below b10; have Q3 := Q3.below b10; have Q4 := Q4.below b10; have Q5 := Q5.below b10; have Q6 := Q6.below b10; clear b10)
        | (go_at_call 15; (with_reducible refine (same_eq ao6 ao2 l6 l2 cp6 cp2 _ _ Q6.at Q2.at (by omega)).mono ?_); rintro e w11 ⟨rfl, b11⟩; have B11 := Below.step B10 b11; clear B10; have Q2 := Q2.below b11; have Q3 := Q3.below b11; have Q4 := Q4.below b11; have Q5 := Q5.below b11; have Q6 := Q6.below b11; clear b11))
      go_ret
      exact ⟨rfl, B11⟩
    · obtain ⟨hA, hM, iA, iM⟩ := HAB.out
      have Bw := Below.step B5 hb
      have hq : (q : Int) < (n : Int) := by omega
      have hq0 : (0 : Int) ≤ (q : Int) := by omega
      have hq0' : decide ((0 : Int) ≤ (q : Int)) = true := decide_eq_true hq0
      obtain ⟨b1, o1, had, hc1⟩ := (hA.below Bw).lies (by omega)
      subst had
      obtain ⟨c0, c1⟩ := hc1 q (by omega)
      have hdm := fun x => drop_mem (A := A) (k := q) (by omega) x
      have hin := iA A[q] (List.getElem_mem (by omega))
      generalize A[q]'(by omega) = c at c0 c1 hdm hin
      obtain ⟨x1, x2⟩ := c
      simp only at c0 c1 hdm
      have wq : IntKind.i64.wrap ((q : Int) - 1) = (q : Int) - 1 := wrap_i64_in _ (by omega) (by omega)
      have HN : Hid (∀ (wz : World) (v : Value) (T' : List (Int × Int)), Below w5.heap.size w5 wz → OwnI w5.heap.size wz v T' → (∀ x, memI T' x = ((decide (x1 ≤ x) && decide (x < x2)) || memI T x)) → (∀ i ∈ T', In64 i) → T'.length ≤ T.length + 2 → ∃ j', j' ≤ n ∧ ((j' = 0 ∧ (Value.int .i64 ((q : Int) - 1)) = .int .i64 (-1)) ∨ (∃ q' : Nat, j' = q' + 1 ∧ (Value.int .i64 ((q : Int) - 1)) = .int .i64 (q' : Int))) ∧ Turn w5 wz v A n j') := by
        intro wz v T' hz ho hm hi hl
        refine ⟨q, by omega, ?_, ⟨hz, T', ho, fun x => by rw [hm, hdm, mT], hi, by omega⟩⟩
        by_cases h0 : q = 0
        · exact Or.inl ⟨h0, by rw [h0]; rfl⟩
        · exact Or.inr ⟨q - 1, by omega, by congr 1; omega⟩
      have HT3 : Hid _ := And.intro oT (And.intro iT (And.intro hin hLT))
      have hl1 : lnT ≤ 4194304 := by omega
      clear hc1 hdm mT iT lT hin hLT
      by_cases hqp : q < p
      · obtain ⟨b2, o2, had2, hc2⟩ := (hM.below (Below.step Bw ((Below.refl _ wr).alloc (Nat.le_refl _) (.cells #[.int .i64 x1, .int .i64 x2] 23)))).lies (by omega)
        subst had2
        have e0 := hc2 q (by rw [hM.len]; exact hqp)
        have hb2 : b2 < w.heap.size := by
          obtain ⟨b3, o3, h3, hc3⟩ := hM.lies (by omega)
          injection h3 with h3
          injection h3 with h31 h32
          subst h31
          exact World.block_lt_of_cell? w _ (hc3 q (by rw [hM.len]; exact hqp))
        have him := iM (M[q]'(by rw [hM.len]; exact hqp)) (List.getElem_mem _)
        generalize M[q]'(by rw [hM.len]; exact hqp) = mm at e0 him
        have dq : decide ((q : Int) < (p : Int)) = true := decide_eq_true (by omega)
        have dq2 : (q : Int) < (p : Int) := by omega
        clear hc2 hA hM iA iM
        by_cases h1 : x1 ≤ mm
        · have d1 : decide (x1 ≤ mm) = true := decide_eq_true h1
          by_cases h2 : mm ≤ x2
          · have d2 : decide (mm ≤ x2) = true := decide_eq_true h2
            go_wp2
            go_quiet (fail)
            go_wp2
            obtain ⟨w6, hw6⟩ : ∃ W, (wr.alloc (.cells #[.int .i64 x1, .int .i64 x2] 23)).drewN nq = W := ⟨_, rfl⟩
            have B6 : Below wr.heap.size wr w6 := hw6 ▸ ⟨rfl, rfl, rfl, by simp, fun k hk => Below.heap_alloc _ _ _ hk⟩
            have X6 : w6.heap[wr.heap.size]? = some (.cells #[.int .i64 x1, .int .i64 x2] 23) := by rw [← hw6]; exact heap_alloc_new _ _
            have E6 : w6.cell? ⟨b2, o2 + q, none⟩ = some (.int .i64 mm) := by rw [← hw6]; exact e0
            rw [hw6]
            clear hw6 e0
            have z6 := B6.size
            have lX := lt_of_block X6
            have KB : ∀ W, Below w6.heap.size w6 W → W.heap[wr.heap.size]? = some (.cells #[.int .i64 x1, .int .i64 x2] 23) := fun W hW => (hW.block _ lX).trans X6
            have KC : ∀ W, Below w6.heap.size w6 W → (W.cell? ⟨wr.heap.size, 0, none⟩ = some (.int .i64 x1) ∧ W.cell? ⟨wr.heap.size, 1, none⟩ = some (.int .i64 x2) ∧ W.cell? ⟨b2, o2 + q, none⟩ = some (.int .i64 mm)) := fun W hW => ⟨blk_cell (KB W hW) 0 rfl, blk_cell (KB W hW) 1 rfl, (hW.cell (World.block_lt_of_cell? _ _ E6)).trans E6⟩
            have KO : ∀ W, Below w6.heap.size w6 W → W.ownsRow w5.heap.size 23 2 (.slice aoT lnT cpT) lnT (T.flatMap ivC) := fun W hW => by
              have := OwnI.below HT3.out.1 (B6.trans (hW.mono z6))
              unfold OwnI at this
              rw [← HT3.out.2.2.2] at this
              exact this
            have ne1 : (Value.slice aoT lnT cpT).ownBlock ≠ some wr.heap.size := fun e => by
              obtain ⟨_, cs, fz, hk⟩ := own_block HT3.out.1 e
              have := lt_of_block hk
              omega
            have ne2 : (Value.slice aoT lnT cpT).ownBlock ≠ some b2 := fun e => by
              have := (own_block HT3.out.1 e).1
              omega
            clear X6 E6
            go_region_held_law (fun W => (W.cell? ⟨wr.heap.size, 0, none⟩ = some (.int .i64 x1) ∧ W.cell? ⟨wr.heap.size, 1, none⟩ = some (.int .i64 x2) ∧ W.cell? ⟨b2, o2 + q, none⟩ = some (.int .i64 mm))) (first | exact k9 | exact KC _ (by repeat' first | exact Below.refl _ _ | assumption | refine Below.alloc ?_ (by first | omega | (simp; omega) | (simp; done)) _ | refine Below.drew ?_)) (first
              | (refine step_append_lies _ (by rfl) _ _ _ (by rfl) w5.heap.size 23 i0 _ 2 16 Try.underlying29 hi hz0 hz1 hz2 rfl (by omega) (.slice aoT lnT cpT) lnT (T.flatMap ivC) (by rfl) ((KO w7 B7).alloc (.cells #[.int .i64 mm, .int .i64 x2, .int .i64 x1, .int .i64 mm] 23)) ⟨w7.heap.size, 0, none⟩ 2 2 [.int .i64 mm, .int .i64 x2, .int .i64 x1, .int .i64 mm] (by rfl) (by rfl) (World.news_of_block (cs := #[.int .i64 mm, .int .i64 x2, .int .i64 x1, .int .i64 mm]) (t := 23) (fr := (0, 0)) (heap_alloc_new w7 _)) (by simp [Value.oneCell']) (by omega) (by unfold maxLen; omega) (by omega) (by simp; omega) (w7.heap.size + 1) (by simp) ?_; intro gg cap w9 o9 g9 at9 lt9; have k9 : (w9.cell? ⟨wr.heap.size, 0, none⟩ = some (.int .i64 x1) ∧ w9.cell? ⟨wr.heap.size, 1, none⟩ = some (.int .i64 x2) ∧ w9.cell? ⟨b2, o2 + q, none⟩ = some (.int .i64 mm)) := (by obtain ⟨k0, k1, k2⟩ := KC (w7.alloc (.cells #[.int .i64 mm, .int .i64 x2, .int .i64 x1, .int .i64 mm] 23)) (B7.alloc B7.size _); exact ⟨(g9.cell_far _ (by simp; omega) (fun e => ne1 e.symm)).trans k0, (g9.cell_far _ (by simp; omega) (fun e => ne1 e.symm)).trans k1, (g9.cell_far _ (World.block_lt_of_cell? _ _ k2) (fun e => ne2 e.symm)).trans k2⟩); have B9 : Below w5.heap.size w5 w9 := (hb.trans ((B6.trans ((B7.alloc B7.size (.cells #[.int .i64 mm, .int .i64 x2, .int .i64 x1, .int .i64 mm] 23)).mono z6)).mono hsz)).trans (below_grown g9 ((KO w7 B7).alloc (.cells #[.int .i64 mm, .int .i64 x2, .int .i64 x1, .int .i64 mm] 23)) (by simp; omega)))
              | (go_at_call 28; refine (ofB _ _ _).mono ?_; rintro e w7 ⟨rfl, b7⟩; have B7 : Below w6.heap.size w6 w7 := Below.trans (by repeat' first | exact Below.refl _ _ | assumption | refine Below.alloc ?_ (by first | omega | (simp; omega) | (simp; done)) _ | refine Below.drew ?_) (b7.mono (by first | omega | (simp; omega) | (simp; done))); have z7 := B7.size; clear b7))
            go_wp2
            go_roundw
            case rel =>
              refine HN.out _ _ (T ++ [(mm, x2), (x1, mm)]) ?_ ?_ (fun x => two_mem h1 h2 x) ?_ (by simp)
              · exact B9
              · unfold OwnI
                rw [List.length_append, List.flatMap_append, ← HT3.out.2.2.2]
                exact o9
              · intro i hi
                rcases List.mem_append.mp hi with h | h
                · exact HT3.out.2.1 i h
                · have hx := HT3.out.2.2.1
                  rcases List.mem_cons.mp h with rfl | h
                  · exact ⟨him, hx.2⟩
                  · cases List.mem_singleton.mp h; exact ⟨hx.1, him⟩
            case measure => simp [intOf]
          · have d2 : decide (mm ≤ x2) = false := decide_eq_false h2
            go_wp2
            go_quiet (fail)
            have oS := HT3.out.1
            have OW : (((wr.alloc (.cells #[.int .i64 x1, .int .i64 x2] 23)).drewN nq).alloc (.cells #[.int .i64 x1, .int .i64 x2] 23)).ownsRow w5.heap.size 23 2 (.slice aoT lnT cpT) lnT (T.flatMap ivC) := by
              have := ownsRow_upd oS ((((Upd.refl (fun _ => False) wr).alloc (.cells #[.int .i64 x1, .int .i64 x2] 23)).drewN nq).alloc (.cells #[.int .i64 x1, .int .i64 x2] 23)) (fun _ _ h => h)
              rw [← HT3.out.2.2.2] at this
              exact this
            have hN : ∀ q u, ([.int .i64 x1, .int .i64 x2] : List Value)[q]? = some u → (((wr.alloc (.cells #[.int .i64 x1, .int .i64 x2] 23)).drewN nq).alloc (.cells #[.int .i64 x1, .int .i64 x2] 23)).cell? ((⟨wr.heap.size + 1, 0, none⟩ : Addr).add q) = some u := World.news_of_block (cs := #[.int .i64 x1, .int .i64 x2]) (t := 23) (fr := (0, 0)) (heap_at (by simp))
            clear oS
            go_wp2_with (at_builtin; refine wpList_appW _ rfl _ _ 29 29 rfl w5.heap.size 23 i0 _ 2 16 Try.underlying29 hi hz0 hz1 hz2 rfl (.slice aoT lnT cpT) lnT _ rfl OW _ 1 [.int .i64 x1, .int .i64 x2] rfl (Src.ofSlice _ Try.underlying29 ⟨wr.heap.size + 1, 0, none⟩ 1 1 _ rfl hN (by simp [Value.oneCell'])) (by unfold maxLen; omega) (by omega) (by simp; omega) ?_; intro v9 w9 o9 g9 m9)
            go_roundw
            case rel =>
              refine HN.out w9 v9 (T ++ [(x1, x2)]) ?_ ?_ (fun x => one_mem x) ?_ (by simp)
              · exact (hb.alloc hb.size (.cells #[.int .i64 x1, .int .i64 x2] 23)).trans (Below.trans (b := ((wr.alloc (.cells #[.int .i64 x1, .int .i64 x2] 23)).drewN nq).alloc (.cells #[.int .i64 x1, .int .i64 x2] 23)) ⟨rfl, rfl, rfl, by simp, fun k hk => Below.heap_alloc _ _ _ (by simp; omega)⟩ (below_grown g9 OW (by simp; omega)))
              · unfold OwnI
                rw [List.length_append, List.flatMap_append, ← HT3.out.2.2.2]
                exact o9
              · intro i hi
                rcases List.mem_append.mp hi with h | h
                · exact HT3.out.2.1 i h
                · cases List.mem_singleton.mp h; exact HT3.out.2.2.1
            case measure => simp [intOf]
        · have d1 : decide (x1 ≤ mm) = false := decide_eq_false h1
          go_wp2
          go_quiet (fail)
          have oS := HT3.out.1
          have OW : (((wr.alloc (.cells #[.int .i64 x1, .int .i64 x2] 23)).drewN nq).alloc (.cells #[.int .i64 x1, .int .i64 x2] 23)).ownsRow w5.heap.size 23 2 (.slice aoT lnT cpT) lnT (T.flatMap ivC) := by
            have := ownsRow_upd oS ((((Upd.refl (fun _ => False) wr).alloc (.cells #[.int .i64 x1, .int .i64 x2] 23)).drewN nq).alloc (.cells #[.int .i64 x1, .int .i64 x2] 23)) (fun _ _ h => h)
            rw [← HT3.out.2.2.2] at this
            exact this
          have hN : ∀ q u, ([.int .i64 x1, .int .i64 x2] : List Value)[q]? = some u → (((wr.alloc (.cells #[.int .i64 x1, .int .i64 x2] 23)).drewN nq).alloc (.cells #[.int .i64 x1, .int .i64 x2] 23)).cell? ((⟨wr.heap.size + 1, 0, none⟩ : Addr).add q) = some u := World.news_of_block (cs := #[.int .i64 x1, .int .i64 x2]) (t := 23) (fr := (0, 0)) (heap_at (by simp))
          clear oS
          go_wp2_with (at_builtin; refine wpList_appW _ rfl _ _ 29 29 rfl w5.heap.size 23 i0 _ 2 16 Try.underlying29 hi hz0 hz1 hz2 rfl (.slice aoT lnT cpT) lnT _ rfl OW _ 1 [.int .i64 x1, .int .i64 x2] rfl (Src.ofSlice _ Try.underlying29 ⟨wr.heap.size + 1, 0, none⟩ 1 1 _ rfl hN (by simp [Value.oneCell'])) (by unfold maxLen; omega) (by omega) (by simp; omega) ?_; intro v9 w9 o9 g9 m9)
          go_roundw
          case rel =>
            refine HN.out w9 v9 (T ++ [(x1, x2)]) ?_ ?_ (fun x => one_mem x) ?_ (by simp)
            · exact (hb.alloc hb.size (.cells #[.int .i64 x1, .int .i64 x2] 23)).trans (Below.trans (b := ((wr.alloc (.cells #[.int .i64 x1, .int .i64 x2] 23)).drewN nq).alloc (.cells #[.int .i64 x1, .int .i64 x2] 23)) ⟨rfl, rfl, rfl, by simp, fun k hk => Below.heap_alloc _ _ _ (by simp; omega)⟩ (below_grown g9 OW (by simp; omega)))
            · unfold OwnI
              rw [List.length_append, List.flatMap_append, ← HT3.out.2.2.2]
              exact o9
            · intro i hi
              rcases List.mem_append.mp hi with h | h
              · exact HT3.out.2.1 i h
              · cases List.mem_singleton.mp h; exact HT3.out.2.2.1
          case measure => simp [intOf]
      · have dq : decide ((q : Int) < (p : Int)) = false := decide_eq_false (by omega)
        have dq2 : ¬ (q : Int) < (p : Int) := by omega
        clear hA hM iA iM
        go_wp2
        go_quiet (fail)
        have oS := HT3.out.1
        have OW : (((wr.alloc (.cells #[.int .i64 x1, .int .i64 x2] 23)).drewN nq).alloc (.cells #[.int .i64 x1, .int .i64 x2] 23)).ownsRow w5.heap.size 23 2 (.slice aoT lnT cpT) lnT (T.flatMap ivC) := by
          have := ownsRow_upd oS ((((Upd.refl (fun _ => False) wr).alloc (.cells #[.int .i64 x1, .int .i64 x2] 23)).drewN nq).alloc (.cells #[.int .i64 x1, .int .i64 x2] 23)) (fun _ _ h => h)
          rw [← HT3.out.2.2.2] at this
          exact this
        have hN : ∀ q u, ([.int .i64 x1, .int .i64 x2] : List Value)[q]? = some u → (((wr.alloc (.cells #[.int .i64 x1, .int .i64 x2] 23)).drewN nq).alloc (.cells #[.int .i64 x1, .int .i64 x2] 23)).cell? ((⟨wr.heap.size + 1, 0, none⟩ : Addr).add q) = some u := World.news_of_block (cs := #[.int .i64 x1, .int .i64 x2]) (t := 23) (fr := (0, 0)) (heap_at (by simp))
        clear oS
        go_wp2_with (at_builtin; refine wpList_appW _ rfl _ _ 29 29 rfl w5.heap.size 23 i0 _ 2 16 Try.underlying29 hi hz0 hz1 hz2 rfl (.slice aoT lnT cpT) lnT _ rfl OW _ 1 [.int .i64 x1, .int .i64 x2] rfl (Src.ofSlice _ Try.underlying29 ⟨wr.heap.size + 1, 0, none⟩ 1 1 _ rfl hN (by simp [Value.oneCell'])) (by unfold maxLen; omega) (by omega) (by simp; omega) ?_; intro v9 w9 o9 g9 m9)
        go_roundw
        case rel =>
          refine HN.out w9 v9 (T ++ [(x1, x2)]) ?_ ?_ (fun x => one_mem x) ?_ (by simp)
          · exact (hb.alloc hb.size (.cells #[.int .i64 x1, .int .i64 x2] 23)).trans (Below.trans (b := ((wr.alloc (.cells #[.int .i64 x1, .int .i64 x2] 23)).drewN nq).alloc (.cells #[.int .i64 x1, .int .i64 x2] 23)) ⟨rfl, rfl, rfl, by simp, fun k hk => Below.heap_alloc _ _ _ (by simp; omega)⟩ (below_grown g9 OW (by simp; omega)))
          · unfold OwnI
            rw [List.length_append, List.flatMap_append, ← HT3.out.2.2.2]
            exact o9
          · intro i hi
            rcases List.mem_append.mp hi with h | h
            · exact HT3.out.2.1 i h
            · cases List.mem_singleton.mp h; exact HT3.out.2.2.1
        case measure => simp [intOf]
end Go.Proofs.Ytmpjoenjnpafcaa
