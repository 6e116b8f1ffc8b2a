/-
  Layer 13 (sketch): SketchPlays: ends, its walk.
-/
import Derived.Test.YtmegmjhkjaejgaaLE
import Derived.Deep.RegionHeld3
namespace Go.Proofs.Ytmegmjhkjaejgaa.sk.pl
open Go Go.RowKit Go.Proofs.Ytmegmjhkjaejgaa.sk
set_option maxRecDepth 100000

theorem takeH {P : Program} {Q : Exit → Act → World → Prop} {md : Region.Mode} {S : World → Prop} {l : List Oper} {i : Nat} {oi : Oper} {v : Value} {fuel : Nat} {listed : Array Bool} {a : Act} {w : World} (hi : l[i]? = some oi)
    (hs : Region.noSelect l.toArray = true) (hf : Region.free md l.toArray listed i = true) (hr : (Region.ready md l.toArray listed).contains i = true)
    (hQ : ∀ c a w, Q (.panic c) (a.put oi.dst v) w → Q (.panic c) a w) (hy : YieldsIf P l.toArray S oi v a) (hS : S w)
    (h : wpAnyH P md l.toArray Q S fuel (listed.setIfInBounds i true) (a.put oi.dst v) w) : wpAnyH P md l.toArray Q S (fuel + 1) listed a w :=
  wpAnyH_take (by simpa using hi) hs hf hr hQ hy hS h
theorem onlyH {P : Program} {Q : Exit → Act → World → Prop} {md : Region.Mode} {S : World → Prop} {l : List Oper} {i : Nat} {oi : Oper} {fuel : Nat} {listed : Array Bool} {a : Act} {w : World} (hi : l[i]? = some oi)
    (hr : Region.ready md l.toArray listed = [i])
    (h : ∀ K : Act → World → Prop, (∀ a' w', S w' ∧ wpAnyH P md l.toArray Q S fuel (listed.setIfInBounds i true) a' w' → K a' w') → if Region.wanted oi (yielded l.toArray a.tmps) = true then Oper.wp P oi a w K Q else K (a.put oi.dst undef) w) : wpAnyH P md l.toArray Q S (fuel + 1) listed a w := by
  refine wpAnyH_all hr (by simp) ?_
  intro j hj
  simp at hj
  subst hj
  have hi' : l.toArray[j]? = some oi := by simpa using hi
  unfold wpOp
  simp only [hi']
  have := h (fun a' w' => S w' ∧ wpAnyH P md l.toArray Q S fuel (listed.setIfInBounds j true) a' w') (fun _ _ h => h)
  split
  · rename_i hw; rw [if_pos hw] at this; exact Or.inl this
  · rename_i hw; rw [if_neg hw] at this; exact this
set_option maxHeartbeats 4000000 in
theorem ends_some (base gb gl m c : Nat) (wv : Value) (vs us0 : List Value) (Ks : List (List (Int × Int))) (w : World) (B : BookAt base w gb (.slice (some ⟨gl, 0, none⟩) m c) wv vs us0 Ks) (hb0 : base ≤ w.heap.size) (hvl : vs.length ≤ 7000000000) (hm : vs.length = m) (hm0 : 0 < m) (hK : ∀ K ∈ Ks, K.length ≤ 1920 ∧ Bin K) :
    Calls Try.prog 9 #[.pointer (some ⟨gb, 0, none⟩)] w fun e w' => e = .returned (.bool true) ∧ Below base w w' := by
  have hsl : Ks.length = m := by rw [← B.vlen]; exact hm
  have hul : us0.length = m := by rw [B.ulen]; exact hsl
  have HAP : Hid (∀ a b (ha : a < vs.length) (hb : b < vs.length), a ≠ b → ∀ k, vs[a].ownBlock = some k → vs[b].ownBlock ≠ some k) := fun a b ha hb hne k => B.apart a b _ _ (List.getElem?_eq_getElem ha) (List.getElem?_eq_getElem hb) hne k
  obtain ⟨i0, hip, hp0, hp1, hp2⟩ := info_parts Try.info46
  obtain ⟨i1, hiq, hq0, hq1, hq2⟩ := info_parts Try.infoBB
  have S0 : P1 base w w gb gl m c wv vs 0 := ⟨Below.refl _ _, B.block, by have := B.lown; rw [hm] at this; exact this, fun j hj => by
    have hjK : j < Ks.length := by omega
    exact ⟨_, _, by have := (hK _ (List.getElem_mem hjK)).1; omega, B.vrow j _ _ (List.getElem?_eq_getElem hj) (List.getElem?_eq_getElem hjK), fun h => by omega⟩⟩
  have HLN : Hid (∀ j (hj : j < vs.length), ∃ ao l c, vs[j] = .slice ao l c ∧ l ≤ 1000000) := fun j hj => by
    obtain ⟨n, xs, h1, h2, _⟩ := S0.rows j hj
    obtain ⟨ao, l, c, e⟩ := row_shape h2
    rw [e] at h2
    obtain ⟨h3, _⟩ := own_cap h2
    exact ⟨ao, l, c, e, by omega⟩
  obtain ⟨awv, lwv, cwv, rfl⟩ := row_shape B.wown
  have CMP : Hid (∀ j, j < m → ∃ a1 l1 c1 a2 l2 c2 gw, awv = some ⟨gw, 0, none⟩ ∧ w.cell? ⟨gl, j, none⟩ = some (.slice a1 l1 c1) ∧ w.cell? ⟨gw, j, none⟩ = some (.slice a2 l2 c2) ∧ Hid (∀ q, Calls Try.prog 27 #[.slice a1 l1 c1, .slice a2 l2 c2] (w.drewN q) fun e w' => e = .returned (.bool true) ∧ ∃ q', w' = (w.drewN q).drewN q')) := fun j hj => by
    have hjv : j < vs.length := by omega
    have hju : j < us0.length := by omega
    have hjK : j < Ks.length := by omega
    have r1 := B.vrow j _ _ (List.getElem?_eq_getElem hjv) (List.getElem?_eq_getElem hjK)
    have r2 := B.urow j _ _ (List.getElem?_eq_getElem hju) (List.getElem?_eq_getElem hjK)
    obtain ⟨gw, cw, ew, _, _, _, hw⟩ := own_some B.wown (by omega)
    simp only [Value.slice.injEq] at ew
    have cv := lown_cell S0.lown j hjv
    have cu := hw j _ (List.getElem?_eq_getElem hju)
    obtain ⟨a1, l1, c1, e1⟩ := row_shape r1
    obtain ⟨a2, l2, c2, e2⟩ := row_shape r2
    rw [e1] at cv r1
    rw [e2] at cu r2
    have kb := hK _ (List.getElem_mem hjK)
    have hin : ∀ {ao : Option Addr} {n c : Nat}, OwnBar base w (.slice ao n c) Ks[j] → ∀ q, InAt (w.drewN q) ao n Ks[j] := fun h q => ⟨h.at.drewN q, fun a ha _ => by
      subst ha
      exact (own_lt h (by rfl)).1, by have h2 := (own_cap h).1; unfold maxLen; omega, kb.2⟩
    refine ⟨a1, l1, c1, a2, l2, c2, gw, ew.1, cv, cu, fun q => ?_⟩
    have h := same_any a1 a2 l1 l2 c1 c2 Ks[j] Ks[j] (w.drewN q) (hin r1 q) (hin r2 q)
    unfold SameP at h
    rw [show sameB Ks[j] Ks[j] = true by unfold sameB; simp] at h
    exact h
  obtain ⟨c0, c1⟩ := cell2 B.block
  have hlw : lwv = m := by rw [← hul]; exact (own_cap B.wown).1
  obtain rfl : m = lwv := hlw.symm
  have hmm : (m : Int) ≤ 7000000000 := by omega
  clear B hul hsl hK hlw
  go_enter Try.func9, Try.ntmps9
  go_wp2
  go_loopw [2, 3, 4] (fun z a b wr => ∃ i q : Nat, z = .bool false ∧ a = .int .i64 i ∧ (b = .bool true ∨ b = undef) ∧ i ≤ m ∧ wr = w.drewN q) (fun _ a _ _ => m - (intOf a).toNat)
  case atStart => exact ⟨0, 0, rfl, rfl, Or.inr rfl, by omega, rfl⟩
  case round =>
    obtain ⟨i, q, rfl, rfl, hbb, him, rfl⟩ := hrel
    by_cases hlt : i < m
    · have hz : (i : Int) < (m : Int) := by omega
      obtain ⟨a1, l1, c1', a2, l2, c2', gw, rfl, d1, d2, SM⟩ := CMP.out i hlt
      have d1q : ∀ q, (w.drewN q).cell? ⟨gl, i, none⟩ = some (.slice a1 l1 c1') := fun _ => d1
      have d2q : ∀ q, (w.drewN q).cell? ⟨gw, i, none⟩ = some (.slice a2 l2 c2') := fun _ => d2
      have c0q : ∀ q, (w.drewN q).cell? ⟨gb, 0, none⟩ = some (.slice (some ⟨gl, 0, none⟩) m c) := fun _ => c0
      have c1q : ∀ q, (w.drewN q).cell? ⟨gb, 1, none⟩ = some (.slice (some ⟨gw, 0, none⟩) m cwv) := fun _ => c1
      have SMd := SM.out (q + 1)
      clear SM
      go_wp2
      refine wp_region_held (S := fun W => ∃ q, W = w.drewN q) (by kernel_rfl) ?_
      change wpAnyH _ _ _ _ _ _ _ _ (World.drew _)
      have hS : ∃ q', (w.drewN q).drew = w.drewN q' := ⟨q + 1, rfl⟩
      refine takeH (i := 0) (v := .pointer (some ⟨gb, 0, none⟩)) rfl (by kernel_rfl) (by kernel_rfl) (by kernel_rfl) (fun _ _ _ h => h) (Or.inl ⟨by rfl, fun W hW => by go_simp⟩) hS ?_
      simp only [Act.put, List.setIfInBounds_toArray, List.set_cons_zero, List.set_cons_succ]
      refine takeH (i := 1) (v := .pointer (some ⟨gb, 0, none⟩)) rfl (by kernel_rfl) (by kernel_rfl) (by kernel_rfl) (fun _ _ _ h => h) (Or.inl ⟨by rfl, fun W hW => by obtain ⟨q, rfl⟩ := hW; go_simp⟩) hS ?_
      simp only [Act.put, List.setIfInBounds_toArray, List.set_cons_zero, List.set_cons_succ]
      refine takeH (i := 2) (v := .pointer (some ⟨gb, 0, none⟩)) rfl (by kernel_rfl) (by kernel_rfl) (by kernel_rfl) (fun _ _ _ h => h) (Or.inl ⟨by rfl, fun W hW => by go_simp⟩) hS ?_
      simp only [Act.put, List.setIfInBounds_toArray, List.set_cons_zero, List.set_cons_succ]
      refine takeH (i := 3) (v := .slice (some ⟨gl, 0, none⟩) m c) rfl (by kernel_rfl) (by kernel_rfl) (by kernel_rfl) (fun _ _ _ h => h) (Or.inl ⟨by rfl, fun W hW => by obtain ⟨q, rfl⟩ := hW; go_simp⟩) hS ?_
      simp only [Act.put, List.setIfInBounds_toArray, List.set_cons_zero, List.set_cons_succ]
      refine takeH (i := 4) (v := .int .i64 (i : Int)) rfl (by kernel_rfl) (by kernel_rfl) (by kernel_rfl) (fun _ _ _ h => h) (Or.inl ⟨by rfl, fun W hW => by go_simp⟩) hS ?_
      simp only [Act.put, List.setIfInBounds_toArray, List.set_cons_zero, List.set_cons_succ]
      refine takeH (i := 5) (v := .pointer (some ⟨gl, i, none⟩)) rfl (by kernel_rfl) (by kernel_rfl) (by kernel_rfl) (fun _ _ _ h => h) (Or.inl ⟨by rfl, fun W hW => by obtain ⟨q, rfl⟩ := hW; go_simp⟩) hS ?_
      simp only [Act.put, List.setIfInBounds_toArray, List.set_cons_zero, List.set_cons_succ]
      refine takeH (i := 6) (v := .slice a1 l1 c1') rfl (by kernel_rfl) (by kernel_rfl) (by kernel_rfl) (fun _ _ _ h => h) (Or.inl ⟨by rfl, fun W hW => by obtain ⟨q, rfl⟩ := hW; go_simp⟩) hS ?_
      simp only [Act.put, List.setIfInBounds_toArray, List.set_cons_zero, List.set_cons_succ]
      refine takeH (i := 7) (v := .pointer (some ⟨gb, 0, none⟩)) rfl (by kernel_rfl) (by kernel_rfl) (by kernel_rfl) (fun _ _ _ h => h) (Or.inl ⟨by rfl, fun W hW => by go_simp⟩) hS ?_
      simp only [Act.put, List.setIfInBounds_toArray, List.set_cons_zero, List.set_cons_succ]
      refine takeH (i := 8) (v := .pointer (some ⟨gb, 0, none⟩)) rfl (by kernel_rfl) (by kernel_rfl) (by kernel_rfl) (fun _ _ _ h => h) (Or.inl ⟨by rfl, fun W hW => by obtain ⟨q, rfl⟩ := hW; go_simp⟩) hS ?_
      simp only [Act.put, List.setIfInBounds_toArray, List.set_cons_zero, List.set_cons_succ]
      refine takeH (i := 9) (v := .pointer (some ⟨gb, 1, none⟩)) rfl (by kernel_rfl) (by kernel_rfl) (by kernel_rfl) (fun _ _ _ h => h) (Or.inl ⟨by rfl, fun W hW => by go_simp⟩) hS ?_
      simp only [Act.put, List.setIfInBounds_toArray, List.set_cons_zero, List.set_cons_succ]
      refine takeH (i := 10) (v := .slice (some ⟨gw, 0, none⟩) m cwv) rfl (by kernel_rfl) (by kernel_rfl) (by kernel_rfl) (fun _ _ _ h => h) (Or.inl ⟨by rfl, fun W hW => by obtain ⟨q, rfl⟩ := hW; go_simp⟩) hS ?_
      simp only [Act.put, List.setIfInBounds_toArray, List.set_cons_zero, List.set_cons_succ]
      refine takeH (i := 11) (v := .int .i64 (i : Int)) rfl (by kernel_rfl) (by kernel_rfl) (by kernel_rfl) (fun _ _ _ h => h) (Or.inl ⟨by rfl, fun W hW => by go_simp⟩) hS ?_
      simp only [Act.put, List.setIfInBounds_toArray, List.set_cons_zero, List.set_cons_succ]
      refine takeH (i := 12) (v := .pointer (some ⟨gw, i, none⟩)) rfl (by kernel_rfl) (by kernel_rfl) (by kernel_rfl) (fun _ _ _ h => h) (Or.inl ⟨by rfl, fun W hW => by obtain ⟨q, rfl⟩ := hW; go_simp⟩) hS ?_
      simp only [Act.put, List.setIfInBounds_toArray, List.set_cons_zero, List.set_cons_succ]
      refine takeH (i := 13) (v := .slice a2 l2 c2') rfl (by kernel_rfl) (by kernel_rfl) (by kernel_rfl) (fun _ _ _ h => h) (Or.inl ⟨by rfl, fun W hW => by obtain ⟨q, rfl⟩ := hW; go_simp⟩) hS ?_
      simp only [Act.put, List.setIfInBounds_toArray, List.set_cons_zero, List.set_cons_succ]
      refine onlyH (i := 14) rfl (by kernel_rfl) (fun K hK => ?_)
      go_simp
      go_at_call 27
      (with_reducible refine (SMd).mono ?_)
      rintro e w5 ⟨rfl, q5, hq5⟩
      have hS5 : ∃ q', w5 = w.drewN q' := ⟨q + 1 + q5, by rw [hq5]; exact drewN_drewN w (q + 1) q5⟩
      refine hK _ _ ⟨hS5, ?_⟩
      clear hK K
      refine takeH (i := 15) (v := .bool true) rfl (by kernel_rfl) (by kernel_rfl) (by kernel_rfl) (fun _ _ _ h => h) (Or.inl ⟨by rfl, fun W hW => by go_simp⟩) hS5 ?_
      simp only [Act.put, List.setIfInBounds_toArray, List.set_cons_zero, List.set_cons_succ]
      refine wpAnyH_done (by kernel_rfl) ?_ _
      obtain ⟨q6, hq6⟩ := hS5
      subst hq6
      clear hq5
      go_wp2
      go_roundw
      case rel => exact ⟨i + 1, q6, rfl, by go_num, Or.inl rfl, by omega, rfl⟩
      case measure => simp [intOf]; omega
    · obtain rfl : m = i := by omega
      have S1 := S0.drewN hb0 q
      have HQ1 : Hid (P1 base w (w.drewN q) gb gl m c (.slice awv m cwv) vs 0) := S1
      clear S0 CMP S1
      go_wp2
      clear c0 c1
      go_loopw [5] (fun a wr => ∃ i : Nat, a = .int .i64 i ∧ i ≤ m ∧ P1 base w wr gb gl m c (.slice awv m cwv) vs i) (fun a _ => m - (intOf a).toNat)
      case atStart => exact ⟨0, rfl, by omega, HQ1.out⟩
      case round =>
        obtain ⟨i, rfl, him, S⟩ := hrel
        clear HQ1
        obtain ⟨c0, c1⟩ := cell2 S.block
        by_cases hlt : i < m
        · have hz : (i : Int) < (m : Int) := by omega
          have hiv : i < vs.length := by omega
          obtain ⟨n, xs, hn, ho, hx⟩ := S.rows i hiv
          obtain ⟨v, hv⟩ : ∃ v, vs[i] = v := ⟨_, rfl⟩
          rw [hv] at ho
          obtain ⟨ao, l, cc, rfl⟩ := row_shape ho
          obtain ⟨hl1, hl2, hl3⟩ := own_cap ho
          obtain rfl : n = l := hl1.symm
          have hwn : IntKind.i64.wrap (-(i : Int)) = -(i : Int) := by rw [IntKind.wrap_i64]; omega
          clear hx
          go_wp2
          go_loopw [6] (fun a w2 => ∃ (k : Nat) (ys : List Value), a = .int .i64 k ∧ k ≤ n ∧ w2.ownsRow base 46 2 (.slice ao n cc) n (marks (mkP i) k ++ ys) ∧ P1 base w w2 gb gl m c (.slice awv m cwv) vs i) (fun a _ => n - (intOf a).toNat)
          case atStart => exact ⟨0, xs, rfl, by omega, by simpa [marks] using ho, S⟩
          case round =>
            obtain ⟨k, ys, rfl, hkn, ho2, S2⟩ := hrel
            clear c0 c1 S
            obtain ⟨c0, c1⟩ := cell2 S2.block
            have hc2 := lown_cell S2.lown i hiv
            rw [hv] at hc2
            by_cases hk : k < n
            · have hzk : (k : Int) < (n : Int) := by omega
              have ho3 := ho2
              obtain ⟨hx1, ⟨e, he⟩ | ⟨g, cap, cur, e, hbg, hg, q1, q2, q3, q4⟩⟩ := ho2
              · omega
              cases e
              have o4 := ownsRow_set (ownsRow_set ho3 (k * 2) (.int .i64 (-(i : Int)))) (k * 2 + 1) (.int .u64 0)
              have hyl : 2 ≤ ys.length := by rw [List.length_append, marks_len, mkP_len] at hx1; omega
              rw [marks_two i k ys hyl] at o4
              have u4 : Upd (fun j => j = g) wr ((wr.setCell ⟨g, k * 2, none⟩ (.int .i64 (-(i : Int)))).setCell ⟨g, k * 2 + 1, none⟩ (.int .u64 0)) := (upd_one wr g _ _).trans (upd_one _ g _ _) (fun _ _ h => h)
              have S4 := S2.upd hiv hv (by have := S2.below.size; omega) HAP.out hg hbg u4 hn (by rw [hv]; exact o4)
              have hsz : ∀ j, j < 2 → ∃ y, wr.cell? ⟨g, k * 2 + j, none⟩ = some y := fun j hj => ⟨cur[k * 2 + j]'(by have := Nat.mul_le_mul_right 2 q1; omega), by simp [World.cell?, hg, show k * 2 + j < cur.size by have := Nat.mul_le_mul_right 2 q1; omega]⟩
              obtain ⟨y0, e0⟩ := hsz 0 (by omega)
              obtain ⟨y1, e1⟩ := hsz 1 (by omega)
              rw [Nat.add_zero] at e0
              have f0 := free2 hg (k * 2)
              have f1 := free2 hg (k * 2 + 1)
              have O4 : Hid (World.ownsRow _ base 46 2 _ n (marks (mkP i) (k + 1) ++ ys.drop 2)) := o4
              have HS4 : Hid (P1 base w _ gb gl m c (.slice awv m cwv) vs i) := S4
              clear o4 u4 S4 hx1 ho3 S2 q4 q3 hg hsz hyl
              go_wp2
              go_roundw
              case rel => exact ⟨k + 1, _, by go_num, by omega, O4.out, HS4.out⟩
              case measure => simp [intOf]; omega
            · obtain rfl : n = k := by omega
              have hys : ys = [] := by
                have h1 := ho2.1
                rw [List.length_append, marks_len, mkP_len] at h1
                exact List.eq_nil_of_length_eq_zero (by omega)
              subst hys
              rw [List.append_nil] at ho2
              have S5 := S2.next hn hiv (by rw [hv]; exact ho2)
              have HS5 : Hid (P1 base w wr gb gl m c (.slice awv m cwv) vs (i + 1)) := S5
              clear S5 ho2 S2
              go_wp2
              go_roundw
              case rel => exact ⟨i + 1, by go_num, by omega, HS5.out⟩
              case measure => simp [intOf]; omega
        · obtain rfl : m = i := by omega
          have T0 : P2 base w wr gb gl m c (.slice awv m cwv) vs (.slice none 0 0) [] (famP vs []) := by
            have S' := S
            rw [← hm] at S'
            rw [← hm]
            exact S'.start HAP.out
          clear S
          go_wp2
          clear c0 c1
          go_loopw [7, 8] (fun a b wr => ∃ (j : Nat) (us : List Value), b = .int .i64 j ∧ j ≤ m ∧ us.length = 2 * j ∧ P2 base w wr gb gl m c (.slice awv m cwv) vs a us (famP vs us)) (fun _ b _ => m - (intOf b).toNat)
          case atStart => exact ⟨0, [], rfl, by omega, rfl, T0⟩
          case round =>
            obtain ⟨j, us, rfl, hji, hul, T⟩ := hrel
            have HUL : Hid (us.length = 2 * j) := hul
            have hub : us.length ≤ 14000000000 := by omega
            clear hul T0
            have hbs := T.below.size
            obtain ⟨c0, c1⟩ := cell2 T.block
            obtain ⟨aL, lL, cL, rfl⟩ := row_shape T.long
            by_cases hlt : j < m
            · have hz : (j : Int) < (m : Int) := by omega
              have hjv : j < vs.length := by omega
              obtain ⟨ao, l, cc, hv, hlb⟩ := HLN.out j hjv
              have hc := lown_cell T.lown j hjv
              rw [hv] at hc
              have HF0 : famP vs us j (.slice ao l cc) := Or.inl (by rw [List.getElem?_eq_getElem hjv, hv])
              have A0 : wr.ownsRow base 46 2 (.slice ao l cc) (l + 0) (marks (mkP j) (l + 0)) := by
                obtain ⟨n, ho⟩ := T.fams.full _ _ HF0
                obtain ⟨h1, _⟩ := own_cap ho
                rw [← h1] at ho
                exact ho
              have hwn : IntKind.i64.wrap (-(j : Int)) = -(j : Int) := by rw [IntKind.wrap_i64]; omega
              go_wp2
              clear c0 c1 hc
              go_loopw [9, 10] (fun a b w2 => ∃ k : Nat, b = .int .i64 k ∧ k ≤ 20 ∧ w2.ownsRow base 46 2 a (l + k) (marks (mkP j) (l + k)) ∧ P2 base w w2 gb gl m c (.slice awv m cwv) vs (.slice aL lL cL) us (plus j a (famP vs us))) (fun _ b _ => 20 - (intOf b).toNat)
              case atStart => exact ⟨0, rfl, by omega, A0, T.less (fun i u h => by rcases h with ⟨rfl, rfl⟩ | h <;> first | exact HF0 | exact h)⟩
              case round =>
                obtain ⟨k, rfl, hk20, A, T2⟩ := hrel
                clear T
                have hbs2 := T2.below.size
                obtain ⟨a2, l2, c2, rfl⟩ := row_shape A
                by_cases hk : k < 20
                · have hzk : (k : Int) < 20 := by omega
                  have T3 := T2.alloc (by omega) (.cells (mkP j).toArray 46)
                  have HT3 : Hid (P2 base w _ gb gl m c (.slice awv m cwv) vs (.slice aL lL cL) us (plus j (.slice a2 l2 c2) (famP vs us))) := T3
                  clear T2 T3
                  go_wp2_with (at_builtin; refine wpList_appX _ rfl _ _ 28 28 rfl base 46 i0 _ 2 16 Try.underlying28 hip hp0 hp1 hp2 rfl _ _ _ rfl (A.alloc _) _ 1 (mkP j) rfl (Src.ofSlice _ Try.underlying28 ⟨_, 0, none⟩ 1 1 _ rfl ?c1 ?c2) ?c3 ?c4 ?c5 ?_)
                  case c1 =>
                    intro t u ht
                    rw [Addr.add_lit, Nat.zero_add, cell_of_row _ _ t _ _ _ (heap_alloc_new _ _)]
                    simpa [mkP] using ht
                  case c2 => intro u hu; simp [mkP] at hu; rcases hu with rfl | rfl <;> rfl
                  case c3 => unfold maxLen; omega
                  case c4 => omega
                  case c5 => simp; omega
                  intro v' w5 ho hg hmv hov
                  have T4 := (HT3.out.grow (by simp; omega) (Or.inl ⟨rfl, rfl⟩) ho hg hmv hov).less (F' := plus j v' (famP vs us)) (fun i u h => by rcases h with h | h; exact Or.inl h; exact Or.inr (Or.inr h))
                  rw [marks_succ] at ho
                  have HO4 : Hid (w5.ownsRow base 46 2 v' (l + k + 1) (marks (mkP j) (l + k + 1))) := ho
                  have HT4 : Hid (P2 base w w5 gb gl m c (.slice awv m cwv) vs (.slice aL lL cL) us (plus j v' (famP vs us))) := T4
                  obtain ⟨a5, l5, c5, rfl⟩ := row_shape ho
                  clear ho hg hmv hov T4 A
                  go_wp2
                  go_roundw
                  case rel => exact ⟨k + 1, by go_num, by omega, HO4.out, HT4.out⟩
                  case measure => simp [intOf]; omega
                · have hz20 : ¬ ((k : Int) < 20) := by omega
                  clear hk
                  have hc4 := lown_cell T2.lown j hjv
                  rw [hv] at hc4
                  obtain ⟨c0, c1⟩ := cell2 T2.block
                  have T7 := T2.alloc (by omega) (.cells #[.slice ao l cc, .slice a2 l2 c2] 28)
                  have HT7 : Hid (P2 base w _ gb gl m c (.slice awv m cwv) vs (.slice aL lL cL) us (plus j (.slice a2 l2 c2) (famP vs us))) := T7
                  have A7 := T7.long
                  clear T2 T7 A
                  go_wp2_with (at_builtin; refine wpList_appX _ rfl _ _ 25 25 rfl base 28 i1 _ 1 24 Try.underlying25 hiq hq0 hq1 hq2 rfl _ _ _ rfl A7 _ 2 [.slice ao l cc, .slice a2 l2 c2] rfl (Src.ofSlice _ Try.underlying25 ⟨_, 0, none⟩ 2 2 _ rfl ?d1 ?d2) ?d3 ?d4 ?d5 ?_)
                  case d2 => exact ⟨rfl, rfl⟩
                  case d3 => unfold maxLen; omega
                  case d4 => omega
                  case d5 => omega
                  intro v' w5 ho hg hmv hov
                  have T8 := (HT7.out.more (by simp; omega) ho hg hmv).less (F' := famP vs (us ++ [.slice ao l cc, .slice a2 l2 c2])) (fun i u h => fam_more vs us j i u ao a2 l l2 cc c2 HUL.out HF0 h)
                  have HT8 : Hid (P2 base w w5 gb gl m c (.slice awv m cwv) vs v' (us ++ [.slice ao l cc, .slice a2 l2 c2]) (famP vs (us ++ [.slice ao l cc, .slice a2 l2 c2]))) := T8
                  obtain ⟨a5, l5, c5, rfl⟩ := row_shape ho
                  clear ho hg hmv hov T8 A7
                  go_wp2
                  go_roundw
                  case rel => exact ⟨j + 1, _, by go_num, by omega, by have := HUL.out; simp; omega, HT8.out⟩
                  case measure => simp [intOf]; omega
            · obtain rfl : m = j := by omega
              obtain ⟨hlL, hlL2, _⟩ := own_cap T.long
              have hzL : (lL : Int) ≤ 14000000000 := by omega
              have HNU : Hid (us.length = lL) := hlL.symm
              clear HUL hlL hlL2
              go_wp2
              clear c0 c1
              go_loopw [2, 11] (fun z a w2 => ∃ t : Nat, z = .bool false ∧ a = .int .i64 t ∧ t ≤ lL ∧ P2 base w w2 gb gl m c (.slice awv m cwv) vs (.slice aL lL cL) us (famP vs us)) (fun _ a _ => lL - (intOf a).toNat)
              case atStart => exact ⟨0, rfl, rfl, by omega, T⟩
              case round =>
                obtain ⟨t, rfl, rfl, htl, T2⟩ := hrel
                clear T
                by_cases ht : t < lL
                · have hzt : (t : Int) < (lL : Int) := by omega
                  have htu : t < us.length := by have := HNU.out; omega
                  obtain ⟨gL, capL, eL, _, _, _, hxL⟩ := own_some T2.long (by omega)
                  simp only [Value.slice.injEq] at eL
                  obtain ⟨rfl, eL2, eL3⟩ := eL
                  clear eL2 eL3
                  have hcL := hxL t us[t] (List.getElem?_eq_getElem htu)
                  have HF : famP vs us (t / 2) us[t] := Or.inr ⟨t, List.getElem?_eq_getElem htu, rfl⟩
                  obtain ⟨n, ho⟩ := T2.fams.full _ _ HF
                  obtain ⟨u, hu⟩ : ∃ u, us[t] = u := ⟨_, rfl⟩
                  rw [hu] at ho hcL
                  obtain ⟨au, lu, cu, rfl⟩ := row_shape ho
                  obtain ⟨hlu, hlu2, hlu3⟩ := own_cap ho
                  obtain rfl : n = lu := hlu.symm
                  clear hxL ho hcL
                  have HU : Hid (us[t]? = some (.slice au n cu)) := by rw [← hu]; exact List.getElem?_eq_getElem htu
                  rw [hu] at HF
                  have HF' : Hid (famP vs us (t / 2) (.slice au n cu)) := HF
                  clear HF hu htu
                  go_wp2
                  go_loopw [2, 12] (fun z a w2 => ∃ k : Nat, z = .bool false ∧ a = .int .i64 k ∧ k ≤ n ∧ P2 base w w2 gb gl m c (.slice awv m cwv) vs (.slice (some ⟨gL, 0, none⟩) lL cL) us (famP vs us)) (fun _ a _ => n - (intOf a).toNat)
                  case atStart => exact ⟨0, rfl, rfl, by omega, T2⟩
                  case round =>
                    obtain ⟨k, rfl, rfl, hkn, T4⟩ := hrel
                    clear T2
                    obtain ⟨gL', capL', eL, _, _, _, hxL⟩ := own_some T4.long (by have := HNU.out; omega)
                    simp only [Value.slice.injEq, Option.some.injEq, Addr.mk.injEq] at eL
                    obtain ⟨⟨rfl, _⟩, eL2, eL3⟩ := eL
                    clear eL2 eL3
                    have hcL := hxL t _ HU.out
                    clear hxL
                    by_cases hk : k < n
                    · have hzk : (k : Int) < (n : Int) := by omega
                      obtain ⟨n', ho⟩ := T4.fams.full _ _ HF'.out
                      obtain ⟨hn', _⟩ := own_cap ho
                      obtain rfl : n = n' := hn'
                      obtain ⟨gu, capu, eu, _, _, _, hxu⟩ := own_some ho (by omega)
                      cases eu
                      have hget : ∀ r y, r < 2 → (mkP (t / 2))[r]? = some y → wr.cell? ⟨gu, k * 2 + r, none⟩ = some y := fun r y hr hy => hxu _ _ (by rw [marks_get _ _ _ (by rw [mkP_len]; omega), mkP_len, Nat.add_comm, Nat.add_mul_mod_self_right, Nat.mod_eq_of_lt hr]; exact hy)
                      have e0 := hget 0 _ (by omega) rfl
                      have e1 := hget 1 _ (by omega) rfl
                      rw [Nat.add_zero] at e0
                      obtain ⟨q3, hq3⟩ : ∃ q, t / 2 = q := ⟨_, rfl⟩
                      rw [hq3] at e0
                      have hd3 : (t : Int).tdiv 2 = (q3 : Int) := by rw [Int.tdiv_eq_ediv_of_nonneg (by omega)]; omega
                      have hd4 : (t : Int) / 2 = (q3 : Int) := by omega
                      have hw7 : IntKind.i64.wrap (-(q3 : Int)) = -(q3 : Int) := by rw [IntKind.wrap_i64]; omega
                      have NQ := neqM q3
                      have HT4 : Hid (P2 base w wr gb gl m c (.slice awv m cwv) vs (.slice (some ⟨gL, 0, none⟩) lL cL) us (famP vs us)) := T4
                      clear hget hxu ho T4 hq3
                      have hnb : (n : Int) ≤ 9223372036854775807 := by unfold maxLen at hlu3; omega
                      go_wp2
                      go_roundw
                      case rel => exact ⟨k + 1, rfl, by go_num, by omega, HT4.out⟩
                      case measure => simp [intOf]; omega
                    · obtain rfl : n = k := by omega
                      have HT4 : Hid (P2 base w wr gb gl m c (.slice awv m cwv) vs (.slice (some ⟨gL, 0, none⟩) lL cL) us (famP vs us)) := T4
                      clear T4
                      go_wp2
                      go_roundw
                      case rel => exact ⟨t + 1, rfl, by go_num, by omega, HT4.out⟩
                      case measure => simp [intOf]; omega
                · obtain rfl : lL = t := by omega
                  have HB := T2.below
                  clear T2
                  go_wp2
                  go_ret
                  exact ⟨rfl, HB⟩
end Go.Proofs.Ytmegmjhkjaejgaa.sk.pl
