/-
  A book of lists: ends.
-/
import Derived.Test.YtkfefebjciolcaaKb
import Derived.Deep.RegionWith
namespace Go.Proofs.Ytkfefebjciolcaa
open Go Go.RowKit
set_option maxRecDepth 100000

set_option maxHeartbeats 2000000 in
theorem ends_any (base gb gl m c : Nat) (wv : Value) (vs us0 : List Value) (Ks : List (List Int)) (w : World) (B : BookAt base w gb (.slice (some ⟨gl, 0, none⟩) m c) wv vs us0 Ks) (hb0 : base ≤ w.heap.size) (hvl : vs.length ≤ 1000) (hm : vs.length = m) (hm0 : 0 < m) (hK : ∀ K ∈ Ks, K.length ≤ 70368744177664) :
    Calls Try.prog 10 #[.pointer (some ⟨gb, 0, none⟩)] w fun e w' => e = .returned (.bool true) ∧ Below base w w' := by
  have hsl : Ks.length = m := by rw [← B.vlen]; exact hm
  have hul : us0.length = m := by rw [B.ulen]; exact hsl
  have HAP : Hid (∀ a b (ha : a < vs.length) (hb : b < vs.length), a ≠ b → ∀ k, vs[a].ownBlock = some k → vs[b].ownBlock ≠ some k) := fun a b ha hb hne k => B.apart a b _ _ (List.getElem?_eq_getElem ha) (List.getElem?_eq_getElem hb) hne k
  obtain ⟨i0, hip, hp0, hp1, hp2⟩ := info_parts Try.info5
  obtain ⟨i1, hiq, hq0, hq1, hq2⟩ := info_parts Try.infoBB
  have S0 : B1 base w w gb gl m c wv vs 0 := ⟨Below.refl _ _, B.block, by have := B.lown; rw [hm] at this; exact this, fun j hj => by
    have hjK : j < Ks.length := by omega
    exact ⟨_, _, hK _ (List.getElem_mem hjK), B.vrow j _ _ (List.getElem?_eq_getElem hj) (List.getElem?_eq_getElem hjK), fun h => by omega⟩⟩
  have HLN : Hid (∀ j (hj : j < vs.length), ∃ ao l c, vs[j] = .slice ao l c ∧ l ≤ 70368744177664) := fun j hj => by
    obtain ⟨n, xs, h1, h2, _⟩ := S0.rows j hj
    obtain ⟨ao, l, c, e⟩ := row_shape h2
    rw [e] at h2
    obtain ⟨h3, _⟩ := own_cap h2
    exact ⟨ao, l, c, e, by omega⟩
  obtain ⟨awv, lwv, cwv, rfl⟩ := row_shape B.wown
  -- what is held against what
  have CMP : Hid (∀ j, j < m → ∃ a1 l1 c1 a2 l2 c2 gw S, awv = some ⟨gw, 0, none⟩ ∧ w.cell? ⟨gl, j, none⟩ = some (.slice a1 l1 c1) ∧ w.cell? ⟨gw, j, none⟩ = some (.slice a2 l2 c2) ∧ (∀ q, (convert 23 9 (.slice a1 l1 c1)).run Try.prog (w.drewN q) = .ok (.string S) (w.drewN q)) ∧ (∀ q, (convert 23 9 (.slice a2 l2 c2)).run Try.prog (w.drewN q) = .ok (.string S) (w.drewN q))) := fun j hj => by
    have hjv : j < vs.length := by omega
    have hju : j < us0.length := by omega
    have hjK : j < Ks.length := by omega
    have r1 := B.vrow j _ _ (List.getElem?_eq_getElem hjv) (List.getElem?_eq_getElem hjK)
    have r2 := B.urow j _ _ (List.getElem?_eq_getElem hju) (List.getElem?_eq_getElem hjK)
    obtain ⟨gw, cw, ew, _, _, _, hw⟩ := own_some B.wown (by omega)
    simp only [Value.slice.injEq] at ew
    have cv := S0.cell j hjv
    have cu := hw j _ (List.getElem?_eq_getElem hju)
    obtain ⟨a1, l1, c1, e1⟩ := row_shape r1
    obtain ⟨a2, l2, c2, e2⟩ := row_shape r2
    rw [e1] at cv r1
    rw [e2] at cu r2
    exact ⟨a1, l1, c1, a2, l2, c2, gw, strI Ks[j], ew.1, cv, cu, fun q => conv_holds ((Holds.ofRow r1).drewN q) c1, fun q => conv_holds ((Holds.ofRow r2).drewN q) c2⟩
  obtain ⟨c0, c1⟩ := cell2 B.block
  have hlw : lwv = m := by rw [← hul]; exact (own_cap B.wown).1
  obtain rfl : m = lwv := hlw.symm
  have hmm : (m : Int) ≤ 1000 := by omega
  have HGB : Hid (base ≤ gb) := B.le
  clear B hul hsl hK hlw
  go_enter Try.func10, Try.ntmps10
  go_wp2
  go_loopw [2, 3] (fun z a wr => ∃ i q : Nat, z = .bool false ∧ a = .int .i64 i ∧ i ≤ m ∧ wr = w.drewN q) (fun _ a _ => m - (intOf a).toNat)
  case atStart => exact ⟨0, 0, rfl, rfl, by omega, rfl⟩
  case round =>
    obtain ⟨i, q, rfl, rfl, him, rfl⟩ := hrel
    by_cases hlt : i < m
    · have hz : (i : Int) < (m : Int) := by omega
      obtain ⟨a1, l1, c1', a2, l2, c2', gw, S, rfl, d1, d2, e1, e2⟩ := CMP.out i hlt
      go_wp2
      go_quiet (fail)
      go_wp2
      go_roundw
      case rel => exact ⟨i + 1, q + nq, rfl, by go_num, by omega, by simp [World.drewN]⟩
      case measure => simp [intOf]; omega
    · obtain rfl : m = i := by omega
      have S1 := S0.drew q
      clear S0 CMP
      go_wp2
      clear c0 c1
      go_loopw [4] (fun a wr => ∃ i : Nat, a = .int .i64 i ∧ i ≤ m ∧ B1 base w wr gb gl m c (.slice awv m cwv) vs i) (fun a _ => m - (intOf a).toNat)
      case atStart => exact ⟨0, rfl, by omega, S1⟩
      case round =>
        obtain ⟨i, rfl, him, S⟩ := hrel
        obtain ⟨c0, c1⟩ := cell2 S.block
        by_cases hlt : i < m
        · have hz : (i : Int) < (m : Int) := by omega
          have hiv : i < vs.length := by omega
          obtain ⟨n, xs, hn, ho, hx⟩ := S.rows i hiv
          obtain ⟨v, hv⟩ : ∃ v, vs[i] = v := ⟨_, rfl⟩
          rw [hv] at ho
          obtain ⟨ao, l, cc, rfl⟩ := row_shape ho
          obtain ⟨hl1, hl2, hl3⟩ := own_cap ho
          obtain rfl : n = l := hl1.symm
          clear hx
          go_wp2
          go_loopw [5] (fun a w2 => ∃ (k : Nat) (ys : List Value), a = .int .i64 k ∧ k ≤ n ∧ w2.ownsRow base 5 1 (.slice ao n cc) n (marks (mkB i) k ++ ys) ∧ B1 base w w2 gb gl m c (.slice awv m cwv) vs i) (fun a _ => n - (intOf a).toNat)
          case atStart => exact ⟨0, xs, rfl, by omega, by simpa [marks] using ho, S⟩
          case round =>
            obtain ⟨k, ys, rfl, hkn, ho2, S2⟩ := hrel
            clear c0 c1 S
            obtain ⟨c0, c1⟩ := cell2 S2.block
            have hc2 := S2.cell i hiv
            rw [hv] at hc2
            by_cases hk : k < n
            · have hzk : (k : Int) < (n : Int) := by omega
              have ho3 := ho2
              obtain ⟨hx1, ⟨e, he⟩ | ⟨g, cap, cur, e, hbg, hg, q1, q2, q3, q4⟩⟩ := ho2
              · omega
              cases e
              obtain ⟨o4, u4⟩ := own_in1 ho3 hg k (.int .u8 (mkN i : Int))
              have e4 : (marks (mkB i) k ++ ys).set k (.int .u8 (mkN i : Int)) = marks (mkB i) (k + 1) ++ ys.drop 1 := by
                have hml := marks_len (mkB i) k
                rw [mkB_len, Nat.mul_one] at hml
                have hyl : 0 < ys.length := by rw [List.length_append, hml] at hx1; omega
                obtain ⟨y, ys', rfl⟩ := List.exists_cons_of_length_pos hyl
                rw [List.set_append_right _ _ (by omega), hml, Nat.sub_self, ← marks_succ]
                simp [mkB]
              rw [e4] at o4
              have S4 := S2.upd hiv hv (by have := S2.below.size; omega) HAP.out hbg hg u4 hn (by rw [hv]; exact o4)
              obtain ⟨y0, cc0⟩ : ∃ y, wr.cell? ⟨g, k, none⟩ = some y := ⟨cur[k]'(by omega), by simp [World.cell?, hg, show k < cur.size by omega]⟩
              have f0 := free2 hg k
              have O4 : Hid (World.ownsRow _ base 5 1 _ n (marks (mkB i) (k + 1) ++ ys.drop 1)) := o4
              have HS4 : Hid (B1 base w _ gb gl m c (.slice awv m cwv) vs i) := S4
              have MK := fun W => mark_any i (by omega) W
              clear o4 u4 S4 e4 hx1 ho3 S2 q4 q3 hg
              go_wp2
              go_region_with (go_at_call 20; refine (MK _).mono ?_; rintro e w5 ⟨rfl, hw⟩; obtain rfl := hw.symm)
              all_goals (
                go_wp2
                go_roundw
                case rel => exact ⟨k + 1, _, by go_num, by omega, own_like O4.out rfl, HS4.out.like rfl rfl rfl rfl⟩
                case measure => (simp [intOf]; omega))
            · obtain rfl : n = k := by omega
              have hys : ys = [] := by
                have h1 := ho2.1
                rw [List.length_append, marks_len, mkB_len] at h1
                exact List.eq_nil_of_length_eq_zero (by omega)
              subst hys
              rw [List.append_nil] at ho2
              have S5 := S2.next hiv hn (by rw [hv]; exact ho2)
              have HS5 : Hid (B1 base w wr gb gl m c (.slice awv m cwv) vs (i + 1)) := S5
              clear S5 ho2 S2
              go_wp2
              go_roundw
              case rel => exact ⟨i + 1, by go_num, by omega, HS5.out⟩
              case measure => simp [intOf]; omega
        · obtain rfl : m = i := by omega
          have T0 : B2 base w wr gb gl m c (.slice awv m cwv) vs (.slice none 0 0) [] (famB vs []) := by
            have S' := S
            rw [← hm] at S'
            rw [← hm]
            exact S'.start HAP.out
          clear S S1
          go_wp2
          clear c0 c1
          go_loopw [6, 7] (fun a b wr => ∃ (j : Nat) (us : List Value), b = .int .i64 j ∧ j ≤ m ∧ us.length = 2 * j ∧ B2 base w wr gb gl m c (.slice awv m cwv) vs a us (famB vs us)) (fun _ b _ => m - (intOf b).toNat)
          case atStart => exact ⟨0, [], rfl, by omega, rfl, T0⟩
          case round =>
            obtain ⟨j, us, rfl, hji, hul, T⟩ := hrel
            have HUL : Hid (us.length = 2 * j) := hul
            have hub : us.length ≤ 2000 := by omega
            clear hul
            have hbs := T.below.size
            obtain ⟨c0, c1⟩ := cell2 T.block
            obtain ⟨aL, lL, cL, rfl⟩ := row_shape T.long
            by_cases hlt : j < m
            · have hz : (j : Int) < (m : Int) := by omega
              have hjv : j < vs.length := by omega
              obtain ⟨ao, l, cc, hv, hlb⟩ := HLN.out j hjv
              have hc := T.cell j hjv
              rw [hv] at hc
              have HF0 : famB vs us j (.slice ao l cc) := Or.inl (by rw [List.getElem?_eq_getElem hjv, hv])
              have A0 : wr.ownsRow base 5 1 (.slice ao l cc) (l + 0) (marks (mkB j) (l + 0)) := by
                obtain ⟨n, ho⟩ := T.fams.full _ _ HF0
                obtain ⟨h1, _⟩ := own_cap ho
                rw [← h1] at ho
                exact ho
              have MK := fun W => mark_any j (by omega) W
              go_wp2
              clear c0 c1 hc
              go_loopw [8, 9] (fun a b w2 => ∃ k : Nat, b = .int .i64 k ∧ k ≤ 20 ∧ w2.ownsRow base 5 1 a (l + k) (marks (mkB j) (l + k)) ∧ B2 base w w2 gb gl m c (.slice awv m cwv) vs (.slice aL lL cL) us (plus j a (famB vs us))) (fun _ b _ => 20 - (intOf b).toNat)
              case atStart => exact ⟨0, rfl, by omega, A0, T.less (fun i u h => by rcases h with ⟨rfl, rfl⟩ | h <;> first | exact HF0 | exact h)⟩
              case round =>
                obtain ⟨k, rfl, hk20, A, T2⟩ := hrel
                have hbs2 := T2.below.size
                obtain ⟨a2, l2, c2, rfl⟩ := row_shape A
                by_cases hk : k < 20
                · have hzk : (k : Int) < 20 := by omega
                  have T3 := T2.alloc (by omega) (.cells #[Value.int IntKind.u8 (mkN j : Int)] 5)
                  have HT3 : Hid (B2 base w _ gb gl m c (.slice awv m cwv) vs (.slice aL lL cL) us (plus j (.slice a2 l2 c2) (famB vs us))) := T3
                  clear T2 T3 T
                  have SM := src_one Try.underlying23 wr (.int .u8 (mkN j : Int)) 5 rfl
                  have r1 : l + k + 1 ≤ maxLen := by unfold maxLen; omega
                  have r2 : (l + k + 1 + (l + k + 1) / 4 + 192) * 1 ≤ 281474976710656 := by omega
                  have r3 : base ≤ (wr.alloc (.cells #[Value.int IntKind.u8 (mkN j : Int)] 5)).heap.size := by simp; omega
                  go_wp2_with (first
                    | (go_at_call 20; refine (MK _).mono ?_; rintro e w5 ⟨rfl, hw⟩; obtain rfl := hw.symm)
                    | (at_builtin; refine wpList_appX _ rfl _ _ 23 23 rfl base 5 i0 _ 1 1 Try.underlying23 hip hp0 hp1 hp2 rfl _ _ _ rfl (A.alloc _) _ 1 (mkB j) rfl SM r1 r2 r3 ?_))
                  intro v' w5 ho hg hmv hov
                  have T4 := (HT3.out.grow (by simp; omega) (Or.inl ⟨rfl, rfl⟩) ho hg hmv (by rw [Nat.mul_one]; exact hov)).less (F' := plus j v' (famB vs us)) (fun i u h => by rcases h with h | h; exact Or.inl h; exact Or.inr (Or.inr h))
                  rw [marks_succ] at ho
                  have HO4 : Hid (w5.ownsRow base 5 1 v' (l + k + 1) (marks (mkB j) (l + k + 1))) := ho
                  have HT4 : Hid (B2 base w w5 gb gl m c (.slice awv m cwv) vs (.slice aL lL cL) us (plus j v' (famB vs us))) := T4
                  obtain ⟨a5, l5, c5, rfl⟩ := row_shape ho
                  clear ho hg hmv hov T4 A SM
                  go_wp2
                  go_roundw
                  case rel => exact ⟨k + 1, by go_num, by omega, HO4.out, HT4.out⟩
                  case measure => simp [intOf]; omega
                · have hz20 : ¬ ((k : Int) < 20) := by omega
                  clear hk T
                  have hc4 := T2.cell j hjv
                  rw [hv] at hc4
                  obtain ⟨c0, c1⟩ := cell2 T2.block
                  have HF1 : (plus j (.slice a2 l2 c2) (famB vs us)) j (.slice ao l cc) := Or.inr HF0
                  have A1 : wr.ownsRow base 5 1 (.slice ao l cc) (l + 0) (marks (mkB j) (l + 0)) := by
                    obtain ⟨n, ho⟩ := T2.fams.full _ _ HF1
                    obtain ⟨h1, _⟩ := own_cap ho
                    rw [← h1] at ho
                    exact ho
                  go_wp2
                  clear c0 c1 hc4
                  go_loopw [10, 11] (fun a b w2 => ∃ k : Nat, b = .int .i64 k ∧ k ≤ 90 ∧ w2.ownsRow base 5 1 a (l + k) (marks (mkB j) (l + k)) ∧ B2 base w w2 gb gl m c (.slice awv m cwv) vs (.slice aL lL cL) us (plus j a (plus j (.slice a2 l2 c2) (famB vs us)))) (fun _ b _ => 90 - (intOf b).toNat)
                  case atStart => exact ⟨0, rfl, by omega, A1, T2.less (fun i u h => by rcases h with ⟨rfl, rfl⟩ | h <;> first | exact HF1 | exact h)⟩
                  case round =>
                    obtain ⟨k, rfl, hk90, A, T6⟩ := hrel
                    have hbs6 := T6.below.size
                    obtain ⟨a3, l3, c3, rfl⟩ := row_shape A
                    by_cases hk : k < 90
                    · have hzk : (k : Int) < 90 := by omega
                      have T3 := T6.alloc (by omega) (.cells #[Value.int IntKind.u8 (mkN j : Int)] 5)
                      have HT3 : Hid (B2 base w _ gb gl m c (.slice awv m cwv) vs (.slice aL lL cL) us (plus j (.slice a3 l3 c3) (plus j (.slice a2 l2 c2) (famB vs us)))) := T3
                      clear T6 T3 T2
                      have SM := src_one Try.underlying23 wr (.int .u8 (mkN j : Int)) 5 rfl
                      have r1 : l + k + 1 ≤ maxLen := by unfold maxLen; omega
                      have r2 : (l + k + 1 + (l + k + 1) / 4 + 192) * 1 ≤ 281474976710656 := by omega
                      have r3 : base ≤ (wr.alloc (.cells #[Value.int IntKind.u8 (mkN j : Int)] 5)).heap.size := by simp; omega
                      go_wp2_with (first
                        | (go_at_call 20; refine (MK _).mono ?_; rintro e w5 ⟨rfl, hw⟩; obtain rfl := hw.symm)
                        | (at_builtin; refine wpList_appX _ rfl _ _ 23 23 rfl base 5 i0 _ 1 1 Try.underlying23 hip hp0 hp1 hp2 rfl _ _ _ rfl (A.alloc _) _ 1 (mkB j) rfl SM r1 r2 r3 ?_))
                      intro v' w5 ho hg hmv hov
                      have T4 := (HT3.out.grow (by simp; omega) (Or.inl ⟨rfl, rfl⟩) ho hg hmv (by rw [Nat.mul_one]; exact hov)).less (F' := plus j v' (plus j (.slice a2 l2 c2) (famB vs us))) (fun i u h => by rcases h with h | h; exact Or.inl h; exact Or.inr (Or.inr h))
                      rw [marks_succ] at ho
                      have HO4 : Hid (w5.ownsRow base 5 1 v' (l + k + 1) (marks (mkB j) (l + k + 1))) := ho
                      have HT4 : Hid (B2 base w w5 gb gl m c (.slice awv m cwv) vs (.slice aL lL cL) us (plus j v' (plus j (.slice a2 l2 c2) (famB vs us)))) := T4
                      obtain ⟨a5, l5, c5, rfl⟩ := row_shape ho
                      clear ho hg hmv hov T4 A SM
                      go_wp2
                      go_roundw
                      case rel => exact ⟨k + 1, by go_num, by omega, HO4.out, HT4.out⟩
                      case measure => simp [intOf]; omega
                    · have hz90 : ¬ ((k : Int) < 90) := by omega
                      clear hk T2
                      have T7 := T6.alloc (by omega) (.cells #[.slice a2 l2 c2, .slice a3 l3 c3] 23)
                      have HT7 : Hid (B2 base w _ gb gl m c (.slice awv m cwv) vs (.slice aL lL cL) us (plus j (.slice a3 l3 c3) (plus j (.slice a2 l2 c2) (famB vs us)))) := T7
                      have A7 := T7.long
                      clear T6 T7 A
                      have s1 : us.length + 2 ≤ maxLen := by unfold maxLen; omega
                      have s2 : (us.length + 2) * 24 ≤ 140737488355328 := by omega
                      have s3 : base ≤ (wr.alloc (.cells #[.slice a2 l2 c2, .slice a3 l3 c3] 23)).heap.size := by simp; omega
                      have SS : Src Try.prog 1 28 (.slice (some ⟨wr.heap.size, 0, none⟩) 2 2) 2 [.slice a2 l2 c2, .slice a3 l3 c3] (wr.alloc (.cells #[.slice a2 l2 c2, .slice a3 l3 c3] 23)) := by
                        refine Src.ofSlice _ Try.underlying28 ⟨wr.heap.size, 0, none⟩ 2 2 _ rfl (news_in (heap_alloc_new wr _)) ?_
                        intro u hu
                        simp at hu
                        rcases hu with rfl | rfl <;> rfl
                      go_wp2_with (at_builtin; refine wpList_app _ rfl _ _ 28 28 rfl base 23 i1 (.slice none 0 0) 24 Try.underlying28 hiq hq0 hq1 hq2 rfl _ _ _ rfl A7 _ 2 [.slice a2 l2 c2, .slice a3 l3 c3] rfl SS s1 s2 s3 ?_)
                      intro v' w5 ho hg hmv
                      have T8 := (HT7.out.more (by simp; omega) ho hg hmv).less (F' := famB vs (us ++ [.slice a2 l2 c2, .slice a3 l3 c3])) (fun i u h => fam_two vs us j i u a2 a3 l2 l3 c2 c3 HUL.out h)
                      have HT8 : Hid (B2 base w w5 gb gl m c (.slice awv m cwv) vs v' (us ++ [.slice a2 l2 c2, .slice a3 l3 c3]) (famB vs (us ++ [.slice a2 l2 c2, .slice a3 l3 c3]))) := T8
                      obtain ⟨a5, l5, c5, rfl⟩ := row_shape ho
                      clear ho hg hmv T8 A7 SS
                      go_wp2
                      go_roundw
                      case rel => exact ⟨j + 1, _, by go_num, by omega, by have := HUL.out; simp; omega, HT8.out⟩
                      case measure => simp [intOf]; omega
            · obtain rfl : m = j := by omega
              clear T0
              go_wp2
              clear c0 c1
              go_loopw [2, 12] (fun z a w2 => ∃ t : Nat, z = .bool false ∧ a = .int .i64 t ∧ t ≤ m ∧ B2 base w w2 gb gl m c (.slice awv m cwv) vs (.slice aL lL cL) us (famB vs us)) (fun _ a _ => m - (intOf a).toNat)
              case atStart => exact ⟨0, rfl, rfl, by omega, T⟩
              case round =>
                obtain ⟨t, rfl, rfl, htm, T2⟩ := hrel
                clear T
                obtain ⟨c0, c1⟩ := cell2 T2.block
                by_cases ht : t < m
                · have hz : (t : Int) < (m : Int) := by omega
                  have htv : t < vs.length := by omega
                  obtain ⟨ao, l, cc, hv, hlb⟩ := HLN.out t htv
                  have hc := T2.cell t htv
                  rw [hv] at hc
                  have FH := full_fam (T2.fams.full t (.slice ao l cc) (Or.inl (by rw [List.getElem?_eq_getElem htv, hv])))
                  obtain ⟨d, hd⟩ : ∃ d, 2 * t = d := ⟨_, rfl⟩
                  have hu2 : d < us.length := by have := HUL.out; omega
                  have hu3 : d + 1 < us.length := by have := HUL.out; omega
                  obtain ⟨gL, capL, eL, _, _, _, hxL⟩ := own_some T2.long (by omega)
                  simp only [Value.slice.injEq] at eL
                  obtain ⟨rfl, eL2, eL3⟩ := eL
                  have hL2 : (d : Int) < (lL : Int) := by omega
                  have hL3 : (d : Int) + 1 < (lL : Int) := by omega
                  have cg := hxL d us[d] (List.getElem?_eq_getElem hu2)
                  have ch := hxL (d + 1) us[d + 1] (List.getElem?_eq_getElem hu3)
                  have G2 := T2.fams.full t us[d] (Or.inr ⟨d, List.getElem?_eq_getElem hu2, by omega⟩)
                  have G3 := T2.fams.full t us[d + 1] (Or.inr ⟨d + 1, List.getElem?_eq_getElem hu3, by omega⟩)
                  generalize us[d] = x2 at cg G2
                  generalize us[d + 1] = x3 at ch G3
                  have G2' := G2
                  have G3' := G3
                  obtain ⟨n2, o2⟩ := G2'
                  obtain ⟨n3, o3⟩ := G3'
                  obtain ⟨a2, l2, c2, rfl⟩ := row_shape o2
                  obtain ⟨a3, l3, c3, rfl⟩ := row_shape o3
                  obtain ⟨p1, p2, p3⟩ := own_cap o2
                  obtain ⟨p4, p5, p6⟩ := own_cap o3
                  unfold maxLen at p3 p6
                  have FG2 := full_fam G2
                  have FG3 := full_fam G3
                  have MK := fun W => mark_any t (by omega) W
                  have FU : ∀ (ad : Option Addr) (n cap : Nat), Holds wr ad n (List.replicate n (mkN t : Int)) → n ≤ 9223372036854775807 → ∀ W : World, W.heap = wr.heap → Calls Try.prog 21 #[.slice ad n cap, .int .u8 (mkN t : Int)] W fun e w' => e = .returned (.bool true) ∧ w' = W :=
                    fun ad n cap hh hn W e => full_any ad n cap (mkN t : Int) _ W (holds_like hh e) (fun x hx => List.eq_of_mem_replicate hx) hn
                  have F1 := FU ao l cc FH (by omega)
                  have F2 := FU a2 l2 c2 FG2 (by omega)
                  have F3 := FU a3 l3 c3 FG3 (by omega)
                  have HT2 : Hid (B2 base w wr gb gl m c (.slice awv m cwv) vs (.slice (some ⟨gL, 0, none⟩) lL cL) us (famB vs us)) := T2
                  have HD : 2 * (t : Int) = (d : Int) := by omega
                  have hd2 : (d : Int) ≤ 2000 := by omega
                  have n5 : IntKind.i64.wrap (d : Int) = (d : Int) := wrap_i64_in _ (by omega) (by omega)
                  have n7 : (0 : Int) ≤ (d : Int) := by omega
                  clear hd
                  clear T2 FU FH FG2 FG3 G2 G3 o2 o3 hxL eL2 eL3 p1 p2 p3 p4 p5 p6 hu2 hu3 hub
                  go_wp2
                  go_quiet (first | (go_at_call 20; refine Calls.quiet_of_same (MK _)) | (go_at_call 21; refine Calls.quiet_of_same (F1 _ rfl)))
                  go_wp2
                  obtain ⟨w6, hw6⟩ : ∃ W, wr.drewN nq = W := ⟨_, rfl⟩
                  have cg6 : w6.cell? ⟨gL, d, none⟩ = some (.slice a2 l2 c2) := by rw [← hw6]; exact cg
                  have ch6 : w6.cell? ⟨gL, d + 1, none⟩ = some (.slice a3 l3 c3) := by rw [← hw6]; exact ch
                  have F26 : ∀ W : World, W.heap = w6.heap → _ := fun W e => F2 W (e.trans (by rw [← hw6]; rfl))
                  have F36 : ∀ W : World, W.heap = w6.heap → _ := fun W e => F3 W (e.trans (by rw [← hw6]; rfl))
                  have HT6 : Hid (B2 base w w6 gb gl m c (.slice awv m cwv) vs (.slice (some ⟨gL, 0, none⟩) lL cL) us (famB vs us)) := by rw [← hw6]; exact HT2.out.like rfl rfl rfl rfl
                  rw [hw6]
                  clear hw6 cg ch F1 F2 F3 HT2 hc c0 c1
                  go_quiet (first | (go_at_call 20; refine Calls.quiet_of_same (MK _)) | (go_at_call 21; refine Calls.quiet_of_same (F26 _ rfl)))
                  go_wp2
                  obtain ⟨w7, hw7⟩ : ∃ W, w6.drewN nq = W := ⟨_, rfl⟩
                  have ch7 : w7.cell? ⟨gL, d + 1, none⟩ = some (.slice a3 l3 c3) := by rw [← hw7]; exact ch6
                  have F37 : ∀ W : World, W.heap = w7.heap → _ := fun W e => F36 W (e.trans (by rw [← hw7]; rfl))
                  have HT7 : Hid (B2 base w w7 gb gl m c (.slice awv m cwv) vs (.slice (some ⟨gL, 0, none⟩) lL cL) us (famB vs us)) := by rw [← hw7]; exact HT6.out.like rfl rfl rfl rfl
                  rw [hw7]
                  clear hw7 cg6 ch6 F26 F36 HT6
                  go_quiet (first | (go_at_call 20; refine Calls.quiet_of_same (MK _)) | (go_at_call 21; refine Calls.quiet_of_same (F37 _ rfl)))
                  go_wp2
                  go_roundw
                  case rel => exact ⟨t + 1, rfl, by go_num, by omega, HT7.out.like rfl rfl rfl rfl⟩
                  case measure => simp [intOf]; omega
                · obtain rfl : m = t := by omega
                  have f0 := free2 T2.block 0
                  have k2 := set2_0 (.slice none 0 0) T2.block
                  have c2 := (cell2 k2).2
                  have f1 := free2 k2 1
                  have HB : Below base w ((wr.setCell ⟨gb, 0, none⟩ (.slice none 0 0)).setCell ⟨gb, 1, none⟩ (.slice none 0 0)) := Below.setCell (Below.setCell T2.below HGB.out _) HGB.out _
                  clear T2 k2
                  go_wp2
                  go_ret
                  exact ⟨rfl, HB⟩
end Go.Proofs.Ytkfefebjciolcaa
