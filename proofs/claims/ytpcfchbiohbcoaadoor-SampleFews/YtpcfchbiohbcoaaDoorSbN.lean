/-
  SbN.
-/
import Derived.Test.YtpcfchbiohbcoaaDoorSbL
import Derived.Test.YtpcfchbiohbcoaaDoorSbM
namespace Go.Proofs.YtpcfchbiohbcoaaDoor
open Go Go.RowKit
set_option maxRecDepth 100000

theorem rNew_any (most : Nat) (hm : 2 ≤ most ∧ most ≤ 1000) (w : World) :
    Calls Tryd.prog 6 #[.int .i64 most] w fun e w' => e = .returned (.tuple #[.pointer (some ⟨w.heap.size, 0, none⟩), .int .i64 0]) ∧ FewG 66 w' w.heap.size (w.heap.size + 1) most [] ∧ Below w.heap.size w w' := by
  have h1 : (2 : Int) ≤ (most : Int) := by omega
  have h2 : (most : Int) ≤ 1000 := by omega
  have BB : Hid (Below w.heap.size w (w.alloc (.cells #[.int .i64 most, .slice none 0 0] 66)) ∧ FewG 66 (w.alloc (.cells #[.int .i64 most, .slice none 0 0] 66)) w.heap.size (w.heap.size + 1) most []) := ⟨(Below.refl _ _).alloc (Nat.le_refl _) _, ⟨⟨none, 0, Blk.new _ _ _, World.ownsRow_nil _ _ 33 2⟩, fun i j hi => absurd hi (by simp), Nat.zero_le _, hm, by rw [World.size_alloc]; omega⟩⟩
  go_enter Tryd.func6, Tryd.ntmps6
  go_wp2
  go_ret2
  exact ⟨rfl, BB.out.2, BB.out.1⟩
theorem rNewBad_any (most : Int) (hm : most < 2 ∨ 1000 < most) (w : World) :
    Calls Tryd.prog 6 #[.int .i64 most] w fun e w' => e = .returned (.tuple #[.pointer none, .int .i64 1]) ∧ Below w.heap.size w w' := by
  have BB : Hid (Below w.heap.size w w) := Below.refl _ _
  rcases hm with h | h
  · go_enter Tryd.func6, Tryd.ntmps6
    go_wp2
    go_ret2
    exact ⟨rfl, BB.out⟩
  · have h2 : ¬ most < 2 := by omega
    go_enter Tryd.func6, Tryd.ntmps6
    go_wp2
    go_ret2
    exact ⟨rfl, BB.out⟩
theorem OwnTr.slice {base : Nat} {w : World} {v : Value} {T : List Tr} (h : OwnTr base w v T) : ∃ ao c, v = .slice ao T.length c := by
  rcases h.2 with ⟨e, h0⟩ | ⟨g, cap, cur, e, _⟩
  · exact ⟨none, 0, by rw [e, h0]⟩
  · exact ⟨_, _, e⟩
theorem rTraces_any (f base most : Nat) (T : List Tr) (w : World) (hF : FewG 66 w f base most T) :
    Calls Tryd.prog 9 #[.pointer (some ⟨f, 0, none⟩)] w fun e w' => ∃ ao c, e = .returned (.slice ao T.length c) ∧ TrAt w' ao T ∧ Below w.heap.size w w' := by
  obtain ⟨ao, c, hf, hO⟩ := hF.row
  have hlen := hF.len
  have hmost := hF.most
  have c1 : w.cell? ⟨f, 1, none⟩ = some (.slice ao T.length c) := hf.cell 1 rfl
  have S1 : Src Tryd.prog 2 38 (.slice ao T.length c) T.length (T.flatMap trC) w := by
    have := (hO.at.takeO T.length).src T.length c (by simp)
    rwa [List.take_of_length_le (Nat.le_refl _)] at this
  have N1 : w.ownsRow w.heap.size 33 2 (.slice none 0 0) 0 [] := World.ownsRow_nil _ _ 33 2
  obtain ⟨i0, hi0, hz0, hz1, hz2⟩ := info_parts infoTr
  clear hF hf hO
  go_enter Tryd.func9, Tryd.ntmps9
  go_wp2_with (at_builtin; refine wpList_appW w rfl (.tmp 4) (.tmp 8) 38 38 rfl w.heap.size 33 i0 _ 2 16 Tryd.underlying38 hi0 hz0 hz1 hz2 rfl _ 0 [] rfl N1 _ T.length (T.flatMap trC) rfl S1 (by unfold maxLen; omega) (by omega) (Nat.le_refl _) ?_; intro v1 w1 o1 g1 m1)
  go_ret
  have OW : OwnTr w.heap.size w1 v1 T := by
    have h := o1
    rw [Nat.zero_add, List.nil_append] at h
    exact h
  obtain ⟨a', c', rfl⟩ := OW.slice
  exact ⟨a', c', rfl, OW.at, ((Upd.refl (fun k => w.heap.size ≤ k) w).grown g1 (fun k _ (e : (Value.slice none 0 0).ownBlock = some k) => by cases e)).below (Nat.le_refl _) (fun k h1 h2 => by omega)⟩
theorem tracesO_any (f base most : Nat) (T : List Tr) (w : World) (hF : FewAt w f base most T) :
    Calls Tryd.prog 20 #[.pointer (some ⟨f, 0, none⟩)] w fun e w' => ∃ v, e = .returned v ∧ OwnTr w.heap.size w' v T ∧ Below w.heap.size w w' := by
  obtain ⟨ao, c, hf, hO⟩ := hF.row
  have hlen := hF.len
  have hmost := hF.most
  have CL : Calls Tryd.prog 36 #[.slice ao T.length c] w fun e w' => ∃ v, e = .returned v ∧ OwnTr w.heap.size w' v T ∧ Below w.heap.size w w' := by
    rcases hO.2 with ⟨e, h0⟩ | ⟨g, cap, cur, e, _⟩
    · simp only [Value.slice.injEq] at e
      obtain ⟨rfl, h1, rfl⟩ := e
      obtain rfl : T = [] := List.eq_nil_of_length_eq_zero h1
      refine (clone0_any w).mono ?_
      rintro e w' ⟨rfl, hb⟩
      exact ⟨_, rfl, World.ownsRow_nil _ _ 33 2, hb⟩
    · simp only [Value.slice.injEq] at e
      obtain ⟨rfl, -, rfl⟩ := e
      exact cloneS_any g T.length c T w hO.at rfl (by omega)
  have c1 : w.cell? ⟨f, 1, none⟩ = some (.slice ao T.length c) := hf.cell 1 rfl
  clear hF hf hO
  go_enter Tryd.func20, Tryd.ntmps20
  go_wp2_with (go_at_call 36; (with_reducible refine CL.mono ?_); clear CL; rintro e w1 ⟨v, rfl, h1, h2⟩)
  go_ret
  exact ⟨v, rfl, h1, h2⟩
/-- While one is merged into another one, of a kind. -/
structure MrgG (K : TypeId) (w wr : World) (f o bf bo most : Nat) (ao : Option Addr) (co : Nat) (T1 T2 Ti : List Tr) (i : Nat) : Prop where
  few : FewG K wr f bf most Ti
  top : ∀ S, TopF most S T1 → TopF most ((T2.take i).reverse ++ S) Ti
  ko : Blk wr o #[.int .i64 most, .slice ao T2.length co] K
  oo : OwnTr bo wr (.slice ao T2.length co) T2
  ap : ∀ af cf, Blk wr f #[.int .i64 most, .slice af Ti.length cf] K → ∀ a b, af = some a → ao = some b → a.block ≠ b.block
  size : w.heap.size ≤ wr.heap.size
  mv : ∀ af cf, Blk wr f #[.int .i64 most, .slice af Ti.length cf] K → ∀ a, af = some a → (∃ ao0 c0 a0, Blk w f #[.int .i64 most, .slice ao0 T1.length c0] K ∧ ao0 = some a0 ∧ a0.block = a.block) ∨ w.heap.size ≤ a.block
  upd : Upd (TurnS K w f most T1.length) w wr
theorem MrgG.next {K : TypeId} (hK : K ≠ 33) {w wr w' : World} {f o bf bo most : Nat} {ao : Option Addr} {co : Nat} {T1 T2 Ti T' : List Tr} {i : Nat} {b : Bool} (h : MrgG K w wr f o bf bo most ao co T1 T2 Ti i) (hne : f ≠ o) (hi : i < T2.length) (hin : InF most Ti T2[i] T' b)
    (hrow : TurnR K bf wr w' f most Ti.length T') (hu : Upd (TurnS K wr f most Ti.length) wr w') : MrgG K w w' f o bf bo most ao co T1 T2 T' (i + 1) := by
  obtain ⟨af, cf, kf, of, hmv⟩ := hrow
  obtain ⟨r1, r2⟩ := hin.few h.few.rise h.few.len
  have hrowb : ∀ {ar cr}, Blk wr f #[.int .i64 most, .slice ar Ti.length cr] K → ∀ a, ar = some a → a.block ≠ o := fun {ar cr} hb a e ho => by
    obtain ⟨ar', cr', k', o'⟩ := h.few.row
    have := few_uniqT hb k'
    simp only [Value.slice.injEq] at this
    obtain ⟨rfl, -, rfl⟩ := this
    obtain ⟨_, cs, hh⟩ := row_lt o' e
    rw [ho] at hh
    have h1 : wr.heap[o]? = some (.cells _ K (0, 0)) := h.ko
    rw [hh] at h1
    simp at h1
    exact hK h1.2.symm
  refine ⟨⟨⟨af, cf, kf, of⟩, r1, r2, h.few.most, Nat.le_trans h.few.low hu.size⟩, fun S hS => ?_, ?_, ?_, fun af2 cf2 k2 a b e1 e2 hab => ?_, Nat.le_trans h.size hu.size, fun af2 cf2 k2 a e1 => ?_, h.upd.trans hu (fun k hk hs => ?_)⟩
  · have h1 := ((h.top S hS).put hin).1
    rw [List.take_add_one, List.getElem?_eq_getElem hi, List.reverse_append]
    exact h1
  · refine h.ko.upd hu ?_
    rintro (e | ⟨ar, cr, kr, a, e, ha⟩)
    · exact hne e.symm
    · exact hrowb kr a e ha
  · refine ownsRow_upd h.oo hu ?_
    rintro k hk (e | ⟨ar, cr, kr, a, e, ha⟩)
    · obtain ⟨_, cs, fz, hh⟩ := own_block h.oo hk
      subst e
      obtain ⟨ar', cr', k', _⟩ := h.few.row
      have h1 : wr.heap[k]? = some (.cells _ K (0, 0)) := k'
      rw [hh] at h1
      simp at h1
      exact hK h1.2.1.symm
    · obtain ⟨b, eb, hb⟩ := ownB hk
      exact h.ap ar cr kr a b e eb (ha.trans hb.symm)
  · have := few_uniqT k2 kf
    simp only [Value.slice.injEq] at this
    obtain ⟨rfl, -, rfl⟩ := this
    rcases hmv a e1 with ⟨ao0, c0, a0, k0, e0, h0⟩ | h0
    · exact h.ap ao0 c0 k0 a0 b e0 e2 (h0.trans hab)
    · have := (row_lt h.oo e2).1
      omega
  · have := few_uniqT k2 kf
    simp only [Value.slice.injEq] at this
    obtain ⟨rfl, -, rfl⟩ := this
    rcases hmv a e1 with ⟨ao0, c0, a0, k0, e0, h0⟩ | h0
    · rcases h.mv ao0 c0 k0 a0 e0 with ⟨ao1, c1, a1, k1, e1', h1⟩ | h1
      · exact Or.inl ⟨ao1, c1, a1, k1, e1', h1.trans h0⟩
      · exact Or.inr (by omega)
    · exact Or.inr (Nat.le_trans h.size h0)
  · rcases hs with e | ⟨ar, cr, kr, a, e, ha⟩
    · exact Or.inl e
    · rcases h.mv ar cr kr a e with ⟨ao1, c1, a1, k1, e1', h1⟩ | h1
      · exact Or.inr ⟨ao1, c1, k1, a1, e1', h1.trans ha⟩
      · omega
theorem rMerge_any (f o bf bo most : Nat) (T1 T2 : List Tr) (w : World) (hF : FewG 66 w f bf most T1) (hO : FewG 66 w o bo most T2) (hne : f ≠ o)
    (hap : ∀ af cf ao co, Blk w f #[.int .i64 most, .slice af T1.length cf] 66 → Blk w o #[.int .i64 most, .slice ao T2.length co] 66 → ∀ a b, af = some a → ao = some b → a.block ≠ b.block) :
    Calls Tryd.prog 19 #[.pointer (some ⟨f, 0, none⟩), .pointer (some ⟨o, 0, none⟩)] w fun e w' => ∃ ao co T', e = .returned (.int .i64 0) ∧ MrgG 66 w w' f o bf bo most ao co T1 T2 T' T2.length := by
  obtain ⟨af, cf, kf, of⟩ := hF.row
  obtain ⟨ao, co, ko, oo⟩ := hO.row
  have c0 : w.cell? ⟨f, 0, none⟩ = some (.int .i64 most) := kf.cell 0 rfl
  have d0 : w.cell? ⟨o, 0, none⟩ = some (.int .i64 most) := ko.cell 0 rfl
  have em : ((most : Int) != (most : Int)) = false := by simp
  have HI0 : Hid (∀ q, MrgG 66 w (w.drewN q) f o bf bo most ao co T1 T2 T1 0) := fun q => ⟨⟨⟨af, cf, kf, of⟩, hF.rise, hF.len, hF.most, hF.low⟩, fun S hS => hS, ko, oo, fun af2 cf2 k2 a b e1 e2 => hap af2 cf2 ao co k2 ko a b e1 e2, Nat.le_refl _, fun af2 cf2 k2 a e1 => Or.inl ⟨af2, cf2, a, k2, e1, rfl⟩, (Upd.refl _ _).drewN q⟩
  obtain ⟨n, hn⟩ : ∃ n, T2.length = n := ⟨_, rfl⟩
  have hn1 : (n : Int) ≤ 1000 := by have := hO.len; have := hO.most; omega
  have HN : Hid (T2.length = n) := hn
  clear hF hO kf of ko oo hap hn
  go_enter Tryd.func19, Tryd.ntmps19
  go_upto_region 1 with fail
  go_quiet (fail)
  have d1 := (HI0.out nq).ko.cell 1 rfl
  rw [HN.out] at d1
  go_wp2
  go_loopw [6] (fun z wr => ∃ (i : Nat) (Ti : List Tr), z = .int .i64 i ∧ i ≤ n ∧ Hid (MrgG 66 w wr f o bf bo most ao co T1 T2 Ti i)) (fun z _ => n - (intOf z).toNat)
  case atStart => exact ⟨0, T1, rfl, by omega, HI0.out _⟩
  case round =>
    obtain ⟨i, Ti, rfl, hin, HI⟩ := hrel
    clear HI0
    by_cases hlt : i < n
    · have hlt' : (i : Int) < (n : Int) := by omega
      have hiT : i < T2.length := by rw [HN.out]; exact hlt
      obtain ⟨g, e, _, hc⟩ := HI.out.oo.at (by omega)
      subst e
      have hci := hc i hiT
      obtain ⟨t, ht⟩ : ∃ t, T2[i] = t := ⟨_, rfl⟩
      rw [ht] at hci
      have a0 := hci.1
      have a1 := hci.2
      have PU : Hid (Calls Tryd.prog 17 #[.pointer (some ⟨f, 0, none⟩), .agg #[.int .u64 (bvI t.1), .int .u64 (bvI t.2)]] wr fun e w' => ∃ b T', e = .returned (.bool b) ∧ MrgG 66 w w' f o bf bo most (some ⟨g, 0, none⟩) co T1 T2 T' (i + 1)) := by
        refine (rPut_any f bf most Ti t wr HI.out.few).mono ?_
        rintro e w' ⟨b, T', rfl, h1, h2, h3, _⟩
        exact ⟨b, T', rfl, HI.out.next (by decide) hne hiT (by rw [ht]; exact h1) h2 h3⟩
      clear hc hci HI ht
      go_wp2_with (go_at_call 17; refine PU.out.mono ?_; clear PU; rintro e w2 ⟨b, T', rfl, hM⟩; have HM : Hid (MrgG 66 w w2 f o bf bo most (some ⟨g, 0, none⟩) co T1 T2 T' (i + 1)) := hM; clear hM)
      go_roundw
      case rel => exact ⟨i + 1, T', by go_num, by omega, HM⟩
      case measure => (simp [intOf]; omega)
    · obtain rfl : n = i := by omega
      have HE : Hid (MrgG 66 w wr f o bf bo most ao co T1 T2 Ti T2.length) := by rw [HN.out]; exact HI.out
      clear HI
      go_wp2
      go_ret
      exact ⟨ao, co, Ti, rfl, HE.out⟩
theorem rMergeSelf_any (f base most : Nat) (T : List Tr) (w : World) (hF : FewG 66 w f base most T) :
    Calls Tryd.prog 19 #[.pointer (some ⟨f, 0, none⟩), .pointer (some ⟨f, 0, none⟩)] w fun e w' => e = .returned (.int .i64 0) ∧ Below w.heap.size w w' := by
  obtain ⟨ao, co, ko, oo⟩ := hF.row
  have c0 : w.cell? ⟨f, 0, none⟩ = some (.int .i64 most) := ko.cell 0 rfl
  have em : ((most : Int) != (most : Int)) = false := by simp
  have HI0 : Hid (∀ q, Below w.heap.size w (w.drewN q)) := fun q => ⟨rfl, rfl, rfl, Nat.le_refl _, fun _ _ => rfl⟩
  have HF : Hid (TrAt w ao T ∧ Blk w f #[.int .i64 most, .slice ao T.length co] 66) := ⟨oo.at, ko⟩
  have HK : Hid (∀ W, Below w.heap.size w W → FewG 66 W f base most T) := fun W hW => ⟨⟨ao, co, ko.below hW ko.lt, ownsRow_upd oo (Upd.ofBelow (S := fun _ => False) hW (fun k h1 h2 => by omega)) (fun _ _ h => h)⟩, hF.rise, hF.len, hF.most, Nat.le_trans hF.low hW.size⟩
  obtain ⟨n, hn⟩ : ∃ n, T.length = n := ⟨_, rfl⟩
  have hn1 : (n : Int) ≤ 1000 := by have := hF.len; have := hF.most; omega
  have HN : Hid (T.length = n) := hn
  clear hF ko oo hn
  go_enter Tryd.func19, Tryd.ntmps19
  go_upto_region 1 with fail
  go_quiet (fail)
  have d1 := (HF.out.2.below (HI0.out nq) HF.out.2.lt).cell 1 rfl
  rw [HN.out] at d1
  go_wp2
  go_loopw [6] (fun z wr => ∃ (i : Nat), z = .int .i64 i ∧ i ≤ n ∧ Hid (Below w.heap.size w wr)) (fun z _ => n - (intOf z).toNat)
  case atStart => exact ⟨0, rfl, by omega, HI0.out _⟩
  case round =>
    obtain ⟨i, rfl, hin, HI⟩ := hrel
    clear HI0
    by_cases hlt : i < n
    · have hlt' : (i : Int) < (n : Int) := by omega
      have hiT : i < T.length := by rw [HN.out]; exact hlt
      obtain ⟨g, e, _, hc⟩ := (HF.out.1.below HI.out) (by omega)
      subst e
      have hci := hc i hiT
      obtain ⟨t, ht⟩ : ∃ t, T[i] = t := ⟨_, rfl⟩
      rw [ht] at hci
      have a0 := hci.1
      have a1 := hci.2
      have PU : Hid (Calls Tryd.prog 17 #[.pointer (some ⟨f, 0, none⟩), .agg #[.int .u64 (bvI t.1), .int .u64 (bvI t.2)]] wr fun e w' => ∃ b, e = .returned (.bool b) ∧ Below w.heap.size w w') := by
        refine (rPut_any f base most T t wr (HK.out _ HI.out)).mono ?_
        rintro e w' ⟨b, T', rfl, _, _, _, h2⟩
        exact ⟨b, rfl, HI.out.trans ((h2 (ht ▸ List.getElem_mem hiT)).mono HI.out.size)⟩
      clear hc hci HI ht
      go_wp2_with (go_at_call 17; refine PU.out.mono ?_; clear PU; rintro e w2 ⟨b, rfl, hM⟩; have HM : Hid (Below w.heap.size w w2) := hM; clear hM)
      go_roundw
      case rel => exact ⟨i + 1, by go_num, by omega, HM⟩
      case measure => (simp [intOf]; omega)
    · obtain rfl : n = i := by omega
      have HE : Hid (Below w.heap.size w wr) := HI.out
      clear HI
      go_wp2
      go_ret
      exact ⟨rfl, HE.out⟩
theorem rMergeBad_any (f most o most2 : Nat) (a b : Value) (w : World) (hF : Blk w f #[.int .i64 most, a] 66) (hO : Blk w o #[.int .i64 most2, b] 66) (hne : most2 ≠ most) :
    Calls Tryd.prog 19 #[.pointer (some ⟨f, 0, none⟩), .pointer (some ⟨o, 0, none⟩)] w fun e w' => e = .returned (.int .i64 1) ∧ Below w.heap.size w w' := by
  have c0 : w.cell? ⟨f, 0, none⟩ = some (.int .i64 most) := hF.cell 0 rfl
  have d0 : w.cell? ⟨o, 0, none⟩ = some (.int .i64 most2) := hO.cell 0 rfl
  have em : ((most2 : Int) != (most : Int)) = true := by simp; omega
  have HI0 : Hid (∀ q, Below w.heap.size w (w.drewN q)) := fun q => ⟨rfl, rfl, rfl, Nat.le_refl _, fun _ _ => rfl⟩
  clear hF hO
  go_enter Tryd.func19, Tryd.ntmps19
  go_upto_region 1 with fail
  go_quiet (fail)
  go_wp2
  go_ret
  exact ⟨rfl, HI0.out _⟩
end Go.Proofs.YtpcfchbiohbcoaaDoor
