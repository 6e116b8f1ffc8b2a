/-
  SbD.
-/
import Derived.Test.YtpcfchbiohbcoaaDoorSbBq
namespace Go.Proofs.YtpcfchbiohbcoaaDoor
open Go Go.RowKit
set_option maxRecDepth 100000

theorem InF.few {most : Nat} {T T' : List Tr} {t : Tr} {b : Bool} (h : InF most T t T' b) (hr : RiseF T) (hl : T.length ≤ most) : RiseF T' ∧ T'.length ≤ most := by
  have h0 : TopF most T T := ⟨(rise_pw T).1 hr, fun x hx => hx, hl, fun s hs hn => absurd hs hn⟩
  have h1 := (h0.put h).1
  exact ⟨(rise_pw T').2 h1.pw, h1.len⟩
/-- While one is merged into another. -/
structure MrgI (w wr : World) (f o bf bo most : Nat) (ao : Option Addr) (co : Nat) (T1 T2 Ti : List Tr) (i : Nat) : Prop where
  few : FewAt wr f bf most Ti
  top : ∀ S, TopF most S T1 → TopF most ((T2.take i).reverse ++ S) Ti
  ko : Blk wr o #[.int .i64 most, .slice ao T2.length co] 64
  oo : OwnTr bo wr (.slice ao T2.length co) T2
  ap : ∀ af cf, Blk wr f #[.int .i64 most, .slice af Ti.length cf] 64 → ∀ a b, af = some a → ao = some b → a.block ≠ b.block
  size : w.heap.size ≤ wr.heap.size
  mv : ∀ af cf, Blk wr f #[.int .i64 most, .slice af Ti.length cf] 64 → ∀ a, af = some a → (∃ ao0 c0 a0, Blk w f #[.int .i64 most, .slice ao0 T1.length c0] 64 ∧ ao0 = some a0 ∧ a0.block = a.block) ∨ w.heap.size ≤ a.block
  upd : Upd (fun k => k = f ∨ ∃ ao c, Blk w f #[.int .i64 most, .slice ao T1.length c] 64 ∧ ∃ a, ao = some a ∧ a.block = k) w wr
theorem row_lt {base : Nat} {w : World} {ao : Option Addr} {n c : Nat} {T : List Tr} (h : OwnTr base w (.slice ao n c) T) {a : Addr} (e : ao = some a) : a.block < w.heap.size ∧ ∃ cs, w.heap[a.block]? = some (.cells cs 33 (0, 0)) := by
  rcases h.2 with ⟨e', _⟩ | ⟨g, cap, cur, e', hg, hh, _⟩
  · simp [e] at e'
  · simp [e] at e'
    obtain ⟨rfl, _⟩ := e'
    exact ⟨lt_of_block hh, cur, hh⟩
theorem few_uniq {w : World} {f most : Nat} {a b : Value} (h : Blk w f #[.int .i64 most, a] 64) (k : Blk w f #[.int .i64 most, b] 64) : a = b := by
  have h1 : w.heap[f]? = some (.cells _ _ (0, 0)) := h
  have h2 : w.heap[f]? = some (.cells _ _ (0, 0)) := k
  rw [h1] at h2
  simp at h2
  exact h2
theorem MrgI.next {w wr w' : World} {f o bf bo most : Nat} {ao : Option Addr} {co : Nat} {T1 T2 Ti T' : List Tr} {i : Nat} {b : Bool} (h : MrgI w wr f o bf bo most ao co T1 T2 Ti i) (hne : f ≠ o) (hi : i < T2.length) (hin : InF most Ti T2[i] T' b)
    (hrow : ∃ ao c, Blk w' f #[.int .i64 most, .slice ao T'.length c] 64 ∧ OwnTr bf w' (.slice ao T'.length c) T' ∧ ∀ a, ao = some a → (∃ ao0 c0 a0, Blk wr f #[.int .i64 most, .slice ao0 Ti.length c0] 64 ∧ ao0 = some a0 ∧ a0.block = a.block) ∨ wr.heap.size ≤ a.block)
    (hu : Upd (fun k => k = f ∨ ∃ ao c, Blk wr f #[.int .i64 most, .slice ao Ti.length c] 64 ∧ ∃ a, ao = some a ∧ a.block = k) wr w') : MrgI w w' f o bf bo most ao co T1 T2 T' (i + 1) := by
  obtain ⟨af, cf, kf, of, hmv⟩ := hrow
  obtain ⟨r1, r2⟩ := hin.few h.few.rise h.few.len
  have hrowb : ∀ {ar cr}, Blk wr f #[.int .i64 most, .slice ar Ti.length cr] 64 → ∀ a, ar = some a → a.block ≠ o := fun {ar cr} hb a e ho => by
    obtain ⟨ar', cr', k', o'⟩ := h.few.row
    have := few_uniq hb k'
    simp only [Value.slice.injEq] at this
    obtain ⟨rfl, -, rfl⟩ := this
    obtain ⟨_, cs, hh⟩ := row_lt o' e
    rw [ho] at hh
    have h1 : wr.heap[o]? = some (.cells _ 64 (0, 0)) := h.ko
    rw [hh] at h1
    simp at h1
  refine ⟨⟨⟨af, cf, kf, of⟩, r1, r2, h.few.most, Nat.le_trans h.few.low hu.size⟩, fun S hS => ?_, ?_, ?_, fun af2 cf2 k2 a b e1 e2 hab => ?_, Nat.le_trans h.size hu.size, fun af2 cf2 k2 a e1 => ?_, h.upd.trans hu (fun k hk hs => ?_)⟩
  · have h1 := ((h.top S hS).put hin).1
    rw [List.take_add_one, List.getElem?_eq_getElem hi, List.reverse_append]
    exact h1
  · refine h.ko.upd hu ?_
    rintro (e | ⟨ar, cr, kr, a, e, ha⟩)
    · exact hne e.symm
    · exact hrowb kr a e ha
  · refine ownsRow_upd h.oo hu ?_
    rintro k hk (e | ⟨ar, cr, kr, a, e, ha⟩)
    · obtain ⟨_, cs, fz, hh⟩ := own_block h.oo hk
      subst e
      obtain ⟨ar', cr', k', _⟩ := h.few.row
      have h1 : wr.heap[k]? = some (.cells _ 64 (0, 0)) := k'
      rw [hh] at h1
      simp at h1
    · obtain ⟨b, eb, hb⟩ := ownB hk
      exact h.ap ar cr kr a b e eb (ha.trans hb.symm)
  · have := few_uniq k2 kf
    simp only [Value.slice.injEq] at this
    obtain ⟨rfl, -, rfl⟩ := this
    rcases hmv a e1 with ⟨ao0, c0, a0, k0, e0, h0⟩ | h0
    · exact h.ap ao0 c0 k0 a0 b e0 e2 (h0.trans hab)
    · have := (row_lt h.oo e2).1
      omega
  · have := few_uniq k2 kf
    simp only [Value.slice.injEq] at this
    obtain ⟨rfl, -, rfl⟩ := this
    rcases hmv a e1 with ⟨ao0, c0, a0, k0, e0, h0⟩ | h0
    · rcases h.mv ao0 c0 k0 a0 e0 with ⟨ao1, c1, a1, k1, e1', h1⟩ | h1
      · exact Or.inl ⟨ao1, c1, a1, k1, e1', h1.trans h0⟩
      · exact Or.inr (by omega)
    · exact Or.inr (Nat.le_trans h.size h0)
  · rcases hs with e | ⟨ar, cr, kr, a, e, ha⟩
    · exact Or.inl e
    · rcases h.mv ar cr kr a e with ⟨ao1, c1, a1, k1, e1', h1⟩ | h1
      · exact Or.inr ⟨ao1, c1, k1, a1, e1', h1.trans ha⟩
      · omega
theorem MrgI.alloc {w wr : World} {f o bf bo most : Nat} {ao : Option Addr} {co : Nat} {T1 T2 Ti : List Tr} {i : Nat} (h : MrgI w wr f o bf bo most ao co T1 T2 Ti i) (ob : Obj) : MrgI w (wr.alloc ob) f o bf bo most ao co T1 T2 Ti i := by
  have hb : Below wr.heap.size wr (wr.alloc ob) := (Below.refl _ _).alloc (Nat.le_refl _) _
  have hu : Upd (fun _ => False) wr (wr.alloc ob) := Upd.ofBelow hb (fun k hk hk' => by omega)
  obtain ⟨af, cf, kf, of⟩ := h.few.row
  refine ⟨⟨⟨af, cf, kf.below hb kf.lt, ownsRow_upd of hu (fun _ _ h => h)⟩, h.few.rise, h.few.len, h.few.most, Nat.le_trans h.few.low hb.size⟩, h.top, h.ko.below hb h.ko.lt, ownsRow_upd h.oo hu (fun _ _ h => h), fun af2 cf2 k2 a b e1 e2 => ?_, Nat.le_trans h.size hb.size, fun af2 cf2 k2 a e1 => ?_, h.upd.alloc ob⟩
  · have := few_uniq k2 (kf.below hb kf.lt)
    simp only [Value.slice.injEq] at this
    obtain ⟨rfl, -, rfl⟩ := this
    exact h.ap af2 cf2 kf a b e1 e2
  · have := few_uniq k2 (kf.below hb kf.lt)
    simp only [Value.slice.injEq] at this
    obtain ⟨rfl, -, rfl⟩ := this
    exact h.mv af2 cf2 kf a e1
set_option maxHeartbeats 4000000 in
theorem mergeF_any (f o bf bo most : Nat) (T1 T2 : List Tr) (w : World) (hF : FewAt w f bf most T1) (hO : FewAt w o bo most T2) (hne : f ≠ o)
    (hap : ∀ af cf ao co, Blk w f #[.int .i64 most, .slice af T1.length cf] 64 → Blk w o #[.int .i64 most, .slice ao T2.length co] 64 → ∀ a b, af = some a → ao = some b → a.block ≠ b.block) :
    Calls Tryd.prog 18 #[.pointer (some ⟨f, 0, none⟩), .pointer (some ⟨o, 0, none⟩)] w fun e w' => ∃ ao co T', e = .returned (.int .i64 0) ∧ MrgI w w' f o bf bo most ao co T1 T2 T' T2.length := by
  obtain ⟨af, cf, kf, of⟩ := hF.row
  obtain ⟨ao, co, ko, oo⟩ := hO.row
  have c0 : w.cell? ⟨f, 0, none⟩ = some (.int .i64 most) := kf.cell 0 rfl
  have d0 : w.cell? ⟨o, 0, none⟩ = some (.int .i64 most) := ko.cell 0 rfl
  have d1 : w.cell? ⟨o, 1, none⟩ = some (.slice ao T2.length co) := ko.cell 1 rfl
  have em : ((most : Int) != (most : Int)) = false := by simp
  have HI0 : Hid (∀ q, MrgI w (w.drewN q) f o bf bo most ao co T1 T2 T1 0) := fun q => ⟨⟨⟨af, cf, kf, of⟩, hF.rise, hF.len, hF.most, hF.low⟩, fun S hS => hS, ko, oo, fun af2 cf2 k2 a b e1 e2 => hap af2 cf2 ao co k2 ko a b e1 e2, Nat.le_refl _, fun af2 cf2 k2 a e1 => Or.inl ⟨af2, cf2, a, k2, e1, rfl⟩, (Upd.refl _ _).drewN q⟩
  obtain ⟨n, hn⟩ : ∃ n, T2.length = n := ⟨_, rfl⟩
  have hn1 : (n : Int) ≤ 1000 := by have := hO.len; have := hO.most; omega
  have HN : Hid (T2.length = n) := hn
  rw [hn] at d1
  clear hF hO kf of ko oo hap hn
  go_enter Tryd.func18, Tryd.ntmps18
  go_upto_region 1 with fail
  go_quiet (fail)
  go_wp2
  go_loopw [25] (fun z wr => ∃ (i : Nat) (Ti : List Tr), z = .int .i64 i ∧ i ≤ n ∧ Hid (MrgI w wr f o bf bo most ao co T1 T2 Ti i)) (fun z _ => n - (intOf z).toNat)
  case atStart => exact ⟨0, T1, rfl, by omega, HI0.out _⟩
  case round =>
    obtain ⟨i, Ti, rfl, hin, HI⟩ := hrel
    clear HI0
    by_cases hlt : i < n
    · have hlt' : (i : Int) < (n : Int) := by omega
      have hiT : i < T2.length := by rw [HN.out]; exact hlt
      obtain ⟨g, e, _, hc⟩ := HI.out.oo.at (by omega)
      subst e
      have hci := hc i hiT
      obtain ⟨t, ht⟩ : ∃ t, T2[i] = t := ⟨_, rfl⟩
      rw [ht] at hci
      have a0 := hci.1
      have a1 := hci.2
      have PU : Hid (∀ ob, Calls Tryd.prog 15 #[.pointer (some ⟨f, 0, none⟩), .agg #[.int .u64 (bvI t.1), .int .u64 (bvI t.2)]] (wr.alloc ob) fun e w' => ∃ b T', e = .returned (.bool b) ∧ MrgI w w' f o bf bo most (some ⟨g, 0, none⟩) co T1 T2 T' (i + 1)) := fun ob => by
        refine (putF_any f bf most Ti t (wr.alloc ob) (HI.out.alloc ob).few).mono ?_
        rintro e w' ⟨b, T', rfl, h1, h2, h3⟩
        exact ⟨b, T', rfl, (HI.out.alloc ob).next hne hiT (by rw [ht]; exact h1) h2 h3⟩
      clear hc hci HI ht
      go_wp2_with (go_at_call 15; refine (PU.out _).mono ?_; clear PU; rintro e w2 ⟨b, T', rfl, hM⟩; have HM : Hid (MrgI w w2 f o bf bo most (some ⟨g, 0, none⟩) co T1 T2 T' (i + 1)) := hM; clear hM)
      go_roundw
      case rel => exact ⟨i + 1, T', by go_num, by omega, HM⟩
      case measure => (simp [intOf]; omega)
    · obtain rfl : n = i := by omega
      have HE : Hid (MrgI w wr f o bf bo most ao co T1 T2 Ti T2.length) := by rw [HN.out]; exact HI.out
      clear HI
      go_wp2
      go_ret
      exact ⟨ao, co, Ti, rfl, HE.out⟩
end Go.Proofs.YtpcfchbiohbcoaaDoor
