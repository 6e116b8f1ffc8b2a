/-
  SbK.
-/
import Derived.Test.YtpcfchbiohbcoaaDoorSbEq
namespace Go.Proofs.YtpcfchbiohbcoaaDoor
open Go Go.RowKit Go.Lib
set_option maxRecDepth 100000

theorem set_same {w : World} {b : Nat} {c : Array Value} {K : TypeId} (h : Blk w b c K) (k : Nat) {v : Value} (hv : c[k]? = some v) (w0 : World) (hb : Below w0.heap.size w0 w) : Below w0.heap.size w0 (w.setCell ⟨b, k, none⟩ v) := by
  have h2 := h.set k v
  have e : c.setIfInBounds k v = c := by
    apply Array.ext_getElem?
    intro i
    rw [Array.getElem?_setIfInBounds]
    split
    · rename_i e
      subst e
      split
      · exact hv.symm
      · rename_i h3
        rw [Array.getElem?_eq_none (by omega)]
    · rfl
  rw [e] at h2
  have hu : Upd (fun i => i = b) w (w.setCell ⟨b, k, none⟩ v) := (Upd.refl (fun i => i = b) w).setCell (p := ⟨b, k, none⟩) (fun _ => rfl) _
  refine ⟨hu.os.trans hb.os, hu.tape.trans hb.tape, hu.output.trans hb.output, Nat.le_trans hb.size hu.size, fun i hi => ?_⟩
  rw [← hb.block i hi]
  by_cases e : i = b
  · subst e
    have h3 : w.heap[i]? = some (.cells c K (0, 0)) := h
    have h4 : (w.setCell ⟨i, k, none⟩ v).heap[i]? = some (.cells c K (0, 0)) := h2
    rw [h3, h4]
  · exact hu.block i (Nat.lt_of_lt_of_le hi hb.size) e
set_option maxHeartbeats 4000000 in
theorem keepThere_any (ao : Option Addr) (n c most : Nat) (T : List Tr) (t : Tr) (w : World) (hO : TrAt w ao T) (hl : T.length = n) (hR : RiseF T) (hn : n ≤ most) (hm : 2 ≤ most ∧ most ≤ 1000) (ht : t ∈ T) :
    Calls Tryd.prog 31 #[.slice ao n c, .agg #[.int .u64 (bvI t.1), .int .u64 (bvI t.2)], .int .i64 most, .func (.func 32) #[] #[]] w fun e w' => e = .returned (.tuple #[.slice ao n c, .bool true]) ∧ Below w.heap.size w w' := by
  have b0 : Below w.heap.size w (w.alloc (.cells #[.int .u64 (bvI t.1), .int .u64 (bvI t.2)] 33)) := (Below.refl _ _).alloc (Nat.le_refl _) _
  have SE := search_any ao n c T t (w.alloc (.cells #[.int .u64 (bvI t.1), .int .u64 (bvI t.2)] 33)) (hO.below b0) hl hR (by omega)
  have HB : Hid (Below w.heap.size w (w.alloc (.cells #[.int .u64 (bvI t.1), .int .u64 (bvI t.2)] 33))) := b0
  have HF : Hid (∀ p, SpotF T t p → ∃ h : p < T.length, T[p] = t) := fun p sp => by
    obtain ⟨i, hi, e⟩ := List.getElem_of_mem ht
    have h0 : cmpF T[i] t = 0 := by rw [e]; exact (good_cmpF.eq t t).2 rfl
    rcases Nat.lt_trichotomy i p with h1 | h1 | h1
    · have := sp.2.1 i hi h1
      omega
    · subst h1
      exact ⟨hi, e⟩
    · have hp : p < T.length := by omega
      have h2 := sp.2.2 p hp (Nat.le_refl _)
      have h3 := hR p i hp hi h1
      rw [e] at h3
      omega
  clear hO b0 ht
  go_enter Tryd.func31, Tryd.ntmps31
  go_upto_region 2 with (go_at_call 47; (with_reducible refine SE.mono ?_); clear SE; rintro e w1 ⟨p, f, rfl, hsp, hf, hb1⟩)
  have hft : f = true := hf.2 (HF.out p hsp)
  subst hft
  have HB1 : Hid (Below w.heap.size w w1) := HB.out.trans (hb1.mono HB.out.size)
  clear hf hsp hb1 HB HF
  go_wp2
  go_ret2
  exact ⟨rfl, HB1.out⟩
set_option maxHeartbeats 4000000 in
theorem putThere_any (f base most : Nat) (T : List Tr) (t : Tr) (w : World) (hF : FewAt w f base most T) (ht : t ∈ T) :
    Calls Tryd.prog 15 #[.pointer (some ⟨f, 0, none⟩), .agg #[.int .u64 (bvI t.1), .int .u64 (bvI t.2)]] w fun e w' => e = .returned (.bool true) ∧ Below w.heap.size w w' := by
  obtain ⟨ao, c, hf, hO⟩ := hF.row
  go_enter Tryd.func15, Tryd.ntmps15
  go_upto_region 1 with fail
  obtain ⟨w0, hw0⟩ : ∃ w0, w.alloc (.cells #[.int .u64 (bvI t.1), .int .u64 (bvI t.2)] 33) = w0 := ⟨_, rfl⟩
  have b0 : Below w.heap.size w w0 := by rw [← hw0]; exact (Below.refl _ _).alloc (Nat.le_refl _) _
  have k0 : Blk w0 w.heap.size #[.int .u64 (bvI t.1), .int .u64 (bvI t.2)] 33 := by rw [← hw0]; exact Blk.new _ _ _
  have KB : ∀ W : World, Below w0.heap.size w0 W → W.cell? ⟨f, 0, none⟩ = some (.int .i64 most) ∧ W.cell? ⟨f, 1, none⟩ = some (.slice ao T.length c) ∧ W.cell? ⟨w.heap.size, 0, none⟩ = some (.int .u64 (bvI t.1)) ∧ W.cell? ⟨w.heap.size, 1, none⟩ = some (.int .u64 (bvI t.2)) := fun W hu => by
    have k1 := (hf.below b0 hf.lt).below hu (Nat.lt_of_lt_of_le hf.lt b0.size)
    have k2 := k0.below hu k0.lt
    exact ⟨k1.cell 0 rfl, k1.cell 1 rfl, k2.cell 0 rfl, k2.cell 1 rfl⟩
  have B0 : Below w0.heap.size w0 w0.drew := (Below.refl _ _).drew
  have KE := keepThere_any ao T.length c most T t w0.drew ((hO.at.below b0).below B0) rfl hF.rise hF.len hF.most ht
  have HD : Hid (∀ W, Below w0.heap.size w0 W → Blk W f #[.int .i64 most, .slice ao T.length c] 64 ∧ Below w.heap.size w W) := fun W hW => ⟨(hf.below b0 hf.lt).below hW (Nat.lt_of_lt_of_le hf.lt b0.size), b0.trans (hW.mono b0.size)⟩
  rw [hw0]
  clear hw0 hf hO k0 hF ht
  go_region_held3 (fun W => W.cell? ⟨f, 0, none⟩ = some (.int .i64 most) ∧ W.cell? ⟨f, 1, none⟩ = some (.slice ao T.length c) ∧ W.cell? ⟨w.heap.size, 0, none⟩ = some (.int .u64 (bvI t.1)) ∧ W.cell? ⟨w.heap.size, 1, none⟩ = some (.int .u64 (bvI t.2))) (first | exact KB _ B0 | exact KB _ B1) (first
    | (go_at_call 31; refine KE.mono ?_; clear KE; rintro e w1 ⟨rfl, hb1⟩; have B1 : Below w0.heap.size w0 w1 := B0.trans (hb1.mono B0.size); clear hb1)
    | fail)
  all_goals
    obtain ⟨k1, bw⟩ := HD.out w1 B1
    have o1 := k1.cell 1 rfl
    have g1 := k1.frozen 1
    have HZ : Hid (Below w.heap.size w (w1.setCell ⟨f, 1, none⟩ (.slice ao T.length c))) := set_same k1 1 rfl w bw
    clear k1 bw KB B0 B1 HD
    go_wp2
    go_ret
    exact ⟨rfl, HZ.out⟩
/-- One is merged into itself: nothing changes. -/
theorem mergeSelf_any (f base most : Nat) (T : List Tr) (w : World) (hF : FewAt w f base most T) :
    Calls Tryd.prog 18 #[.pointer (some ⟨f, 0, none⟩), .pointer (some ⟨f, 0, none⟩)] w fun e w' => e = .returned (.int .i64 0) ∧ Below w.heap.size w w' := by
  obtain ⟨ao, co, ko, oo⟩ := hF.row
  have c0 : w.cell? ⟨f, 0, none⟩ = some (.int .i64 most) := ko.cell 0 rfl
  have d1 : w.cell? ⟨f, 1, none⟩ = some (.slice ao T.length co) := ko.cell 1 rfl
  have em : ((most : Int) != (most : Int)) = false := by simp
  have HI0 : Hid (∀ q, Below w.heap.size w (w.drewN q)) := fun q => ⟨rfl, rfl, rfl, Nat.le_refl _, fun _ _ => rfl⟩
  have HF : Hid (FewAt w f base most T ∧ TrAt w ao T) := ⟨hF, oo.at⟩
  have HK : Hid (∀ W, Below w.heap.size w W → FewAt W f base most T) := fun W hW => ⟨⟨ao, co, ko.below hW ko.lt, ownsRow_upd oo (Upd.ofBelow (S := fun _ => False) hW (fun k h1 h2 => by omega)) (fun _ _ h => h)⟩, hF.rise, hF.len, hF.most, Nat.le_trans hF.low hW.size⟩
  obtain ⟨n, hn⟩ : ∃ n, T.length = n := ⟨_, rfl⟩
  have hn1 : (n : Int) ≤ 1000 := by have := hF.len; have := hF.most; omega
  have HN : Hid (T.length = n) := hn
  rw [hn] at d1
  clear hF ko oo hn
  go_enter Tryd.func18, Tryd.ntmps18
  go_upto_region 1 with fail
  go_quiet (fail)
  go_wp2
  go_loopw [25] (fun z wr => ∃ (i : Nat), z = .int .i64 i ∧ i ≤ n ∧ Hid (Below w.heap.size w wr)) (fun z _ => n - (RowKit.intOf z).toNat)
  case atStart => exact ⟨0, rfl, by omega, HI0.out _⟩
  case round =>
    obtain ⟨i, rfl, hin, HI⟩ := hrel
    clear HI0
    by_cases hlt : i < n
    · have hlt' : (i : Int) < (n : Int) := by omega
      have hiT : i < T.length := by rw [HN.out]; exact hlt
      obtain ⟨g, e, _, hc⟩ := (HF.out.2.below HI.out) (by omega)
      subst e
      have hci := hc i hiT
      obtain ⟨t, ht⟩ : ∃ t, T[i] = t := ⟨_, rfl⟩
      rw [ht] at hci
      have a0 := hci.1
      have a1 := hci.2
      have PU : Hid (∀ ob, Calls Tryd.prog 15 #[.pointer (some ⟨f, 0, none⟩), .agg #[.int .u64 (bvI t.1), .int .u64 (bvI t.2)]] (wr.alloc ob) fun e w' => e = .returned (.bool true) ∧ Below w.heap.size w w') := fun ob => by
        have hb : Below w.heap.size w (wr.alloc ob) := HI.out.alloc HI.out.size _
        refine (putThere_any f base most T t (wr.alloc ob) (HK.out _ hb) (ht ▸ List.getElem_mem hiT)).mono ?_
        rintro e w' ⟨rfl, h2⟩
        exact ⟨rfl, hb.trans (h2.mono hb.size)⟩
      clear hc hci HI ht
      go_wp2_with (go_at_call 15; refine (PU.out _).mono ?_; clear PU; rintro e w2 ⟨rfl, hM⟩; have HM : Hid (Below w.heap.size w w2) := hM; clear hM)
      go_roundw
      case rel => exact ⟨i + 1, by go_num, by omega, HM⟩
      case measure => (simp [RowKit.intOf]; omega)
    · obtain rfl : n = i := by omega
      have HE : Hid (Below w.heap.size w wr) := HI.out
      clear HI
      go_wp2
      go_ret
      exact ⟨rfl, HE.out⟩
/-- One that has another most, or nil, is not merged in. -/
theorem mergeBad_any (f most o most2 : Nat) (a b : Value) (w : World) (hF : Blk w f #[.int .i64 most, a] 64) (hO : Blk w o #[.int .i64 most2, b] 64) (hne : most2 ≠ most) :
    Calls Tryd.prog 18 #[.pointer (some ⟨f, 0, none⟩), .pointer (some ⟨o, 0, none⟩)] w fun e w' => e = .returned (.int .i64 1) ∧ Below w.heap.size w w' := by
  have c0 : w.cell? ⟨f, 0, none⟩ = some (.int .i64 most) := hF.cell 0 rfl
  have d0 : w.cell? ⟨o, 0, none⟩ = some (.int .i64 most2) := hO.cell 0 rfl
  have em : ((most2 : Int) != (most : Int)) = true := by simp; omega
  have HI0 : Hid (∀ q, Below w.heap.size w (w.drewN q)) := fun q => ⟨rfl, rfl, rfl, Nat.le_refl _, fun _ _ => rfl⟩
  clear hF hO
  go_enter Tryd.func18, Tryd.ntmps18
  go_upto_region 1 with fail
  go_quiet (fail)
  go_wp2
  go_ret
  exact ⟨rfl, HI0.out _⟩
theorem mergeNil_any (f most : Nat) (a : Value) (w : World) (hF : Blk w f #[.int .i64 most, a] 64) :
    Calls Tryd.prog 18 #[.pointer (some ⟨f, 0, none⟩), .pointer none] w fun e w' => e = .returned (.int .i64 1) ∧ Below w.heap.size w w' := by
  have c0 : w.cell? ⟨f, 0, none⟩ = some (.int .i64 most) := hF.cell 0 rfl
  have HI0 : Hid (∀ q, Below w.heap.size w (w.drewN q)) := fun q => ⟨rfl, rfl, rfl, Nat.le_refl _, fun _ _ => rfl⟩
  clear hF
  go_enter Tryd.func18, Tryd.ntmps18
  go_upto_region 1 with fail
  go_quiet (fail)
  go_wp2
  go_ret
  exact ⟨rfl, HI0.out _⟩
end Go.Proofs.YtpcfchbiohbcoaaDoor
