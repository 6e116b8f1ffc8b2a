/-
  Contracts of layer 13: putAll, bars.
-/
import Derived.Test.YtmegmjhkjaejgaaSkE
import Derived.OwnWalk
import Derived.Deep.AppendLies
namespace Go.Proofs.Ytmegmjhkjaejgaa.sk
open Go.RowKit
set_option maxRecDepth 100000

def PutsP (g : Nat) (f : Nat → Nat) (l : List (Int × Int)) (w : World) (e : Ending) (w' : World) : Prop := e = .returned (.tuple #[]) ∧ CntAt w' g (putsF f l) (numF (putsF f l)) ∧ Upd (fun k => k = g) w w'
theorem puts_drop {f h : Nat → Nat} {l : List (Int × Int)} {k : Nat} (hk : k < l.length) (e : putsF f l = putsF h (l.drop k)) : putsF f l = putsF (putF h l[k].1.toNat l[k].2.toNat) (l.drop (k + 1)) := by
  rw [e, List.drop_eq_getElem_cons hk, putsF_cons]
/-- Midway: the counts so far. -/
def Mid (g : Nat) (f : Nat → Nat) (l : List (Int × Int)) (k : Nat) (w wr : World) : Prop := ∃ h, putsF f l = putsF h (l.drop k) ∧ (∀ j, h j ≤ topC) ∧ CntAt wr g h (numF h) ∧ Upd (fun k => k = g) w wr
set_option maxHeartbeats 1000000 in
theorem putAll_any (g : Nat) (f : Nat → Nat) (ad : Option Addr) (n c : Nat) (l : List (Int × Int)) (w : World) (hA : BarAt w ad n l) (hn : n ≤ maxLen) (hi : Bin l) (hx : ∀ b ∈ l, 0 ≤ b.1 ∧ b.1 < 1920) (hg : ∀ a, ad = some a → 0 < n → a.block ≠ g) (hf : ∀ j, f j ≤ topC) (h : CntAt w g f (numF f)) :
    Calls Try.prog 28 #[.pointer (some ⟨g, 0, none⟩), .slice ad n c] w (PutsP g f l w) := by
  unfold maxLen at hn
  have HL : Hid (l.length = n) := hA.len
  have hlt0 := h.lt
  have HM : Hid (Mid g f l 0 w w) := ⟨f, rfl, hf, h, Upd.refl _ _⟩
  clear h hf
  go_enter Try.func28, Try.ntmps28
  go_wp2
  go_loopw [8] (fun t wr => ∃ (k : Nat), t = .int .i64 k ∧ k ≤ n ∧ Hid (Mid g f l k w wr)) (fun t _ => n - (intOf t).toNat)
  case atStart => exact ⟨0, rfl, by omega, HM⟩
  case round =>
    obtain ⟨k, rfl, hk, HK⟩ := hrel
    by_cases hlt : k < n
    · obtain ⟨h, hd, hb, hC, hu⟩ := HK.out
      have hsz := hu.size
      obtain ⟨b, off, rfl, hc⟩ := (hA.updN hu (fun a ha hp => hg a ha hp)).lies (by omega)
      have hkl : k < l.length := by rw [HL.out]; exact hlt
      obtain ⟨c0, c1⟩ := hc k hkl
      clear hc
      have hik := hi l[k] (List.getElem_mem hkl)
      have hxk := hx l[k] (List.getElem_mem hkl)
      have HD : Hid _ := puts_drop hkl hd
      obtain ⟨x, hx⟩ : ∃ x, l[k] = x := ⟨_, rfl⟩
      rw [hx] at c0 c1 hik HD hxk
      obtain ⟨i, m⟩ := x
      simp only at c0 c1 hik HD hxk
      obtain ⟨i1, i2, m1, m2⟩ := hik
      clear hx hkl hd
      obtain ⟨p, rfl⟩ := Int.eq_ofNat_of_zero_le hxk.1
      obtain ⟨q, rfl⟩ := Int.eq_ofNat_of_zero_le m1
      have uA := (Upd.refl (fun _ => False) wr).alloc (.cells #[.int .i64 (p : Int), .int .u64 (q : Int)] 46)
      have PA := put_any g h p q (by omega) (by omega) hb _ (hC.upd uA (fun h => h))
      have HB : Hid _ := hb
      have HU : Hid _ := hu
      clear hC uA hb hu i1 i2 m1 m2 hxk
      go_wp2_with (go_at_call 29; (with_reducible refine PA.mono ?_); clear PA; rintro e w2 ⟨rfl, h2, u2⟩; have H2 : Hid _ := h2; clear h2)
      go_roundw
      case rel =>
        refine ⟨k + 1, by go_num, by omega, ?_⟩
        exact ⟨_, HD.out, putF_le HB.out _ _, H2.out, (HU.out.alloc _).trans u2 (fun _ _ h => h)⟩
      case measure => simp [intOf]; omega
    · have HE : Hid (PutsP g f l w (.returned (.tuple #[])) wr) := by
        obtain ⟨h, hd, hb, hC, hu⟩ := HK.out
        rw [List.drop_eq_nil_of_le (by rw [HL.out]; omega)] at hd
        have hd' : putsF f l = h := hd
        refine ⟨rfl, ?_, hu⟩
        rw [hd']
        exact hC
      go_wp2
      go_end0
      exact HE.out
/-- What bars tells. -/
def BarsP (f : Nat → Nat) (w : World) (e : Ending) (w' : World) : Prop := ∃ v, e = .returned v ∧ OwnBar w.heap.size w' v (barsF f) ∧ Below w.heap.size w w'
theorem BarAt_of {base : Nat} {w : World} {v : Value} {l : List (Int × Int)} (h : OwnBar base w v l) : ∃ ao c, v = .slice ao l.length c ∧ BarAt w ao l.length l ∧ ∀ a, ao = some a → base ≤ a.block := by
  obtain ⟨ao, n, c, rfl⟩ := row_shape h
  obtain ⟨rfl, _, _⟩ := own_cap h
  refine ⟨ao, c, rfl, h.at, ?_⟩
  rintro a rfl
  rcases h.2 with ⟨e, _⟩ | ⟨g, cap, cur, e, hg, _⟩
  · simp at e
  · simp at e
    obtain ⟨rfl, _⟩ := e
    exact hg
set_option maxHeartbeats 1000000 in
theorem bars_any (g : Nat) (f : Nat → Nat) (w : World) (h : CntAt w g f (numF f)) :
    Calls Try.prog 30 #[.pointer (some ⟨g, 0, none⟩)] w (BarsP f w) := by
  obtain ⟨i0, hi, hz0, hz1, hz2⟩ := info_parts Try.info46
  have hn := numF_le f
  have hW : ∀ {k : Nat}, k ≤ 1920 → numF f ≤ (barsN f k).length → barsN f k = barsF f := fun a b => barsN_whole f a b
  have hLe : ∀ {k : Nat}, k ≤ 1920 → (barsN f k).length ≤ numF f := fun a => barsN_len_le f a
  have hTop : (barsN f 1920).length = numF f := rfl
  have cu := h.used
  have hlt0 := h.lt
  obtain ⟨u, hu⟩ : ∃ u, numF f = u := ⟨_, rfl⟩
  rw [hu] at hn h hW hLe hTop cu
  have HW : Hid (∀ {k : Nat}, k ≤ 1920 → u ≤ (barsN f k).length → barsN f k = barsF f) := hW
  have HLe : Hid (∀ {k : Nat}, k ≤ 1920 → (barsN f k).length ≤ u) := hLe
  have HTop : Hid ((barsN f 1920).length = u) := hTop
  clear hu hW hLe hTop
  have hn' : (u : Int) ≤ 1920 := by omega
  have HC : Hid (CntAt w g f u) := h
  clear h
  go_enter Try.func30, Try.ntmps30
  go_wp2_with (at_make; refine wpList_make_own _ rfl _ _ 28 rfl w.heap.size 46 i0 _ 2 Try.underlying28 hi hz0 hz1 .i64 .i64 _ u rfl rfl (by omega) (by rw [hz2]; omega) (by unfold maxLen; omega) (Nat.le_refl _) ?_; intro w1 o1 g1)
  clear cu
  go_loopw [3, 4] (fun a t wr => ∃ (k L : Nat), t = .int .i64 k ∧ k ≤ 1920 ∧ a = .slice (some ⟨w.heap.size, 0, none⟩) L u ∧ Hid (L = (barsN f k).length) ∧ Hid (OwnBar w.heap.size wr a (barsN f k)) ∧ Below w.heap.size w wr) (fun _ t _ => 1920 - (intOf t).toNat)
  case atStart => exact ⟨0, 0, rfl, by omega, rfl, rfl, o1, g1.os, g1.tape, g1.output, g1.size, fun k hk => g1.block k hk (by simp)⟩
  case round =>
    obtain ⟨k, L, rfl, hk, rfl, HL, HO, hb⟩ := hrel
    have hsz := hb.size
    have hC : CntAt wr g f u := HC.out.upd (Upd.ofBelow (S := fun k => w.heap.size ≤ k) hb (fun _ _ h => h)) (by omega)
    have cu := hC.used
    by_cases hlt : L < u
    · have hkk : k < 1920 := by
        rcases Nat.lt_or_ge k 1920 with h | h
        · exact h
        · obtain rfl : k = 1920 := by omega
          have := HTop.out
          have := HL.out
          omega
      have hlt' : (L : Int) < (u : Int) := by omega
      have hkk' : (k : Int) < 1920 := by omega
      have c0 := hC.of_ k hkk
      have HS : Hid _ := barsN_succ f k
      obtain ⟨y, hy⟩ : ∃ y, f k = y := ⟨_, rfl⟩
      rw [hy] at c0 HS
      clear hy hC
      by_cases hy0 : y = 0
      · subst hy0
        have c0' : wr.cell? ⟨g, k, none⟩ = some (.int .u64 0) := c0
        clear c0
        go_wp2
        go_roundw
        case rel =>
          have e : barsN f (k + 1) = barsN f k := by rw [HS.out, if_pos rfl, List.append_nil]
          refine ⟨k + 1, L, by go_num, by omega, rfl, ?_, ?_, hb⟩
          · show L = _
            rw [e]; exact HL.out
          · show OwnBar _ _ _ _
            rw [e]; exact HO.out
        case measure => simp [intOf]; omega
      · obtain ⟨Y, hY⟩ : ∃ Y : Int, (y : Int) = Y := ⟨_, rfl⟩
        have hy1 : (0 : Int) < Y := by omega
        have e : barsN f (k + 1) = barsN f k ++ [((k : Int), Y)] := by rw [HS.out, if_neg hy0, hY]
        have HE : Hid _ := e
        rw [hY] at c0
        clear hY hy0 HS e
        have OW : (wr.alloc (.cells #[.int .i64 (k : Int), .int .u64 Y] 46)).ownsRow w.heap.size 46 2 (.slice (some ⟨w.heap.size, 0, none⟩) L u) L ((barsN f k).flatMap barC) := by
          have := ownsRow_upd HO.out ((Upd.refl (fun _ => False) wr).alloc (.cells #[.int .i64 (k : Int), .int .u64 Y] 46)) (fun _ _ h => h)
          rw [← HL.out] at this
          exact this
        have hN : ∀ q v, ([.int .i64 (k : Int), .int .u64 Y] : List Value)[q]? = some v → (wr.alloc (.cells #[.int .i64 (k : Int), .int .u64 Y] 46)).cell? ((⟨wr.heap.size, 0, none⟩ : Addr).add q) = some v :=
          World.news_of_block (cs := #[.int .i64 (k : Int), .int .u64 Y]) (t := 46) (fr := (0, 0)) (heap_alloc_new wr _)
        go_wp2_with (at_builtin; refine wpList_append_fits _ rfl _ _ 28 rfl w.heap.size 46 i0 2 Try.underlying28 hi hz1 w.heap.size L u _ rfl OW ⟨wr.heap.size, 0, none⟩ 1 1 [.int .i64 (k : Int), .int .u64 Y] rfl rfl hN (by simp [Value.oneCell']) (by omega) ?_; clear OW hN; intro w3 o3 g3)
        go_roundw
        case rel =>
          have e := HE.out
          refine ⟨k + 1, L + 1, by go_num, by omega, rfl, ?_, ?_, ?_⟩
          · show L + 1 = _
            rw [e, List.length_append, ← HL.out]; rfl
          · show OwnBar _ _ _ _
            unfold OwnBar
            rw [e, List.length_append, ← HL.out, List.flatMap_append]
            exact o3
          · have b3 := hb.alloc hb.size (.cells #[.int .i64 (k : Int), .int .u64 Y] 46)
            exact b3.trans ⟨g3.os, g3.tape, g3.output, g3.size, fun q hq => g3.block q (by simp; omega) (fun e => by cases e; omega)⟩
        case measure => simp [intOf]; omega
    · have hlt' : ¬ (L : Int) < (u : Int) := by omega
      have HE : Hid (BarsP f w (.returned (.slice (some ⟨w.heap.size, 0, none⟩) L u)) wr) := by
        have e := HW.out hk (by rw [← HL.out]; omega)
        have ho := HO.out
        rw [e] at ho
        exact ⟨_, rfl, ho, hb⟩
      clear hC
      go_wp2
      go_ret
      exact HE.out
end Go.Proofs.Ytmegmjhkjaejgaa.sk
