/-
  Merged: SkE, SkF, SkG.
-/
import Derived.Test.YtkpkdikogoalkaaGreatDoorSkAq
import Derived.Laws.Externs
import Derived.OwnWalk
import Derived.Deep.AppendLies
namespace Go.Proofs.YtkpkdikogoalkaaGreatDoor.sk
open Go.RowKit
set_option maxRecDepth 100000

def zeroC : Array Value := Array.replicate 1920 (Value.int .u64 0) ++ #[.int .i64 0]
theorem Tryz.info104 : (Tryz.prog.info? 104).map (fun i => (i.zero, i.size)) = some (some (.agg zeroC), 1921) := by kernel_rfl

/-- How many of each bar, and how many bars have any. -/
structure CntAt (w : World) (g : Nat) (f : Nat → Nat) (u : Nat) : Prop where
  blk : ∃ cs, w.heap[g]? = some (.cells cs 104 (0, 0)) ∧ cs.size = 1921
  of_ : ∀ i : Nat, i < 1920 → w.cell? ⟨g, i, none⟩ = some (.int .u64 (f i : Int))
  used : w.cell? ⟨g, 1920, none⟩ = some (.int .i64 (u : Int))
theorem CntAt.free {w : World} {g : Nat} {f : Nat → Nat} {u : Nat} (h : CntAt w g f u) (i : Nat) : w.frozen? ⟨g, i, none⟩ = false := by
  obtain ⟨cs, hb, _⟩ := h.blk
  exact blk_free hb i
theorem cell_set_same {w : World} {g i : Nat} {cs : Array Value} {t : TypeId} {fz : Nat × Nat} (hb : w.heap[g]? = some (.cells cs t fz)) (hi : i < cs.size) (v : Value) : (w.setCell ⟨g, i, none⟩ v).cell? ⟨g, i, none⟩ = some v := by
  exact blk_cell (set_block hb i v) i (by simp [hi])
theorem cell_set_other {w : World} {g i j : Nat} {cs : Array Value} {t : TypeId} {fz : Nat × Nat} (hb : w.heap[g]? = some (.cells cs t fz)) (hij : i ≠ j) (v : Value) : (w.setCell ⟨g, i, none⟩ v).cell? ⟨g, j, none⟩ = w.cell? ⟨g, j, none⟩ := by
  have h2 := set_block hb i v
  simp only [World.cell?, h2, hb]
  simp [hij]
theorem CntAt.set {w : World} {g : Nat} {f : Nat → Nat} {u : Nat} (h : CntAt w g f u) {i : Nat} (hi : i < 1920) (x : Nat) : CntAt (w.setCell ⟨g, i, none⟩ (.int .u64 (x : Int))) g (setF f i x) u := by
  obtain ⟨cs, hb, hs⟩ := h.blk
  refine ⟨⟨_, set_block hb i _, by simpa using hs⟩, fun j hj => ?_, ?_⟩
  · by_cases e : i = j
    · subst e
      rw [cell_set_same hb (by omega), setF_same]
    · rw [cell_set_other hb e, setF_other (Ne.symm e)]
      exact h.of_ j hj
  · rw [cell_set_other hb (by omega)]
    exact h.used
theorem CntAt.setU {w : World} {g : Nat} {f : Nat → Nat} {u : Nat} (h : CntAt w g f u) (x : Nat) : CntAt (w.setCell ⟨g, 1920, none⟩ (.int .i64 (x : Int))) g f x := by
  obtain ⟨cs, hb, hs⟩ := h.blk
  refine ⟨⟨_, set_block hb _ _, by simpa using hs⟩, fun j hj => ?_, ?_⟩
  · rw [cell_set_other hb (by omega)]
    exact h.of_ j hj
  · exact cell_set_same hb (by omega) _
theorem CntAt.upd {S : Nat → Prop} {w w' : World} {g : Nat} {f : Nat → Nat} {u : Nat} (h : CntAt w g f u) (hu : Upd S w w') (hS : ¬ S g) : CntAt w' g f u := by
  obtain ⟨cs, hb, hs⟩ := h.blk
  exact ⟨⟨cs, by rw [hu.block g (lt_of_block hb) hS]; exact hb, hs⟩, fun i hi => cell_upd hu (h.of_ i hi) hS, cell_upd hu h.used hS⟩
theorem CntAt.lt {w : World} {g : Nat} {f : Nat → Nat} {u : Nat} (h : CntAt w g f u) : g < w.heap.size := by
  obtain ⟨cs, hb, _⟩ := h.blk
  exact lt_of_block hb
theorem CntAt.new (w : World) : CntAt (w.alloc (.cells zeroC 104)) w.heap.size (fun _ => 0) (numF (fun _ => 0)) := by
  rw [numF_zero]
  have hb := heap_alloc_new w (.cells zeroC 104)
  refine ⟨⟨_, hb, by simp [zeroC]⟩, fun i hi => blk_cell hb i ?_, blk_cell hb 1920 ?_⟩
  · unfold zeroC
    rw [Array.getElem?_append_left (by simpa using hi), Array.getElem?_replicate, if_pos hi]
    rfl
  · unfold zeroC
    rw [Array.getElem?_append_right (by simp)]
    simp
theorem add64_run (x y : Nat) (w : World) :
    (callFunc 63 #[.int .u64 (x : Int), .int .u64 (y : Int), .int .u64 0]).run Tryz.prog w =
      .ok (.value (.tuple #[.int .u64 (((x + y) % 18446744073709551616 : Nat) : Int), .int .u64 (((x + y) / 18446744073709551616 : Nat) : Int)])) w := by
  rw [run_callFunc_extern Tryz.func63 (by kernel_rfl) (by kernel_rfl) (by kernel_rfl) (e := add64Entry) (by kernel_rfl), run_add64 x y 0 (by omega) (by omega) (by omega) (by omega)]
  simp only [Result.andThen]
  congr 5 <;> omega
/-- What putting leaves. -/
def PutP (g : Nat) (f : Nat → Nat) (i m : Nat) (w : World) (e : Ending) (w' : World) : Prop := e = .returned (.tuple #[]) ∧ CntAt w' g (putF f i m) (numF (putF f i m)) ∧ Upd (fun k => k = g) w w'
theorem cast_nat {a : Int} {n : Nat} (h : a = (n : Int)) (k : IntKind) : Value.int k a = Value.int k (n : Int) := by rw [h]
theorem put_end {g : Nat} {f : Nat → Nat} {i m : Nat} {w : World} (hi : i < 1920) (h : CntAt w g f (numF f)) {x : Nat} (hx : x = min (f i + m) topC) (hne : f i = 0 → x = 0) : PutP g f i m w (.returned (.tuple #[])) (w.setCell ⟨g, i, none⟩ (.int .u64 (x : Int))) := by
  have h1 := h.set hi x
  have e : putF f i m = setF f i x := by unfold putF; rw [hx]
  have hn := numF_set (f := f) (i := i) (x := x) hi
  have hn' : numF (setF f i x) = numF f := by
    by_cases h0 : f i = 0
    · rw [if_pos h0, if_pos (hne h0)] at hn; omega
    · have : x ≠ 0 := by rw [hx, topC_eq]; omega
      rw [if_neg h0, if_neg this] at hn; omega
  refine ⟨rfl, ?_, upd_one w g i _⟩
  rw [e, hn']
  exact h1
theorem put_end1 {g : Nat} {f : Nat → Nat} {i m : Nat} {w : World} (hi : i < 1920) (h : CntAt w g f (numF f)) {x : Nat} (hx : x = min (f i + m) topC) (h0 : f i = 0) (h1 : x ≠ 0) : PutP g f i m w (.returned (.tuple #[])) ((w.setCell ⟨g, i, none⟩ (.int .u64 (x : Int))).setCell ⟨g, 1920, none⟩ (.int .i64 ((numF f : Int) + 1))) := by
  have h2 := (h.set hi x).setU (numF f + 1)
  have e : putF f i m = setF f i x := by unfold putF; rw [hx]
  have hn := numF_set (f := f) (i := i) (x := x) hi
  have hn' : numF (setF f i x) = numF f + 1 := by rw [if_pos h0, if_neg h1] at hn; omega
  refine ⟨rfl, ?_, (upd_one w g i _).trans (upd_one _ g 1920 _) (fun _ _ h => h)⟩
  rw [e, hn']
  rw [Int.natCast_add] at h2
  exact h2
set_option maxHeartbeats 1000000 in
theorem put_any (g : Nat) (f : Nat → Nat) (i m : Nat) (hi : i < 1920) (hm : m < 18446744073709551616) (hf : ∀ j, f j ≤ topC) (w : World) (h : CntAt w g f (numF f)) :
    Calls Tryz.prog 88 #[.pointer (some ⟨g, 0, none⟩), .int .i64 (i : Int), .int .u64 (m : Int)] w (PutP g f i m w) := by
  have c0 := h.of_ i hi
  have cu := h.used
  have f0 := h.free i
  have fu := h.free 1920
  have hi' : (i : Int) < 1920 := by omega
  have hn := numF_le f
  have E1 := fun x => put_end1 (m := m) (x := x) hi h
  obtain ⟨u, hu⟩ : ∃ u, numF f = u := ⟨_, rfl⟩
  rw [hu] at hn cu E1
  clear hu
  have hn' : (u : Int) ≤ 1920 := by omega
  have hft := hf i
  rw [topC_eq] at hft
  by_cases hs : f i + m < 18446744073709551616
  · obtain ⟨x, hx⟩ : ∃ x, f i + m = x := ⟨_, rfl⟩
    have A := add64_run (f i) m
    rw [Nat.mod_eq_of_lt hs, Nat.div_eq_of_lt hs, hx] at A
    have HX : Hid (x = min (f i + m) topC) := by show x = _; rw [topC_eq]; omega
    by_cases h0 : f i = 0
    · have A' : ∀ W, (callFunc 63 #[.int .u64 0, .int .u64 (m : Int), .int .u64 0]).run Tryz.prog W = .ok (.value (.tuple #[.int .u64 (x : Int), .int .u64 0])) W := fun W => by
        have := A W
        rw [h0] at this
        exact this
      have c0' : w.cell? ⟨g, i, none⟩ = some (.int .u64 0) := by rw [c0, h0]; rfl
      clear c0 A
      by_cases h1 : x = 0
      · subst h1
        have h1' : ¬ (0 : Int) < ((0 : Nat) : Int) := by omega
        have E := put_end hi h HX.out (fun _ => rfl)
        clear HX hx h hf hft hs E1
        go_enter Tryz.func88, Tryz.ntmps88
        go_wp2_with (simp only [A'])
        go_end0
        exact E
      · have E := E1 x HX.out h0 h1
        have h1' : (0 : Int) < (x : Int) := by omega
        clear HX hx h hf hft hs E1
        go_enter Tryz.func88, Tryz.ntmps88
        go_wp2_with (simp only [A'])
        go_end0
        exact E
    · have E := put_end hi h HX.out (fun h => absurd h h0)
      have h1' : ¬ ((f i : Int) = 0) := by omega
      clear HX hx h hf hft hs E1
      go_enter Tryz.func88, Tryz.ntmps88
      go_wp2_with (simp only [A])
      go_end0
      exact E
  · obtain ⟨y, hy⟩ : ∃ y, (f i + m) % 18446744073709551616 = y := ⟨_, rfl⟩
    have A := add64_run (f i) m
    rw [hy, show (f i + m) / 18446744073709551616 = 1 by omega] at A
    have h0 : ¬ f i = 0 := by omega
    have E := put_end (m := m) hi h (x := topC) (by rw [topC_eq]; omega) (fun h => absurd h h0)
    have h1' : ¬ ((f i : Int) = 0) := by omega
    clear hy h hf hft hs E1
    rw [topC_eq] at E
    go_enter Tryz.func88, Tryz.ntmps88
    go_wp2_with (simp only [A])
    go_end0
    exact E
end Go.Proofs.YtkpkdikogoalkaaGreatDoor.sk

namespace Go.Proofs.YtkpkdikogoalkaaGreatDoor.sk
open Go.RowKit
set_option maxRecDepth 100000

def PutsP (g : Nat) (f : Nat → Nat) (l : List (Int × Int)) (w : World) (e : Ending) (w' : World) : Prop := e = .returned (.tuple #[]) ∧ CntAt w' g (putsF f l) (numF (putsF f l)) ∧ Upd (fun k => k = g) w w'
theorem puts_drop {f h : Nat → Nat} {l : List (Int × Int)} {k : Nat} (hk : k < l.length) (e : putsF f l = putsF h (l.drop k)) : putsF f l = putsF (putF h l[k].1.toNat l[k].2.toNat) (l.drop (k + 1)) := by
  rw [e, List.drop_eq_getElem_cons hk, putsF_cons]
/-- Midway: the counts so far. -/
def Mid (g : Nat) (f : Nat → Nat) (l : List (Int × Int)) (k : Nat) (w wr : World) : Prop := ∃ h, putsF f l = putsF h (l.drop k) ∧ (∀ j, h j ≤ topC) ∧ CntAt wr g h (numF h) ∧ Upd (fun k => k = g) w wr
set_option maxHeartbeats 1000000 in
theorem putAll_any (g : Nat) (f : Nat → Nat) (ad : Option Addr) (n c : Nat) (l : List (Int × Int)) (w : World) (hA : BarAt w ad n l) (hn : n ≤ maxLen) (hi : Bin l) (hx : ∀ b ∈ l, 0 ≤ b.1 ∧ b.1 < 1920) (hg : ∀ a, ad = some a → a.block ≠ g) (hf : ∀ j, f j ≤ topC) (h : CntAt w g f (numF f)) :
    Calls Tryz.prog 61 #[.pointer (some ⟨g, 0, none⟩), .slice ad n c] w (PutsP g f l w) := by
  unfold maxLen at hn
  have HL : Hid (l.length = n) := hA.len
  have hlt0 := h.lt
  have HM : Hid (Mid g f l 0 w w) := ⟨f, rfl, hf, h, Upd.refl _ _⟩
  clear h hf
  go_enter Tryz.func61, Tryz.ntmps61
  go_wp2
  go_loopw [8] (fun t wr => ∃ (k : Nat), t = .int .i64 k ∧ k ≤ n ∧ Hid (Mid g f l k w wr)) (fun t _ => n - (intOf t).toNat)
  case atStart => exact ⟨0, rfl, by omega, HM⟩
  case round =>
    obtain ⟨k, rfl, hk, HK⟩ := hrel
    by_cases hlt : k < n
    · obtain ⟨h, hd, hb, hC, hu⟩ := HK.out
      have hsz := hu.size
      obtain ⟨b, off, rfl, hc⟩ := (hA.upd hu (fun a ha => hg a ha)).lies (by omega)
      have hkl : k < l.length := by rw [HL.out]; exact hlt
      obtain ⟨c0, c1⟩ := hc k hkl
      clear hc
      have hik := hi l[k] (List.getElem_mem hkl)
      have hxk := hx l[k] (List.getElem_mem hkl)
      have HD : Hid _ := puts_drop hkl hd
      obtain ⟨x, hx⟩ : ∃ x, l[k] = x := ⟨_, rfl⟩
      rw [hx] at c0 c1 hik HD hxk
      obtain ⟨i, m⟩ := x
      simp only at c0 c1 hik HD hxk
      obtain ⟨i1, i2, m1, m2⟩ := hik
      clear hx hkl hd
      obtain ⟨p, rfl⟩ := Int.eq_ofNat_of_zero_le hxk.1
      obtain ⟨q, rfl⟩ := Int.eq_ofNat_of_zero_le m1
      have uA := (Upd.refl (fun _ => False) wr).alloc (.cells #[.int .i64 (p : Int), .int .u64 (q : Int)] 50)
      have PA := put_any g h p q (by omega) (by omega) hb _ (hC.upd uA (fun h => h))
      have HB : Hid _ := hb
      have HU : Hid _ := hu
      clear hC uA hb hu i1 i2 m1 m2 hxk
      go_wp2_with (go_at_call 88; (with_reducible refine PA.mono ?_); clear PA; rintro e w2 ⟨rfl, h2, u2⟩; have H2 : Hid _ := h2; clear h2)
      go_roundw
      case rel =>
        refine ⟨k + 1, by go_num, by omega, ?_⟩
        exact ⟨_, HD.out, putF_le HB.out _ _, H2.out, (HU.out.alloc _).trans u2 (fun _ _ h => h)⟩
      case measure => simp [intOf]; omega
    · have HE : Hid (PutsP g f l w (.returned (.tuple #[])) wr) := by
        obtain ⟨h, hd, hb, hC, hu⟩ := HK.out
        rw [List.drop_eq_nil_of_le (by rw [HL.out]; omega)] at hd
        have hd' : putsF f l = h := hd
        refine ⟨rfl, ?_, hu⟩
        rw [hd']
        exact hC
      go_wp2
      go_end0
      exact HE.out
/-- What bars tells. -/
def BarsP (f : Nat → Nat) (w : World) (e : Ending) (w' : World) : Prop := ∃ v, e = .returned v ∧ OwnBar w.heap.size w' v (barsF f) ∧ Below w.heap.size w w'
theorem BarAt_of {base : Nat} {w : World} {v : Value} {l : List (Int × Int)} (h : OwnBar base w v l) : ∃ ao c, v = .slice ao l.length c ∧ BarAt w ao l.length l ∧ ∀ a, ao = some a → base ≤ a.block := by
  obtain ⟨ao, n, c, rfl⟩ := row_shape h
  obtain ⟨rfl, _, _⟩ := own_cap h
  refine ⟨ao, c, rfl, h.at, ?_⟩
  rintro a rfl
  rcases h.2 with ⟨e, _⟩ | ⟨g, cap, cur, e, hg, _⟩
  · simp at e
  · simp at e
    obtain ⟨rfl, _⟩ := e
    exact hg
set_option maxHeartbeats 1000000 in
theorem bars_any (g : Nat) (f : Nat → Nat) (w : World) (h : CntAt w g f (numF f)) :
    Calls Tryz.prog 62 #[.pointer (some ⟨g, 0, none⟩)] w (BarsP f w) := by
  obtain ⟨i0, hi, hz0, hz1, hz2⟩ := info_parts Tryz.info50
  have hn := numF_le f
  have hW : ∀ {k : Nat}, k ≤ 1920 → numF f ≤ (barsN f k).length → barsN f k = barsF f := fun a b => barsN_whole f a b
  have hLe : ∀ {k : Nat}, k ≤ 1920 → (barsN f k).length ≤ numF f := fun a => barsN_len_le f a
  have hTop : (barsN f 1920).length = numF f := rfl
  have cu := h.used
  have hlt0 := h.lt
  obtain ⟨u, hu⟩ : ∃ u, numF f = u := ⟨_, rfl⟩
  rw [hu] at hn h hW hLe hTop cu
  have HW : Hid (∀ {k : Nat}, k ≤ 1920 → u ≤ (barsN f k).length → barsN f k = barsF f) := hW
  have HLe : Hid (∀ {k : Nat}, k ≤ 1920 → (barsN f k).length ≤ u) := hLe
  have HTop : Hid ((barsN f 1920).length = u) := hTop
  clear hu hW hLe hTop
  have hn' : (u : Int) ≤ 1920 := by omega
  have HC : Hid (CntAt w g f u) := h
  clear h
  go_enter Tryz.func62, Tryz.ntmps62
  go_wp2_with (at_make; refine wpList_make_own _ rfl _ _ 37 rfl w.heap.size 50 i0 _ 2 Tryz.underlying37 hi hz0 hz1 .i64 .i64 _ u rfl rfl (by omega) (by rw [hz2]; omega) (by unfold maxLen; omega) (Nat.le_refl _) ?_; intro w1 o1 g1)
  clear cu
  go_loopw [3, 4] (fun a t wr => ∃ (k L : Nat), t = .int .i64 k ∧ k ≤ 1920 ∧ a = .slice (some ⟨w.heap.size, 0, none⟩) L u ∧ Hid (L = (barsN f k).length) ∧ Hid (OwnBar w.heap.size wr a (barsN f k)) ∧ Below w.heap.size w wr) (fun _ t _ => 1920 - (intOf t).toNat)
  case atStart => exact ⟨0, 0, rfl, by omega, rfl, rfl, o1, g1.os, g1.tape, g1.output, g1.size, fun k hk => g1.block k hk (by simp)⟩
  case round =>
    obtain ⟨k, L, rfl, hk, rfl, HL, HO, hb⟩ := hrel
    have hsz := hb.size
    have hC : CntAt wr g f u := HC.out.upd (Upd.ofBelow (S := fun k => w.heap.size ≤ k) hb (fun _ _ h => h)) (by omega)
    have cu := hC.used
    by_cases hlt : L < u
    · have hkk : k < 1920 := by
        rcases Nat.lt_or_ge k 1920 with h | h
        · exact h
        · obtain rfl : k = 1920 := by omega
          have := HTop.out
          have := HL.out
          omega
      have hlt' : (L : Int) < (u : Int) := by omega
      have hkk' : (k : Int) < 1920 := by omega
      have c0 := hC.of_ k hkk
      have HS : Hid _ := barsN_succ f k
      obtain ⟨y, hy⟩ : ∃ y, f k = y := ⟨_, rfl⟩
      rw [hy] at c0 HS
      clear hy hC
      by_cases hy0 : y = 0
      · subst hy0
        have c0' : wr.cell? ⟨g, k, none⟩ = some (.int .u64 0) := c0
        clear c0
        go_wp2
        go_roundw
        case rel =>
          have e : barsN f (k + 1) = barsN f k := by rw [HS.out, if_pos rfl, List.append_nil]
          refine ⟨k + 1, L, by go_num, by omega, rfl, ?_, ?_, hb⟩
          · show L = _
            rw [e]; exact HL.out
          · show OwnBar _ _ _ _
            rw [e]; exact HO.out
        case measure => simp [intOf]; omega
      · obtain ⟨Y, hY⟩ : ∃ Y : Int, (y : Int) = Y := ⟨_, rfl⟩
        have hy1 : (0 : Int) < Y := by omega
        have e : barsN f (k + 1) = barsN f k ++ [((k : Int), Y)] := by rw [HS.out, if_neg hy0, hY]
        have HE : Hid _ := e
        rw [hY] at c0
        clear hY hy0 HS e
        have OW : (wr.alloc (.cells #[.int .i64 (k : Int), .int .u64 Y] 50)).ownsRow w.heap.size 50 2 (.slice (some ⟨w.heap.size, 0, none⟩) L u) L ((barsN f k).flatMap barC) := by
          have := ownsRow_upd HO.out ((Upd.refl (fun _ => False) wr).alloc (.cells #[.int .i64 (k : Int), .int .u64 Y] 50)) (fun _ _ h => h)
          rw [← HL.out] at this
          exact this
        have hN : ∀ q v, ([.int .i64 (k : Int), .int .u64 Y] : List Value)[q]? = some v → (wr.alloc (.cells #[.int .i64 (k : Int), .int .u64 Y] 50)).cell? ((⟨wr.heap.size, 0, none⟩ : Addr).add q) = some v :=
          World.news_of_block (cs := #[.int .i64 (k : Int), .int .u64 Y]) (t := 50) (fr := (0, 0)) (heap_alloc_new wr _)
        go_wp2_with (at_builtin; refine wpList_append_fits _ rfl _ _ 37 rfl w.heap.size 50 i0 2 Tryz.underlying37 hi hz1 w.heap.size L u _ rfl OW ⟨wr.heap.size, 0, none⟩ 1 1 [.int .i64 (k : Int), .int .u64 Y] rfl rfl hN (by simp [Value.oneCell']) (by omega) ?_; clear OW hN; intro w3 o3 g3)
        go_roundw
        case rel =>
          have e := HE.out
          refine ⟨k + 1, L + 1, by go_num, by omega, rfl, ?_, ?_, ?_⟩
          · show L + 1 = _
            rw [e, List.length_append, ← HL.out]; rfl
          · show OwnBar _ _ _ _
            unfold OwnBar
            rw [e, List.length_append, ← HL.out, List.flatMap_append]
            exact o3
          · have b3 := hb.alloc hb.size (.cells #[.int .i64 (k : Int), .int .u64 Y] 50)
            exact b3.trans ⟨g3.os, g3.tape, g3.output, g3.size, fun q hq => g3.block q (by simp; omega) (fun e => by cases e; omega)⟩
        case measure => simp [intOf]; omega
    · have hlt' : ¬ (L : Int) < (u : Int) := by omega
      have HE : Hid (BarsP f w (.returned (.slice (some ⟨w.heap.size, 0, none⟩) L u)) wr) := by
        have e := HW.out hk (by rw [← HL.out]; omega)
        have ho := HO.out
        rw [e] at ho
        exact ⟨_, rfl, ho, hb⟩
      clear hC
      go_wp2
      go_ret
      exact HE.out
end Go.Proofs.YtkpkdikogoalkaaGreatDoor.sk

namespace Go.Proofs.YtkpkdikogoalkaaGreatDoor.sk
open Go.RowKit
set_option maxRecDepth 100000

theorem take_drop {f h : Nat → Nat} {l : List (Int × Int)} {k : Nat} (hk : k < l.length) (e : takeL f l = takeL h (l.drop k)) : takeL f l = if h l[k].1.toNat < l[k].2.toNat then none else takeL (setF h l[k].1.toNat (h l[k].1.toNat - l[k].2.toNat)) (l.drop (k + 1)) := by
  rw [e, List.drop_eq_getElem_cons hk, takeL_cons]
def TakeP (g : Nat) (f : Nat → Nat) (l : List (Int × Int)) (w : World) (e : Ending) (w' : World) : Prop :=
  Upd (fun k => k = g) w w' ∧ ((e = .returned (.bool false) ∧ Hid (takeL f l = none)) ∨ ∃ h, e = .returned (.bool true) ∧ Hid (takeL f l = some h ∧ CntAt w' g h (numF h) ∧ ∀ j, h j ≤ topC))
def MidT (g : Nat) (f : Nat → Nat) (l : List (Int × Int)) (k : Nat) (w wr : World) : Prop := ∃ h, takeL f l = takeL h (l.drop k) ∧ (∀ j, h j ≤ topC) ∧ CntAt wr g h (numF h) ∧ Upd (fun k => k = g) w wr
theorem num_keep {f : Nat → Nat} {i x : Nat} (hi : i < 1920) (h0 : f i ≠ 0) (h1 : x ≠ 0) : numF (setF f i x) = numF f := by
  have := numF_set (f := f) (i := i) (x := x) hi
  rw [if_neg h0, if_neg h1] at this
  omega
theorem num_less {f : Nat → Nat} {i : Nat} (hi : i < 1920) (h0 : f i ≠ 0) : numF (setF f i 0) + 1 = numF f := by
  have := numF_set (f := f) (i := i) (x := 0) hi
  rw [if_neg h0, if_pos rfl] at this
  omega
set_option maxHeartbeats 1000000 in
theorem takeAll_any (g : Nat) (f : Nat → Nat) (ad : Option Addr) (n c : Nat) (l : List (Int × Int)) (w : World) (hA : BarAt w ad n l) (hn : n ≤ maxLen) (hi : Bin l) (hx : ∀ b ∈ l, 0 ≤ b.1 ∧ b.1 < 1920 ∧ b.2 ≠ 0) (hg : ∀ a, ad = some a → a.block ≠ g) (hf : ∀ j, f j ≤ topC) (h : CntAt w g f (numF f)) :
    Calls Tryz.prog 64 #[.pointer (some ⟨g, 0, none⟩), .slice ad n c] w (TakeP g f l w) := by
  unfold maxLen at hn
  have HL : Hid (l.length = n) := hA.len
  have hlt0 := h.lt
  have HM : Hid (MidT g f l 0 w w) := ⟨f, rfl, hf, h, Upd.refl _ _⟩
  clear h hf
  go_enter Tryz.func64, Tryz.ntmps64
  go_wp2
  go_loopw [9] (fun t wr => ∃ (k : Nat), t = .int .i64 k ∧ k ≤ n ∧ Hid (MidT g f l k w wr)) (fun t _ => n - (intOf t).toNat)
  case atStart => exact ⟨0, rfl, by omega, HM⟩
  case round =>
    obtain ⟨k, rfl, hk, HK⟩ := hrel
    by_cases hlt : k < n
    · obtain ⟨h, hd, hb, hC, hu⟩ := HK.out
      have hsz := hu.size
      obtain ⟨b, off, rfl, hc⟩ := (hA.upd hu (fun a ha => hg a ha)).lies (by omega)
      have hkl : k < l.length := by rw [HL.out]; exact hlt
      obtain ⟨c0, c1⟩ := hc k hkl
      clear hc
      have hik := hi l[k] (List.getElem_mem hkl)
      have hxk := hx l[k] (List.getElem_mem hkl)
      have HD : Hid _ := take_drop hkl hd
      have hbg := hg ⟨b, off, none⟩ rfl
      obtain ⟨x, hx⟩ : ∃ x, l[k] = x := ⟨_, rfl⟩
      rw [hx] at c0 c1 hik HD hxk
      obtain ⟨i, m⟩ := x
      simp only at c0 c1 hik HD hxk hbg
      obtain ⟨i1, i2, m1, m2⟩ := hik
      obtain ⟨x1, x2, x3⟩ := hxk
      clear hx hkl hd
      obtain ⟨p, rfl⟩ := Int.eq_ofNat_of_zero_le x1
      have hp : p < 1920 := by omega
      have hp' : (p : Int) < 1920 := by omega
      have hgw := hC.lt
      have d0 := hC.of_ p hp
      have fz := hC.free p
      have fzu := hC.free 1920
      have du := hC.used
      have hbp := hb p
      have hnh := numF_le h
      have HNK : Hid (∀ x, h p ≠ 0 → x ≠ 0 → numF (setF h p x) = numF h) := fun x => num_keep hp
      have HNL : Hid (h p ≠ 0 → numF (setF h p 0) + 1 = numF h) := num_less hp
      rw [Int.toNat_natCast] at HD
      obtain ⟨u, hu'⟩ : ∃ u, numF h = u := ⟨_, rfl⟩
      rw [hu'] at du hnh HNK HNL hC
      obtain ⟨y, hy⟩ : ∃ y, h p = y := ⟨_, rfl⟩
      rw [hy] at d0 HD hbp HNK HNL
      obtain ⟨Y, hY⟩ : ∃ Y : Int, (y : Int) = Y := ⟨_, rfl⟩
      rw [hY] at d0
      rw [topC_eq] at hbp
      have HC : Hid _ := hC
      have HU : Hid _ := hu
      have HY0 : Hid (h p = y) := hy
      have HHB : Hid _ := hb
      have y0 : 0 ≤ Y := by omega
      have y1 : Y ≤ 18446744073709551615 := by omega
      have hun : (u : Int) ≤ 1920 := by omega
      clear hu hu' hy hb hC hbp hnh
      by_cases hless : Y < m
      · have HE : Hid (takeL f l = none) := by
          have := HD.out
          rw [if_pos (by omega)] at this
          exact this
        clear hY HD HNK HNL
        go_wp2
        go_quiet (fail)
        go_wp2
        go_ret
        exact ⟨(HU.out.alloc _).drewN _, Or.inl ⟨rfl, HE.out⟩⟩
      · have hless' : ¬ Y < m := hless
        go_wp2
        go_quiet (fail)
        obtain ⟨w5, hw5⟩ : ∃ W, (wr.alloc (.cells #[.int .i64 (p : Int), .int .u64 m] 50)).drewN nq = W := ⟨_, rfl⟩
        rw [hw5]
        have u5 : Upd (fun _ => False) wr w5 := by rw [← hw5]; exact ((Upd.refl _ wr).alloc _).drewN _
        have e0 : w5.cell? ⟨wr.heap.size, 0, none⟩ = some (.int .i64 (p : Int)) := by rw [← hw5]; simp
        have e1 : w5.cell? ⟨wr.heap.size, 1, none⟩ = some (.int .u64 m) := by rw [← hw5]; simp
        have C5 := HC.out.upd u5 (fun h => h)
        have d5 := C5.of_ p hp
        rw [HY0.out, hY] at d5
        have f5 := C5.free p
        have hz5 := u5.size
        clear hw5
        go_wp2
        go_region
        obtain ⟨w6, hw6⟩ : ∃ W, (w5.setCell ⟨g, p, none⟩ (.int .u64 (Y - m))).drew = W := ⟨_, rfl⟩
        rw [hw6]
        obtain ⟨z, hz⟩ : ∃ z : Nat, y - m.toNat = z := ⟨_, rfl⟩
        have hzY : Y - m = (z : Int) := by omega
        have C6 : CntAt w6 g (setF h p z) u := by
          rw [← hw6, hzY]
          exact (C5.set hp z).upd ((Upd.refl (fun _ => False) _).drew) (fun h => h)
        have u6 : Upd (fun k => k = g) w5 w6 := by rw [← hw6]; exact (upd_one w5 g p _).drew
        have e6 : w6.cell? ⟨wr.heap.size, 0, none⟩ = some (.int .i64 (p : Int)) := cell_upd u6 e0 (by show ¬ wr.heap.size = g; omega)
        have d6 := C6.of_ p hp
        rw [setF_same] at d6
        obtain ⟨Z, hZ⟩ : ∃ Z : Int, (z : Int) = Z := ⟨_, rfl⟩
        rw [hZ] at d6
        have c6 := C6.used
        have f6 := C6.free 1920
        have hz6 := u6.size
        have HB6 : Hid (∀ j, setF h p z j ≤ topC) := by
          intro j
          by_cases hj : j = p
          · subst hj
            rw [setF_same]
            have := HHB.out j
            rw [HY0.out] at this
            omega
          · rw [setF_other hj]; exact HHB.out j
        have HT : Hid (takeL f l = takeL (setF h p z) (l.drop (k + 1))) := by
          have := HD.out
          rw [if_neg (by omega), hz] at this
          exact this
        have HU6 : Hid (Upd (fun k => k = g) w w6) := (HU.out.trans u5 (fun _ _ h => h.elim)).trans u6 (fun _ _ h => h)
        have hy0 : y ≠ 0 := by omega
        have hu1 : z = 0 → 1 ≤ u := fun h0 => by have := HNL.out hy0; omega
        have HN0 : Hid (z = 0 → numF (setF h p z) = u - 1) := fun h0 => by have := HNL.out hy0; rw [h0]; omega
        have HN1 : Hid (z ≠ 0 → numF (setF h p z) = u) := fun h0 => HNK.out z hy0 h0
        have HC6 : Hid _ := C6
        clear hw6 C5 C6 u5 u6 d5 f5 e0 e1 HD HNL HNK hY hzY hz hy0 hless hless' HHB HC HU HY0 d0 du fz fzu c0 c1
        by_cases hZ0 : Z = 0
        · subst hZ0
          have hz0 : z = 0 := by omega
          have hu1' : (1 : Int) ≤ (u : Int) := by have := hu1 hz0; omega
          have HN : Hid _ := HN0.out hz0
          clear hZ hz0 hu1 HN0 HN1
          go_wp2
          go_quiet (fail)
          go_wp2
          go_roundw
          case rel =>
            refine ⟨k + 1, by go_num, by omega, ?_⟩
            refine ⟨setF h p z, HT.out, HB6.out, ?_, ?_⟩
            · have := (HC6.out.upd ((Upd.refl (fun _ => False) _).drewN nq) (fun h => h)).setU (u - 1)
              rw [HN.out]
              rw [show ((u - 1 : Nat) : Int) = (u : Int) - 1 by omega] at this
              exact this
            · exact (HU6.out.drewN _).setCell (p := ⟨g, 1920, none⟩) (fun _ => rfl) _
          case measure => simp [intOf]; omega
        · have hz0 : z ≠ 0 := by omega
          have HN : Hid _ := HN1.out hz0
          have hq : (Z == 0) = false := by simpa using hZ0
          have hq' : decide (Z = 0) = false := by simpa using hZ0
          clear hZ hz0 hu1 HN0 HN1 hZ0
          go_wp2
          go_quiet (fail)
          go_wp2
          go_roundw
          case rel =>
            refine ⟨k + 1, by go_num, by omega, ?_⟩
            refine ⟨setF h p z, HT.out, HB6.out, ?_, ?_⟩
            · have := HC6.out.upd ((Upd.refl (fun _ => False) _).drewN nq) (fun h => h)
              rw [HN.out]
              exact this
            · exact HU6.out.drewN _
          case measure => simp [intOf]; omega
    · have HE : Hid (TakeP g f l w (.returned (.bool true)) wr) := by
        obtain ⟨h, hd, hb, hC, hu⟩ := HK.out
        rw [List.drop_eq_nil_of_le (by rw [HL.out]; omega)] at hd
        exact ⟨hu, Or.inr ⟨h, rfl, hd, hC, hb⟩⟩
      go_wp2
      go_ret
      exact HE.out
end Go.Proofs.YtkpkdikogoalkaaGreatDoor.sk
