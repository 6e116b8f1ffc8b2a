/-
  Memory of layer 13: the array of counts; put, putAll.
-/
import Derived.Test.YtmegmjhkjaejgaaSkD
import Derived.Laws.Externs
namespace Go.Proofs.Ytmegmjhkjaejgaa.sk
open Go.RowKit
set_option maxRecDepth 100000

def zeroC : Array Value := Array.replicate 1920 (Value.int .u64 0) ++ #[.int .i64 0]
theorem Try.info53 : (Try.prog.info? 53).map (fun i => (i.zero, i.size)) = some (some (.agg zeroC), 1921) := by kernel_rfl

/-- How many of each bar, and how many bars have any. -/
structure CntAt (w : World) (g : Nat) (f : Nat → Nat) (u : Nat) : Prop where
  blk : ∃ cs, w.heap[g]? = some (.cells cs 53 (0, 0)) ∧ cs.size = 1921
  of_ : ∀ i : Nat, i < 1920 → w.cell? ⟨g, i, none⟩ = some (.int .u64 (f i : Int))
  used : w.cell? ⟨g, 1920, none⟩ = some (.int .i64 (u : Int))
theorem CntAt.free {w : World} {g : Nat} {f : Nat → Nat} {u : Nat} (h : CntAt w g f u) (i : Nat) : w.frozen? ⟨g, i, none⟩ = false := by
  obtain ⟨cs, hb, _⟩ := h.blk
  exact blk_free hb i
theorem cell_set_same {w : World} {g i : Nat} {cs : Array Value} {t : TypeId} {fz : Nat × Nat} (hb : w.heap[g]? = some (.cells cs t fz)) (hi : i < cs.size) (v : Value) : (w.setCell ⟨g, i, none⟩ v).cell? ⟨g, i, none⟩ = some v := by
  exact blk_cell (set_block hb i v) i (by simp [hi])
theorem cell_set_other {w : World} {g i j : Nat} {cs : Array Value} {t : TypeId} {fz : Nat × Nat} (hb : w.heap[g]? = some (.cells cs t fz)) (hij : i ≠ j) (v : Value) : (w.setCell ⟨g, i, none⟩ v).cell? ⟨g, j, none⟩ = w.cell? ⟨g, j, none⟩ := by
  have h2 := set_block hb i v
  simp only [World.cell?, h2, hb]
  simp [hij]
theorem CntAt.set {w : World} {g : Nat} {f : Nat → Nat} {u : Nat} (h : CntAt w g f u) {i : Nat} (hi : i < 1920) (x : Nat) : CntAt (w.setCell ⟨g, i, none⟩ (.int .u64 (x : Int))) g (setF f i x) u := by
  obtain ⟨cs, hb, hs⟩ := h.blk
  refine ⟨⟨_, set_block hb i _, by simpa using hs⟩, fun j hj => ?_, ?_⟩
  · by_cases e : i = j
    · subst e
      rw [cell_set_same hb (by omega), setF_same]
    · rw [cell_set_other hb e, setF_other (Ne.symm e)]
      exact h.of_ j hj
  · rw [cell_set_other hb (by omega)]
    exact h.used
theorem CntAt.setU {w : World} {g : Nat} {f : Nat → Nat} {u : Nat} (h : CntAt w g f u) (x : Nat) : CntAt (w.setCell ⟨g, 1920, none⟩ (.int .i64 (x : Int))) g f x := by
  obtain ⟨cs, hb, hs⟩ := h.blk
  refine ⟨⟨_, set_block hb _ _, by simpa using hs⟩, fun j hj => ?_, ?_⟩
  · rw [cell_set_other hb (by omega)]
    exact h.of_ j hj
  · exact cell_set_same hb (by omega) _
theorem CntAt.upd {S : Nat → Prop} {w w' : World} {g : Nat} {f : Nat → Nat} {u : Nat} (h : CntAt w g f u) (hu : Upd S w w') (hS : ¬ S g) : CntAt w' g f u := by
  obtain ⟨cs, hb, hs⟩ := h.blk
  exact ⟨⟨cs, by rw [hu.block g (lt_of_block hb) hS]; exact hb, hs⟩, fun i hi => cell_upd hu (h.of_ i hi) hS, cell_upd hu h.used hS⟩
theorem CntAt.lt {w : World} {g : Nat} {f : Nat → Nat} {u : Nat} (h : CntAt w g f u) : g < w.heap.size := by
  obtain ⟨cs, hb, _⟩ := h.blk
  exact lt_of_block hb
theorem CntAt.new (w : World) : CntAt (w.alloc (.cells zeroC 53)) w.heap.size (fun _ => 0) (numF (fun _ => 0)) := by
  rw [numF_zero]
  have hb := heap_alloc_new w (.cells zeroC 53)
  refine ⟨⟨_, hb, by simp [zeroC]⟩, fun i hi => blk_cell hb i ?_, blk_cell hb 1920 ?_⟩
  · unfold zeroC
    rw [Array.getElem?_append_left (by simpa using hi), Array.getElem?_replicate, if_pos hi]
    rfl
  · unfold zeroC
    rw [Array.getElem?_append_right (by simp)]
    simp
theorem add64_run (x y : Nat) (w : World) :
    (callFunc 41 #[.int .u64 (x : Int), .int .u64 (y : Int), .int .u64 0]).run Try.prog w =
      .ok (.value (.tuple #[.int .u64 (((x + y) % 18446744073709551616 : Nat) : Int), .int .u64 (((x + y) / 18446744073709551616 : Nat) : Int)])) w := by
  rw [run_callFunc_extern Try.func41 (by kernel_rfl) (by kernel_rfl) (by kernel_rfl) (e := add64Entry) (by kernel_rfl), run_add64 x y 0 (by omega) (by omega) (by omega) (by omega)]
  simp only [Result.andThen]
  congr 5 <;> omega
/-- What putting leaves. -/
def PutP (g : Nat) (f : Nat → Nat) (i m : Nat) (w : World) (e : Ending) (w' : World) : Prop := e = .returned (.tuple #[]) ∧ CntAt w' g (putF f i m) (numF (putF f i m)) ∧ Upd (fun k => k = g) w w'
theorem cast_nat {a : Int} {n : Nat} (h : a = (n : Int)) (k : IntKind) : Value.int k a = Value.int k (n : Int) := by rw [h]
theorem put_end {g : Nat} {f : Nat → Nat} {i m : Nat} {w : World} (hi : i < 1920) (h : CntAt w g f (numF f)) {x : Nat} (hx : x = min (f i + m) topC) (hne : f i = 0 → x = 0) : PutP g f i m w (.returned (.tuple #[])) (w.setCell ⟨g, i, none⟩ (.int .u64 (x : Int))) := by
  have h1 := h.set hi x
  have e : putF f i m = setF f i x := by unfold putF; rw [hx]
  have hn := numF_set (f := f) (i := i) (x := x) hi
  have hn' : numF (setF f i x) = numF f := by
    by_cases h0 : f i = 0
    · rw [if_pos h0, if_pos (hne h0)] at hn; omega
    · have : x ≠ 0 := by rw [hx, topC_eq]; omega
      rw [if_neg h0, if_neg this] at hn; omega
  refine ⟨rfl, ?_, upd_one w g i _⟩
  rw [e, hn']
  exact h1
theorem put_end1 {g : Nat} {f : Nat → Nat} {i m : Nat} {w : World} (hi : i < 1920) (h : CntAt w g f (numF f)) {x : Nat} (hx : x = min (f i + m) topC) (h0 : f i = 0) (h1 : x ≠ 0) : PutP g f i m w (.returned (.tuple #[])) ((w.setCell ⟨g, i, none⟩ (.int .u64 (x : Int))).setCell ⟨g, 1920, none⟩ (.int .i64 ((numF f : Int) + 1))) := by
  have h2 := (h.set hi x).setU (numF f + 1)
  have e : putF f i m = setF f i x := by unfold putF; rw [hx]
  have hn := numF_set (f := f) (i := i) (x := x) hi
  have hn' : numF (setF f i x) = numF f + 1 := by rw [if_pos h0, if_neg h1] at hn; omega
  refine ⟨rfl, ?_, (upd_one w g i _).trans (upd_one _ g 1920 _) (fun _ _ h => h)⟩
  rw [e, hn']
  rw [Int.natCast_add] at h2
  exact h2
set_option maxHeartbeats 1000000 in
theorem put_any (g : Nat) (f : Nat → Nat) (i m : Nat) (hi : i < 1920) (hm : m < 18446744073709551616) (hf : ∀ j, f j ≤ topC) (w : World) (h : CntAt w g f (numF f)) :
    Calls Try.prog 29 #[.pointer (some ⟨g, 0, none⟩), .int .i64 (i : Int), .int .u64 (m : Int)] w (PutP g f i m w) := by
  have c0 := h.of_ i hi
  have cu := h.used
  have f0 := h.free i
  have fu := h.free 1920
  have hi' : (i : Int) < 1920 := by omega
  have hn := numF_le f
  have E1 := fun x => put_end1 (m := m) (x := x) hi h
  obtain ⟨u, hu⟩ : ∃ u, numF f = u := ⟨_, rfl⟩
  rw [hu] at hn cu E1
  clear hu
  have hn' : (u : Int) ≤ 1920 := by omega
  have hft := hf i
  rw [topC_eq] at hft
  by_cases hs : f i + m < 18446744073709551616
  · obtain ⟨x, hx⟩ : ∃ x, f i + m = x := ⟨_, rfl⟩
    have A := add64_run (f i) m
    rw [Nat.mod_eq_of_lt hs, Nat.div_eq_of_lt hs, hx] at A
    have HX : Hid (x = min (f i + m) topC) := by show x = _; rw [topC_eq]; omega
    by_cases h0 : f i = 0
    · have A' : ∀ W, (callFunc 41 #[.int .u64 0, .int .u64 (m : Int), .int .u64 0]).run Try.prog W = .ok (.value (.tuple #[.int .u64 (x : Int), .int .u64 0])) W := fun W => by
        have := A W
        rw [h0] at this
        exact this
      have c0' : w.cell? ⟨g, i, none⟩ = some (.int .u64 0) := by rw [c0, h0]; rfl
      clear c0 A
      by_cases h1 : x = 0
      · subst h1
        have h1' : ¬ (0 : Int) < ((0 : Nat) : Int) := by omega
        have E := put_end hi h HX.out (fun _ => rfl)
        clear HX hx h hf hft hs E1
        go_enter Try.func29, Try.ntmps29
        go_wp2_with (simp only [A'])
        go_end0
        exact E
      · have E := E1 x HX.out h0 h1
        have h1' : (0 : Int) < (x : Int) := by omega
        clear HX hx h hf hft hs E1
        go_enter Try.func29, Try.ntmps29
        go_wp2_with (simp only [A'])
        go_end0
        exact E
    · have E := put_end hi h HX.out (fun h => absurd h h0)
      have h1' : ¬ ((f i : Int) = 0) := by omega
      clear HX hx h hf hft hs E1
      go_enter Try.func29, Try.ntmps29
      go_wp2_with (simp only [A])
      go_end0
      exact E
  · obtain ⟨y, hy⟩ : ∃ y, (f i + m) % 18446744073709551616 = y := ⟨_, rfl⟩
    have A := add64_run (f i) m
    rw [hy, show (f i + m) / 18446744073709551616 = 1 by omega] at A
    have h0 : ¬ f i = 0 := by omega
    have E := put_end (m := m) hi h (x := topC) (by rw [topC_eq]; omega) (fun h => absurd h h0)
    have h1' : ¬ ((f i : Int) = 0) := by omega
    clear hy h hf hft hs E1
    rw [topC_eq] at E
    go_enter Try.func29, Try.ntmps29
    go_wp2_with (simp only [A])
    go_end0
    exact E
end Go.Proofs.Ytmegmjhkjaejgaa.sk
