/-
  Merged by merge.py: Xv, Xw.
-/
import Derived.Test.YthcghpbkadlliabGreatDoorMa16
import Derived.Deep.RegionHeld3
import Derived.Deep.QuietTactic
import Derived.BigQuiet
import Derived.Deep.AppendLies
import Derived.Deep.RegionLaw
import Derived.Test.YthcghpbkadlliabGreatDoorMa03
import Derived.Test.YthcghpbkadlliabGreatDoorMa10
namespace Go.Proofs.YthcghpbkadlliabGreatDoor
open Go.Shelf Go.RowKit Go.Maps Go.WideMaps
set_option maxRecDepth 100000

def trV (x : Int × Int) : Value := .agg #[.int .u64 x.1, .int .u64 x.2]
def trC (x : Int × Int) : List Value := [.int .u64 x.1, .int .u64 x.2]
def trsV (X : List (Int × Int)) : List Value := X.flatMap trC
structure IsTr (base : Nat) (w : World) (Tb mb : Nat) (v : Value) (X : List (Int × Int)) : Prop where
  block : w.heap[Tb]? = some (.cells #[v, .map (some mb)] 116 (0, 0))
  own : w.ownsRow base 33 2 v X.length (trsV X)
  mp : IsMp w 33 trV mb X
theorem tr_laid : laidOutB Tryz.prog = true := by kernel_rfl
theorem tr_keyAt : Tryz.prog.keyTypeAt 3 33 = true := by kernel_rfl
theorem tr_lt : 33 < Tryz.prog.types.size := of_decide_eq_true (by kernel_rfl)
theorem lawR : Keyed Tryz.prog 33 := Keyed.of_law (deep_law_laid tr_laid (m := 3) (by omega) tr_lt tr_keyAt (by rw [Tryz.underlying33]))
theorem tr_keyType : Tryz.prog.keyType 33 = true := by kernel_rfl
theorem tr_cells : Tryz.prog.cellsOf 33 = 2 := by kernel_rfl
theorem tr_cellsU : Tryz.prog.cellsOf 31 = 1 := by kernel_rfl
theorem tr_types : ∃ m, Tryz.prog.types.size = m + 1 := ⟨Tryz.prog.types.size - 1, by have := tr_lt; omega⟩
theorem key_trace (x : Int × Int) (hx : TrcOk x) : keyOf Tryz.prog 33 (trV x) = some (.string (keyBytes [.int .u64 x.1, .int .u64 x.2])) := by
  have w1 := WalkArith.wf_u64 (n := x.1) ⟨hx.1.1, by have := hx.1.2; omega⟩
  have w2 := WalkArith.wf_u64 (n := x.2) ⟨hx.2.1, by have := hx.2.2; omega⟩
  obtain ⟨m, hm⟩ := tr_types
  unfold keyOf trV
  simp only [Tryz.underlying33]
  rw [if_pos (by simp [tr_keyType, Value.formed, Tryz.underlying33, tr_cells]), hm]
  unfold Program.keyLits
  simp only [Tryz.underlying33, Value.cells]
  rw [if_pos (by rw [tr_cells]; exact ⟨rfl, by kernel_rfl⟩)]
  simp [tr_cellsU, Program.keyLits, Tryz.underlying31, w1, w2]
theorem trV_inj (a b : Int × Int) (h : trV a = trV b) : a = b := by
  unfold trV at h
  simp at h
  exact Prod.ext h.1 h.2
theorem Tryz.info33 : (Tryz.prog.info? 33).map (fun i => (i.zero, i.size, i.bytes)) = some (some (.agg #[.int .u64 0, .int .u64 0]), 2, 16) := by kernel_rfl
theorem newTabR_any (base : Nat) (w : World) :
    Calls Tryz.prog 22 #[] w fun e w' => e = .returned (.pointer (some ⟨w.heap.size + 1, 0, none⟩)) ∧ IsTr base w' (w.heap.size + 1) w.heap.size (.slice none 0 0) [] ∧ Below w.heap.size w w' := by
  have hmm := @run_makeMap Tryz.prog
  go_enter Tryz.func22, Tryz.ntmps22
  go_wp2
  go_ret
  refine ⟨rfl, ⟨alloc_at (by simp), World.ownsRow_nil _ _ _ _, ⟨⟨_, (World.ownsMap_made _ _ _ _).alloc _, mapIx_nil _ _⟩⟩⟩, ((Below.refl _ _).alloc (Nat.le_refl _) _).alloc (by simp) _⟩
theorem IsTr.upd {base : Nat} {w w' : World} {Tb mb : Nat} {v : Value} {X : List (Int × Int)} {S : Nat → Prop} (h : IsTr base w Tb mb v X) (hu : Upd S w w') (h1 : ¬ S Tb) (h2 : ¬ S mb) (h3 : ∀ k, v.ownBlock = some k → ¬ S k) : IsTr base w' Tb mb v X :=
  ⟨(hu.block Tb (lt_of_block h.block) h1).trans h.block, ownsRow_upd h.own hu h3, h.mp.upd hu h2⟩
theorem IsTr.apart {base : Nat} {w : World} {Tb mb : Nat} {v : Value} {X : List (Int × Int)} (h : IsTr base w Tb mb v X) : v.ownBlock ≠ some Tb ∧ v.ownBlock ≠ some mb ∧ mb ≠ Tb := by
  refine ⟨?_, ?_, h.mp.ne h.block⟩
  · intro e
    rcases h.own.2 with ⟨rfl, _⟩ | ⟨g, cap, cur, rfl, _, hg, _⟩
    · simp [Value.ownBlock] at e
    · simp [Value.ownBlock] at e; subst e; rw [h.block] at hg; simp at hg
  · intro e
    rcases h.own.2 with ⟨rfl, _⟩ | ⟨g, cap, cur, rfl, _, hg, _⟩
    · simp [Value.ownBlock] at e
    · simp [Value.ownBlock] at e; subst e; exact h.mp.ne hg rfl
set_option maxHeartbeats 1000000 in
theorem numR_old (base Tb mb : Nat) (v : Value) (X : List (Int × Int)) (x : Int × Int) (w : World) (h : IsTr base w Tb mb v X) (hx : TrcOk x) (hi : idxL X x < X.length) :
    Calls Tryz.prog 47 #[.pointer (some ⟨Tb, 0, none⟩), trV x] w fun e w' => e = .returned (.tuple #[.int .u64 (idxL X x), .bool false]) ∧ Below w.heap.size w w' := by
  have hl := key_trace x hx
  have L := fun m => (h.mp.upd (S := fun _ => False) (((Upd.refl _ w).alloc (.cells #[.int .u64 x.1, .int .u64 x.2] 33)).drewN m) (fun h => h)).look lawR Tryz.underlying113 hl
  rw [if_pos hi, decide_eq_true hi] at L
  have b1 : (w.alloc (.cells #[.int .u64 x.1, .int .u64 x.2] 33)).heap[Tb]? = _ := (Below.heap_alloc _ _ _ (lt_of_block h.block)).trans h.block
  have c0 := blk_cell b1 0 rfl
  have c1 := blk_cell b1 1 rfl
  have bb : (w.alloc (.cells #[.int .u64 x.1, .int .u64 x.2] 33)).heap[w.heap.size]? = some (.cells #[.int .u64 x.1, .int .u64 x.2] 33 (0, 0)) := heap_alloc_new _ _
  have e0 := blk_cell bb 0 rfl
  have e1 := blk_cell bb 1 rfl
  clear h hl hx
  unfold trV at *
  generalize idxL X x = n at L hi
  go_enter Tryz.func47, Tryz.ntmps47
  go_wp2
  go_quiet (fail)
  go_wp2
  go_ret2
  exact ⟨rfl, below_drewN ((Below.refl _ _).alloc (Nat.le_refl _) _) _⟩
set_option maxHeartbeats 2000000 in
theorem numR_new (base Tb mb : Nat) (v : Value) (X : List (Int × Int)) (x : Int × Int) (w : World) (h : IsTr base w Tb mb v X) (hx : TrcOk x) (hb : base ≤ w.heap.size) (hn : X.length < 1000000000) (hi : ¬ idxL X x < X.length) :
    Calls Tryz.prog 47 #[.pointer (some ⟨Tb, 0, none⟩), trV x] w fun e w' => e = .returned (.tuple #[.int .u64 X.length, .bool true]) ∧ ∃ v', IsTr base w' Tb mb v' (X ++ [x]) ∧ Upd (fun k => k = Tb ∨ k = mb ∨ v.ownBlock = some k) w w' ∧ Moved w v v' := by
  have hl := key_trace x hx
  have MP := fun m => h.mp.upd (S := fun _ => False) (((Upd.refl _ w).alloc (.cells #[.int .u64 x.1, .int .u64 x.2] 33)).drewN m) (fun h => h)
  have L := fun m => (MP m).look lawR Tryz.underlying113 hl
  rw [if_neg hi, decide_eq_false hi] at L
  have b1 : (w.alloc (.cells #[.int .u64 x.1, .int .u64 x.2] 33)).heap[Tb]? = _ := (Below.heap_alloc _ _ _ (lt_of_block h.block)).trans h.block
  have c0 := blk_cell b1 0 rfl
  have c1 := blk_cell b1 1 rfl
  have bb : (w.alloc (.cells #[.int .u64 x.1, .int .u64 x.2] 33)).heap[w.heap.size]? = some (.cells #[.int .u64 x.1, .int .u64 x.2] 33 (0, 0)) := heap_alloc_new _ _
  have e0 := blk_cell bb 0 rfl
  have e1 := blk_cell bb 1 rfl
  obtain ⟨ao, ln, c, rfl⟩ := row_shape h.own
  have hln := own_len h.own
  have HX : Hid (TrcOk x) := hx
  have HH : Hid (IsTr base w Tb mb (.slice ao ln c) X) := h
  have HM : Hid (∀ m, IsMp ((w.alloc (.cells #[.int .u64 x.1, .int .u64 x.2] 33)).drewN m) 33 trV mb X) := MP
  have HI : Hid (¬ idxL X x < X.length) := hi
  have HL : Hid (X.length = ln) := hln.symm
  rw [← hln] at hn ⊢
  clear hln h hl hx MP hi
  have HP : (trV x) = .agg #[.int .u64 x.1, .int .u64 x.2] := rfl
  rw [HP] at L ⊢
  clear HP
  go_enter Tryz.func47, Tryz.ntmps47
  go_wp2
  go_quiet (fail)
  go_wp2
  obtain ⟨W4, hW4⟩ : ∃ W, (w.alloc (.cells #[.int .u64 x.1, .int .u64 x.2] 33)).drewN nq = W := ⟨_, rfl⟩
  have u4 : Upd (fun _ => False) w W4 := by rw [← hW4]; exact ((Upd.refl _ w).alloc (.cells #[.int .u64 x.1, .int .u64 x.2] 33)).drewN nq
  have B4 : W4.heap[Tb]? = some (.cells #[.slice ao ln c, .map (some mb)] 116 (0, 0)) := by rw [← hW4]; exact b1
  have X4 : W4.heap[w.heap.size]? = some (.cells #[.int .u64 x.1, .int .u64 x.2] 33 (0, 0)) := by rw [← hW4]; exact bb
  have M4 := HM.out nq
  rw [hW4] at M4 ⊢
  have z4 : W4.heap.size = w.heap.size + 1 := by rw [← hW4]; simp
  clear hW4 L c0 c1 e0 e1 b1 bb HM
  have HL' := HL.out
  obtain ⟨w2, S, m2, g2⟩ := (M4.upd (S := fun _ => False) (Upd.refl _ W4).drew (fun h => h)).store lawR Tryz.underlying113 trV_inj (key_trace x HX.out) HI.out (by omega)
  rw [HL'] at S
  clear HL'
  have HP : (trV x) = .agg #[.int .u64 x.1, .int .u64 x.2] := rfl
  rw [HP] at S
  clear HP
  have ap3 := HH.out.apart.2.2
  have ap1 := HH.out.apart.1
  have ap2 := HH.out.apart.2.1
  have B2 : w2.heap[Tb]? = some (.cells #[.slice ao ln c, .map (some mb)] 116 (0, 0)) := (g2.block Tb (lt_of_block B4) (fun e => ap3 (by cases e; rfl))).trans B4
  have X2 : w2.heap[w.heap.size]? = some (.cells #[.int .u64 x.1, .int .u64 x.2] 33 (0, 0)) := (g2.block _ (lt_of_block X4) (fun e => by have := HH.out.mp.lt; cases e; omega)).trans X4
  have c41 := blk_cell B4 1 rfl
  have e40 := blk_cell X4 0 rfl
  have e41 := blk_cell X4 1 rfl
  have c21 := blk_cell B2 1 rfl
  have e20 := blk_cell X2 0 rfl
  have e21 := blk_cell X2 1 rfl
  have c20 := blk_cell B2 0 rfl
  have f20 := blk_free B2 0
  go_region_held3 (fun w' => w'.cell? ⟨Tb, 1, none⟩ = some (.map (some mb)) ∧ w'.cell? ⟨w.heap.size, 0, none⟩ = some (.int .u64 x.1) ∧ w'.cell? ⟨w.heap.size, 1, none⟩ = some (.int .u64 x.2)) (first | (simp [go_sem, *]; done) | exact ⟨c21, e20, e21⟩) (first | fail)
  have m2' := m2
  go_wp2
  have u2 : Upd (fun k => k = mb) w w2 := (u4.mono (fun _ _ h => h.elim)).trans (S' := fun k => k = mb) ((Upd.refl _ W4).drew.grown g2 (fun k _ e => by cases e; rfl)) (fun _ _ h => h)
  have o2 : w2.ownsRow base 33 2 (.slice ao ln c) ln (trsV X) := by
    have := ownsRow_upd HH.out.own u2 (fun k hk e => ap2 (by rw [hk, e]))
    rw [HL.out] at this; exact this
  obtain ⟨i0, hi0, hz0, hz1, hz2⟩ := info_parts Tryz.info33
  have hsz := u2.size
  have hlt2 := lt_of_block X2
  have ba : ((w2.alloc (.cells #[.int .u64 x.1, .int .u64 x.2] 33)).drew).heap[Tb]? = some (.cells #[.slice ao ln c, .map (some mb)] 116 (0, 0)) := (Below.heap_alloc w2 (.cells #[.int .u64 x.1, .int .u64 x.2] 33) _ (lt_of_block B2)).trans B2
  have xa : ((w2.alloc (.cells #[.int .u64 x.1, .int .u64 x.2] 33)).drew).heap[w.heap.size]? = some (.cells #[.int .u64 x.1, .int .u64 x.2] 33 (0, 0)) := (Below.heap_alloc w2 (.cells #[.int .u64 x.1, .int .u64 x.2] 33) _ (lt_of_block X2)).trans X2
  have hc3 : ln + 1 ≤ maxLen := by unfold maxLen; omega
  have hc4 : (ln + 1) * 16 ≤ 140737488355328 := by omega
  have hc5 : base ≤ ((w2.alloc (.cells #[.int .u64 x.1, .int .u64 x.2] 33)).drew).heap.size := by show base ≤ (w2.alloc (.cells #[.int .u64 x.1, .int .u64 x.2] 33)).heap.size; simp; omega
  have hc6 : ∀ j u, ([.int .u64 x.1, .int .u64 x.2] : List Value)[j]? = some u → ((w2.alloc (.cells #[.int .u64 x.1, .int .u64 x.2] 33)).drew).cell? ((⟨w2.heap.size, 0, none⟩ : Addr).add j) = some u := World.news_of_block (cs := #[.int .u64 x.1, .int .u64 x.2]) (t := 33) (fr := (0, 0)) (heap_alloc_new w2 _)
  have hapX : (Value.slice ao ln c).ownBlock ≠ some w.heap.size := fun e => by
    rcases HH.out.own.2 with ⟨hh, _⟩ | ⟨g, cap, cur, hh, _, hg, _⟩
    · simp at hh; simp [hh.1, Value.ownBlock] at e
    · have := lt_of_block hg; rw [hh] at e; simp [Value.ownBlock] at e; omega
  clear c41 e40 e41 S B4 X4 M4
  have fin : ∀ g cap w3, w3.ownsRow base 33 2 (.slice (some ⟨g, 0, none⟩) (ln + 1) cap) (ln + 1) (trsV X ++ [.int .u64 x.1, .int .u64 x.2]) → ((w2.alloc (.cells #[.int .u64 x.1, .int .u64 x.2] 33)).drew).grownBy w3 (Value.slice ao ln c).ownBlock → ((Value.slice ao ln c).ownBlock = some g ∨ g = w2.heap.size + 1) →
      ∃ v', IsTr base (w3.setCell ⟨Tb, 0, none⟩ (.slice (some ⟨g, 0, none⟩) (ln + 1) cap)) Tb mb v' (X ++ [x]) ∧ Upd (fun k => k = Tb ∨ k = mb ∨ (Value.slice ao ln c).ownBlock = some k) w (w3.setCell ⟨Tb, 0, none⟩ (.slice (some ⟨g, 0, none⟩) (ln + 1) cap)) ∧ Moved w (.slice ao ln c) v' := by
    intro g cap w3 o3 g3 at3
    have B3 := (g3.block Tb (lt_of_block ba) (fun e => ap1 e.symm)).trans ba
    have u3 : Upd (fun k => k = Tb ∨ k = mb ∨ (Value.slice ao ln c).ownBlock = some k) w w3 := (((u2.mono (fun _ _ e => Or.inr (Or.inl e))).alloc (.cells #[.int .u64 x.1, .int .u64 x.2] 33)).drew).grown g3 (fun k _ e => Or.inr (Or.inr e))
    have m3 : IsMp w3 33 trV mb (X ++ [x]) := m2'.upd (S := fun k => (Value.slice ao ln c).ownBlock = some k) ((((Upd.refl _ w2).alloc (.cells #[.int .u64 x.1, .int .u64 x.2] 33)).drew).grown g3 (fun k _ e => e)) (fun e => ap2 e)
    have hne : (Value.slice (some ⟨g, 0, none⟩) (ln + 1) cap).ownBlock ≠ some Tb := by
      intro e
      simp [Value.ownBlock] at e
      rcases at3 with h | h
      · exact ap1 (by rw [h, e])
      · have := lt_of_block B2; omega
    refine ⟨.slice (some ⟨g, 0, none⟩) (ln + 1) cap, ⟨?_, ?_, ?_⟩, Upd.setCell (p := ⟨Tb, 0, none⟩) u3 (fun _ => Or.inl rfl) _, ?_⟩
    · rw [set_block B3 0]; rfl
    · have := ownsRow_upd (S := fun k => k = Tb) o3 (upd_one w3 Tb 0 (.slice (some ⟨g, 0, none⟩) (ln + 1) cap)) (fun k hk e => hne (by rw [hk, e]))
      simpa [trsV, trC, HL.out] using this
    · exact m3.upd (S := fun k => k = Tb) (upd_one w3 Tb 0 _) ap3
    · rcases at3 with h | h
      · exact Or.inl (by rw [h]; simp [Value.ownBlock])
      · exact Or.inr ⟨g, by simp [Value.ownBlock], by omega⟩
  have ca0 : (w2.alloc (.cells #[.int .u64 x.1, .int .u64 x.2] 33)).cell? ⟨Tb, 0, none⟩ = some (.slice ao ln c) := blk_cell ba 0 rfl
  have xa0 : (w2.alloc (.cells #[.int .u64 x.1, .int .u64 x.2] 33)).cell? ⟨w.heap.size, 0, none⟩ = some (.int .u64 x.1) := blk_cell xa 0 rfl
  have xa1 : (w2.alloc (.cells #[.int .u64 x.1, .int .u64 x.2] 33)).cell? ⟨w.heap.size, 1, none⟩ = some (.int .u64 x.2) := blk_cell xa 1 rfl
  go_region_law ((refine step_append_lies _ (by rfl) _ _ _ (by rfl) base 33 i0 _ 2 16 Tryz.underlying114 hi0 hz0 hz1 hz2 rfl (by omega) (.slice ao ln c) ln (trsV X) (by rfl) ((o2.alloc _).drew) ⟨w2.heap.size, 0, none⟩ 1 1 [.int .u64 x.1, .int .u64 x.2] (by rfl) (by rfl) hc6 (by simp [Value.oneCell']) (by omega) hc3 hc4 hc5 (w2.heap.size + 1) (by simp) ?_; intro g cap w3 o3 g3 at3 lt3; have B3 := (g3.block Tb (lt_of_block ba) (fun e => ap1 e.symm)).trans ba; have X3 := (g3.block w.heap.size (lt_of_block xa) (fun e => hapX e.symm)).trans xa; have c3 := blk_cell B3 0 rfl; have f3 := blk_free B3 0; have e30 := blk_cell X3 0 rfl; have e31 := blk_cell X3 1 rfl))
  all_goals go_wp2
  all_goals go_ret2
  all_goals exact ⟨rfl, fin _ _ _ o3 g3 at3⟩
theorem numR_any (base Tb mb : Nat) (v : Value) (X : List (Int × Int)) (x : Int × Int) (w : World) (h : IsTr base w Tb mb v X) (hx : TrcOk x) (hb : base ≤ w.heap.size) (hn : X.length < 1000000000) :
    Calls Tryz.prog 47 #[.pointer (some ⟨Tb, 0, none⟩), trV x] w fun e w' => e = .returned (.tuple #[.int .u64 (idxL X x), .bool (!decide (idxL X x < X.length))]) ∧ ∃ v', IsTr base w' Tb mb v' (insL X x) ∧ Upd (fun k => k = Tb ∨ k = mb ∨ v.ownBlock = some k) w w' ∧ Moved w v v' := by
  by_cases hi : idxL X x < X.length
  · have hins : insL X x = X := by unfold insL; rw [if_pos hi]
    rw [hins, decide_eq_true hi]
    refine (numR_old base Tb mb v X x w h hx hi).mono ?_
    rintro e w' ⟨rfl, hb'⟩
    have hu : Upd (fun _ => False) w w' := Upd.ofBelow hb' (fun k hk hk' => by omega)
    exact ⟨rfl, v, h.upd hu (fun h => h) (fun h => h) (fun _ _ h => h), hu.mono (fun _ _ h => h.elim), Moved.refl _ _⟩
  · have hins : insL X x = X ++ [x] := by unfold insL; rw [if_neg hi]
    have hidx : idxL X x = X.length := by have := idx_le X x; omega
    rw [hins, decide_eq_false hi, hidx]
    exact numR_new base Tb mb v X x w h hx hb hn hi
end Go.Proofs.YthcghpbkadlliabGreatDoor

namespace Go.Proofs.YthcghpbkadlliabGreatDoor
open Go.Shelf Go.RowKit Go.Maps Go.WideMaps
set_option maxRecDepth 100000

/-- What may change: blocks of these types, and these maps, from base on. -/
structure Fch (base : Nat) (Ts : List TypeId) (ms : List Nat) (w w' : World) : Prop where
  below : Below base w w'
  other : ∀ (k : Nat) (cs : Array Value) (t : TypeId) (fz : Nat × Nat), w.heap[k]? = some (.cells cs t fz) → t ∉ Ts → w'.heap[k]? = some (.cells cs t fz)
  maps : ∀ (k : Nat) (es : Array MapEntry) (cl : Nat), w.heap[k]? = some (.map es cl) → k ∉ ms → w'.heap[k]? = some (.map es cl)
theorem Fch.refl (base : Nat) (Ts : List TypeId) (ms : List Nat) (w : World) : Fch base Ts ms w w := ⟨Below.refl _ _, fun _ _ _ _ h _ => h, fun _ _ _ h _ => h⟩
theorem Fch.trans {base : Nat} {Ts : List TypeId} {ms : List Nat} {a b c : World} (h : Fch base Ts ms a b) (k : Fch base Ts ms b c) : Fch base Ts ms a c :=
  ⟨h.below.trans k.below, fun i cs t fz hi ht => k.other i cs t fz (h.other i cs t fz hi ht) ht, fun i es cl hi hm => k.maps i es cl (h.maps i es cl hi hm) hm⟩
theorem Fch.mono {base : Nat} {Ts Us : List TypeId} {ms ns : List Nat} {a b : World} (h : Fch base Ts ms a b) (h1 : ∀ t, t ∉ Us → t ∉ Ts) (h2 : ∀ t, t ∉ ns → t ∉ ms) : Fch base Us ns a b :=
  ⟨h.below, fun i cs t fz hi ht => h.other i cs t fz hi (h1 t ht), fun i es cl hi hm => h.maps i es cl hi (h2 i hm)⟩
theorem Fch.ofBelow {base : Nat} {Ts : List TypeId} {ms : List Nat} {w w' : World} (h : Below w.heap.size w w') (hB : base ≤ w.heap.size) : Fch base Ts ms w w' :=
  ⟨h.mono hB, fun k _ _ _ hk _ => (h.block k (lt_of_block hk)).trans hk, fun k _ _ hk _ => (h.block k (Array.getElem?_eq_some_iff.1 hk).1).trans hk⟩
theorem Fch.own {base b2 : Nat} {Ts : List TypeId} {ms : List Nat} {w w' : World} {e : TypeId} {size : Nat} {v : Value} {n : Nat} {xs : List Value} (h : w.ownsRow b2 e size v n xs) (hu : Fch base Ts ms w w') (he : e ∉ Ts) : w'.ownsRow b2 e size v n xs := by
  obtain ⟨h1, h2⟩ := h
  refine ⟨h1, ?_⟩
  rcases h2 with h2 | ⟨g, cap, cur, rfl, hg, hh, r⟩
  · exact Or.inl h2
  · exact Or.inr ⟨g, cap, cur, rfl, hg, hu.other _ _ _ _ hh he, r⟩
theorem Fch.mp {α : Type} [DecidableEq α] {base : Nat} {Ts : List TypeId} {ms : List Nat} {w w' : World} {k : TypeId} {V : α → Value} {mb : Nat} {X : List α} (h : IsMp w k V mb X) (hu : Fch base Ts ms w w') (hm : mb ∉ ms) : IsMp w' k V mb X := by
  obtain ⟨⟨D, ⟨es, cl, h1, h2⟩, h3⟩⟩ := h
  exact ⟨⟨D, ⟨es, cl, hu.maps mb es cl h1 hm, h2⟩, h3⟩⟩
theorem own_block {base : Nat} {w : World} {e : TypeId} {size : Nat} {v : Value} {n : Nat} {xs : List Value} (h : w.ownsRow base e size v n xs) {k : Nat} (hk : v.ownBlock = some k) : base ≤ k ∧ ∃ cs fz, w.heap[k]? = some (.cells cs e fz) := by
  rcases h.2 with ⟨rfl, _⟩ | ⟨g, cap, cur, rfl, hg, hh, _⟩
  · simp [Value.ownBlock] at hk
  · simp [Value.ownBlock] at hk; subst hk; exact ⟨hg, _, _, hh⟩
/-- A block of one type and a row of another. -/
theorem fch_of {base : Nat} {w w' : World} {B : Nat} {cs : Array Value} {t : TypeId} {fz : Nat × Nat} {e : TypeId} {size : Nat} {v : Value} {n : Nat} {xs : List Value} (hB : w.heap[B]? = some (.cells cs t fz)) (ho : w.ownsRow base e size v n xs) (hb : base ≤ B) (hs : base ≤ w.heap.size) (hu : Upd (fun k => k = B ∨ v.ownBlock = some k) w w') : Fch base [t, e] [] w w' := by
  refine ⟨hu.below hs (fun k hk hS => ?_), fun k cs' t' fz' hk ht => (hu.block k (lt_of_block hk) (fun hS => ?_)).trans hk, fun k es cl hk _ => (hu.block k (Array.getElem?_eq_some_iff.1 hk).1 (fun hS => ?_)).trans hk⟩
  · rcases hS with e | e
    · omega
    · have := (own_block ho e).1; omega
  · rcases hS with rfl | e
    · rw [hk] at hB; simp at hB; simp [hB] at ht
    · obtain ⟨_, c2, f2, h2⟩ := own_block ho e
      rw [hk] at h2; simp at h2; simp [h2] at ht
  · rcases hS with rfl | e
    · rw [hk] at hB; simp at hB
    · obtain ⟨_, c2, f2, h2⟩ := own_block ho e
      rw [hk] at h2; simp at h2
theorem fch_tab {base : Nat} {w w' : World} {B mb : Nat} {cs : Array Value} {t : TypeId} {fz : Nat × Nat} {e : TypeId} {size : Nat} {v : Value} {n : Nat} {xs : List Value} {es0 : Array MapEntry} {cl0 : Nat} (hB : w.heap[B]? = some (.cells cs t fz)) (hm : w.heap[mb]? = some (.map es0 cl0)) (ho : w.ownsRow base e size v n xs) (hb : base ≤ B) (hmb : base ≤ mb) (hs : base ≤ w.heap.size) (hu : Upd (fun k => k = B ∨ k = mb ∨ v.ownBlock = some k) w w') : Fch base [t, e] [mb] w w' := by
  refine ⟨hu.below hs (fun k hk hS => ?_), fun k cs' t' fz' hk ht => (hu.block k (lt_of_block hk) (fun hS => ?_)).trans hk, fun k es cl hk hn => (hu.block k (Array.getElem?_eq_some_iff.1 hk).1 (fun hS => ?_)).trans hk⟩
  · rcases hS with e | e | e
    · omega
    · omega
    · have := (own_block ho e).1; omega
  · rcases hS with rfl | rfl | e
    · rw [hk] at hB; simp at hB; simp [hB] at ht
    · rw [hk] at hm; simp at hm
    · obtain ⟨_, c2, f2, h2⟩ := own_block ho e
      rw [hk] at h2; simp at h2; simp [h2] at ht
  · rcases hS with rfl | rfl | e
    · rw [hk] at hB; simp at hB
    · simp at hn
    · obtain ⟨_, c2, f2, h2⟩ := own_block ho e
      rw [hk] at h2; simp at h2
/-- Where a fieldWriter's parts lie. -/
structure Fc where
  base : Nat
  F : Nat
  B : Nat
  T1 : Nat
  m1 : Nat
  T2 : Nat
  m2 : Nat
abbrev FTs : List TypeId := [108, 5, 112, 9, 116, 33, 71]
abbrev Fx (c : Fc) (w w' : World) : Prop := Fch c.base FTs [c.m1, c.m2] w w'
structure FW (c : Fc) (w : World) (st : Est) (n : Nat) : Prop where
  fb : w.heap[c.F]? = some (.cells #[.pointer (some ⟨c.B, 0, none⟩), .pointer (some ⟨c.T1, 0, none⟩), .pointer (some ⟨c.T2, 0, none⟩), .int .i64 st.start] 71 (0, 0))
  isW : ∃ v, IsW c.base w c.B v st.out
  tb : ∃ v, IsTb c.base w c.T1 c.m1 v st.texts
  tr : ∃ v, IsTr c.base w c.T2 c.m2 v st.traces
  mm : c.m1 ≠ c.m2
  cnt : st.out.length + st.texts.length + st.traces.length ≤ n
  base : c.base ≤ w.heap.size
  bF : c.base ≤ c.F
  bB : c.base ≤ c.B
  b1 : c.base ≤ c.T1 ∧ c.base ≤ c.m1
  b2 : c.base ≤ c.T2 ∧ c.base ≤ c.m2
theorem FW.below {c : Fc} {w w' : World} {st : Est} {n : Nat} (h : FW c w st n) (hb : Below w.heap.size w w') : FW c w' st n := by
  have hu : Upd (fun _ => False) w w' := Upd.ofBelow hb (fun k hk hk' => by omega)
  obtain ⟨v, h1⟩ := h.isW
  obtain ⟨v1, h2⟩ := h.tb
  obtain ⟨v2, h3⟩ := h.tr
  exact ⟨(hb.block _ (lt_of_block h.fb)).trans h.fb, ⟨v, h1.below hb⟩, ⟨v1, h2.upd hu (fun h => h) (fun h => h) (fun _ _ h => h)⟩, ⟨v2, h3.upd hu (fun h => h) (fun h => h) (fun _ _ h => h)⟩, h.mm, h.cnt, Nat.le_trans h.base hb.size, h.bF, h.bB, h.b1, h.b2⟩
theorem FW.c0 {c : Fc} {w : World} {st : Est} {n : Nat} (h : FW c w st n) : w.cell? ⟨c.F, 0, none⟩ = some (.pointer (some ⟨c.B, 0, none⟩)) := blk_cell h.fb 0 rfl
theorem FW.c1 {c : Fc} {w : World} {st : Est} {n : Nat} (h : FW c w st n) : w.cell? ⟨c.F, 1, none⟩ = some (.pointer (some ⟨c.T1, 0, none⟩)) := blk_cell h.fb 1 rfl
theorem FW.c2 {c : Fc} {w : World} {st : Est} {n : Nat} (h : FW c w st n) : w.cell? ⟨c.F, 2, none⟩ = some (.pointer (some ⟨c.T2, 0, none⟩)) := blk_cell h.fb 2 rfl
theorem FW.c3 {c : Fc} {w : World} {st : Est} {n : Nat} (h : FW c w st n) : w.cell? ⟨c.F, 3, none⟩ = some (.int .i64 st.start) := blk_cell h.fb 3 rfl
/-- The Writer has laid something. -/
theorem FW.put {c : Fc} {w w' : World} {st : Est} {n d : Nat} {bs : List Int} {v v' : Value} (h : FW c w st n) (hv : IsW c.base w c.B v st.out) (hw : IsW c.base w' c.B v' (st.out ++ bs)) (hu : Upd (fun k => k = c.B ∨ v.ownBlock = some k) w w') (hd : bs.length ≤ d) : FW c w' (putE bs st) (n + d) ∧ Fx c w w' := by
  have hf := fch_of hv.block hv.own h.bB h.base hu
  obtain ⟨v1, h2⟩ := h.tb
  obtain ⟨v2, h3⟩ := h.tr
  refine ⟨⟨hf.other _ _ _ _ h.fb (by decide), ⟨v', hw⟩, ⟨v1, ⟨hf.other _ _ _ _ h2.block (by decide), Fch.own h2.own hf (by decide), Fch.mp h2.mp hf (by simp)⟩⟩, ⟨v2, ⟨hf.other _ _ _ _ h3.block (by decide), Fch.own h3.own hf (by decide), Fch.mp h3.mp hf (by simp)⟩⟩, h.mm, ?_, Nat.le_trans h.base hu.size, h.bF, h.bB, h.b1, h.b2⟩, hf.mono (fun t ht => ?_) (fun t _ => by simp)⟩
  · have := h.cnt
    simp only [putE, List.length_append]; omega
  · simp only [FTs, List.mem_cons, not_or] at ht ⊢; exact ⟨ht.1, ht.2.1, by simp⟩
theorem FW.num {c : Fc} {w w' : World} {st : Est} {n : Nat} {x : ByteArray} {v v' : Value} (h : FW c w st n) (hv : IsTb c.base w c.T1 c.m1 v st.texts) (hw : IsTb c.base w' c.T1 c.m1 v' (insL st.texts x)) (hu : Upd (fun k => k = c.T1 ∨ k = c.m1 ∨ v.ownBlock = some k) w w') : FW c w' { st with texts := insL st.texts x } (n + 1) ∧ Fx c w w' := by
  obtain ⟨es, cl, hm⟩ := hv.mp.block
  have hf := fch_tab hv.block hm hv.own h.b1.1 h.b1.2 h.base hu
  obtain ⟨v1, h2⟩ := h.isW
  obtain ⟨v2, h3⟩ := h.tr
  refine ⟨⟨hf.other _ _ _ _ h.fb (by decide), ⟨v1, ⟨hf.other _ _ _ _ h2.block (by decide), Fch.own h2.own hf (by decide)⟩⟩, ⟨v', hw⟩, ⟨v2, ⟨hf.other _ _ _ _ h3.block (by decide), Fch.own h3.own hf (by decide), Fch.mp h3.mp hf (by simpa using h.mm.symm)⟩⟩, h.mm, ?_, Nat.le_trans h.base hu.size, h.bF, h.bB, h.b1, h.b2⟩, hf.mono (fun t ht => ?_) (fun t ht => ?_)⟩
  · have := h.cnt
    have h4 : (insL st.texts x).length ≤ st.texts.length + 1 := by unfold insL; split <;> simp
    simp only; omega
  · simp only [FTs, List.mem_cons, not_or] at ht ⊢; exact ⟨ht.2.2.1, ht.2.2.2.1, by simp⟩
  · simp only [List.mem_cons, not_or] at ht ⊢; exact ⟨ht.1, by simp⟩
theorem FW.numR {c : Fc} {w w' : World} {st : Est} {n : Nat} {x : Int × Int} {v v' : Value} (h : FW c w st n) (hv : IsTr c.base w c.T2 c.m2 v st.traces) (hw : IsTr c.base w' c.T2 c.m2 v' (insL st.traces x)) (hu : Upd (fun k => k = c.T2 ∨ k = c.m2 ∨ v.ownBlock = some k) w w') : FW c w' { st with traces := insL st.traces x } (n + 1) ∧ Fx c w w' := by
  obtain ⟨es, cl, hm⟩ := hv.mp.block
  have hf := fch_tab hv.block hm hv.own h.b2.1 h.b2.2 h.base hu
  obtain ⟨v1, h2⟩ := h.isW
  obtain ⟨v2, h3⟩ := h.tb
  refine ⟨⟨hf.other _ _ _ _ h.fb (by decide), ⟨v1, ⟨hf.other _ _ _ _ h2.block (by decide), Fch.own h2.own hf (by decide)⟩⟩, ⟨v2, ⟨hf.other _ _ _ _ h3.block (by decide), Fch.own h3.own hf (by decide), Fch.mp h3.mp hf (by simpa using h.mm)⟩⟩, ⟨v', hw⟩, h.mm, ?_, Nat.le_trans h.base hu.size, h.bF, h.bB, h.b1, h.b2⟩, hf.mono (fun t ht => ?_) (fun t ht => ?_)⟩
  · have := h.cnt
    have h4 : (insL st.traces x).length ≤ st.traces.length + 1 := by unfold insL; split <;> simp
    simp only; omega
  · simp only [FTs, List.mem_cons, not_or] at ht ⊢; exact ⟨ht.2.2.2.2.1, ht.2.2.2.2.2.1, by simp⟩
  · simp only [List.mem_cons, not_or] at ht ⊢; exact ⟨ht.2.1, by simp⟩
/-- The Writer's own calls. -/
theorem fUint_any (c : Fc) (st : Est) (n : Nat) (u : Nat) (hu : u < 18446744073709551616) (w : World) (h : FW c w st n) (hn : n ≤ 1000000000) :
    Calls Tryz.prog 48 #[.pointer (some ⟨c.B, 0, none⟩), .int .u64 u] w fun e w' => e = .returned (.tuple #[]) ∧ FW c w' (putE (encN u) st) (n + 10) ∧ Fx c w w' := by
  obtain ⟨v, hv⟩ := h.isW
  have hl := encN_len10 u hu
  have hc := h.cnt
  refine (uint_any c.base c.B v st.out u hu w hv h.base (by omega)).mono ?_
  rintro e w' ⟨rfl, v', hw, hu', _⟩
  exact ⟨rfl, h.put hv hw hu' hl⟩
theorem fInt_any (c : Fc) (st : Est) (n : Nat) (x : Int) (h0 : -9223372036854775808 ≤ x) (h1 : x ≤ 9223372036854775807) (w : World) (h : FW c w st n) (hn : n ≤ 1000000000) :
    Calls Tryz.prog 53 #[.pointer (some ⟨c.B, 0, none⟩), .int .i64 x] w fun e w' => e = .returned (.tuple #[]) ∧ FW c w' (putE (encN (zigI x).toNat) st) (n + 10) ∧ Fx c w w' := by
  obtain ⟨v, hv⟩ := h.isW
  have z0 := zig_lo x
  have z1 := zig_hi x h0 h1
  have hl := encN_len10 (zigI x).toNat (by omega)
  have hc := h.cnt
  refine (int_any c.base c.B v st.out x h0 h1 w hv h.base (by omega)).mono ?_
  rintro e w' ⟨rfl, v', hw, hu', _⟩
  exact ⟨rfl, h.put hv hw hu' hl⟩
theorem fRaw_any (c : Fc) (st : Est) (n : Nat) (ad : Option Addr) (l cap : Nat) (K : List Int) (w : World) (h : FW c w st n) (hK : Holds w ad l K) (hl : l ≤ 100) (hn : n ≤ 1000000000) :
    Calls Tryz.prog 49 #[.pointer (some ⟨c.B, 0, none⟩), .slice ad l cap] w fun e w' => e = .returned (.tuple #[]) ∧ FW c w' (putE K st) (n + l) ∧ Fx c w w' := by
  obtain ⟨v, hv⟩ := h.isW
  have hc := h.cnt
  refine (wraw_any c.base c.B v st.out ad l cap K w hv h.base hK (by omega)).mono ?_
  rintro e w' ⟨rfl, v', hw, hu', _⟩
  exact ⟨rfl, h.put hv hw hu' (by have := hK.len; omega)⟩
theorem fNumS_any (c : Fc) (st : Est) (n : Nat) (x : ByteArray) (w : World) (h : FW c w st n) (hx : x.size ≤ 200) (hn : n ≤ 900000000) :
    Calls Tryz.prog 65 #[.pointer (some ⟨c.T1, 0, none⟩), .string x] w fun e w' => e = .returned (.tuple #[.int .u64 (idxL st.texts x), .bool (!decide (idxL st.texts x < st.texts.length))]) ∧ FW c w' { st with texts := insL st.texts x } (n + 1) ∧ Fx c w w' := by
  obtain ⟨v, hv⟩ := h.tb
  have hc := h.cnt
  refine (numS_any c.base c.T1 c.m1 v st.texts x w hv (by unfold maxLen; omega) h.base (by omega)).mono ?_
  rintro e w' ⟨rfl, v', hw, hu', _⟩
  exact ⟨rfl, h.num hv hw hu'⟩
theorem fNumR_any (c : Fc) (st : Est) (n : Nat) (x : Int × Int) (w : World) (h : FW c w st n) (hx : TrcOk x) (hn : n ≤ 900000000) :
    Calls Tryz.prog 47 #[.pointer (some ⟨c.T2, 0, none⟩), trV x] w fun e w' => e = .returned (.tuple #[.int .u64 (idxL st.traces x), .bool (!decide (idxL st.traces x < st.traces.length))]) ∧ FW c w' { st with traces := insL st.traces x } (n + 1) ∧ Fx c w w' := by
  obtain ⟨v, hv⟩ := h.tr
  have hc := h.cnt
  refine (numR_any c.base c.T2 c.m2 v st.traces x w hv hx h.base (by omega)).mono ?_
  rintro e w' ⟨rfl, v', hw, hu', _⟩
  exact ⟨rfl, h.numR hv hw hu'⟩
theorem idx_u64 {c : Fc} {w : World} {st : Est} {n : Nat} (h : FW c w st n) (hn : n ≤ 1000000000) (x : ByteArray) : idxL st.texts x < 18446744073709551616 := by
  have := idx_le st.texts x
  have := h.cnt
  omega
theorem idxR_u64 {c : Fc} {w : World} {st : Est} {n : Nat} (h : FW c w st n) (hn : n ≤ 1000000000) (x : Int × Int) : idxL st.traces x < 18446744073709551616 := by
  have := idx_le st.traces x
  have := h.cnt
  omega
/-- A text's number is laid down. -/
theorem fName_any (c : Fc) (st : Est) (n : Nat) (x : ByteArray) (w : World) (h : FW c w st n) (hx : x.size ≤ 200) (hn : n ≤ 900000000) :
    Calls Tryz.prog 51 #[.pointer (some ⟨c.F, 0, none⟩), .string x] w fun e w' => e = .returned (.tuple #[]) ∧ FW c w' (nameE x st) (n + 11) ∧ Fx c w w' := by
  have c0 := h.c0
  have c1 := h.c1
  have N := fNumS_any c st n x w h hx hn
  have hi := idx_u64 h (by omega) x
  have U := fun w1 (h1 : FW c w1 { st with texts := insL st.texts x } (n + 1)) => fUint_any c _ (n + 1) (idxL st.texts x) hi w1 h1 (by omega)
  have HE : Hid (putE (encN (idxL st.texts x)) { st with texts := insL st.texts x } = nameE x st) := rfl
  generalize nameE x st = st2 at HE ⊢
  generalize ({ st with texts := insL st.texts x } : Est) = st1 at N U HE
  generalize putE (encN (idxL st.texts x)) st1 = st3 at U HE
  generalize decide (idxL st.texts x < st.texts.length) = bb at N
  generalize idxL st.texts x = i at N U HE hi
  clear h
  go_enter Tryz.func51, Tryz.ntmps51
  go_wp2_with (first
    | (go_at_call 65; refine N.mono ?_; clear N; rintro e w1 ⟨rfl, h1, x1⟩; have d0 := h1.c0)
    | (go_at_call 48; refine (U _ h1).mono ?_; clear U; rintro e w2 ⟨rfl, h2, x2⟩))
  go_end0
  exact ⟨rfl, HE.out ▸ h2, x1.trans x2⟩
end Go.Proofs.YthcghpbkadlliabGreatDoor
