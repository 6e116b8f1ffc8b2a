/-
  Contracts of layer 6: the walk's tell, closeAt, pass (written by gen_vc.py).
-/
import Derived.Test.YtakannfkbmnlfaaVh
import Derived.Deep.AppendLies
import Derived.Deep.RegionLaw
namespace Go.Proofs.Ytakannfkbmnlfaa
open Go.RowKit
set_option maxRecDepth 100000

/-- The walk's block, and what it told so far. -/
structure IsWk (base : Nat) (w : World) (W g : Nat) (n0 n1 at_ : Int) (v : Value) (out : List (Int × Int)) : Prop where
  blk : w.heap[W]? = some (.cells #[.func (.func g) #[] #[], .int .i64 n0, .int .i64 n1, .int .i64 at_, v] 46 (0, 0))
  own : OwnI base w v out
theorem IsWk.upd {S : Nat → Prop} {base W g : Nat} {n0 n1 at_ : Int} {v : Value} {out : List (Int × Int)} {w w' : World} (h : IsWk base w W g n0 n1 at_ v out) (u : Upd S w w') (hW : ¬ S W) (hv : ∀ k, v.ownBlock = some k → ¬ S k) : IsWk base w' W g n0 n1 at_ v out :=
  ⟨(u.block _ (lt_of_block h.blk) hW).trans h.blk, ownsRow_upd h.own u hv⟩
theorem IsWk.alloc {base W g : Nat} {n0 n1 at_ : Int} {v : Value} {out : List (Int × Int)} {w : World} (h : IsWk base w W g n0 n1 at_ v out) (o : Obj) : IsWk base (w.alloc o) W g n0 n1 at_ v out :=
  h.upd (S := fun _ => False) ((Upd.refl _ w).alloc o) (fun h => h) (fun _ _ h => h)
theorem IsWk.drewN {base W g : Nat} {n0 n1 at_ : Int} {v : Value} {out : List (Int × Int)} {w : World} (h : IsWk base w W g n0 n1 at_ v out) (m : Nat) : IsWk base (w.drewN m) W g n0 n1 at_ v out := ⟨h.blk, h.own⟩
theorem IsWk.ne {base W g : Nat} {n0 n1 at_ : Int} {v : Value} {out : List (Int × Int)} {w : World} (h : IsWk base w W g n0 n1 at_ v out) : v.ownBlock ≠ some W := fun e => by
  obtain ⟨_, cs, fz, hk⟩ := own_block h.own e
  exact ne_of_types h.blk hk (by decide) rfl

set_option maxHeartbeats 1000000 in
theorem tell_first (base W g : Nat) (n0 n1 at_ : Int) (ao : Option Addr) (L cp : Nat) (out : List (Int × Int)) (a : Int × Int) (w : World) (h : IsWk base w W g n0 n1 at_ (.slice ao L cp) out) (hb : base ≤ w.heap.size) (hL : L = 0) (hx : out = []) :
    Calls Try.prog 45 #[.pointer (some ⟨W, 0, none⟩), .agg #[.int .i64 a.1, .int .i64 a.2]] w fun e w' => e = .returned (.tuple #[]) ∧ ∃ v', IsWk base w' W g n0 n1 at_ v' (out ++ [a]) ∧ Upd (fun k => k = W ∨ (Value.slice ao L cp).ownBlock = some k) w w' ∧ Moved w (.slice ao L cp) v' := by
  obtain ⟨i0, hi, hz0, hz1, hz2⟩ := info_parts Try.info35
  obtain ⟨a1, a2⟩ := a
  have h1 := h.alloc (.cells #[.int .i64 a1, .int .i64 a2] 35)
  have u1 : Upd (fun _ => False) w (w.alloc (.cells #[.int .i64 a1, .int .i64 a2] 35)) := (Upd.refl _ w).alloc _
  have X1 : (w.alloc (.cells #[.int .i64 a1, .int .i64 a2] 35)).heap[w.heap.size]? = some (.cells #[.int .i64 a1, .int .i64 a2] 35 (0, 0)) := heap_alloc_new _ _
  have HL : Hid (out.length = L) := by rw [hx, hL]; rfl
  have hl : IntKind.i64.wrap ((L : Int) - 1) = -1 := by rw [hL]; rfl
  have hl2 : (L : Int) - 1 = -1 := by rw [hL]; rfl
  have hL0 : L ≤ 0 := by omega
  have c4 : (w.alloc (.cells #[.int .i64 a1, .int .i64 a2] 35)).cell? ⟨W, 4, none⟩ = some (.slice ao L cp) := blk_cell h1.blk 4 rfl
  have f4 := blk_free h1.blk 4
  clear hx hL
  go_enter Try.func45, Try.ntmps45
  go_wp2
  go_quiet (fail)
  go_wp2
  obtain ⟨w2, hw2⟩ : ∃ W2, (w.alloc (.cells #[.int .i64 a1, .int .i64 a2] 35)).drewN nq = W2 := ⟨_, rfl⟩
  have h2 : IsWk base w2 W g n0 n1 at_ (.slice ao L cp) out := hw2 ▸ h1.drewN nq
  have X2 : w2.heap[w.heap.size]? = some (.cells #[.int .i64 a1, .int .i64 a2] 35 (0, 0)) := hw2 ▸ X1
  have u2 : Upd (fun _ => False) w w2 := hw2 ▸ u1.drewN nq
  have HZ : Hid (w2.heap.size = w.heap.size + 1) := by show _ = _; rw [← hw2]; simp
  rw [hw2]
  clear hw2 c4 f4 h1 u1 X1
  have hne := h2.ne
  have hLn : out.length = L := HL.out
  have o2 : w2.ownsRow base 35 2 (.slice ao L cp) L (out.flatMap ivC) := by have := h2.own; unfold OwnI at this; rw [hLn] at this; exact this
  have ba : ((w2.alloc (.cells #[.int .i64 a1, .int .i64 a2] 35)).drew).heap[W]? = _ := (Below.heap_alloc w2 (.cells #[.int .i64 a1, .int .i64 a2] 35) _ (lt_of_block h2.blk)).trans h2.blk
  have xa : ((w2.alloc (.cells #[.int .i64 a1, .int .i64 a2] 35)).drew).heap[w.heap.size]? = _ := (Below.heap_alloc w2 (.cells #[.int .i64 a1, .int .i64 a2] 35) _ (lt_of_block X2)).trans X2
  have hc3 : L + 1 ≤ maxLen := by unfold maxLen; omega
  have hc4 : (L + 1) * 16 ≤ 140737488355328 := by omega
  have hc5 : base ≤ ((w2.alloc (.cells #[.int .i64 a1, .int .i64 a2] 35)).drew).heap.size := by show base ≤ (w2.alloc (.cells #[.int .i64 a1, .int .i64 a2] 35)).heap.size; have := u2.size; simp; omega
  have hc6 : ∀ j u, ([.int .i64 a1, .int .i64 a2] : List Value)[j]? = some u → ((w2.alloc (.cells #[.int .i64 a1, .int .i64 a2] 35)).drew).cell? ((⟨w2.heap.size, 0, none⟩ : Addr).add j) = some u := World.news_of_block (cs := #[.int .i64 a1, .int .i64 a2]) (t := 35) (fr := (0, 0)) (heap_alloc_new w2 _)
  have hapX : (Value.slice ao L cp).ownBlock ≠ some w.heap.size := fun e => by
    obtain ⟨_, cs, fz, hk⟩ := own_block h.own e
    have := lt_of_block hk
    omega
  have fin : ∀ gg cap w3, w3.ownsRow base 35 2 (.slice (some ⟨gg, 0, none⟩) (L + 1) cap) (L + 1) (out.flatMap ivC ++ [.int .i64 a1, .int .i64 a2]) → ((w2.alloc (.cells #[.int .i64 a1, .int .i64 a2] 35)).drew).grownBy w3 (Value.slice ao L cp).ownBlock → ((Value.slice ao L cp).ownBlock = some gg ∨ gg = w2.heap.size + 1) →
      ∃ v', IsWk base (w3.setCell ⟨W, 4, none⟩ (.slice (some ⟨gg, 0, none⟩) (L + 1) cap)) W g n0 n1 at_ v' (out ++ [(a1, a2)]) ∧ Upd (fun k => k = W ∨ (Value.slice ao L cp).ownBlock = some k) w (w3.setCell ⟨W, 4, none⟩ (.slice (some ⟨gg, 0, none⟩) (L + 1) cap)) ∧ Moved w (.slice ao L cp) v' := by
    intro gg cap w3 o3 g3 at3
    have z2 : w2.heap.size = w.heap.size + 1 := HZ.out
    have B3 := (g3.block W (lt_of_block ba) (fun e => hne e.symm)).trans ba
    have u3 : Upd (fun k => k = W ∨ (Value.slice ao L cp).ownBlock = some k) w w3 := (((u2.mono (fun _ _ e => e.elim)).alloc (.cells #[.int .i64 a1, .int .i64 a2] 35)).drew).grown g3 (fun k _ e => Or.inr e)
    have hne3 : (Value.slice (some ⟨gg, 0, none⟩) (L + 1) cap).ownBlock ≠ some W := by
      intro e
      simp [Value.ownBlock] at e
      rcases at3 with h | h
      · exact hne (by rw [h, e])
      · have := lt_of_block h2.blk; omega
    refine ⟨.slice (some ⟨gg, 0, none⟩) (L + 1) cap, ⟨?_, ?_⟩, Upd.setCell (p := ⟨W, 4, none⟩) u3 (fun _ => Or.inl rfl) _, ?_⟩
    · rw [set_block B3 4]; rfl
    · have := ownsRow_upd (S := fun k => k = W) o3 (upd_one w3 W 4 (.slice (some ⟨gg, 0, none⟩) (L + 1) cap)) (fun k hk e => hne3 (by rw [hk, e]))
      unfold OwnI
      rw [List.length_append, List.flatMap_append, hLn]
      exact this
    · rcases at3 with h | h
      · exact Or.inl (by rw [h]; simp [Value.ownBlock])
      · exact Or.inr ⟨gg, by simp [Value.ownBlock], by omega⟩
  have c20 : w2.cell? ⟨W, 4, none⟩ = some (.slice ao L cp) := blk_cell h2.blk 4 rfl
  have x20 := blk_cell X2 0 rfl
  have x21 := blk_cell X2 1 rfl
  have ca0 : (w2.alloc (.cells #[.int .i64 a1, .int .i64 a2] 35)).cell? ⟨W, 4, none⟩ = some (.slice ao L cp) := blk_cell ba 4 rfl
  have xa0 : (w2.alloc (.cells #[.int .i64 a1, .int .i64 a2] 35)).cell? ⟨w.heap.size, 0, none⟩ = some (.int .i64 a1) := blk_cell xa 0 rfl
  have xa1 : (w2.alloc (.cells #[.int .i64 a1, .int .i64 a2] 35)).cell? ⟨w.heap.size, 1, none⟩ = some (.int .i64 a2) := blk_cell xa 1 rfl
  go_region_law ((refine step_append_lies _ (by rfl) _ _ _ (by rfl) base 35 i0 _ 2 16 Try.underlying22 hi hz0 hz1 hz2 rfl (by omega) (.slice ao L cp) L (out.flatMap ivC) (by rfl) ((o2.alloc _).drew) ⟨w2.heap.size, 0, none⟩ 1 1 [.int .i64 a1, .int .i64 a2] (by rfl) (by rfl) hc6 (by simp [Value.oneCell']) (by omega) hc3 hc4 hc5 (w2.heap.size + 1) (by simp) ?_; intro gg cap w3 o3 g3 at3 lt3; have B3 := (g3.block W (lt_of_block ba) (fun e => hne e.symm)).trans ba; have c3 := blk_cell B3 4 rfl; have f3 := blk_free B3 4; have X3 := (g3.block w.heap.size (lt_of_block xa) (fun e => hapX e.symm)).trans xa; have e30 := blk_cell X3 0 rfl; have e31 := blk_cell X3 1 rfl))
  all_goals go_wp2
  all_goals go_returns
  all_goals exact ⟨rfl, fin _ _ _ o3 g3 at3⟩
theorem own_free {base : Nat} {w : World} {e : TypeId} {size : Nat} {v : Value} {n : Nat} {xs : List Value} (h : w.ownsRow base e size v n xs) {k : Nat} (hk : v.ownBlock = some k) (j : Nat) : w.frozen? ⟨k, j, none⟩ = false := by
  rcases h.2 with ⟨rfl, _⟩ | ⟨g, cap, cur, rfl, hg, hh, _⟩
  · simp [Value.ownBlock] at hk
  · simp [Value.ownBlock] at hk; subst hk; exact blk_free hh j
theorem wrap_i64_in (v : Int) (h0 : -9223372036854775808 ≤ v) (h1 : v ≤ 9223372036854775807) : IntKind.i64.wrap v = v := by
  rw [IntKind.wrap_i64]; omega
set_option maxHeartbeats 1000000 in
theorem tell_next (base W g : Nat) (n0 n1 at_ : Int) (ao : Option Addr) (L cp k : Nat) (out pre : List (Int × Int)) (x a : Int × Int) (w : World) (h : IsWk base w W g n0 n1 at_ (.slice ao L cp) out) (hb : base ≤ w.heap.size) (hn : L ≤ 1099511627776) (hpk : pre.length = k) (hx : out = pre ++ [x]) (hxa : x.2 ≠ a.1) :
    Calls Try.prog 45 #[.pointer (some ⟨W, 0, none⟩), .agg #[.int .i64 a.1, .int .i64 a.2]] w fun e w' => e = .returned (.tuple #[]) ∧ ∃ v', IsWk base w' W g n0 n1 at_ v' (out ++ [a]) ∧ Upd (fun k => k = W ∨ (Value.slice ao L cp).ownBlock = some k) w w' ∧ Moved w (.slice ao L cp) v' := by
  obtain ⟨i0, hi, hz0, hz1, hz2⟩ := info_parts Try.info35
  obtain ⟨a1, a2⟩ := a
  have h1 := h.alloc (.cells #[.int .i64 a1, .int .i64 a2] 35)
  have u1 : Upd (fun _ => False) w (w.alloc (.cells #[.int .i64 a1, .int .i64 a2] 35)) := (Upd.refl _ w).alloc _
  have X1 : (w.alloc (.cells #[.int .i64 a1, .int .i64 a2] 35)).heap[w.heap.size]? = some (.cells #[.int .i64 a1, .int .i64 a2] 35 (0, 0)) := heap_alloc_new _ _
  obtain ⟨x1, x2⟩ := x
  have hLk : L = k + 1 := by have := own_cap h.own; rw [hx] at this; simp at this; omega
  obtain ⟨gB, cap', ev, _, _, hbg, hcells⟩ := own_some h.own (by rw [hx]; simp)
  simp at ev
  obtain ⟨rfl, ev1, ev2⟩ := ev
  clear ev1 ev2
  have HL : Hid (out.length = L) := by have := own_cap h.own; exact this.1.symm
  have hl : IntKind.i64.wrap ((L : Int) - 1) = (k : Int) := by rw [wrap_i64_in _ (by omega) (by omega)]; omega
  have hk0 : (0 : Int) ≤ (k : Int) := by omega
  have hk0' : decide ((0 : Int) ≤ (k : Int)) = true := decide_eq_true hk0
  have hkL : (k : Int) < (L : Int) := by omega
  have hkL' : k < L := by omega
  have hat := ivC_at out k (by rw [hx]; simp; omega)
  have hxk : out[k]'(by rw [hx]; simp; omega) = (x1, x2) := by simp [hx, ← hpk]
  rw [hxk] at hat
  have g1 : (w.alloc (.cells #[.int .i64 a1, .int .i64 a2] 35)).cell? ⟨gB, k * 2 + 1, none⟩ = some (.int .i64 x2) := by
    have := hcells _ _ hat.2
    exact cell_upd u1 this (fun h => h)
  have c4 : (w.alloc (.cells #[.int .i64 a1, .int .i64 a2] 35)).cell? ⟨W, 4, none⟩ = some (.slice (some ⟨gB, 0, none⟩) L cp) := blk_cell h1.blk 4 rfl
  have f4 := blk_free h1.blk 4
  have q1 : (x2 == a1) = false := beq_eq_false_iff_ne.mpr hxa
  have q2 : decide (x2 = a1) = false := decide_eq_false hxa
  have q3 : ¬ x2 = a1 := hxa
  clear hx hLk hat hxk hpk hxa hcells
  go_enter Try.func45, Try.ntmps45
  go_wp2
  go_quiet (fail)
  go_wp2
  obtain ⟨w2, hw2⟩ : ∃ W2, (w.alloc (.cells #[.int .i64 a1, .int .i64 a2] 35)).drewN nq = W2 := ⟨_, rfl⟩
  have h2 : IsWk base w2 W g n0 n1 at_ (.slice (some ⟨gB, 0, none⟩) L cp) out := hw2 ▸ h1.drewN nq
  have X2 : w2.heap[w.heap.size]? = some (.cells #[.int .i64 a1, .int .i64 a2] 35 (0, 0)) := hw2 ▸ X1
  have u2 : Upd (fun _ => False) w w2 := hw2 ▸ u1.drewN nq
  have HZ : Hid (w2.heap.size = w.heap.size + 1) := by show _ = _; rw [← hw2]; simp
  rw [hw2]
  clear hw2 c4 f4 h1 u1 X1
  have hne := h2.ne
  have hLn : out.length = L := HL.out
  have o2 : w2.ownsRow base 35 2 (.slice (some ⟨gB, 0, none⟩) L cp) L (out.flatMap ivC) := by have := h2.own; unfold OwnI at this; rw [hLn] at this; exact this
  have ba : ((w2.alloc (.cells #[.int .i64 a1, .int .i64 a2] 35)).drew).heap[W]? = _ := (Below.heap_alloc w2 (.cells #[.int .i64 a1, .int .i64 a2] 35) _ (lt_of_block h2.blk)).trans h2.blk
  have xa : ((w2.alloc (.cells #[.int .i64 a1, .int .i64 a2] 35)).drew).heap[w.heap.size]? = _ := (Below.heap_alloc w2 (.cells #[.int .i64 a1, .int .i64 a2] 35) _ (lt_of_block X2)).trans X2
  have hc3 : L + 1 ≤ maxLen := by unfold maxLen; omega
  have hc4 : (L + 1) * 16 ≤ 140737488355328 := by omega
  have hc5 : base ≤ ((w2.alloc (.cells #[.int .i64 a1, .int .i64 a2] 35)).drew).heap.size := by show base ≤ (w2.alloc (.cells #[.int .i64 a1, .int .i64 a2] 35)).heap.size; have := u2.size; simp; omega
  have hc6 : ∀ j u, ([.int .i64 a1, .int .i64 a2] : List Value)[j]? = some u → ((w2.alloc (.cells #[.int .i64 a1, .int .i64 a2] 35)).drew).cell? ((⟨w2.heap.size, 0, none⟩ : Addr).add j) = some u := World.news_of_block (cs := #[.int .i64 a1, .int .i64 a2]) (t := 35) (fr := (0, 0)) (heap_alloc_new w2 _)
  have hapX : (Value.slice (some ⟨gB, 0, none⟩) L cp).ownBlock ≠ some w.heap.size := fun e => by
    obtain ⟨_, cs, fz, hk⟩ := own_block h.own e
    have := lt_of_block hk
    omega
  have fin : ∀ gg cap w3, w3.ownsRow base 35 2 (.slice (some ⟨gg, 0, none⟩) (L + 1) cap) (L + 1) (out.flatMap ivC ++ [.int .i64 a1, .int .i64 a2]) → ((w2.alloc (.cells #[.int .i64 a1, .int .i64 a2] 35)).drew).grownBy w3 (Value.slice (some ⟨gB, 0, none⟩) L cp).ownBlock → ((Value.slice (some ⟨gB, 0, none⟩) L cp).ownBlock = some gg ∨ gg = w2.heap.size + 1) →
      ∃ v', IsWk base (w3.setCell ⟨W, 4, none⟩ (.slice (some ⟨gg, 0, none⟩) (L + 1) cap)) W g n0 n1 at_ v' (out ++ [(a1, a2)]) ∧ Upd (fun k => k = W ∨ (Value.slice (some ⟨gB, 0, none⟩) L cp).ownBlock = some k) w (w3.setCell ⟨W, 4, none⟩ (.slice (some ⟨gg, 0, none⟩) (L + 1) cap)) ∧ Moved w (.slice (some ⟨gB, 0, none⟩) L cp) v' := by
    intro gg cap w3 o3 g3 at3
    have z2 : w2.heap.size = w.heap.size + 1 := HZ.out
    have B3 := (g3.block W (lt_of_block ba) (fun e => hne e.symm)).trans ba
    have u3 : Upd (fun k => k = W ∨ (Value.slice (some ⟨gB, 0, none⟩) L cp).ownBlock = some k) w w3 := (((u2.mono (fun _ _ e => e.elim)).alloc (.cells #[.int .i64 a1, .int .i64 a2] 35)).drew).grown g3 (fun k _ e => Or.inr e)
    have hne3 : (Value.slice (some ⟨gg, 0, none⟩) (L + 1) cap).ownBlock ≠ some W := by
      intro e
      simp [Value.ownBlock] at e
      rcases at3 with h | h
      · exact hne (by rw [h, e])
      · have := lt_of_block h2.blk; omega
    refine ⟨.slice (some ⟨gg, 0, none⟩) (L + 1) cap, ⟨?_, ?_⟩, Upd.setCell (p := ⟨W, 4, none⟩) u3 (fun _ => Or.inl rfl) _, ?_⟩
    · rw [set_block B3 4]; rfl
    · have := ownsRow_upd (S := fun k => k = W) o3 (upd_one w3 W 4 (.slice (some ⟨gg, 0, none⟩) (L + 1) cap)) (fun k hk e => hne3 (by rw [hk, e]))
      unfold OwnI
      rw [List.length_append, List.flatMap_append, hLn]
      exact this
    · rcases at3 with h | h
      · exact Or.inl (by rw [h]; simp [Value.ownBlock])
      · exact Or.inr ⟨gg, by simp [Value.ownBlock], by omega⟩
  have c20 : w2.cell? ⟨W, 4, none⟩ = some (.slice (some ⟨gB, 0, none⟩) L cp) := blk_cell h2.blk 4 rfl
  have x20 := blk_cell X2 0 rfl
  have x21 := blk_cell X2 1 rfl
  have ca0 : (w2.alloc (.cells #[.int .i64 a1, .int .i64 a2] 35)).cell? ⟨W, 4, none⟩ = some (.slice (some ⟨gB, 0, none⟩) L cp) := blk_cell ba 4 rfl
  have xa0 : (w2.alloc (.cells #[.int .i64 a1, .int .i64 a2] 35)).cell? ⟨w.heap.size, 0, none⟩ = some (.int .i64 a1) := blk_cell xa 0 rfl
  have xa1 : (w2.alloc (.cells #[.int .i64 a1, .int .i64 a2] 35)).cell? ⟨w.heap.size, 1, none⟩ = some (.int .i64 a2) := blk_cell xa 1 rfl
  go_region_law ((refine step_append_lies _ (by rfl) _ _ _ (by rfl) base 35 i0 _ 2 16 Try.underlying22 hi hz0 hz1 hz2 rfl (by omega) (.slice (some ⟨gB, 0, none⟩) L cp) L (out.flatMap ivC) (by rfl) ((o2.alloc _).drew) ⟨w2.heap.size, 0, none⟩ 1 1 [.int .i64 a1, .int .i64 a2] (by rfl) (by rfl) hc6 (by simp [Value.oneCell']) (by omega) hc3 hc4 hc5 (w2.heap.size + 1) (by simp) ?_; intro gg cap w3 o3 g3 at3 lt3; have B3 := (g3.block W (lt_of_block ba) (fun e => hne e.symm)).trans ba; have c3 := blk_cell B3 4 rfl; have f3 := blk_free B3 4; have X3 := (g3.block w.heap.size (lt_of_block xa) (fun e => hapX e.symm)).trans xa; have e30 := blk_cell X3 0 rfl; have e31 := blk_cell X3 1 rfl))
  all_goals go_wp2
  all_goals go_returns
  all_goals exact ⟨rfl, fin _ _ _ o3 g3 at3⟩
theorem flat_set (pre : List (Int × Int)) (x1 x2 y : Int) : ((pre ++ [(x1, x2)]).flatMap ivC).set (pre.length * 2 + 1) (.int .i64 y) = (pre ++ [(x1, y)]).flatMap ivC := by
  rw [List.flatMap_append, List.flatMap_append]
  have := ivC_len pre
  rw [List.set_append_right _ _ (by omega), this, show pre.length * 2 + 1 - pre.length * 2 = 1 by omega]
  rfl
set_option maxHeartbeats 1000000 in
theorem tell_same (base W g : Nat) (n0 n1 at_ : Int) (ao : Option Addr) (L cp k : Nat) (out pre : List (Int × Int)) (x a : Int × Int) (w : World) (h : IsWk base w W g n0 n1 at_ (.slice ao L cp) out) (_hb : base ≤ w.heap.size) (hn : L ≤ 1099511627776) (hpk : pre.length = k) (hx : out = pre ++ [x]) (hxa : x.2 = a.1) :
    Calls Try.prog 45 #[.pointer (some ⟨W, 0, none⟩), .agg #[.int .i64 a.1, .int .i64 a.2]] w fun e w' => e = .returned (.tuple #[]) ∧ ∃ v', IsWk base w' W g n0 n1 at_ v' (pre ++ [(x.1, a.2)]) ∧ Upd (fun k => k = W ∨ (Value.slice ao L cp).ownBlock = some k) w w' ∧ Moved w (.slice ao L cp) v' := by
  obtain ⟨i0, hi, hz0, hz1, hz2⟩ := info_parts Try.info35
  obtain ⟨a1, a2⟩ := a
  have h1 := h.alloc (.cells #[.int .i64 a1, .int .i64 a2] 35)
  have u1 : Upd (fun _ => False) w (w.alloc (.cells #[.int .i64 a1, .int .i64 a2] 35)) := (Upd.refl _ w).alloc _
  have X1 : (w.alloc (.cells #[.int .i64 a1, .int .i64 a2] 35)).heap[w.heap.size]? = some (.cells #[.int .i64 a1, .int .i64 a2] 35 (0, 0)) := heap_alloc_new _ _
  obtain ⟨x1, x2⟩ := x
  have hLk : L = k + 1 := by have := own_cap h.own; rw [hx] at this; simp at this; omega
  obtain ⟨gB, cap', ev, _, _, hbg, hcells⟩ := own_some h.own (by rw [hx]; simp)
  simp at ev
  obtain ⟨rfl, ev1, ev2⟩ := ev
  clear ev1 ev2
  have HL : Hid (out.length = L) := by have := own_cap h.own; exact this.1.symm
  have hl : IntKind.i64.wrap ((L : Int) - 1) = (k : Int) := by rw [wrap_i64_in _ (by omega) (by omega)]; omega
  have hk0 : (0 : Int) ≤ (k : Int) := by omega
  have hk0' : decide ((0 : Int) ≤ (k : Int)) = true := decide_eq_true hk0
  have hkL : (k : Int) < (L : Int) := by omega
  have hkL' : k < L := by omega
  have hat := ivC_at out k (by rw [hx]; simp; omega)
  have hxk : out[k]'(by rw [hx]; simp; omega) = (x1, x2) := by simp [hx, ← hpk]
  rw [hxk] at hat
  have g1 : (w.alloc (.cells #[.int .i64 a1, .int .i64 a2] 35)).cell? ⟨gB, k * 2 + 1, none⟩ = some (.int .i64 x2) := by
    have := hcells _ _ hat.2
    exact cell_upd u1 this (fun h => h)
  have c4 : (w.alloc (.cells #[.int .i64 a1, .int .i64 a2] 35)).cell? ⟨W, 4, none⟩ = some (.slice (some ⟨gB, 0, none⟩) L cp) := blk_cell h1.blk 4 rfl
  have f4 := blk_free h1.blk 4
  have q1 : (x2 == a1) = true := beq_iff_eq.mpr hxa
  have q2 : decide (x2 = a1) = true := decide_eq_true hxa
  have fg : (w.alloc (.cells #[.int .i64 a1, .int .i64 a2] 35)).frozen? ⟨gB, k * 2 + 1, none⟩ = false := by
    obtain ⟨_, cs, fz, hk⟩ := own_block h1.own (k := gB) rfl
    exact own_free h1.own rfl _
  have HX : Hid (out = pre ++ [(x1, x2)]) := hx
  have HK : Hid (pre.length = k) := hpk
  have hne := h1.ne
  have hneW : gB ≠ W := fun e => hne (by rw [e]; rfl)
  clear hx hLk hat hxk hpk hxa hcells
  go_enter Try.func45, Try.ntmps45
  go_wp2
  go_quiet (fail)
  go_wp2
  obtain ⟨w2, hw2⟩ : ∃ W2, (w.alloc (.cells #[.int .i64 a1, .int .i64 a2] 35)).drewN nq = W2 := ⟨_, rfl⟩
  have h2 : IsWk base w2 W g n0 n1 at_ (.slice (some ⟨gB, 0, none⟩) L cp) out := hw2 ▸ h1.drewN nq
  have X2 : w2.heap[w.heap.size]? = some (.cells #[.int .i64 a1, .int .i64 a2] 35 (0, 0)) := hw2 ▸ X1
  have u2 : Upd (fun _ => False) w w2 := hw2 ▸ u1.drewN nq
  have g2 : w2.cell? ⟨gB, k * 2 + 1, none⟩ = some (.int .i64 x2) := by rw [← hw2]; exact g1
  have fg2 : w2.frozen? ⟨gB, k * 2 + 1, none⟩ = false := by rw [← hw2]; exact fg
  rw [hw2]
  clear hw2 c4 f4 h1 u1 X1 g1 fg
  have c2 : w2.cell? ⟨W, 4, none⟩ = some (.slice (some ⟨gB, 0, none⟩) L cp) := blk_cell h2.blk 4 rfl
  have x20 : w2.cell? ⟨w.heap.size, 0, none⟩ = some (.int .i64 a1) := blk_cell X2 0 rfl
  have x21 : w2.cell? ⟨w.heap.size, 1, none⟩ = some (.int .i64 a2) := blk_cell X2 1 rfl
  have us := upd_one w2 gB (k * 2 + 1) (.int .i64 a2)
  have hgX : gB ≠ w.heap.size := fun e => by
    obtain ⟨_, cs, fz, hk⟩ := own_block h.own (k := gB) rfl
    have := lt_of_block hk
    omega
  have c3 : (w2.setCell ⟨gB, k * 2 + 1, none⟩ (.int .i64 a2)).cell? ⟨W, 4, none⟩ = some (.slice (some ⟨gB, 0, none⟩) L cp) := cell_upd us c2 (fun e => hneW e.symm)
  have x30 : (w2.setCell ⟨gB, k * 2 + 1, none⟩ (.int .i64 a2)).cell? ⟨w.heap.size, 0, none⟩ = some (.int .i64 a1) := cell_upd us x20 (fun e => hgX e.symm)
  have x31 : (w2.setCell ⟨gB, k * 2 + 1, none⟩ (.int .i64 a2)).cell? ⟨w.heap.size, 1, none⟩ = some (.int .i64 a2) := cell_upd us x21 (fun e => hgX e.symm)
  go_region_held3 (fun w' => w'.cell? ⟨W, 4, none⟩ = some (.slice (some ⟨gB, 0, none⟩) L cp) ∧ w'.cell? ⟨w.heap.size, 1, none⟩ = some (.int .i64 a2)) (first | exact ⟨c2, x21⟩ | exact ⟨c3, x31⟩) (first | fail)
  go_wp2
  go_returns
  have hL : out.length = L := HL.out
  have hpk : pre.length = k := HK.out
  have hx : out = pre ++ [(x1, x2)] := HX.out
  refine ⟨rfl, .slice (some ⟨gB, 0, none⟩) L cp, ⟨?_, ?_⟩, ?_, Moved.refl _ _⟩
  · exact (us.block W (lt_of_block h2.blk) (fun e => hneW e.symm)).trans h2.blk
  · have := h2.own
    unfold OwnI at this ⊢
    rw [hL] at this
    have := ownsRow_set this (k * 2 + 1) (.int .i64 a2)
    rw [hx, ← hpk, flat_set] at this
    rw [show (pre ++ [(x1, a2)]).length = L by rw [← hL, hx]; simp, ← hpk]
    exact this
  · exact (u2.mono (fun _ _ e => e.elim)).trans (S' := fun k => k = gB) us.drew (fun k _ e => Or.inr (by rw [e]; rfl))
theorem tell_any (base W g : Nat) (n0 n1 at_ : Int) (v : Value) (out : List (Int × Int)) (a : Int × Int) (w : World) (h : IsWk base w W g n0 n1 at_ v out) (hb : base ≤ w.heap.size) (hn : out.length ≤ 1099511627776) :
    Calls Try.prog 45 #[.pointer (some ⟨W, 0, none⟩), .agg #[.int .i64 a.1, .int .i64 a.2]] w fun e w' => e = .returned (.tuple #[]) ∧ ∃ v', IsWk base w' W g n0 n1 at_ v' (tellL out a) ∧ Upd (fun k => k = W ∨ (v).ownBlock = some k) w w' ∧ Moved w (v) v' := by
  obtain ⟨ao, L, cp, rfl⟩ := row_shape h.own
  obtain ⟨hL, _, _⟩ := own_cap h.own
  rcases List.eq_nil_or_concat out with hx | ⟨pre, x, hx⟩
  · have := tell_first base W g n0 n1 at_ ao L cp out a w h hb (by rw [hL, hx]; rfl) hx
    rw [hx] at this ⊢
    exact this
  · rw [List.concat_eq_append] at hx
    have ht : tellL out a = if x.2 = a.1 then pre ++ [(x.1, a.2)] else out ++ [a] := by
      unfold tellL
      rw [hx, List.getLast?_concat, List.dropLast_concat]
    rw [ht]
    by_cases hc : x.2 = a.1
    · rw [if_pos hc]
      exact tell_same base W g n0 n1 at_ ao L cp pre.length out pre x a w h hb (by omega) rfl hx hc
    · rw [if_neg hc]
      exact tell_next base W g n0 n1 at_ ao L cp pre.length out pre x a w h hb (by omega) rfl hx hc
end Go.Proofs.Ytakannfkbmnlfaa
