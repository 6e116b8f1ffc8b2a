/-
  Merged: QVh, QVc, QVd, QVe, QVf, QVg.
-/
import Derived.Test.YtnffedmcblbkoaaGreatDoorMwq
import Derived.Deep.RegionHeld3
import Derived.Deep.AppendLies
import Derived.Deep.RegionLaw
import Derived.Deep.QuietTactic
import Derived.Shelf.Abstract
import Derived.Shelf.SlSortCmp.WholeK
import Derived.Ground.SlsfProg
namespace Go.Proofs.YtnffedmcblbkoaaGreatDoor.iv
open Go.RowKit
set_option maxRecDepth 100000
theorem row_shape {base : Nat} {w : World} {e : TypeId} {size n : Nat} {v : Value} {xs : List Value} (h : w.ownsRow base e size v n xs) : ∃ ao l c, v = .slice ao l c := by
 rcases h.2 with ⟨rfl, _⟩ | ⟨g, cap, cur, rfl, _⟩
 ·exact ⟨_, _, _, rfl⟩
 ·exact ⟨_, _, _, rfl⟩
theorem cell_upd {S : Nat → Prop} {w w' : World} (hu : Upd S w w') {a : Addr} {v : Value} (h : w.cell? a = some v) (hS : ¬ S a.block) : w'.cell? a = some v := by
 have hlt := World.block_lt_of_cell? w a h
 have hb := hu.block a.block hlt hS
 unfold World.cell? at h ⊢
 rw [hb]; exact h
theorem own_some {base : Nat} {w : World} {e : TypeId} {size : Nat} {v : Value} {n : Nat} {xs : List Value} (h : w.ownsRow base e size v n xs) (hn : 0 < n) : ∃ g cap, v = .slice (some ⟨g, 0, none⟩) n cap ∧ n ≤ cap ∧ cap ≤ maxLen ∧ base ≤ g ∧ ∀ j u, xs[j]? = some u → w.cell? ⟨g, j, none⟩ = some u := by
 have h0 := h
 rcases h.2 with ⟨rfl, h1⟩ | ⟨g, cap, cur, rfl, hb, hg, h1, h2, _⟩
 ·omega
 ·refine ⟨g, cap, rfl, h1, h2, hb, fun j u hj => ?_⟩
  have := h0.cells (g := g) rfl j u hj
  rw [Addr.add_lit, Nat.zero_add] at this
  exact this
theorem own_cap {base : Nat} {w : World} {e : TypeId} {size : Nat} {ao : Option Addr} {l c : Nat} {n : Nat} {xs : List Value} (h : w.ownsRow base e size (.slice ao l c) n xs) : l = n ∧ n ≤ c ∧ c ≤ maxLen := by
 rcases h.2 with ⟨e, h1⟩ | ⟨g, cap, cur, e, hb, hg, h1, h2, _⟩
 ·simp at e; obtain ⟨rfl, rfl, rfl⟩ := e; simp [h1, maxLen]
 ·simp at e; obtain ⟨rfl, rfl, rfl⟩ := e; exact ⟨rfl, h1, h2⟩
theorem blk_cell {w : World} {g : Nat} {cs : Array Value} {t : TypeId} {fz : Nat × Nat} (h : w.heap[g]? = some (.cells cs t fz)) (j : Nat) {u : Value} (hu : cs[j]? = some u) : w.cell? ⟨g, j, none⟩ = some u := by
 simp [World.cell?, h, hu]
theorem blk_free {w : World} {g : Nat} {cs : Array Value} {t : TypeId} (h : w.heap[g]? = some (.cells cs t (0, 0))) (j : Nat) : w.frozen? ⟨g, j, none⟩ = false := by
 simp [World.frozen?, h]
theorem ne_of_types {w : World} {a b : Nat} {c d : Array Value} {s t : TypeId} {f h : Nat × Nat} (h1 : w.heap[a]? = some (.cells c s f)) (h2 : w.heap[b]? = some (.cells d t h)) (hne : s ≠ t) : a ≠ b := by
 rintro rfl
 rw [h1] at h2
 simp at h2
 exact hne h2.2.1
theorem set_block {w : World} {B : Nat} {cs : Array Value} {t : TypeId} {fr : Nat × Nat} (h : w.heap[B]? = some (.cells cs t fr)) (i : Nat) (v : Value) : (w.setCell ⟨B, i, none⟩ v).heap[B]? = some (.cells (cs.setIfInBounds i v) t fr) := by
 have hlt := lt_of_block h
 have h' : w.heap[B] = .cells cs t fr := by simpa [Array.getElem?_eq_getElem hlt] using h
 show (w.heap.modify B _)[B]? = _
 rw [Array.getElem?_eq_getElem (by simpa using hlt), Array.getElem_modify_self, h']
 rfl
theorem own_block {base : Nat} {w : World} {e : TypeId} {size : Nat} {v : Value} {n : Nat} {xs : List Value} (h : w.ownsRow base e size v n xs) {k : Nat} (hk : v.ownBlock = some k) : base ≤ k ∧ ∃ cs fz, w.heap[k]? = some (.cells cs e fz) := by
 rcases h.2 with ⟨rfl, _⟩ | ⟨g, cap, cur, rfl, hg, hh, _⟩
 ·simp [Value.ownBlock] at hk
 ·simp [Value.ownBlock] at hk; subst hk; exact ⟨hg, _, _, hh⟩
theorem upd_one (w : World) (b i : Nat) (v : Value) : Upd (fun k => k = b) w (w.setCell ⟨b, i, none⟩ v) := Upd.setCell (S := fun k => k = b) (p := ⟨b, i, none⟩) (Upd.refl _ w) (fun _ => rfl) v
theorem ownsRow_set {w : World} {base : Nat} {e : TypeId} {s g n cap : Nat} {xs : List Value} (h : w.ownsRow base e s (.slice (some ⟨g, 0, none⟩) n cap) n xs) (i : Nat) (v : Value) :
  (w.setCell ⟨g, i, none⟩ v).ownsRow base e s (.slice (some ⟨g, 0, none⟩) n cap) n (xs.set i v) := by
 obtain ⟨h1, h2⟩ := h
 rcases h2 with ⟨h2, _⟩ | ⟨g', cap', cur, y0, y1, y2, y3, y4, y5, y6⟩
 ·cases h2
 ·injection y0 with z1 z2 z3
  injection z1 with z1
  injection z1 with z1
  subst z1; subst z3
  refine ⟨by simpa using h1, Or.inr ⟨g, cap, cur.setIfInBounds i v, rfl, y1, set_block y2 i v, y3, y4, by simpa using y5, ?_⟩⟩
  rw [← y6]
  rw [Array.toList_setIfInBounds, List.take_set]
theorem Tryz.info36 : (Tryz.prog.info? 36).map (fun i => (i.zero, i.size, i.bytes)) = some (some (.agg #[.int .i64 0, .int .i64 0]), 2, 16) := by kernel_rfl
theorem Tryz.info279 : (Tryz.prog.info? 279).map (fun i => (i.zero, i.size, i.bytes)) = some (some (.agg #[.int .i64 0, .int .i64 0, .int .i64 0]), 3, 24) := by kernel_rfl
def ivC (i : Int × Int) : List Value := [.int .i64 i.1, .int .i64 i.2]
def enC (e : Int × Int × Int) : List Value := [.int .i64 e.1, .int .i64 e.2.1, .int .i64 e.2.2]
def OwnI (base : Nat) (w : World) (v : Value) (l : List (Int × Int)) : Prop := w.ownsRow base 36 2 v l.length (l.flatMap ivC)
def OwnE (base : Nat) (w : World) (v : Value) (l : List (Int × Int × Int)) : Prop := w.ownsRow base 279 3 v l.length (l.flatMap enC)
theorem ivC_len (l : List (Int × Int)) : (l.flatMap ivC).length = l.length * 2 := by
 induction l with
 | nil => rfl
 | cons i l ih => rw [List.flatMap_cons, List.length_append, ih]; simp [ivC]; omega
theorem ivC_at (l : List (Int × Int)) : ∀ i (hi : i < l.length), (l.flatMap ivC)[i * 2]? = some (.int .i64 l[i].1) ∧ (l.flatMap ivC)[i * 2 + 1]? = some (.int .i64 l[i].2) := by
 induction l with
 | nil => intro i hi; simp at hi
 | cons p r ih =>
  intro i hi
  rw [List.flatMap_cons]
  cases i with
  | zero => exact ⟨rfl, rfl⟩
  | succ i =>
   have h2 : (ivC p).length = 2 := rfl
   rw [List.getElem?_append_right (by omega), List.getElem?_append_right (by omega), h2, show (i + 1) * 2 - 2 = i * 2 by omega, show (i + 1) * 2 + 1 - 2 = i * 2 + 1 by omega]
   exact ih i (by simpa using hi)
theorem enC_at (l : List (Int × Int × Int)) : ∀ i (hi : i < l.length), (l.flatMap enC)[i * 3]? = some (.int .i64 l[i].1) ∧ (l.flatMap enC)[i * 3 + 1]? = some (.int .i64 l[i].2.1) ∧ (l.flatMap enC)[i * 3 + 2]? = some (.int .i64 l[i].2.2) := by
 induction l with
 | nil => intro i hi; simp at hi
 | cons p r ih =>
  intro i hi
  rw [List.flatMap_cons]
  cases i with
  | zero => exact ⟨rfl, rfl, rfl⟩
  | succ i =>
   have h2 : (enC p).length = 3 := rfl
   rw [List.getElem?_append_right (by omega), List.getElem?_append_right (by omega), List.getElem?_append_right (by omega), h2, show (i + 1) * 3 - 3 = i * 3 by omega, show (i + 1) * 3 + 1 - 3 = i * 3 + 1 by omega, show (i + 1) * 3 + 2 - 3 = i * 3 + 2 by omega]
   exact ih i (by simpa using hi)
structure IvAt (w : World) (ad : Option Addr) (n : Nat) (l : List (Int × Int)) : Prop where
 len : l.length = n
 lies : 0 < n → ∃ b off, ad = some ⟨b, off, none⟩ ∧ ∀ i (_ : i < l.length), w.cell? ⟨b, off + i * 2, none⟩ = some (.int .i64 l[i].1) ∧ w.cell? ⟨b, off + i * 2 + 1, none⟩ = some (.int .i64 l[i].2)
theorem IvAt.upd {S : Nat → Prop} {w w' : World} {ad : Option Addr} {n : Nat} {l : List (Int × Int)} (h : IvAt w ad n l) (hu : Upd S w w') (hS : ∀ a, ad = some a → ¬ S a.block) : IvAt w' ad n l := by
 refine ⟨h.len, fun hp => ?_⟩
 obtain ⟨b, off, ha, hc⟩ := h.lies hp
 refine ⟨b, off, ha, fun i hi => ?_⟩
 obtain ⟨c0, c1⟩ := hc i hi
 exact ⟨cell_upd hu c0 (hS ⟨b, off, none⟩ ha), cell_upd hu c1 (hS ⟨b, off, none⟩ ha)⟩
theorem IvAt.below {w w' : World} {ad : Option Addr} {n : Nat} {l : List (Int × Int)} (h : IvAt w ad n l) (hb : Below w.heap.size w w') : IvAt w' ad n l :=
 h.upd (Upd.ofBelow (S := fun _ => False) hb (fun k hk hk' => by omega)) (fun _ _ h => h)
theorem OwnI.at {base : Nat} {w : World} {ao : Option Addr} {n c : Nat} {l : List (Int × Int)} (h : OwnI base w (.slice ao n c) l) : IvAt w ao n l := by
 have hc := own_cap h
 refine ⟨hc.1.symm, fun hp => ?_⟩
 obtain ⟨g, cap, e, _, _, _, hx⟩ := own_some h (by omega)
 simp at e
 refine ⟨g, 0, e.1, fun i hi => ?_⟩
 obtain ⟨a, b⟩ := ivC_at l i hi
 rw [Nat.zero_add]
 exact ⟨hx _ _ a, hx _ _ b⟩
structure EnAt (w : World) (ad : Option Addr) (n : Nat) (l : List (Int × Int × Int)) : Prop where
 len : l.length = n
 lies : 0 < n → ∃ b off, ad = some ⟨b, off, none⟩ ∧ ∀ i (_ : i < l.length), w.cell? ⟨b, off + i * 3, none⟩ = some (.int .i64 l[i].1) ∧ w.cell? ⟨b, off + i * 3 + 1, none⟩ = some (.int .i64 l[i].2.1) ∧ w.cell? ⟨b, off + i * 3 + 2, none⟩ = some (.int .i64 l[i].2.2)
theorem EnAt.upd {S : Nat → Prop} {w w' : World} {ad : Option Addr} {n : Nat} {l : List (Int × Int × Int)} (h : EnAt w ad n l) (hu : Upd S w w') (hS : ∀ a, ad = some a → ¬ S a.block) : EnAt w' ad n l := by
 refine ⟨h.len, fun hp => ?_⟩
 obtain ⟨b, off, ha, hc⟩ := h.lies hp
 refine ⟨b, off, ha, fun i hi => ?_⟩
 obtain ⟨c0, c1, c2⟩ := hc i hi
 exact ⟨cell_upd hu c0 (hS ⟨b, off, none⟩ ha), cell_upd hu c1 (hS ⟨b, off, none⟩ ha), cell_upd hu c2 (hS ⟨b, off, none⟩ ha)⟩
structure IsWk (base : Nat) (w : World) (W g : Nat) (n0 n1 at_ : Int) (v : Value) (out : List (Int × Int)) : Prop where
 blk : w.heap[W]? = some (.cells #[.func (.func g) #[] #[], .int .i64 n0, .int .i64 n1, .int .i64 at_, v] 275 (0, 0))
 own : OwnI base w v out
theorem IsWk.upd {S : Nat → Prop} {base W g : Nat} {n0 n1 at_ : Int} {v : Value} {out : List (Int × Int)} {w w' : World} (h : IsWk base w W g n0 n1 at_ v out) (u : Upd S w w') (hW : ¬ S W) (hv : ∀ k, v.ownBlock = some k → ¬ S k) : IsWk base w' W g n0 n1 at_ v out :=
 ⟨(u.block _ (lt_of_block h.blk) hW).trans h.blk, ownsRow_upd h.own u hv⟩
theorem IsWk.alloc {base W g : Nat} {n0 n1 at_ : Int} {v : Value} {out : List (Int × Int)} {w : World} (h : IsWk base w W g n0 n1 at_ v out) (o : Obj) : IsWk base (w.alloc o) W g n0 n1 at_ v out :=
 h.upd (S := fun _ => False) ((Upd.refl _ w).alloc o) (fun h => h) (fun _ _ h => h)
theorem IsWk.drewN {base W g : Nat} {n0 n1 at_ : Int} {v : Value} {out : List (Int × Int)} {w : World} (h : IsWk base w W g n0 n1 at_ v out) (m : Nat) : IsWk base (w.drewN m) W g n0 n1 at_ v out := ⟨h.blk, h.own⟩
theorem IsWk.ne {base W g : Nat} {n0 n1 at_ : Int} {v : Value} {out : List (Int × Int)} {w : World} (h : IsWk base w W g n0 n1 at_ v out) : v.ownBlock ≠ some W := fun e => by
 obtain ⟨_, cs, fz, hk⟩ := own_block h.own e
 exact ne_of_types h.blk hk (by decide) rfl
set_option maxHeartbeats 1000000 in
theorem tell_first (base W g : Nat) (n0 n1 at_ : Int) (ao : Option Addr) (L cp : Nat) (out : List (Int × Int)) (a : Int × Int) (w : World) (h : IsWk base w W g n0 n1 at_ (.slice ao L cp) out) (hb : base ≤ w.heap.size) (hL : L = 0) (hx : out = []) :
  Calls Tryz.prog 242 #[.pointer (some ⟨W, 0, none⟩), .agg #[.int .i64 a.1, .int .i64 a.2]] w fun e w' => e = .returned (.tuple #[]) ∧ ∃ v', IsWk base w' W g n0 n1 at_ v' (out ++ [a]) ∧ Upd (fun k => k = W ∨ (Value.slice ao L cp).ownBlock = some k) w w' ∧ Moved w (.slice ao L cp) v' := by
 obtain ⟨i0, hi, hz0, hz1, hz2⟩ := info_parts Tryz.info36
 obtain ⟨a1, a2⟩ := a
 have h1 := h.alloc (.cells #[.int .i64 a1, .int .i64 a2] 36)
 have u1 : Upd (fun _ => False) w (w.alloc (.cells #[.int .i64 a1, .int .i64 a2] 36)) := (Upd.refl _ w).alloc _
 have X1 : (w.alloc (.cells #[.int .i64 a1, .int .i64 a2] 36)).heap[w.heap.size]? = some (.cells #[.int .i64 a1, .int .i64 a2] 36 (0, 0)) := heap_alloc_new _ _
 have HL : Hid (out.length = L) := by rw [hx, hL]; rfl
 have hl : IntKind.i64.wrap ((L : Int) - 1) = -1 := by rw [hL]; rfl
 have hl2 : (L : Int) - 1 = -1 := by rw [hL]; rfl
 have hL0 : L ≤ 0 := by omega
 have c4 : (w.alloc (.cells #[.int .i64 a1, .int .i64 a2] 36)).cell? ⟨W, 4, none⟩ = some (.slice ao L cp) := blk_cell h1.blk 4 rfl
 have f4 := blk_free h1.blk 4
 clear hx hL
 go_enter Tryz.func242, Tryz.ntmps242
 go_wp2
 go_quiet (fail)
 go_wp2
 obtain ⟨w2, hw2⟩ : ∃ W2, (w.alloc (.cells #[.int .i64 a1, .int .i64 a2] 36)).drewN nq = W2 := ⟨_, rfl⟩
 have h2 : IsWk base w2 W g n0 n1 at_ (.slice ao L cp) out := hw2 ▸ h1.drewN nq
 have X2 : w2.heap[w.heap.size]? = some (.cells #[.int .i64 a1, .int .i64 a2] 36 (0, 0)) := hw2 ▸ X1
 have u2 : Upd (fun _ => False) w w2 := hw2 ▸ u1.drewN nq
 have HZ : Hid (w2.heap.size = w.heap.size + 1) := by show _ = _; rw [← hw2]; simp
 rw [hw2]
 clear hw2 c4 f4 h1 u1 X1
 have hne := h2.ne
 have hLn : out.length = L := HL.out
 have o2 : w2.ownsRow base 36 2 (.slice ao L cp) L (out.flatMap ivC) := by have := h2.own; unfold OwnI at this; rw [hLn] at this; exact this
 have ba : ((w2.alloc (.cells #[.int .i64 a1, .int .i64 a2] 36)).drew).heap[W]? = _ := (Below.heap_alloc w2 (.cells #[.int .i64 a1, .int .i64 a2] 36) _ (lt_of_block h2.blk)).trans h2.blk
 have xa : ((w2.alloc (.cells #[.int .i64 a1, .int .i64 a2] 36)).drew).heap[w.heap.size]? = _ := (Below.heap_alloc w2 (.cells #[.int .i64 a1, .int .i64 a2] 36) _ (lt_of_block X2)).trans X2
 have hc3 : L + 1 ≤ maxLen := by unfold maxLen; omega
 have hc4 : (L + 1) * 16 ≤ 140737488355328 := by omega
 have hc5 : base ≤ ((w2.alloc (.cells #[.int .i64 a1, .int .i64 a2] 36)).drew).heap.size := by show base ≤ (w2.alloc (.cells #[.int .i64 a1, .int .i64 a2] 36)).heap.size; have := u2.size; simp; omega
 have hc6 : ∀ j u, ([.int .i64 a1, .int .i64 a2] : List Value)[j]? = some u → ((w2.alloc (.cells #[.int .i64 a1, .int .i64 a2] 36)).drew).cell? ((⟨w2.heap.size, 0, none⟩ : Addr).add j) = some u := World.news_of_block (cs := #[.int .i64 a1, .int .i64 a2]) (t := 36) (fr := (0, 0)) (heap_alloc_new w2 _)
 have hapX : (Value.slice ao L cp).ownBlock ≠ some w.heap.size := fun e => by
  obtain ⟨_, cs, fz, hk⟩ := own_block h.own e
  have := lt_of_block hk
  omega
 have fin : ∀ gg cap w3, w3.ownsRow base 36 2 (.slice (some ⟨gg, 0, none⟩) (L + 1) cap) (L + 1) (out.flatMap ivC ++ [.int .i64 a1, .int .i64 a2]) → ((w2.alloc (.cells #[.int .i64 a1, .int .i64 a2] 36)).drew).grownBy w3 (Value.slice ao L cp).ownBlock → ((Value.slice ao L cp).ownBlock = some gg ∨ gg = w2.heap.size + 1) →
   ∃ v', IsWk base (w3.setCell ⟨W, 4, none⟩ (.slice (some ⟨gg, 0, none⟩) (L + 1) cap)) W g n0 n1 at_ v' (out ++ [(a1, a2)]) ∧ Upd (fun k => k = W ∨ (Value.slice ao L cp).ownBlock = some k) w (w3.setCell ⟨W, 4, none⟩ (.slice (some ⟨gg, 0, none⟩) (L + 1) cap)) ∧ Moved w (.slice ao L cp) v' := by
  intro gg cap w3 o3 g3 at3
  have z2 : w2.heap.size = w.heap.size + 1 := HZ.out
  have B3 := (g3.block W (lt_of_block ba) (fun e => hne e.symm)).trans ba
  have u3 : Upd (fun k => k = W ∨ (Value.slice ao L cp).ownBlock = some k) w w3 := (((u2.mono (fun _ _ e => e.elim)).alloc (.cells #[.int .i64 a1, .int .i64 a2] 36)).drew).grown g3 (fun k _ e => Or.inr e)
  have hne3 : (Value.slice (some ⟨gg, 0, none⟩) (L + 1) cap).ownBlock ≠ some W := by
   intro e
   simp [Value.ownBlock] at e
   rcases at3 with h | h
   ·exact hne (by rw [h, e])
   ·have := lt_of_block h2.blk; omega
  refine ⟨.slice (some ⟨gg, 0, none⟩) (L + 1) cap, ⟨?_, ?_⟩, Upd.setCell (p := ⟨W, 4, none⟩) u3 (fun _ => Or.inl rfl) _, ?_⟩
  ·rw [set_block B3 4]; rfl
  ·have := ownsRow_upd (S := fun k => k = W) o3 (upd_one w3 W 4 (.slice (some ⟨gg, 0, none⟩) (L + 1) cap)) (fun k hk e => hne3 (by rw [hk, e]))
   unfold OwnI
   rw [List.length_append, List.flatMap_append, hLn]
   exact this
  ·rcases at3 with h | h
   ·exact Or.inl (by rw [h]; simp [Value.ownBlock])
   ·exact Or.inr ⟨gg, by simp [Value.ownBlock], by omega⟩
 have c20 : w2.cell? ⟨W, 4, none⟩ = some (.slice ao L cp) := blk_cell h2.blk 4 rfl
 have x20 := blk_cell X2 0 rfl
 have x21 := blk_cell X2 1 rfl
 have ca0 : (w2.alloc (.cells #[.int .i64 a1, .int .i64 a2] 36)).cell? ⟨W, 4, none⟩ = some (.slice ao L cp) := blk_cell ba 4 rfl
 have xa0 : (w2.alloc (.cells #[.int .i64 a1, .int .i64 a2] 36)).cell? ⟨w.heap.size, 0, none⟩ = some (.int .i64 a1) := blk_cell xa 0 rfl
 have xa1 : (w2.alloc (.cells #[.int .i64 a1, .int .i64 a2] 36)).cell? ⟨w.heap.size, 1, none⟩ = some (.int .i64 a2) := blk_cell xa 1 rfl
 go_region_law ((refine step_append_lies _ (by rfl) _ _ _ (by rfl) base 36 i0 _ 2 16 Tryz.underlying60 hi hz0 hz1 hz2 rfl (by omega) (.slice ao L cp) L (out.flatMap ivC) (by rfl) ((o2.alloc _).drew) ⟨w2.heap.size, 0, none⟩ 1 1 [.int .i64 a1, .int .i64 a2] (by rfl) (by rfl) hc6 (by simp [Value.oneCell']) (by omega) hc3 hc4 hc5 (w2.heap.size + 1) (by simp) ?_; intro gg cap w3 o3 g3 at3 lt3; have B3 := (g3.block W (lt_of_block ba) (fun e => hne e.symm)).trans ba; have c3 := blk_cell B3 4 rfl; have f3 := blk_free B3 4; have X3 := (g3.block w.heap.size (lt_of_block xa) (fun e => hapX e.symm)).trans xa; have e30 := blk_cell X3 0 rfl; have e31 := blk_cell X3 1 rfl))
 all_goals go_wp2
 all_goals go_returns
 all_goals exact ⟨rfl, fin _ _ _ o3 g3 at3⟩
theorem own_free {base : Nat} {w : World} {e : TypeId} {size : Nat} {v : Value} {n : Nat} {xs : List Value} (h : w.ownsRow base e size v n xs) {k : Nat} (hk : v.ownBlock = some k) (j : Nat) : w.frozen? ⟨k, j, none⟩ = false := by
 rcases h.2 with ⟨rfl, _⟩ | ⟨g, cap, cur, rfl, hg, hh, _⟩
 ·simp [Value.ownBlock] at hk
 ·simp [Value.ownBlock] at hk; subst hk; exact blk_free hh j
theorem wrap_i64_in (v : Int) (h0 : -9223372036854775808 ≤ v) (h1 : v ≤ 9223372036854775807) : IntKind.i64.wrap v = v := by
 rw [IntKind.wrap_i64]; omega
set_option maxHeartbeats 1000000 in
theorem tell_next (base W g : Nat) (n0 n1 at_ : Int) (ao : Option Addr) (L cp k : Nat) (out pre : List (Int × Int)) (x a : Int × Int) (w : World) (h : IsWk base w W g n0 n1 at_ (.slice ao L cp) out) (hb : base ≤ w.heap.size) (hn : L ≤ 1099511627776) (hpk : pre.length = k) (hx : out = pre ++ [x]) (hxa : x.2 ≠ a.1) :
  Calls Tryz.prog 242 #[.pointer (some ⟨W, 0, none⟩), .agg #[.int .i64 a.1, .int .i64 a.2]] w fun e w' => e = .returned (.tuple #[]) ∧ ∃ v', IsWk base w' W g n0 n1 at_ v' (out ++ [a]) ∧ Upd (fun k => k = W ∨ (Value.slice ao L cp).ownBlock = some k) w w' ∧ Moved w (.slice ao L cp) v' := by
 obtain ⟨i0, hi, hz0, hz1, hz2⟩ := info_parts Tryz.info36
 obtain ⟨a1, a2⟩ := a
 have h1 := h.alloc (.cells #[.int .i64 a1, .int .i64 a2] 36)
 have u1 : Upd (fun _ => False) w (w.alloc (.cells #[.int .i64 a1, .int .i64 a2] 36)) := (Upd.refl _ w).alloc _
 have X1 : (w.alloc (.cells #[.int .i64 a1, .int .i64 a2] 36)).heap[w.heap.size]? = some (.cells #[.int .i64 a1, .int .i64 a2] 36 (0, 0)) := heap_alloc_new _ _
 obtain ⟨x1, x2⟩ := x
 have hLk : L = k + 1 := by have := own_cap h.own; rw [hx] at this; simp at this; omega
 obtain ⟨gB, cap', ev, _, _, hbg, hcells⟩ := own_some h.own (by rw [hx]; simp)
 simp at ev
 obtain ⟨rfl, ev1, ev2⟩ := ev
 clear ev1 ev2
 have HL : Hid (out.length = L) := by have := own_cap h.own; exact this.1.symm
 have hl : IntKind.i64.wrap ((L : Int) - 1) = (k : Int) := by rw [wrap_i64_in _ (by omega) (by omega)]; omega
 have hk0 : (0 : Int) ≤ (k : Int) := by omega
 have hk0' : decide ((0 : Int) ≤ (k : Int)) = true := decide_eq_true hk0
 have hkL : (k : Int) < (L : Int) := by omega
 have hkL' : k < L := by omega
 have hat := ivC_at out k (by rw [hx]; simp; omega)
 have hxk : out[k]'(by rw [hx]; simp; omega) = (x1, x2) := by simp [hx, ← hpk]
 rw [hxk] at hat
 have g1 : (w.alloc (.cells #[.int .i64 a1, .int .i64 a2] 36)).cell? ⟨gB, k * 2 + 1, none⟩ = some (.int .i64 x2) := by
  have := hcells _ _ hat.2
  exact cell_upd u1 this (fun h => h)
 have c4 : (w.alloc (.cells #[.int .i64 a1, .int .i64 a2] 36)).cell? ⟨W, 4, none⟩ = some (.slice (some ⟨gB, 0, none⟩) L cp) := blk_cell h1.blk 4 rfl
 have f4 := blk_free h1.blk 4
 have q1 : (x2 == a1) = false := beq_eq_false_iff_ne.mpr hxa
 have q2 : decide (x2 = a1) = false := decide_eq_false hxa
 have q3 : ¬ x2 = a1 := hxa
 clear hx hLk hat hxk hpk hxa hcells
 go_enter Tryz.func242, Tryz.ntmps242
 go_wp2
 go_quiet (fail)
 go_wp2
 obtain ⟨w2, hw2⟩ : ∃ W2, (w.alloc (.cells #[.int .i64 a1, .int .i64 a2] 36)).drewN nq = W2 := ⟨_, rfl⟩
 have h2 : IsWk base w2 W g n0 n1 at_ (.slice (some ⟨gB, 0, none⟩) L cp) out := hw2 ▸ h1.drewN nq
 have X2 : w2.heap[w.heap.size]? = some (.cells #[.int .i64 a1, .int .i64 a2] 36 (0, 0)) := hw2 ▸ X1
 have u2 : Upd (fun _ => False) w w2 := hw2 ▸ u1.drewN nq
 have HZ : Hid (w2.heap.size = w.heap.size + 1) := by show _ = _; rw [← hw2]; simp
 rw [hw2]
 clear hw2 c4 f4 h1 u1 X1
 have hne := h2.ne
 have hLn : out.length = L := HL.out
 have o2 : w2.ownsRow base 36 2 (.slice (some ⟨gB, 0, none⟩) L cp) L (out.flatMap ivC) := by have := h2.own; unfold OwnI at this; rw [hLn] at this; exact this
 have ba : ((w2.alloc (.cells #[.int .i64 a1, .int .i64 a2] 36)).drew).heap[W]? = _ := (Below.heap_alloc w2 (.cells #[.int .i64 a1, .int .i64 a2] 36) _ (lt_of_block h2.blk)).trans h2.blk
 have xa : ((w2.alloc (.cells #[.int .i64 a1, .int .i64 a2] 36)).drew).heap[w.heap.size]? = _ := (Below.heap_alloc w2 (.cells #[.int .i64 a1, .int .i64 a2] 36) _ (lt_of_block X2)).trans X2
 have hc3 : L + 1 ≤ maxLen := by unfold maxLen; omega
 have hc4 : (L + 1) * 16 ≤ 140737488355328 := by omega
 have hc5 : base ≤ ((w2.alloc (.cells #[.int .i64 a1, .int .i64 a2] 36)).drew).heap.size := by show base ≤ (w2.alloc (.cells #[.int .i64 a1, .int .i64 a2] 36)).heap.size; have := u2.size; simp; omega
 have hc6 : ∀ j u, ([.int .i64 a1, .int .i64 a2] : List Value)[j]? = some u → ((w2.alloc (.cells #[.int .i64 a1, .int .i64 a2] 36)).drew).cell? ((⟨w2.heap.size, 0, none⟩ : Addr).add j) = some u := World.news_of_block (cs := #[.int .i64 a1, .int .i64 a2]) (t := 36) (fr := (0, 0)) (heap_alloc_new w2 _)
 have hapX : (Value.slice (some ⟨gB, 0, none⟩) L cp).ownBlock ≠ some w.heap.size := fun e => by
  obtain ⟨_, cs, fz, hk⟩ := own_block h.own e
  have := lt_of_block hk
  omega
 have fin : ∀ gg cap w3, w3.ownsRow base 36 2 (.slice (some ⟨gg, 0, none⟩) (L + 1) cap) (L + 1) (out.flatMap ivC ++ [.int .i64 a1, .int .i64 a2]) → ((w2.alloc (.cells #[.int .i64 a1, .int .i64 a2] 36)).drew).grownBy w3 (Value.slice (some ⟨gB, 0, none⟩) L cp).ownBlock → ((Value.slice (some ⟨gB, 0, none⟩) L cp).ownBlock = some gg ∨ gg = w2.heap.size + 1) →
   ∃ v', IsWk base (w3.setCell ⟨W, 4, none⟩ (.slice (some ⟨gg, 0, none⟩) (L + 1) cap)) W g n0 n1 at_ v' (out ++ [(a1, a2)]) ∧ Upd (fun k => k = W ∨ (Value.slice (some ⟨gB, 0, none⟩) L cp).ownBlock = some k) w (w3.setCell ⟨W, 4, none⟩ (.slice (some ⟨gg, 0, none⟩) (L + 1) cap)) ∧ Moved w (.slice (some ⟨gB, 0, none⟩) L cp) v' := by
  intro gg cap w3 o3 g3 at3
  have z2 : w2.heap.size = w.heap.size + 1 := HZ.out
  have B3 := (g3.block W (lt_of_block ba) (fun e => hne e.symm)).trans ba
  have u3 : Upd (fun k => k = W ∨ (Value.slice (some ⟨gB, 0, none⟩) L cp).ownBlock = some k) w w3 := (((u2.mono (fun _ _ e => e.elim)).alloc (.cells #[.int .i64 a1, .int .i64 a2] 36)).drew).grown g3 (fun k _ e => Or.inr e)
  have hne3 : (Value.slice (some ⟨gg, 0, none⟩) (L + 1) cap).ownBlock ≠ some W := by
   intro e
   simp [Value.ownBlock] at e
   rcases at3 with h | h
   ·exact hne (by rw [h, e])
   ·have := lt_of_block h2.blk; omega
  refine ⟨.slice (some ⟨gg, 0, none⟩) (L + 1) cap, ⟨?_, ?_⟩, Upd.setCell (p := ⟨W, 4, none⟩) u3 (fun _ => Or.inl rfl) _, ?_⟩
  ·rw [set_block B3 4]; rfl
  ·have := ownsRow_upd (S := fun k => k = W) o3 (upd_one w3 W 4 (.slice (some ⟨gg, 0, none⟩) (L + 1) cap)) (fun k hk e => hne3 (by rw [hk, e]))
   unfold OwnI
   rw [List.length_append, List.flatMap_append, hLn]
   exact this
  ·rcases at3 with h | h
   ·exact Or.inl (by rw [h]; simp [Value.ownBlock])
   ·exact Or.inr ⟨gg, by simp [Value.ownBlock], by omega⟩
 have c20 : w2.cell? ⟨W, 4, none⟩ = some (.slice (some ⟨gB, 0, none⟩) L cp) := blk_cell h2.blk 4 rfl
 have x20 := blk_cell X2 0 rfl
 have x21 := blk_cell X2 1 rfl
 have ca0 : (w2.alloc (.cells #[.int .i64 a1, .int .i64 a2] 36)).cell? ⟨W, 4, none⟩ = some (.slice (some ⟨gB, 0, none⟩) L cp) := blk_cell ba 4 rfl
 have xa0 : (w2.alloc (.cells #[.int .i64 a1, .int .i64 a2] 36)).cell? ⟨w.heap.size, 0, none⟩ = some (.int .i64 a1) := blk_cell xa 0 rfl
 have xa1 : (w2.alloc (.cells #[.int .i64 a1, .int .i64 a2] 36)).cell? ⟨w.heap.size, 1, none⟩ = some (.int .i64 a2) := blk_cell xa 1 rfl
 go_region_law ((refine step_append_lies _ (by rfl) _ _ _ (by rfl) base 36 i0 _ 2 16 Tryz.underlying60 hi hz0 hz1 hz2 rfl (by omega) (.slice (some ⟨gB, 0, none⟩) L cp) L (out.flatMap ivC) (by rfl) ((o2.alloc _).drew) ⟨w2.heap.size, 0, none⟩ 1 1 [.int .i64 a1, .int .i64 a2] (by rfl) (by rfl) hc6 (by simp [Value.oneCell']) (by omega) hc3 hc4 hc5 (w2.heap.size + 1) (by simp) ?_; intro gg cap w3 o3 g3 at3 lt3; have B3 := (g3.block W (lt_of_block ba) (fun e => hne e.symm)).trans ba; have c3 := blk_cell B3 4 rfl; have f3 := blk_free B3 4; have X3 := (g3.block w.heap.size (lt_of_block xa) (fun e => hapX e.symm)).trans xa; have e30 := blk_cell X3 0 rfl; have e31 := blk_cell X3 1 rfl))
 all_goals go_wp2
 all_goals go_returns
 all_goals exact ⟨rfl, fin _ _ _ o3 g3 at3⟩
theorem flat_set (pre : List (Int × Int)) (x1 x2 y : Int) : ((pre ++ [(x1, x2)]).flatMap ivC).set (pre.length * 2 + 1) (.int .i64 y) = (pre ++ [(x1, y)]).flatMap ivC := by
 rw [List.flatMap_append, List.flatMap_append]
 have := ivC_len pre
 rw [List.set_append_right _ _ (by omega), this, show pre.length * 2 + 1 - pre.length * 2 = 1 by omega]
 rfl
set_option maxHeartbeats 1000000 in
theorem tell_same (base W g : Nat) (n0 n1 at_ : Int) (ao : Option Addr) (L cp k : Nat) (out pre : List (Int × Int)) (x a : Int × Int) (w : World) (h : IsWk base w W g n0 n1 at_ (.slice ao L cp) out) (_hb : base ≤ w.heap.size) (hn : L ≤ 1099511627776) (hpk : pre.length = k) (hx : out = pre ++ [x]) (hxa : x.2 = a.1) :
  Calls Tryz.prog 242 #[.pointer (some ⟨W, 0, none⟩), .agg #[.int .i64 a.1, .int .i64 a.2]] w fun e w' => e = .returned (.tuple #[]) ∧ ∃ v', IsWk base w' W g n0 n1 at_ v' (pre ++ [(x.1, a.2)]) ∧ Upd (fun k => k = W ∨ (Value.slice ao L cp).ownBlock = some k) w w' ∧ Moved w (.slice ao L cp) v' := by
 obtain ⟨i0, hi, hz0, hz1, hz2⟩ := info_parts Tryz.info36
 obtain ⟨a1, a2⟩ := a
 have h1 := h.alloc (.cells #[.int .i64 a1, .int .i64 a2] 36)
 have u1 : Upd (fun _ => False) w (w.alloc (.cells #[.int .i64 a1, .int .i64 a2] 36)) := (Upd.refl _ w).alloc _
 have X1 : (w.alloc (.cells #[.int .i64 a1, .int .i64 a2] 36)).heap[w.heap.size]? = some (.cells #[.int .i64 a1, .int .i64 a2] 36 (0, 0)) := heap_alloc_new _ _
 obtain ⟨x1, x2⟩ := x
 have hLk : L = k + 1 := by have := own_cap h.own; rw [hx] at this; simp at this; omega
 obtain ⟨gB, cap', ev, _, _, hbg, hcells⟩ := own_some h.own (by rw [hx]; simp)
 simp at ev
 obtain ⟨rfl, ev1, ev2⟩ := ev
 clear ev1 ev2
 have HL : Hid (out.length = L) := by have := own_cap h.own; exact this.1.symm
 have hl : IntKind.i64.wrap ((L : Int) - 1) = (k : Int) := by rw [wrap_i64_in _ (by omega) (by omega)]; omega
 have hk0 : (0 : Int) ≤ (k : Int) := by omega
 have hk0' : decide ((0 : Int) ≤ (k : Int)) = true := decide_eq_true hk0
 have hkL : (k : Int) < (L : Int) := by omega
 have hkL' : k < L := by omega
 have hat := ivC_at out k (by rw [hx]; simp; omega)
 have hxk : out[k]'(by rw [hx]; simp; omega) = (x1, x2) := by simp [hx, ← hpk]
 rw [hxk] at hat
 have g1 : (w.alloc (.cells #[.int .i64 a1, .int .i64 a2] 36)).cell? ⟨gB, k * 2 + 1, none⟩ = some (.int .i64 x2) := by
  have := hcells _ _ hat.2
  exact cell_upd u1 this (fun h => h)
 have c4 : (w.alloc (.cells #[.int .i64 a1, .int .i64 a2] 36)).cell? ⟨W, 4, none⟩ = some (.slice (some ⟨gB, 0, none⟩) L cp) := blk_cell h1.blk 4 rfl
 have f4 := blk_free h1.blk 4
 have q1 : (x2 == a1) = true := beq_iff_eq.mpr hxa
 have q2 : decide (x2 = a1) = true := decide_eq_true hxa
 have fg : (w.alloc (.cells #[.int .i64 a1, .int .i64 a2] 36)).frozen? ⟨gB, k * 2 + 1, none⟩ = false := by
  obtain ⟨_, cs, fz, hk⟩ := own_block h1.own (k := gB) rfl
  exact own_free h1.own rfl _
 have HX : Hid (out = pre ++ [(x1, x2)]) := hx
 have HK : Hid (pre.length = k) := hpk
 have hne := h1.ne
 have hneW : gB ≠ W := fun e => hne (by rw [e]; rfl)
 clear hx hLk hat hxk hpk hxa hcells
 go_enter Tryz.func242, Tryz.ntmps242
 go_wp2
 go_quiet (fail)
 go_wp2
 obtain ⟨w2, hw2⟩ : ∃ W2, (w.alloc (.cells #[.int .i64 a1, .int .i64 a2] 36)).drewN nq = W2 := ⟨_, rfl⟩
 have h2 : IsWk base w2 W g n0 n1 at_ (.slice (some ⟨gB, 0, none⟩) L cp) out := hw2 ▸ h1.drewN nq
 have X2 : w2.heap[w.heap.size]? = some (.cells #[.int .i64 a1, .int .i64 a2] 36 (0, 0)) := hw2 ▸ X1
 have u2 : Upd (fun _ => False) w w2 := hw2 ▸ u1.drewN nq
 have g2 : w2.cell? ⟨gB, k * 2 + 1, none⟩ = some (.int .i64 x2) := by rw [← hw2]; exact g1
 have fg2 : w2.frozen? ⟨gB, k * 2 + 1, none⟩ = false := by rw [← hw2]; exact fg
 rw [hw2]
 clear hw2 c4 f4 h1 u1 X1 g1 fg
 have c2 : w2.cell? ⟨W, 4, none⟩ = some (.slice (some ⟨gB, 0, none⟩) L cp) := blk_cell h2.blk 4 rfl
 have x20 : w2.cell? ⟨w.heap.size, 0, none⟩ = some (.int .i64 a1) := blk_cell X2 0 rfl
 have x21 : w2.cell? ⟨w.heap.size, 1, none⟩ = some (.int .i64 a2) := blk_cell X2 1 rfl
 have us := upd_one w2 gB (k * 2 + 1) (.int .i64 a2)
 have hgX : gB ≠ w.heap.size := fun e => by
  obtain ⟨_, cs, fz, hk⟩ := own_block h.own (k := gB) rfl
  have := lt_of_block hk
  omega
 have c3 : (w2.setCell ⟨gB, k * 2 + 1, none⟩ (.int .i64 a2)).cell? ⟨W, 4, none⟩ = some (.slice (some ⟨gB, 0, none⟩) L cp) := cell_upd us c2 (fun e => hneW e.symm)
 have x30 : (w2.setCell ⟨gB, k * 2 + 1, none⟩ (.int .i64 a2)).cell? ⟨w.heap.size, 0, none⟩ = some (.int .i64 a1) := cell_upd us x20 (fun e => hgX e.symm)
 have x31 : (w2.setCell ⟨gB, k * 2 + 1, none⟩ (.int .i64 a2)).cell? ⟨w.heap.size, 1, none⟩ = some (.int .i64 a2) := cell_upd us x21 (fun e => hgX e.symm)
 go_region_held3 (fun w' => w'.cell? ⟨W, 4, none⟩ = some (.slice (some ⟨gB, 0, none⟩) L cp) ∧ w'.cell? ⟨w.heap.size, 1, none⟩ = some (.int .i64 a2)) (first | exact ⟨c2, x21⟩ | exact ⟨c3, x31⟩) (first | fail)
 go_wp2
 go_returns
 have hL : out.length = L := HL.out
 have hpk : pre.length = k := HK.out
 have hx : out = pre ++ [(x1, x2)] := HX.out
 refine ⟨rfl, .slice (some ⟨gB, 0, none⟩) L cp, ⟨?_, ?_⟩, ?_, Moved.refl _ _⟩
 ·exact (us.block W (lt_of_block h2.blk) (fun e => hneW e.symm)).trans h2.blk
 ·have := h2.own
  unfold OwnI at this ⊢
  rw [hL] at this
  have := ownsRow_set this (k * 2 + 1) (.int .i64 a2)
  rw [hx, ← hpk, flat_set] at this
  rw [show (pre ++ [(x1, a2)]).length = L by rw [← hL, hx]; simp, ← hpk]
  exact this
 ·exact (u2.mono (fun _ _ e => e.elim)).trans (S' := fun k => k = gB) us.drew (fun k _ e => Or.inr (by rw [e]; rfl))
theorem tell_any (base W g : Nat) (n0 n1 at_ : Int) (v : Value) (out : List (Int × Int)) (a : Int × Int) (w : World) (h : IsWk base w W g n0 n1 at_ v out) (hb : base ≤ w.heap.size) (hn : out.length ≤ 1099511627776) :
  Calls Tryz.prog 242 #[.pointer (some ⟨W, 0, none⟩), .agg #[.int .i64 a.1, .int .i64 a.2]] w fun e w' => e = .returned (.tuple #[]) ∧ ∃ v', IsWk base w' W g n0 n1 at_ v' (tellL out a) ∧ Upd (fun k => k = W ∨ (v).ownBlock = some k) w w' ∧ Moved w (v) v' := by
 obtain ⟨ao, L, cp, rfl⟩ := row_shape h.own
 obtain ⟨hL, _, _⟩ := own_cap h.own
 rcases List.eq_nil_or_concat out with hx | ⟨pre, x, hx⟩
 ·have := tell_first base W g n0 n1 at_ ao L cp out a w h hb (by rw [hL, hx]; rfl) hx
  rw [hx] at this ⊢
  exact this
 ·rw [List.concat_eq_append] at hx
  have ht : tellL out a = if x.2 = a.1 then pre ++ [(x.1, a.2)] else out ++ [a] := by
   unfold tellL
   rw [hx, List.getLast?_concat, List.dropLast_concat]
  rw [ht]
  by_cases hc : x.2 = a.1
  ·rw [if_pos hc]
   exact tell_same base W g n0 n1 at_ ao L cp pre.length out pre x a w h hb (by omega) rfl hx hc
  ·rw [if_neg hc]
   exact tell_next base W g n0 n1 at_ ao L cp pre.length out pre x a w h hb (by omega) rfl hx hc
end Go.Proofs.YtnffedmcblbkoaaGreatDoor.iv
namespace Go.Proofs.YtnffedmcblbkoaaGreatDoor.iv
open Go.Shelf Go.RowKit
set_option maxRecDepth 100000
structure Wants (g : Nat) (want : Bool → Bool → Bool) : Prop where
 calls : ∀ x y w, Calls Tryz.prog g #[.bool x, .bool y] w fun e w' => e = .returned (.bool (want x y)) ∧ w' = w
 enters : ∀ args w, (callFunc g args).run Tryz.prog w = .ok (.enter g args) w
theorem IsWk.setAt {base W g : Nat} {n0 n1 at_ : Int} {v : Value} {out : List (Int × Int)} {w : World} (h : IsWk base w W g n0 n1 at_ v out) (t : Int) : IsWk base (w.setCell ⟨W, 3, none⟩ (.int .i64 t)) W g n0 n1 t v out := by
 refine ⟨?_, ownsRow_upd h.own (upd_one w W 3 (.int .i64 t)) (fun k hk e => h.ne (by rw [hk, e]))⟩
 rw [set_block h.blk 3]; rfl
def CloseP (base W g : Nat) (n0 n1 t : Int) (v : Value) (out : List (Int × Int)) (w : World) (e : Ending) (w' : World) : Prop :=
 e = .returned (.tuple #[]) ∧ ∃ v', IsWk base w' W g n0 n1 t v' out ∧ Upd (fun k => k = W ∨ v.ownBlock = some k) w w' ∧ Moved w v v'
set_option maxHeartbeats 1000000 in
theorem close_same (base W g : Nat) (n0 n1 t : Int) (v : Value) (out : List (Int × Int)) (w : World) (h : IsWk base w W g n0 n1 t v out) :
  Calls Tryz.prog 230 #[.pointer (some ⟨W, 0, none⟩), .int .i64 t] w (CloseP base W g n0 n1 t v out w) := by
 have c0 := blk_cell h.blk 0 rfl
 have c1 := blk_cell h.blk 1 rfl
 have c2 := blk_cell h.blk 2 rfl
 have c3 : w.cell? ⟨W, 3, none⟩ = some (.int .i64 t) := blk_cell h.blk 3 rfl
 have f3 := blk_free h.blk 3
 have q4 : (t != t) = false := by simp
 unfold CloseP
 go_enter Tryz.func230, Tryz.ntmps230
 go_wp2
 go_quiet (fail)
 go_wp2
 go_returns
 exact ⟨rfl, v, (h.drewN nq).setAt t, ((Upd.refl _ w).drewN nq).setCell (p := ⟨W, 3, none⟩) (fun _ => Or.inl rfl) _, Moved.refl _ _⟩
set_option maxHeartbeats 1000000 in
theorem close_no (base W g : Nat) (want : Bool → Bool → Bool) (n0 n1 at_ t : Int) (v : Value) (out : List (Int × Int)) (w : World) (h : IsWk base w W g n0 n1 at_ v out) (hg : Wants g want) (hx : at_ ≠ t) (hy : want (decide (0 < n0)) (decide (0 < n1)) = false) :
  Calls Tryz.prog 230 #[.pointer (some ⟨W, 0, none⟩), .int .i64 t] w (CloseP base W g n0 n1 t v out w) := by
 have C := fun m => hg.calls (decide (0 < n0)) (decide (0 < n1)) (w.drewN m)
 have eg := hg.enters
 rw [hy] at C
 have c0 := blk_cell h.blk 0 rfl
 have c1 := blk_cell h.blk 1 rfl
 have c2 := blk_cell h.blk 2 rfl
 have c3 : w.cell? ⟨W, 3, none⟩ = some (.int .i64 at_) := blk_cell h.blk 3 rfl
 have f3 := blk_free h.blk 3
 have q1 : (at_ == t) = false := beq_eq_false_iff_ne.mpr hx
 have q4 : (at_ != t) = true := by simp [hx]
 unfold CloseP
 go_enter Tryz.func230, Tryz.ntmps230
 go_wp2
 go_quiet (first | (go_at_fn g; refine Calls.quiet_of_same (C _)))
 go_wp2
 go_returns
 exact ⟨rfl, v, (h.drewN nq).setAt t, ((Upd.refl _ w).drewN nq).setCell (p := ⟨W, 3, none⟩) (fun _ => Or.inl rfl) _, Moved.refl _ _⟩
set_option maxHeartbeats 1000000 in
theorem close_yes (base W g : Nat) (want : Bool → Bool → Bool) (n0 n1 at_ t : Int) (v : Value) (out : List (Int × Int)) (w : World) (h : IsWk base w W g n0 n1 at_ v out) (hg : Wants g want) (hb : base ≤ w.heap.size) (hn : out.length ≤ 1099511627776) (hx : at_ ≠ t) (hy : want (decide (0 < n0)) (decide (0 < n1)) = true) :
  Calls Tryz.prog 230 #[.pointer (some ⟨W, 0, none⟩), .int .i64 t] w (CloseP base W g n0 n1 t v (tellL out (at_, t)) w) := by
 have C := fun m => hg.calls (decide (0 < n0)) (decide (0 < n1)) (w.drewN m)
 have eg := hg.enters
 rw [hy] at C
 have c0 := blk_cell h.blk 0 rfl
 have c1 := blk_cell h.blk 1 rfl
 have c2 := blk_cell h.blk 2 rfl
 have c3 : w.cell? ⟨W, 3, none⟩ = some (.int .i64 at_) := blk_cell h.blk 3 rfl
 have f3 := blk_free h.blk 3
 have q1 : (at_ == t) = false := beq_eq_false_iff_ne.mpr hx
 have q4 : (at_ != t) = true := by simp [hx]
 have T := fun m => tell_any base W g n0 n1 at_ v out (at_, t) (w.drewN m) (h.drewN m) hb hn
 unfold CloseP
 go_enter Tryz.func230, Tryz.ntmps230
 go_wp2
 go_quiet (first | (go_at_fn g; refine Calls.quiet_of_same (C _)))
 have T1 := T nq
 clear T C
 go_wp2_with (go_at_call 242; refine T1.mono ?_; clear T1; rintro e w1 ⟨rfl, v1, h1, u1, m1⟩; have d3 : w1.cell? ⟨W, 3, none⟩ = some (.int .i64 at_) := blk_cell h1.blk 3 rfl; have fd3 := blk_free h1.blk 3)
 go_returns
 exact ⟨rfl, v1, h1.setAt t, (((Upd.refl _ w).drewN nq).trans u1 (fun _ _ h => h)).setCell (p := ⟨W, 3, none⟩) (fun _ => Or.inl rfl) _, m1⟩
theorem close_any (base W g : Nat) (want : Bool → Bool → Bool) (n0 n1 at_ t : Int) (v : Value) (out : List (Int × Int)) (w : World) (h : IsWk base w W g n0 n1 at_ v out) (hg : Wants g want) (hb : base ≤ w.heap.size) (hn : out.length ≤ 1099511627776) :
  Calls Tryz.prog 230 #[.pointer (some ⟨W, 0, none⟩), .int .i64 t] w (CloseP base W g n0 n1 t v (closeL want ⟨n0, n1, at_, out⟩ t) w) := by
 unfold closeL
 by_cases hx : at_ = t
 ·subst hx
  rw [if_neg (fun h => h.1 rfl)]
  exact close_same base W g n0 n1 at_ v out w h
 ·by_cases hy : want (decide (0 < n0)) (decide (0 < n1)) = true
  ·rw [if_pos ⟨hx, hy⟩]
   exact close_yes base W g want n0 n1 at_ t v out w h hg hb hn hx hy
  ·rw [if_neg (fun h => hy h.2)]
   exact close_no base W g want n0 n1 at_ t v out w h hg hx (by simpa using hy)
def PassP (base W g : Nat) (s : Wk) (v : Value) (w : World) (e : Ending) (w' : World) : Prop :=
 e = .returned (.tuple #[]) ∧ ∃ v', IsWk base w' W g s.n0 s.n1 s.at_ v' s.out ∧ Upd (fun k => k = W ∨ v.ownBlock = some k) w w' ∧ Moved w v v'
theorem IsWk.set1 {base W g : Nat} {n0 n1 at_ : Int} {v : Value} {out : List (Int × Int)} {w : World} (h : IsWk base w W g n0 n1 at_ v out) (t : Int) : IsWk base (w.setCell ⟨W, 1, none⟩ (.int .i64 t)) W g t n1 at_ v out := by
 refine ⟨?_, ownsRow_upd h.own (upd_one w W 1 (.int .i64 t)) (fun k hk e => h.ne (by rw [hk, e]))⟩
 rw [set_block h.blk 1]; rfl
theorem IsWk.set2 {base W g : Nat} {n0 n1 at_ : Int} {v : Value} {out : List (Int × Int)} {w : World} (h : IsWk base w W g n0 n1 at_ v out) (t : Int) : IsWk base (w.setCell ⟨W, 2, none⟩ (.int .i64 t)) W g n0 t at_ v out := by
 refine ⟨?_, ownsRow_upd h.own (upd_one w W 2 (.int .i64 t)) (fun k hk e => h.ne (by rw [hk, e]))⟩
 rw [set_block h.blk 2]; rfl
set_option maxHeartbeats 1000000 in
theorem pass_00 (base W g : Nat) (want : Bool → Bool → Bool) (n0 n1 at_ t : Int) (v : Value) (out : List (Int × Int)) (w : World) (h : IsWk base w W g n0 n1 at_ v out) (hg : Wants g want) (hb : base ≤ w.heap.size) (hn : out.length ≤ 1099511627776) (b0 : -1099511627776 ≤ n0) (b1 : n0 ≤ 1099511627776) :
  Calls Tryz.prog 198 #[.pointer (some ⟨W, 0, none⟩), .agg #[.int .i64 t, .int .i64 0, .int .i64 0]] w (PassP base W g (passL want ⟨n0, n1, at_, out⟩ (t, 0, 0)) v w) := by
 have wr : IntKind.i64.wrap (n0 + (1)) = n0 + (1) := wrap_i64_in _ (by omega) (by omega)
 have hp : passL want ⟨n0, n1, at_, out⟩ (t, 0, 0) = ⟨n0 + (1), n1, t, closeL want ⟨n0, n1, at_, out⟩ t⟩ := by
  unfold passL stepE; simp
 rw [hp]
 have h1 := h.alloc (.cells #[.int .i64 t, .int .i64 0, .int .i64 0] 279)
 have X1 : (w.alloc (.cells #[.int .i64 t, .int .i64 0, .int .i64 0] 279)).heap[w.heap.size]? = some (.cells #[.int .i64 t, .int .i64 0, .int .i64 0] 279 (0, 0)) := heap_alloc_new _ _
 have u1 : Upd (fun _ => False) w (w.alloc (.cells #[.int .i64 t, .int .i64 0, .int .i64 0] 279)) := (Upd.refl _ w).alloc _
 have T := close_any base W g want n0 n1 at_ t v out _ h1 hg (Nat.le_trans hb u1.size) hn
 have hW : W ≠ w.heap.size := fun e => by have := lt_of_block h.blk; omega
 have HV : Hid (∀ k, v.ownBlock = some k → k < w.heap.size) := fun k hk => by
  obtain ⟨_, cs, fz, hb⟩ := own_block h.own hk
  exact lt_of_block hb
 clear hp b0 b1 h hg
 unfold PassP
 unfold CloseP at T
 generalize closeL want ⟨n0, n1, at_, out⟩ t = out' at T ⊢
 go_enter Tryz.func198, Tryz.ntmps198
 go_wp2_with (go_at_call 230; refine T.mono ?_; clear T; rintro e w1 ⟨rfl, v1, h2, u2, m2⟩; have X2 := (u2.block _ (lt_of_block X1) (fun e => e.elim (fun e => hW e.symm) (fun e => by have := HV.out _ e; omega))).trans X1; have e0 := blk_cell X2 0 rfl; have e1 := blk_cell X2 1 rfl; have e2 := blk_cell X2 2 rfl; have d1 : w1.cell? ⟨W, 1, none⟩ = some (.int .i64 n0) := blk_cell h2.blk 1 rfl; have fd := blk_free h2.blk 1)
 have us := upd_one w1 W 1 (.int .i64 (n0 + (1)))
 have e3 : (w1.setCell ⟨W, 1, none⟩ (.int .i64 (n0 + (1)))).cell? ⟨w.heap.size, 2, none⟩ = some (.int .i64 0) := cell_upd us e2 (fun e => hW e.symm)
 go_region
 go_wp2
 go_returns
 have H := h2.set1 (n0 + (1))
 refine ⟨rfl, v1, ⟨H.blk, H.own⟩, ?_, ?_⟩
 ·exact ((u1.mono (fun _ _ e => e.elim)).trans u2 (fun _ _ h => h)).trans (S' := fun k => k = W) us.drew (fun _ _ e => Or.inl e)
 ·rcases m2 with h | ⟨k, h, h'⟩
  ·exact Or.inl h
  ·exact Or.inr ⟨k, h, Nat.le_trans u1.size h'⟩
set_option maxHeartbeats 1000000 in
theorem pass_01 (base W g : Nat) (want : Bool → Bool → Bool) (n0 n1 at_ t : Int) (v : Value) (out : List (Int × Int)) (w : World) (h : IsWk base w W g n0 n1 at_ v out) (hg : Wants g want) (hb : base ≤ w.heap.size) (hn : out.length ≤ 1099511627776) (b0 : -1099511627776 ≤ n1) (b1 : n1 ≤ 1099511627776) :
  Calls Tryz.prog 198 #[.pointer (some ⟨W, 0, none⟩), .agg #[.int .i64 t, .int .i64 0, .int .i64 1]] w (PassP base W g (passL want ⟨n0, n1, at_, out⟩ (t, 0, 1)) v w) := by
 have wr : IntKind.i64.wrap (n1 + (1)) = n1 + (1) := wrap_i64_in _ (by omega) (by omega)
 have hp : passL want ⟨n0, n1, at_, out⟩ (t, 0, 1) = ⟨n0, n1 + (1), t, closeL want ⟨n0, n1, at_, out⟩ t⟩ := by
  unfold passL stepE; simp
 rw [hp]
 have h1 := h.alloc (.cells #[.int .i64 t, .int .i64 0, .int .i64 1] 279)
 have X1 : (w.alloc (.cells #[.int .i64 t, .int .i64 0, .int .i64 1] 279)).heap[w.heap.size]? = some (.cells #[.int .i64 t, .int .i64 0, .int .i64 1] 279 (0, 0)) := heap_alloc_new _ _
 have u1 : Upd (fun _ => False) w (w.alloc (.cells #[.int .i64 t, .int .i64 0, .int .i64 1] 279)) := (Upd.refl _ w).alloc _
 have T := close_any base W g want n0 n1 at_ t v out _ h1 hg (Nat.le_trans hb u1.size) hn
 have hW : W ≠ w.heap.size := fun e => by have := lt_of_block h.blk; omega
 have HV : Hid (∀ k, v.ownBlock = some k → k < w.heap.size) := fun k hk => by
  obtain ⟨_, cs, fz, hb⟩ := own_block h.own hk
  exact lt_of_block hb
 clear hp b0 b1 h hg
 unfold PassP
 unfold CloseP at T
 generalize closeL want ⟨n0, n1, at_, out⟩ t = out' at T ⊢
 go_enter Tryz.func198, Tryz.ntmps198
 go_wp2_with (go_at_call 230; refine T.mono ?_; clear T; rintro e w1 ⟨rfl, v1, h2, u2, m2⟩; have X2 := (u2.block _ (lt_of_block X1) (fun e => e.elim (fun e => hW e.symm) (fun e => by have := HV.out _ e; omega))).trans X1; have e0 := blk_cell X2 0 rfl; have e1 := blk_cell X2 1 rfl; have e2 := blk_cell X2 2 rfl; have d2 : w1.cell? ⟨W, 2, none⟩ = some (.int .i64 n1) := blk_cell h2.blk 2 rfl; have fd := blk_free h2.blk 2)
 have us := upd_one w1 W 2 (.int .i64 (n1 + (1)))
 have e3 : (w1.setCell ⟨W, 2, none⟩ (.int .i64 (n1 + (1)))).cell? ⟨w.heap.size, 2, none⟩ = some (.int .i64 1) := cell_upd us e2 (fun e => hW e.symm)
 go_region
 go_wp2
 go_returns
 have H := h2.set2 (n1 + (1))
 refine ⟨rfl, v1, ⟨H.blk, H.own⟩, ?_, ?_⟩
 ·exact ((u1.mono (fun _ _ e => e.elim)).trans u2 (fun _ _ h => h)).trans (S' := fun k => k = W) us.drew (fun _ _ e => Or.inl e)
 ·rcases m2 with h | ⟨k, h, h'⟩
  ·exact Or.inl h
  ·exact Or.inr ⟨k, h, Nat.le_trans u1.size h'⟩
set_option maxHeartbeats 1000000 in
theorem pass_10 (base W g : Nat) (want : Bool → Bool → Bool) (n0 n1 at_ t : Int) (v : Value) (out : List (Int × Int)) (w : World) (h : IsWk base w W g n0 n1 at_ v out) (hg : Wants g want) (hb : base ≤ w.heap.size) (hn : out.length ≤ 1099511627776) (b0 : -1099511627776 ≤ n0) (b1 : n0 ≤ 1099511627776) :
  Calls Tryz.prog 198 #[.pointer (some ⟨W, 0, none⟩), .agg #[.int .i64 t, .int .i64 1, .int .i64 0]] w (PassP base W g (passL want ⟨n0, n1, at_, out⟩ (t, 1, 0)) v w) := by
 have wr : IntKind.i64.wrap (n0 + (-1)) = n0 + (-1) := wrap_i64_in _ (by omega) (by omega)
 have hp : passL want ⟨n0, n1, at_, out⟩ (t, 1, 0) = ⟨n0 + (-1), n1, t, closeL want ⟨n0, n1, at_, out⟩ t⟩ := by
  unfold passL stepE; simp
 rw [hp]
 have h1 := h.alloc (.cells #[.int .i64 t, .int .i64 1, .int .i64 0] 279)
 have X1 : (w.alloc (.cells #[.int .i64 t, .int .i64 1, .int .i64 0] 279)).heap[w.heap.size]? = some (.cells #[.int .i64 t, .int .i64 1, .int .i64 0] 279 (0, 0)) := heap_alloc_new _ _
 have u1 : Upd (fun _ => False) w (w.alloc (.cells #[.int .i64 t, .int .i64 1, .int .i64 0] 279)) := (Upd.refl _ w).alloc _
 have T := close_any base W g want n0 n1 at_ t v out _ h1 hg (Nat.le_trans hb u1.size) hn
 have hW : W ≠ w.heap.size := fun e => by have := lt_of_block h.blk; omega
 have HV : Hid (∀ k, v.ownBlock = some k → k < w.heap.size) := fun k hk => by
  obtain ⟨_, cs, fz, hb⟩ := own_block h.own hk
  exact lt_of_block hb
 clear hp b0 b1 h hg
 unfold PassP
 unfold CloseP at T
 generalize closeL want ⟨n0, n1, at_, out⟩ t = out' at T ⊢
 go_enter Tryz.func198, Tryz.ntmps198
 go_wp2_with (go_at_call 230; refine T.mono ?_; clear T; rintro e w1 ⟨rfl, v1, h2, u2, m2⟩; have X2 := (u2.block _ (lt_of_block X1) (fun e => e.elim (fun e => hW e.symm) (fun e => by have := HV.out _ e; omega))).trans X1; have e0 := blk_cell X2 0 rfl; have e1 := blk_cell X2 1 rfl; have e2 := blk_cell X2 2 rfl; have d1 : w1.cell? ⟨W, 1, none⟩ = some (.int .i64 n0) := blk_cell h2.blk 1 rfl; have fd := blk_free h2.blk 1)
 have us := upd_one w1 W 1 (.int .i64 (n0 + (-1)))
 have e3 : (w1.setCell ⟨W, 1, none⟩ (.int .i64 (n0 + (-1)))).cell? ⟨w.heap.size, 2, none⟩ = some (.int .i64 0) := cell_upd us e2 (fun e => hW e.symm)
 go_region
 go_wp2
 go_returns
 have H := h2.set1 (n0 + (-1))
 refine ⟨rfl, v1, ⟨H.blk, H.own⟩, ?_, ?_⟩
 ·exact ((u1.mono (fun _ _ e => e.elim)).trans u2 (fun _ _ h => h)).trans (S' := fun k => k = W) us.drew (fun _ _ e => Or.inl e)
 ·rcases m2 with h | ⟨k, h, h'⟩
  ·exact Or.inl h
  ·exact Or.inr ⟨k, h, Nat.le_trans u1.size h'⟩
set_option maxHeartbeats 1000000 in
theorem pass_11 (base W g : Nat) (want : Bool → Bool → Bool) (n0 n1 at_ t : Int) (v : Value) (out : List (Int × Int)) (w : World) (h : IsWk base w W g n0 n1 at_ v out) (hg : Wants g want) (hb : base ≤ w.heap.size) (hn : out.length ≤ 1099511627776) (b0 : -1099511627776 ≤ n1) (b1 : n1 ≤ 1099511627776) :
  Calls Tryz.prog 198 #[.pointer (some ⟨W, 0, none⟩), .agg #[.int .i64 t, .int .i64 1, .int .i64 1]] w (PassP base W g (passL want ⟨n0, n1, at_, out⟩ (t, 1, 1)) v w) := by
 have wr : IntKind.i64.wrap (n1 + (-1)) = n1 + (-1) := wrap_i64_in _ (by omega) (by omega)
 have hp : passL want ⟨n0, n1, at_, out⟩ (t, 1, 1) = ⟨n0, n1 + (-1), t, closeL want ⟨n0, n1, at_, out⟩ t⟩ := by
  unfold passL stepE; simp
 rw [hp]
 have h1 := h.alloc (.cells #[.int .i64 t, .int .i64 1, .int .i64 1] 279)
 have X1 : (w.alloc (.cells #[.int .i64 t, .int .i64 1, .int .i64 1] 279)).heap[w.heap.size]? = some (.cells #[.int .i64 t, .int .i64 1, .int .i64 1] 279 (0, 0)) := heap_alloc_new _ _
 have u1 : Upd (fun _ => False) w (w.alloc (.cells #[.int .i64 t, .int .i64 1, .int .i64 1] 279)) := (Upd.refl _ w).alloc _
 have T := close_any base W g want n0 n1 at_ t v out _ h1 hg (Nat.le_trans hb u1.size) hn
 have hW : W ≠ w.heap.size := fun e => by have := lt_of_block h.blk; omega
 have HV : Hid (∀ k, v.ownBlock = some k → k < w.heap.size) := fun k hk => by
  obtain ⟨_, cs, fz, hb⟩ := own_block h.own hk
  exact lt_of_block hb
 clear hp b0 b1 h hg
 unfold PassP
 unfold CloseP at T
 generalize closeL want ⟨n0, n1, at_, out⟩ t = out' at T ⊢
 go_enter Tryz.func198, Tryz.ntmps198
 go_wp2_with (go_at_call 230; refine T.mono ?_; clear T; rintro e w1 ⟨rfl, v1, h2, u2, m2⟩; have X2 := (u2.block _ (lt_of_block X1) (fun e => e.elim (fun e => hW e.symm) (fun e => by have := HV.out _ e; omega))).trans X1; have e0 := blk_cell X2 0 rfl; have e1 := blk_cell X2 1 rfl; have e2 := blk_cell X2 2 rfl; have d2 : w1.cell? ⟨W, 2, none⟩ = some (.int .i64 n1) := blk_cell h2.blk 2 rfl; have fd := blk_free h2.blk 2)
 have us := upd_one w1 W 2 (.int .i64 (n1 + (-1)))
 have e3 : (w1.setCell ⟨W, 2, none⟩ (.int .i64 (n1 + (-1)))).cell? ⟨w.heap.size, 2, none⟩ = some (.int .i64 1) := cell_upd us e2 (fun e => hW e.symm)
 go_region
 go_wp2
 go_returns
 have H := h2.set2 (n1 + (-1))
 refine ⟨rfl, v1, ⟨H.blk, H.own⟩, ?_, ?_⟩
 ·exact ((u1.mono (fun _ _ e => e.elim)).trans u2 (fun _ _ h => h)).trans (S' := fun k => k = W) us.drew (fun _ _ e => Or.inl e)
 ·rcases m2 with h | ⟨k, h, h'⟩
  ·exact Or.inl h
  ·exact Or.inr ⟨k, h, Nat.le_trans u1.size h'⟩
def EndOk (e : Int × Int × Int) : Prop := (e.2.1 = 0 ∨ e.2.1 = 1) ∧ (e.2.2 = 0 ∨ e.2.2 = 1)
theorem pass_any (base W g : Nat) (want : Bool → Bool → Bool) (s : Wk) (v : Value) (x : Int × Int × Int) (w : World) (h : IsWk base w W g s.n0 s.n1 s.at_ v s.out) (hg : Wants g want) (hb : base ≤ w.heap.size) (hn : s.out.length ≤ 1099511627776) (b0 : -1099511627776 ≤ s.n0 ∧ s.n0 ≤ 1099511627776) (b1 : -1099511627776 ≤ s.n1 ∧ s.n1 ≤ 1099511627776) (hx : EndOk x) :
  Calls Tryz.prog 198 #[.pointer (some ⟨W, 0, none⟩), .agg #[.int .i64 x.1, .int .i64 x.2.1, .int .i64 x.2.2]] w (PassP base W g (passL want s x) v w) := by
 obtain ⟨t, kd, j⟩ := x
 obtain ⟨n0, n1, at_, out⟩ := s
 obtain ⟨hk, hj⟩ := hx
 simp only at hk hj
 rcases hk with rfl | rfl <;> rcases hj with rfl | rfl
 ·exact pass_00 base W g want n0 n1 at_ t v out w h hg hb hn b0.1 b0.2
 ·exact pass_01 base W g want n0 n1 at_ t v out w h hg hb hn b1.1 b1.2
 ·exact pass_10 base W g want n0 n1 at_ t v out w h hg hb hn b0.1 b0.2
 ·exact pass_11 base W g want n0 n1 at_ t v out w h hg hb hn b1.1 b1.2
end Go.Proofs.YtnffedmcblbkoaaGreatDoor.iv
namespace Go.Proofs.YtnffedmcblbkoaaGreatDoor.iv
open Go.Shelf Go.RowKit Go.Lib Go.Sort
set_option maxRecDepth 100000
def Tryz.sortE_ren : Go.Shelf.Ren := ⟨fun | 6 => 228 | 15 => 79 | 14 => 241 | 28 => 119 | 29 => 120 | 20 => 246 | 21 => 247 | 22 => 248 | 23 => 249 | 24 => 250 | 25 => 251 | 26 => 252 | 27 => 253 | 46 => 254 | 47 => 177 | 48 => 178 | 49 => 255 | 50 => 256 | 57 => 257 | n => n, fun | 22 => 276 | 24 => 279 | 25 => 308 | 3 => 3 | 39 => 168 | 0 => 0 | 53 => 214 | 55 => 32 | 4 => 4 | 46 => 208 | 45 => 207 | 50 => 93 | 5 => 5 | 9 => 9 | 66 => 256 | 70 => 260 | 76 => 290 | 77 => 291 | n => n, fun | n => n⟩
theorem Tryz.sortE : Go.Proofs.SlLaysF0.n6 Tryz.prog Tryz.sortE_ren := {
 mixed := by kernel_rfl
 f6 := ⟨Tryz.f228.name, by decide, Tryz.func228.trans (congrArg some (by kernel_rfl))⟩
 f14 := ⟨Tryz.f241.name, by decide, Tryz.func241.trans (congrArg some (by kernel_rfl))⟩
 f15 := Tryz.func79.trans (congrArg some (by kernel_rfl))
 f20 := ⟨Tryz.f246.name, by decide, Tryz.func246.trans (congrArg some (by kernel_rfl))⟩
 f21 := ⟨Tryz.f247.name, by decide, Tryz.func247.trans (congrArg some (by kernel_rfl))⟩
 f22 := ⟨Tryz.f248.name, by decide, Tryz.func248.trans (congrArg some (by kernel_rfl))⟩
 f23 := ⟨Tryz.f249.name, by decide, Tryz.func249.trans (congrArg some (by kernel_rfl))⟩
 f24 := ⟨Tryz.f250.name, by decide, Tryz.func250.trans (congrArg some (by kernel_rfl))⟩
 f25 := ⟨Tryz.f251.name, by decide, Tryz.func251.trans (congrArg some (by kernel_rfl))⟩
 f26 := ⟨Tryz.f252.name, by decide, Tryz.func252.trans (congrArg some (by kernel_rfl))⟩
 f27 := ⟨Tryz.f253.name, by decide, Tryz.func253.trans (congrArg some (by kernel_rfl))⟩
 f28 := Tryz.func119.trans (congrArg some (by kernel_rfl))
 f29 := Tryz.func120.trans (congrArg some (by kernel_rfl))
 f46 := ⟨Tryz.f254.name, by decide, Tryz.func254.trans (congrArg some (by kernel_rfl))⟩
 f47 := Tryz.func177.trans (congrArg some (by kernel_rfl))
 f48 := Tryz.func178.trans (congrArg some (by kernel_rfl))
 f49 := ⟨Tryz.f255.name, by decide, Tryz.func255.trans (congrArg some (by kernel_rfl))⟩
 f50 := ⟨Tryz.f256.name, by decide, Tryz.func256.trans (congrArg some (by kernel_rfl))⟩
 f57 := ⟨Tryz.f257.name, by decide, Tryz.func257.trans (congrArg some (by kernel_rfl))⟩
 t0 := Tryz.underlying0
 a0 := Tryz.isAgg0
 z0 := Tryz.sizeOf0
 v0 := Tryz.zeroValue0
 t3 := Tryz.underlying3
 a3 := Tryz.isAgg3
 z3 := Tryz.sizeOf3
 v3 := Tryz.zeroValue3
 t4 := Tryz.underlying4
 a4 := Tryz.isAgg4
 z4 := Tryz.sizeOf4
 v4 := Tryz.zeroValue4
 t5 := Tryz.underlying5
 a5 := Tryz.isAgg5
 z5 := Tryz.sizeOf5
 v5 := Tryz.zeroValue5
 t9 := Tryz.underlying9
 a9 := Tryz.isAgg9
 z9 := Tryz.sizeOf9
 v9 := Tryz.zeroValue9
 t22 := Tryz.underlying276
 a22 := Tryz.isAgg276
 z22 := Tryz.sizeOf276
 v22 := Tryz.zeroValue276
 t25 := Tryz.underlying308
 a25 := Tryz.isAgg308
 z25 := Tryz.sizeOf308
 v25 := Tryz.zeroValue308
 t39 := Tryz.underlying168
 a39 := Tryz.isAgg168
 z39 := Tryz.sizeOf168
 v39 := Tryz.zeroValue168
 t45 := Tryz.underlying207
 a45 := Tryz.isAgg207
 z45 := Tryz.sizeOf207
 v45 := Tryz.zeroValue207
 t46 := Tryz.underlying208
 a46 := Tryz.isAgg208
 z46 := Tryz.sizeOf208
 v46 := Tryz.zeroValue208
 t50 := Tryz.underlying93
 a50 := Tryz.isAgg93
 z50 := Tryz.sizeOf93
 v50 := Tryz.zeroValue93
 t53 := Tryz.underlying214
 a53 := Tryz.isAgg214
 z53 := Tryz.sizeOf214
 v53 := Tryz.zeroValue214
 t55 := Tryz.underlying32
 a55 := Tryz.isAgg32
 z55 := Tryz.sizeOf32
 v55 := Tryz.zeroValue32
 t66 := Tryz.underlying256
 a66 := Tryz.isAgg256
 z66 := Tryz.sizeOf256
 v66 := Tryz.zeroValue256
 t70 := Tryz.underlying260
 a70 := Tryz.isAgg260
 z70 := Tryz.sizeOf260
 v70 := Tryz.zeroValue260
 t76 := Tryz.underlying290
 a76 := Tryz.isAgg290
 z76 := Tryz.sizeOf290
 v76 := Tryz.zeroValue290
 t77 := Tryz.underlying291
 a77 := Tryz.isAgg291
 z77 := Tryz.sizeOf291
 v77 := Tryz.zeroValue291 }
def cmpI (a b : Int) : Int := if a < b then -1 else if b < a then 1 else 0
theorem nan_i64 (x : Int) (w : World) :
  Calls Tryz.prog 149 #[.int .i64 x] w fun e w' => e = .returned (.bool false) ∧ w' = w := by
 go_enter Tryz.func149, Tryz.ntmps149
 go_wp2
 go_ret
 exact ⟨by simp, rfl⟩
theorem cmp_i64 (x y : Int) (w : World) :
  Calls Tryz.prog 102 #[.int .i64 x, .int .i64 y] w fun e w' => e = .returned (.int .i64 (cmpI x y)) ∧ w' = w := by
 go_enter Tryz.func102, Tryz.ntmps102
 go_wp2_with (go_at_call 149; refine (nan_i64 _ _).mono ?_; rintro e w' ⟨rfl, rfl⟩)
 all_goals (go_ret; refine ⟨?_, rfl⟩; unfold cmpI; (repeat' split) <;> first | rfl | (exfalso; omega))
def cmpE (x y : Int × Int × Int) : Int := cmpI x.1 y.1
theorem ltE (x y : Int × Int × Int) : ltOf cmpE x y = decide (x.1 < y.1) := by
 unfold ltOf cmpE cmpI
 by_cases h1 : x.1 < y.1
 ·simp [h1]
 ·by_cases h2 : y.1 < x.1 <;> simp [h1, h2]
theorem swoE : SWO (ltOf cmpE) where
 irrefl x := by rw [ltE]; simp
 trans x y z h1 h2 := by rw [ltE] at *; simp at *; omega
 ntrans x y z h1 h2 := by rw [ltE] at *; simp at *; omega
set_option maxHeartbeats 1000000 in
theorem less_any (x y : Int × Int × Int) (W : World) : Calls Tryz.prog 229 #[.agg #[.int .i64 x.1, .int .i64 x.2.1, .int .i64 x.2.2], .agg #[.int .i64 y.1, .int .i64 y.2.1, .int .i64 y.2.2]] W fun e w' => e = .returned (.int .i64 (cmpE x y)) ∧ ∃ q os', w' = grow (W.drewN q) os' := by
 have C := fun W' => cmp_i64 x.1 y.1 W'
 unfold cmpE
 generalize cmpI x.1 y.1 = r at C ⊢
 go_enter Tryz.func229, Tryz.ntmps229
 go_wp2_with (go_at_call 102; refine (C _).mono ?_; rintro e w' ⟨rfl, rfl⟩)
 go_ret
 exact ⟨rfl, 0, _, by rw [alloc_eq_grow, alloc_eq_grow, grow_grow]; rfl⟩
theorem lays_less (blk off size : Nat) (w : World) : CmpLays Tryz.prog 229 #[] enC 3 cmpE blk off size w :=
 fun _ _ _ _ x y => less_any x y _
theorem sort_any (blk off cap : Nat) (d : Array (Int × Int × Int)) (w : World) (hH : HoldsK enC 3 w blk off d) (hblk : blk < w.heap.size) (hsz : d.size < 4611686018427387904) :
  Calls Tryz.prog 228 #[.slice (some ⟨blk, off, none⟩) d.size cap, .func (.func 229) #[] #[]] w fun e w' => e = .returned (.tuple #[]) ∧ ∃ d' n os, PermIn 0 d.size d d' ∧ SortedIn (ltOf cmpE) 0 d.size d' ∧ w' = sortWorldK enC 3 w blk off n d' os := by
 have eg : ∀ args w, (callFunc 229 args).run Tryz.prog w = .ok (.enter 229 args) w := enters_of Tryz.func229 (by kernel_rfl) rfl
 have hcon := AnyQ.slices_SortFunc Tryz.sortE 3 Tryz.isAgg279 Tryz.sizeOf279 enC (fun _ => rfl) (fun x v hv => by simp [enC] at hv; rcases hv with rfl | rfl | rfl <;> rfl) cmpE swoE 229 #[] blk off cap d w eg (lays_less blk off d.size w) hH hblk hsz
 exact hcon
theorem flat_get (l : List (Int × Int × Int)) (t : Nat) (ht : t < l.length * 3) : (l.flatMap enC)[t]? = some ((enC l.toArray[t / 3]!)[t % 3]!) := by
 have hi : t / 3 < l.length := by omega
 obtain ⟨a, b, c⟩ := enC_at l (t / 3) hi
 have e : l.toArray[t / 3]! = l[t / 3] := by simp [hi]
 rw [e]
 have h3 : t % 3 = 0 ∨ t % 3 = 1 ∨ t % 3 = 2 := by omega
 rcases h3 with h | h | h
 ·have ht2 : t / 3 * 3 = t := by omega
  rw [ht2] at a; rw [h]; exact a
 ·have ht2 : t / 3 * 3 + 1 = t := by omega
  rw [ht2] at b; rw [h]; exact b
 ·have ht2 : t / 3 * 3 + 2 = t := by omega
  rw [ht2] at c; rw [h]; exact c
theorem OwnE.holdsK {base : Nat} {w : World} {g n cap : Nat} {l : List (Int × Int × Int)} (h : OwnE base w (.slice (some ⟨g, 0, none⟩) n cap) l) : HoldsK enC 3 w g 0 l.toArray := by
 intro t ht
 rw [size_flatK] at ht
 have ht' : t < l.length * 3 := by simpa using ht
 rw [get_flatK enC 3 l.toArray t ht]
 refine ⟨?_, own_free h rfl _⟩
 have := h.cells (g := g) rfl t _ (flat_get l t ht')
 rw [Addr.add_lit] at this
 exact this
theorem upd_sorted (w : World) (blk off n : Nat) (d : Array (Int × Int × Int)) (os : Array Obj) : Upd (fun k => k = blk) w (sortWorldK enC 3 w blk off n d os) := by
 unfold sortWorldK putRowK
 refine ⟨rfl, rfl, rfl, ?_, fun k hk hn => ?_⟩
 ·rw [size_grow, size_putRow]; exact Nat.le_add_right _ _
 ·show ((putRow id (Sort.ahead w n) blk off (flatK enC 3 d)).heap ++ os)[k]? = _
  rw [Array.getElem?_append_left (by rw [size_putRow]; exact hk)]
  show (w.heap.modify blk _)[k]? = _
  rw [Array.getElem?_modify, if_neg (fun e => hn e.symm)]
theorem perm_of_in {d d' : Array (Int × Int × Int)} (h : PermIn 0 d.size d d') : d.toList.Perm d'.toList := by
 obtain ⟨h1, _, h3⟩ := h
 have e1 : d.extract 0 d.size = d := by simp
 have e2 : d'.extract 0 d.size = d' := by rw [← h1]; simp
 rw [e1, e2] at h3
 exact h3.symm
theorem sorted_of_in {d d' : Array (Int × Int × Int)} (hs : d'.size = d.size) (h : SortedIn (ltOf cmpE) 0 d.size d') : d'.toList.Pairwise fun e f => e.1 ≤ f.1 := by
 rw [List.pairwise_iff_getElem]
 intro i j hi hj hij
 have := h i j (Nat.zero_le _) hij (by simpa [hs] using hj)
 rw [ltE] at this
 have a : d'[i]! = d'.toList[i] := by simp at hi; simp [hi]
 have b : d'[j]! = d'.toList[j] := by simp at hj; simp [hj]
 rw [a, b] at this
 simp at this
 simpa using this
theorem sort_own (base g n cap : Nat) (l : List (Int × Int × Int)) (w : World) (h : OwnE base w (.slice (some ⟨g, 0, none⟩) n cap) l) (hn : n < 4611686018427387904) :
  Calls Tryz.prog 228 #[.slice (some ⟨g, 0, none⟩) n cap, .func (.func 229) #[] #[]] w fun e w' => e = .returned (.tuple #[]) ∧ (∃ l' : List (Int × Int × Int), l.Perm l' ∧ l'.Pairwise (fun e f => e.1 ≤ f.1) ∧ EnAt w' (some ⟨g, 0, none⟩) n l') ∧ Upd (fun k => k = g) w w' := by
 have hl := (own_cap h).1
 have hK := h.holdsK
 obtain ⟨_, cs, fz, hb⟩ := own_block h (k := g) rfl
 have hg := lt_of_block hb
 have hz : l.toArray.size = n := by simp [hl]
 have S := sort_any g 0 cap l.toArray w hK hg (by rw [hz]; exact hn)
 rw [hz] at S
 refine S.mono ?_
 rintro e w' ⟨rfl, d', m, os, hp, hs, rfl⟩
 have hp' := hp
 rw [← hz] at hp' hs
 have hd : d'.size = l.toArray.size := hp'.1
 refine ⟨rfl, ⟨d'.toList, by simpa using perm_of_in hp', sorted_of_in hd hs, ?_⟩, upd_sorted w g 0 m d' os⟩
 have hH := holdsK_sortWorldK_c enC 3 w g 0 l.toArray d' m os hK hg hd
 refine ⟨by simp; omega, fun _ => ⟨g, 0, rfl, fun i hi => ?_⟩⟩
 have hi' : i < d'.size := by simpa using hi
 have e : d'[i]! = d'.toList[i] := by simp [hi']
 have c0 := (hH.cell hi' (show 0 < 3 by omega)).1
 have c1 := (hH.cell hi' (show 1 < 3 by omega)).1
 have c2 := (hH.cell hi' (show 2 < 3 by omega)).1
 rw [e] at c0 c1 c2
 exact ⟨c0, c1, c2⟩
end Go.Proofs.YtnffedmcblbkoaaGreatDoor.iv
