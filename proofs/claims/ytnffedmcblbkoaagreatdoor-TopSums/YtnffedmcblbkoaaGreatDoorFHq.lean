/-
  Merged: FH, FG.
-/
import Derived.Test.YtnffedmcblbkoaaGreatDoorYcq
import Derived.Test.YtnffedmcblbkoaaGreatDoorMwq
import Derived.Deep.RegionHeld3
namespace Go.Proofs.YtnffedmcblbkoaaGreatDoor
open Go Go.RowKit
set_option maxRecDepth 100000
set_option maxHeartbeats 1000000 in
theorem interval_any (sb o : Nat) (s t : Int) (w : World) (h9 : w.cell? ⟨sb, o + 9, none⟩ = some (.int .i64 s)) (h10 : w.cell? ⟨sb, o + 10, none⟩ = some (.int .i64 t)) :
  Calls Tryz.prog 135 #[.pointer (some ⟨sb, o, none⟩)] w fun e w' => e = .returned (.agg #[.int .i64 s, .int .i64 t]) ∧ Below w.heap.size w w' := by
 have q9 := fun ob => (((Below.refl w.heap.size w).alloc (Nat.le_refl _) ob).cell (p := ⟨sb, o + 9, none⟩) (World.block_lt_of_cell? w _ h9)).trans h9
 have q10 := fun ob => (((Below.refl w.heap.size w).alloc (Nat.le_refl _) ob).cell (p := ⟨sb, o + 10, none⟩) (World.block_lt_of_cell? w _ h10)).trans h10
 go_enter Tryz.func135, Tryz.ntmps135
 go_wp2
 go_region
 all_goals
  go_wp2
  go_returns
  refine ⟨rfl, ?_⟩
  repeat' first | exact Below.refl _ _ | refine Below.drew ?_ | refine Below.alloc ?_ (by simp <;> omega) _ | refine Below.setCell ?_ ?_ _
def rootN (x : Spot) : Nod := { x.nd with org := if x.nd.org = 3 then 3 else if x.a.par = 0 then 1 else 2, tree := x.nd.id, fr := x.a.start, til := x.a.fin }
def rootS (x : Spot) : Spot := { x with nd := rootN x }
theorem set_last (X : List Spot) (i : Nat) (y z : Spot) : (X.set i y).set i z = X.set i z := by simp
theorem put5 {w : World} {sb i : Nat} {X : List Spot} (h : Blk w sb (rowS X) 104) (hi : i < X.length) (v : Int) : Blk (w.setCell ⟨sb, i * 21 + 13 + 2, none⟩ (.int .i64 v)) sb (rowS (X.set i { X[i] with nd := { X[i].nd with org := v } })) 104 :=
 h.setS i hi 15 (by omega) _ _ rfl
theorem put6 {w : World} {sb i : Nat} {X : List Spot} (h : Blk w sb (rowS X) 104) (hi : i < X.length) (v : Int) : Blk (w.setCell ⟨sb, i * 21 + 13 + 3, none⟩ (.int .u64 v)) sb (rowS (X.set i { X[i] with nd := { X[i].nd with tree := v } })) 104 :=
 h.setS i hi 16 (by omega) _ _ rfl
theorem put8 {w : World} {sb i : Nat} {X : List Spot} (h : Blk w sb (rowS X) 104) (hi : i < X.length) (v : Int) : Blk (w.setCell ⟨sb, i * 21 + 13 + 5, none⟩ (.int .i64 v)) sb (rowS (X.set i { X[i] with nd := { X[i].nd with fr := v } })) 104 :=
 h.setS i hi 18 (by omega) _ _ rfl
theorem put9 {w : World} {sb i : Nat} {X : List Spot} (h : Blk w sb (rowS X) 104) (hi : i < X.length) (v : Int) : Blk (w.setCell ⟨sb, i * 21 + 13 + 5 + 1, none⟩ (.int .i64 v)) sb (rowS (X.set i { X[i] with nd := { X[i].nd with til := v } })) 104 :=
 h.setS i hi 19 (by omega) _ _ rfl
structure RootF (w : World) (sb i : Nat) (x : Spot) : Prop where
 par : w.cell? ⟨sb, i * 21 + 3, none⟩ = some (.int .u64 x.a.par)
 st : w.cell? ⟨sb, i * 21 + 9, none⟩ = some (.int .i64 x.a.start)
 fn : w.cell? ⟨sb, i * 21 + 10, none⟩ = some (.int .i64 x.a.fin)
 id : w.cell? ⟨sb, i * 21 + 13, none⟩ = some (.int .u64 x.nd.id)
 up : w.cell? ⟨sb, i * 21 + 13 + 1, none⟩ = some (.int .u64 x.nd.par)
 org : w.cell? ⟨sb, i * 21 + 13 + 2, none⟩ = some (.int .i64 x.nd.org)
 tree : w.cell? ⟨sb, i * 21 + 13 + 3, none⟩ = some (.int .u64 x.nd.tree)
 dep : w.cell? ⟨sb, i * 21 + 13 + 4, none⟩ = some (.int .i64 x.nd.dep)
 fr : w.cell? ⟨sb, i * 21 + 13 + 5, none⟩ = some (.int .i64 x.nd.fr)
 til : w.cell? ⟨sb, i * 21 + 13 + 5 + 1, none⟩ = some (.int .i64 x.nd.til)
 fz : ∀ j, w.frozen? ⟨sb, j, none⟩ = false
theorem Blk.rootF {w : World} {sb i : Nat} {X : List Spot} (h : Blk w sb (rowS X) 104) (hi : i < X.length) : RootF w sb i X[i] :=
 ⟨(h.spots i hi).c3, (h.spots i hi).c9, (h.spots i hi).c10, (h.spots i hi).c13, (h.spots i hi).c14, (h.spots i hi).c15, (h.spots i hi).c16, (h.spots i hi).c17, (h.spots i hi).c18, (h.spots i hi).c19, fun j => h.frozen j⟩
theorem root_fin {w w1 w2 : World} {sb i : Nat} {X X1 : List Spot} (hB1 : Blk w1 sb (rowS X1) 104) (hb : Below w1.heap.size w1 w2) (hu : Upd (fun k => k = sb) w w1) (h1 : i < X1.length) (s t : Int) (y : Spot) (he : X1.set i { X1[i] with nd := { X1[i].nd with fr := s, til := t } } = X.set i y) : Blk ((w2.setCell ⟨sb, i * 21 + 13 + 5, none⟩ (.int .i64 s)).setCell ⟨sb, i * 21 + 13 + 5 + 1, none⟩ (.int .i64 t)) sb (rowS (X.set i y)) 104 ∧ Upd (fun k => k = sb) w ((w2.setCell ⟨sb, i * 21 + 13 + 5, none⟩ (.int .i64 s)).setCell ⟨sb, i * 21 + 13 + 5 + 1, none⟩ (.int .i64 t)) := by
 have hB2 := hB1.below hb hB1.lt
 refine ⟨?_, ?_⟩
 ·have a := put9 (put8 hB2 h1 s) (by simpa using h1) t
  rw [set_last] at a
  simp only [List.getElem_set_self] at a
  rw [he] at a
  exact a
 ·have u2 : Upd (fun k => k = sb) w w2 := hu.trans (S' := fun _ => False) (Upd.ofBelow hb (fun k h1 h2 => by omega)) (fun _ _ h => h.elim)
  exact Upd.setCell (p := ⟨sb, _, none⟩) (Upd.setCell (p := ⟨sb, _, none⟩) u2 (fun _ => rfl) _) (fun _ => rfl) _
set_option maxHeartbeats 2000000 in
theorem root_any (sb i : Nat) (X : List Spot) (w : World) (hB : Blk w sb (rowS X) 104) (hi : i < X.length) :
  Calls Tryz.prog 88 #[.pointer (some ⟨sb, i * 21, none⟩)] w fun e w' => e = .returned (.tuple #[]) ∧ Blk w' sb (rowS (X.set i (rootS X[i]))) 104 ∧ Upd (fun k => k = sb) w w' := by
 have IV := fun W s t h9 h10 => interval_any sb (i * 21) s t W h9 h10
 have go : ∀ (w1 : World) (X1 : List Spot) (hB1 : Blk w1 sb (rowS X1) 104) (hl : X1.length = X.length) (h1 : i < X1.length), Upd (fun k => k = sb) w w1 → X1[i].a = X[i].a → (X1.set i { X1[i] with nd := { X1[i].nd with fr := X[i].a.start, til := X[i].a.fin } } = X.set i (rootS X[i])) → Calls Tryz.prog 135 #[.pointer (some ⟨sb, i * 21, none⟩)] w1 fun e w2 => e = .returned (.agg #[.int .i64 X[i].a.start, .int .i64 X[i].a.fin]) ∧ (w2.cell? ⟨sb, i * 21 + 13 + 5, none⟩ = some (.int .i64 X1[i].nd.fr) ∧ w2.cell? ⟨sb, i * 21 + 13 + 5 + 1, none⟩ = some (.int .i64 X1[i].nd.til) ∧ ∀ j, w2.frozen? ⟨sb, j, none⟩ = false) ∧ Blk ((w2.setCell ⟨sb, i * 21 + 13 + 5, none⟩ (.int .i64 X[i].a.start)).setCell ⟨sb, i * 21 + 13 + 5 + 1, none⟩ (.int .i64 X[i].a.fin)) sb (rowS (X.set i (rootS X[i]))) 104 ∧ Upd (fun k => k = sb) w ((w2.setCell ⟨sb, i * 21 + 13 + 5, none⟩ (.int .i64 X[i].a.start)).setCell ⟨sb, i * 21 + 13 + 5 + 1, none⟩ (.int .i64 X[i].a.fin)) := by
  intro w1 X1 hB1 hl h1 hu ha he
  have F1 := hB1.rootF h1
  refine (IV w1 X[i].a.start X[i].a.fin (by rw [← ha]; exact F1.st) (by rw [← ha]; exact F1.fn)).mono ?_
  rintro e w2 ⟨rfl, hb⟩
  have F2 := (hB1.below hb hB1.lt).rootF h1
  exact ⟨rfl, ⟨F2.fr, F2.til, F2.fz⟩, root_fin hB1 hb hu h1 _ _ _ he⟩
 obtain ⟨f1, f2, f3, f4, f5, f6, f7, f8, f9, f10, fz⟩ := hB.rootF hi
 have u0 : ∀ k v, Upd (fun k => k = sb) w (w.setCell ⟨sb, k, none⟩ v) := fun k v => Upd.setCell (S := fun k => k = sb) (p := ⟨sb, k, none⟩) (Upd.refl _ _) (fun _ => rfl) v
 have u1 : ∀ k v k' v', Upd (fun k => k = sb) w ((w.setCell ⟨sb, k, none⟩ v).setCell ⟨sb, k', none⟩ v') := fun k v k' v' => Upd.setCell (p := ⟨sb, k', none⟩) (u0 k v) (fun _ => rfl) v'
 by_cases h3 : X[i].nd.org = 3
 ·have G := go _ _ (put6 hB hi X[i].nd.id) (by simp) (by simpa using hi) (u0 _ _) (by simp) (by simp [rootS, rootN, h3])
  generalize X.set i (rootS X[i]) = Y at G ⊢
  generalize X[i] = x at *
  clear go IV u0 u1 hB
  go_enter Tryz.func88, Tryz.ntmps88
  go_wp2_with (go_at_call 135; refine G.mono ?_; rintro e w2 ⟨rfl, ⟨g1, g2, gz⟩, r1, r2⟩)
  go_end0
  exact ⟨rfl, r1, r2⟩
 ·by_cases hp : X[i].a.par = 0
  ·have G := go _ _ (put6 (put5 hB hi 1) (by simpa using hi) X[i].nd.id) (by simp) (by simpa using hi) (u1 _ _ _ _) (by simp) (by simp [rootS, rootN, h3, hp])
   generalize X.set i (rootS X[i]) = Y at G ⊢
   generalize X[i] = x at *
   clear go IV u0 u1 hB
   go_enter Tryz.func88, Tryz.ntmps88
   go_wp2_with (go_at_call 135; refine G.mono ?_; rintro e w2 ⟨rfl, ⟨g1, g2, gz⟩, r1, r2⟩)
   go_end0
   exact ⟨rfl, r1, r2⟩
  ·have G := go _ _ (put6 (put5 hB hi 2) (by simpa using hi) X[i].nd.id) (by simp) (by simpa using hi) (u1 _ _ _ _) (by simp) (by simp [rootS, rootN, h3, hp])
   generalize X.set i (rootS X[i]) = Y at G ⊢
   generalize X[i] = x at *
   clear go IV u0 u1 hB
   go_enter Tryz.func88, Tryz.ntmps88
   go_wp2_with (go_at_call 135; refine G.mono ?_; rintro e w2 ⟨rfl, ⟨g1, g2, gz⟩, r1, r2⟩)
   go_end0
   exact ⟨rfl, r1, r2⟩
def hangN (x : Spot) (d : Nod) : Nod := { x.nd with par := d.id, tree := d.tree, dep := d.dep + 1, fr := (clipI (x.a.start, x.a.fin) (d.fr, d.til)).1, til := (clipI (x.a.start, x.a.fin) (d.fr, d.til)).2 }
def hangS (x : Spot) (d : Nod) : Spot := { x with nd := hangN x d }
theorem put14 {w : World} {sb i : Nat} {X : List Spot} (h : Blk w sb (rowS X) 104) (hi : i < X.length) (v : Int) : Blk (w.setCell ⟨sb, i * 21 + 13 + 1, none⟩ (.int .u64 v)) sb (rowS (X.set i { X[i] with nd := { X[i].nd with par := v } })) 104 :=
 h.setS i hi 14 (by omega) _ _ rfl
theorem put17 {w : World} {sb i : Nat} {X : List Spot} (h : Blk w sb (rowS X) 104) (hi : i < X.length) (v : Int) : Blk (w.setCell ⟨sb, i * 21 + 13 + 4, none⟩ (.int .i64 v)) sb (rowS (X.set i { X[i] with nd := { X[i].nd with dep := v } })) 104 :=
 h.setS i hi 17 (by omega) _ _ rfl
structure HangF (w : World) (sb i n : Nat) (s t fr til a b : Int) : Prop where
 all : w.cell? ⟨sb, i * 21 + 9, none⟩ = some (.int .i64 s) ∧ w.cell? ⟨sb, i * 21 + 10, none⟩ = some (.int .i64 t) ∧ w.cell? ⟨sb, i * 21 + 13 + 5, none⟩ = some (.int .i64 fr) ∧ w.cell? ⟨sb, i * 21 + 13 + 5 + 1, none⟩ = some (.int .i64 til) ∧ w.cell? ⟨n, 5, none⟩ = some (.int .i64 a) ∧ w.cell? ⟨n, 6, none⟩ = some (.int .i64 b) ∧ w.frozen? ⟨sb, i * 21 + 13 + 5, none⟩ = false ∧ w.frozen? ⟨sb, i * 21 + 13 + 5 + 1, none⟩ = false
set_option maxHeartbeats 4000000 in
theorem hang_any (sb i : Nat) (X : List Spot) (d : Nod) (w : World) (hB : Blk w sb (rowS X) 104) (hi : i < X.length) (hd : 0 ≤ d.dep ∧ d.dep ≤ 1000000) :
  Calls Tryz.prog 92 #[.pointer (some ⟨sb, i * 21, none⟩), ndV d] w fun e w' => e = .returned (.tuple #[]) ∧ Blk w' sb (rowS (X.set i (hangS X[i] d))) 104 ∧ Upd (fun k => k = sb) w w' := by
 obtain ⟨W1, hW1⟩ : ∃ W1, (((w.alloc (.cells (ndL d).toArray 38)).setCell ⟨sb, i * 21 + 13 + 1, none⟩ (.int .u64 d.id)).setCell ⟨sb, i * 21 + 13 + 3, none⟩ (.int .u64 d.tree)).setCell ⟨sb, i * 21 + 13 + 4, none⟩ (.int .i64 (d.dep + 1)) = W1 := ⟨_, rfl⟩
 have hB0 := hB.alloc (.cells (ndL d).toArray 38)
 have hne : w.heap.size ≠ sb := fun e => by have := hB.lt; omega
 have hB1 := put17 (put6 (put14 hB0 hi d.id) (by simpa using hi) d.tree) (by simpa using hi) (d.dep + 1)
 have hN1 : Blk W1 w.heap.size (ndL d).toArray 38 := by
  rw [← hW1]
  exact (((Blk.new w _ _).other _ _ hne).other _ _ hne).other _ _ hne
 rw [hW1] at hB1
 simp only [List.getElem_set_self, List.set_set] at hB1
 have hu1 : Upd (fun k => k = sb) w W1 := by
  rw [← hW1]
  exact Upd.setCell (p := ⟨sb, _, none⟩) (Upd.setCell (p := ⟨sb, _, none⟩) (Upd.setCell (S := fun k => k = sb) (p := ⟨sb, _, none⟩) ((Upd.refl _ w).alloc _) (fun _ => rfl) _) (fun _ => rfl) _) (fun _ => rfl) _
 obtain ⟨y, hy⟩ : ∃ y : Spot, ({ X[i] with nd := { X[i].nd with par := d.id, tree := d.tree, dep := d.dep + 1 } } : Spot) = y := ⟨_, rfl⟩
 have hya : y.a = X[i].a := by rw [← hy]
 have hyh : ∀ s t : Int, ({ y with nd := { y.nd with fr := s, til := t } } : Spot) = { X[i] with nd := { X[i].nd with par := d.id, tree := d.tree, dep := d.dep + 1, fr := s, til := t } } := fun s t => by rw [← hy]
 have hB1' : Blk W1 sb (rowS (X.set i y)) 104 := by rw [← hy]; exact hB1
 have hiy : i < (X.set i y).length := by simpa using hi
 have ey : (X.set i y)[i]'hiy = y := by simp
 have KP : ∀ w', Below W1.heap.size W1 w' → HangF w' sb i w.heap.size X[i].a.start X[i].a.fin y.nd.fr y.nd.til d.fr d.til := fun w' hb => by
  have F := (hB1'.below hb hB1'.lt).rootF hiy
  rw [ey] at F
  have N := hN1.below hb hN1.lt
  exact ⟨by rw [← hya]; exact F.st, by rw [← hya]; exact F.fn, F.fr, F.til, N.cell 5 rfl, N.cell 6 rfl, F.fz _, F.fz _⟩
 have FIN : ∀ w', Below W1.heap.size W1 w' → Blk ((w'.setCell ⟨sb, i * 21 + 13 + 5, none⟩ (.int .i64 (clipI (X[i].a.start, X[i].a.fin) (d.fr, d.til)).1)).setCell ⟨sb, i * 21 + 13 + 5 + 1, none⟩ (.int .i64 (clipI (X[i].a.start, X[i].a.fin) (d.fr, d.til)).2)) sb (rowS (X.set i (hangS X[i] d))) 104 ∧ Upd (fun k => k = sb) w ((w'.setCell ⟨sb, i * 21 + 13 + 5, none⟩ (.int .i64 (clipI (X[i].a.start, X[i].a.fin) (d.fr, d.til)).1)).setCell ⟨sb, i * 21 + 13 + 5 + 1, none⟩ (.int .i64 (clipI (X[i].a.start, X[i].a.fin) (d.fr, d.til)).2)) := fun w' hb =>
  root_fin hB1' hb hu1 hiy _ _ _ (by rw [ey, hyh, List.set_set]; rfl)
 have F0 := hB0.rootF hi
 obtain ⟨f1, f2, f3, f4, f5, f6, f7, f8, f9, f10, fz⟩ := F0
 generalize X.set i (hangS X[i] d) = Y at FIN ⊢
 have IV := fun W => interval_any sb (i * 21) (X[i].a.start) (X[i].a.fin) W
 have CL := fun W => clip_any (X[i].a.start, X[i].a.fin) (d.fr, d.til) W
 generalize clipI (X[i].a.start, X[i].a.fin) (d.fr, d.til) = c at FIN CL
 generalize X[i].a.start = st at *
 generalize X[i].a.fin = fi at *
 have HKP : Hid (∀ w', Below W1.heap.size W1 w' → HangF w' sb i w.heap.size st fi y.nd.fr y.nd.til d.fr d.til) := KP
 have HFIN : Hid _ := FIN
 clear hB hB0 hB1 hB1' hN1 hu1 hy hya hyh hiy ey KP FIN
 have hd1 := hd.1
 have hd2 := hd.2
 have hne' : sb ≠ w.heap.size := fun e => hne e.symm
 have S0 := (HKP.out W1 (Below.refl _ _)).all
 unfold ndV
 unfold ndL at *
 go_enter Tryz.func92, Tryz.ntmps92
 go_wp2
 (try rw [hW1])
 clear hW1 f1 f2 f3 f4 f5 f6 f7 f8 f9 f10 fz
 obtain ⟨y1, y2, y3, y4, y5, y6, y7, y8⟩ := S0
 go_region_held3 (fun w' => w'.cell? ⟨sb, i * 21 + 9, none⟩ = some (.int .i64 st) ∧ w'.cell? ⟨sb, i * 21 + 10, none⟩ = some (.int .i64 fi) ∧ w'.cell? ⟨w.heap.size, 5, none⟩ = some (.int .i64 d.fr) ∧ w'.cell? ⟨w.heap.size, 6, none⟩ = some (.int .i64 d.til)) (first | exact ⟨y1, y2, y5, y6⟩ | exact ⟨x1, x2, x5, x6⟩ | exact ⟨z1, z2, z5, z6⟩ | (simp [go_sem, z1, z2, z5, z6]; done))
  (first
   | (go_at_call 135; refine (IV _ (by exact y1) (by exact y2)).mono ?_; rintro e w5 ⟨rfl, hb5'⟩; have hb5 : Below W1.heap.size W1 w5 := ⟨hb5'.os, hb5'.tape, hb5'.output, hb5'.size, hb5'.block⟩; obtain ⟨x1, x2, x3, x4, x5, x6, x7, x8⟩ := (HKP.out w5 hb5).all)
   | (go_at_call 139; refine (CL _).mono ?_; rintro e w6 ⟨rfl, hb6⟩; have hb7 := hb5.trans (hb6.mono hb5.size); obtain ⟨z1, z2, z3, z4, z5, z6, z7, z8⟩ := (HKP.out w6 hb7).all))
 go_wp2
 go_end0
 exact ⟨rfl, HFIN.out _ hb7⟩
def intB (L : List Int) : Array Value := (L.map (Value.int .i64)).toArray
theorem intB_set (L : List Int) (k : Nat) (v : Int) : (intB L).setIfInBounds k (.int .i64 v) = intB (L.set k v) := by
 unfold intB
 rw [List.setIfInBounds_toArray, List.map_set]
theorem intB_get (L : List Int) (k : Nat) (h : k < L.length) : (intB L)[k]? = some (.int .i64 L[k]) := by
 unfold intB
 simp [h]
theorem intB_made (n : Nat) : madeCells (Value.int .i64 0).cells (n * 1) = intB (List.replicate n 0) := by
 rw [show (Value.int .i64 0).cells = #[Value.int .i64 0] from rfl, made_one]
 unfold intB
 apply Array.toList_inj.1
 simp
def idxI (X : List Spot) (id : Int) : Int := match X.findIdx? (fun x => x.nd.id == id) with | some k => (k : Int) | none => -1
theorem idx_found {X : List Spot} (hr : RiseS X) {k : Nat} (hk : k < X.length) {id : Int} (h : X[k].nd.id = id) : idxI X id = (k : Int) := by
 have : X.findIdx? (fun x => x.nd.id == id) = some k := by
  rw [List.findIdx?_eq_some_iff_getElem]
  refine ⟨hk, by simp [h], fun j hj => ?_⟩
  have := hr j k (by omega) hk hj
  simp
  omega
 unfold idxI
 rw [this]
theorem idx_none {X : List Spot} {id : Int} (h : ∀ i (h : i < X.length), X[i].nd.id ≠ id) : idxI X id = -1 := by
 have : X.findIdx? (fun x => x.nd.id == id) = none := by
  rw [List.findIdx?_eq_none_iff]
  intro x hx
  obtain ⟨i, hi, rfl⟩ := List.getElem_of_mem hx
  simpa using h i hi
 unfold idxI
 rw [this]
theorem idx_range (X : List Spot) (id : Int) : -1 ≤ idxI X id ∧ idxI X id < X.length := by
 unfold idxI
 split
 ·rename_i k hk
  have := (List.findIdx?_eq_some_iff_getElem.1 hk).1
  omega
 ·omega
theorem fill_step (M : List Int) (n k : Nat) (hM : M.length = n) (hk : k < n) (z : Int) : (M.take k ++ List.replicate (n - k) z).set k (M[k]'(by omega)) = M.take (k + 1) ++ List.replicate (n - (k + 1)) z := by
 have h1 : (M.take k).length = k := by simp; omega
 have h2 : n - k = (n - (k + 1)) + 1 := by omega
 rw [List.set_append_right _ _ (by omega), h1, Nat.sub_self, h2, List.replicate_succ, List.set_cons_zero, List.take_succ_eq_append_getElem (by omega), List.append_assoc]
 rfl
theorem fill_at (M : List Int) (n k : Nat) (hM : M.length = n) (hk : k < n) (z : Int) : ∃ h : k < (M.take k ++ List.replicate (n - k) z).length, (M.take k ++ List.replicate (n - k) z)[k] = z := by
 have h1 : (M.take k).length = k := by simp; omega
 refine ⟨by simp; omega, ?_⟩
 rw [List.getElem_append_right (by omega)]
 simp
def zSpotL : List Value := [.int .u64 0, .int .u64 0, .int .u64 0, .int .u64 0, .slice none 0 0, .string ⟨#[]⟩, .string ⟨#[]⟩, .int .i64 0, .int .i64 0, .int .i64 0, .int .i64 0, .slice none 0 0, .slice none 0 0, .int .u64 0, .int .u64 0, .int .i64 0, .int .u64 0, .int .i64 0, .int .i64 0, .int .i64 0, .slice none 0 0]
def nmOf (X : List Spot) : List Int := X.map (fun x => idxI X x.a.par)
set_option maxHeartbeats 4000000 in
theorem named_any (f sb : Nat) (X : List Spot) (w : World) (hf : w.cell? ⟨f, 0, none⟩ = some (.slice (some ⟨sb, 0, none⟩) X.length X.length)) (hB : Blk w sb (rowS X) 104) (hr : RiseS X) (hl : X.length ≤ 1000) :
  Calls Tryz.prog 86 #[.pointer (some ⟨f, 0, none⟩)] w fun e w' => ∃ r, e = .returned (.slice (some ⟨r, 0, none⟩) X.length X.length) ∧ Blk w' r (intB (nmOf X)) 3 ∧ w.heap.size ≤ r ∧ Below w.heap.size w w' := by
 have HF : Hid (w.cell? ⟨f, 0, none⟩ = some (.slice (some ⟨sb, 0, none⟩) X.length X.length)) := hf
 have HB : Hid (Blk w sb (rowS X) 104) := hB
 have HR : Hid (RiseS X) := hr
 have hflt : Hid (f < w.heap.size) := World.block_lt_of_cell? w _ hf
 have FA : ∀ id W, Below w.heap.size w W → Calls Tryz.prog 36 #[.pointer (some ⟨f, 0, none⟩), .int .u64 id] W fun e w' => (∃ (k : Nat) (b : Bool), e = .returned (.tuple #[.int .i64 k, .bool b]) ∧ (b = true → idxI X id = (k : Int)) ∧ (b = false → idxI X id = -1)) ∧ Below W.heap.size W w' := fun id W hb => by
  refine (find_any f sb X.length X id W ((hb.cell (World.block_lt_of_cell? w _ hf)).trans hf) (hB.below hb hB.lt) rfl hr (by omega)).mono ?_
  rintro e w' ⟨⟨v, rfl, hv⟩, hb'⟩
  refine ⟨?_, hb'⟩
  rcases hv with ⟨k, hk, hid, rfl⟩ | ⟨hno, k, rfl⟩
  ·exact ⟨k, true, rfl, fun _ => idx_found hr hk hid, (fun h => by cases h)⟩
  ·exact ⟨k, false, rfl, (fun h => by cases h), fun _ => idx_none hno⟩
 have HFA : Hid _ := FA
 obtain ⟨n, hn⟩ : ∃ n, X.length = n := ⟨_, rfl⟩
 have HN : Hid (X.length = n) := hn
 rw [hn] at hl hf ⊢
 have hlN : (nmOf X).length = n := by simp [nmOf, hn]
 have HLN : Hid ((nmOf X).length = n) := hlN
 clear hB hr hn hlN FA
 go_enter Tryz.func86, Tryz.ntmps86
 go_wp2_with (at_make; refine wpList_mk rfl _ _ 90 rfl 3 (.int .i64 0) 1 8 Tryz.underlying90 infoI n rfl rfl (by omega) (by unfold maxLen; omega) ?_; intro w1 b1 hb1; have f1 : w1.cell? ⟨f, 0, none⟩ = some (.slice (some ⟨sb, 0, none⟩) n n) := (hb1.cell (p := ⟨f, 0, none⟩) hflt.out).trans hf)
 rw [intB_made] at b1
 have B0 : Hid (Blk w1 w.heap.size (intB (List.replicate n 0)) 3) := b1
 have HB1 : Hid (Below w.heap.size w w1) := hb1
 obtain ⟨r, hrr⟩ : ∃ r, w.heap.size = r := ⟨_, rfl⟩
 have HRR : Hid (w.heap.size = r) := hrr
 rw [hrr] at B0 ⊢
 clear b1 hb1 hrr f1 hf
 go_loopw [19] (fun x wr => ∃ k : Nat, x = .int .i64 k ∧ k ≤ n ∧ Blk wr r (intB ((nmOf X).take k ++ List.replicate (n - k) 0)) 3 ∧ Below w.heap.size w wr) (fun x _ => n - (intOf x).toNat)
 case atStart => exact ⟨0, rfl, by omega, by simpa using B0.out, HB1.out⟩
 case round =>
  obtain ⟨k, rfl, hkn, hblk, hb⟩ := hrel
  have HBB : Hid (Below w.heap.size w wr) := hb
  have HBK : Hid (Blk wr r (intB ((nmOf X).take k ++ List.replicate (n - k) 0)) 3) := hblk
  clear hb hblk
  by_cases hlt : k < n
  ·have hkX : k < X.length := by rw [HN.out]; exact hlt
   have f1 : wr.cell? ⟨f, 0, none⟩ = some (.slice (some ⟨sb, 0, none⟩) n n) := (HBB.out.cell (p := ⟨f, 0, none⟩) hflt.out).trans (by rw [← HN.out]; exact HF.out)
   have LD : Hid (wr.rangeAt sb (k * 21) (enS X[k])) := Blk.range (Blk.below HB.out HBB.out (Blk.lt HB.out)) k hkX
   have hMk : (nmOf X)[k]'(by rw [HLN.out]; exact hlt) = idxI X X[k].a.par := by simp [nmOf]
   have HMK : Hid ((nmOf X)[k]'(by rw [HLN.out]; exact hlt) = idxI X X[k].a.par) := hMk
   obtain ⟨x, hx⟩ : ∃ x, X[k]'hkX = x := ⟨_, rfl⟩
   rw [hx] at LD HMK
   have hkr : Hid (∀ W, Upd (fun j => j = wr.heap.size) (wr.alloc (.cells zSpotL.toArray 104)) W → Blk W wr.heap.size (enS x).toArray 104 → Below w.heap.size w W ∧ Blk W r (intB ((nmOf X).take k ++ List.replicate (n - k) 0)) 3) := fun W hu _ => by
    have hs := HBB.out.size
    have hb : Below w.heap.size w W := (HBB.out.alloc hs _).trans (hu.below (by simp; omega) (fun j hj e => by omega))
    refine ⟨hb, ?_⟩
    have h0 : Blk (wr.alloc (.cells zSpotL.toArray 104)) r (intB ((nmOf X).take k ++ List.replicate (n - k) 0)) 3 := Blk.alloc HBK.out _
    exact Blk.upd h0 hu (fun e => by have := Blk.lt HBK.out; omega)
   have STEP : Hid (∀ W v, Blk W r (intB (((nmOf X).take k ++ List.replicate (n - k) 0).set k v)) 3 → v = idxI X x.a.par → Blk W r (intB ((nmOf X).take (k + 1) ++ List.replicate (n - (k + 1)) 0)) 3) := fun W v hW hv => by
    rw [← fill_step (nmOf X) n k HLN.out hlt 0, HMK.out, ← hv]
    exact hW
   have GET : Hid (∀ W (L : List Int) v, Blk W r (intB (L.set k v)) 3 → k < L.length → W.cell? ⟨r, k, none⟩ = some (.int .i64 v)) := fun W L v hW hL => Blk.cell hW k (by rw [intB_get _ _ (by simpa using hL)]; simp)
   have hlen : Hid (k < ((nmOf X).take k ++ List.replicate (n - k) 0).length) := (fill_at (nmOf X) n k HLN.out hlt 0).1
   have GET0 : Hid (∀ W, Blk W r (intB ((nmOf X).take k ++ List.replicate (n - k) 0)) 3 → W.cell? ⟨r, k, none⟩ = some (.int .i64 0)) := fun W hW => Blk.cell hW k (by rw [intB_get _ _ hlen.out]; obtain ⟨_, h2⟩ := fill_at (nmOf X) n k HLN.out hlt 0; rw [h2])
   clear hMk hx
   go_wp2_with (first
    | (refine wpList_spot rfl _ rfl sb _ x LD.out rfl ?_)
    | (refine wpList_stW rfl 104 _ _ rfl wr.heap.size zSpotL (enS x) 104 (Blk.new _ _ _) rfl rfl rfl (by kernel_rfl) (enS_one _) ?_; intro w2 n2 u2; obtain ⟨hb2, hr2⟩ := hkr.out w2 u2 n2; have e3 : w2.cell? ⟨wr.heap.size, 3, none⟩ = some (.int .u64 x.a.par) := Blk.cell n2 3 rfl; have d1 := GET0.out w2 hr2; have d2 := Blk.frozen hr2 k; have hr3 := Blk.set hr2 k (.int .i64 (-1)); rw [intB_set] at hr3; have hb3 : Below w.heap.size w (w2.setCell ⟨r, k, none⟩ (.int .i64 (-1))) := Below.setCell hb2 (by have := HRR.out; simp; omega) _; have hne : r ≠ wr.heap.size := (by have := Blk.lt HBK.out; omega); have HN2 : Hid (Blk w2 wr.heap.size (enS x).toArray 104) := n2; have HR3 : Hid (Blk (w2.setCell ⟨r, k, none⟩ (.int .i64 (-1))) r (intB (((nmOf X).take k ++ List.replicate (n - k) 0).set k (-1))) 3) := hr3; have HB3 : Hid (Below w.heap.size w (w2.setCell ⟨r, k, none⟩ (.int .i64 (-1)))) := hb3; clear n2 u2 hb2 hr2 hr3 hb3)
    | (go_at_call 36; refine (HFA.out x.a.par _ HB3.out).mono ?_; rintro e w4 ⟨⟨j, b, rfl, hj1, hj2⟩, hb4⟩; have hr4 := Blk.below HR3.out hb4 (Blk.lt HR3.out); have g1 := GET.out w4 _ (-1) hr4 hlen.out; have g2 := Blk.frozen hr4 k; have HR4 : Hid (Blk w4 r (intB (((nmOf X).take k ++ List.replicate (n - k) 0).set k (-1))) 3) := hr4; have HB4 : Hid (Below w.heap.size w w4) := HB3.out.trans (hb4.mono HB3.out.size); clear hr4 hb4; cases b))
   ·go_roundw
    case rel => exact ⟨k + 1, by simp, by omega, STEP.out w4 (-1) HR4.out (hj2 (by simp)).symm, HB4.out⟩
    case measure => simp [intOf]; omega
   ·go_roundw
    case rel =>
     refine ⟨k + 1, by simp, by omega, ?_, Below.setCell HB4.out (by have := HRR.out; simp; omega) _⟩
     have h5 := Blk.set HR4.out k (.int .i64 (j : Int))
     rw [intB_set, List.set_set] at h5
     exact STEP.out _ _ h5 (hj1 (by simp)).symm
    case measure => simp [intOf]; omega
  ·obtain rfl : k = n := by omega
   go_wp2
   go_ret
   refine ⟨r, rfl, ?_, by have := HRR.out; omega, HBB.out⟩
   have := HBK.out
   rw [List.take_of_length_le (by rw [HLN.out]; exact Nat.le_refl _), Nat.sub_self, List.replicate_zero, List.append_nil] at this
   exact this
end Go.Proofs.YtnffedmcblbkoaaGreatDoor
