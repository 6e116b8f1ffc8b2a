/-
  FH.
-/
import Derived.Test.YtipkolmkpfpjjaaGreatDoorYcq
import Derived.Test.YtipkolmkpfpjjaaGreatDoorVb
import Derived.Deep.RegionHeld3
namespace Go.Proofs.YtipkolmkpfpjjaaGreatDoor
open Go Go.RowKit
set_option maxRecDepth 100000

def ivL (a b : Int) : List Value := [.int .i64 a, .int .i64 b]
theorem blk_loadI {w : World} {b : Nat} {x y : Int} (h : Blk w b (ivL x y).toArray 47) : (loadVar 47 ⟨b, 0, none⟩).run Tryz.prog w = .ok (.agg #[.int .i64 x, .int .i64 y]) w :=
  run_loadVar_mid w b 0 47 (ivL x y) _ (fun j v hv => by rw [Nat.zero_add]; exact h.cell j (by rw [List.getElem?_toArray]; exact hv)) Tryz.underlying47 rfl (by kernel_rfl)
set_option maxHeartbeats 1000000 in
theorem interval_any (sb o : Nat) (s t : Int) (w : World) (h9 : w.cell? ⟨sb, o + 9, none⟩ = some (.int .i64 s)) (h10 : w.cell? ⟨sb, o + 10, none⟩ = some (.int .i64 t)) :
    Calls Tryz.prog 65 #[.pointer (some ⟨sb, o, none⟩)] w fun e w' => e = .returned (.agg #[.int .i64 s, .int .i64 t]) ∧ Below w.heap.size w w' := by
  have q9 := fun ob => (((Below.refl w.heap.size w).alloc (Nat.le_refl _) ob).cell (p := ⟨sb, o + 9, none⟩) (World.block_lt_of_cell? w _ h9)).trans h9
  have q10 := fun ob => (((Below.refl w.heap.size w).alloc (Nat.le_refl _) ob).cell (p := ⟨sb, o + 10, none⟩) (World.block_lt_of_cell? w _ h10)).trans h10
  go_enter Tryz.func65, Tryz.ntmps65
  go_wp2
  go_region
  all_goals
    go_wp2
    go_returns
    refine ⟨rfl, ?_⟩
    repeat' first | exact Below.refl _ _ | refine Below.drew ?_ | refine Below.alloc ?_ (by simp <;> omega) _ | refine Below.setCell ?_ ?_ _
/-- With nobody above it. -/
def rootN (x : Spot) : Nod := { x.nd with org := if x.nd.org = 3 then 3 else if x.a.par = 0 then 1 else 2, tree := x.nd.id, fr := x.a.start, til := x.a.fin }
def rootS (x : Spot) : Spot := { x with nd := rootN x }
theorem set_last (X : List Spot) (i : Nat) (y z : Spot) : (X.set i y).set i z = X.set i z := by simp
theorem put5 {w : World} {sb i : Nat} {X : List Spot} (h : Blk w sb (rowS X) 71) (hi : i < X.length) (v : Int) : Blk (w.setCell ⟨sb, i * 21 + 13 + 2, none⟩ (.int .i64 v)) sb (rowS (X.set i { X[i] with nd := { X[i].nd with org := v } })) 71 :=
  h.setS i hi 15 (by omega) _ _ rfl
theorem put6 {w : World} {sb i : Nat} {X : List Spot} (h : Blk w sb (rowS X) 71) (hi : i < X.length) (v : Int) : Blk (w.setCell ⟨sb, i * 21 + 13 + 3, none⟩ (.int .u64 v)) sb (rowS (X.set i { X[i] with nd := { X[i].nd with tree := v } })) 71 :=
  h.setS i hi 16 (by omega) _ _ rfl
theorem put8 {w : World} {sb i : Nat} {X : List Spot} (h : Blk w sb (rowS X) 71) (hi : i < X.length) (v : Int) : Blk (w.setCell ⟨sb, i * 21 + 13 + 5, none⟩ (.int .i64 v)) sb (rowS (X.set i { X[i] with nd := { X[i].nd with fr := v } })) 71 :=
  h.setS i hi 18 (by omega) _ _ rfl
theorem put9 {w : World} {sb i : Nat} {X : List Spot} (h : Blk w sb (rowS X) 71) (hi : i < X.length) (v : Int) : Blk (w.setCell ⟨sb, i * 21 + 13 + 5 + 1, none⟩ (.int .i64 v)) sb (rowS (X.set i { X[i] with nd := { X[i].nd with til := v } })) 71 :=
  h.setS i hi 19 (by omega) _ _ rfl
/-- What root asks of the spot's cells. -/
structure RootF (w : World) (sb i : Nat) (x : Spot) : Prop where
  par : w.cell? ⟨sb, i * 21 + 3, none⟩ = some (.int .u64 x.a.par)
  st : w.cell? ⟨sb, i * 21 + 9, none⟩ = some (.int .i64 x.a.start)
  fn : w.cell? ⟨sb, i * 21 + 10, none⟩ = some (.int .i64 x.a.fin)
  id : w.cell? ⟨sb, i * 21 + 13, none⟩ = some (.int .u64 x.nd.id)
  up : w.cell? ⟨sb, i * 21 + 13 + 1, none⟩ = some (.int .u64 x.nd.par)
  org : w.cell? ⟨sb, i * 21 + 13 + 2, none⟩ = some (.int .i64 x.nd.org)
  tree : w.cell? ⟨sb, i * 21 + 13 + 3, none⟩ = some (.int .u64 x.nd.tree)
  dep : w.cell? ⟨sb, i * 21 + 13 + 4, none⟩ = some (.int .i64 x.nd.dep)
  fr : w.cell? ⟨sb, i * 21 + 13 + 5, none⟩ = some (.int .i64 x.nd.fr)
  til : w.cell? ⟨sb, i * 21 + 13 + 5 + 1, none⟩ = some (.int .i64 x.nd.til)
  fz : ∀ j, w.frozen? ⟨sb, j, none⟩ = false
theorem Blk.rootF {w : World} {sb i : Nat} {X : List Spot} (h : Blk w sb (rowS X) 71) (hi : i < X.length) : RootF w sb i X[i] :=
  ⟨(h.spots i hi).c3, (h.spots i hi).c9, (h.spots i hi).c10, (h.spots i hi).c13, (h.spots i hi).c14, (h.spots i hi).c15, (h.spots i hi).c16, (h.spots i hi).c17, (h.spots i hi).c18, (h.spots i hi).c19, fun j => h.frozen j⟩
theorem root_fin {w w1 w2 : World} {sb i : Nat} {X X1 : List Spot} (hB1 : Blk w1 sb (rowS X1) 71) (hb : Below w1.heap.size w1 w2) (hu : Upd (fun k => k = sb) w w1) (h1 : i < X1.length) (s t : Int) (y : Spot) (he : X1.set i { X1[i] with nd := { X1[i].nd with fr := s, til := t } } = X.set i y) : Blk ((w2.setCell ⟨sb, i * 21 + 13 + 5, none⟩ (.int .i64 s)).setCell ⟨sb, i * 21 + 13 + 5 + 1, none⟩ (.int .i64 t)) sb (rowS (X.set i y)) 71 ∧ Upd (fun k => k = sb) w ((w2.setCell ⟨sb, i * 21 + 13 + 5, none⟩ (.int .i64 s)).setCell ⟨sb, i * 21 + 13 + 5 + 1, none⟩ (.int .i64 t)) := by
  have hB2 := hB1.below hb hB1.lt
  refine ⟨?_, ?_⟩
  · have a := put9 (put8 hB2 h1 s) (by simpa using h1) t
    rw [set_last] at a
    simp only [List.getElem_set_self] at a
    rw [he] at a
    exact a
  · have u2 : Upd (fun k => k = sb) w w2 := hu.trans (S' := fun _ => False) (Upd.ofBelow hb (fun k h1 h2 => by omega)) (fun _ _ h => h.elim)
    exact Upd.setCell (p := ⟨sb, _, none⟩) (Upd.setCell (p := ⟨sb, _, none⟩) u2 (fun _ => rfl) _) (fun _ => rfl) _
set_option maxHeartbeats 2000000 in
theorem root_any (sb i : Nat) (X : List Spot) (w : World) (hB : Blk w sb (rowS X) 71) (hi : i < X.length) :
    Calls Tryz.prog 42 #[.pointer (some ⟨sb, i * 21, none⟩)] w fun e w' => e = .returned (.tuple #[]) ∧ Blk w' sb (rowS (X.set i (rootS X[i]))) 71 ∧ Upd (fun k => k = sb) w w' := by
  have IV := fun W s t h9 h10 => interval_any sb (i * 21) s t W h9 h10
  have go : ∀ (w1 : World) (X1 : List Spot) (hB1 : Blk w1 sb (rowS X1) 71) (hl : X1.length = X.length) (h1 : i < X1.length), Upd (fun k => k = sb) w w1 → X1[i].a = X[i].a → (X1.set i { X1[i] with nd := { X1[i].nd with fr := X[i].a.start, til := X[i].a.fin } } = X.set i (rootS X[i])) → Calls Tryz.prog 65 #[.pointer (some ⟨sb, i * 21, none⟩)] w1 fun e w2 => e = .returned (.agg #[.int .i64 X[i].a.start, .int .i64 X[i].a.fin]) ∧ (w2.cell? ⟨sb, i * 21 + 13 + 5, none⟩ = some (.int .i64 X1[i].nd.fr) ∧ w2.cell? ⟨sb, i * 21 + 13 + 5 + 1, none⟩ = some (.int .i64 X1[i].nd.til) ∧ ∀ j, w2.frozen? ⟨sb, j, none⟩ = false) ∧ Blk ((w2.setCell ⟨sb, i * 21 + 13 + 5, none⟩ (.int .i64 X[i].a.start)).setCell ⟨sb, i * 21 + 13 + 5 + 1, none⟩ (.int .i64 X[i].a.fin)) sb (rowS (X.set i (rootS X[i]))) 71 ∧ Upd (fun k => k = sb) w ((w2.setCell ⟨sb, i * 21 + 13 + 5, none⟩ (.int .i64 X[i].a.start)).setCell ⟨sb, i * 21 + 13 + 5 + 1, none⟩ (.int .i64 X[i].a.fin)) := by
    intro w1 X1 hB1 hl h1 hu ha he
    have F1 := hB1.rootF h1
    refine (IV w1 X[i].a.start X[i].a.fin (by rw [← ha]; exact F1.st) (by rw [← ha]; exact F1.fn)).mono ?_
    rintro e w2 ⟨rfl, hb⟩
    have F2 := (hB1.below hb hB1.lt).rootF h1
    exact ⟨rfl, ⟨F2.fr, F2.til, F2.fz⟩, root_fin hB1 hb hu h1 _ _ _ he⟩
  obtain ⟨f1, f2, f3, f4, f5, f6, f7, f8, f9, f10, fz⟩ := hB.rootF hi
  have u0 : ∀ k v, Upd (fun k => k = sb) w (w.setCell ⟨sb, k, none⟩ v) := fun k v => Upd.setCell (S := fun k => k = sb) (p := ⟨sb, k, none⟩) (Upd.refl _ _) (fun _ => rfl) v
  have u1 : ∀ k v k' v', Upd (fun k => k = sb) w ((w.setCell ⟨sb, k, none⟩ v).setCell ⟨sb, k', none⟩ v') := fun k v k' v' => Upd.setCell (p := ⟨sb, k', none⟩) (u0 k v) (fun _ => rfl) v'
  by_cases h3 : X[i].nd.org = 3
  · have G := go _ _ (put6 hB hi X[i].nd.id) (by simp) (by simpa using hi) (u0 _ _) (by simp) (by simp [rootS, rootN, h3])
    generalize X.set i (rootS X[i]) = Y at G ⊢
    generalize X[i] = x at *
    clear go IV u0 u1 hB
    go_enter Tryz.func42, Tryz.ntmps42
    go_wp2_with (go_at_call 65; refine G.mono ?_; rintro e w2 ⟨rfl, ⟨g1, g2, gz⟩, r1, r2⟩)
    go_end0
    exact ⟨rfl, r1, r2⟩
  · by_cases hp : X[i].a.par = 0
    · have G := go _ _ (put6 (put5 hB hi 1) (by simpa using hi) X[i].nd.id) (by simp) (by simpa using hi) (u1 _ _ _ _) (by simp) (by simp [rootS, rootN, h3, hp])
      generalize X.set i (rootS X[i]) = Y at G ⊢
      generalize X[i] = x at *
      clear go IV u0 u1 hB
      go_enter Tryz.func42, Tryz.ntmps42
      go_wp2_with (go_at_call 65; refine G.mono ?_; rintro e w2 ⟨rfl, ⟨g1, g2, gz⟩, r1, r2⟩)
      go_end0
      exact ⟨rfl, r1, r2⟩
    · have G := go _ _ (put6 (put5 hB hi 2) (by simpa using hi) X[i].nd.id) (by simp) (by simpa using hi) (u1 _ _ _ _) (by simp) (by simp [rootS, rootN, h3, hp])
      generalize X.set i (rootS X[i]) = Y at G ⊢
      generalize X[i] = x at *
      clear go IV u0 u1 hB
      go_enter Tryz.func42, Tryz.ntmps42
      go_wp2_with (go_at_call 65; refine G.mono ?_; rintro e w2 ⟨rfl, ⟨g1, g2, gz⟩, r1, r2⟩)
      go_end0
      exact ⟨rfl, r1, r2⟩
/-- Beneath another one. -/
def hangN (x : Spot) (d : Nod) : Nod := { x.nd with par := d.id, tree := d.tree, dep := d.dep + 1, fr := (clipI (x.a.start, x.a.fin) (d.fr, d.til)).1, til := (clipI (x.a.start, x.a.fin) (d.fr, d.til)).2 }
def hangS (x : Spot) (d : Nod) : Spot := { x with nd := hangN x d }
theorem put14 {w : World} {sb i : Nat} {X : List Spot} (h : Blk w sb (rowS X) 71) (hi : i < X.length) (v : Int) : Blk (w.setCell ⟨sb, i * 21 + 13 + 1, none⟩ (.int .u64 v)) sb (rowS (X.set i { X[i] with nd := { X[i].nd with par := v } })) 71 :=
  h.setS i hi 14 (by omega) _ _ rfl
theorem put17 {w : World} {sb i : Nat} {X : List Spot} (h : Blk w sb (rowS X) 71) (hi : i < X.length) (v : Int) : Blk (w.setCell ⟨sb, i * 21 + 13 + 4, none⟩ (.int .i64 v)) sb (rowS (X.set i { X[i] with nd := { X[i].nd with dep := v } })) 71 :=
  h.setS i hi 17 (by omega) _ _ rfl
structure HangF (w : World) (sb i n : Nat) (s t fr til a b : Int) : Prop where
  all : w.cell? ⟨sb, i * 21 + 9, none⟩ = some (.int .i64 s) ∧ w.cell? ⟨sb, i * 21 + 10, none⟩ = some (.int .i64 t) ∧ w.cell? ⟨sb, i * 21 + 13 + 5, none⟩ = some (.int .i64 fr) ∧ w.cell? ⟨sb, i * 21 + 13 + 5 + 1, none⟩ = some (.int .i64 til) ∧ w.cell? ⟨n, 5, none⟩ = some (.int .i64 a) ∧ w.cell? ⟨n, 6, none⟩ = some (.int .i64 b) ∧ w.frozen? ⟨sb, i * 21 + 13 + 5, none⟩ = false ∧ w.frozen? ⟨sb, i * 21 + 13 + 5 + 1, none⟩ = false
set_option maxHeartbeats 4000000 in
theorem hang_any (sb i : Nat) (X : List Spot) (d : Nod) (w : World) (hB : Blk w sb (rowS X) 71) (hi : i < X.length) (hd : 0 ≤ d.dep ∧ d.dep ≤ 1000000) :
    Calls Tryz.prog 45 #[.pointer (some ⟨sb, i * 21, none⟩), ndV d] w fun e w' => e = .returned (.tuple #[]) ∧ Blk w' sb (rowS (X.set i (hangS X[i] d))) 71 ∧ Upd (fun k => k = sb) w w' := by
  obtain ⟨W1, hW1⟩ : ∃ W1, (((w.alloc (.cells (ndL d).toArray 49)).setCell ⟨sb, i * 21 + 13 + 1, none⟩ (.int .u64 d.id)).setCell ⟨sb, i * 21 + 13 + 3, none⟩ (.int .u64 d.tree)).setCell ⟨sb, i * 21 + 13 + 4, none⟩ (.int .i64 (d.dep + 1)) = W1 := ⟨_, rfl⟩
  have hB0 := hB.alloc (.cells (ndL d).toArray 49)
  have hne : w.heap.size ≠ sb := fun e => by have := hB.lt; omega
  have hB1 := put17 (put6 (put14 hB0 hi d.id) (by simpa using hi) d.tree) (by simpa using hi) (d.dep + 1)
  have hN1 : Blk W1 w.heap.size (ndL d).toArray 49 := by
    rw [← hW1]
    exact (((Blk.new w _ _).other _ _ hne).other _ _ hne).other _ _ hne
  rw [hW1] at hB1
  simp only [List.getElem_set_self, List.set_set] at hB1
  have hu1 : Upd (fun k => k = sb) w W1 := by
    rw [← hW1]
    exact Upd.setCell (p := ⟨sb, _, none⟩) (Upd.setCell (p := ⟨sb, _, none⟩) (Upd.setCell (S := fun k => k = sb) (p := ⟨sb, _, none⟩) ((Upd.refl _ w).alloc _) (fun _ => rfl) _) (fun _ => rfl) _) (fun _ => rfl) _
  obtain ⟨y, hy⟩ : ∃ y : Spot, ({ X[i] with nd := { X[i].nd with par := d.id, tree := d.tree, dep := d.dep + 1 } } : Spot) = y := ⟨_, rfl⟩
  have hya : y.a = X[i].a := by rw [← hy]
  have hyh : ∀ s t : Int, ({ y with nd := { y.nd with fr := s, til := t } } : Spot) = { X[i] with nd := { X[i].nd with par := d.id, tree := d.tree, dep := d.dep + 1, fr := s, til := t } } := fun s t => by rw [← hy]
  have hB1' : Blk W1 sb (rowS (X.set i y)) 71 := by rw [← hy]; exact hB1
  have hiy : i < (X.set i y).length := by simpa using hi
  have ey : (X.set i y)[i]'hiy = y := by simp
  have KP : ∀ w', Below W1.heap.size W1 w' → HangF w' sb i w.heap.size X[i].a.start X[i].a.fin y.nd.fr y.nd.til d.fr d.til := fun w' hb => by
    have F := (hB1'.below hb hB1'.lt).rootF hiy
    rw [ey] at F
    have N := hN1.below hb hN1.lt
    exact ⟨by rw [← hya]; exact F.st, by rw [← hya]; exact F.fn, F.fr, F.til, N.cell 5 rfl, N.cell 6 rfl, F.fz _, F.fz _⟩
  have FIN : ∀ w', Below W1.heap.size W1 w' → Blk ((w'.setCell ⟨sb, i * 21 + 13 + 5, none⟩ (.int .i64 (clipI (X[i].a.start, X[i].a.fin) (d.fr, d.til)).1)).setCell ⟨sb, i * 21 + 13 + 5 + 1, none⟩ (.int .i64 (clipI (X[i].a.start, X[i].a.fin) (d.fr, d.til)).2)) sb (rowS (X.set i (hangS X[i] d))) 71 ∧ Upd (fun k => k = sb) w ((w'.setCell ⟨sb, i * 21 + 13 + 5, none⟩ (.int .i64 (clipI (X[i].a.start, X[i].a.fin) (d.fr, d.til)).1)).setCell ⟨sb, i * 21 + 13 + 5 + 1, none⟩ (.int .i64 (clipI (X[i].a.start, X[i].a.fin) (d.fr, d.til)).2)) := fun w' hb =>
    root_fin hB1' hb hu1 hiy _ _ _ (by rw [ey, hyh, List.set_set]; rfl)
  have F0 := hB0.rootF hi
  obtain ⟨f1, f2, f3, f4, f5, f6, f7, f8, f9, f10, fz⟩ := F0
  generalize X.set i (hangS X[i] d) = Y at FIN ⊢
  have IV := fun W => interval_any sb (i * 21) (X[i].a.start) (X[i].a.fin) W
  have CL := fun W => clip_any (X[i].a.start, X[i].a.fin) (d.fr, d.til) W
  generalize clipI (X[i].a.start, X[i].a.fin) (d.fr, d.til) = c at FIN CL
  generalize X[i].a.start = st at *
  generalize X[i].a.fin = fi at *
  have HKP : Hid (∀ w', Below W1.heap.size W1 w' → HangF w' sb i w.heap.size st fi y.nd.fr y.nd.til d.fr d.til) := KP
  have HFIN : Hid _ := FIN
  clear hB hB0 hB1 hB1' hN1 hu1 hy hya hyh hiy ey KP FIN
  have hd1 := hd.1
  have hd2 := hd.2
  have hne' : sb ≠ w.heap.size := fun e => hne e.symm
  have S0 := (HKP.out W1 (Below.refl _ _)).all
  unfold ndV
  unfold ndL at *
  go_enter Tryz.func45, Tryz.ntmps45
  go_wp2
  (try rw [hW1])
  clear hW1 f1 f2 f3 f4 f5 f6 f7 f8 f9 f10 fz
  obtain ⟨y1, y2, y3, y4, y5, y6, y7, y8⟩ := S0
  go_region_held3 (fun w' => w'.cell? ⟨sb, i * 21 + 9, none⟩ = some (.int .i64 st) ∧ w'.cell? ⟨sb, i * 21 + 10, none⟩ = some (.int .i64 fi) ∧ w'.cell? ⟨w.heap.size, 5, none⟩ = some (.int .i64 d.fr) ∧ w'.cell? ⟨w.heap.size, 6, none⟩ = some (.int .i64 d.til)) (first | exact ⟨y1, y2, y5, y6⟩ | exact ⟨x1, x2, x5, x6⟩ | exact ⟨z1, z2, z5, z6⟩ | (simp [go_sem, z1, z2, z5, z6]; done))
    (first
      | (go_at_call 65; refine (IV _ (by exact y1) (by exact y2)).mono ?_; rintro e w5 ⟨rfl, hb5'⟩; have hb5 : Below W1.heap.size W1 w5 := ⟨hb5'.os, hb5'.tape, hb5'.output, hb5'.size, hb5'.block⟩; obtain ⟨x1, x2, x3, x4, x5, x6, x7, x8⟩ := (HKP.out w5 hb5).all)
      | (go_at_call 70; refine (CL _).mono ?_; rintro e w6 ⟨rfl, hb6⟩; have hb7 := hb5.trans (hb6.mono hb5.size); obtain ⟨z1, z2, z3, z4, z5, z6, z7, z8⟩ := (HKP.out w6 hb7).all))

  go_wp2
  go_end0
  exact ⟨rfl, HFIN.out _ hb7⟩
end Go.Proofs.YtipkolmkpfpjjaaGreatDoor
