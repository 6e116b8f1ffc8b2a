/-
  FT.
-/
import Derived.Test.YtipkolmkpfpjjaaGreatDoorFS
import Derived.Deep.RegionHeld3
namespace Go.Proofs.YtipkolmkpfpjjaaGreatDoor
open Go Go.Shelf Go.RowKit Go.Lib Go.Sort
set_option maxRecDepth 100000

def cmpK (a b : Nod) : Int := orL [cmpI a.fr b.fr, cmpI a.id b.id]
theorem grown3 (W : World) (o1 o2 o3 : Obj) (n m : Nat) : ∃ q os', ((((W.alloc o1).alloc o2).drewN n).alloc o3).drewN m = grow (W.drewN q) os' := by
  refine ⟨n + m, #[o1] ++ #[o2] ++ #[o3], ?_⟩
  have e : ((W.heap.push o1).push o2).push o3 = W.heap ++ (#[o1] ++ #[o2] ++ #[o3]) := by
    apply Array.toList_inj.1
    simp
  simp only [World.alloc, World.drewN, grow]
  simp only [e, Nat.add_assoc]
structure CmpF (w : World) (f sb bx N i j : Nat) (x y : Spot) : Prop where
  all : w.cell? ⟨bx, 0, none⟩ = some (.pointer (some ⟨f, 0, none⟩)) ∧ w.cell? ⟨f, 0, none⟩ = some (.slice (some ⟨sb, 0, none⟩) N N) ∧ w.cell? ⟨sb, i * 21 + 13, none⟩ = some (.int .u64 x.nd.id) ∧ w.cell? ⟨sb, i * 21 + 13 + 1, none⟩ = some (.int .u64 x.nd.par) ∧ w.cell? ⟨sb, i * 21 + 13 + 2, none⟩ = some (.int .i64 x.nd.org) ∧ w.cell? ⟨sb, i * 21 + 13 + 3, none⟩ = some (.int .u64 x.nd.tree) ∧ w.cell? ⟨sb, i * 21 + 13 + 4, none⟩ = some (.int .i64 x.nd.dep) ∧ w.cell? ⟨sb, i * 21 + 13 + 5, none⟩ = some (.int .i64 x.nd.fr) ∧ w.cell? ⟨sb, i * 21 + 13 + 6, none⟩ = some (.int .i64 x.nd.til) ∧ w.cell? ⟨sb, j * 21 + 13, none⟩ = some (.int .u64 y.nd.id) ∧ w.cell? ⟨sb, j * 21 + 13 + 1, none⟩ = some (.int .u64 y.nd.par) ∧ w.cell? ⟨sb, j * 21 + 13 + 2, none⟩ = some (.int .i64 y.nd.org) ∧ w.cell? ⟨sb, j * 21 + 13 + 3, none⟩ = some (.int .u64 y.nd.tree) ∧ w.cell? ⟨sb, j * 21 + 13 + 4, none⟩ = some (.int .i64 y.nd.dep) ∧ w.cell? ⟨sb, j * 21 + 13 + 5, none⟩ = some (.int .i64 y.nd.fr) ∧ w.cell? ⟨sb, j * 21 + 13 + 6, none⟩ = some (.int .i64 y.nd.til)
set_option maxHeartbeats 4000000 in
theorem sortCmp_any (f sb bx : Nat) (X : List Spot) (i j N : Nat) (W : World) (hx : W.cell? ⟨bx, 0, none⟩ = some (.pointer (some ⟨f, 0, none⟩))) (hf : W.cell? ⟨f, 0, none⟩ = some (.slice (some ⟨sb, 0, none⟩) N N)) (hN : X.length = N) (hB : Blk W sb (rowS X) 71) (hi : i < N) (hj : j < N) :
    Calls Tryz.prog 67 #[.int .i64 i, .int .i64 j, .pointer (some ⟨bx, 0, none⟩)] W fun e w' => e = .returned (.int .i64 (cmpK (X[i]'(by omega)).nd (X[j]'(by omega)).nd)) ∧ ∃ q os', w' = grow (W.drewN q) os' := by
  have KP : ∀ w', Below W.heap.size W w' → CmpF w' f sb bx N i j (X[i]'(by omega)) (X[j]'(by omega)) := fun w' hb => by
    have hB' := hB.below hb hB.lt
    have si := hB'.spots i (by omega)
    have sj := hB'.spots j (by omega)
    exact ⟨(hb.cell (World.block_lt_of_cell? W _ hx)).trans hx, (hb.cell (World.block_lt_of_cell? W _ hf)).trans hf, si.c13, si.c14, si.c15, si.c16, si.c17, si.c18, si.c19, sj.c13, sj.c14, sj.c15, sj.c16, sj.c17, sj.c18, sj.c19⟩
  generalize (X[i]'(by omega)) = x at KP ⊢
  generalize (X[j]'(by omega)) = y at KP ⊢
  have K0 := (KP W (Below.refl _ _)).all
  have K1 := fun o => (KP (W.alloc o) ((Below.refl _ _).alloc (Nat.le_refl _) _)).all
  have K2 := fun o o' => (KP ((W.alloc o).alloc o') (((Below.refl _ _).alloc (Nat.le_refl _) _).alloc (by simp) _)).all
  obtain ⟨p0, p1, p2, p3, p4, p5, p6, p7, p8, p9, p10, p11, p12, p13, p14, p15⟩ := K0
  have q0 := fun o => (K1 o).1
  have r0 := fun o o' => (K2 o o').1
  have q1 := fun o => (K1 o).2.1
  have r1 := fun o o' => (K2 o o').2.1
  have q2 := fun o => (K1 o).2.2.1
  have r2 := fun o o' => (K2 o o').2.2.1
  have q3 := fun o => (K1 o).2.2.2.1
  have r3 := fun o o' => (K2 o o').2.2.2.1
  have q4 := fun o => (K1 o).2.2.2.2.1
  have r4 := fun o o' => (K2 o o').2.2.2.2.1
  have q5 := fun o => (K1 o).2.2.2.2.2.1
  have r5 := fun o o' => (K2 o o').2.2.2.2.2.1
  have q6 := fun o => (K1 o).2.2.2.2.2.2.1
  have r6 := fun o o' => (K2 o o').2.2.2.2.2.2.1
  have q7 := fun o => (K1 o).2.2.2.2.2.2.2.1
  have r7 := fun o o' => (K2 o o').2.2.2.2.2.2.2.1
  have q8 := fun o => (K1 o).2.2.2.2.2.2.2.2.1
  have r8 := fun o o' => (K2 o o').2.2.2.2.2.2.2.2.1
  have q9 := fun o => (K1 o).2.2.2.2.2.2.2.2.2.1
  have r9 := fun o o' => (K2 o o').2.2.2.2.2.2.2.2.2.1
  have q10 := fun o => (K1 o).2.2.2.2.2.2.2.2.2.2.1
  have r10 := fun o o' => (K2 o o').2.2.2.2.2.2.2.2.2.2.1
  have q11 := fun o => (K1 o).2.2.2.2.2.2.2.2.2.2.2.1
  have r11 := fun o o' => (K2 o o').2.2.2.2.2.2.2.2.2.2.2.1
  have q12 := fun o => (K1 o).2.2.2.2.2.2.2.2.2.2.2.2.1
  have r12 := fun o o' => (K2 o o').2.2.2.2.2.2.2.2.2.2.2.2.1
  have q13 := fun o => (K1 o).2.2.2.2.2.2.2.2.2.2.2.2.2.1
  have r13 := fun o o' => (K2 o o').2.2.2.2.2.2.2.2.2.2.2.2.2.1
  have q14 := fun o => (K1 o).2.2.2.2.2.2.2.2.2.2.2.2.2.2.1
  have r14 := fun o o' => (K2 o o').2.2.2.2.2.2.2.2.2.2.2.2.2.2.1
  have q15 := fun o => (K1 o).2.2.2.2.2.2.2.2.2.2.2.2.2.2.2
  have r15 := fun o o' => (K2 o o').2.2.2.2.2.2.2.2.2.2.2.2.2.2.2
  clear K1 K2
  clear hB hx hf KP
  have OR := fun w' n h => or_at w' n [cmpI x.nd.fr y.nd.fr, cmpI x.nd.id y.nd.id] h (by simp)
  simp only [List.map, List.length] at OR
  unfold cmpK
  go_enter Tryz.func67, Tryz.ntmps67
  go_wp2
  go_region
  · clear p0 p1 p2 p3 p4 p5 p6 p7 p8 p9 p10 p11 p12 p13 p14 p15 q0 r0 q1 r1 q2 r2 q3 r3 q4 r4 q5 r5 q6 r6 q7 r7 q8 r8 q9 r9 q10 r10 q11 r11 q12 r12 q13 r13 q14 r14 q15 r15
    obtain ⟨V, hV⟩ : ∃ V, (((W.alloc (.cells #[.int .u64 x.nd.id, .int .u64 x.nd.par, .int .i64 x.nd.org, .int .u64 x.nd.tree, .int .i64 x.nd.dep, .int .i64 x.nd.fr, .int .i64 x.nd.til] 49)).alloc (.cells #[.int .u64 y.nd.id, .int .u64 y.nd.par, .int .i64 y.nd.org, .int .u64 y.nd.tree, .int .i64 y.nd.dep, .int .i64 y.nd.fr, .int .i64 y.nd.til] 49)).drew) = V := ⟨_, rfl⟩
    have v0 : V.cell? ⟨W.heap.size, 5, none⟩ = some (.int .i64 x.nd.fr) := by rw [← hV]; simp [go_sem, World.cell?_alloc_past]
    have v1 : V.cell? ⟨W.heap.size, 0, none⟩ = some (.int .u64 x.nd.id) := by rw [← hV]; simp [go_sem, World.cell?_alloc_past]
    have v2 : V.cell? ⟨W.heap.size + 1, 5, none⟩ = some (.int .i64 y.nd.fr) := by rw [← hV]; simp [go_sem]
    have v3 : V.cell? ⟨W.heap.size + 1, 0, none⟩ = some (.int .u64 y.nd.id) := by rw [← hV]; simp [go_sem]
    have n0 : ∀ o, (V.alloc o).cell? ⟨W.heap.size, 5, none⟩ = some (.int .i64 x.nd.fr) := fun o => (((Below.refl V.heap.size V).alloc (Nat.le_refl _) o).cell (p := ⟨_, 5, none⟩) (World.block_lt_of_cell? V _ v0)).trans v0
    have n1 : ∀ o, (V.alloc o).cell? ⟨W.heap.size, 0, none⟩ = some (.int .u64 x.nd.id) := fun o => (((Below.refl V.heap.size V).alloc (Nat.le_refl _) o).cell (p := ⟨_, 0, none⟩) (World.block_lt_of_cell? V _ v1)).trans v1
    have n2 : ∀ o, (V.alloc o).cell? ⟨W.heap.size + 1, 5, none⟩ = some (.int .i64 y.nd.fr) := fun o => (((Below.refl V.heap.size V).alloc (Nat.le_refl _) o).cell (p := ⟨_, 5, none⟩) (World.block_lt_of_cell? V _ v2)).trans v2
    have n3 : ∀ o, (V.alloc o).cell? ⟨W.heap.size + 1, 0, none⟩ = some (.int .u64 y.nd.id) := fun o => (((Below.refl V.heap.size V).alloc (Nat.le_refl _) o).cell (p := ⟨_, 0, none⟩) (World.block_lt_of_cell? V _ v3)).trans v3
    have HG : Hid (∀ o, ∃ q os', (V.alloc o).drew = grow (W.drewN q) os') := fun o => by rw [← hV]; exact grown3 W _ _ o 1 1
    rw [hV]
    clear hV
    go_wp2
    go_region_held3 (fun w' => w'.cell? ⟨W.heap.size, 5, none⟩ = some (.int .i64 x.nd.fr) ∧ w'.cell? ⟨W.heap.size, 0, none⟩ = some (.int .u64 x.nd.id) ∧ w'.cell? ⟨W.heap.size + 1, 5, none⟩ = some (.int .i64 y.nd.fr) ∧ w'.cell? ⟨W.heap.size + 1, 0, none⟩ = some (.int .u64 y.nd.id)) (simp [go_sem, v0, v1, v2, v3, n0, n1, n2, n3])
      (first
        | (go_at_call 69; refine (cmp_i64 _ _ _).mono ?_; rintro e w' ⟨rfl, rfl⟩)
        | (go_at_call 23; refine (cmp_id _ _ _).mono ?_; rintro e w' ⟨rfl, rfl⟩)
        | (go_at_call 68; refine (OR _ _ rfl).mono ?_; rintro e w' ⟨rfl, rfl⟩))
    go_wp2
    go_ret
    refine ⟨rfl, ?_⟩
    exact HG.out _
  · clear p0 p1 p2 p3 p4 p5 p6 p7 p8 p9 p10 p11 p12 p13 p14 p15 q0 r0 q1 r1 q2 r2 q3 r3 q4 r4 q5 r5 q6 r6 q7 r7 q8 r8 q9 r9 q10 r10 q11 r11 q12 r12 q13 r13 q14 r14 q15 r15
    obtain ⟨V, hV⟩ : ∃ V, (((W.alloc (.cells #[.int .u64 y.nd.id, .int .u64 y.nd.par, .int .i64 y.nd.org, .int .u64 y.nd.tree, .int .i64 y.nd.dep, .int .i64 y.nd.fr, .int .i64 y.nd.til] 49)).alloc (.cells #[.int .u64 x.nd.id, .int .u64 x.nd.par, .int .i64 x.nd.org, .int .u64 x.nd.tree, .int .i64 x.nd.dep, .int .i64 x.nd.fr, .int .i64 x.nd.til] 49)).drew) = V := ⟨_, rfl⟩
    have v0 : V.cell? ⟨W.heap.size + 1, 5, none⟩ = some (.int .i64 x.nd.fr) := by rw [← hV]; simp [go_sem]
    have v1 : V.cell? ⟨W.heap.size + 1, 0, none⟩ = some (.int .u64 x.nd.id) := by rw [← hV]; simp [go_sem]
    have v2 : V.cell? ⟨W.heap.size, 5, none⟩ = some (.int .i64 y.nd.fr) := by rw [← hV]; simp [go_sem, World.cell?_alloc_past]
    have v3 : V.cell? ⟨W.heap.size, 0, none⟩ = some (.int .u64 y.nd.id) := by rw [← hV]; simp [go_sem, World.cell?_alloc_past]
    have n0 : ∀ o, (V.alloc o).cell? ⟨W.heap.size + 1, 5, none⟩ = some (.int .i64 x.nd.fr) := fun o => (((Below.refl V.heap.size V).alloc (Nat.le_refl _) o).cell (p := ⟨_, 5, none⟩) (World.block_lt_of_cell? V _ v0)).trans v0
    have n1 : ∀ o, (V.alloc o).cell? ⟨W.heap.size + 1, 0, none⟩ = some (.int .u64 x.nd.id) := fun o => (((Below.refl V.heap.size V).alloc (Nat.le_refl _) o).cell (p := ⟨_, 0, none⟩) (World.block_lt_of_cell? V _ v1)).trans v1
    have n2 : ∀ o, (V.alloc o).cell? ⟨W.heap.size, 5, none⟩ = some (.int .i64 y.nd.fr) := fun o => (((Below.refl V.heap.size V).alloc (Nat.le_refl _) o).cell (p := ⟨_, 5, none⟩) (World.block_lt_of_cell? V _ v2)).trans v2
    have n3 : ∀ o, (V.alloc o).cell? ⟨W.heap.size, 0, none⟩ = some (.int .u64 y.nd.id) := fun o => (((Below.refl V.heap.size V).alloc (Nat.le_refl _) o).cell (p := ⟨_, 0, none⟩) (World.block_lt_of_cell? V _ v3)).trans v3
    have HG : Hid (∀ o, ∃ q os', (V.alloc o).drew = grow (W.drewN q) os') := fun o => by rw [← hV]; exact grown3 W _ _ o 1 1
    rw [hV]
    clear hV
    go_wp2
    go_region_held3 (fun w' => w'.cell? ⟨W.heap.size + 1, 5, none⟩ = some (.int .i64 x.nd.fr) ∧ w'.cell? ⟨W.heap.size + 1, 0, none⟩ = some (.int .u64 x.nd.id) ∧ w'.cell? ⟨W.heap.size, 5, none⟩ = some (.int .i64 y.nd.fr) ∧ w'.cell? ⟨W.heap.size, 0, none⟩ = some (.int .u64 y.nd.id)) (simp [go_sem, v0, v1, v2, v3, n0, n1, n2, n3])
      (first
        | (go_at_call 69; refine (cmp_i64 _ _ _).mono ?_; rintro e w' ⟨rfl, rfl⟩)
        | (go_at_call 23; refine (cmp_id _ _ _).mono ?_; rintro e w' ⟨rfl, rfl⟩)
        | (go_at_call 68; refine (OR _ _ rfl).mono ?_; rintro e w' ⟨rfl, rfl⟩))
    go_wp2
    go_ret
    refine ⟨rfl, ?_⟩
    exact HG.out _
end Go.Proofs.YtipkolmkpfpjjaaGreatDoor
