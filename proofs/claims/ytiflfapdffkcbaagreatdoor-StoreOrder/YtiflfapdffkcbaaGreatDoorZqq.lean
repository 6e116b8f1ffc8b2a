/-
  Merged: Zq, Zr.
-/
import Derived.Test.YtiflfapdffkcbaaGreatDoorWaq
import Derived.Test.YtiflfapdffkcbaaGreatDoorZhq
namespace Go.Proofs.YtiflfapdffkcbaaGreatDoor
open Go.RowKit
set_option maxRecDepth 100000

theorem name_any (a : Sp) (p : Pl) (w : World) :
    Calls Tryz.prog 58 #[spV a p] w fun e w' => e = .returned (.agg #[.int .u64 a.hi, .int .u64 a.lo, .int .u64 a.id]) ∧ w' = (w.alloc (.cells (spC a p) 41)).alloc (.cells #[.int .u64 a.hi, .int .u64 a.lo, .int .u64 a.id] 97) := by
  unfold spV spC
  go_enter Tryz.func58, Tryz.ntmps58
  go_wp2
  simp [bodyPost, results, Tryz.results58, go_sem]

/-- A span with its name ahead. -/
def rkC (a : Sp) (p : Pl) : Array Value := #[.int .u64 a.hi, .int .u64 a.lo, .int .u64 a.id, .int .u64 a.hi, .int .u64 a.lo, .int .u64 a.id, .int .u64 a.par, .slice p.la a.links.length p.lc, .string a.svc, .string a.op, .int .i64 a.kind, .int .i64 a.status, .int .i64 a.start, .int .i64 a.fin, .slice p.aa a.attrs.length p.ac, .slice p.ea a.events.length p.ec]
theorem rank_any (a : Sp) (p : Pl) (w : World) :
    Calls Tryz.prog 44 #[spV a p] w fun e w' => e = .returned (.agg (rkC a p)) ∧ w' = ((((w.alloc (.cells (spC a p) 41)).alloc (.cells (rkC a p) 99)).alloc (.cells (spC a p) 41)).alloc (.cells #[.int .u64 a.hi, .int .u64 a.lo, .int .u64 a.id] 97)).drew := by
  have NM := name_any a p
  unfold spV spC at NM
  unfold rkC spV spC
  go_enter Tryz.func44, Tryz.ntmps44
  go_wp2
  go_region_held3 (fun w' => w'.cell? ⟨w.heap.size, 0, none⟩ = some (.int .u64 a.hi) ∧ w'.cell? ⟨w.heap.size, 1, none⟩ = some (.int .u64 a.lo) ∧ w'.cell? ⟨w.heap.size, 2, none⟩ = some (.int .u64 a.id) ∧ w'.cell? ⟨w.heap.size, 3, none⟩ = some (.int .u64 a.par) ∧ w'.cell? ⟨w.heap.size, 4, none⟩ = some (.slice p.la a.links.length p.lc) ∧ w'.cell? ⟨w.heap.size, 5, none⟩ = some (.string a.svc) ∧ w'.cell? ⟨w.heap.size, 6, none⟩ = some (.string a.op) ∧ w'.cell? ⟨w.heap.size, 7, none⟩ = some (.int .i64 a.kind) ∧ w'.cell? ⟨w.heap.size, 8, none⟩ = some (.int .i64 a.status) ∧ w'.cell? ⟨w.heap.size, 9, none⟩ = some (.int .i64 a.start) ∧ w'.cell? ⟨w.heap.size, 10, none⟩ = some (.int .i64 a.fin) ∧ w'.cell? ⟨w.heap.size, 11, none⟩ = some (.slice p.aa a.attrs.length p.ac) ∧ w'.cell? ⟨w.heap.size, 12, none⟩ = some (.slice p.ea a.events.length p.ec))
    (simp [go_sem, World.cell?_alloc_past])
    (first | (go_at_call 58; refine (NM _).mono ?_; rintro e w' ⟨rfl, rfl⟩))
  go_wp2
  simp [bodyPost, results, Tryz.results44, go_sem]
end Go.Proofs.YtiflfapdffkcbaaGreatDoor

namespace Go.Proofs.YtiflfapdffkcbaaGreatDoor
open Go.RowKit
set_option maxRecDepth 100000

set_option maxHeartbeats 1000000 in
theorem against_any (a b : Sp) (p q : Pl) (w : World) (ha : SpAt w a p) (hb : SpAt w b q) :
    Calls Tryz.prog 45 #[.agg (rkC a p), .agg (rkC b q)] w fun e w' => e = .returned (.int .i64 (cmpP a b)) ∧ Below w.heap.size w w' := by
  have B2 : ∀ o1 o2 : Obj, Below w.heap.size w ((w.alloc o1).alloc o2) := fun o1 o2 => (((Below.refl _ _).alloc (Nat.le_refl _) _).alloc (by simp) _)
  have hg := guard_name
  by_cases hN : a.hi = b.hi ∧ a.lo = b.lo ∧ a.id = b.id
  · have hq : ∀ W, (binOp .neq 97 (.agg #[.int .u64 a.hi, .int .u64 a.lo, .int .u64 a.id]) (.agg #[.int .u64 b.hi, .int .u64 b.lo, .int .u64 b.id])).run Tryz.prog W = .ok (.bool false) W := fun W => by
      rw [run_neq_of (eqI_name 9997 a.hi a.lo a.id b.hi b.lo b.id W)]; simp [hN]
    have e0 : cmpP a b = cmpT a b := by unfold cmpP; rw [(cmpN_zero a b).2 hN]; rfl
    rw [e0]
    have TL := fun w' (h : Below w.heap.size w w') => tells_any a b p q w' (ha.below h) (hb.below h)
    unfold spV spC at TL
    unfold rkC
    clear ha hb hN e0
    go_enter Tryz.func45, Tryz.ntmps45
    go_wp2_with (go_at_call 61; refine (TL _ (B2 _ _)).mono ?_; rintro e w' ⟨rfl, hb'⟩; have hB := (B2 _ _).trans (hb'.mono (B2 _ _).size))
    go_ret
    exact ⟨rfl, hB⟩
  · have hq : ∀ W, (binOp .neq 97 (.agg #[.int .u64 a.hi, .int .u64 a.lo, .int .u64 a.id]) (.agg #[.int .u64 b.hi, .int .u64 b.lo, .int .u64 b.id])).run Tryz.prog W = .ok (.bool true) W := fun W => by
      rw [run_neq_of (eqI_name 9997 a.hi a.lo a.id b.hi b.lo b.id W)]; simp only [hN]; rfl
    have e0 : cmpP a b = cmpN a b := by
      unfold cmpP orI; rw [if_neg (fun h => hN ((cmpN_zero a b).1 h))]
    rw [e0]
    have OR := fun o1 o2 => or_at ((w.alloc o1).alloc o2) (w.heap.size + 1 + 1) [cmpI a.hi b.hi, cmpI a.lo b.lo, cmpI a.id b.id] (by simp) (by simp)
    simp only [List.map, List.length] at OR
    unfold rkC
    clear ha hb hN e0
    go_enter Tryz.func45, Tryz.ntmps45
    go_wp2
    go_region_held3 (fun w' => w'.cell? ⟨w.heap.size, 0, none⟩ = some (.int .u64 a.hi) ∧ w'.cell? ⟨w.heap.size, 1, none⟩ = some (.int .u64 a.lo) ∧ w'.cell? ⟨w.heap.size, 2, none⟩ = some (.int .u64 a.id) ∧ w'.cell? ⟨w.heap.size + 1, 0, none⟩ = some (.int .u64 b.hi) ∧ w'.cell? ⟨w.heap.size + 1, 1, none⟩ = some (.int .u64 b.lo) ∧ w'.cell? ⟨w.heap.size + 1, 2, none⟩ = some (.int .u64 b.id)) (simp [go_sem, World.cell?_alloc_past])
      (first
        | (go_at_call 60; refine (cmp_u64 _ _ _).mono ?_; rintro e w' ⟨rfl, rfl⟩)
        | (go_at_call 51; refine (cmp_id _ _ _).mono ?_; rintro e w' ⟨rfl, rfl⟩)
        | (go_at_call 59; refine (OR _ _).mono ?_; rintro e w' ⟨rfl, rfl⟩))
    go_wp2
    go_ret
    exact ⟨rfl, ((((Below.refl _ _).alloc (Nat.le_refl _) _).alloc (by simp) _).alloc (by simp; omega) _).drew⟩

/-- Two boxed spans stay. -/
theorem box2 {w w' : World} (a b : Sp) (p q : Pl) (hb : Below (w.heap.size + 2) ((w.alloc (.cells (spC a p) 41)).alloc (.cells (spC b q) 41)) w') :
    w'.cell? ⟨w.heap.size, 0, none⟩ = some (.int .u64 a.hi) ∧ w'.cell? ⟨w.heap.size, 1, none⟩ = some (.int .u64 a.lo) ∧ w'.cell? ⟨w.heap.size, 2, none⟩ = some (.int .u64 a.id) ∧ w'.cell? ⟨w.heap.size, 3, none⟩ = some (.int .u64 a.par) ∧ w'.cell? ⟨w.heap.size, 4, none⟩ = some (.slice p.la a.links.length p.lc) ∧ w'.cell? ⟨w.heap.size, 5, none⟩ = some (.string a.svc) ∧ w'.cell? ⟨w.heap.size, 6, none⟩ = some (.string a.op) ∧ w'.cell? ⟨w.heap.size, 7, none⟩ = some (.int .i64 a.kind) ∧ w'.cell? ⟨w.heap.size, 8, none⟩ = some (.int .i64 a.status) ∧ w'.cell? ⟨w.heap.size, 9, none⟩ = some (.int .i64 a.start) ∧ w'.cell? ⟨w.heap.size, 10, none⟩ = some (.int .i64 a.fin) ∧ w'.cell? ⟨w.heap.size, 11, none⟩ = some (.slice p.aa a.attrs.length p.ac) ∧ w'.cell? ⟨w.heap.size, 12, none⟩ = some (.slice p.ea a.events.length p.ec) ∧ w'.cell? ⟨w.heap.size + 1, 0, none⟩ = some (.int .u64 b.hi) ∧ w'.cell? ⟨w.heap.size + 1, 1, none⟩ = some (.int .u64 b.lo) ∧ w'.cell? ⟨w.heap.size + 1, 2, none⟩ = some (.int .u64 b.id) ∧ w'.cell? ⟨w.heap.size + 1, 3, none⟩ = some (.int .u64 b.par) ∧ w'.cell? ⟨w.heap.size + 1, 4, none⟩ = some (.slice q.la b.links.length q.lc) ∧ w'.cell? ⟨w.heap.size + 1, 5, none⟩ = some (.string b.svc) ∧ w'.cell? ⟨w.heap.size + 1, 6, none⟩ = some (.string b.op) ∧ w'.cell? ⟨w.heap.size + 1, 7, none⟩ = some (.int .i64 b.kind) ∧ w'.cell? ⟨w.heap.size + 1, 8, none⟩ = some (.int .i64 b.status) ∧ w'.cell? ⟨w.heap.size + 1, 9, none⟩ = some (.int .i64 b.start) ∧ w'.cell? ⟨w.heap.size + 1, 10, none⟩ = some (.int .i64 b.fin) ∧ w'.cell? ⟨w.heap.size + 1, 11, none⟩ = some (.slice q.aa b.attrs.length q.ac) ∧ w'.cell? ⟨w.heap.size + 1, 12, none⟩ = some (.slice q.ea b.events.length q.ec) := by
  have e0 : ∀ j, w'.cell? ⟨w.heap.size, j, none⟩ = _ := fun j => hb.cell (p := ⟨w.heap.size, j, none⟩) (by show w.heap.size < w.heap.size + 2; omega)
  have e1 : ∀ j, w'.cell? ⟨w.heap.size + 1, j, none⟩ = _ := fun j => hb.cell (p := ⟨w.heap.size + 1, j, none⟩) (by show w.heap.size + 1 < w.heap.size + 2; omega)
  simp only [e0, e1]
  simp [spC, go_sem, World.cell?_alloc_past]

set_option maxHeartbeats 1000000 in
theorem compare_any (a b : Sp) (p q : Pl) (w : World) (ha : SpAt w a p) (hb : SpAt w b q) :
    Calls Tryz.prog 32 #[spV a p, spV b q] w fun e w' => e = .returned (.int .i64 (cmpP a b)) ∧ Below w.heap.size w w' := by
  have RA := rank_any a p
  have RB := rank_any b q
  have AG := fun w' (h : Below w.heap.size w w') => against_any a b p q w' (ha.below h) (hb.below h)
  have BB : ∀ o1 o2 o3 o4 o5 o6 o7 o8 o9 o10 : Obj, Below w.heap.size w ((((((((((w.alloc o1).alloc o2).alloc o3).alloc o4).alloc o5).alloc o6).alloc o7).alloc o8).alloc o9).alloc o10).drew.drew.drew :=
    fun o1 o2 o3 o4 o5 o6 o7 o8 o9 o10 => (((((((((((Below.refl _ _).alloc (Nat.le_refl _) _).alloc (by simp) _).alloc (by simp; omega) _).alloc (by simp; omega) _).alloc (by simp; omega) _).alloc (by simp; omega) _).alloc (by simp; omega) _).alloc (by simp; omega) _).alloc (by simp; omega) _).alloc (by simp; omega) _).drew.drew.drew
  have BC : ∀ o3 o4 o5 o6 o7 o8 o9 o10 : Obj, Below (w.heap.size + 2) ((w.alloc (.cells (spC a p) 41)).alloc (.cells (spC b q) 41)) ((((((((((w.alloc (.cells (spC a p) 41)).alloc (.cells (spC b q) 41)).alloc o3).alloc o4).alloc o5).alloc o6).alloc o7).alloc o8).alloc o9).alloc o10).drew.drew.drew :=
    fun o3 o4 o5 o6 o7 o8 o9 o10 => (((((((((Below.refl _ _).alloc (by simp) _).alloc (by simp) _).alloc (by simp) _).alloc (by simp) _).alloc (by simp) _).alloc (by simp) _).alloc (by simp) _).alloc (by simp) _).drew.drew.drew
  have BX := fun w' h => @box2 w w' a b p q h
  unfold spC at BX BC
  unfold spV spC at RA RB
  unfold spV spC
  clear ha hb
  go_enter Tryz.func32, Tryz.ntmps32
  go_wp2
  go_region_held3 (fun w' => w'.cell? ⟨w.heap.size, 0, none⟩ = some (.int .u64 a.hi) ∧ w'.cell? ⟨w.heap.size, 1, none⟩ = some (.int .u64 a.lo) ∧ w'.cell? ⟨w.heap.size, 2, none⟩ = some (.int .u64 a.id) ∧ w'.cell? ⟨w.heap.size, 3, none⟩ = some (.int .u64 a.par) ∧ w'.cell? ⟨w.heap.size, 4, none⟩ = some (.slice p.la a.links.length p.lc) ∧ w'.cell? ⟨w.heap.size, 5, none⟩ = some (.string a.svc) ∧ w'.cell? ⟨w.heap.size, 6, none⟩ = some (.string a.op) ∧ w'.cell? ⟨w.heap.size, 7, none⟩ = some (.int .i64 a.kind) ∧ w'.cell? ⟨w.heap.size, 8, none⟩ = some (.int .i64 a.status) ∧ w'.cell? ⟨w.heap.size, 9, none⟩ = some (.int .i64 a.start) ∧ w'.cell? ⟨w.heap.size, 10, none⟩ = some (.int .i64 a.fin) ∧ w'.cell? ⟨w.heap.size, 11, none⟩ = some (.slice p.aa a.attrs.length p.ac) ∧ w'.cell? ⟨w.heap.size, 12, none⟩ = some (.slice p.ea a.events.length p.ec) ∧ w'.cell? ⟨w.heap.size + 1, 0, none⟩ = some (.int .u64 b.hi) ∧ w'.cell? ⟨w.heap.size + 1, 1, none⟩ = some (.int .u64 b.lo) ∧ w'.cell? ⟨w.heap.size + 1, 2, none⟩ = some (.int .u64 b.id) ∧ w'.cell? ⟨w.heap.size + 1, 3, none⟩ = some (.int .u64 b.par) ∧ w'.cell? ⟨w.heap.size + 1, 4, none⟩ = some (.slice q.la b.links.length q.lc) ∧ w'.cell? ⟨w.heap.size + 1, 5, none⟩ = some (.string b.svc) ∧ w'.cell? ⟨w.heap.size + 1, 6, none⟩ = some (.string b.op) ∧ w'.cell? ⟨w.heap.size + 1, 7, none⟩ = some (.int .i64 b.kind) ∧ w'.cell? ⟨w.heap.size + 1, 8, none⟩ = some (.int .i64 b.status) ∧ w'.cell? ⟨w.heap.size + 1, 9, none⟩ = some (.int .i64 b.start) ∧ w'.cell? ⟨w.heap.size + 1, 10, none⟩ = some (.int .i64 b.fin) ∧ w'.cell? ⟨w.heap.size + 1, 11, none⟩ = some (.slice q.aa b.attrs.length q.ac) ∧ w'.cell? ⟨w.heap.size + 1, 12, none⟩ = some (.slice q.ea b.events.length q.ec))
    (first | (simp [go_sem, World.cell?_alloc_past]; done) | exact S9)
    (first
      | (go_at_call 44; refine (RA _).mono ?_; clear RA; rintro e w' ⟨rfl, rfl⟩)
      | (go_at_call 44; refine (RB _).mono ?_; clear RB; rintro e w' ⟨rfl, rfl⟩)
      | (go_at_call 45; refine (AG _ (BB _ _ _ _ _ _ _ _ _ _)).mono ?_; rintro e w9 ⟨rfl, hb9⟩; have hB := (BB _ _ _ _ _ _ _ _ _ _).trans (hb9.mono (BB _ _ _ _ _ _ _ _ _ _).size); have S9 := BX _ ((BC _ _ _ _ _ _ _ _).trans (hb9.mono (Nat.le_trans (by simp) (BC _ _ _ _ _ _ _ _).size)))))
  go_wp2
  go_ret
  exact ⟨rfl, hB⟩
end Go.Proofs.YtiflfapdffkcbaaGreatDoor
