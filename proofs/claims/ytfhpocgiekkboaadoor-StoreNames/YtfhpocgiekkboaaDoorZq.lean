/-
  Contracts: nameOf, rankOf, against, Compare, Equal (written by gen_zq.py).
-/
import Derived.Test.YtfhpocgiekkboaaDoorZp
import Derived.Test.YtfhpocgiekkboaaDoorZs
namespace Go.Proofs.YtfhpocgiekkboaaDoor
open Go.RowKit
set_option maxRecDepth 100000

theorem name_any (a : Sp) (p : Pl) (w : World) :
    Calls Tryd.prog 36 #[spV a p] w fun e w' => e = .returned (.agg #[.int .u64 a.hi, .int .u64 a.lo, .int .u64 a.id]) ∧ w' = (w.alloc (.cells (spC a p) 39)).alloc (.cells #[.int .u64 a.hi, .int .u64 a.lo, .int .u64 a.id] 77) := by
  unfold spV spC
  go_enter Tryd.func36, Tryd.ntmps36
  go_wp2
  simp [bodyPost, results, Tryd.results36, go_sem]

/-- A span with its name ahead. -/
def rkC (a : Sp) (p : Pl) : Array Value := #[.int .u64 a.hi, .int .u64 a.lo, .int .u64 a.id, .int .u64 a.hi, .int .u64 a.lo, .int .u64 a.id, .int .u64 a.par, .slice p.la a.links.length p.lc, .string a.svc, .string a.op, .int .i64 a.kind, .int .i64 a.status, .int .i64 a.start, .int .i64 a.fin, .slice p.aa a.attrs.length p.ac, .slice p.ea a.events.length p.ec]
theorem rank_any (a : Sp) (p : Pl) (w : World) :
    Calls Tryd.prog 25 #[spV a p] w fun e w' => e = .returned (.agg (rkC a p)) ∧ w' = ((((w.alloc (.cells (spC a p) 39)).alloc (.cells (rkC a p) 79)).alloc (.cells (spC a p) 39)).alloc (.cells #[.int .u64 a.hi, .int .u64 a.lo, .int .u64 a.id] 77)).drew := by
  have NM := name_any a p
  unfold spV spC at NM
  unfold rkC spV spC
  go_enter Tryd.func25, Tryd.ntmps25
  go_wp2
  go_region_held3 (fun w' => w'.cell? ⟨w.heap.size, 0, none⟩ = some (.int .u64 a.hi) ∧ w'.cell? ⟨w.heap.size, 1, none⟩ = some (.int .u64 a.lo) ∧ w'.cell? ⟨w.heap.size, 2, none⟩ = some (.int .u64 a.id) ∧ w'.cell? ⟨w.heap.size, 3, none⟩ = some (.int .u64 a.par) ∧ w'.cell? ⟨w.heap.size, 4, none⟩ = some (.slice p.la a.links.length p.lc) ∧ w'.cell? ⟨w.heap.size, 5, none⟩ = some (.string a.svc) ∧ w'.cell? ⟨w.heap.size, 6, none⟩ = some (.string a.op) ∧ w'.cell? ⟨w.heap.size, 7, none⟩ = some (.int .i64 a.kind) ∧ w'.cell? ⟨w.heap.size, 8, none⟩ = some (.int .i64 a.status) ∧ w'.cell? ⟨w.heap.size, 9, none⟩ = some (.int .i64 a.start) ∧ w'.cell? ⟨w.heap.size, 10, none⟩ = some (.int .i64 a.fin) ∧ w'.cell? ⟨w.heap.size, 11, none⟩ = some (.slice p.aa a.attrs.length p.ac) ∧ w'.cell? ⟨w.heap.size, 12, none⟩ = some (.slice p.ea a.events.length p.ec))
    (simp [go_sem, World.cell?_alloc_past])
    (first | (go_at_call 36; refine (NM _).mono ?_; rintro e w' ⟨rfl, rfl⟩))
  go_wp2
  simp [bodyPost, results, Tryd.results25, go_sem]
end Go.Proofs.YtfhpocgiekkboaaDoor
