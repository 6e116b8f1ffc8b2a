/-
  Contracts: spoorlaw01.fault.
-/
import Derived.Test.YtpbpkhbmopjdjaaDoorBk
import Derived.Test.YtpbpkhbmopjdjaaDoorAs
import Derived.Test.YtpbpkhbmopjdjaaDoorIs
namespace Go.Proofs.YtpbpkhbmopjdjaaDoor
open Go.Shelf Go.RowKit
set_option maxRecDepth 100000

/-- errors.errorType holds error's type. -/
def ErrT (w : World) : Prop := w.cell? ⟨0, 0, none⟩ = some (.iface 149 (.agg #[.pointer (some ⟨3, 62, none⟩)]))
theorem ErrT.upd {S : Nat → Prop} {w w' : World} (h : ErrT w) (hu : Upd S w w') (hS : ¬ S 0) : ErrT w' :=
  (World.cell?_of_block (w := w) (hu.block _ (World.block_lt_of_cell? w _ h) hS)).trans h
theorem ErrT.below {w w' : World} (h : ErrT w) (hb : Below w.heap.size w w') : ErrT w' :=
  h.upd (Upd.ofBelow (S := fun _ => False) hb (fun k hk hk' => by omega)) (fun h => h)
theorem IsF.upd {S : Nat → Prop} {w w' : World} {p : Nat} {a n : Int} (h : IsF w p a n) (hu : Upd S w w') (hS : ¬ S p) : IsF w' p a n := (hu.block p (lt_of_block h) hS).trans h
theorem IsF.c0 {w : World} {p : Nat} {a n : Int} (h : IsF w p a n) : w.cell? ⟨p, 0, none⟩ = some (.int .i64 a) := by unfold IsF at h; simp [World.cell?, h]
theorem IsF.c1 {w : World} {p : Nat} {a n : Int} (h : IsF w p a n) : w.cell? ⟨p, 1, none⟩ = some (.int .i64 n) := by unfold IsF at h; simp [World.cell?, h]
theorem IsF.below {w w' : World} {p : Nat} {a n : Int} (h : IsF w p a n) (hb : Below w.heap.size w w') : IsF w' p a n :=
  h.upd (Upd.ofBelow (S := fun _ => False) hb (fun k hk hk' => by omega)) (fun h => h)

theorem as_any (e : Addr) (tb : Nat) (old : Value) (w : World) (hE : ErrT w) (ht : w.heap[tb]? = some (.cells #[old] 103 (0, 0))) :
    Calls Tryd.prog 54 #[.iface 103 (.pointer (some e)), .iface 107 (.pointer (some ⟨tb, 0, none⟩))] w fun ev w' => ev = .returned (.bool true) ∧ w'.cell? ⟨tb, 0, none⟩ = some (.pointer (some e)) ∧ Upd (fun k => k = tb) w w' := by
  refine (as_hit e ⟨tb, 0, none⟩ old w hE (cell_of_one ht) (free_of_one ht)).mono ?_
  rintro ev w' ⟨he, o1, o2, o3, o4, rfl⟩
  have hlt := lt_of_block ht
  have u4 : Upd (fun k => k = tb) w ((((w.alloc o1).alloc o2).alloc o3).alloc o4) := ((((Upd.refl _ _).alloc _).alloc _).alloc _).alloc _
  refine ⟨he, ?_, u4.setCell (fun _ => rfl) _⟩
  have h4 : ((((w.alloc o1).alloc o2).alloc o3).alloc o4).heap[tb]? = some (.cells #[old] 103 (0, 0)) := by
    rw [Below.heap_alloc _ _ _ (by simp; omega), Below.heap_alloc _ _ _ (by simp; omega), Below.heap_alloc _ _ _ (by simp; omega), Below.heap_alloc _ _ _ hlt]; exact ht
  exact cell_of_one (one_setCell h4)

theorem flt_nil (w : World) : Calls Tryd.prog 29 #[.nilIface] w fun e w' => e = .returned (.tuple #[.int .i64 0, .int .i64 0, .bool true]) ∧ w' = w := by
  go_enter Tryd.func29, Tryd.ntmps29
  go_wp2
  go_ret3
  exact ⟨rfl, rfl⟩

theorem flt_some (p : Nat) (a n : Int) (w : World) (h : IsF w p a n) (hE : ErrT w) (hn : ¬ n = 0) :
    Calls Tryd.prog 29 #[.iface 103 (.pointer (some ⟨p, 0, none⟩))] w fun e w' => e = .returned (.tuple #[.int .i64 a, .int .i64 n, .bool true]) ∧ Below w.heap.size w w' := by
  have hlt := lt_of_block h
  have hn2 : (n == 0) = false := by simpa using hn
  have hn3 : (n != 0) = true := by simp [hn]
  have AS : Calls Tryd.prog 54 #[.iface 103 (.pointer (some ⟨p, 0, none⟩)), .iface 107 (.pointer (some ⟨w.heap.size + 1, 0, none⟩))] ((w.alloc (.cells #[.int .i64 0, .int .i64 0] 105)).alloc (.cells #[.pointer (some ⟨w.heap.size, 0, none⟩)] 103)) fun ev w' => ev = .returned (.bool true) ∧ w'.cell? ⟨w.heap.size + 1, 0, none⟩ = some (.pointer (some ⟨p, 0, none⟩)) ∧ IsF w' p a n ∧ Below w.heap.size w w' := by
    have u2 : Upd (fun _ => False) w ((w.alloc (.cells #[.int .i64 0, .int .i64 0] 105)).alloc (.cells #[.pointer (some ⟨w.heap.size, 0, none⟩)] 103)) := ((Upd.refl _ _).alloc _).alloc _
    have hb : ((w.alloc (.cells #[.int .i64 0, .int .i64 0] 105)).alloc (.cells #[.pointer (some ⟨w.heap.size, 0, none⟩)] 103)).heap[w.heap.size + 1]? = some (.cells #[.pointer (some ⟨w.heap.size, 0, none⟩)] 103 (0, 0)) := by
      have := heap_alloc_new (w.alloc (.cells #[.int .i64 0, .int .i64 0] 105)) (.cells #[.pointer (some ⟨w.heap.size, 0, none⟩)] 103)
      simpa using this
    refine (as_any ⟨p, 0, none⟩ (w.heap.size + 1) _ _ (hE.upd u2 (fun h => h)) hb).mono ?_
    rintro ev w' ⟨he, hc, hu⟩
    refine ⟨he, hc, (h.upd u2 (fun h => h)).upd hu (by omega), ?_⟩
    exact (u2.below (Nat.le_refl _) (fun _ _ h => h)).trans (hu.below u2.size (fun k hk e => by omega))
  go_enter Tryd.func29, Tryd.ntmps29
  go_wp2_with (first
    | (go_at_call 54; refine AS.mono ?_; rintro e w' ⟨rfl, hcv, hF, hb⟩; have hc0 := hF.c0; have hc1 := hF.c1)
    | (go_at_call 55; refine (is_fault p n _ hc1).mono ?_; rintro e w'' ⟨rfl, hw⟩; obtain rfl := hw.symm))
  go_quiet (fail)
  go_wp2
  go_ret3
  exact ⟨rfl, below_drewN hb _⟩
end Go.Proofs.YtpbpkhbmopjdjaaDoor
