/-
  Za.
-/
import Derived.Test.YtpcfchbiohbcoaaDoorZc
import Derived.Deep.RegionHeld3
namespace Go.Proofs.YtpcfchbiohbcoaaDoor
open Go.RowKit
set_option maxRecDepth 100000

def AttrD.cells (a : AttrD) : Array Value := #[.string a.key, .int .i64 a.kind, .string a.text, .int .i64 a.num]
def attrV (a : AttrD) : Value := .agg #[.string a.key, .int .i64 a.kind, .string a.text, .int .i64 a.num]
def eventV (a : EventD) : Value := .agg #[.int .i64 a.moment, .string a.name]

theorem holds_new {w : World} {K : List Int} {n : Nat} (h : w.heap[n]? = some (.cells (intsV .i64 K).toArray 3 (0, 0))) : HoldsV w (some ⟨n, 0, none⟩) K.length (intsV .i64 K) := by
  refine ⟨by simp [intsV], fun j u hj => ⟨_, rfl, ?_⟩⟩
  rw [Addr.add_lit]
  simp [World.cell?, h, hj]

theorem alloc_at {w : World} {o : Obj} {n : Nat} (h : n = w.heap.size) : (w.alloc o).heap[n]? = some o := by subst h; exact heap_alloc_new w o

theorem or_at (w : World) (n : Nat) (K : List Int) (hs : n = w.heap.size) (hl : K.length ≤ 1000000) :
    Calls Tryd.prog 49 #[.slice (some ⟨n, 0, none⟩) K.length K.length] (w.alloc (.cells (K.map (Value.int .i64)).toArray 3)).drew fun e w' => e = .returned (.int .i64 (orL K)) ∧ w' = (w.alloc (.cells (K.map (Value.int .i64)).toArray 3)).drew :=
  or_any _ _ _ K _ (holds_new (w := (w.alloc (.cells (K.map (Value.int .i64)).toArray 3)).drew) (alloc_at hs)) hl

theorem key_any (a b : AttrD) (w : World) :
    Calls Tryd.prog 69 #[attrV a, attrV b] w fun e w' => e = .returned (.int .i64 (cmpS a.key b.key)) ∧ w' = (w.alloc (.cells #[.string a.key, .int .i64 a.kind, .string a.text, .int .i64 a.num] 120)).alloc (.cells #[.string b.key, .int .i64 b.kind, .string b.text, .int .i64 b.num] 120) := by
  unfold attrV
  go_enter Tryd.func69, Tryd.ntmps69
  go_wp2_with (go_at_call 87; refine (cmp_str _ _ _).mono ?_; rintro e w' ⟨rfl, rfl⟩)
  go_ret
  exact ⟨rfl, rfl⟩

theorem event_any (a b : EventD) (w : World) :
    Calls Tryd.prog 73 #[eventV a, eventV b] w fun e w' => e = .returned (.int .i64 (cmpE a b)) ∧ Below w.heap.size w w' := by
  unfold eventV
  have OR := fun o1 o2 => or_at ((w.alloc o1).alloc o2) (w.heap.size + 1 + 1) [cmpI a.moment b.moment, cmpS a.name b.name] (by simp) (by simp)
  simp only [List.map, List.length] at OR
  go_enter Tryd.func73, Tryd.ntmps73
  go_wp2
  go_region_held3 (fun w' => w'.cell? ⟨w.heap.size, 0, none⟩ = some (.int .i64 a.moment) ∧ w'.cell? ⟨w.heap.size, 1, none⟩ = some (.string a.name) ∧ w'.cell? ⟨w.heap.size + 1, 0, none⟩ = some (.int .i64 b.moment) ∧ w'.cell? ⟨w.heap.size + 1, 1, none⟩ = some (.string b.name)) (simp [go_sem, World.cell?_alloc_past])
    (first
      | (go_at_call 89; refine (cmp_i64 _ _ _).mono ?_; rintro e w' ⟨rfl, rfl⟩)
      | (go_at_call 87; refine (cmp_str _ _ _).mono ?_; rintro e w' ⟨rfl, rfl⟩)
      | (go_at_call 49; refine (OR _ _).mono ?_; rintro e w' ⟨rfl, rfl⟩))
  go_wp2
  go_ret
  exact ⟨rfl, ((((Below.refl _ _).alloc (Nat.le_refl _) _).alloc (by simp) _).alloc (by simp; omega) _).drew⟩

end Go.Proofs.YtpcfchbiohbcoaaDoor
