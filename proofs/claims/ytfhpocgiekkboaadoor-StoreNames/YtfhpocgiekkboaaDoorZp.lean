/-
  Contracts: spans held against one another (written by gen_zp.py).
-/
import Derived.Test.YtfhpocgiekkboaaDoorZf
import Derived.Laws.StructEq
namespace Go.Proofs.YtfhpocgiekkboaaDoor
open Go.RowKit
set_option maxRecDepth 100000

/-- Where a span's lists lie. -/
structure Pl where
  la : Option Addr
  lc : Nat
  aa : Option Addr
  ac : Nat
  ea : Option Addr
  ec : Nat
/-- A span's cells. -/
def spC (a : Sp) (p : Pl) : Array Value := #[.int .u64 a.hi, .int .u64 a.lo, .int .u64 a.id, .int .u64 a.par, .slice p.la a.links.length p.lc, .string a.svc, .string a.op, .int .i64 a.kind, .int .i64 a.status, .int .i64 a.start, .int .i64 a.fin, .slice p.aa a.attrs.length p.ac, .slice p.ea a.events.length p.ec]
def spV (a : Sp) (p : Pl) : Value := .agg (spC a p)
/-- A span's lists lie where it says. -/
structure SpAt (w : World) (a : Sp) (p : Pl) : Prop where
  links : HoldsV w p.la a.links.length (intsV .u64 a.links)
  attrs : AttrsAt w p.aa a.attrs.length a.attrs
  events : EventsAt w p.ea a.events.length a.events
  sl : a.links.length ≤ 140737488355328
  sa : a.attrs.length ≤ 140737488355328
  se : a.events.length ≤ 140737488355328
theorem SpAt.below {w w' : World} {a : Sp} {p : Pl} (h : SpAt w a p) (hb : Below w.heap.size w w') : SpAt w' a p :=
  ⟨h.links.below hb, h.attrs.below hb, h.events.below hb, h.sl, h.sa, h.se⟩

theorem keepT (n : Nat) (a b : Sp) (p q : Pl) {w1 w2 : World} (hb : Below (n + 2) w1 w2)
    (h : w1.cell? ⟨n, 3, none⟩ = some (.int .u64 a.par) ∧ w1.cell? ⟨n, 4, none⟩ = some (.slice p.la a.links.length p.lc) ∧ w1.cell? ⟨n, 5, none⟩ = some (.string a.svc) ∧ w1.cell? ⟨n, 6, none⟩ = some (.string a.op) ∧ w1.cell? ⟨n, 7, none⟩ = some (.int .i64 a.kind) ∧ w1.cell? ⟨n, 8, none⟩ = some (.int .i64 a.status) ∧ w1.cell? ⟨n, 9, none⟩ = some (.int .i64 a.start) ∧ w1.cell? ⟨n, 10, none⟩ = some (.int .i64 a.fin) ∧ w1.cell? ⟨n, 11, none⟩ = some (.slice p.aa a.attrs.length p.ac) ∧ w1.cell? ⟨n, 12, none⟩ = some (.slice p.ea a.events.length p.ec) ∧ w1.cell? ⟨n + 1, 3, none⟩ = some (.int .u64 b.par) ∧ w1.cell? ⟨n + 1, 4, none⟩ = some (.slice q.la b.links.length q.lc) ∧ w1.cell? ⟨n + 1, 5, none⟩ = some (.string b.svc) ∧ w1.cell? ⟨n + 1, 6, none⟩ = some (.string b.op) ∧ w1.cell? ⟨n + 1, 7, none⟩ = some (.int .i64 b.kind) ∧ w1.cell? ⟨n + 1, 8, none⟩ = some (.int .i64 b.status) ∧ w1.cell? ⟨n + 1, 9, none⟩ = some (.int .i64 b.start) ∧ w1.cell? ⟨n + 1, 10, none⟩ = some (.int .i64 b.fin) ∧ w1.cell? ⟨n + 1, 11, none⟩ = some (.slice q.aa b.attrs.length q.ac) ∧ w1.cell? ⟨n + 1, 12, none⟩ = some (.slice q.ea b.events.length q.ec)) :
    w2.cell? ⟨n, 3, none⟩ = some (.int .u64 a.par) ∧ w2.cell? ⟨n, 4, none⟩ = some (.slice p.la a.links.length p.lc) ∧ w2.cell? ⟨n, 5, none⟩ = some (.string a.svc) ∧ w2.cell? ⟨n, 6, none⟩ = some (.string a.op) ∧ w2.cell? ⟨n, 7, none⟩ = some (.int .i64 a.kind) ∧ w2.cell? ⟨n, 8, none⟩ = some (.int .i64 a.status) ∧ w2.cell? ⟨n, 9, none⟩ = some (.int .i64 a.start) ∧ w2.cell? ⟨n, 10, none⟩ = some (.int .i64 a.fin) ∧ w2.cell? ⟨n, 11, none⟩ = some (.slice p.aa a.attrs.length p.ac) ∧ w2.cell? ⟨n, 12, none⟩ = some (.slice p.ea a.events.length p.ec) ∧ w2.cell? ⟨n + 1, 3, none⟩ = some (.int .u64 b.par) ∧ w2.cell? ⟨n + 1, 4, none⟩ = some (.slice q.la b.links.length q.lc) ∧ w2.cell? ⟨n + 1, 5, none⟩ = some (.string b.svc) ∧ w2.cell? ⟨n + 1, 6, none⟩ = some (.string b.op) ∧ w2.cell? ⟨n + 1, 7, none⟩ = some (.int .i64 b.kind) ∧ w2.cell? ⟨n + 1, 8, none⟩ = some (.int .i64 b.status) ∧ w2.cell? ⟨n + 1, 9, none⟩ = some (.int .i64 b.start) ∧ w2.cell? ⟨n + 1, 10, none⟩ = some (.int .i64 b.fin) ∧ w2.cell? ⟨n + 1, 11, none⟩ = some (.slice q.aa b.attrs.length q.ac) ∧ w2.cell? ⟨n + 1, 12, none⟩ = some (.slice q.ea b.events.length q.ec) := by
  have e0 : ∀ j, w2.cell? ⟨n, j, none⟩ = w1.cell? ⟨n, j, none⟩ := fun j => hb.cell (p := ⟨n, j, none⟩) (by show n < n + 2; omega)
  have e1 : ∀ j, w2.cell? ⟨n + 1, j, none⟩ = w1.cell? ⟨n + 1, j, none⟩ := fun j => hb.cell (p := ⟨n + 1, j, none⟩) (by show n + 1 < n + 2; omega)
  simp only [e0, e1]
  exact h

theorem or_plain (w : World) (n : Nat) (K : List Int) (hs : n = w.heap.size) (hl : K.length ≤ 1000000) :
    Calls Tryd.prog 37 #[.slice (some ⟨n, 0, none⟩) K.length K.length] (w.alloc (.cells (K.map (Value.int .i64)).toArray 3)) fun e w' => e = .returned (.int .i64 (orL K)) ∧ w' = w.alloc (.cells (K.map (Value.int .i64)).toArray 3) :=
  or_any _ _ _ K _ (holds_new (w := w.alloc (.cells (K.map (Value.int .i64)).toArray 3)) (alloc_at hs)) hl
theorem hb_two {w : World} {o1 o2 : Obj} {m : Nat} {w' : World} (hb : Below ((w.alloc o1).alloc o2).heap.size ((w.alloc o1).alloc o2) w') (hm : m = w.heap.size + 2) : Below m ((w.alloc o1).alloc o2) w' := by
  subst hm; exact hb.mono (by simp)

set_option maxHeartbeats 2000000 in
theorem tells_any (a b : Sp) (p q : Pl) (w : World) (ha : SpAt w a p) (hb : SpAt w b q) :
    Calls Tryd.prog 39 #[spV a p, spV b q] w fun e w' => e = .returned (.int .i64 (cmpT a b)) ∧ Below w.heap.size w w' := by
  have LK := fun w' (h : Below w.heap.size w w') => compare_links p.la q.la a.links.length b.links.length p.lc q.lc a.links b.links w' (ha.links.below h) (hb.links.below h) ha.sl hb.sl
  have AT := fun w' (h : Below w.heap.size w w') => compare_attrs p.aa q.aa a.attrs.length b.attrs.length p.ac q.ac a.attrs b.attrs w' (ha.attrs.below h) (hb.attrs.below h) ha.sa hb.sa
  have EV := fun w' (h : Below w.heap.size w w') => compare_events p.ea q.ea a.events.length b.events.length p.ec q.ec a.events b.events w' (ha.events.below h) (hb.events.below h) ha.se hb.se
  have OR := fun w' n h => or_plain w' n [cmpI a.fin b.fin, cmpI b.start a.start, cmpI a.status b.status, cmpI a.par b.par, cmpS a.svc b.svc, cmpS a.op b.op, cmpI a.kind b.kind, lexL cmpI a.links b.links, lexL cmpA a.attrs b.attrs, lexL cmpE a.events b.events] h (by simp)
  simp only [List.map, List.length] at OR
  have B2 : ∀ o1 o2 : Obj, Below w.heap.size w (((w.alloc o1).alloc o2).drew) := fun o1 o2 => (((Below.refl _ _).alloc (Nat.le_refl _) _).alloc (by simp) _).drew
  have Z2 : ∀ o1 o2 : Obj, (((w.alloc o1).alloc o2).drew).heap.size = w.heap.size + 2 := fun o1 o2 => by show ((w.alloc o1).alloc o2).heap.size = _; simp
  have S0 : (((w.alloc (.cells (spC a p) 39)).alloc (.cells (spC b q) 39)).drew).cell? ⟨w.heap.size, 3, none⟩ = some (.int .u64 a.par) ∧ (((w.alloc (.cells (spC a p) 39)).alloc (.cells (spC b q) 39)).drew).cell? ⟨w.heap.size, 4, none⟩ = some (.slice p.la a.links.length p.lc) ∧ (((w.alloc (.cells (spC a p) 39)).alloc (.cells (spC b q) 39)).drew).cell? ⟨w.heap.size, 5, none⟩ = some (.string a.svc) ∧ (((w.alloc (.cells (spC a p) 39)).alloc (.cells (spC b q) 39)).drew).cell? ⟨w.heap.size, 6, none⟩ = some (.string a.op) ∧ (((w.alloc (.cells (spC a p) 39)).alloc (.cells (spC b q) 39)).drew).cell? ⟨w.heap.size, 7, none⟩ = some (.int .i64 a.kind) ∧ (((w.alloc (.cells (spC a p) 39)).alloc (.cells (spC b q) 39)).drew).cell? ⟨w.heap.size, 8, none⟩ = some (.int .i64 a.status) ∧ (((w.alloc (.cells (spC a p) 39)).alloc (.cells (spC b q) 39)).drew).cell? ⟨w.heap.size, 9, none⟩ = some (.int .i64 a.start) ∧ (((w.alloc (.cells (spC a p) 39)).alloc (.cells (spC b q) 39)).drew).cell? ⟨w.heap.size, 10, none⟩ = some (.int .i64 a.fin) ∧ (((w.alloc (.cells (spC a p) 39)).alloc (.cells (spC b q) 39)).drew).cell? ⟨w.heap.size, 11, none⟩ = some (.slice p.aa a.attrs.length p.ac) ∧ (((w.alloc (.cells (spC a p) 39)).alloc (.cells (spC b q) 39)).drew).cell? ⟨w.heap.size, 12, none⟩ = some (.slice p.ea a.events.length p.ec) ∧ (((w.alloc (.cells (spC a p) 39)).alloc (.cells (spC b q) 39)).drew).cell? ⟨w.heap.size + 1, 3, none⟩ = some (.int .u64 b.par) ∧ (((w.alloc (.cells (spC a p) 39)).alloc (.cells (spC b q) 39)).drew).cell? ⟨w.heap.size + 1, 4, none⟩ = some (.slice q.la b.links.length q.lc) ∧ (((w.alloc (.cells (spC a p) 39)).alloc (.cells (spC b q) 39)).drew).cell? ⟨w.heap.size + 1, 5, none⟩ = some (.string b.svc) ∧ (((w.alloc (.cells (spC a p) 39)).alloc (.cells (spC b q) 39)).drew).cell? ⟨w.heap.size + 1, 6, none⟩ = some (.string b.op) ∧ (((w.alloc (.cells (spC a p) 39)).alloc (.cells (spC b q) 39)).drew).cell? ⟨w.heap.size + 1, 7, none⟩ = some (.int .i64 b.kind) ∧ (((w.alloc (.cells (spC a p) 39)).alloc (.cells (spC b q) 39)).drew).cell? ⟨w.heap.size + 1, 8, none⟩ = some (.int .i64 b.status) ∧ (((w.alloc (.cells (spC a p) 39)).alloc (.cells (spC b q) 39)).drew).cell? ⟨w.heap.size + 1, 9, none⟩ = some (.int .i64 b.start) ∧ (((w.alloc (.cells (spC a p) 39)).alloc (.cells (spC b q) 39)).drew).cell? ⟨w.heap.size + 1, 10, none⟩ = some (.int .i64 b.fin) ∧ (((w.alloc (.cells (spC a p) 39)).alloc (.cells (spC b q) 39)).drew).cell? ⟨w.heap.size + 1, 11, none⟩ = some (.slice q.aa b.attrs.length q.ac) ∧ (((w.alloc (.cells (spC a p) 39)).alloc (.cells (spC b q) 39)).drew).cell? ⟨w.heap.size + 1, 12, none⟩ = some (.slice q.ea b.events.length q.ec) := by simp [spC, go_sem, World.cell?_alloc_past]
  unfold spC at S0
  unfold spV spC
  go_enter Tryd.func39, Tryd.ntmps39
  go_wp2
  go_region_held3 (fun w' => w'.cell? ⟨w.heap.size, 3, none⟩ = some (.int .u64 a.par) ∧ w'.cell? ⟨w.heap.size, 4, none⟩ = some (.slice p.la a.links.length p.lc) ∧ w'.cell? ⟨w.heap.size, 5, none⟩ = some (.string a.svc) ∧ w'.cell? ⟨w.heap.size, 6, none⟩ = some (.string a.op) ∧ w'.cell? ⟨w.heap.size, 7, none⟩ = some (.int .i64 a.kind) ∧ w'.cell? ⟨w.heap.size, 8, none⟩ = some (.int .i64 a.status) ∧ w'.cell? ⟨w.heap.size, 9, none⟩ = some (.int .i64 a.start) ∧ w'.cell? ⟨w.heap.size, 10, none⟩ = some (.int .i64 a.fin) ∧ w'.cell? ⟨w.heap.size, 11, none⟩ = some (.slice p.aa a.attrs.length p.ac) ∧ w'.cell? ⟨w.heap.size, 12, none⟩ = some (.slice p.ea a.events.length p.ec) ∧ w'.cell? ⟨w.heap.size + 1, 3, none⟩ = some (.int .u64 b.par) ∧ w'.cell? ⟨w.heap.size + 1, 4, none⟩ = some (.slice q.la b.links.length q.lc) ∧ w'.cell? ⟨w.heap.size + 1, 5, none⟩ = some (.string b.svc) ∧ w'.cell? ⟨w.heap.size + 1, 6, none⟩ = some (.string b.op) ∧ w'.cell? ⟨w.heap.size + 1, 7, none⟩ = some (.int .i64 b.kind) ∧ w'.cell? ⟨w.heap.size + 1, 8, none⟩ = some (.int .i64 b.status) ∧ w'.cell? ⟨w.heap.size + 1, 9, none⟩ = some (.int .i64 b.start) ∧ w'.cell? ⟨w.heap.size + 1, 10, none⟩ = some (.int .i64 b.fin) ∧ w'.cell? ⟨w.heap.size + 1, 11, none⟩ = some (.slice q.aa b.attrs.length q.ac) ∧ w'.cell? ⟨w.heap.size + 1, 12, none⟩ = some (.slice q.ea b.events.length q.ec))
    (first | (simp [go_sem, World.cell?_alloc_past]; done) | exact S7 _ | exact S6 | exact S5)
    (first
      | (go_at_call 44; refine (cmp_i64 _ _ _).mono ?_; rintro e w' ⟨rfl, rfl⟩)
      | (go_at_call 42; refine (cmp_str _ _ _).mono ?_; rintro e w' ⟨rfl, rfl⟩)
      | (go_at_call 46; refine (cmp_status _ _ _).mono ?_; rintro e w' ⟨rfl, rfl⟩)
      | (go_at_call 47; refine (cmp_kind _ _ _).mono ?_; rintro e w' ⟨rfl, rfl⟩)
      | (go_at_call 29; refine (cmp_id _ _ _).mono ?_; rintro e w' ⟨rfl, rfl⟩)
      | (go_at_call 48; refine (LK _ (B2 _ _)).mono ?_; rintro e w' ⟨rfl, rfl⟩)
      | (go_at_call 49; refine (AT _ (B2 _ _)).mono ?_; rintro e w5 ⟨rfl, hb5⟩; have S5 := keepT w.heap.size a b p q (hb5.mono (Nat.le_of_eq (Z2 _ _).symm)) S0; have hB5 := (B2 _ _).trans (hb5.mono (Nat.le_trans (Nat.le_add_right _ 2) (Nat.le_of_eq (Z2 _ _).symm))); have hz5 := Nat.le_trans (Nat.le_of_eq (Z2 _ _).symm) hb5.size)
      | (go_at_call 51; refine (EV _ hB5).mono ?_; rintro e w6 ⟨rfl, hb6⟩; have S6 := keepT w.heap.size a b p q (hb6.mono hz5) S5; have hB6 := hB5.trans (hb6.mono hB5.size); have hzL := Nat.le_trans hz5 hb6.size; have S7 := fun o => keepT w.heap.size a b p q ((Below.refl (w.heap.size + 2) w6).alloc hzL o) S6)
      | (go_at_call 37; refine (OR _ _ rfl).mono ?_; rintro e w' ⟨rfl, rfl⟩))
  go_wp2
  go_ret
  exact ⟨rfl, hB6.alloc hB6.size _⟩
end Go.Proofs.YtfhpocgiekkboaaDoor
