/-
  Zp.
-/
import Derived.Test.YtpcfchbiohbcoaaDoorZf
import Derived.Laws.StructEq
namespace Go.Proofs.YtpcfchbiohbcoaaDoor
open Go.RowKit
set_option maxRecDepth 100000

/-- Where a span's lists lie. -/
structure Pl where
  la : Option Addr
  lc : Nat
  aa : Option Addr
  ac : Nat
  ea : Option Addr
  ec : Nat
/-- A span's cells. -/
def spC (a : Sp) (p : Pl) : Array Value := #[.int .u64 a.hi, .int .u64 a.lo, .int .u64 a.id, .int .u64 a.par, .slice p.la a.links.length p.lc, .string a.svc, .string a.op, .int .i64 a.kind, .int .i64 a.status, .int .i64 a.start, .int .i64 a.fin, .slice p.aa a.attrs.length p.ac, .slice p.ea a.events.length p.ec]
def spV (a : Sp) (p : Pl) : Value := .agg (spC a p)
/-- A span's lists lie where it says. -/
structure SpAt (w : World) (a : Sp) (p : Pl) : Prop where
  links : HoldsV w p.la a.links.length (intsV .u64 a.links)
  attrs : AttrsAt w p.aa a.attrs.length a.attrs
  events : EventsAt w p.ea a.events.length a.events
  sl : a.links.length ≤ 140737488355328
  sa : a.attrs.length ≤ 140737488355328
  se : a.events.length ≤ 140737488355328
theorem SpAt.below {w w' : World} {a : Sp} {p : Pl} (h : SpAt w a p) (hb : Below w.heap.size w w') : SpAt w' a p :=
  ⟨h.links.below hb, h.attrs.below hb, h.events.below hb, h.sl, h.sa, h.se⟩

theorem keepT (n : Nat) (a b : Sp) (p q : Pl) {w1 w2 : World} (hb : Below (n + 2) w1 w2)
    (h : w1.cell? ⟨n, 3, none⟩ = some (.int .u64 a.par) ∧ w1.cell? ⟨n, 4, none⟩ = some (.slice p.la a.links.length p.lc) ∧ w1.cell? ⟨n, 5, none⟩ = some (.string a.svc) ∧ w1.cell? ⟨n, 6, none⟩ = some (.string a.op) ∧ w1.cell? ⟨n, 7, none⟩ = some (.int .i64 a.kind) ∧ w1.cell? ⟨n, 8, none⟩ = some (.int .i64 a.status) ∧ w1.cell? ⟨n, 9, none⟩ = some (.int .i64 a.start) ∧ w1.cell? ⟨n, 10, none⟩ = some (.int .i64 a.fin) ∧ w1.cell? ⟨n, 11, none⟩ = some (.slice p.aa a.attrs.length p.ac) ∧ w1.cell? ⟨n, 12, none⟩ = some (.slice p.ea a.events.length p.ec) ∧ w1.cell? ⟨n + 1, 3, none⟩ = some (.int .u64 b.par) ∧ w1.cell? ⟨n + 1, 4, none⟩ = some (.slice q.la b.links.length q.lc) ∧ w1.cell? ⟨n + 1, 5, none⟩ = some (.string b.svc) ∧ w1.cell? ⟨n + 1, 6, none⟩ = some (.string b.op) ∧ w1.cell? ⟨n + 1, 7, none⟩ = some (.int .i64 b.kind) ∧ w1.cell? ⟨n + 1, 8, none⟩ = some (.int .i64 b.status) ∧ w1.cell? ⟨n + 1, 9, none⟩ = some (.int .i64 b.start) ∧ w1.cell? ⟨n + 1, 10, none⟩ = some (.int .i64 b.fin) ∧ w1.cell? ⟨n + 1, 11, none⟩ = some (.slice q.aa b.attrs.length q.ac) ∧ w1.cell? ⟨n + 1, 12, none⟩ = some (.slice q.ea b.events.length q.ec)) :
    w2.cell? ⟨n, 3, none⟩ = some (.int .u64 a.par) ∧ w2.cell? ⟨n, 4, none⟩ = some (.slice p.la a.links.length p.lc) ∧ w2.cell? ⟨n, 5, none⟩ = some (.string a.svc) ∧ w2.cell? ⟨n, 6, none⟩ = some (.string a.op) ∧ w2.cell? ⟨n, 7, none⟩ = some (.int .i64 a.kind) ∧ w2.cell? ⟨n, 8, none⟩ = some (.int .i64 a.status) ∧ w2.cell? ⟨n, 9, none⟩ = some (.int .i64 a.start) ∧ w2.cell? ⟨n, 10, none⟩ = some (.int .i64 a.fin) ∧ w2.cell? ⟨n, 11, none⟩ = some (.slice p.aa a.attrs.length p.ac) ∧ w2.cell? ⟨n, 12, none⟩ = some (.slice p.ea a.events.length p.ec) ∧ w2.cell? ⟨n + 1, 3, none⟩ = some (.int .u64 b.par) ∧ w2.cell? ⟨n + 1, 4, none⟩ = some (.slice q.la b.links.length q.lc) ∧ w2.cell? ⟨n + 1, 5, none⟩ = some (.string b.svc) ∧ w2.cell? ⟨n + 1, 6, none⟩ = some (.string b.op) ∧ w2.cell? ⟨n + 1, 7, none⟩ = some (.int .i64 b.kind) ∧ w2.cell? ⟨n + 1, 8, none⟩ = some (.int .i64 b.status) ∧ w2.cell? ⟨n + 1, 9, none⟩ = some (.int .i64 b.start) ∧ w2.cell? ⟨n + 1, 10, none⟩ = some (.int .i64 b.fin) ∧ w2.cell? ⟨n + 1, 11, none⟩ = some (.slice q.aa b.attrs.length q.ac) ∧ w2.cell? ⟨n + 1, 12, none⟩ = some (.slice q.ea b.events.length q.ec) := by
  have e0 : ∀ j, w2.cell? ⟨n, j, none⟩ = w1.cell? ⟨n, j, none⟩ := fun j => hb.cell (p := ⟨n, j, none⟩) (by show n < n + 2; omega)
  have e1 : ∀ j, w2.cell? ⟨n + 1, j, none⟩ = w1.cell? ⟨n + 1, j, none⟩ := fun j => hb.cell (p := ⟨n + 1, j, none⟩) (by show n + 1 < n + 2; omega)
  simp only [e0, e1]
  exact h

theorem or_plain (w : World) (n : Nat) (K : List Int) (hs : n = w.heap.size) (hl : K.length ≤ 1000000) :
    Calls Tryd.prog 49 #[.slice (some ⟨n, 0, none⟩) K.length K.length] (w.alloc (.cells (K.map (Value.int .i64)).toArray 3)) fun e w' => e = .returned (.int .i64 (orL K)) ∧ w' = w.alloc (.cells (K.map (Value.int .i64)).toArray 3) :=
  or_any _ _ _ K _ (holds_new (w := w.alloc (.cells (K.map (Value.int .i64)).toArray 3)) (alloc_at hs)) hl
theorem hb_two {w : World} {o1 o2 : Obj} {m : Nat} {w' : World} (hb : Below ((w.alloc o1).alloc o2).heap.size ((w.alloc o1).alloc o2) w') (hm : m = w.heap.size + 2) : Below m ((w.alloc o1).alloc o2) w' := by
  subst hm; exact hb.mono (by simp)

end Go.Proofs.YtpcfchbiohbcoaaDoor
