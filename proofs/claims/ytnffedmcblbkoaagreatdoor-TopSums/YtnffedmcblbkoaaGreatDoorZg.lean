/-
  Zg.
-/
import Derived.Test.YtnffedmcblbkoaaGreatDoorZhq
import Derived.Test.YtnffedmcblbkoaaGreatDoorWaq
namespace Go.Proofs.YtnffedmcblbkoaaGreatDoor
open Go.RowKit
set_option maxRecDepth 100000
theorem World.size_alloc' (w : World) (o : Obj) : (w.alloc o).heap.size = w.heap.size + 1 := by simp
def chkS (a : Sp) : Int :=
 if (decide (a.hi = 0 ∧ a.lo = 0) || decide (a.id = 0)) = true then 41
 else if (!momB a.start || !momB a.fin || decide (a.fin < a.start)) = true then 42
 else if (!plainB a.svc 60 33 || !plainB a.op 100 32) = true then 43
 else if (decide (a.kind < 0) || decide (4 < a.kind) || decide (a.status < 0) || decide (2 < a.status)) = true then 44
 else if (!linksB a.id a.links) = true then 45
 else if (!attrsB a.attrs) = true then 46
 else if (!eventsB a.events) = true then 47 else 0
structure Sp.Small (a : Sp) : Prop where
 svc : a.svc.size ≤ 140737488355328
 op : a.op.size ≤ 140737488355328
 attrs : ∀ x ∈ a.attrs, x.key.size ≤ 140737488355328 ∧ x.text.size ≤ 140737488355328
 events : ∀ x ∈ a.events, x.name.size ≤ 140737488355328
theorem box1 {w w' : World} (a : Sp) (p : Pl) (hb : Below (w.heap.size + 1) (w.alloc (.cells (spC a p) 102)) w') :
  w'.cell? ⟨w.heap.size, 0, none⟩ = some (.int .u64 a.hi) ∧ w'.cell? ⟨w.heap.size, 1, none⟩ = some (.int .u64 a.lo) ∧ w'.cell? ⟨w.heap.size, 2, none⟩ = some (.int .u64 a.id) ∧ w'.cell? ⟨w.heap.size, 3, none⟩ = some (.int .u64 a.par) ∧ w'.cell? ⟨w.heap.size, 4, none⟩ = some (.slice p.la a.links.length p.lc) ∧ w'.cell? ⟨w.heap.size, 5, none⟩ = some (.string a.svc) ∧ w'.cell? ⟨w.heap.size, 6, none⟩ = some (.string a.op) ∧ w'.cell? ⟨w.heap.size, 7, none⟩ = some (.int .i64 a.kind) ∧ w'.cell? ⟨w.heap.size, 8, none⟩ = some (.int .i64 a.status) ∧ w'.cell? ⟨w.heap.size, 9, none⟩ = some (.int .i64 a.start) ∧ w'.cell? ⟨w.heap.size, 10, none⟩ = some (.int .i64 a.fin) ∧ w'.cell? ⟨w.heap.size, 11, none⟩ = some (.slice p.aa a.attrs.length p.ac) ∧ w'.cell? ⟨w.heap.size, 12, none⟩ = some (.slice p.ea a.events.length p.ec) := by
 have e0 : ∀ j, w'.cell? ⟨w.heap.size, j, none⟩ = _ := fun j => hb.cell (p := ⟨w.heap.size, j, none⟩) (by show w.heap.size < w.heap.size + 1; omega)
 simp only [e0]
 simp [spC, go_sem]
set_option maxHeartbeats 4000000 in
theorem check_any (a : Sp) (p : Pl) (w : World) (ha : SpAt w a p) (hs : a.Small) (hT : Tabs w) :
  Calls Tryz.prog 81 #[spV a p] w fun e w' => e = .returned (.int .i64 (chkS a)) ∧ Below w.heap.size w w' := by
 have B1 : ∀ o : Obj, Below w.heap.size w (w.alloc o) := fun o => (Below.refl _ _).alloc (Nat.le_refl _) o
 have PS := fun o => plain_any a.svc 60 33 (w.alloc o) hs.svc (hT.below (B1 o))
 have PO := fun w' (h : Below w.heap.size w w') => plain_any a.op 100 32 w' hs.op (hT.below h)
 have LK := fun w' (h : Below w.heap.size w w') => links_ok p.la a.links.length p.lc a.id a.links w' (ha.links.below h) ha.sl
 have AT := fun w' (h : Below w.heap.size w w') => attrs_ok p.aa a.attrs.length p.ac a.attrs w' (ha.attrs.below h) ha.sa (hT.below h) hs.attrs
 have EV := fun w' (h : Below w.heap.size w w') => events_ok p.ea a.events.length p.ec a.events w' (ha.events.below h) ha.se (hT.below h) hs.events
 have hg := guard_trace
 have hq : ∀ W, (binOp .eql 96 (.agg #[.int .u64 a.hi, .int .u64 a.lo]) (.agg #[.int .u64 0, .int .u64 0])).run Tryz.prog W = .ok (.bool (decide (a.hi = 0 ∧ a.lo = 0))) W := fun W => run_eql_of (eqI_trace 9998 a.hi a.lo 0 0 W)
 have BX := fun w' h => @box1 w w' a p h
 have BR := fun w' (h : Below (w.alloc (.cells (spC a p) 102)).heap.size (w.alloc (.cells (spC a p) 102)) w') => (show Below (w.heap.size + 1) (w.alloc (.cells (spC a p) 102)) w' from h.mono (by simp))
 unfold spC at BX BR
 unfold spV spC
 unfold chkS
 generalize linksB a.id a.links = lb at LK ⊢
 generalize attrsB a.attrs = tb at AT ⊢
 generalize eventsB a.events = vb at EV ⊢
 generalize plainB a.svc 60 33 = sb at PS ⊢
 generalize plainB a.op 100 32 = ob at PO ⊢
 generalize decide (a.hi = 0 ∧ a.lo = 0) = zb at hq ⊢
 have M1 := fun W => moment_any a.start W
 have M2 := fun W => moment_any a.fin W
 generalize momB a.start = m1 at M1 ⊢
 generalize momB a.fin = m2 at M2 ⊢
 generalize hR : (if (zb || decide (a.id = 0)) = true then (41 : Int) else if (!m1 || !m2 || decide (a.fin < a.start)) = true then 42 else if (!sb || !ob) = true then 43 else if (decide (a.kind < 0) || decide (4 < a.kind) || decide (a.status < 0) || decide (2 < a.status)) = true then 44 else if (!lb) = true then 45 else if (!tb) = true then 46 else if (!vb) = true then 47 else 0) = R
 have HR : Hid ((if (zb || decide (a.id = 0)) = true then (41 : Int) else if (!m1 || !m2 || decide (a.fin < a.start)) = true then 42 else if (!sb || !ob) = true then 43 else if (decide (a.kind < 0) || decide (4 < a.kind) || decide (a.status < 0) || decide (2 < a.status)) = true then 44 else if (!lb) = true then 45 else if (!tb) = true then 46 else if (!vb) = true then 47 else 0) = R) := hR
 clear ha hs hT hR
 cases zb with
 | true =>
  go_enter Tryz.func81, Tryz.ntmps81
  go_wp2_with (first
   | (go_at_call 121; refine (M1 _).mono ?_; clear M1; rintro e w' ⟨rfl, rfl⟩)
   | (go_at_call 121; refine (M2 _).mono ?_; clear M2; rintro e w' ⟨rfl, rfl⟩)
   | (go_at_call 122; refine (PS _).mono ?_; clear PS; rintro e w5 ⟨rfl, hb5⟩; have hB5 := (B1 _).trans (hb5.mono (B1 _).size); have K5 := BR _ hb5; have C5 := BX _ K5; have z5 := hb5.size; simp only [World.size_alloc'] at z5)
   | (go_at_call 122; refine (PO _ hB5).mono ?_; clear PO; rintro e w6 ⟨rfl, hb6⟩; have hB6 := hB5.trans (hb6.mono hB5.size); have K6 := K5.trans (hb6.mono z5); have C6 := BX _ K6; have z6 := Nat.le_trans z5 hb6.size)
   | (go_at_call 123; refine (LK _ hB6).mono ?_; rintro e w7 ⟨rfl, hb7⟩; have hB7 := hB6.trans (hb7.mono hB6.size); have K7 := K6.trans (hb7.mono z6); have C7 := BX _ K7; have z7 := Nat.le_trans z6 hb7.size)
   | (go_at_call 124; refine (AT _ hB7).mono ?_; rintro e w8 ⟨rfl, hb8⟩; have hB8 := hB7.trans (hb8.mono hB7.size); have K8 := K7.trans (hb8.mono z7); have C8 := BX _ K8)
   | (go_at_call 125; refine (EV _ hB8).mono ?_; rintro e w9 ⟨rfl, hb9⟩; have hB9 := hB8.trans (hb9.mono hB8.size)))
  go_ret
  exact ⟨ret_int (by rw [← HR.out]; first | (simp_all; done) | (simp_all; (repeat' split) <;> omega)), B1 _⟩
 | false =>
 by_cases i0 : a.id = 0
 ·have i0' : (a.id == 0) = true := by simpa using i0
  go_enter Tryz.func81, Tryz.ntmps81
  go_wp2_with (first
   | (go_at_call 121; refine (M1 _).mono ?_; clear M1; rintro e w' ⟨rfl, rfl⟩)
   | (go_at_call 121; refine (M2 _).mono ?_; clear M2; rintro e w' ⟨rfl, rfl⟩)
   | (go_at_call 122; refine (PS _).mono ?_; clear PS; rintro e w5 ⟨rfl, hb5⟩; have hB5 := (B1 _).trans (hb5.mono (B1 _).size); have K5 := BR _ hb5; have C5 := BX _ K5; have z5 := hb5.size; simp only [World.size_alloc'] at z5)
   | (go_at_call 122; refine (PO _ hB5).mono ?_; clear PO; rintro e w6 ⟨rfl, hb6⟩; have hB6 := hB5.trans (hb6.mono hB5.size); have K6 := K5.trans (hb6.mono z5); have C6 := BX _ K6; have z6 := Nat.le_trans z5 hb6.size)
   | (go_at_call 123; refine (LK _ hB6).mono ?_; rintro e w7 ⟨rfl, hb7⟩; have hB7 := hB6.trans (hb7.mono hB6.size); have K7 := K6.trans (hb7.mono z6); have C7 := BX _ K7; have z7 := Nat.le_trans z6 hb7.size)
   | (go_at_call 124; refine (AT _ hB7).mono ?_; rintro e w8 ⟨rfl, hb8⟩; have hB8 := hB7.trans (hb8.mono hB7.size); have K8 := K7.trans (hb8.mono z7); have C8 := BX _ K8)
   | (go_at_call 125; refine (EV _ hB8).mono ?_; rintro e w9 ⟨rfl, hb9⟩; have hB9 := hB8.trans (hb9.mono hB8.size)))
  go_ret
  exact ⟨ret_int (by rw [← HR.out]; first | (simp_all; done) | (simp_all; (repeat' split) <;> omega)), B1 _⟩
 have i0' : (a.id == 0) = false := by simpa using i0
 clear i0
 cases m1 with
 | false =>
  go_enter Tryz.func81, Tryz.ntmps81
  go_wp2_with (first
   | (go_at_call 121; refine (M1 _).mono ?_; clear M1; rintro e w' ⟨rfl, rfl⟩)
   | (go_at_call 121; refine (M2 _).mono ?_; clear M2; rintro e w' ⟨rfl, rfl⟩)
   | (go_at_call 122; refine (PS _).mono ?_; clear PS; rintro e w5 ⟨rfl, hb5⟩; have hB5 := (B1 _).trans (hb5.mono (B1 _).size); have K5 := BR _ hb5; have C5 := BX _ K5; have z5 := hb5.size; simp only [World.size_alloc'] at z5)
   | (go_at_call 122; refine (PO _ hB5).mono ?_; clear PO; rintro e w6 ⟨rfl, hb6⟩; have hB6 := hB5.trans (hb6.mono hB5.size); have K6 := K5.trans (hb6.mono z5); have C6 := BX _ K6; have z6 := Nat.le_trans z5 hb6.size)
   | (go_at_call 123; refine (LK _ hB6).mono ?_; rintro e w7 ⟨rfl, hb7⟩; have hB7 := hB6.trans (hb7.mono hB6.size); have K7 := K6.trans (hb7.mono z6); have C7 := BX _ K7; have z7 := Nat.le_trans z6 hb7.size)
   | (go_at_call 124; refine (AT _ hB7).mono ?_; rintro e w8 ⟨rfl, hb8⟩; have hB8 := hB7.trans (hb8.mono hB7.size); have K8 := K7.trans (hb8.mono z7); have C8 := BX _ K8)
   | (go_at_call 125; refine (EV _ hB8).mono ?_; rintro e w9 ⟨rfl, hb9⟩; have hB9 := hB8.trans (hb9.mono hB8.size)))
  go_ret
  exact ⟨ret_int (by rw [← HR.out]; first | (simp_all; done) | (simp_all; (repeat' split) <;> omega)), B1 _⟩
 | true =>
 cases m2 with
 | false =>
  go_enter Tryz.func81, Tryz.ntmps81
  go_wp2_with (first
   | (go_at_call 121; refine (M1 _).mono ?_; clear M1; rintro e w' ⟨rfl, rfl⟩)
   | (go_at_call 121; refine (M2 _).mono ?_; clear M2; rintro e w' ⟨rfl, rfl⟩)
   | (go_at_call 122; refine (PS _).mono ?_; clear PS; rintro e w5 ⟨rfl, hb5⟩; have hB5 := (B1 _).trans (hb5.mono (B1 _).size); have K5 := BR _ hb5; have C5 := BX _ K5; have z5 := hb5.size; simp only [World.size_alloc'] at z5)
   | (go_at_call 122; refine (PO _ hB5).mono ?_; clear PO; rintro e w6 ⟨rfl, hb6⟩; have hB6 := hB5.trans (hb6.mono hB5.size); have K6 := K5.trans (hb6.mono z5); have C6 := BX _ K6; have z6 := Nat.le_trans z5 hb6.size)
   | (go_at_call 123; refine (LK _ hB6).mono ?_; rintro e w7 ⟨rfl, hb7⟩; have hB7 := hB6.trans (hb7.mono hB6.size); have K7 := K6.trans (hb7.mono z6); have C7 := BX _ K7; have z7 := Nat.le_trans z6 hb7.size)
   | (go_at_call 124; refine (AT _ hB7).mono ?_; rintro e w8 ⟨rfl, hb8⟩; have hB8 := hB7.trans (hb8.mono hB7.size); have K8 := K7.trans (hb8.mono z7); have C8 := BX _ K8)
   | (go_at_call 125; refine (EV _ hB8).mono ?_; rintro e w9 ⟨rfl, hb9⟩; have hB9 := hB8.trans (hb9.mono hB8.size)))
  go_ret
  exact ⟨ret_int (by rw [← HR.out]; first | (simp_all; done) | (simp_all; (repeat' split) <;> omega)), B1 _⟩
 | true =>
 by_cases t0 : a.fin < a.start
 ·have t0' : a.start > a.fin := t0
  go_enter Tryz.func81, Tryz.ntmps81
  go_wp2_with (first
   | (go_at_call 121; refine (M1 _).mono ?_; clear M1; rintro e w' ⟨rfl, rfl⟩)
   | (go_at_call 121; refine (M2 _).mono ?_; clear M2; rintro e w' ⟨rfl, rfl⟩)
   | (go_at_call 122; refine (PS _).mono ?_; clear PS; rintro e w5 ⟨rfl, hb5⟩; have hB5 := (B1 _).trans (hb5.mono (B1 _).size); have K5 := BR _ hb5; have C5 := BX _ K5; have z5 := hb5.size; simp only [World.size_alloc'] at z5)
   | (go_at_call 122; refine (PO _ hB5).mono ?_; clear PO; rintro e w6 ⟨rfl, hb6⟩; have hB6 := hB5.trans (hb6.mono hB5.size); have K6 := K5.trans (hb6.mono z5); have C6 := BX _ K6; have z6 := Nat.le_trans z5 hb6.size)
   | (go_at_call 123; refine (LK _ hB6).mono ?_; rintro e w7 ⟨rfl, hb7⟩; have hB7 := hB6.trans (hb7.mono hB6.size); have K7 := K6.trans (hb7.mono z6); have C7 := BX _ K7; have z7 := Nat.le_trans z6 hb7.size)
   | (go_at_call 124; refine (AT _ hB7).mono ?_; rintro e w8 ⟨rfl, hb8⟩; have hB8 := hB7.trans (hb8.mono hB7.size); have K8 := K7.trans (hb8.mono z7); have C8 := BX _ K8)
   | (go_at_call 125; refine (EV _ hB8).mono ?_; rintro e w9 ⟨rfl, hb9⟩; have hB9 := hB8.trans (hb9.mono hB8.size)))
  go_ret
  exact ⟨ret_int (by rw [← HR.out]; first | (simp_all; done) | (simp_all; (repeat' split) <;> omega)), B1 _⟩
 cases sb with
 | false =>
  go_enter Tryz.func81, Tryz.ntmps81
  go_wp2_with (first
   | (go_at_call 121; refine (M1 _).mono ?_; clear M1; rintro e w' ⟨rfl, rfl⟩)
   | (go_at_call 121; refine (M2 _).mono ?_; clear M2; rintro e w' ⟨rfl, rfl⟩)
   | (go_at_call 122; refine (PS _).mono ?_; clear PS; rintro e w5 ⟨rfl, hb5⟩; have hB5 := (B1 _).trans (hb5.mono (B1 _).size); have K5 := BR _ hb5; have C5 := BX _ K5; have z5 := hb5.size; simp only [World.size_alloc'] at z5)
   | (go_at_call 122; refine (PO _ hB5).mono ?_; clear PO; rintro e w6 ⟨rfl, hb6⟩; have hB6 := hB5.trans (hb6.mono hB5.size); have K6 := K5.trans (hb6.mono z5); have C6 := BX _ K6; have z6 := Nat.le_trans z5 hb6.size)
   | (go_at_call 123; refine (LK _ hB6).mono ?_; rintro e w7 ⟨rfl, hb7⟩; have hB7 := hB6.trans (hb7.mono hB6.size); have K7 := K6.trans (hb7.mono z6); have C7 := BX _ K7; have z7 := Nat.le_trans z6 hb7.size)
   | (go_at_call 124; refine (AT _ hB7).mono ?_; rintro e w8 ⟨rfl, hb8⟩; have hB8 := hB7.trans (hb8.mono hB7.size); have K8 := K7.trans (hb8.mono z7); have C8 := BX _ K8)
   | (go_at_call 125; refine (EV _ hB8).mono ?_; rintro e w9 ⟨rfl, hb9⟩; have hB9 := hB8.trans (hb9.mono hB8.size)))
  go_ret
  exact ⟨ret_int (by rw [← HR.out]; first | (simp_all; done) | (simp_all; (repeat' split) <;> omega)), hB5⟩
 | true =>
 cases ob with
 | false =>
  go_enter Tryz.func81, Tryz.ntmps81
  go_wp2_with (first
   | (go_at_call 121; refine (M1 _).mono ?_; clear M1; rintro e w' ⟨rfl, rfl⟩)
   | (go_at_call 121; refine (M2 _).mono ?_; clear M2; rintro e w' ⟨rfl, rfl⟩)
   | (go_at_call 122; refine (PS _).mono ?_; clear PS; rintro e w5 ⟨rfl, hb5⟩; have hB5 := (B1 _).trans (hb5.mono (B1 _).size); have K5 := BR _ hb5; have C5 := BX _ K5; have z5 := hb5.size; simp only [World.size_alloc'] at z5)
   | (go_at_call 122; refine (PO _ hB5).mono ?_; clear PO; rintro e w6 ⟨rfl, hb6⟩; have hB6 := hB5.trans (hb6.mono hB5.size); have K6 := K5.trans (hb6.mono z5); have C6 := BX _ K6; have z6 := Nat.le_trans z5 hb6.size)
   | (go_at_call 123; refine (LK _ hB6).mono ?_; rintro e w7 ⟨rfl, hb7⟩; have hB7 := hB6.trans (hb7.mono hB6.size); have K7 := K6.trans (hb7.mono z6); have C7 := BX _ K7; have z7 := Nat.le_trans z6 hb7.size)
   | (go_at_call 124; refine (AT _ hB7).mono ?_; rintro e w8 ⟨rfl, hb8⟩; have hB8 := hB7.trans (hb8.mono hB7.size); have K8 := K7.trans (hb8.mono z7); have C8 := BX _ K8)
   | (go_at_call 125; refine (EV _ hB8).mono ?_; rintro e w9 ⟨rfl, hb9⟩; have hB9 := hB8.trans (hb9.mono hB8.size)))
  go_ret
  exact ⟨ret_int (by rw [← HR.out]; first | (simp_all; done) | (simp_all; (repeat' split) <;> omega)), hB6⟩
 | true =>
 by_cases k0 : a.kind < 0
 ·have k0' : decide (a.kind < 0) = true := by simpa using k0
  go_enter Tryz.func81, Tryz.ntmps81
  go_wp2_with (first
   | (go_at_call 121; refine (M1 _).mono ?_; clear M1; rintro e w' ⟨rfl, rfl⟩)
   | (go_at_call 121; refine (M2 _).mono ?_; clear M2; rintro e w' ⟨rfl, rfl⟩)
   | (go_at_call 122; refine (PS _).mono ?_; clear PS; rintro e w5 ⟨rfl, hb5⟩; have hB5 := (B1 _).trans (hb5.mono (B1 _).size); have K5 := BR _ hb5; have C5 := BX _ K5; have z5 := hb5.size; simp only [World.size_alloc'] at z5)
   | (go_at_call 122; refine (PO _ hB5).mono ?_; clear PO; rintro e w6 ⟨rfl, hb6⟩; have hB6 := hB5.trans (hb6.mono hB5.size); have K6 := K5.trans (hb6.mono z5); have C6 := BX _ K6; have z6 := Nat.le_trans z5 hb6.size)
   | (go_at_call 123; refine (LK _ hB6).mono ?_; rintro e w7 ⟨rfl, hb7⟩; have hB7 := hB6.trans (hb7.mono hB6.size); have K7 := K6.trans (hb7.mono z6); have C7 := BX _ K7; have z7 := Nat.le_trans z6 hb7.size)
   | (go_at_call 124; refine (AT _ hB7).mono ?_; rintro e w8 ⟨rfl, hb8⟩; have hB8 := hB7.trans (hb8.mono hB7.size); have K8 := K7.trans (hb8.mono z7); have C8 := BX _ K8)
   | (go_at_call 125; refine (EV _ hB8).mono ?_; rintro e w9 ⟨rfl, hb9⟩; have hB9 := hB8.trans (hb9.mono hB8.size)))
  go_ret
  exact ⟨ret_int (by rw [← HR.out]; first | (simp_all; done) | (simp_all; (repeat' split) <;> omega)), hB6⟩
 have k0' : decide (a.kind < 0) = false := by simpa using k0
 by_cases k1 : 4 < a.kind
 ·have k1' : decide (4 < a.kind) = true := by simpa using k1
  go_enter Tryz.func81, Tryz.ntmps81
  go_wp2_with (first
   | (go_at_call 121; refine (M1 _).mono ?_; clear M1; rintro e w' ⟨rfl, rfl⟩)
   | (go_at_call 121; refine (M2 _).mono ?_; clear M2; rintro e w' ⟨rfl, rfl⟩)
   | (go_at_call 122; refine (PS _).mono ?_; clear PS; rintro e w5 ⟨rfl, hb5⟩; have hB5 := (B1 _).trans (hb5.mono (B1 _).size); have K5 := BR _ hb5; have C5 := BX _ K5; have z5 := hb5.size; simp only [World.size_alloc'] at z5)
   | (go_at_call 122; refine (PO _ hB5).mono ?_; clear PO; rintro e w6 ⟨rfl, hb6⟩; have hB6 := hB5.trans (hb6.mono hB5.size); have K6 := K5.trans (hb6.mono z5); have C6 := BX _ K6; have z6 := Nat.le_trans z5 hb6.size)
   | (go_at_call 123; refine (LK _ hB6).mono ?_; rintro e w7 ⟨rfl, hb7⟩; have hB7 := hB6.trans (hb7.mono hB6.size); have K7 := K6.trans (hb7.mono z6); have C7 := BX _ K7; have z7 := Nat.le_trans z6 hb7.size)
   | (go_at_call 124; refine (AT _ hB7).mono ?_; rintro e w8 ⟨rfl, hb8⟩; have hB8 := hB7.trans (hb8.mono hB7.size); have K8 := K7.trans (hb8.mono z7); have C8 := BX _ K8)
   | (go_at_call 125; refine (EV _ hB8).mono ?_; rintro e w9 ⟨rfl, hb9⟩; have hB9 := hB8.trans (hb9.mono hB8.size)))
  go_ret
  exact ⟨ret_int (by rw [← HR.out]; first | (simp_all; done) | (simp_all; (repeat' split) <;> omega)), hB6⟩
 have k1' : decide (4 < a.kind) = false := by simpa using k1
 by_cases k2 : a.status < 0
 ·have k2' : decide (a.status < 0) = true := by simpa using k2
  go_enter Tryz.func81, Tryz.ntmps81
  go_wp2_with (first
   | (go_at_call 121; refine (M1 _).mono ?_; clear M1; rintro e w' ⟨rfl, rfl⟩)
   | (go_at_call 121; refine (M2 _).mono ?_; clear M2; rintro e w' ⟨rfl, rfl⟩)
   | (go_at_call 122; refine (PS _).mono ?_; clear PS; rintro e w5 ⟨rfl, hb5⟩; have hB5 := (B1 _).trans (hb5.mono (B1 _).size); have K5 := BR _ hb5; have C5 := BX _ K5; have z5 := hb5.size; simp only [World.size_alloc'] at z5)
   | (go_at_call 122; refine (PO _ hB5).mono ?_; clear PO; rintro e w6 ⟨rfl, hb6⟩; have hB6 := hB5.trans (hb6.mono hB5.size); have K6 := K5.trans (hb6.mono z5); have C6 := BX _ K6; have z6 := Nat.le_trans z5 hb6.size)
   | (go_at_call 123; refine (LK _ hB6).mono ?_; rintro e w7 ⟨rfl, hb7⟩; have hB7 := hB6.trans (hb7.mono hB6.size); have K7 := K6.trans (hb7.mono z6); have C7 := BX _ K7; have z7 := Nat.le_trans z6 hb7.size)
   | (go_at_call 124; refine (AT _ hB7).mono ?_; rintro e w8 ⟨rfl, hb8⟩; have hB8 := hB7.trans (hb8.mono hB7.size); have K8 := K7.trans (hb8.mono z7); have C8 := BX _ K8)
   | (go_at_call 125; refine (EV _ hB8).mono ?_; rintro e w9 ⟨rfl, hb9⟩; have hB9 := hB8.trans (hb9.mono hB8.size)))
  go_ret
  exact ⟨ret_int (by rw [← HR.out]; first | (simp_all; done) | (simp_all; (repeat' split) <;> omega)), hB6⟩
 have k2' : decide (a.status < 0) = false := by simpa using k2
 by_cases k3 : 2 < a.status
 ·have k3' : decide (2 < a.status) = true := by simpa using k3
  go_enter Tryz.func81, Tryz.ntmps81
  go_wp2_with (first
   | (go_at_call 121; refine (M1 _).mono ?_; clear M1; rintro e w' ⟨rfl, rfl⟩)
   | (go_at_call 121; refine (M2 _).mono ?_; clear M2; rintro e w' ⟨rfl, rfl⟩)
   | (go_at_call 122; refine (PS _).mono ?_; clear PS; rintro e w5 ⟨rfl, hb5⟩; have hB5 := (B1 _).trans (hb5.mono (B1 _).size); have K5 := BR _ hb5; have C5 := BX _ K5; have z5 := hb5.size; simp only [World.size_alloc'] at z5)
   | (go_at_call 122; refine (PO _ hB5).mono ?_; clear PO; rintro e w6 ⟨rfl, hb6⟩; have hB6 := hB5.trans (hb6.mono hB5.size); have K6 := K5.trans (hb6.mono z5); have C6 := BX _ K6; have z6 := Nat.le_trans z5 hb6.size)
   | (go_at_call 123; refine (LK _ hB6).mono ?_; rintro e w7 ⟨rfl, hb7⟩; have hB7 := hB6.trans (hb7.mono hB6.size); have K7 := K6.trans (hb7.mono z6); have C7 := BX _ K7; have z7 := Nat.le_trans z6 hb7.size)
   | (go_at_call 124; refine (AT _ hB7).mono ?_; rintro e w8 ⟨rfl, hb8⟩; have hB8 := hB7.trans (hb8.mono hB7.size); have K8 := K7.trans (hb8.mono z7); have C8 := BX _ K8)
   | (go_at_call 125; refine (EV _ hB8).mono ?_; rintro e w9 ⟨rfl, hb9⟩; have hB9 := hB8.trans (hb9.mono hB8.size)))
  go_ret
  exact ⟨ret_int (by rw [← HR.out]; first | (simp_all; done) | (simp_all; (repeat' split) <;> omega)), hB6⟩
 have k3' : decide (2 < a.status) = false := by simpa using k3
 cases lb with
 | false =>
  go_enter Tryz.func81, Tryz.ntmps81
  go_wp2_with (first
   | (go_at_call 121; refine (M1 _).mono ?_; clear M1; rintro e w' ⟨rfl, rfl⟩)
   | (go_at_call 121; refine (M2 _).mono ?_; clear M2; rintro e w' ⟨rfl, rfl⟩)
   | (go_at_call 122; refine (PS _).mono ?_; clear PS; rintro e w5 ⟨rfl, hb5⟩; have hB5 := (B1 _).trans (hb5.mono (B1 _).size); have K5 := BR _ hb5; have C5 := BX _ K5; have z5 := hb5.size; simp only [World.size_alloc'] at z5)
   | (go_at_call 122; refine (PO _ hB5).mono ?_; clear PO; rintro e w6 ⟨rfl, hb6⟩; have hB6 := hB5.trans (hb6.mono hB5.size); have K6 := K5.trans (hb6.mono z5); have C6 := BX _ K6; have z6 := Nat.le_trans z5 hb6.size)
   | (go_at_call 123; refine (LK _ hB6).mono ?_; rintro e w7 ⟨rfl, hb7⟩; have hB7 := hB6.trans (hb7.mono hB6.size); have K7 := K6.trans (hb7.mono z6); have C7 := BX _ K7; have z7 := Nat.le_trans z6 hb7.size)
   | (go_at_call 124; refine (AT _ hB7).mono ?_; rintro e w8 ⟨rfl, hb8⟩; have hB8 := hB7.trans (hb8.mono hB7.size); have K8 := K7.trans (hb8.mono z7); have C8 := BX _ K8)
   | (go_at_call 125; refine (EV _ hB8).mono ?_; rintro e w9 ⟨rfl, hb9⟩; have hB9 := hB8.trans (hb9.mono hB8.size)))
  go_ret
  exact ⟨ret_int (by rw [← HR.out]; first | (simp_all; done) | (simp_all; (repeat' split) <;> omega)), hB7⟩
 | true =>
 cases tb with
 | false =>
  go_enter Tryz.func81, Tryz.ntmps81
  go_wp2_with (first
   | (go_at_call 121; refine (M1 _).mono ?_; clear M1; rintro e w' ⟨rfl, rfl⟩)
   | (go_at_call 121; refine (M2 _).mono ?_; clear M2; rintro e w' ⟨rfl, rfl⟩)
   | (go_at_call 122; refine (PS _).mono ?_; clear PS; rintro e w5 ⟨rfl, hb5⟩; have hB5 := (B1 _).trans (hb5.mono (B1 _).size); have K5 := BR _ hb5; have C5 := BX _ K5; have z5 := hb5.size; simp only [World.size_alloc'] at z5)
   | (go_at_call 122; refine (PO _ hB5).mono ?_; clear PO; rintro e w6 ⟨rfl, hb6⟩; have hB6 := hB5.trans (hb6.mono hB5.size); have K6 := K5.trans (hb6.mono z5); have C6 := BX _ K6; have z6 := Nat.le_trans z5 hb6.size)
   | (go_at_call 123; refine (LK _ hB6).mono ?_; rintro e w7 ⟨rfl, hb7⟩; have hB7 := hB6.trans (hb7.mono hB6.size); have K7 := K6.trans (hb7.mono z6); have C7 := BX _ K7; have z7 := Nat.le_trans z6 hb7.size)
   | (go_at_call 124; refine (AT _ hB7).mono ?_; rintro e w8 ⟨rfl, hb8⟩; have hB8 := hB7.trans (hb8.mono hB7.size); have K8 := K7.trans (hb8.mono z7); have C8 := BX _ K8)
   | (go_at_call 125; refine (EV _ hB8).mono ?_; rintro e w9 ⟨rfl, hb9⟩; have hB9 := hB8.trans (hb9.mono hB8.size)))
  go_ret
  exact ⟨ret_int (by rw [← HR.out]; first | (simp_all; done) | (simp_all; (repeat' split) <;> omega)), hB8⟩
 | true =>
 cases vb with
 | false =>
  go_enter Tryz.func81, Tryz.ntmps81
  go_wp2_with (first
   | (go_at_call 121; refine (M1 _).mono ?_; clear M1; rintro e w' ⟨rfl, rfl⟩)
   | (go_at_call 121; refine (M2 _).mono ?_; clear M2; rintro e w' ⟨rfl, rfl⟩)
   | (go_at_call 122; refine (PS _).mono ?_; clear PS; rintro e w5 ⟨rfl, hb5⟩; have hB5 := (B1 _).trans (hb5.mono (B1 _).size); have K5 := BR _ hb5; have C5 := BX _ K5; have z5 := hb5.size; simp only [World.size_alloc'] at z5)
   | (go_at_call 122; refine (PO _ hB5).mono ?_; clear PO; rintro e w6 ⟨rfl, hb6⟩; have hB6 := hB5.trans (hb6.mono hB5.size); have K6 := K5.trans (hb6.mono z5); have C6 := BX _ K6; have z6 := Nat.le_trans z5 hb6.size)
   | (go_at_call 123; refine (LK _ hB6).mono ?_; rintro e w7 ⟨rfl, hb7⟩; have hB7 := hB6.trans (hb7.mono hB6.size); have K7 := K6.trans (hb7.mono z6); have C7 := BX _ K7; have z7 := Nat.le_trans z6 hb7.size)
   | (go_at_call 124; refine (AT _ hB7).mono ?_; rintro e w8 ⟨rfl, hb8⟩; have hB8 := hB7.trans (hb8.mono hB7.size); have K8 := K7.trans (hb8.mono z7); have C8 := BX _ K8)
   | (go_at_call 125; refine (EV _ hB8).mono ?_; rintro e w9 ⟨rfl, hb9⟩; have hB9 := hB8.trans (hb9.mono hB8.size)))
  go_ret
  exact ⟨ret_int (by rw [← HR.out]; first | (simp_all; done) | (simp_all; (repeat' split) <;> omega)), hB9⟩
 | true =>
  go_enter Tryz.func81, Tryz.ntmps81
  go_wp2_with (first
   | (go_at_call 121; refine (M1 _).mono ?_; clear M1; rintro e w' ⟨rfl, rfl⟩)
   | (go_at_call 121; refine (M2 _).mono ?_; clear M2; rintro e w' ⟨rfl, rfl⟩)
   | (go_at_call 122; refine (PS _).mono ?_; clear PS; rintro e w5 ⟨rfl, hb5⟩; have hB5 := (B1 _).trans (hb5.mono (B1 _).size); have K5 := BR _ hb5; have C5 := BX _ K5; have z5 := hb5.size; simp only [World.size_alloc'] at z5)
   | (go_at_call 122; refine (PO _ hB5).mono ?_; clear PO; rintro e w6 ⟨rfl, hb6⟩; have hB6 := hB5.trans (hb6.mono hB5.size); have K6 := K5.trans (hb6.mono z5); have C6 := BX _ K6; have z6 := Nat.le_trans z5 hb6.size)
   | (go_at_call 123; refine (LK _ hB6).mono ?_; rintro e w7 ⟨rfl, hb7⟩; have hB7 := hB6.trans (hb7.mono hB6.size); have K7 := K6.trans (hb7.mono z6); have C7 := BX _ K7; have z7 := Nat.le_trans z6 hb7.size)
   | (go_at_call 124; refine (AT _ hB7).mono ?_; rintro e w8 ⟨rfl, hb8⟩; have hB8 := hB7.trans (hb8.mono hB7.size); have K8 := K7.trans (hb8.mono z7); have C8 := BX _ K8)
   | (go_at_call 125; refine (EV _ hB8).mono ?_; rintro e w9 ⟨rfl, hb9⟩; have hB9 := hB8.trans (hb9.mono hB8.size)))
  go_ret
  exact ⟨ret_int (by rw [← HR.out]; first | (simp_all; done) | (simp_all; (repeat' split) <;> omega)), hB9⟩
end Go.Proofs.YtnffedmcblbkoaaGreatDoor
