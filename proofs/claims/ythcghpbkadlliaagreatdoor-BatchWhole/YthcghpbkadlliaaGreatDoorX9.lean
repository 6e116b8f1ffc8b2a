/-
  X9.
-/
import Derived.Test.YthcghpbkadlliaaGreatDoorMa23
import Derived.Deep.RegionWith
namespace Go.Proofs.YthcghpbkadlliaaGreatDoor
open Go.Shelf Go.RowKit
set_option maxRecDepth 100000

theorem nat_get {l : List Nat} {v : Nat} (h : v < l.length) : (natsV l)[v]? = some (.int .i64 (l[v] : Nat)) := by simp [natsV, h]
set_option maxHeartbeats 1000000 in
theorem dEndS (c : Dc) (w0 w : World) (K : List Int) (s : Dst) (h : DS c w0 w K s) :
    Calls Tryz.prog 90 #[.pointer (some ⟨c.H1, 0, none⟩)] w fun e w' => (if s.tsp < s.texts.length then Ups w' (s.tpl.getD s.tsp 0) 54 e else e = .returned (.tuple #[])) ∧ Upd (fun _ => False) w w' := by
  have TB : w.cell? ⟨c.B1, 0, none⟩ = some (.slice c.a1 c.texts.length c.p1) := blk_cell ((h.upd.block _ (lt_of_block h.fx.b1) (h.fx.off h.fx.b1 (by decide) (by decide) (by decide) (by decide))).trans h.fx.b1) 0 rfl
  have g0 : w.cell? ⟨c.H1, 0, none⟩ = some (.pointer (some ⟨c.B1, 0, none⟩)) := blk_cell h.h1 0 rfl
  have g1 : w.cell? ⟨c.H1, 1, none⟩ = some (.slice c.q1 c.tpl.length c.z1) := blk_cell h.h1 1 rfl
  have g2 : w.cell? ⟨c.H1, 2, none⟩ = some (.int .u64 s.tsp) := blk_cell h.h1 2 rfl
  have ROW := h.fx.own h.upd h.fx.e1 (by decide) (by decide) (by decide) (by decide)
  have hl1 := h.fx.l1
  have hn := h.inv.t3
  rw [h.t1] at hn
  rw [h.t1, h.t2]
  generalize s.tsp = sp at g2 ⊢
  by_cases hlt : sp < c.texts.length
  · simp only [hlt, if_true]
    have hv : sp < c.tpl.length := by omega
    have hget : c.tpl.getD sp 0 = c.tpl[sp] := by rw [List.getD_eq_getElem?_getD, List.getElem?_eq_getElem hv]; rfl
    rw [hget]
    obtain ⟨b, o, e2, e3⟩ := (holdsV_own ROW).plain (nat_get hv)
    have kx := e3 sp _ (nat_get hv)
    generalize c.tpl[sp] = x at kx ⊢
    rw [e2] at g1
    have hi : (sp : Int) < (c.texts.length : Int) := by omega
    have hi2 : (sp : Int) < (c.tpl.length : Int) := by omega
    generalize c.texts.length = L at TB hlt hi hl1 hn
    generalize c.tpl.length = L2 at g1 hi2 hl1
    clear ROW hget h
    go_enter Tryz.func90, Tryz.ntmps90
    go_wp2
    go_quiet (fail)
    go_wp2
    go_region_with (first | (go_at_call 62; refine (giveUp_any _ _ _).mono ?_; rintro e w4 ⟨⟨q4, p4, e4, G4⟩, b4⟩; rcases e with v4 | ch | _; rotate_left; (focus (cases e4; exact ⟨rfl, ⟨q4, p4, rfl, G4⟩, ((Upd.refl _ _).drewN _).trans (S' := fun _ => False) (Upd.ofBelow b4 (fun k hk hk' => by omega)) (fun _ _ h => h)⟩)); (focus (cases e4)); have habs : Hid False := (by cases e4); clear e4 G4 b4))
    all_goals exact habs.out.elim
  · simp only [hlt, if_false]
    have hi : ¬ (sp : Int) < (c.texts.length : Int) := by omega
    generalize c.texts.length = L at TB hlt hi hl1 hn
    clear ROW h
    go_enter Tryz.func90, Tryz.ntmps90
    go_wp2
    go_quiet (fail)
    go_wp2
    go_end0
    exact ⟨rfl, (Upd.refl _ _).drewN _⟩
set_option maxHeartbeats 1000000 in
theorem dEndR (c : Dc) (w0 w : World) (K : List Int) (s : Dst) (h : DS c w0 w K s) :
    Calls Tryz.prog 91 #[.pointer (some ⟨c.H2, 0, none⟩)] w fun e w' => (if s.rsp < s.traces.length then Ups w' (s.rpl.getD s.rsp 0) 54 e else e = .returned (.tuple #[])) ∧ Upd (fun _ => False) w w' := by
  have TB : w.cell? ⟨c.B2, 0, none⟩ = some (.slice c.a2 c.traces.length c.p2) := blk_cell ((h.upd.block _ (lt_of_block h.fx.b2) (h.fx.off h.fx.b2 (by decide) (by decide) (by decide) (by decide))).trans h.fx.b2) 0 rfl
  have g0 : w.cell? ⟨c.H2, 0, none⟩ = some (.pointer (some ⟨c.B2, 0, none⟩)) := blk_cell h.h2 0 rfl
  have g1 : w.cell? ⟨c.H2, 1, none⟩ = some (.slice c.q2 c.rpl.length c.z2) := blk_cell h.h2 1 rfl
  have g2 : w.cell? ⟨c.H2, 2, none⟩ = some (.int .u64 s.rsp) := blk_cell h.h2 2 rfl
  have ROW := h.fx.own h.upd h.fx.e2 (by decide) (by decide) (by decide) (by decide)
  have hl1 := h.fx.l2
  have hn := h.inv.r3
  rw [h.r1] at hn
  rw [h.r1, h.r2]
  generalize s.rsp = sp at g2 ⊢
  by_cases hlt : sp < c.traces.length
  · simp only [hlt, if_true]
    have hv : sp < c.rpl.length := by omega
    have hget : c.rpl.getD sp 0 = c.rpl[sp] := by rw [List.getD_eq_getElem?_getD, List.getElem?_eq_getElem hv]; rfl
    rw [hget]
    obtain ⟨b, o, e2, e3⟩ := (holdsV_own ROW).plain (nat_get hv)
    have kx := e3 sp _ (nat_get hv)
    generalize c.rpl[sp] = x at kx ⊢
    rw [e2] at g1
    have hi : (sp : Int) < (c.traces.length : Int) := by omega
    have hi2 : (sp : Int) < (c.rpl.length : Int) := by omega
    generalize c.traces.length = L at TB hlt hi hl1 hn
    generalize c.rpl.length = L2 at g1 hi2 hl1
    clear ROW hget h
    go_enter Tryz.func91, Tryz.ntmps91
    go_wp2
    go_quiet (fail)
    go_wp2
    go_region_with (first | (go_at_call 62; refine (giveUp_any _ _ _).mono ?_; rintro e w4 ⟨⟨q4, p4, e4, G4⟩, b4⟩; rcases e with v4 | ch | _; rotate_left; (focus (cases e4; exact ⟨rfl, ⟨q4, p4, rfl, G4⟩, ((Upd.refl _ _).drewN _).trans (S' := fun _ => False) (Upd.ofBelow b4 (fun k hk hk' => by omega)) (fun _ _ h => h)⟩)); (focus (cases e4)); have habs : Hid False := (by cases e4); clear e4 G4 b4))
    all_goals exact habs.out.elim
  · simp only [hlt, if_false]
    have hi : ¬ (sp : Int) < (c.traces.length : Int) := by omega
    generalize c.traces.length = L at TB hlt hi hl1 hn
    clear ROW h
    go_enter Tryz.func91, Tryz.ntmps91
    go_wp2
    go_quiet (fail)
    go_wp2
    go_end0
    exact ⟨rfl, (Upd.refl _ _).drewN _⟩
end Go.Proofs.YthcghpbkadlliaaGreatDoor
