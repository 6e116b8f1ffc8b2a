/-
  Merged by merge.py: Xm, Xn, Xt, Xu.
-/
import Derived.Test.YthcghpbkadlliabGreatDoorMa14
import Derived.Test.YthcghpbkadlliabGreatDoorXq
import Derived.Defers
import Derived.Recover
import Derived.Maps.OwnSet
import Derived.Maps.OwnOps
import Derived.Maps.Views
import Derived.DeepKeys4
import Derived.Test.YthcghpbkadlliabGreatDoorMa10
namespace Go.Proofs.YthcghpbkadlliabGreatDoor
open Go.Shelf Go.RowKit
set_option maxRecDepth 100000

theorem mustU_ok (x : Int) (w : World) : Calls Tryz.prog 62 #[.int .u64 x, .nilIface] w fun e w' => e = .returned (.int .u64 x) ∧ w' = w := by
  go_enter Tryz.func62, Tryz.ntmps62
  go_wp2_with (go_at_call 39; refine (need_nil _).mono ?_; rintro e w' ⟨rfl, rfl⟩)
  go_ret
  exact ⟨rfl, rfl⟩
theorem mustU_bad (x : Int) (p : Nat) (at_ no : Int) (w : World) (h : IsF w p at_ no) : Calls Tryz.prog 62 #[.int .u64 x, .iface 95 (.pointer (some ⟨p, 0, none⟩))] w fun e w' => Ups w' at_ no e ∧ Below w.heap.size w w' := by
  go_enter Tryz.func62, Tryz.ntmps62
  go_wp2_with (go_at_call 39; refine (need_bad p at_ no _ h).mono ?_; rintro e w' ⟨⟨q, p', rfl, hG⟩, hb⟩)
  exact ⟨rfl, ⟨q, p', rfl, hG⟩, hb⟩
theorem mustS_ok (x : ByteArray) (w : World) : Calls Tryz.prog 31 #[.string x, .nilIface] w fun e w' => e = .returned (.string x) ∧ w' = w := by
  go_enter Tryz.func31, Tryz.ntmps31
  go_wp2_with (go_at_call 39; refine (need_nil _).mono ?_; rintro e w' ⟨rfl, rfl⟩)
  go_ret
  exact ⟨rfl, rfl⟩
theorem mustS_bad (x : ByteArray) (p : Nat) (at_ no : Int) (w : World) (h : IsF w p at_ no) : Calls Tryz.prog 31 #[.string x, .iface 95 (.pointer (some ⟨p, 0, none⟩))] w fun e w' => Ups w' at_ no e ∧ Below w.heap.size w w' := by
  go_enter Tryz.func31, Tryz.ntmps31
  go_wp2_with (go_at_call 39; refine (need_bad p at_ no _ h).mono ?_; rintro e w' ⟨⟨q, p', rfl, hG⟩, hb⟩)
  exact ⟨rfl, ⟨q, p', rfl, hG⟩, hb⟩
theorem mustB_ok (ad : Option Addr) (n c : Nat) (w : World) : Calls Tryz.prog 27 #[.slice ad n c, .nilIface] w fun e w' => e = .returned (.slice ad n c) ∧ w' = w := by
  go_enter Tryz.func27, Tryz.ntmps27
  go_wp2_with (go_at_call 39; refine (need_nil _).mono ?_; rintro e w' ⟨rfl, rfl⟩)
  go_ret
  exact ⟨rfl, rfl⟩
theorem mustB_bad (ad : Option Addr) (n c : Nat) (p : Nat) (at_ no : Int) (w : World) (h : IsF w p at_ no) : Calls Tryz.prog 27 #[.slice ad n c, .iface 95 (.pointer (some ⟨p, 0, none⟩))] w fun e w' => Ups w' at_ no e ∧ Below w.heap.size w w' := by
  go_enter Tryz.func27, Tryz.ntmps27
  go_wp2_with (go_at_call 39; refine (need_bad p at_ no _ h).mono ?_; rintro e w' ⟨⟨q, p', rfl, hG⟩, hb⟩)
  exact ⟨rfl, ⟨q, p', rfl, hG⟩, hb⟩
theorem mustI_ok (x : Int) (w : World) : Calls Tryz.prog 103 #[.int .i64 x, .nilIface] w fun e w' => e = .returned (.int .i64 x) ∧ w' = w := by
  go_enter Tryz.func103, Tryz.ntmps103
  go_wp2_with (go_at_call 39; refine (need_nil _).mono ?_; rintro e w' ⟨rfl, rfl⟩)
  go_ret
  exact ⟨rfl, rfl⟩
theorem mustI_bad (x : Int) (p : Nat) (at_ no : Int) (w : World) (h : IsF w p at_ no) : Calls Tryz.prog 103 #[.int .i64 x, .iface 95 (.pointer (some ⟨p, 0, none⟩))] w fun e w' => Ups w' at_ no e ∧ Below w.heap.size w w' := by
  go_enter Tryz.func103, Tryz.ntmps103
  go_wp2_with (go_at_call 39; refine (need_bad p at_ no _ h).mono ?_; rintro e w' ⟨⟨q, p', rfl, hG⟩, hb⟩)
  exact ⟨rfl, ⟨q, p', rfl, hG⟩, hb⟩
/-- The errors package's own variable. -/
def ErrT (w : World) : Prop := w.cell? ⟨0, 0, none⟩ = some (.iface 179 (.agg #[.pointer (some ⟨4, 26, none⟩)]))
theorem ErrT.below {w w' : World} (h : ErrT w) (hb : Below w.heap.size w w') : ErrT w' := (hb.cell (p := ⟨0, 0, none⟩) (World.block_lt_of_cell? w _ h)).trans h
theorem assert_up (v : Value) (w : World) : (Instr.typeAssert (.iface 93 v) 20 93 true).run Tryz.prog w = .ok (.tuple #[v, .bool true]) w := by kernel_rfl
theorem told_any (q p : Nat) (at_ no : Int) (w : World) (h : GaveUp w q p at_ no) (hE : ErrT w) : Calls Tryz.prog 17 #[upV q] w fun e w' => e = .returned (errV p) ∧ Below w.heap.size w w' := by
  have ha := assert_up (.pointer (some ⟨q, 0, none⟩)) w
  have hq : w.cell? ⟨q, 0, none⟩ = some (errV p) := by simp [World.cell?, h.1]
  have hlq := lt_of_block h.1
  have hb0 : Below w.heap.size w (w.alloc (.cells #[.pointer none] 95)) := (Below.refl _ _).alloc (Nat.le_refl _) _
  have A := as_up ⟨q, 0, none⟩ ⟨p, 0, none⟩ ⟨w.heap.size, 0, none⟩ (.pointer none) (w.alloc (.cells #[.pointer none] 95)) ((hb0.cell (p := ⟨q, 0, none⟩) hlq).trans hq) (hE.below hb0) (by simp [go_sem]) (by simp [go_sem])
  clear hq
  unfold upV errV
  go_enter Tryz.func17, Tryz.ntmps17
  go_wp2_with (go_at_call 41; refine A.mono ?_; rintro e w' ⟨rfl, o1, o2, o3, o4, rfl⟩)
  go_ret
  exact ⟨rfl, ((((((Below.refl _ _).alloc (Nat.le_refl _) _).alloc (by (try simp); (try omega)) _).alloc (by (try simp); (try omega)) _).alloc (by (try simp); (try omega)) _).alloc (by (try simp); (try omega)) _)⟩
end Go.Proofs.YthcghpbkadlliabGreatDoor

namespace Go.Proofs.YthcghpbkadlliabGreatDoor
open Go.Shelf Go.RowKit
set_option maxRecDepth 100000

theorem neqAny_up (w : World) (q : Nat) : (binOp .neq 20 (.iface 93 (.pointer (some ⟨q, 0, none⟩))) .nilIface).run Tryz.prog w = .ok (.bool true) w := by kernel_rfl
theorem idleB (p : Addr) (w : World) :
    CallsD Tryz.prog 16 #[.pointer (some p)] .returning w fun e u' w' => e = .returned (.tuple #[]) ∧ u' = .returning ∧ w' = w := by
  refine callsD_of_wpS Tryz.func16 rfl fun c₀ cs hu => ?_
  apply wpS_seq
  apply wpS_region
  simp [wpOpsS, go_sem, recoverD, hu, Tryz.ntmps16, Exit.thenS]
  apply wpS_seq
  apply wpS_region
  simp [wpOpsS, go_sem, Exit.thenS]
  refine wpS_cond (t := false) (by simp [Act.eval, Array.replicate]) ?_
  simp only [Bool.false_eq_true, if_false]
  refine wpS_of_wp (wp_skip ?_)
  cases c₀
  simp_all [bodyPostS, results, Tryz.results16]
theorem catchB (r q p : Nat) (at_ no : Int) (x : Value) (w : World) (h : GaveUp w q p at_ no) (hE : ErrT w) (hr : w.heap[r]? = some (.cells #[x] 26 (0, 0))) :
    CallsD Tryz.prog 16 #[.pointer (some ⟨r, 0, none⟩)] (.panicking ({ v := upV q, recovered := false } :: [])) w fun e u' w' =>
      e = .returned (.tuple #[]) ∧ u' = .panicking ({ v := upV q, recovered := true } :: []) ∧ ∃ w1, Below w.heap.size w w1 ∧ w' = w1.setCell ⟨r, 0, none⟩ (errV p) := by
  have hn := fun w => neqAny_up w q
  have T := fun w' (hb : Below w.heap.size w w') => told_any q p at_ no w' (h.below hb) (hE.below hb)
  unfold upV errV at *
  refine callsD_of_wpS Tryz.func16 rfl fun c₀ cs hu => ?_
  apply wpS_seq
  apply wpS_region
  simp [wpOpsS, go_sem, recoverD, hu, Tryz.ntmps16, Exit.thenS]
  apply wpS_seq
  apply wpS_region
  simp [wpOpsS, go_sem, Exit.thenS, hn]
  refine wpS_cond (t := true) (by simp [Act.eval, Array.replicate]) ?_
  simp only [if_true]
  refine wpS_of_wp ?_
  go_wp2_with (go_at_call 17; refine (T _ (Below.refl _ _)).mono ?_; rintro e w1 ⟨rfl, b1⟩; have hr1 := (b1.block r (lt_of_block hr)).trans hr; have c1 := cell_of_one hr1; have f1 := free_of_one hr1)
  cases c₀
  simp_all [bodyPostS, results, Tryz.results16]
  exact ⟨_, b1, rfl⟩
/-- It goes well: what was called answers. -/
theorem caughtB_ok (c : Nat) (Q : Value → World → Prop) (w : World)
    (hc : Calls Tryz.prog 11 #[.pointer (some ⟨c, 0, none⟩)] (w.alloc (.cells #[.nilIface] 26)) fun e w' => ∃ v, e = .returned v ∧ Q v w' ∧ Below (w.heap.size + 1) (w.alloc (.cells #[.nilIface] 26)) w')
    (hQ : ∀ v w', Q v w' → w'.heap[w.heap.size]? = some (.cells #[.nilIface] 26 (0, 0)) → Q v (w'.setCell ⟨w.heap.size, 0, none⟩ .nilIface)) :
    Calls Tryz.prog 10 #[.func (.func 11) #[] #[.pointer (some ⟨c, 0, none⟩)]] w fun e w' => ∃ v, e = .returned (.tuple #[v, .nilIface]) ∧ Q v w' ∧ Below w.heap.size w w' := by
  have hmf : ∀ (fn : Fn) (first cap : Array Value) (w : World), (Instr.makeFunc fn first cap).run Tryz.prog w = .ok (.func fn first cap) w := fun _ _ _ _ => rfl
  have hX : (w.alloc (.cells #[.nilIface] 26)).heap[w.heap.size]? = some (.cells #[.nilIface] 26 (0, 0)) := heap_alloc_new _ _
  go_enter_defers Tryz.func10, Tryz.ntmps10
  go_wp2_with (go_at_call 11; refine hc.mono ?_; rintro e w1 ⟨v, rfl, hv, b1⟩; have hX1 := (b1.block w.heap.size (by omega)).trans hX; have c1 := cell_of_one hX1; have f1 := free_of_one hX1)
  refine leaves_cons (f := 16) (args := #[.pointer (some ⟨w.heap.size, 0, none⟩)]) (by simp) (by simp [go_sem]) ?_
  refine (idleB ⟨w.heap.size, 0, none⟩ _).mono ?_
  rintro e u' w'' ⟨rfl, rfl, rfl⟩
  have c2 : (w1.setCell ⟨w.heap.size, 0, none⟩ .nilIface).cell? ⟨w.heap.size, 0, none⟩ = some .nilIface := by
    have := set_block hX1 0 Value.nilIface
    simp [World.cell?, this]
  simp [Leaves, settle, results, Tryz.results10, go_sem, c2]
  exact ⟨hQ _ _ hv hX1, Below.setCell (((Below.refl _ _).alloc (Nat.le_refl _) _).trans (b1.mono (by simp))) (p := ⟨w.heap.size, 0, none⟩) (Nat.le_refl _) _⟩
/-- Something was given up: the fault is told. -/
theorem caughtB_bad (c : Nat) (at_ no : Int) (w : World) (hE : ErrT w)
    (hc : Calls Tryz.prog 11 #[.pointer (some ⟨c, 0, none⟩)] (w.alloc (.cells #[.nilIface] 26)) fun e w' => Ups w' at_ no e ∧ Below (w.heap.size + 1) (w.alloc (.cells #[.nilIface] 26)) w') :
    Calls Tryz.prog 10 #[.func (.func 11) #[] #[.pointer (some ⟨c, 0, none⟩)]] w fun e w' => ∃ p, e = .returned (.tuple #[.slice none 0 0, errV p]) ∧ IsF w' p at_ no ∧ Below w.heap.size w w' := by
  have hmf : ∀ (fn : Fn) (first cap : Array Value) (w : World), (Instr.makeFunc fn first cap).run Tryz.prog w = .ok (.func fn first cap) w := fun _ _ _ _ => rfl
  have hX : (w.alloc (.cells #[.nilIface] 26)).heap[w.heap.size]? = some (.cells #[.nilIface] 26 (0, 0)) := heap_alloc_new _ _
  have b0 : Below w.heap.size w (w.alloc (.cells #[.nilIface] 26)) := (Below.refl _ _).alloc (Nat.le_refl _) _
  go_enter_defers Tryz.func10, Tryz.ntmps10
  go_wp2_with (go_at_call 11; refine hc.mono ?_; rintro e w1 ⟨⟨q, p, rfl, hG⟩, b1⟩; have hX1 := (b1.block w.heap.size (by omega)).trans hX)
  have bw1 := b0.trans (b1.mono (by simp))
  refine leaves_cons (f := 16) (args := #[.pointer (some ⟨w.heap.size, 0, none⟩)]) (by simp) (by simp [go_sem]) ?_
  refine (catchB w.heap.size q p at_ no .nilIface w1 hG (hE.below bw1) hX1).mono ?_
  rintro e u' w'' ⟨rfl, rfl, w2, b2, rfl⟩
  have hX2 := (b2.block w.heap.size (lt_of_block hX1)).trans hX1
  have c2 : (w2.setCell ⟨w.heap.size, 0, none⟩ (errV p)).cell? ⟨w.heap.size, 0, none⟩ = some (errV p) := by
    have := set_block hX2 0 (errV p)
    simp [World.cell?, this]
  unfold errV at c2
  simp [Leaves, settle, results, Tryz.results10, go_sem, c2, errV]
  have hF2 := (b2.block p (lt_of_block hG.2)).trans hG.2
  refine ⟨?_, (bw1.trans (b2.mono bw1.size)).setCell (Nat.le_refl _) _⟩
  have hne : p ≠ w.heap.size := ne_of_types hF2 hX2 (by decide)
  exact (Below.heap_setCell _ _ _ p hne).trans hF2
theorem idleL (p : Addr) (w : World) :
    CallsD Tryz.prog 25 #[.pointer (some p)] .returning w fun e u' w' => e = .returned (.tuple #[]) ∧ u' = .returning ∧ w' = w := by
  refine callsD_of_wpS Tryz.func25 rfl fun c₀ cs hu => ?_
  apply wpS_seq
  apply wpS_region
  simp [wpOpsS, go_sem, recoverD, hu, Tryz.ntmps25, Exit.thenS]
  apply wpS_seq
  apply wpS_region
  simp [wpOpsS, go_sem, Exit.thenS]
  refine wpS_cond (t := false) (by simp [Act.eval, Array.replicate]) ?_
  simp only [Bool.false_eq_true, if_false]
  refine wpS_of_wp (wp_skip ?_)
  cases c₀
  simp_all [bodyPostS, results, Tryz.results25]
theorem catchL (r q p : Nat) (at_ no : Int) (x : Value) (w : World) (h : GaveUp w q p at_ no) (hE : ErrT w) (hr : w.heap[r]? = some (.cells #[x] 26 (0, 0))) :
    CallsD Tryz.prog 25 #[.pointer (some ⟨r, 0, none⟩)] (.panicking ({ v := upV q, recovered := false } :: [])) w fun e u' w' =>
      e = .returned (.tuple #[]) ∧ u' = .panicking ({ v := upV q, recovered := true } :: []) ∧ ∃ w1, Below w.heap.size w w1 ∧ w' = w1.setCell ⟨r, 0, none⟩ (errV p) := by
  have hn := fun w => neqAny_up w q
  have T := fun w' (hb : Below w.heap.size w w') => told_any q p at_ no w' (h.below hb) (hE.below hb)
  unfold upV errV at *
  refine callsD_of_wpS Tryz.func25 rfl fun c₀ cs hu => ?_
  apply wpS_seq
  apply wpS_region
  simp [wpOpsS, go_sem, recoverD, hu, Tryz.ntmps25, Exit.thenS]
  apply wpS_seq
  apply wpS_region
  simp [wpOpsS, go_sem, Exit.thenS, hn]
  refine wpS_cond (t := true) (by simp [Act.eval, Array.replicate]) ?_
  simp only [if_true]
  refine wpS_of_wp ?_
  go_wp2_with (go_at_call 17; refine (T _ (Below.refl _ _)).mono ?_; rintro e w1 ⟨rfl, b1⟩; have hr1 := (b1.block r (lt_of_block hr)).trans hr; have c1 := cell_of_one hr1; have f1 := free_of_one hr1)
  cases c₀
  simp_all [bodyPostS, results, Tryz.results25]
  exact ⟨_, b1, rfl⟩
/-- It goes well: what was called answers. -/
theorem caughtL_ok (c : Nat) (Q : Value → World → Prop) (w : World)
    (hc : Calls Tryz.prog 14 #[.pointer (some ⟨c, 0, none⟩)] (w.alloc (.cells #[.nilIface] 26)) fun e w' => ∃ v, e = .returned v ∧ Q v w' ∧ Below (w.heap.size + 1) (w.alloc (.cells #[.nilIface] 26)) w')
    (hQ : ∀ v w', Q v w' → w'.heap[w.heap.size]? = some (.cells #[.nilIface] 26 (0, 0)) → Q v (w'.setCell ⟨w.heap.size, 0, none⟩ .nilIface)) :
    Calls Tryz.prog 13 #[.func (.func 14) #[] #[.pointer (some ⟨c, 0, none⟩)]] w fun e w' => ∃ v, e = .returned (.tuple #[v, .nilIface]) ∧ Q v w' ∧ Below w.heap.size w w' := by
  have hmf : ∀ (fn : Fn) (first cap : Array Value) (w : World), (Instr.makeFunc fn first cap).run Tryz.prog w = .ok (.func fn first cap) w := fun _ _ _ _ => rfl
  have hX : (w.alloc (.cells #[.nilIface] 26)).heap[w.heap.size]? = some (.cells #[.nilIface] 26 (0, 0)) := heap_alloc_new _ _
  go_enter_defers Tryz.func13, Tryz.ntmps13
  go_wp2_with (go_at_call 14; refine hc.mono ?_; rintro e w1 ⟨v, rfl, hv, b1⟩; have hX1 := (b1.block w.heap.size (by omega)).trans hX; have c1 := cell_of_one hX1; have f1 := free_of_one hX1)
  refine leaves_cons (f := 25) (args := #[.pointer (some ⟨w.heap.size, 0, none⟩)]) (by simp) (by simp [go_sem]) ?_
  refine (idleL ⟨w.heap.size, 0, none⟩ _).mono ?_
  rintro e u' w'' ⟨rfl, rfl, rfl⟩
  have c2 : (w1.setCell ⟨w.heap.size, 0, none⟩ .nilIface).cell? ⟨w.heap.size, 0, none⟩ = some .nilIface := by
    have := set_block hX1 0 Value.nilIface
    simp [World.cell?, this]
  simp [Leaves, settle, results, Tryz.results13, go_sem, c2]
  exact ⟨hQ _ _ hv hX1, Below.setCell (((Below.refl _ _).alloc (Nat.le_refl _) _).trans (b1.mono (by simp))) (p := ⟨w.heap.size, 0, none⟩) (Nat.le_refl _) _⟩
/-- Something was given up: the fault is told. -/
theorem caughtL_bad (c : Nat) (at_ no : Int) (w : World) (hE : ErrT w)
    (hc : Calls Tryz.prog 14 #[.pointer (some ⟨c, 0, none⟩)] (w.alloc (.cells #[.nilIface] 26)) fun e w' => Ups w' at_ no e ∧ Below (w.heap.size + 1) (w.alloc (.cells #[.nilIface] 26)) w') :
    Calls Tryz.prog 13 #[.func (.func 14) #[] #[.pointer (some ⟨c, 0, none⟩)]] w fun e w' => ∃ p, e = .returned (.tuple #[.slice none 0 0, errV p]) ∧ IsF w' p at_ no ∧ Below w.heap.size w w' := by
  have hmf : ∀ (fn : Fn) (first cap : Array Value) (w : World), (Instr.makeFunc fn first cap).run Tryz.prog w = .ok (.func fn first cap) w := fun _ _ _ _ => rfl
  have hX : (w.alloc (.cells #[.nilIface] 26)).heap[w.heap.size]? = some (.cells #[.nilIface] 26 (0, 0)) := heap_alloc_new _ _
  have b0 : Below w.heap.size w (w.alloc (.cells #[.nilIface] 26)) := (Below.refl _ _).alloc (Nat.le_refl _) _
  go_enter_defers Tryz.func13, Tryz.ntmps13
  go_wp2_with (go_at_call 14; refine hc.mono ?_; rintro e w1 ⟨⟨q, p, rfl, hG⟩, b1⟩; have hX1 := (b1.block w.heap.size (by omega)).trans hX)
  have bw1 := b0.trans (b1.mono (by simp))
  refine leaves_cons (f := 25) (args := #[.pointer (some ⟨w.heap.size, 0, none⟩)]) (by simp) (by simp [go_sem]) ?_
  refine (catchL w.heap.size q p at_ no .nilIface w1 hG (hE.below bw1) hX1).mono ?_
  rintro e u' w'' ⟨rfl, rfl, w2, b2, rfl⟩
  have hX2 := (b2.block w.heap.size (lt_of_block hX1)).trans hX1
  have c2 : (w2.setCell ⟨w.heap.size, 0, none⟩ (errV p)).cell? ⟨w.heap.size, 0, none⟩ = some (errV p) := by
    have := set_block hX2 0 (errV p)
    simp [World.cell?, this]
  unfold errV at c2
  simp [Leaves, settle, results, Tryz.results13, go_sem, c2, errV]
  have hF2 := (b2.block p (lt_of_block hG.2)).trans hG.2
  refine ⟨?_, (bw1.trans (b2.mono bw1.size)).setCell (Nat.le_refl _) _⟩
  have hne : p ≠ w.heap.size := ne_of_types hF2 hX2 (by decide)
  exact (Below.heap_setCell _ _ _ p hne).trans hF2
end Go.Proofs.YthcghpbkadlliabGreatDoor

namespace Go.Proofs.YthcghpbkadlliabGreatDoor
open Go.Shelf Go.RowKit Go.Maps
set_option maxRecDepth 100000

theorem idx_snoc {α : Type} [DecidableEq α] : ∀ (l : List α) (x y : α), ¬ idxL l x < l.length → idxL (l ++ [x]) y = if y = x then l.length else if idxL l y < l.length then idxL l y else l.length + 1
  | [], x, y, _ => by by_cases h : x = y <;> simp [idxL, h, eq_comm]
  | z :: r, x, y, h => by
    have hz : z ≠ x := fun e => h (by simp [idxL, e])
    have hr : ¬ idxL r x < r.length := fun hl => h (by simp [idxL, hz]; exact hl)
    have ih := idx_snoc r x y hr
    by_cases e : z = y
    · subst e
      simp [idxL, hz]
    · simp only [List.cons_append, idxL, if_neg e, ih, List.length_cons]
      by_cases e2 : y = x
      · simp [e2]
      · simp only [if_neg e2]
        by_cases e3 : idxL r y < r.length
        · rw [if_pos e3, if_pos (by omega)]
        · rw [if_neg e3, if_neg (by omega)]
/-- What the map tells of each thing. -/
def MapIx {α : Type} [DecidableEq α] (k : TypeId) (V : α → Value) (D : DataW Unit) (X : List α) : Prop :=
  ∀ x l, keyOf Tryz.prog k (V x) = some l → has D l = decide (idxL X x < X.length) ∧ D.atKey l (.lit (.int .u64 0)) = .lit (.int .u64 (if idxL X x < X.length then idxL X x else 0 : Nat))
theorem mapIx_nil {α : Type} [DecidableEq α] (k : TypeId) (V : α → Value) : MapIx k V (.map []) ([] : List α) := fun x l _ => ⟨by simp [has, idxL], rfl⟩
theorem MapIx.put {α : Type} [DecidableEq α] {k : TypeId} {V : α → Value} {D : DataW Unit} {X : List α} (h : MapIx k V D X) (K : Keyed Tryz.prog k) (hV : ∀ a b, V a = V b → a = b) (hD : IsMap D) {x : α} {l : Lit} (hl : keyOf Tryz.prog k (V x) = some l) (hx : ¬ idxL X x < X.length) : MapIx k V (D.put l (.lit (.int .u64 (X.length : Nat)))) (X ++ [x]) := by
  intro y m hm
  rw [idx_snoc X x y hx, List.length_append, List.length_singleton]
  by_cases e : y = x
  · subst e
    obtain rfl : m = l := Option.some.inj (hm.symm.trans hl)
    rw [has_put_same hD (K.key hl), atKey_put_same hD (K.key hl)]
    simp
  · have hne : m ≠ l := by rintro rfl; exact e (hV _ _ (K.inj hm hl))
    rw [has_put_other hne, atKey_put_other hne, (h y m hm).1, (h y m hm).2, if_neg e]
    by_cases e3 : idxL X y < X.length
    · simp only [if_pos e3]; rw [if_pos (by omega)]; exact ⟨by simp [e3]; omega, rfl⟩
    · simp only [if_neg e3]; rw [if_neg (by omega)]; exact ⟨by simp [e3], rfl⟩
theorem zeroU (w : World) : (zeroValue 31).run Tryz.prog w = .ok (.int .u64 0) w := by kernel_rfl
/-- The map, in a world. -/
structure IsMp {α : Type} [DecidableEq α] (w : World) (k : TypeId) (V : α → Value) (mb : Nat) (X : List α) : Prop where
  map : ∃ D, w.ownsMap Tryz.prog k (plainElem (H := Unit) Tryz.prog 31) mb X.length D ∧ MapIx k V D X
theorem IsMp.lt {α : Type} [DecidableEq α] {w : World} {k : TypeId} {V : α → Value} {mb : Nat} {X : List α} (h : IsMp w k V mb X) : mb < w.heap.size := by obtain ⟨⟨D, h1, _⟩⟩ := h; exact h1.lt
theorem IsMp.block {α : Type} [DecidableEq α] {w : World} {k : TypeId} {V : α → Value} {mb : Nat} {X : List α} (h : IsMp w k V mb X) : ∃ es cl, w.heap[mb]? = some (.map es cl) := by obtain ⟨⟨D, ⟨es, cl, h1, _⟩, _⟩⟩ := h; exact ⟨es, cl, h1⟩
theorem IsMp.upd {α : Type} [DecidableEq α] {w w' : World} {k : TypeId} {V : α → Value} {mb : Nat} {X : List α} {S : Nat → Prop} (h : IsMp w k V mb X) (hu : Upd S w w') (hS : ¬ S mb) : IsMp w' k V mb X := by
  have hlt := h.lt
  obtain ⟨⟨D, ⟨es, cl, h1, h2⟩, h3⟩⟩ := h
  exact ⟨⟨D, ⟨es, cl, (hu.block mb hlt hS).trans h1, h2⟩, h3⟩⟩
theorem IsMp.ne {α : Type} [DecidableEq α] {w : World} {k : TypeId} {V : α → Value} {mb : Nat} {X : List α} (h : IsMp w k V mb X) {b : Nat} {cs : Array Value} {t : TypeId} {f : Nat × Nat} (hb : w.heap[b]? = some (.cells cs t f)) : mb ≠ b := by
  rintro rfl
  obtain ⟨es, cl, h1⟩ := h.block
  rw [hb] at h1; simp at h1
theorem IsMp.look {α : Type} [DecidableEq α] {w : World} {k : TypeId} {V : α → Value} {mb : Nat} {X : List α} (h : IsMp w k V mb X) (K : Keyed Tryz.prog k) {t : TypeId} (ht : Tryz.prog.underlying t = some (.map k 31)) {x : α} {l : Lit} (hl : keyOf Tryz.prog k (V x) = some l) :
    (Instr.lookup t (.map (some mb)) (V x) true).run Tryz.prog w = .ok (.tuple #[.int .u64 (if idxL X x < X.length then idxL X x else 0 : Nat), .bool (decide (idxL X x < X.length))]) w := by
  obtain ⟨⟨D, h1, h2⟩⟩ := h
  obtain ⟨v, ps, hrun, hv⟩ := h1.look_ok K ht (zeroU w) (plainElem_int Tryz.underlying31 (by decide)) hl
  obtain ⟨c, rfl, hc, _⟩ := plainElem_int_inv Tryz.underlying31 hv
  have h3 := h2 x l hl
  simp only [Prod.mk.injEq] at hc
  rw [h3.2] at hc
  simp only [DataW.lit.injEq, Lit.int.injEq, true_and] at hc
  rw [hrun, h3.1, ← hc.1]
theorem IsMp.store {α : Type} [DecidableEq α] {w : World} {k : TypeId} {V : α → Value} {mb : Nat} {X : List α} (h : IsMp w k V mb X) (K : Keyed Tryz.prog k) {t : TypeId} (ht : Tryz.prog.underlying t = some (.map k 31)) (hV : ∀ a b, V a = V b → a = b) {x : α} {l : Lit} (hl : keyOf Tryz.prog k (V x) = some l) (hx : ¬ idxL X x < X.length) (hn : X.length < 1000000000000) :
    ∃ w', (Instr.mapUpdate t (.map (some mb)) (V x) (.int .u64 (X.length : Nat))).run Tryz.prog w = .ok () w' ∧ IsMp w' k V mb (X ++ [x]) ∧ w.grownBy w' (some mb) := by
  obtain ⟨⟨D, h1, h2⟩⟩ := h
  have hw : (Lit.int .u64 (X.length : Nat)).wf = true := by simp [Lit.wf, IntKind.min, IntKind.max, IntKind.bits, IntKind.signed]; omega
  obtain ⟨w', hrun, r1, r2⟩ := h1.update K ht (by unfold maxLen; omega) hl (plainElem_int Tryz.underlying31 hw)
  exact ⟨w', hrun, ⟨⟨_, by simpa using r1, h2.put K hV h1.isMap hl hx⟩⟩, r2⟩
end Go.Proofs.YthcghpbkadlliabGreatDoor

namespace Go.Proofs.YthcghpbkadlliabGreatDoor
open Go.Shelf Go.RowKit Go.Maps Go.WideMaps
set_option maxRecDepth 100000

def strsV (X : List ByteArray) : List Value := X.map Value.string
structure IsTb (base : Nat) (w : World) (Tb mb : Nat) (v : Value) (X : List ByteArray) : Prop where
  block : w.heap[Tb]? = some (.cells #[v, .map (some mb)] 112 (0, 0))
  own : w.ownsRow base 9 1 v X.length (strsV X)
  mp : IsMp w 9 Value.string mb X
theorem lawS : Keyed Tryz.prog 9 := string_keyed Tryz.underlying9
theorem Tryz.info9 : (Tryz.prog.info? 9).map (fun i => (i.zero, i.size, i.bytes)) = some (some (.string ⟨#[]⟩), 1, 16) := by kernel_rfl
theorem newTabS_any (base : Nat) (w : World) :
    Calls Tryz.prog 21 #[] w fun e w' => e = .returned (.pointer (some ⟨w.heap.size + 1, 0, none⟩)) ∧ IsTb base w' (w.heap.size + 1) w.heap.size (.slice none 0 0) [] ∧ Below w.heap.size w w' := by
  have hmm := @run_makeMap Tryz.prog
  go_enter Tryz.func21, Tryz.ntmps21
  go_wp2
  go_ret
  refine ⟨rfl, ⟨alloc_at (by simp), World.ownsRow_nil _ _ _ _, ⟨⟨_, (World.ownsMap_made _ _ _ _).alloc _, mapIx_nil _ _⟩⟩⟩, ((Below.refl _ _).alloc (Nat.le_refl _) _).alloc (by simp) _⟩
theorem IsTb.upd {base : Nat} {w w' : World} {Tb mb : Nat} {v : Value} {X : List ByteArray} {S : Nat → Prop} (h : IsTb base w Tb mb v X) (hu : Upd S w w') (h1 : ¬ S Tb) (h2 : ¬ S mb) (h3 : ∀ k, v.ownBlock = some k → ¬ S k) : IsTb base w' Tb mb v X :=
  ⟨(hu.block Tb (lt_of_block h.block) h1).trans h.block, ownsRow_upd h.own hu h3, h.mp.upd hu h2⟩
theorem IsTb.apart {base : Nat} {w : World} {Tb mb : Nat} {v : Value} {X : List ByteArray} (h : IsTb base w Tb mb v X) : v.ownBlock ≠ some Tb ∧ v.ownBlock ≠ some mb ∧ mb ≠ Tb := by
  refine ⟨?_, ?_, h.mp.ne h.block⟩
  · intro e
    rcases h.own.2 with ⟨rfl, _⟩ | ⟨g, cap, cur, rfl, _, hg, _⟩
    · simp [Value.ownBlock] at e
    · simp [Value.ownBlock] at e; subst e; rw [h.block] at hg; simp at hg
  · intro e
    rcases h.own.2 with ⟨rfl, _⟩ | ⟨g, cap, cur, rfl, _, hg, _⟩
    · simp [Value.ownBlock] at e
    · simp [Value.ownBlock] at e; subst e; exact h.mp.ne hg rfl
theorem upd_one (w : World) (b i : Nat) (v : Value) : Upd (fun k => k = b) w (w.setCell ⟨b, i, none⟩ v) := Upd.setCell (S := fun k => k = b) (p := ⟨b, i, none⟩) (Upd.refl _ w) (fun _ => rfl) v
theorem src_one {P : Program} {tx e : TypeId} (hu : P.underlying tx = some (.slice e)) (w : World) (x : Value) (t : TypeId) (h1 : x.oneCell' = true) : Src P 1 tx (.slice (some ⟨w.heap.size, 0, none⟩) 1 1) 1 [x] (w.alloc (.cells #[x] t)) := by
  refine Src.ofSlice _ hu ⟨w.heap.size, 0, none⟩ 1 1 _ rfl ?_ ?_
  · intro j u hj
    match j, hj with
    | 0, hj => simp at hj; subst hj; simp [Addr.add]
  · intro u hu; simp at hu; subst hu; exact h1
set_option maxHeartbeats 1000000 in
theorem numS_any (base Tb mb : Nat) (v : Value) (X : List ByteArray) (x : ByteArray) (w : World) (h : IsTb base w Tb mb v X) (hx : x.size ≤ maxLen) (hb : base ≤ w.heap.size) (hn : X.length < 1000000000) :
    Calls Tryz.prog 65 #[.pointer (some ⟨Tb, 0, none⟩), .string x] w fun e w' => e = .returned (.tuple #[.int .u64 (idxL X x), .bool (!decide (idxL X x < X.length))]) ∧ ∃ v', IsTb base w' Tb mb v' (insL X x) ∧ Upd (fun k => k = Tb ∨ k = mb ∨ v.ownBlock = some k) w w' ∧ Moved w v v' := by
  have c0 := blk_cell h.block 0 rfl
  have c1 := blk_cell h.block 1 rfl
  have hl := keyOf_string_mk Tryz.underlying9 hx
  have L := h.mp.look lawS Tryz.underlying109 hl
  by_cases hi : idxL X x < X.length
  · rw [if_pos hi, decide_eq_true hi] at L
    have hins : insL X x = X := by unfold insL; rw [if_pos hi]
    rw [hins, decide_eq_true hi]
    have h' := h
    clear h hl
    generalize idxL X x = n at L hi
    go_enter Tryz.func65, Tryz.ntmps65
    go_wp2
    go_ret2
    exact ⟨rfl, v, h', Upd.refl _ _, Moved.refl _ _⟩
  · rw [if_neg hi, decide_eq_false hi] at L
    have hins : insL X x = X ++ [x] := by unfold insL; rw [if_neg hi]
    have hidx : idxL X x = X.length := by have := idx_le X x; omega
    obtain ⟨w2, S, m2, g2⟩ := h.mp.store lawS Tryz.underlying109 (fun a b e => by simpa using e) hl hi (by omega)
    obtain ⟨ap1, ap2, ap3⟩ := h.apart
    have u2 : Upd (fun k => k = Tb ∨ k = mb ∨ v.ownBlock = some k) w w2 := (Upd.refl _ w).grown g2 (fun k _ e => Or.inr (Or.inl (by cases e; rfl)))
    have b2 : w2.heap[Tb]? = some (.cells #[v, .map (some mb)] 112 (0, 0)) := (g2.block Tb (lt_of_block h.block) (fun e => ap3 (by cases e; rfl))).trans h.block
    have d0 := blk_cell b2 0 rfl
    have f0 := blk_free b2 0
    have o2 : w2.ownsRow base 9 1 v X.length (strsV X) := ownsRow_upd (S := fun k => k = mb) h.own ((Upd.refl _ w).grown g2 (fun k _ e => by cases e; rfl)) (fun k hk e => ap2 (by rw [hk, e]))
    obtain ⟨i0, hi0, hz0, hz1, hz2⟩ := info_parts Tryz.info9
    have hsz := u2.size
    rw [hins, hidx, decide_eq_false (by omega)]
    obtain ⟨ao, ln, c, rfl⟩ := row_shape h.own
    have hln := own_len h.own
    rw [← hln] at hn S o2 ⊢
    have HL : Hid (X.length = ln) := hln.symm
    have hc3 : ln + 1 ≤ maxLen := by unfold maxLen; omega
    have hc5 : base ≤ (w2.alloc (.cells #[.string x] 9)).heap.size := by simp; omega
    clear hln hidx hi hl hins
    go_enter Tryz.func65, Tryz.ntmps65
    go_wp2_with (at_builtin; refine wpList_app _ rfl (.tmp 34) (.tmp 36) 110 110 rfl base 9 i0 (.string ⟨#[]⟩) 16 Tryz.underlying110 hi0 hz0 hz1 hz2 rfl _ _ _ rfl (o2.alloc _) _ 1 [.string x] rfl (src_one Tryz.underlying110 w2 (.string x) 9 rfl) hc3 (by omega) hc5 ?_)
    intro v' w3 o3 g3 m3
    have hsz3 := g3.size
    have ba : (w2.alloc (.cells #[.string x] 9)).heap[Tb]? = some (.cells #[.slice ao ln c, .map (some mb)] 112 (0, 0)) := (Below.heap_alloc _ _ _ (lt_of_block b2)).trans b2
    have b3 : w3.heap[Tb]? = some (.cells #[.slice ao ln c, .map (some mb)] 112 (0, 0)) := (g3.block Tb (lt_of_block ba) (fun e => ap1 e.symm)).trans ba
    have d3 := blk_cell b3 0 rfl
    have f3 := blk_free b3 0
    have u3 : Upd (fun k => k = Tb ∨ k = mb ∨ (Value.slice ao ln c).ownBlock = some k) w w3 := (u2.alloc (.cells #[.string x] 9)).grown g3 (fun k _ e => Or.inr (Or.inr e))
    have m3' : IsMp w3 9 Value.string mb (X ++ [x]) := m2.upd (S := fun k => (Value.slice ao ln c).ownBlock = some k) (((Upd.refl _ w2).alloc (.cells #[.string x] 9)).grown g3 (fun k _ e => e)) (fun e => ap2 e)
    have hne : v'.ownBlock ≠ some Tb := own_ne o3 b3 (by decide)
    have M : Moved w (.slice ao ln c) v' := by
      rcases m3 with e | ⟨k, e, hk⟩
      · exact Or.inl e
      · exact Or.inr ⟨k, e, by simp at hk; omega⟩
    obtain ⟨ao', l', c', rfl⟩ := row_shape o3
    clear d0 f0 o2 S L c0 c1 g2 m2 u2 b2 ba m3 g3
    go_wp2
    go_ret2
    refine ⟨rfl, _, ⟨?_, ?_, ?_⟩, Upd.setCell (p := ⟨Tb, 0, none⟩) u3 (fun _ => Or.inl rfl) _, M⟩
    · rw [set_block b3 0]; rfl
    · have := ownsRow_upd (S := fun k => k = Tb) o3 (upd_one w3 Tb 0 (.slice ao' l' c')) (fun k hk e => hne (by rw [hk, e]))
      simpa [strsV, HL.out] using this
    · exact m3'.upd (S := fun k => k = Tb) (upd_one w3 Tb 0 _) ap3
end Go.Proofs.YthcghpbkadlliabGreatDoor
