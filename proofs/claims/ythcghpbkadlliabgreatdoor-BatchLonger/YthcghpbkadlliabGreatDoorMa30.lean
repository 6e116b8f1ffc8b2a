/-
  Merged by merge.py: Xz, XA.
-/
import Derived.Test.YthcghpbkadlliabGreatDoorXg
import Derived.Test.YthcghpbkadlliabGreatDoorXi
import Derived.Test.YthcghpbkadlliabGreatDoorMa25
namespace Go.Proofs.YthcghpbkadlliabGreatDoor
open Go.Shelf Go.RowKit
set_option maxRecDepth 100000

theorem ds_make {w : World} {T R g H1 H2 B1 B2 m1 m2 b1 b2 n0 : Nat} {v1 v2 pv1 pv2 : Value} {K : List Int} {s : Dst}
    (tb : w.heap[T]? = some (.cells #[.pointer (some ⟨R, 0, none⟩), .pointer (some ⟨H1, 0, none⟩), .pointer (some ⟨H2, 0, none⟩), .int .i64 0] 80 (0, 0))) (hR : IsR w R g K s.pos)
    (h1 : w.heap[H1]? = some (.cells #[.pointer (some ⟨B1, 0, none⟩), pv1, .int .u64 0] 135 (0, 0))) (t1 : IsTb b1 w B1 m1 v1 s.texts) (p1 : w.ownsRow b1 3 1 pv1 s.tpl.length (natsV s.tpl))
    (h2 : w.heap[H2]? = some (.cells #[.pointer (some ⟨B2, 0, none⟩), pv2, .int .u64 0] 144 (0, 0))) (t2 : IsTr b2 w B2 m2 v2 s.traces) (p2 : w.ownsRow b2 3 1 pv2 s.rpl.length (natsV s.rpl))
    (l1 : s.tpl.length = s.texts.length) (l2 : s.rpl.length = s.traces.length) (z1 : s.tsp = 0) (z2 : s.rsp = 0) (z3 : s.start = 0) (hI : Inv K 0 s) (ht : Tabs w) (lo : n0 ≤ T ∧ n0 ≤ R ∧ n0 ≤ H1 ∧ n0 ≤ H2) (hn : 1 < n0 ∧ 2 < n0) :
    ∃ c : Dc, c.n0 = n0 ∧ c.T = T ∧ c.R = R ∧ c.g = g ∧ c.H1 = H1 ∧ c.H2 = H2 ∧ DS c w w K s := by
  obtain ⟨a1, k1, q1, rfl⟩ := row_shape t1.own
  obtain ⟨a2, k2, q2, rfl⟩ := row_shape t2.own
  obtain ⟨a3, k3, q3, rfl⟩ := row_shape p1
  obtain ⟨a4, k4, q4, rfl⟩ := row_shape p2
  have e1 := own_len t1.own
  have e2 := own_len t2.own
  have e3 := own_len p1
  have e4 := own_len p2
  subst e1 e2 e3 e4
  refine ⟨⟨n0, T, R, g, H1, H2, B1, B2, .map (some m1), .map (some m2), a1, q1, a2, q2, a3, q3, a4, q4, s.texts, s.tpl, s.traces, s.rpl⟩, rfl, rfl, rfl, rfl, rfl, rfl, ?_⟩
  refine ⟨by rw [z3]; exact tb, hR, by rw [z1]; exact h1, by rw [z2]; exact h2, Upd.refl _ _, rfl, rfl, rfl, rfl, hI, ?_, lt_of_block hR.row⟩
  refine ⟨⟨_, tb⟩, ⟨_, hR.block⟩, ⟨_, h1⟩, ⟨_, h2⟩, t1.block, own_base t1.own (Nat.zero_le _), t2.block, own_base t2.own (Nat.zero_le _), own_base p1 (Nat.zero_le _), own_base p2 (Nat.zero_le _), l1, l2, ht, ?_, hn⟩
  rintro k (rfl | rfl | rfl | rfl)
  · exact lo.1
  · exact lo.2.1
  · exact lo.2.2.1
  · exact lo.2.2.2
end Go.Proofs.YthcghpbkadlliabGreatDoor

namespace Go.Proofs.YthcghpbkadlliabGreatDoor
open Go.Shelf Go.RowKit
set_option maxRecDepth 100000

theorem taken_long (ad : Option Addr) (n cp : Nat) (w : World) (hl : (65536 : Int) < n) :
    Calls Tryz.prog 15 #[.slice ad n cp] w fun e w' => Ups w' 0 51 e ∧ Below w.heap.size w w' := by
  go_enter Tryz.func15, Tryz.ntmps15
  go_wp2_with (go_at_call 18; refine (giveUp_any _ _ _).mono ?_; rintro e w4 ⟨⟨q4, p4, rfl, G4⟩, b4⟩)
  exact ⟨rfl, ⟨q4, p4, rfl, G4⟩, b4⟩
theorem taken_small (ad : Option Addr) (n cp : Nat) (w : World) (hl : (n : Int) < 3) :
    Calls Tryz.prog 15 #[.slice ad n cp] w fun e w' => Ups w' 0 52 e ∧ Below w.heap.size w w' := by
  have h1 : ¬ (65536 : Int) < n := by omega
  have h2 : decide ((n : Int) < 3) = true := decide_eq_true hl
  go_enter Tryz.func15, Tryz.ntmps15
  go_wp2_with (go_at_call 18; refine (giveUp_any _ _ _).mono ?_; rintro e w4 ⟨⟨q4, p4, rfl, G4⟩, b4⟩)
  exact ⟨rfl, ⟨q4, p4, rfl, G4⟩, b4⟩
theorem taken_head (b o : Nat) (n cp : Nat) (x : ByteArray) (w : World) (h3 : ¬ (n : Int) < 3) (h1 : ¬ (65536 : Int) < n) (hc : (n : Int) ≤ cp) (hcv : (convert 24 9 (.slice (some ⟨b, o, none⟩) 3 cp)).run Tryz.prog w = .ok (.string x) w) (hx : (!x.toList == [83, 66, 1]) = true) :
    Calls Tryz.prog 15 #[.slice (some ⟨b, o, none⟩) n cp] w fun e w' => Ups w' 0 52 e ∧ Below w.heap.size w w' := by
  have h2 : decide ((n : Int) < 3) = false := decide_eq_false h3
  have h4 : (3 : Int) ≤ cp := by omega
  go_enter Tryz.func15, Tryz.ntmps15
  go_wp2_with (go_at_call 18; refine (giveUp_any _ _ _).mono ?_; rintro e w4 ⟨⟨q4, p4, rfl, G4⟩, b4⟩)
  exact ⟨rfl, ⟨q4, p4, rfl, G4⟩, b4⟩
end Go.Proofs.YthcghpbkadlliabGreatDoor
