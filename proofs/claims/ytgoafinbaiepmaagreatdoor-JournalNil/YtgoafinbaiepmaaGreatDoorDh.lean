/-
  Layer 7 (disk): Append, Sync, Size, Read of the file a.
-/
import Derived.Test.YtgoafinbaiepmaaGreatDoorDg
namespace Go.Proofs.YtgoafinbaiepmaaGreatDoor
open Go.RowKit Go.Shelf Go.Maps Go.WideMaps
set_option maxRecDepth 100000

theorem Holds.same {w w' : World} {ad : Option Addr} {n : Nat} {K : List Int} (h : Holds w ad n K) (hs : ∀ k : Nat, w'.heap[k]? = w.heap[k]?) : Holds w' ad n K :=
  h.mono (fun a v hc _ => by unfold World.cell? at hc ⊢; rw [hs]; exact hc)
/-- A disk with its file a. -/
structure One (base : Nat) (w : World) (d N : Nat) (K : Dk) (n f : Nat) (F : Fl) : Prop where
  disk : DiskAt base w d N K
  file : FileAt base w f F
  has : HasA K n f
  on : K.off = false
  arm : K.a1 = 0
theorem One.below {base : Nat} {w w' : World} {d N : Nat} {K : Dk} {n f : Nat} {F : Fl} (h : One base w d N K n f F) (hb : Below w.heap.size w w') : One base w' d N K n f F :=
  ⟨h.disk.below hb, h.file.below hb, h.has, h.on, h.arm⟩
/-- What may be written of it. -/
def OW (d : Nat) (K : Dk) (f : Nat) (F : Fl) (k : Nat) : Prop := DW d K k ∨ FW f F k
theorem One.lt {base : Nat} {w : World} {d N : Nat} {K : Dk} {n f : Nat} {F : Fl} (h : One base w d N K n f F) {k : Nat} (hk : OW d K f F k) : base ≤ k ∧ k < w.heap.size :=
  hk.elim h.disk.lt h.file.lt
/-- The file has turned: the disk is as it was. -/
theorem DiskAt.file {base d N : Nat} {w w' : World} {K : Dk} {f : Nat} {F : Fl} (h : DiskAt base w d N K) (hf : FileAt base w f F) (hu : Upd (FW f F) w w') : DiskAt base w' d N K :=
  h.upd hu (h.apart hf)
theorem FileAt.same {base : Nat} {w w' : World} {f : Nat} {F : Fl} (h : FileAt base w f F) (hs : ∀ k : Nat, w'.heap[k]? = w.heap[k]?) (hu : Upd (fun _ => True) w w') : FileAt base w' f F :=
  h.upd (S := fun _ => False) ⟨hu.os, hu.tape, hu.output, hu.size, fun k _ _ => hs k⟩ (fun _ _ h => h) (fun _ _ _ _ h => h)

set_option maxHeartbeats 1000000 in
theorem append_a (base d N : Nat) (K : Dk) (n f : Nat) (F : Fl) (ad : Option Addr) (m c : Nat) (X : List Int) (w : World) (h : One base w d N K n f F) (hb : base ≤ w.heap.size) (hH : Holds w ad m X) (hm : 0 < m) (hc : m ≤ c) (hbig : F.B.length + m ≤ 140737488355328) (hmany : F.S.length ≤ 1000000000000) :
    Calls Tryz.prog 80 #[.pointer (some ⟨d, 0, none⟩), .string ⟨#[97]⟩, .slice ad m c] w fun e w' => e = .returned (.int .i64 0) ∧ (∃ bv sv s, One base w' d N K n f ⟨bv, F.lv, sv, F.B ++ X, F.L, F.S ++ [s]⟩ ∧ s.cut = false ∧ s.n = m ∧ s.K = X) ∧ Below base w w' := by
  have FI := find_a base d N K n f w h.disk h.on h.has
  have FR := fire_zero base d N K w h.disk h.arm
  obtain ⟨Q, hQ⟩ : ∃ Q : World → Prop, Q = fun w' => (∃ bv sv s, One base w' d N K n f ⟨bv, F.lv, sv, F.B ++ X, F.L, F.S ++ [s]⟩ ∧ s.cut = false ∧ s.n = m ∧ s.K = X) ∧ Below base w w' := ⟨_, rfl⟩
  have AP : ∀ w1, DiskAt base w1 d N K → (∀ k : Nat, w1.heap[k]? = w.heap[k]?) → Upd (fun k => k = d) w w1 → Calls Tryz.prog 140 #[.pointer (some ⟨f, 0, none⟩), .slice ad m c] w1 fun e w' => e = .returned (.tuple #[]) ∧ Q w' := by
    intro w1 D1 same U1
    have f1 := h.file.same same (U1.mono (fun _ _ _ => trivial))
    refine (fappend_any base f F ad m c X w1 f1 (Nat.le_trans hb U1.size) (hH.same same) hm hbig hmany).mono ?_
    rintro e w' ⟨rfl, bv, sv, s, f2, s1, s2, s3, u2, _⟩
    refine ⟨rfl, ?_⟩
    rw [hQ]
    refine ⟨⟨bv, sv, s, ⟨D1.file f1 u2, f2, h.has, h.on, h.arm⟩, s1, s2, s3⟩, ?_⟩
    exact (U1.below hb (fun k hk e => by have := h.disk.low.1; omega)).trans (u2.below (Nat.le_trans hb U1.size) (fun k hk e => by have := (f1.lt e).1; omega))
  suffices H : Calls Tryz.prog 80 #[.pointer (some ⟨d, 0, none⟩), .string ⟨#[97]⟩, .slice ad m c] w fun e w' => e = .returned (.int .i64 0) ∧ Q w' by rw [hQ] at H; exact H
  have k1 : (m : Int) ≤ 140737488355328 := by omega
  have k3 : min (9223372036854775807 : Int) (m : Int) = (m : Int) := by omega
  have k4 : (0 : Int) ≤ (m : Int) := by omega
  clear hQ h hH hbig hmany
  have k2 : (m : Int) ≤ (c : Int) := by omega
  go_enter Tryz.func80, Tryz.ntmps80
  go_wp2_with (first
    | (go_at_call 101; refine FI.mono ?_; clear FI; rintro e w0 ⟨rfl, hw⟩; obtain rfl := hw.symm)
    | (go_at_call 131; refine FR.mono ?_; clear FR; rintro e w1 ⟨rfl, D1, same1, U1⟩)
    | (go_at_call 140; refine (AP _ D1 same1 U1).mono ?_; clear AP; rintro e w2 ⟨rfl, q2⟩))
  go_ret
  exact ⟨rfl, q2⟩
set_option maxHeartbeats 1000000 in
theorem sync_a (base d N : Nat) (K : Dk) (n f : Nat) (F : Fl) (w : World) (h : One base w d N K n f F) (hb : base ≤ w.heap.size) (hbig : F.L.length + unitsL F.S ≤ 140737488355328) :
    Calls Tryz.prog 125 #[.pointer (some ⟨d, 0, none⟩), .string ⟨#[97]⟩] w fun e w' => e = .returned (.int .i64 0) ∧ (∃ lv, One base w' d N K n f ⟨F.bv, lv, .slice none 0 0, F.B, F.B, []⟩) ∧ Below base w w' := by
  have FI := find_a base d N K n f w h.disk h.on h.has
  have FR := fire_zero base d N K w h.disk h.arm
  obtain ⟨Q, hQ⟩ : ∃ Q : World → Prop, Q = fun w' => (∃ lv, One base w' d N K n f ⟨F.bv, lv, .slice none 0 0, F.B, F.B, []⟩) ∧ Below base w w' := ⟨_, rfl⟩
  have AP : ∀ w1, DiskAt base w1 d N K → (∀ k : Nat, w1.heap[k]? = w.heap[k]?) → Upd (fun k => k = d) w w1 → Calls Tryz.prog 172 #[.pointer (some ⟨f, 0, none⟩)] w1 fun e w' => e = .returned (.tuple #[]) ∧ Q w' := by
    intro w1 D1 same U1
    have f1 := h.file.same same (U1.mono (fun _ _ _ => trivial))
    refine (fsync_any base f F w1 f1 (Nat.le_trans hb U1.size) hbig).mono ?_
    rintro e w' ⟨rfl, lv, f2, u2, _⟩
    refine ⟨rfl, ?_⟩
    rw [hQ]
    refine ⟨⟨lv, D1.file f1 u2, f2, h.has, h.on, h.arm⟩, ?_⟩
    exact (U1.below hb (fun k hk e => by have := h.disk.low.1; omega)).trans (u2.below (Nat.le_trans hb U1.size) (fun k hk e => by have := (f1.lt e).1; omega))
  suffices H : Calls Tryz.prog 125 #[.pointer (some ⟨d, 0, none⟩), .string ⟨#[97]⟩] w fun e w' => e = .returned (.int .i64 0) ∧ Q w' by rw [hQ] at H; exact H
  clear hQ h hbig
  go_enter Tryz.func125, Tryz.ntmps125
  go_wp2_with (first
    | (go_at_call 101; refine FI.mono ?_; clear FI; rintro e w0 ⟨rfl, hw⟩; obtain rfl := hw.symm)
    | (go_at_call 131; refine FR.mono ?_; clear FR; rintro e w1 ⟨rfl, D1, same1, U1⟩)
    | (go_at_call 172; refine (AP _ D1 same1 U1).mono ?_; clear AP; rintro e w2 ⟨rfl, q2⟩))
  go_ret
  exact ⟨rfl, q2⟩
theorem size_none (base d N : Nat) (K : Dk) (w : World) (h : DiskAt base w d N K) (ho : K.off = false) (ha : Maps.has K.DN (.string [97]) = false) :
    Calls Tryz.prog 43 #[.pointer (some ⟨d, 0, none⟩), .string ⟨#[97]⟩] w fun e w' => e = .returned (.tuple #[.int .i64 0, .int .i64 72]) ∧ w' = w := by
  have FI := find_none base d N K w h ho ha
  clear h
  go_enter Tryz.func43, Tryz.ntmps43
  go_wp2_with (go_at_call 101; refine FI.mono ?_; clear FI; rintro e w0 ⟨rfl, hw⟩; obtain rfl := hw.symm)
  go_ret2
  exact ⟨rfl, rfl⟩
theorem OwnB.cut {base : Nat} {w : World} {ao : Option Addr} {l c : Nat} {L : List Int} (h : OwnB base w (.slice ao l c) L) (m : Nat) (hm : m ≤ L.length) (hp : 0 < m) : ∃ g, ao = some ⟨g, 0, none⟩ ∧ Holds w (some ⟨g, 0, none⟩) m (L.take m) := by
  obtain ⟨g, e, _⟩ := own_cell h (by omega)
  subst e
  exact ⟨g, rfl, h.holds.take m (by have := own_len h; omega)⟩
set_option maxHeartbeats 1000000 in
theorem read_a (base d N : Nat) (K : Dk) (n f : Nat) (F : Fl) (m : Nat) (w : World) (h : One base w d N K n f F) (hm : m ≤ F.B.length) (hp : 0 < m) (hbig : F.B.length ≤ 140737488355328) :
    Calls Tryz.prog 45 #[.pointer (some ⟨d, 0, none⟩), .string ⟨#[97]⟩, .int .i64 0, .int .i64 m] w fun e w' => ∃ v, e = .returned (.tuple #[v, .int .i64 0]) ∧ OwnB w.heap.size w' v (F.B.take m) ∧ Below w.heap.size w w' := by
  have FI := find_a base d N K n f w h.disk h.on h.has
  obtain ⟨c0, c1, c2⟩ := cell3 h.file.block
  obtain ⟨ao, c, hbv, hl1, hl2⟩ := h.file.bown.shape
  have ho := h.file.bown
  rw [hbv] at ho c0
  obtain ⟨g, rfl, hH⟩ := ho.cut m hm hp
  have CL := fun cc => clone_some ⟨g, 0, none⟩ m cc _ w hH (by omega)
  have k1 : ¬ ((m : Int) < 0) := by omega
  have k2 : ¬ ((F.B.length : Int) - 0 < (m : Int)) := by omega
  have k3 : (m : Int) ≤ (F.B.length : Int) := by omega
  have k4 : (m : Int) ≤ (c : Int) := by omega
  have k5 : (0 : Int) ≤ (m : Int) := by omega
  have k6 : (F.B.length : Int) ≤ 140737488355328 := by omega
  have SH : ∀ (v : Value) (w1 : World), OwnB w.heap.size w1 v (F.B.take m) → ∃ a n c, v = .slice a n c := fun v w1 o => row_shape o
  clear h ho hH hbv hm hbig c1 c2 hl1 hl2
  generalize F.B.take m = X at *
  generalize F.B.length = bl at *
  go_enter Tryz.func45, Tryz.ntmps45
  go_wp2_with (first
    | (go_at_call 101; refine FI.mono ?_; clear FI; rintro e w0 ⟨rfl, hw⟩; obtain rfl := hw.symm)
    | (go_at_call 69; refine (CL _).mono ?_; clear CL; rintro e w1 ⟨v1, rfl, o1, b1⟩; obtain ⟨a1, n1, c1, rfl⟩ := SH _ _ o1))
  go_ret2
  exact ⟨_, rfl, o1, b1⟩
end Go.Proofs.YtgoafinbaiepmaaGreatDoor
