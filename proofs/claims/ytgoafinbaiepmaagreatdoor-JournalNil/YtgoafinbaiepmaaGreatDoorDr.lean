/-
  Layer 7 (disk): Append, Sync, Size, Read of any name.
-/
import Derived.Test.YtgoafinbaiepmaaGreatDoorDq
import Derived.Test.YtgoafinbaiepmaaGreatDoorDh
namespace Go.Proofs.YtgoafinbaiepmaaGreatDoor
open Go.RowKit Go.Shelf Go.Maps Go.WideMaps
set_option maxRecDepth 100000

/-- A disk and its file of that name. -/
structure OneN (base : Nat) (w : World) (d N : Nat) (K : Dk) (s : ByteArray) (n f : Nat) (F : Fl) : Prop where
  disk : DiskAt base w d N K
  file : FileAt base w f F
  has : HasN K s n f
  on : K.off = false
  arm : K.a1 = 0
  small : s.size ≤ 140737488355328
  ok : nameB s = true
theorem Next.mono {w w1 : World} {f : Nat} {F G : Fl} (h : Next w1 f F G) (hs : w.heap.size ≤ w1.heap.size) : Next w f F G :=
  ⟨fun k hk => (h.wr k hk).imp id (fun e => by omega), fun s hm => (h.st s hm).imp id (fun e k hk => by have := e k hk; omega)⟩
theorem Upd.trans2 {S S' : Nat → Prop} {a b c : World} (h : Upd S a b) (k : Upd S' b c) : Upd (fun i => S i ∨ S' i) a c :=
  (h.mono (fun _ _ h => Or.inl h)).trans k (fun _ _ h => Or.inr h)
set_option maxHeartbeats 1000000 in
theorem appendN (base d N : Nat) (K : Dk) (s : ByteArray) (n f : Nat) (F : Fl) (ad : Option Addr) (m c : Nat) (X : List Int) (w : World) (h : OneN base w d N K s n f F) (hb : base ≤ w.heap.size) (hH : Holds w ad m X) (hm : 0 < m) (hc : m ≤ c) (hbig : F.B.length + m ≤ 140737488355328) (hmany : F.S.length ≤ 1000000000000) :
    Calls Tryz.prog 80 #[.pointer (some ⟨d, 0, none⟩), .string s, .slice ad m c] w fun e w' => e = .returned (.int .i64 0) ∧ (∃ bv sv t, OneN base w' d N K s n f ⟨bv, F.lv, sv, F.B ++ X, F.L, F.S ++ [t]⟩ ∧ t.cut = false ∧ t.n = m ∧ t.K = X ∧ Next w f F ⟨bv, F.lv, sv, F.B ++ X, F.L, F.S ++ [t]⟩) ∧ Below base w w' ∧ Upd (fun k => k = d ∨ FW f F k) w w' := by
  have FI := findN_any base d N K n f w h.disk h.on s h.small h.ok h.has
  have FR := fire_zero base d N K w h.disk h.arm
  obtain ⟨Q, hQ⟩ : ∃ Q : World → Prop, Q = fun w' => (∃ bv sv t, OneN base w' d N K s n f ⟨bv, F.lv, sv, F.B ++ X, F.L, F.S ++ [t]⟩ ∧ t.cut = false ∧ t.n = m ∧ t.K = X ∧ Next w f F ⟨bv, F.lv, sv, F.B ++ X, F.L, F.S ++ [t]⟩) ∧ Below base w w' ∧ Upd (fun k => k = d ∨ FW f F k) w w' := ⟨_, rfl⟩
  have AP : ∀ w1, DiskAt base w1 d N K → (∀ k : Nat, w1.heap[k]? = w.heap[k]?) → Upd (fun k => k = d) w w1 → Calls Tryz.prog 140 #[.pointer (some ⟨f, 0, none⟩), .slice ad m c] w1 fun e w' => e = .returned (.tuple #[]) ∧ Q w' := by
    intro w1 D1 same U1
    have f1 := h.file.same same (U1.mono (fun _ _ _ => trivial))
    refine (fappend_any base f F ad m c X w1 f1 (Nat.le_trans hb U1.size) (hH.same same) hm hbig hmany).mono ?_
    rintro e w' ⟨rfl, bv, sv, t, f2, s1, s2, s3, u2, nx⟩
    refine ⟨rfl, ?_⟩
    rw [hQ]
    refine ⟨⟨bv, sv, t, ⟨D1.file f1 u2, f2, h.has, h.on, h.arm, h.small, h.ok⟩, s1, s2, s3, nx.mono U1.size⟩, ?_, U1.trans2 u2⟩
    exact (U1.below hb (fun k hk e => by have := h.disk.low.1; omega)).trans (u2.below (Nat.le_trans hb U1.size) (fun k hk e => by have := (f1.lt e).1; omega))
  suffices H : Calls Tryz.prog 80 #[.pointer (some ⟨d, 0, none⟩), .string s, .slice ad m c] w fun e w' => e = .returned (.int .i64 0) ∧ Q w' by rw [hQ] at H; exact H
  have k1 : (m : Int) ≤ 140737488355328 := by omega
  have k3 : min (9223372036854775807 : Int) (m : Int) = (m : Int) := by omega
  have k4 : (0 : Int) ≤ (m : Int) := by omega
  clear hQ h hH hbig hmany
  have k2 : (m : Int) ≤ (c : Int) := by omega
  go_enter Tryz.func80, Tryz.ntmps80
  go_wp2_with (first
    | (go_at_call 101; refine FI.mono ?_; clear FI; rintro e w0 ⟨rfl, hw⟩; obtain rfl := hw.symm)
    | (go_at_call 131; refine FR.mono ?_; clear FR; rintro e w1 ⟨rfl, D1, same1, U1⟩)
    | (go_at_call 140; refine (AP _ D1 same1 U1).mono ?_; clear AP; rintro e w2 ⟨rfl, q2⟩))
  go_ret
  exact ⟨rfl, q2⟩
set_option maxHeartbeats 1000000 in
theorem syncN (base d N : Nat) (K : Dk) (s : ByteArray) (n f : Nat) (F : Fl) (w : World) (h : OneN base w d N K s n f F) (hb : base ≤ w.heap.size) (hbig : F.L.length + unitsL F.S ≤ 140737488355328) :
    Calls Tryz.prog 125 #[.pointer (some ⟨d, 0, none⟩), .string s] w fun e w' => e = .returned (.int .i64 0) ∧ (∃ lv, OneN base w' d N K s n f ⟨F.bv, lv, .slice none 0 0, F.B, F.B, []⟩ ∧ Next w f F ⟨F.bv, lv, .slice none 0 0, F.B, F.B, []⟩) ∧ Below base w w' ∧ Upd (fun k => k = d ∨ FW f F k) w w' := by
  have FI := findN_any base d N K n f w h.disk h.on s h.small h.ok h.has
  have FR := fire_zero base d N K w h.disk h.arm
  obtain ⟨Q, hQ⟩ : ∃ Q : World → Prop, Q = fun w' => (∃ lv, OneN base w' d N K s n f ⟨F.bv, lv, .slice none 0 0, F.B, F.B, []⟩ ∧ Next w f F ⟨F.bv, lv, .slice none 0 0, F.B, F.B, []⟩) ∧ Below base w w' ∧ Upd (fun k => k = d ∨ FW f F k) w w' := ⟨_, rfl⟩
  have AP : ∀ w1, DiskAt base w1 d N K → (∀ k : Nat, w1.heap[k]? = w.heap[k]?) → Upd (fun k => k = d) w w1 → Calls Tryz.prog 172 #[.pointer (some ⟨f, 0, none⟩)] w1 fun e w' => e = .returned (.tuple #[]) ∧ Q w' := by
    intro w1 D1 same U1
    have f1 := h.file.same same (U1.mono (fun _ _ _ => trivial))
    refine (fsync_any base f F w1 f1 (Nat.le_trans hb U1.size) hbig).mono ?_
    rintro e w' ⟨rfl, lv, f2, u2, nx⟩
    refine ⟨rfl, ?_⟩
    rw [hQ]
    refine ⟨⟨lv, ⟨D1.file f1 u2, f2, h.has, h.on, h.arm, h.small, h.ok⟩, nx.mono U1.size⟩, ?_, U1.trans2 u2⟩
    exact (U1.below hb (fun k hk e => by have := h.disk.low.1; omega)).trans (u2.below (Nat.le_trans hb U1.size) (fun k hk e => by have := (f1.lt e).1; omega))
  suffices H : Calls Tryz.prog 125 #[.pointer (some ⟨d, 0, none⟩), .string s] w fun e w' => e = .returned (.int .i64 0) ∧ Q w' by rw [hQ] at H; exact H
  clear hQ h hbig
  go_enter Tryz.func125, Tryz.ntmps125
  go_wp2_with (first
    | (go_at_call 101; refine FI.mono ?_; clear FI; rintro e w0 ⟨rfl, hw⟩; obtain rfl := hw.symm)
    | (go_at_call 131; refine FR.mono ?_; clear FR; rintro e w1 ⟨rfl, D1, same1, U1⟩)
    | (go_at_call 172; refine (AP _ D1 same1 U1).mono ?_; clear AP; rintro e w2 ⟨rfl, q2⟩))
  go_ret
  exact ⟨rfl, q2⟩
theorem sizeN_none (base d N : Nat) (K : Dk) (w : World) (h : DiskAt base w d N K) (ho : K.off = false) (s : ByteArray) (hs : s.size ≤ 140737488355328) (hok : nameB s = true) (ha : Maps.has K.DN (.string s.data.toList) = false) :
    Calls Tryz.prog 43 #[.pointer (some ⟨d, 0, none⟩), .string s] w fun e w' => e = .returned (.tuple #[.int .i64 0, .int .i64 72]) ∧ w' = w := by
  have FI := findN_none base d N K w h ho s hs hok ha
  clear h
  go_enter Tryz.func43, Tryz.ntmps43
  go_wp2_with (go_at_call 101; refine FI.mono ?_; clear FI; rintro e w0 ⟨rfl, hw⟩; obtain rfl := hw.symm)
  go_ret2
  exact ⟨rfl, rfl⟩
set_option maxHeartbeats 1000000 in
theorem readN (base d N : Nat) (K : Dk) (s : ByteArray) (n f : Nat) (F : Fl) (m : Nat) (w : World) (h : OneN base w d N K s n f F) (hm : m ≤ F.B.length) (hp : 0 < m) (hbig : F.B.length ≤ 140737488355328) :
    Calls Tryz.prog 45 #[.pointer (some ⟨d, 0, none⟩), .string s, .int .i64 0, .int .i64 m] w fun e w' => ∃ v, e = .returned (.tuple #[v, .int .i64 0]) ∧ OwnB w.heap.size w' v (F.B.take m) ∧ Below w.heap.size w w' := by
  have FI := findN_any base d N K n f w h.disk h.on s h.small h.ok h.has
  obtain ⟨c0, c1, c2⟩ := cell3 h.file.block
  obtain ⟨ao, c, hbv, hl1, hl2⟩ := h.file.bown.shape
  have ho := h.file.bown
  rw [hbv] at ho c0
  obtain ⟨g, rfl, hH⟩ := ho.cut m hm hp
  have CL := fun cc => clone_some ⟨g, 0, none⟩ m cc _ w hH (by omega)
  have k1 : ¬ ((m : Int) < 0) := by omega
  have k2 : ¬ ((F.B.length : Int) - 0 < (m : Int)) := by omega
  have k3 : (m : Int) ≤ (F.B.length : Int) := by omega
  have k4 : (m : Int) ≤ (c : Int) := by omega
  have k5 : (0 : Int) ≤ (m : Int) := by omega
  have k6 : (F.B.length : Int) ≤ 140737488355328 := by omega
  have SH : ∀ (v : Value) (w1 : World), OwnB w.heap.size w1 v (F.B.take m) → ∃ a n c, v = .slice a n c := fun v w1 o => row_shape o
  clear h ho hH hbv hm hbig c1 c2 hl1 hl2
  generalize F.B.take m = X at *
  generalize F.B.length = bl at *
  go_enter Tryz.func45, Tryz.ntmps45
  go_wp2_with (first
    | (go_at_call 101; refine FI.mono ?_; clear FI; rintro e w0 ⟨rfl, hw⟩; obtain rfl := hw.symm)
    | (go_at_call 69; refine (CL _).mono ?_; clear CL; rintro e w1 ⟨v1, rfl, o1, b1⟩; obtain ⟨a1, n1, c1, rfl⟩ := SH _ _ o1))
  go_ret2
  exact ⟨_, rfl, o1, b1⟩
theorem sizeN (base d N : Nat) (K : Dk) (s : ByteArray) (n f : Nat) (F : Fl) (w : World) (h : OneN base w d N K s n f F) :
    Calls Tryz.prog 43 #[.pointer (some ⟨d, 0, none⟩), .string s] w fun e w' => e = .returned (.tuple #[.int .i64 (F.B.length : Int), .int .i64 0]) ∧ w' = w := by
  have FI := findN_any base d N K n f w h.disk h.on s h.small h.ok h.has
  obtain ⟨c0, c1, c2⟩ := cell3 h.file.block
  obtain ⟨ao, c, hbv, hl1, hl2⟩ := h.file.bown.shape
  rw [hbv] at c0
  clear h hbv hl1 hl2 c1 c2
  generalize F.B.length = bl at *
  go_enter Tryz.func43, Tryz.ntmps43
  go_wp2_with (go_at_call 101; refine FI.mono ?_; clear FI; rintro e w0 ⟨rfl, hw⟩; obtain rfl := hw.symm)
  go_ret2
  exact ⟨rfl, rfl⟩
end Go.Proofs.YtgoafinbaiepmaaGreatDoor
