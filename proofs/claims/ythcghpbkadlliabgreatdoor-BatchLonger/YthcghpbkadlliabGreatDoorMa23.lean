/-
  Merged by merge.py: X1, X2, X3, X4.
-/
import Derived.Test.YthcghpbkadlliabGreatDoorXx
namespace Go.Proofs.YthcghpbkadlliabGreatDoor
open Go.Shelf Go.RowKit
set_option maxRecDepth 100000

theorem DS.setStart {c : Dc} {w0 w : World} {K : List Int} {s : Dst} (h : DS c w0 w K s) (v : Int) : DS c w0 (w.setCell ⟨c.T, 3, none⟩ (.int .i64 v)) K { s with start := v } ∧ Upd (DSet c) w (w.setCell ⟨c.T, 3, none⟩ (.int .i64 v)) := by
  have hu := upd_one w c.T 3 (.int .i64 v)
  have n1 : c.H1 ≠ c.T := ne_of_types h.h1 h.tb (by decide)
  have n2 : c.R ≠ c.T := ne_of_types h.isR.block h.tb (by decide)
  have n3 : c.H2 ≠ c.T := ne_of_types h.h2 h.tb (by decide)
  have n4 : c.g ≠ c.T := ne_of_types h.isR.row h.tb (by decide)
  have hu' : Upd (DSet c) w (w.setCell ⟨c.T, 3, none⟩ (.int .i64 v)) := hu.mono (fun k _ e => Or.inl e)
  refine ⟨⟨?_, h.isR.upd hu n2 n4, (hu.block _ (lt_of_block h.h1) n1).trans h.h1, (hu.block _ (lt_of_block h.h2) n3).trans h.h2, h.upd.trans hu' (fun _ _ h => h), h.t1, h.t2, h.r1, h.r2, ⟨h.inv.byts, h.inv.t1, h.inv.t2, h.inv.t3, h.inv.r1, h.inv.r2, h.inv.r3, h.inv.b1, h.inv.b2, h.inv.z1, h.inv.z2⟩, h.fx, h.gl⟩, hu'⟩
  rw [set_block h.tb 3]; rfl
set_option maxHeartbeats 1000000 in
theorem dSince (c : Dc) (w0 w : World) (K : List Int) (s : Dst) (h : DS c w0 w K s) (y0 : 0 ≤ s.start) (y1 : s.start ≤ 4611686018427387904) :
    Calls Tryz.prog 88 #[.pointer (some ⟨c.T, 0, none⟩)] w fun e w' => PostD c w0 K w (fun v => .int .i64 v) (sinceD K s) e w' := by
  have d0 := h.tk.c0
  have A := at_any c.R c.g K s.pos w h.isR
  have N := getInt_any c.R c.g K s.pos w h.isR
  have hv := scan_val (K.drop s.pos) 0 0
  have hsz := scan_size (K.drop s.pos) 0 0
  have hby : ∀ x ∈ K.drop s.pos, 0 ≤ x ∧ x < 256 := fun x hx => h.inv.byts x (List.mem_of_mem_drop hx)
  have hps := h.inv.b2
  unfold sinceD intD stepD uintD
  generalize scanN (K.drop s.pos) 0 0 = r at N hv hsz ⊢
  cases r using NumRes.each with
  | ok v n =>
    have hv64 := hv v n hby (by omega) (fun _ => by simp) rfl
    have hs2 := hsz v n rfl
    simp only [List.length_drop] at hs2
    clear hv hsz
    simp only
    unfold IntPost at N
    simp only at N
    have z0 := zag_lo v (by omega) (by omega)
    have z1 := zag_hi v (by omega) (by omega)
    have MV : ∀ w2, IsR w2 c.R c.g K (s.pos + n) → Upd (fun k => k = c.R) w w2 → DS c w0 w2 K (s.to (s.pos + n)) ∧ Upd (DSet c) w w2 := fun w2 h2 u2 => h.move h2 u2 (h.inv.to (by omega) (by omega))
    generalize zagI (v : Int) = d at N z0 z1 ⊢
    by_cases hm : 9223372036854775807 - s.start < d
    · rw [if_pos hm]
      unfold PostD
      simp only
      clear hby h hps
      go_enter Tryz.func88, Tryz.ntmps88
      go_wp2_with (first
        | (go_at_call 64; refine A.mono ?_; clear A; rintro e w1 ⟨rfl, hw⟩; obtain rfl := hw.symm)
        | (go_at_call 104; refine N.mono ?_; clear N; rintro e w2 ⟨rfl, h2, u2⟩; obtain ⟨hd, ud⟩ := MV w2 h2 u2; have g3 : w2.cell? ⟨c.T, 3, none⟩ = some (.int .i64 s.start) := blk_cell hd.tb 3 rfl; clear MV)
        | (go_at_call 103; refine (mustI_ok _ _).mono ?_; rintro e w3 ⟨rfl, hw3⟩; obtain rfl := hw3.symm)
        | (go_at_call 18; refine (giveUp_any _ _ _).mono ?_; rintro e w4 ⟨⟨q4, p4, rfl, G4⟩, b4⟩))
      exact ⟨rfl, ⟨q4, p4, rfl, G4⟩, ud.trans (S' := fun _ => False) (Upd.ofBelow b4 (fun k hk hk' => by omega)) (fun _ _ h => h.elim)⟩
    · rw [if_neg hm]
      have SS : ∀ w2, DS c w0 w2 K (s.to (s.pos + n)) → DS c w0 (w2.setCell ⟨c.T, 3, none⟩ (.int .i64 (s.start + d))) K { s.to (s.pos + n) with start := s.start + d } ∧ Upd (DSet c) w2 (w2.setCell ⟨c.T, 3, none⟩ (.int .i64 (s.start + d))) := fun w2 hd => hd.setStart _
      unfold PostD
      simp only
      clear hby h hps
      go_enter Tryz.func88, Tryz.ntmps88
      go_wp2_with (first
        | (go_at_call 64; refine A.mono ?_; clear A; rintro e w1 ⟨rfl, hw⟩; obtain rfl := hw.symm)
        | (go_at_call 104; refine N.mono ?_; clear N; rintro e w2 ⟨rfl, h2, u2⟩; obtain ⟨hd, ud⟩ := MV w2 h2 u2; have g3 : w2.cell? ⟨c.T, 3, none⟩ = some (.int .i64 s.start) := blk_cell hd.tb 3 rfl; have f3 := blk_free hd.tb 3; clear MV; obtain ⟨hd5, ud5⟩ := SS w2 hd; have k3 : (w2.setCell ⟨c.T, 3, none⟩ (.int .i64 (s.start + d))).cell? ⟨c.T, 3, none⟩ = some (.int .i64 (s.start + d)) := blk_cell hd5.tb 3 rfl; clear SS)
        | (go_at_call 103; refine (mustI_ok _ _).mono ?_; rintro e w3 ⟨rfl, hw3⟩; obtain rfl := hw3.symm))
      go_ret
      exact ⟨rfl, hd5, ud.trans ud5 (fun _ _ h => h)⟩
  | form =>
    clear hv hsz hby hps
    unfold IntPost at N
    unfold PostD
    simp only
    go_enter Tryz.func88, Tryz.ntmps88
    go_wp2_with (first
      | (go_at_call 64; refine A.mono ?_; clear A; rintro e w1 ⟨rfl, hw⟩; obtain rfl := hw.symm)
      | (go_at_call 104; refine N.mono ?_; clear N; rintro e w2 ⟨p2, rfl, F2, q2, b2⟩)
      | (go_at_call 103; refine (mustI_bad _ p2 _ _ _ F2).mono ?_; rintro e w3 ⟨⟨q3, p3, rfl, G3⟩, b3⟩))
    exact ⟨rfl, ⟨q3, p3, rfl, G3⟩, Upd.ofBelow (b2.trans (b3.mono b2.size)) (fun k hk hk' => by omega)⟩
  | ended =>
    clear hv hsz hby hps
    unfold IntPost at N
    unfold PostD
    simp only
    go_enter Tryz.func88, Tryz.ntmps88
    go_wp2_with (first
      | (go_at_call 64; refine A.mono ?_; clear A; rintro e w1 ⟨rfl, hw⟩; obtain rfl := hw.symm)
      | (go_at_call 104; refine N.mono ?_; clear N; rintro e w2 ⟨p2, rfl, F2, q2, b2⟩)
      | (go_at_call 103; refine (mustI_bad _ p2 _ _ _ F2).mono ?_; rintro e w3 ⟨⟨q3, p3, rfl, G3⟩, b3⟩))
    exact ⟨rfl, ⟨q3, p3, rfl, G3⟩, Upd.ofBelow (b2.trans (b3.mono b2.size)) (fun k hk hk' => by omega)⟩

end Go.Proofs.YthcghpbkadlliabGreatDoor

namespace Go.Proofs.YthcghpbkadlliabGreatDoor
open Go.Shelf Go.RowKit
set_option maxRecDepth 100000

/-- A list that is taken: it lies in memory of its own, from base on. -/
def PostL {α : Type} (c : Dc) (w0 : World) (K : List Int) (w : World) (e0 size : Nat) (cs : α → List Value) (r : Res (List α × Dst)) (e : Ending) (w' : World) : Prop := match r with
  | .ok (l, s') => ∃ v, e = .returned v ∧ w'.ownsRow w.heap.size e0 size v l.length (l.flatMap cs) ∧ DS c w0 w' K s' ∧ Upd (DSet c) w w'
  | .error (a, n) => Ups w' a n e ∧ Upd (DSet c) w w'
theorem le_al (n : Nat) (w : World) (o : Obj) (h : n ≤ w.heap.size) : n ≤ (w.alloc o).heap.size := by simp; omega
def oneV (v : Int) : List Value := [.int .u64 v]
theorem own_dset {c : Dc} {w0 w w' : World} {K : List Int} {s : Dst} {b e size : Nat} {v : Value} {n : Nat} {xs : List Value} (h : DS c w0 w K s) (ho : w.ownsRow b e size v n xs) (hb : w0.heap.size ≤ b) (hu : Upd (DSet c) w w') : w'.ownsRow b e size v n xs :=
  ownsRow_upd ho hu (fun k hk hS => by
    have h1 := (own_block ho hk).1
    obtain ⟨c1, t1⟩ := h.fx.tT
    obtain ⟨c2, t2⟩ := h.fx.tR
    obtain ⟨c3, t3⟩ := h.fx.tH1
    obtain ⟨c4, t4⟩ := h.fx.tH2
    have l1 := lt_of_block t1
    have l2 := lt_of_block t2
    have l3 := lt_of_block t3
    have l4 := lt_of_block t4
    rcases hS with e | e | e | e <;> omega)
set_option maxHeartbeats 1000000 in
theorem dLinks (c : Dc) (w0 w : World) (K : List Int) (s : Dst) (h : DS c w0 w K s) :
    Calls Tryz.prog 90 #[.pointer (some ⟨c.T, 0, none⟩)] w fun e w' => PostL c w0 K w 34 1 oneV (linksD K s) e w' := by
  obtain ⟨i0, hi, hz0, hz1, hz2⟩ := info_parts Tryz.info34
  have CN := dCount h 16 55
  have h00 := h.upd.size
  unfold linksD bindD
  have hcl : ∀ n s', countD 16 55 K s = .ok (n, s') → n ≤ 16 := by
    intro n s' hh
    obtain ⟨u, s1, _, h4⟩ := step_ok hh
    split at h4
    · simp at h4
    · simp at h4; omega
  generalize countD 16 55 K s = r at CN hcl ⊢
  rcases r with ⟨a, no⟩ | ⟨N, s1⟩
  · unfold PostD at CN
    unfold PostL
    simp only at CN ⊢
    go_enter Tryz.func90, Tryz.ntmps90
    go_wp2_with (go_at_call 68; refine CN.mono ?_; clear CN; rintro e w1 ⟨⟨q1, p1, rfl, G1⟩, u1⟩)
    exact ⟨rfl, ⟨q1, p1, rfl, G1⟩, u1⟩
  · have hN := hcl N s1 rfl
    clear hcl
    unfold PostD at CN
    simp only at CN ⊢
    obtain ⟨RR, hRR⟩ : ∃ r, iterF linkD1 N [] K s1 = r := ⟨_, rfl⟩
    rw [hRR]
    have HR : Hid (iterF linkD1 N [] K s1 = RR) := hRR
    clear hRR
    go_enter Tryz.func90, Tryz.ntmps90
    go_wp2_with (go_at_call 68; refine CN.mono ?_; clear CN; rintro e w1 ⟨rfl, h1, u1⟩)
    go_loopw [3, 4, 7] (fun a b d wr => ∃ (k : Nat) (acc : List Int) (t : Dst), d = .int .u64 k ∧ k ≤ N ∧ acc.length = k ∧ b = .int .u64 (lastI acc) ∧ 0 ≤ lastI acc ∧ lastI acc ≤ 18446744073709551615 ∧ iterF linkD1 (N - k) acc K t = RR ∧ wr.ownsRow w.heap.size 34 1 a k (acc.flatMap oneV) ∧ DS c w0 wr K t ∧ Upd (DSet c) w wr) (fun _ _ d _ => N - (intOf d).toNat)
    case atStart => exact ⟨0, [], s1, rfl, by omega, rfl, by simp [lastI], by simp [lastI], by simp [lastI], HR.out, World.ownsRow_nil _ _ _ _, h1, u1⟩
    case round =>
      obtain ⟨k, acc, t, rfl, hk, hal, rfl, l0, l1, hit, ho, hd, hu⟩ := hrel
      clear h1 u1
      have hsz := hu.size
      by_cases hlt : k < N
      · obtain ⟨m, hm⟩ : ∃ m, N - k = m + 1 := ⟨N - k - 1, by omega⟩
        have hm2 : N - (k + 1) = m := by omega
        rw [hm] at hit
        have HM : Hid (N - (k + 1) = m) := hm2
        have AB := dAbove hd (lastI acc) 18446744073709551615 l0 l1 (by omega)
        have hrg : ∀ v t', aboveD (lastI acc) 18446744073709551615 K t = .ok (v, t') → 0 ≤ v ∧ v ≤ 18446744073709551615 := by
          intro v t' hh
          obtain ⟨u, s1, _, h4⟩ := step_ok hh
          split at h4
          · simp at h4
          · simp at h4; omega
        change bindD (aboveD (lastI acc) 18446744073709551615) (fun v => iterF linkD1 m (acc ++ [v])) K t = RR at hit
        unfold bindD at hit
        have hki : (k : Int) < (N : Int) := by omega
        generalize aboveD (lastI acc) 18446744073709551615 K t = r at AB hrg hit
        rcases r with ⟨a, no⟩ | ⟨x, t'⟩
        · simp only at hit
          unfold PostD at AB
          simp only at AB
          have HF : Hid (Except.error (a, no) = RR) := hit
          clear hit hm hm2 hrg
          go_wp2_with (go_at_call 105; refine AB.mono ?_; clear AB; rintro e w2 ⟨⟨q2, p2, rfl, G2⟩, u2⟩)
          exact ⟨rfl, by rw [← HF.out]; exact ⟨⟨q2, p2, rfl, G2⟩, hu.trans u2 (fun _ _ h => h)⟩⟩
        · obtain ⟨x0, x1⟩ := hrg x t' rfl
          simp only at hit
          unfold PostD at AB
          simp only at AB
          have HI : Hid (iterF linkD1 m (acc ++ [x]) K t' = RR) := hit
          clear hit hm hm2 hrg
          have OD := fun w2 (u2 : Upd (DSet c) wr w2) => own_dset hd ho h00 u2
          go_wp2_with (first
            | (go_at_call 105; refine AB.mono ?_; clear AB; rintro e w2 ⟨rfl, h2, u2⟩; have o2 := OD w2 u2; have z2 := u2.size; have hc5 : w.heap.size ≤ (w2.alloc (.cells #[.int .u64 x] 34)).heap.size := le_al _ _ _ (by omega))
            | (at_builtin; refine wpList_app _ rfl (.tmp 12) (.tmp 14) 35 35 rfl w.heap.size 34 i0 (.int .u64 0) 8 Tryz.underlying35 hi hz0 hz1 hz2 rfl _ _ _ rfl (o2.alloc _) _ 1 [.int .u64 x] rfl (src_one Tryz.underlying35 w2 (.int .u64 x) 34 rfl) (by unfold maxLen; omega) (by omega) hc5 ?_; intro v' w6 ho6 hg6 hm6))
          have hda := h2.below ((Below.refl _ _).alloc (Nat.le_refl _) (.cells #[.int .u64 x] 34))
          have ug : Upd (fun j => j = j ∧ w.heap.size ≤ j) (w2.alloc (.cells #[.int .u64 x] 34)) w6 := (Upd.refl _ _).grown hg6 (fun j _ e => ⟨rfl, (own_block (o2.alloc (.cells #[.int .u64 x] 34)) e).1⟩)
          have hd6 := hda.step ug (fun j hj => by omega)
          have u6 : Upd (DSet c) w w6 := (((hu.trans u2 (fun _ _ h => h)).alloc (.cells #[.int .u64 x] 34)).trans ug (fun j hj e => by omega))
          have ho7 : w6.ownsRow w.heap.size 34 1 v' (k + 1) ((acc ++ [x]).flatMap oneV) := by simpa [oneV] using ho6
          obtain ⟨ao, l, cc, rfl⟩ := row_shape ho7
          clear ho6 hg6 hm6 ug hda o2
          go_wp2
          go_roundw
          case rel => exact ⟨k + 1, acc ++ [x], t', by go_num, by omega, by simp [hal], by rw [lastI_snoc], by rw [lastI_snoc]; exact x0, by rw [lastI_snoc]; exact x1, by rw [HM.out]; exact HI.out, ho7, hd6, u6⟩
          case measure => simp [intOf]; omega
      · obtain rfl : k = N := by omega
        rw [Nat.sub_self] at hit
        have HF : Hid (Except.ok (acc, t) = RR) := hit
        obtain ⟨ao, l, cc, rfl⟩ := row_shape ho
        clear hit
        go_wp2
        go_ret
        show PostL c w0 K w 34 1 oneV RR _ _
        rw [← HF.out]
        exact ⟨_, rfl, by rw [hal]; exact ho, hd, hu⟩
end Go.Proofs.YthcghpbkadlliabGreatDoor

namespace Go.Proofs.YthcghpbkadlliabGreatDoor
open Go.Shelf Go.RowKit
set_option maxRecDepth 100000

theorem src_cells {P : Program} {tx e : TypeId} (hu : P.underlying tx = some (.slice e)) (w : World) (cs : List Value) (size : Nat) (t : TypeId) (hl : cs.length = 1 * size) (h1 : ∀ u ∈ cs, u.oneCell' = true) : Src P size tx (.slice (some ⟨w.heap.size, 0, none⟩) 1 1) 1 cs (w.alloc (.cells cs.toArray t)) := by
  refine Src.ofSlice _ hu ⟨w.heap.size, 0, none⟩ 1 1 _ hl ?_ h1
  intro j u hj
  rw [Addr.add_lit]
  exact blk_cell (heap_alloc_new w (.cells cs.toArray t)) (0 + j) (by simpa using hj)
set_option maxHeartbeats 2000000 in
theorem dEvents (c : Dc) (w0 w : World) (K : List Int) (s : Dst) (h : DS c w0 w K s) :
    Calls Tryz.prog 92 #[.pointer (some ⟨c.T, 0, none⟩)] w fun e w' => PostL c w0 K w 58 2 eventC (eventsD K s) e w' := by
  obtain ⟨i0, hi, hz0, hz1, hz2⟩ := info_parts Tryz.info58
  have CN := dCount h 32 55
  have h00 := h.upd.size
  unfold eventsD bindD
  have hcl : ∀ n s', countD 32 55 K s = .ok (n, s') → n ≤ 32 := by
    intro n s' hh
    obtain ⟨u, s1, _, h4⟩ := step_ok hh
    split at h4
    · simp at h4
    · simp at h4; omega
  generalize countD 32 55 K s = r at CN hcl ⊢
  rcases r with ⟨a, no⟩ | ⟨N, s1⟩
  · unfold PostD at CN
    unfold PostL
    simp only at CN ⊢
    go_enter Tryz.func92, Tryz.ntmps92
    go_wp2_with (go_at_call 68; refine CN.mono ?_; clear CN; rintro e w1 ⟨⟨q1, p1, rfl, G1⟩, u1⟩)
    exact ⟨rfl, ⟨q1, p1, rfl, G1⟩, u1⟩
  · have hN := hcl N s1 rfl
    clear hcl
    unfold PostD at CN
    simp only at CN ⊢
    obtain ⟨RR, hRR⟩ : ∃ r, iterF eventD1 N [] K s1 = r := ⟨_, rfl⟩
    rw [hRR]
    have HR : Hid (iterF eventD1 N [] K s1 = RR) := hRR
    clear hRR
    go_enter Tryz.func92, Tryz.ntmps92
    go_wp2_with (go_at_call 68; refine CN.mono ?_; clear CN; rintro e w1 ⟨rfl, h1, u1⟩)
    go_loopw [3, 4, 7] (fun a b d wr => ∃ (k : Nat) (acc : List EventD) (t : Dst), d = .int .u64 k ∧ k ≤ N ∧ acc.length = k ∧ b = .int .i64 (lastE acc) ∧ 0 ≤ lastE acc ∧ lastE acc ≤ 9223372036854775807 ∧ iterF eventD1 (N - k) acc K t = RR ∧ wr.ownsRow w.heap.size 58 2 a k (acc.flatMap eventC) ∧ DS c w0 wr K t ∧ Upd (DSet c) w wr) (fun _ _ d _ => N - (intOf d).toNat)
    case atStart => exact ⟨0, [], s1, rfl, by omega, rfl, by simp [lastE, lastI], by simp [lastE, lastI], by simp [lastE, lastI], HR.out, World.ownsRow_nil _ _ _ _, h1, u1⟩
    case round =>
      obtain ⟨k, acc, t, rfl, hk, hal, rfl, l0, l1, hit, ho, hd, hu⟩ := hrel
      clear h1 u1
      have hsz := hu.size
      by_cases hlt : k < N
      · obtain ⟨m, hm⟩ : ∃ m, N - k = m + 1 := ⟨N - k - 1, by omega⟩
        have hm2 : N - (k + 1) = m := by omega
        rw [hm] at hit
        have HM : Hid (N - (k + 1) = m) := hm2
        have hki : (k : Int) < (N : Int) := by omega
        clear hm hm2
        have AB := dLater hd (lastE acc) l0 l1
        have hrg : ∀ v t', laterD (lastE acc) K t = .ok (v, t') → 0 ≤ v ∧ v ≤ 9223372036854775807 := by
          intro v t' hh
          unfold laterD aboveD at hh
          obtain ⟨u, s1, _, h4⟩ := step_ok hh
          split at h4
          · simp at h4
          · simp at h4; omega
        change bindD (bindD (laterD (lastE acc)) fun at_ => stepD nextT fun x _ s' => .ok (⟨at_, x⟩, s')) (fun v => iterF eventD1 m (acc ++ [v])) K t = RR at hit
        unfold bindD at hit
        have OD := fun w2 (u2 : Upd (DSet c) wr w2) => own_dset hd ho h00 u2
        generalize laterD (lastE acc) K t = r at AB hrg hit
        rcases r with ⟨a, no⟩ | ⟨x, t'⟩
        · simp only at hit
          unfold PostD at AB
          simp only at AB
          have HF : Hid (Except.error (a, no) = RR) := hit
          clear hit hrg
          go_wp2_with (go_at_call 89; refine AB.mono ?_; clear AB; rintro e w2 ⟨⟨q2, p2, rfl, G2⟩, u2⟩)
          exact ⟨rfl, by rw [← HF.out]; exact ⟨⟨q2, p2, rfl, G2⟩, hu.trans u2 (fun _ _ h => h)⟩⟩
        obtain ⟨x0, x1⟩ := hrg x t' rfl
        simp only at hit
        unfold stepD at hit
        unfold PostD at AB
        simp only at AB
        clear hrg
        have NX := fun w2 (h2 : DS c w0 w2 K t') => dNextS c w0 w2 K t' h2
        generalize nextT K t' = r at NX hit
        rcases r with ⟨a, no⟩ | ⟨y, t2⟩
        · simp only at hit
          unfold PostD at NX
          simp only at NX
          have HF : Hid (Except.error (a, no) = RR) := hit
          clear hit
          go_wp2_with (first
            | (go_at_call 89; refine AB.mono ?_; clear AB; rintro e w2 ⟨rfl, h2, u2⟩; have c2 := blk_cell h2.tb 1 rfl)
            | (go_at_call 86; refine (NX _ h2).mono ?_; clear NX; rintro e w3 ⟨⟨q3, p3, rfl, G3⟩, u3⟩))
          exact ⟨rfl, by rw [← HF.out]; exact ⟨⟨q3, p3, rfl, G3⟩, hu.trans (u2.trans u3 (fun _ _ h => h)) (fun _ _ h => h)⟩⟩
        · simp only at hit
          unfold PostD at NX
          simp only at NX
          have HI : Hid (iterF eventD1 m (acc ++ [(⟨x, y⟩ : EventD)]) K t2 = RR) := hit
          clear hit
          go_wp2_with (first
            | (go_at_call 89; refine AB.mono ?_; clear AB; rintro e w2 ⟨rfl, h2, u2⟩; have c2 := blk_cell h2.tb 1 rfl)
            | (go_at_call 86; refine (NX _ h2).mono ?_; clear NX; rintro e w3 ⟨rfl, h3, u3⟩; have u23 := u2.trans u3 (fun _ _ h => h); have o3 := OD w3 u23; have uw3 := hu.trans u23 (fun _ _ h => h); have z3 := uw3.size; have hc5 : w.heap.size ≤ (w3.alloc (.cells #[.int .i64 x, .string y] 58)).heap.size := le_al _ _ _ (by omega))
            | (at_builtin; refine wpList_appW _ rfl (.tmp 12) (.tmp 21) 39 39 rfl w.heap.size 58 i0 _ 2 24 Tryz.underlying39 hi hz0 hz1 hz2 rfl _ _ _ rfl (o3.alloc _) _ 1 [.int .i64 x, .string y] rfl (src_cells Tryz.underlying39 w3 [.int .i64 x, .string y] 2 58 rfl (by simp [Value.oneCell'])) (by unfold maxLen; omega) (by omega) hc5 ?_; intro v' w6 ho6 hg6 hm6))
          have hda := h3.below ((Below.refl _ _).alloc (Nat.le_refl _) (.cells #[.int .i64 x, .string y] 58))
          have ug : Upd (fun j => j = j ∧ w.heap.size ≤ j) (w3.alloc (.cells #[.int .i64 x, .string y] 58)) w6 := (Upd.refl _ _).grown hg6 (fun j _ e => ⟨rfl, (own_block (o3.alloc (.cells #[.int .i64 x, .string y] 58)) e).1⟩)
          have hd6 := hda.step ug (fun j hj => by omega)
          have u6 : Upd (DSet c) w w6 := ((uw3.alloc (.cells #[.int .i64 x, .string y] 58)).trans ug (fun j hj e => by omega))
          have ho7 : w6.ownsRow w.heap.size 58 2 v' (k + 1) ((acc ++ [(⟨x, y⟩ : EventD)]).flatMap eventC) := by simpa [eventC] using ho6
          obtain ⟨ao, l, cc, rfl⟩ := row_shape ho7
          clear ho6 hg6 hm6 ug hda o3
          go_wp2
          go_roundw
          case rel => exact ⟨k + 1, acc ++ [(⟨x, y⟩ : EventD)], t2, by go_num, by omega, by simp [hal], by rw [lastE_snoc], by rw [lastE_snoc]; exact x0, by rw [lastE_snoc]; exact x1, by rw [HM.out]; exact HI.out, ho7, hd6, u6⟩
          case measure => simp [intOf]; omega

      · obtain rfl : k = N := by omega
        rw [Nat.sub_self] at hit
        have HF : Hid (Except.ok (acc, t) = RR) := hit
        obtain ⟨ao, l, cc, rfl⟩ := row_shape ho
        clear hit
        go_wp2
        go_ret
        show PostL c w0 K w 58 2 eventC RR _ _
        rw [← HF.out]
        exact ⟨_, rfl, by rw [hal]; exact ho, hd, hu⟩
end Go.Proofs.YthcghpbkadlliabGreatDoor

namespace Go.Proofs.YthcghpbkadlliabGreatDoor
open Go.Shelf Go.RowKit
set_option maxRecDepth 100000

def valV (v : Int × ByteArray × Int) : Value := .agg #[.int .i64 v.1, .string v.2.1, .int .i64 v.2.2]
set_option maxHeartbeats 2000000 in
theorem dValue (c : Dc) (w0 w : World) (K : List Int) (s : Dst) (h : DS c w0 w K s) :
    Calls Tryz.prog 106 #[.pointer (some ⟨c.T, 0, none⟩)] w fun e w' => PostD c w0 K w valV (valueD K s) e w' := by
  have hal : Below w.heap.size w (w.alloc (.cells #[.int .i64 0, .string ⟨#[]⟩, .int .i64 0] 54)) := (Below.refl _ _).alloc (Nat.le_refl _) _
  have h1 := h.below hal
  have h00 : w0.heap.size ≤ w.heap.size := h.upd.size
  have UAL : ∀ {w'}, Upd (DSet c) (w.alloc (.cells #[.int .i64 0, .string ⟨#[]⟩, .int .i64 0] 54)) w' → Upd (DSet c) w w' := fun u => (Upd.ofBelow (S := DSet c) hal (fun k hk hk' => by omega)).trans u (fun _ _ h => h)
  have X1 : (w.alloc (.cells #[.int .i64 0, .string ⟨#[]⟩, .int .i64 0] 54)).heap[w.heap.size]? = some (.cells #[.int .i64 0, .string ⟨#[]⟩, .int .i64 0] 54 (0, 0)) := heap_alloc_new _ _
  have DOFF0 : ∀ j, w.heap.size ≤ j → ¬ DSet c j := fun j hj e => by
    have l1 := lt_of_block h.tb
    have l2 := lt_of_block h.isR.block
    have l3 := lt_of_block h.h1
    have l4 := lt_of_block h.h2
    rcases e with e | e | e | e <;> omega
  have OFF := DOFF0 w.heap.size (Nat.le_refl _)
  have DOFF : ∀ j, (w.alloc (.cells #[.int .i64 0, .string ⟨#[]⟩, .int .i64 0] 54)).heap.size ≤ j → ¬ DSet c j := fun j hj => DOFF0 j (by simp at hj; omega)
  have AM := dAtMost h1 2
  have hrg : ∀ k t, atMostD 2 K s = .ok (k, t) → k = 0 ∨ k = 1 ∨ k = 2 := by
    intro k t hh
    obtain ⟨u, s1, g1, h4⟩ := step_ok hh
    split at h4
    · simp at h4
    · simp at h4
      have := (reads_small K s u s1 h.inv.byts h.inv.b2 g1).2.2.2
      unfold u8R at this
      omega
  unfold valueD bindD
  generalize atMostD 2 K s = r at AM hrg ⊢
  rcases r with ⟨a, no⟩ | ⟨k, t⟩
  · unfold PostD at AM ⊢
    simp only at AM ⊢
    clear hrg
    go_enter Tryz.func106, Tryz.ntmps106
    go_wp2_with (go_at_call 111; refine AM.mono ?_; clear AM; rintro e w2 ⟨⟨q2, p2, rfl, G2⟩, u2⟩)
    exact ⟨rfl, ⟨q2, p2, rfl, G2⟩, UAL u2⟩
  have hk := hrg k t rfl
  clear hrg DOFF0
  unfold PostD at AM
  simp only at AM ⊢
  rcases hk with rfl | rfl | rfl
  · rw [if_pos rfl]
    unfold stepD
    have NX := fun w2 (h2 : DS c w0 w2 K t) => dNextS c w0 w2 K t h2
    generalize nextT K t = r at NX ⊢
    rcases r with ⟨a, no⟩ | ⟨x, t2⟩
    · unfold PostD at NX ⊢
      simp only at NX ⊢
      go_enter Tryz.func106, Tryz.ntmps106
      go_wp2_with (first
        | (go_at_call 111; refine AM.mono ?_; clear AM; rintro e w2 ⟨rfl, h2, u2⟩; have X2 := (u2.block _ (lt_of_block X1) OFF).trans X1; have b3 : Below w2.heap.size w2 (w2.alloc (.cells #[.int .i64 0, .string ⟨#[]⟩, .int .i64 0] 54)) := (Below.refl _ _).alloc (Nat.le_refl _) _; have h3 := h2.below b3; have X3 := (b3.block _ (lt_of_block X2)).trans X2; have Y3 := heap_alloc_new w2 (.cells #[.int .i64 0, .string ⟨#[]⟩, .int .i64 0] 54); have OFF2 := DOFF w2.heap.size u2.size; have lt2 := lt_of_block X2; have uw3 : Upd (DSet c) w (w2.alloc (.cells #[.int .i64 0, .string ⟨#[]⟩, .int .i64 0] 54)) := ((UAL u2).alloc _); have c1 := blk_cell h3.tb 1 rfl; have c0 := blk_cell h3.tb 0 rfl; have y0 := blk_cell Y3 0 rfl)
        | (go_at_call 86; refine (NX _ h3).mono ?_; clear NX; rintro e w4 ⟨⟨q4, p4, rfl, G4⟩, u4⟩))
      exact ⟨rfl, ⟨q4, p4, rfl, G4⟩, uw3.trans u4 (fun _ _ h => h)⟩
    · unfold PostD at NX ⊢
      simp only [valV] at NX ⊢
      go_enter Tryz.func106, Tryz.ntmps106
      go_wp2_with (first
        | (go_at_call 111; refine AM.mono ?_; clear AM; rintro e w2 ⟨rfl, h2, u2⟩; have X2 := (u2.block _ (lt_of_block X1) OFF).trans X1; have b3 : Below w2.heap.size w2 (w2.alloc (.cells #[.int .i64 0, .string ⟨#[]⟩, .int .i64 0] 54)) := (Below.refl _ _).alloc (Nat.le_refl _) _; have h3 := h2.below b3; have X3 := (b3.block _ (lt_of_block X2)).trans X2; have Y3 := heap_alloc_new w2 (.cells #[.int .i64 0, .string ⟨#[]⟩, .int .i64 0] 54); have OFF2 := DOFF w2.heap.size u2.size; have lt2 := lt_of_block X2; have uw3 : Upd (DSet c) w (w2.alloc (.cells #[.int .i64 0, .string ⟨#[]⟩, .int .i64 0] 54)) := ((UAL u2).alloc _); have c1 := blk_cell h3.tb 1 rfl; have c0 := blk_cell h3.tb 0 rfl; have y0 := blk_cell Y3 0 rfl)
        | (go_at_call 86; refine (NX _ h3).mono ?_; clear NX; rintro e w4 ⟨rfl, h4, u4⟩; have X4 := (u4.block _ (lt_of_block X3) OFF).trans X3; have Y4 := (u4.block _ (lt_of_block Y3) OFF2).trans Y3; have y4 := blk_cell Y4 1 rfl; have f4 := blk_free Y4 1; have Y5 := set_block Y4 1 (.string x); have s5 := upd_one w4 w2.heap.size 1 (.string x); have X5 := (s5.block _ (lt_of_block X4) (by omega)).trans X4; have D5 := h4.step s5 (fun j e => by subst e; omega); have U5 := (uw3.trans u4 (fun _ _ h => h)).trans s5 (fun j hj e => by exfalso; omega); have q0 := blk_cell Y5 0 rfl; have q1 := blk_cell Y5 1 rfl; have q2 := blk_cell Y5 2 rfl; have p0 := blk_cell X5 0 rfl; have p1 := blk_cell X5 1 rfl; have p2 := blk_cell X5 2 rfl; have r0 := blk_free X5 0; have r1 := blk_free X5 1; have r2 := blk_free X5 2))
      obtain ⟨W5, hW5⟩ : ∃ W, w4.setCell ⟨w2.heap.size, 1, none⟩ (.string x) = W := ⟨_, rfl⟩
      rw [hW5] at X5 Y5 D5 U5 ⊢
      clear hW5
      have X6 := set_block X5 0 (.int .i64 0)
      have X7 := set_block X6 1 (.string x)
      have X8 := set_block X7 2 (.int .i64 0)
      have uf : Upd (fun j => j = w.heap.size) W5 (((W5.setCell ⟨w.heap.size, 0, none⟩ (.int .i64 0)).setCell ⟨w.heap.size, 1, none⟩ (.string x)).setCell ⟨w.heap.size, 2, none⟩ (.int .i64 0)) := (upd_one W5 w.heap.size 0 _).trans ((upd_one _ w.heap.size 1 _).trans (upd_one _ w.heap.size 2 _) (fun _ _ h => h)) (fun _ _ h => h)
      have cx0 := blk_cell X8 0 rfl
      have cx1 := blk_cell X8 1 rfl
      have cx2 := blk_cell X8 2 rfl
      refine bodyPost_ret (v := .agg #[.int .i64 0, .string x, .int .i64 0]) ?_ rfl ⟨rfl, D5.step uf (fun j e => by subst e; exact h00), U5.trans uf (fun j hj e => by exfalso; omega)⟩
      rw [results_cell1 rfl]
      simp [asAddr, Result.andThen, go_sem, cx0, cx1, cx2]
  · rw [if_neg (by omega), if_pos rfl]
    unfold stepD intD stepD uintD
    have hv := scan_val (K.drop t.pos) 0 0
    have hsz := scan_size (K.drop t.pos) 0 0
    have N := fun w2 (h2 : DS c w0 w2 K t) => getInt_any c.R c.g K t.pos w2 h2.isR
    generalize scanN (K.drop t.pos) 0 0 = r at N hv hsz ⊢
    cases r using NumRes.each with
    | ok v n =>
      have hs2 := hsz v n rfl
      simp only [List.length_drop] at hs2
      unfold IntPost at N
      simp only at N ⊢
      have MV : ∀ w2 w4, DS c w0 w2 K t → IsR w4 c.R c.g K (t.pos + n) → Upd (fun k => k = c.R) w2 w4 → DS c w0 w4 K (t.to (t.pos + n)) ∧ Upd (DSet c) w2 w4 := fun w2 w4 hd h4 u4 => hd.move h4 u4 (hd.inv.to (by omega) (by have := hd.inv.b2; omega))
      generalize zagI (v : Int) = d at N ⊢
      unfold PostD
      simp only [valV]
      clear hv hsz
      go_enter Tryz.func106, Tryz.ntmps106
      go_wp2_with (first
        | (go_at_call 111; refine AM.mono ?_; clear AM; rintro e w2 ⟨rfl, h2, u2⟩; have X2 := (u2.block _ (lt_of_block X1) OFF).trans X1; have b3 : Below w2.heap.size w2 (w2.alloc (.cells #[.int .i64 1, .string ⟨#[]⟩, .int .i64 0] 54)) := (Below.refl _ _).alloc (Nat.le_refl _) _; have h3 := h2.below b3; have X3 := (b3.block _ (lt_of_block X2)).trans X2; have Y3 := heap_alloc_new w2 (.cells #[.int .i64 1, .string ⟨#[]⟩, .int .i64 0] 54); have OFF2 := DOFF w2.heap.size u2.size; have lt2 := lt_of_block X2; have uw3 : Upd (DSet c) w (w2.alloc (.cells #[.int .i64 1, .string ⟨#[]⟩, .int .i64 0] 54)) := ((UAL u2).alloc _); have c1 := blk_cell h3.tb 1 rfl; have c0 := blk_cell h3.tb 0 rfl; have y0 := blk_cell Y3 0 rfl)
        | (go_at_call 104; refine (N _ h3).mono ?_; clear N; rintro e w4 ⟨rfl, h4r, u4r⟩; obtain ⟨h4, u4⟩ := MV _ _ h3 h4r u4r; have X4 := (u4.block _ (lt_of_block X3) OFF).trans X3; have Y4 := (u4.block _ (lt_of_block Y3) OFF2).trans Y3; have y4 := blk_cell Y4 2 rfl; have f4 := blk_free Y4 2; have Y5 := set_block Y4 2 (.int .i64 d); have s5 := upd_one w4 w2.heap.size 2 (.int .i64 d); have X5 := (s5.block _ (lt_of_block X4) (by omega)).trans X4; have D5 := h4.step s5 (fun j e => by subst e; omega); have U5 := (uw3.trans u4 (fun _ _ h => h)).trans s5 (fun j hj e => by exfalso; omega); have q0 := blk_cell Y5 0 rfl; have q1 := blk_cell Y5 1 rfl; have q2 := blk_cell Y5 2 rfl; have p0 := blk_cell X5 0 rfl; have p1 := blk_cell X5 1 rfl; have p2 := blk_cell X5 2 rfl; have r0 := blk_free X5 0; have r1 := blk_free X5 1; have r2 := blk_free X5 2; clear MV)
        | (go_at_call 103; refine (mustI_ok _ _).mono ?_; rintro e w9 ⟨rfl, hw9⟩; obtain rfl := hw9.symm))
      obtain ⟨W5, hW5⟩ : ∃ W, w4.setCell ⟨w2.heap.size, 2, none⟩ (.int .i64 d) = W := ⟨_, rfl⟩
      rw [hW5] at X5 Y5 D5 U5 ⊢
      clear hW5
      have X6 := set_block X5 0 (.int .i64 1)
      have X7 := set_block X6 1 (.string ⟨#[]⟩)
      have X8 := set_block X7 2 (.int .i64 d)
      have uf : Upd (fun j => j = w.heap.size) W5 (((W5.setCell ⟨w.heap.size, 0, none⟩ (.int .i64 1)).setCell ⟨w.heap.size, 1, none⟩ (.string ⟨#[]⟩)).setCell ⟨w.heap.size, 2, none⟩ (.int .i64 d)) := (upd_one W5 w.heap.size 0 _).trans ((upd_one _ w.heap.size 1 _).trans (upd_one _ w.heap.size 2 _) (fun _ _ h => h)) (fun _ _ h => h)
      have cx0 := blk_cell X8 0 rfl
      have cx1 := blk_cell X8 1 rfl
      have cx2 := blk_cell X8 2 rfl
      refine bodyPost_ret (v := .agg #[.int .i64 1, .string ⟨#[]⟩, .int .i64 d]) ?_ rfl ⟨rfl, D5.step uf (fun j e => by subst e; exact h00), U5.trans uf (fun j hj e => by exfalso; omega)⟩
      rw [results_cell1 rfl]
      simp [asAddr, Result.andThen, go_sem, cx0, cx1, cx2]
    | form =>
      unfold IntPost at N
      unfold PostD
      simp only at N ⊢
      clear hv hsz
      go_enter Tryz.func106, Tryz.ntmps106
      go_wp2_with (first
        | (go_at_call 111; refine AM.mono ?_; clear AM; rintro e w2 ⟨rfl, h2, u2⟩; have X2 := (u2.block _ (lt_of_block X1) OFF).trans X1; have b3 : Below w2.heap.size w2 (w2.alloc (.cells #[.int .i64 1, .string ⟨#[]⟩, .int .i64 0] 54)) := (Below.refl _ _).alloc (Nat.le_refl _) _; have h3 := h2.below b3; have X3 := (b3.block _ (lt_of_block X2)).trans X2; have Y3 := heap_alloc_new w2 (.cells #[.int .i64 1, .string ⟨#[]⟩, .int .i64 0] 54); have OFF2 := DOFF w2.heap.size u2.size; have lt2 := lt_of_block X2; have uw3 : Upd (DSet c) w (w2.alloc (.cells #[.int .i64 1, .string ⟨#[]⟩, .int .i64 0] 54)) := ((UAL u2).alloc _); have c1 := blk_cell h3.tb 1 rfl; have c0 := blk_cell h3.tb 0 rfl; have y0 := blk_cell Y3 0 rfl)
        | (go_at_call 104; refine (N _ h3).mono ?_; clear N; rintro e w4 ⟨p4, rfl, F4, q4, b4⟩)
        | (go_at_call 103; refine (mustI_bad _ p4 _ _ _ F4).mono ?_; rintro e w5 ⟨⟨q5, p5, rfl, G5⟩, b5⟩))
      exact ⟨rfl, ⟨q5, p5, rfl, G5⟩, uw3.trans (S' := fun _ => False) (Upd.ofBelow (b4.trans (b5.mono b4.size)) (fun k hk hk' => by omega)) (fun _ _ h => h.elim)⟩
    | ended =>
      unfold IntPost at N
      unfold PostD
      simp only at N ⊢
      clear hv hsz
      go_enter Tryz.func106, Tryz.ntmps106
      go_wp2_with (first
        | (go_at_call 111; refine AM.mono ?_; clear AM; rintro e w2 ⟨rfl, h2, u2⟩; have X2 := (u2.block _ (lt_of_block X1) OFF).trans X1; have b3 : Below w2.heap.size w2 (w2.alloc (.cells #[.int .i64 1, .string ⟨#[]⟩, .int .i64 0] 54)) := (Below.refl _ _).alloc (Nat.le_refl _) _; have h3 := h2.below b3; have X3 := (b3.block _ (lt_of_block X2)).trans X2; have Y3 := heap_alloc_new w2 (.cells #[.int .i64 1, .string ⟨#[]⟩, .int .i64 0] 54); have OFF2 := DOFF w2.heap.size u2.size; have lt2 := lt_of_block X2; have uw3 : Upd (DSet c) w (w2.alloc (.cells #[.int .i64 1, .string ⟨#[]⟩, .int .i64 0] 54)) := ((UAL u2).alloc _); have c1 := blk_cell h3.tb 1 rfl; have c0 := blk_cell h3.tb 0 rfl; have y0 := blk_cell Y3 0 rfl)
        | (go_at_call 104; refine (N _ h3).mono ?_; clear N; rintro e w4 ⟨p4, rfl, F4, q4, b4⟩)
        | (go_at_call 103; refine (mustI_bad _ p4 _ _ _ F4).mono ?_; rintro e w5 ⟨⟨q5, p5, rfl, G5⟩, b5⟩))
      exact ⟨rfl, ⟨q5, p5, rfl, G5⟩, uw3.trans (S' := fun _ => False) (Upd.ofBelow (b4.trans (b5.mono b4.size)) (fun k hk hk' => by omega)) (fun _ _ h => h.elim)⟩
  · rw [if_neg (by omega), if_neg (by omega)]
    unfold stepD
    have NX := fun w2 (h2 : DS c w0 w2 K t) => dAtMost h2 1
    have hrg : ∀ k t', atMostD 1 K t = .ok (k, t') → 0 ≤ k ∧ k ≤ 1 := by
      intro k t' hh
      obtain ⟨u, s1, g1, h4⟩ := step_ok hh
      split at h4
      · simp at h4
      · simp at h4
        have hl : u = ((K.drop t.pos).take 1).headD 0 := by
          obtain ⟨l, s2, g3, g4⟩ := step_ok g1
          simp at g4
          unfold bytesD at g3
          split at g3
          · simp at g3; rw [← g4.1, g3.1]; simp
          · simp at g3
        have hb : 0 ≤ u := by
          rw [hl]
          cases hc : (K.drop t.pos).take 1 with
          | nil => simp
          | cons y r => simp; exact (h.inv.byts y (List.mem_of_mem_drop (List.mem_of_mem_take (by rw [hc]; simp)))).1
        omega
    generalize atMostD 1 K t = r at NX hrg ⊢
    rcases r with ⟨a, no⟩ | ⟨x, t2⟩
    · unfold PostD at NX ⊢
      simp only at NX ⊢
      clear hrg
      go_enter Tryz.func106, Tryz.ntmps106
      go_wp2_with (first
        | (go_at_call 111; refine AM.mono ?_; clear AM; rintro e w2 ⟨rfl, h2, u2⟩; have X2 := (u2.block _ (lt_of_block X1) OFF).trans X1; have b3 : Below w2.heap.size w2 (w2.alloc (.cells #[.int .i64 2, .string ⟨#[]⟩, .int .i64 0] 54)) := (Below.refl _ _).alloc (Nat.le_refl _) _; have h3 := h2.below b3; have X3 := (b3.block _ (lt_of_block X2)).trans X2; have Y3 := heap_alloc_new w2 (.cells #[.int .i64 2, .string ⟨#[]⟩, .int .i64 0] 54); have OFF2 := DOFF w2.heap.size u2.size; have lt2 := lt_of_block X2; have uw3 : Upd (DSet c) w (w2.alloc (.cells #[.int .i64 2, .string ⟨#[]⟩, .int .i64 0] 54)) := ((UAL u2).alloc _); have c1 := blk_cell h3.tb 1 rfl; have c0 := blk_cell h3.tb 0 rfl; have y0 := blk_cell Y3 0 rfl)
        | (go_at_call 111; refine (NX _ h3).mono ?_; clear NX; rintro e w4 ⟨⟨q4, p4, rfl, G4⟩, u4⟩))
      exact ⟨rfl, ⟨q4, p4, rfl, G4⟩, uw3.trans u4 (fun _ _ h => h)⟩
    · obtain ⟨x0, x1⟩ := hrg x t2 rfl
      unfold PostD at NX ⊢
      simp only [valV] at NX ⊢
      clear hrg
      go_enter Tryz.func106, Tryz.ntmps106
      go_wp2_with (first
        | (go_at_call 111; refine AM.mono ?_; clear AM; rintro e w2 ⟨rfl, h2, u2⟩; have X2 := (u2.block _ (lt_of_block X1) OFF).trans X1; have b3 : Below w2.heap.size w2 (w2.alloc (.cells #[.int .i64 2, .string ⟨#[]⟩, .int .i64 0] 54)) := (Below.refl _ _).alloc (Nat.le_refl _) _; have h3 := h2.below b3; have X3 := (b3.block _ (lt_of_block X2)).trans X2; have Y3 := heap_alloc_new w2 (.cells #[.int .i64 2, .string ⟨#[]⟩, .int .i64 0] 54); have OFF2 := DOFF w2.heap.size u2.size; have lt2 := lt_of_block X2; have uw3 : Upd (DSet c) w (w2.alloc (.cells #[.int .i64 2, .string ⟨#[]⟩, .int .i64 0] 54)) := ((UAL u2).alloc _); have c1 := blk_cell h3.tb 1 rfl; have c0 := blk_cell h3.tb 0 rfl; have y0 := blk_cell Y3 0 rfl)
        | (go_at_call 111; refine (NX _ h3).mono ?_; clear NX; rintro e w4 ⟨rfl, h4, u4⟩; have X4 := (u4.block _ (lt_of_block X3) OFF).trans X3; have Y4 := (u4.block _ (lt_of_block Y3) OFF2).trans Y3; have y4 := blk_cell Y4 2 rfl; have f4 := blk_free Y4 2; have Y5 := set_block Y4 2 (.int .i64 x); have s5 := upd_one w4 w2.heap.size 2 (.int .i64 x); have X5 := (s5.block _ (lt_of_block X4) (by omega)).trans X4; have D5 := h4.step s5 (fun j e => by subst e; omega); have U5 := (uw3.trans u4 (fun _ _ h => h)).trans s5 (fun j hj e => by exfalso; omega); have q0 := blk_cell Y5 0 rfl; have q1 := blk_cell Y5 1 rfl; have q2 := blk_cell Y5 2 rfl; have p0 := blk_cell X5 0 rfl; have p1 := blk_cell X5 1 rfl; have p2 := blk_cell X5 2 rfl; have r0 := blk_free X5 0; have r1 := blk_free X5 1; have r2 := blk_free X5 2))
      obtain ⟨W5, hW5⟩ : ∃ W, w4.setCell ⟨w2.heap.size, 2, none⟩ (.int .i64 x) = W := ⟨_, rfl⟩
      rw [hW5] at X5 Y5 D5 U5 ⊢
      clear hW5
      have X6 := set_block X5 0 (.int .i64 2)
      have X7 := set_block X6 1 (.string ⟨#[]⟩)
      have X8 := set_block X7 2 (.int .i64 x)
      have uf : Upd (fun j => j = w.heap.size) W5 (((W5.setCell ⟨w.heap.size, 0, none⟩ (.int .i64 2)).setCell ⟨w.heap.size, 1, none⟩ (.string ⟨#[]⟩)).setCell ⟨w.heap.size, 2, none⟩ (.int .i64 x)) := (upd_one W5 w.heap.size 0 _).trans ((upd_one _ w.heap.size 1 _).trans (upd_one _ w.heap.size 2 _) (fun _ _ h => h)) (fun _ _ h => h)
      have cx0 := blk_cell X8 0 rfl
      have cx1 := blk_cell X8 1 rfl
      have cx2 := blk_cell X8 2 rfl
      refine bodyPost_ret (v := .agg #[.int .i64 2, .string ⟨#[]⟩, .int .i64 x]) ?_ rfl ⟨rfl, D5.step uf (fun j e => by subst e; exact h00), U5.trans uf (fun j hj e => by exfalso; omega)⟩
      rw [results_cell1 rfl]
      simp [asAddr, Result.andThen, go_sem, cx0, cx1, cx2]
end Go.Proofs.YthcghpbkadlliabGreatDoor
