/-
  Merged by merge.py: X5, X6, X7.
-/
import Derived.Test.YthcghpbkadlliabGreatDoorMa23
namespace Go.Proofs.YthcghpbkadlliabGreatDoor
open Go.Shelf Go.RowKit
set_option maxRecDepth 100000

set_option maxHeartbeats 2000000 in
theorem dAttrs (c : Dc) (w0 w : World) (K : List Int) (s : Dst) (h : DS c w0 w K s) :
    Calls Tryz.prog 91 #[.pointer (some ⟨c.T, 0, none⟩)] w fun e w' => PostL c w0 K w 56 4 attrC (attrsD K s) e w' := by
  obtain ⟨i0, hi, hz0, hz1, hz2⟩ := info_parts Tryz.info56
  have CN := dCount h 32 55
  have h00 := h.upd.size
  unfold attrsD bindD
  have hcl : ∀ n s', countD 32 55 K s = .ok (n, s') → n ≤ 32 := by
    intro n s' hh
    obtain ⟨u, s1, _, h4⟩ := step_ok hh
    split at h4
    · simp at h4
    · simp at h4; omega
  generalize countD 32 55 K s = r at CN hcl ⊢
  rcases r with ⟨a, no⟩ | ⟨N, s1⟩
  · unfold PostD at CN
    unfold PostL
    simp only at CN ⊢
    go_enter Tryz.func91, Tryz.ntmps91
    go_wp2_with (go_at_call 68; refine CN.mono ?_; clear CN; rintro e w1 ⟨⟨q1, p1, rfl, G1⟩, u1⟩)
    exact ⟨rfl, ⟨q1, p1, rfl, G1⟩, u1⟩
  · have hN := hcl N s1 rfl
    clear hcl
    unfold PostD at CN
    simp only at CN ⊢
    obtain ⟨RR, hRR⟩ : ∃ r, iterF (fun _ => attrD1) N [] K s1 = r := ⟨_, rfl⟩
    rw [hRR]
    have HR : Hid (iterF (fun _ => attrD1) N [] K s1 = RR) := hRR
    clear hRR
    go_enter Tryz.func91, Tryz.ntmps91
    go_wp2_with (go_at_call 68; refine CN.mono ?_; clear CN; rintro e w1 ⟨rfl, h1, u1⟩)
    go_loopw [3, 6] (fun a d wr => ∃ (k : Nat) (acc : List AttrD) (t : Dst), d = .int .u64 k ∧ k ≤ N ∧ acc.length = k ∧ iterF (fun _ => attrD1) (N - k) acc K t = RR ∧ wr.ownsRow w.heap.size 56 4 a k (acc.flatMap attrC) ∧ DS c w0 wr K t ∧ Upd (DSet c) w wr) (fun _ d _ => N - (intOf d).toNat)
    case atStart => exact ⟨0, [], s1, rfl, by omega, rfl, HR.out, World.ownsRow_nil _ _ _ _, h1, u1⟩
    case round =>
      obtain ⟨k, acc, t, rfl, hk, hal, hit, ho, hd, hu⟩ := hrel
      clear h1 u1
      have hsz := hu.size
      by_cases hlt : k < N
      · obtain ⟨m, hm⟩ : ∃ m, N - k = m + 1 := ⟨N - k - 1, by omega⟩
        have hm2 : N - (k + 1) = m := by omega
        rw [hm] at hit
        have HM : Hid (N - (k + 1) = m) := hm2
        have hki : (k : Int) < (N : Int) := by omega
        clear hm hm2
        have AB := dNextS c w0 wr K t hd
        change bindD (bindD nextT fun key => stepD valueD fun v _ s' => .ok (⟨key, v.1, v.2.1, v.2.2⟩, s')) (fun v => iterF (fun _ => attrD1) m (acc ++ [v])) K t = RR at hit
        unfold bindD at hit
        have OD := fun w2 (u2 : Upd (DSet c) wr w2) => own_dset hd ho h00 u2
        have c1 := blk_cell hd.tb 1 rfl
        generalize nextT K t = r at AB hit
        rcases r with ⟨a, no⟩ | ⟨x, t'⟩
        · simp only at hit
          unfold PostD at AB
          simp only at AB
          have HF : Hid (Except.error (a, no) = RR) := hit
          clear hit
          go_wp2_with (go_at_call 86; refine AB.mono ?_; clear AB; rintro e w2 ⟨⟨q2, p2, rfl, G2⟩, u2⟩)
          exact ⟨rfl, by rw [← HF.out]; exact ⟨⟨q2, p2, rfl, G2⟩, hu.trans u2 (fun _ _ h => h)⟩⟩
        simp only at hit
        unfold stepD at hit
        unfold PostD at AB
        simp only at AB
        have NX := fun w2 (h2 : DS c w0 w2 K t') => dValue c w0 w2 K t' h2
        generalize valueD K t' = r at NX hit
        rcases r with ⟨a, no⟩ | ⟨y, t2⟩
        · simp only at hit
          unfold PostD at NX
          simp only at NX
          have HF : Hid (Except.error (a, no) = RR) := hit
          clear hit
          go_wp2_with (first
            | (go_at_call 86; refine AB.mono ?_; clear AB; rintro e w2 ⟨rfl, h2, u2⟩)
            | (go_at_call 106; refine (NX _ h2).mono ?_; clear NX; rintro e w3 ⟨⟨q3, p3, rfl, G3⟩, u3⟩))
          exact ⟨rfl, by rw [← HF.out]; exact ⟨⟨q3, p3, rfl, G3⟩, hu.trans (u2.trans u3 (fun _ _ h => h)) (fun _ _ h => h)⟩⟩
        · simp only at hit
          unfold PostD at NX
          simp only [valV] at NX
          have HI : Hid (iterF (fun _ => attrD1) m (acc ++ [(⟨x, y.1, y.2.1, y.2.2⟩ : AttrD)]) K t2 = RR) := hit
          clear hit
          go_wp2_with (first
            | (go_at_call 86; refine AB.mono ?_; clear AB; rintro e w2 ⟨rfl, h2, u2⟩)
            | (go_at_call 106; refine (NX _ h2).mono ?_; clear NX; rintro e w3 ⟨rfl, h3, u3⟩; have u23 := u2.trans u3 (fun _ _ h => h); have o3 := OD w3 u23; have uw3 := hu.trans u23 (fun _ _ h => h); have z3 := uw3.size; have hc5 : w.heap.size ≤ (w3.alloc (.cells #[.string x, .int .i64 y.1, .string y.2.1, .int .i64 y.2.2] 56)).heap.size := le_al _ _ _ (by omega))
            | (at_builtin; refine wpList_appW _ rfl (.tmp 8) (.tmp 18) 38 38 rfl w.heap.size 56 i0 _ 4 48 Tryz.underlying38 hi hz0 hz1 hz2 rfl _ _ _ rfl (o3.alloc _) _ 1 [.string x, .int .i64 y.1, .string y.2.1, .int .i64 y.2.2] rfl (src_cells Tryz.underlying38 w3 [.string x, .int .i64 y.1, .string y.2.1, .int .i64 y.2.2] 4 56 rfl (by simp [Value.oneCell'])) (by unfold maxLen; omega) (by omega) hc5 ?_; intro v' w6 ho6 hg6 hm6))
          have hda := h3.below ((Below.refl _ _).alloc (Nat.le_refl _) (.cells #[.string x, .int .i64 y.1, .string y.2.1, .int .i64 y.2.2] 56))
          have ug : Upd (fun j => j = j ∧ w.heap.size ≤ j) (w3.alloc (.cells #[.string x, .int .i64 y.1, .string y.2.1, .int .i64 y.2.2] 56)) w6 := (Upd.refl _ _).grown hg6 (fun j _ e => ⟨rfl, (own_block (o3.alloc (.cells #[.string x, .int .i64 y.1, .string y.2.1, .int .i64 y.2.2] 56)) e).1⟩)
          have hd6 := hda.step ug (fun j hj => by omega)
          have u6 : Upd (DSet c) w w6 := ((uw3.alloc (.cells #[.string x, .int .i64 y.1, .string y.2.1, .int .i64 y.2.2] 56)).trans ug (fun j hj e => by omega))
          have ho7 : w6.ownsRow w.heap.size 56 4 v' (k + 1) ((acc ++ [(⟨x, y.1, y.2.1, y.2.2⟩ : AttrD)]).flatMap attrC) := by simpa [attrC] using ho6
          obtain ⟨ao, l, cc, rfl⟩ := row_shape ho7
          clear ho6 hg6 hm6 ug hda o3
          go_wp2
          go_roundw
          case rel => exact ⟨k + 1, acc ++ [(⟨x, y.1, y.2.1, y.2.2⟩ : AttrD)], t2, by go_num, by omega, by simp [hal], by rw [HM.out]; exact HI.out, ho7, hd6, u6⟩
          case measure => simp [intOf]; omega

      · obtain rfl : k = N := by omega
        rw [Nat.sub_self] at hit
        have HF : Hid (Except.ok (acc, t) = RR) := hit
        obtain ⟨ao, l, cc, rfl⟩ := row_shape ho
        clear hit
        go_wp2
        go_ret
        show PostL c w0 K w 56 4 attrC RR _ _
        rw [← HF.out]
        exact ⟨_, rfl, by rw [hal]; exact ho, hd, hu⟩
end Go.Proofs.YthcghpbkadlliabGreatDoor

namespace Go.Proofs.YthcghpbkadlliabGreatDoor
open Go.Shelf Go.RowKit
set_option maxRecDepth 100000

def u64w (v : Int) : Int := if v < 0 then v + 18446744073709551616 else v
theorem wrap_u64_of (v : Int) (h0 : 0 ≤ v) (h1 : v < 18446744073709551616) : IntKind.u64.wrap v = v := by
  rw [IntKind.wrap_u64]; omega
theorem wrap_u64_hi (v : Int) (h0 : 18446744073709551616 ≤ v) (h1 : v < 36893488147419103232) : IntKind.u64.wrap v = v - 18446744073709551616 := by
  rw [IntKind.wrap_u64]; omega
theorem wrap_u64_lo (v : Int) (h0 : -18446744073709551616 ≤ v) (h1 : v < 0) : IntKind.u64.wrap v = v + 18446744073709551616 := by
  rw [IntKind.wrap_u64]; omega
theorem wrap_i64_w (v : Int) (h0 : -9223372036854775808 ≤ v) (h1 : v ≤ 9223372036854775807) : IntKind.i64.wrap (u64w v) = v := by
  unfold u64w
  split <;> rw [wrap_i64] <;> omega
set_option maxHeartbeats 1000000 in
theorem bAbove_neg (T R g : Nat) (K : List Int) (s : Dst) (o O M : Int) (w : World) (hT : TkB w T R) (h : IsR w R g K s.pos) (hK : ∀ x ∈ K, 0 ≤ x ∧ x < 256) (h0 : o < 0) (h1 : -9223372036854775808 ≤ o) (hO : O = o + 18446744073709551616) (hM0 : M = 9223372036854775807 - o) (hM : IntKind.u64.wrap (9223372036854775807 - O) = M) :
    Calls Tryz.prog 105 #[.pointer (some ⟨T, 0, none⟩), .int .u64 O, .int .u64 9223372036854775807] w fun e w' => PostR R g K w (fun v => .int .u64 (u64w v)) (aboveD o 9223372036854775807 K s) e w' := by
  have d0 := hT.c0
  have hne := hT.ne h
  have A := at_any R g K s.pos w h
  have N := getUint_any R g K s.pos w h
  have hv := scan_val (K.drop s.pos) 0 0
  have hby : ∀ x ∈ K.drop s.pos, 0 ≤ x ∧ x < 256 := fun x hx => hK x (List.mem_of_mem_drop hx)
  have D0 : ∀ w', Upd (fun k => k = R) w w' → w'.cell? ⟨T, 0, none⟩ = some (.pointer (some ⟨R, 0, none⟩)) := fun w' u => (hT.upd u hne).c0
  unfold aboveD stepD uintD
  generalize scanN (K.drop s.pos) 0 0 = r at N hv ⊢
  cases r using NumRes.each with
  | ok v n =>
    have hv64 := hv v n hby (by omega) (fun _ => by simp) rfl
    clear hv
    simp only
    unfold UintPost at N
    rw [← hM0]
    by_cases hm : M < (v : Int)
    · rw [if_pos hm]
      unfold PostR
      simp only

      clear hby hK hT hM0 hO
      go_enter Tryz.func105, Tryz.ntmps105
      go_wp2_with (first
        | (go_at_call 64; refine A.mono ?_; clear A; rintro e w1 ⟨rfl, hw⟩; obtain rfl := hw.symm)
        | (go_at_call 63; refine N.mono ?_; clear N; rintro e w2 ⟨rfl, h2, u2⟩)
        | (go_at_call 62; refine (mustU_ok _ _).mono ?_; rintro e w3 ⟨rfl, hw3⟩; obtain rfl := hw3.symm)
        | (go_at_call 18; refine (giveUp_any _ _ _).mono ?_; rintro e w4 ⟨⟨q4, p4, rfl, G4⟩, b4⟩))
      exact ⟨rfl, ⟨q4, p4, rfl, G4⟩, upd_bel2 u2 b4⟩
    · rw [if_neg hm]
      unfold PostR
      simp only [Dst.to]
      have hs1 : IntKind.u64.wrap (O + (v : Int)) = u64w (o + v) := by
        unfold u64w
        split
        · rw [wrap_u64_of _ (by omega) (by omega)]; omega
        · rw [wrap_u64_hi _ (by omega) (by omega)]; omega
      clear hby hK hT hM0 hO
      go_enter Tryz.func105, Tryz.ntmps105
      go_wp2_with (first
        | (go_at_call 64; refine A.mono ?_; clear A; rintro e w1 ⟨rfl, hw⟩; obtain rfl := hw.symm)
        | (go_at_call 63; refine N.mono ?_; clear N; rintro e w2 ⟨rfl, h2, u2⟩)
        | (go_at_call 62; refine (mustU_ok _ _).mono ?_; rintro e w3 ⟨rfl, hw3⟩; obtain rfl := hw3.symm))
      go_ret
      exact ⟨rfl, h2, u2⟩
  | form =>
    clear hv hby hK hT
    unfold UintPost at N
    unfold PostR
    simp only
    go_enter Tryz.func105, Tryz.ntmps105
    go_wp2_with (first
      | (go_at_call 64; refine A.mono ?_; clear A; rintro e w1 ⟨rfl, hw⟩; obtain rfl := hw.symm)
      | (go_at_call 63; refine N.mono ?_; clear N; rintro e w2 ⟨p2, rfl, F2, q2, b2⟩)
      | (go_at_call 62; refine (mustU_bad _ p2 _ _ _ F2).mono ?_; rintro e w3 ⟨⟨q3, p3, rfl, G3⟩, b3⟩))
    exact ⟨rfl, ⟨q3, p3, rfl, G3⟩, upd_bel (b2.trans (b3.mono b2.size))⟩
  | ended =>
    clear hv hby hK hT
    unfold UintPost at N
    unfold PostR
    simp only
    go_enter Tryz.func105, Tryz.ntmps105
    go_wp2_with (first
      | (go_at_call 64; refine A.mono ?_; clear A; rintro e w1 ⟨rfl, hw⟩; obtain rfl := hw.symm)
      | (go_at_call 63; refine N.mono ?_; clear N; rintro e w2 ⟨p2, rfl, F2, q2, b2⟩)
      | (go_at_call 62; refine (mustU_bad _ p2 _ _ _ F2).mono ?_; rintro e w3 ⟨⟨q3, p3, rfl, G3⟩, b3⟩))
    exact ⟨rfl, ⟨q3, p3, rfl, G3⟩, upd_bel (b2.trans (b3.mono b2.size))⟩
theorem bLater_neg (T R g : Nat) (K : List Int) (s : Dst) (o : Int) (w : World) (hT : TkB w T R) (h : IsR w R g K s.pos) (hK : ∀ x ∈ K, 0 ≤ x ∧ x < 256) (h0 : o < 0) (h1 : -9223372036854775808 ≤ o) :
    Calls Tryz.prog 89 #[.pointer (some ⟨T, 0, none⟩), .int .i64 o] w fun e w' => PostR R g K w (fun v => .int .i64 v) (laterD o K s) e w' := by
  obtain ⟨O, hO⟩ : ∃ O, O = o + 18446744073709551616 := ⟨_, rfl⟩
  have B := bAbove_neg T R g K s o O (9223372036854775807 - o) w hT h hK h0 h1 hO rfl (by rw [wrap_u64_lo _ (by omega) (by omega)]; omega)
  have cO : IntKind.u64.wrap o = O := by rw [wrap_u64_lo _ (by omega) (by omega), hO]
  have hr : ∀ v s', aboveD o 9223372036854775807 K s = .ok (v, s') → o ≤ v ∧ v ≤ 9223372036854775807 := by
    intro v s' hh
    obtain ⟨u, s1, _, h4⟩ := step_ok hh
    split at h4
    · simp at h4
    · simp at h4; omega
  unfold laterD
  generalize aboveD o 9223372036854775807 K s = r at B hr ⊢
  clear hO
  rcases r with ⟨a, no⟩ | ⟨v, s'⟩
  · unfold PostR at B ⊢
    simp only at B ⊢
    go_enter Tryz.func89, Tryz.ntmps89
    go_wp2_with (go_at_call 105; refine B.mono ?_; clear B; rintro e w2 ⟨⟨q2, p2, rfl, G2⟩, u2⟩)
    exact ⟨rfl, ⟨q2, p2, rfl, G2⟩, u2⟩
  · obtain ⟨r0, r1⟩ := hr v s' rfl
    have cV := wrap_i64_w v (by omega) r1
    clear hr
    unfold PostR at B ⊢
    simp only at B ⊢
    generalize u64w v = V at B cV
    go_enter Tryz.func89, Tryz.ntmps89
    go_wp2_with (go_at_call 105; refine B.mono ?_; clear B; rintro e w2 ⟨rfl, h2, u2⟩)
    go_ret
    exact ⟨rfl, h2, u2⟩
theorem dLaterA {c : Dc} {w0 w : World} {K : List Int} {s : Dst} (h : DS c w0 w K s) (a : Int) (h0 : -9223372036854775808 ≤ a) (h1 : a ≤ 9223372036854775807) : Calls Tryz.prog 89 #[.pointer (some ⟨c.T, 0, none⟩), .int .i64 a] w fun e w' => PostD c w0 K w (fun v => .int .i64 v) (laterD a K s) e w' := by
  by_cases ha : 0 ≤ a
  · exact dLater h a ha h1
  · exact (bLater_neg c.T c.R c.g K s a w h.tk h.isR h.inv.byts (by omega) h0).mono fun _ _ hr => toD h (fun v s' e => ⟨to_above e, (sound_later a K 0 s v s' h.inv e).1⟩) hr
end Go.Proofs.YthcghpbkadlliabGreatDoor

namespace Go.Proofs.YthcghpbkadlliabGreatDoor
open Go.Shelf Go.RowKit
set_option maxRecDepth 100000

theorem own_base {w : World} {b b' : Nat} {e : TypeId} {size : Nat} {v : Value} {n : Nat} {xs : List Value} (h : w.ownsRow b e size v n xs) (hb : b' ≤ b) : w.ownsRow b' e size v n xs := by
  obtain ⟨h1, h2⟩ := h
  refine ⟨h1, ?_⟩
  rcases h2 with h2 | ⟨g, cap, cur, rfl, hg, r⟩
  · exact Or.inl h2
  · exact Or.inr ⟨g, cap, cur, rfl, Nat.le_trans hb hg, r⟩
/-- A span that was taken: its lists lie in memory of their own, from base on. -/
structure SpO (w : World) (base : Nat) (a : Sp) (p : Pl) : Prop where
  o1 : w.ownsRow base 34 1 (.slice p.la a.links.length p.lc) a.links.length (a.links.flatMap oneV)
  o2 : w.ownsRow base 56 4 (.slice p.aa a.attrs.length p.ac) a.attrs.length (a.attrs.flatMap attrC)
  o3 : w.ownsRow base 58 2 (.slice p.ea a.events.length p.ec) a.events.length (a.events.flatMap eventC)
  l1 : a.links.length ≤ 16
  l2 : a.attrs.length ≤ 32
  l3 : a.events.length ≤ 32
theorem flat_oneV (l : List Int) : l.flatMap oneV = intsV .u64 l := by
  induction l with
  | nil => rfl
  | cons a r ih => simp only [List.flatMap_cons, ih]; rfl
theorem SpO.at {w : World} {base : Nat} {a : Sp} {p : Pl} (h : SpO w base a p) : SpAt w a p :=
  ⟨by have := holdsV_own h.o1; rw [flat_oneV] at this; exact this, attrsAt_own h.o2, eventsAt_own h.o3, by have := h.l1; omega, by have := h.l2; omega, by have := h.l3; omega⟩
theorem SpO.upd {S : Nat → Prop} {w w' : World} {base : Nat} {a : Sp} {p : Pl} (h : SpO w base a p) (hu : Upd S w w') (hS : ∀ k cs t fz, S k → base ≤ k → w.heap[k]? = some (.cells cs t fz) → t ≠ 34 ∧ t ≠ 56 ∧ t ≠ 58) : SpO w' base a p := by
  refine ⟨ownsRow_upd h.o1 hu ?_, ownsRow_upd h.o2 hu ?_, ownsRow_upd h.o3 hu ?_, h.l1, h.l2, h.l3⟩
  · intro k hk hs; obtain ⟨hb, cs, fz, hh⟩ := own_block h.o1 hk; exact (hS k _ _ _ hs hb hh).1 rfl
  · intro k hk hs; obtain ⟨hb, cs, fz, hh⟩ := own_block h.o2 hk; exact (hS k _ _ _ hs hb hh).2.1 rfl
  · intro k hk hs; obtain ⟨hb, cs, fz, hh⟩ := own_block h.o3 hk; exact (hS k _ _ _ hs hb hh).2.2 rfl
theorem SpO.base {w : World} {b b' : Nat} {a : Sp} {p : Pl} (h : SpO w b a p) (hb : b' ≤ b) : SpO w b' a p := ⟨own_base h.o1 hb, own_base h.o2 hb, own_base h.o3 hb, h.l1, h.l2, h.l3⟩
def PostS (c : Dc) (w0 : World) (K : List Int) (w : World) (r : Res (Sp × Dst)) (e : Ending) (w' : World) : Prop := match r with
  | .ok (a, s') => ∃ p, e = .returned (spV a p) ∧ SpO w' w.heap.size a p ∧ DS c w0 w' K s' ∧ Upd (DSet c) w w'
  | .error (a, n) => Ups w' a n e ∧ Upd (DSet c) w w'
theorem hid_bind {α β : Type} {p : Pa α} {f : α → Pa β} {K : List Int} {s s1 : Dst} {u : α} {RR : Res (β × Dst)} (h : Hid (bindD p f K s = RR)) (hp : p K s = .ok (u, s1)) : Hid (f u K s1 = RR) := by
  have := h.out; rw [bind_mk hp] at this; exact this
theorem hid_er {α β : Type} {p : Pa α} {f : α → Pa β} {K : List Int} {s : Dst} {e : Nat × Nat} {RR : Res (β × Dst)} (h : Hid (bindD p f K s = RR)) (hp : p K s = .error e) : RR = .error e := by
  have := h.out; rw [bind_er hp] at this; exact this.symm
theorem start_nextT {K : List Int} {s s' : Dst} {v : ByteArray} (h : nextT K s = .ok (v, s')) : s'.start = s.start := by
  obtain ⟨u, s1, h1, h2⟩ := step_ok h
  have e := to_uint h1
  split at h2
  · simp at h2
  · split at h2
    · simp at h2
    · simp at h2; rw [← h2.2]; split <;> (rw [e]; rfl)
theorem start_nextR {K : List Int} {s s' : Dst} {v : Int × Int} (h : nextR K s = .ok (v, s')) : s'.start = s.start := by
  obtain ⟨u, s1, h1, h2⟩ := step_ok h
  have e := to_uint h1
  split at h2
  · simp at h2
  · split at h2
    · simp at h2
    · simp at h2; rw [← h2.2]; split <;> (rw [e]; rfl)
theorem start_raw8 {K : List Int} {s s' : Dst} {v : Int} (h : raw8D K s = .ok (v, s')) : s'.start = s.start := by rw [to_raw8 h]; rfl
theorem start_small {K : List Int} {s s' : Dst} {v : Int} (h : smallD K s = .ok (v, s')) : s'.start = s.start := by rw [to_small h]; rfl
theorem since_rng {K : List Int} {s s' : Dst} {v : Int} (hK : ∀ x ∈ K, 0 ≤ x ∧ x < 256) (h0 : 0 ≤ s.start) (h : sinceD K s = .ok (v, s')) : -9223372036854775808 ≤ v ∧ v ≤ 9223372036854775807 := by
  obtain ⟨d, s1, h1, h2⟩ := step_ok h
  obtain ⟨u, s2, h3, h4⟩ := step_ok h1
  simp at h4
  split at h2
  · simp at h2
  · simp at h2
    unfold uintD at h3
    have hv := scan_val (K.drop s.pos) 0 0
    generalize scanN (K.drop s.pos) 0 0 = r at hv h3
    cases r using NumRes.each with
    | ok v' n =>
      have hv64 := hv v' n (fun x hx => hK x (List.mem_of_mem_drop hx)) (by omega) (fun _ => by simp) rfl
      have z0 := zag_lo v' (by omega) (by omega)
      simp at h3
      rw [← h3.1] at h4
      rw [← h4.1] at h2
      omega
    | form => simp at h3
    | ended => simp at h3
theorem iterF_len {α : Type} {p : List α → Pa α} {K : List Int} : ∀ (n : Nat) (acc : List α) (s : Dst) (L : List α) (s' : Dst), iterF p n acc K s = .ok (L, s') → L.length = acc.length + n := by
  intro n
  induction n with
  | zero => intro acc s L s' h; unfold iterF at h; simp at h; rw [← h.1]; rfl
  | succ n ih =>
    intro acc s L s' h
    unfold iterF at h
    obtain ⟨u, s1, _, h2⟩ := bind_ok h
    have := ih _ _ _ _ h2
    simp at this; omega
theorem count_le {K : List Int} {m no : Nat} {s s' : Dst} {n : Nat} (h : countD m no K s = .ok (n, s')) : n ≤ m := by
  obtain ⟨u, s1, _, h4⟩ := step_ok h
  split at h4
  · simp at h4
  · simp at h4; omega
theorem list_len {α : Type} {p : List α → Pa α} {K : List Int} {m no : Nat} {s s' : Dst} {L : List α} (h : bindD (countD m no) (fun n => iterF p n []) K s = .ok (L, s')) : L.length ≤ m := by
  obtain ⟨n, s1, h1, h2⟩ := bind_ok h
  have := iterF_len _ _ _ _ _ h2
  have := count_le h1
  simp at *; omega
theorem dset_lt {c : Dc} {w0 w : World} {K : List Int} {s : Dst} (h : DS c w0 w K s) {k : Nat} (hk : DSet c k) : k < w0.heap.size := by
  obtain ⟨c1, t1⟩ := h.fx.tT
  obtain ⟨c2, t2⟩ := h.fx.tR
  obtain ⟨c3, t3⟩ := h.fx.tH1
  obtain ⟨c4, t4⟩ := h.fx.tH2
  have l1 := lt_of_block t1
  have l2 := lt_of_block t2
  have l3 := lt_of_block t3
  have l4 := lt_of_block t4
  rcases hk with e | e | e | e <;> omega

set_option maxHeartbeats 8000000 in
theorem dSpan (c : Dc) (w0 w : World) (K : List Int) (s : Dst) (h : DS c w0 w K s) (y0 : 0 ≤ s.start) (y1 : s.start ≤ 4611686018427387904) :
    Calls Tryz.prog 69 #[.pointer (some ⟨c.T, 0, none⟩)] w fun e w' => PostS c w0 K w (spanD K s) e w' := by
  obtain ⟨RR, hRR⟩ : ∃ r, spanD K s = r := ⟨_, rfl⟩
  rw [hRR]
  have HR0 : Hid (spanD K s = RR) := hRR
  unfold spanD at HR0
  clear hRR
  have hz := h.upd.size
  have nE : ¬ DSet c (w.heap.size + 1) := fun e => by have := dset_lt h e; omega
  have nF : ¬ DSet c w.heap.size := fun e => by have := dset_lt h e; omega
  have ba := ((Below.refl w.heap.size w).alloc (Nat.le_refl _) (.cells #[.int .u64 0, .int .u64 0, .int .u64 0, .int .u64 0, .slice none 0 0, .string ⟨#[]⟩, .string ⟨#[]⟩, .int .i64 0, .int .i64 0, .int .i64 0, .int .i64 0, .slice none 0 0, .slice none 0 0] 41)).alloc (by simp) (.cells #[.int .u64 0, .int .u64 0, .int .u64 0, .int .u64 0, .slice none 0 0, .string ⟨#[]⟩, .string ⟨#[]⟩, .int .i64 0, .int .i64 0, .int .i64 0, .int .i64 0, .slice none 0 0, .slice none 0 0] 41)
  have q0b := h.below ba
  have u0b : Upd (DSet c) w ((w.alloc (.cells #[.int .u64 0, .int .u64 0, .int .u64 0, .int .u64 0, .slice none 0 0, .string ⟨#[]⟩, .string ⟨#[]⟩, .int .i64 0, .int .i64 0, .int .i64 0, .int .i64 0, .slice none 0 0, .slice none 0 0] 41)).alloc (.cells #[.int .u64 0, .int .u64 0, .int .u64 0, .int .u64 0, .slice none 0 0, .string ⟨#[]⟩, .string ⟨#[]⟩, .int .i64 0, .int .i64 0, .int .i64 0, .int .i64 0, .slice none 0 0, .slice none 0 0] 41)) := Upd.ofBelow ba (fun k hk hk' => by omega)
  have r0b : ((w.alloc (.cells #[.int .u64 0, .int .u64 0, .int .u64 0, .int .u64 0, .slice none 0 0, .string ⟨#[]⟩, .string ⟨#[]⟩, .int .i64 0, .int .i64 0, .int .i64 0, .int .i64 0, .slice none 0 0, .slice none 0 0] 41)).alloc (.cells #[.int .u64 0, .int .u64 0, .int .u64 0, .int .u64 0, .slice none 0 0, .string ⟨#[]⟩, .string ⟨#[]⟩, .int .i64 0, .int .i64 0, .int .i64 0, .int .i64 0, .slice none 0 0, .slice none 0 0] 41)).heap[w.heap.size]? = some (.cells #[.int .u64 0, .int .u64 0, .int .u64 0, .int .u64 0, .slice none 0 0, .string ⟨#[]⟩, .string ⟨#[]⟩, .int .i64 0, .int .i64 0, .int .i64 0, .int .i64 0, .slice none 0 0, .slice none 0 0] 41) := (Below.heap_alloc _ _ _ (by simp)).trans (heap_alloc_new _ _)
  have h0b : ((w.alloc (.cells #[.int .u64 0, .int .u64 0, .int .u64 0, .int .u64 0, .slice none 0 0, .string ⟨#[]⟩, .string ⟨#[]⟩, .int .i64 0, .int .i64 0, .int .i64 0, .int .i64 0, .slice none 0 0, .slice none 0 0] 41)).alloc (.cells #[.int .u64 0, .int .u64 0, .int .u64 0, .int .u64 0, .slice none 0 0, .string ⟨#[]⟩, .string ⟨#[]⟩, .int .i64 0, .int .i64 0, .int .i64 0, .int .i64 0, .slice none 0 0, .slice none 0 0] 41)).heap[w.heap.size + 1]? = some (.cells #[.int .u64 0, .int .u64 0, .int .u64 0, .int .u64 0, .slice none 0 0, .string ⟨#[]⟩, .string ⟨#[]⟩, .int .i64 0, .int .i64 0, .int .i64 0, .int .i64 0, .slice none 0 0, .slice none 0 0] 41) := alloc_at (by simp)
  have hle : w.heap.size ≤ w.heap.size + 1 := by omega
  have hE : ∀ j, j = w.heap.size + 1 → w0.heap.size ≤ j := fun j e => by omega
  have c1 := blk_cell q0b.tb 2 rfl
  have hK := h.inv.byts
  clear h ba
  go_enter Tryz.func69, Tryz.ntmps69
  go_wp2_with (first
    | (go_at_call 85; refine (dNextR c w0 _ K s q0b).mono ?_; rintro e w1 hp; rcases hr : nextR K s with ⟨a1, no1⟩ | ⟨⟨xh, xl⟩, s1⟩; (focus (rw [hr] at hp; obtain ⟨⟨qq, pp, rfl, GG⟩, uu⟩ := hp; have hRR := hid_er HR0 hr; go_wp2; all_goals (exact ⟨rfl, by rw [hRR]; exact ⟨⟨qq, pp, rfl, GG⟩, u0b.trans uu (fun _ _ h => h)⟩⟩))); rw [hr] at hp; have HR1 := hid_bind HR0 hr; have st1 := start_nextR hr; clear hr; obtain ⟨he, k1, hu1⟩ := hp; obtain rfl : e = .returned (.agg #[.int .u64 xh, .int .u64 xl]) := he; have h1a := (hu1.block (w.heap.size + 1) (lt_of_block h0b) nE).trans h0b; have r1a := (hu1.block w.heap.size (lt_of_block r0b) nF).trans r0b; have u1a := u0b.trans hu1 (fun _ _ h => h); have d0 := blk_cell h1a 0 rfl; have f0 := blk_free h1a 0; have d1 := blk_cell h1a 1 rfl; have f1 := blk_free h1a 1; have h1m := set_block h1a 0 (.int .u64 xh); rw [a13_0] at h1m; have u1m := upd_far (i := 0) (v := .int .u64 xh) u1a hle; have r1m := (Below.heap_setCell (w1) ⟨w.heap.size + 1, 0, none⟩ (.int .u64 xh) w.heap.size (by simp)).trans r1a; have q1m := k1.step (upd_one (w1) (w.heap.size + 1) 0 (.int .u64 xh)) hE; have h1b := set_block h1m 1 (.int .u64 xl); rw [a13_1] at h1b; have u1b := upd_far (i := 1) (v := .int .u64 xl) u1m hle; have r1b := (Below.heap_setCell ((w1).setCell ⟨w.heap.size + 1, 0, none⟩ (.int .u64 xh)) ⟨w.heap.size + 1, 1, none⟩ (.int .u64 xl) w.heap.size (by simp)).trans r1m; have q1b := q1m.step (upd_one ((w1).setCell ⟨w.heap.size + 1, 0, none⟩ (.int .u64 xh)) (w.heap.size + 1) 1 (.int .u64 xl)) hE; clear h1a r1a u1a k1 hu1 h0b r0b u0b q0b HR0 h1m r1m u1m q1m)
    | (go_at_call 35; refine (dRaw8 q1b).mono ?_; rintro e w2 hp; rcases hr : raw8D K s1 with ⟨a2, no2⟩ | ⟨x2, s2⟩; (focus (rw [hr] at hp; obtain ⟨⟨qq, pp, rfl, GG⟩, uu⟩ := hp; have hRR := hid_er HR1 hr; go_wp2; all_goals (exact ⟨rfl, by rw [hRR]; exact ⟨⟨qq, pp, rfl, GG⟩, u1b.trans uu (fun _ _ h => h)⟩⟩))); rw [hr] at hp; have HR2 := hid_bind HR1 hr; have st2 := start_raw8 hr; rw [st1] at st2; clear st1; clear hr; obtain ⟨rfl, k2, hu2⟩ := hp; have h2a := (hu2.block (w.heap.size + 1) (lt_of_block h1b) nE).trans h1b; have r2a := (hu2.block w.heap.size (lt_of_block r1b) nF).trans r1b; have u2a := u1b.trans hu2 (fun _ _ h => h); have d2 := blk_cell h2a 2 rfl; have f2 := blk_free h2a 2; have h2b := set_block h2a 2 (.int .u64 x2); rw [a13_2] at h2b; have u2b := upd_far (i := 2) (v := .int .u64 x2) u2a hle; have r2b := (Below.heap_setCell (w2) ⟨w.heap.size + 1, 2, none⟩ (.int .u64 x2) w.heap.size (by simp)).trans r2a; have q2b := k2.step (upd_one (w2) (w.heap.size + 1) 2 (.int .u64 x2)) hE; clear h2a r2a u2a k2 hu2 h1b r1b u1b q1b HR1)
    | (go_at_call 35; refine (dRaw8 q2b).mono ?_; rintro e w3 hp; rcases hr : raw8D K s2 with ⟨a3, no3⟩ | ⟨x3, s3⟩; (focus (rw [hr] at hp; obtain ⟨⟨qq, pp, rfl, GG⟩, uu⟩ := hp; have hRR := hid_er HR2 hr; go_wp2; all_goals (exact ⟨rfl, by rw [hRR]; exact ⟨⟨qq, pp, rfl, GG⟩, u2b.trans uu (fun _ _ h => h)⟩⟩))); rw [hr] at hp; have HR3 := hid_bind HR2 hr; have st3 := start_raw8 hr; rw [st2] at st3; clear st2; clear hr; obtain ⟨rfl, k3, hu3⟩ := hp; have h3a := (hu3.block (w.heap.size + 1) (lt_of_block h2b) nE).trans h2b; have r3a := (hu3.block w.heap.size (lt_of_block r2b) nF).trans r2b; have u3a := u2b.trans hu3 (fun _ _ h => h); have d3 := blk_cell h3a 3 rfl; have f3 := blk_free h3a 3; have h3b := set_block h3a 3 (.int .u64 x3); rw [a13_3] at h3b; have u3b := upd_far (i := 3) (v := .int .u64 x3) u3a hle; have r3b := (Below.heap_setCell (w3) ⟨w.heap.size + 1, 3, none⟩ (.int .u64 x3) w.heap.size (by simp)).trans r3a; have q3b := k3.step (upd_one (w3) (w.heap.size + 1) 3 (.int .u64 x3)) hE; clear h3a r3a u3a k3 hu3 h2b r2b u2b q2b HR2; have cc3 := blk_cell q3b.tb 1 rfl)
    | (go_at_call 86; refine (dNextS c w0 _ K s3 q3b).mono ?_; rintro e w4 hp; rcases hr : nextT K s3 with ⟨a4, no4⟩ | ⟨x4, s4⟩; (focus (rw [hr] at hp; obtain ⟨⟨qq, pp, rfl, GG⟩, uu⟩ := hp; have hRR := hid_er HR3 hr; go_wp2; all_goals (exact ⟨rfl, by rw [hRR]; exact ⟨⟨qq, pp, rfl, GG⟩, u3b.trans uu (fun _ _ h => h)⟩⟩))); rw [hr] at hp; have HR4 := hid_bind HR3 hr; have st4 := start_nextT hr; rw [st3] at st4; clear st3; clear hr; obtain ⟨rfl, k4, hu4⟩ := hp; have h4a := (hu4.block (w.heap.size + 1) (lt_of_block h3b) nE).trans h3b; have r4a := (hu4.block w.heap.size (lt_of_block r3b) nF).trans r3b; have u4a := u3b.trans hu4 (fun _ _ h => h); have d5 := blk_cell h4a 5 rfl; have f5 := blk_free h4a 5; have h4b := set_block h4a 5 (.string x4); rw [a13_5] at h4b; have u4b := upd_far (i := 5) (v := .string x4) u4a hle; have r4b := (Below.heap_setCell (w4) ⟨w.heap.size + 1, 5, none⟩ (.string x4) w.heap.size (by simp)).trans r4a; have q4b := k4.step (upd_one (w4) (w.heap.size + 1) 5 (.string x4)) hE; clear h4a r4a u4a k4 hu4 h3b r3b u3b q3b HR3; have cc4 := blk_cell q4b.tb 1 rfl)
    | (go_at_call 86; refine (dNextS c w0 _ K s4 q4b).mono ?_; rintro e w5 hp; rcases hr : nextT K s4 with ⟨a5, no5⟩ | ⟨x5, s5⟩; (focus (rw [hr] at hp; obtain ⟨⟨qq, pp, rfl, GG⟩, uu⟩ := hp; have hRR := hid_er HR4 hr; go_wp2; all_goals (exact ⟨rfl, by rw [hRR]; exact ⟨⟨qq, pp, rfl, GG⟩, u4b.trans uu (fun _ _ h => h)⟩⟩))); rw [hr] at hp; have HR5 := hid_bind HR4 hr; have st5 := start_nextT hr; rw [st4] at st5; clear st4; clear hr; obtain ⟨rfl, k5, hu5⟩ := hp; have h5a := (hu5.block (w.heap.size + 1) (lt_of_block h4b) nE).trans h4b; have r5a := (hu5.block w.heap.size (lt_of_block r4b) nF).trans r4b; have u5a := u4b.trans hu5 (fun _ _ h => h); have d6 := blk_cell h5a 6 rfl; have f6 := blk_free h5a 6; have h5b := set_block h5a 6 (.string x5); rw [a13_6] at h5b; have u5b := upd_far (i := 6) (v := .string x5) u5a hle; have r5b := (Below.heap_setCell (w5) ⟨w.heap.size + 1, 6, none⟩ (.string x5) w.heap.size (by simp)).trans r5a; have q5b := k5.step (upd_one (w5) (w.heap.size + 1) 6 (.string x5)) hE; clear h5a r5a u5a k5 hu5 h4b r4b u4b q4b HR4)
    | (go_at_call 87; refine (dSmall q5b).mono ?_; rintro e w6 hp; rcases hr : smallD K s5 with ⟨a6, no6⟩ | ⟨x6, s6⟩; (focus (rw [hr] at hp; obtain ⟨⟨qq, pp, rfl, GG⟩, uu⟩ := hp; have hRR := hid_er HR5 hr; go_wp2; all_goals (exact ⟨rfl, by rw [hRR]; exact ⟨⟨qq, pp, rfl, GG⟩, u5b.trans uu (fun _ _ h => h)⟩⟩))); rw [hr] at hp; have HR6 := hid_bind HR5 hr; have st6 := start_small hr; rw [st5] at st6; clear st5; have y2 : 0 ≤ s6.start := (by rw [st6]; exact y0); have y3 : s6.start ≤ 4611686018427387904 := (by rw [st6]; exact y1); have hb6 := (reads_small K s5 x6 s6 hK q5b.inv.b2 hr).2.2.2; unfold u8R at hb6; obtain ⟨b0, b1⟩ := hb6; clear st6 y0 y1; have hk1 : Int.tmod x6 8 = x6 % 8 := (by rw [Int.tmod_eq_emod_of_nonneg b0]); have hk2 : Int.tdiv x6 8 = x6 / 8 := (by rw [Int.tdiv_eq_ediv_of_nonneg b0]); have g0 : 0 ≤ x6 % 8 := (by omega); have g1 : x6 % 8 < 8 := (by omega); have g2 : 0 ≤ x6 / 8 := (by omega); have g3 : x6 / 8 < 32 := (by omega); clear hr; obtain ⟨rfl, k6, hu6⟩ := hp; have h6a := (hu6.block (w.heap.size + 1) (lt_of_block h5b) nE).trans h5b; have r6a := (hu6.block w.heap.size (lt_of_block r5b) nF).trans r5b; have u6a := u5b.trans hu6 (fun _ _ h => h); have d7 := blk_cell h6a 7 rfl; have f7 := blk_free h6a 7; have d8 := blk_cell h6a 8 rfl; have f8 := blk_free h6a 8; have h6m := set_block h6a 7 (.int .i64 (x6 % 8)); rw [a13_7] at h6m; have u6m := upd_far (i := 7) (v := .int .i64 (x6 % 8)) u6a hle; have r6m := (Below.heap_setCell (w6) ⟨w.heap.size + 1, 7, none⟩ (.int .i64 (x6 % 8)) w.heap.size (by simp)).trans r6a; have q6m := k6.step (upd_one (w6) (w.heap.size + 1) 7 (.int .i64 (x6 % 8))) hE; have h6b := set_block h6m 8 (.int .i64 (x6 / 8)); rw [a13_8] at h6b; have u6b := upd_far (i := 8) (v := .int .i64 (x6 / 8)) u6m hle; have r6b := (Below.heap_setCell ((w6).setCell ⟨w.heap.size + 1, 7, none⟩ (.int .i64 (x6 % 8))) ⟨w.heap.size + 1, 8, none⟩ (.int .i64 (x6 / 8)) w.heap.size (by simp)).trans r6m; have q6b := q6m.step (upd_one ((w6).setCell ⟨w.heap.size + 1, 7, none⟩ (.int .i64 (x6 % 8))) (w.heap.size + 1) 8 (.int .i64 (x6 / 8))) hE; clear h6a r6a u6a k6 hu6 h5b r5b u5b q5b HR5 h6m r6m u6m q6m)
    | (go_at_call 88; refine (dSince c w0 _ K s6 q6b y2 y3).mono ?_; rintro e w7 hp; rcases hr : sinceD K s6 with ⟨a7, no7⟩ | ⟨x7, s7⟩; (focus (rw [hr] at hp; obtain ⟨⟨qq, pp, rfl, GG⟩, uu⟩ := hp; have hRR := hid_er HR6 hr; go_wp2; all_goals (exact ⟨rfl, by rw [hRR]; exact ⟨⟨qq, pp, rfl, GG⟩, u6b.trans uu (fun _ _ h => h)⟩⟩))); rw [hr] at hp; have HR7 := hid_bind HR6 hr; obtain ⟨y4, y5⟩ := since_rng hK y2 hr; clear hr; obtain ⟨rfl, k7, hu7⟩ := hp; have h7a := (hu7.block (w.heap.size + 1) (lt_of_block h6b) nE).trans h6b; have r7a := (hu7.block w.heap.size (lt_of_block r6b) nF).trans r6b; have u7a := u6b.trans hu7 (fun _ _ h => h); have d9 := blk_cell h7a 9 rfl; have f9 := blk_free h7a 9; have h7b := set_block h7a 9 (.int .i64 x7); rw [a13_9] at h7b; have u7b := upd_far (i := 9) (v := .int .i64 x7) u7a hle; have r7b := (Below.heap_setCell (w7) ⟨w.heap.size + 1, 9, none⟩ (.int .i64 x7) w.heap.size (by simp)).trans r7a; have q7b := k7.step (upd_one (w7) (w.heap.size + 1) 9 (.int .i64 x7)) hE; clear h7a r7a u7a k7 hu7 h6b r6b u6b q6b HR6; have ld9 := blk_cell h7b 9 rfl)
    | (go_at_call 89; refine (dLaterA q7b x7 y4 y5).mono ?_; rintro e w8 hp; rcases hr : (laterD x7) K s7 with ⟨a8, no8⟩ | ⟨x8, s8⟩; (focus (rw [hr] at hp; obtain ⟨⟨qq, pp, rfl, GG⟩, uu⟩ := hp; have hRR := hid_er HR7 hr; go_wp2; all_goals (exact ⟨rfl, by rw [hRR]; exact ⟨⟨qq, pp, rfl, GG⟩, u7b.trans uu (fun _ _ h => h)⟩⟩))); rw [hr] at hp; have HR8 := hid_bind HR7 hr; clear hr; obtain ⟨rfl, k8, hu8⟩ := hp; have h8a := (hu8.block (w.heap.size + 1) (lt_of_block h7b) nE).trans h7b; have r8a := (hu8.block w.heap.size (lt_of_block r7b) nF).trans r7b; have u8a := u7b.trans hu8 (fun _ _ h => h); have d10 := blk_cell h8a 10 rfl; have f10 := blk_free h8a 10; have h8b := set_block h8a 10 (.int .i64 x8); rw [a13_10] at h8b; have u8b := upd_far (i := 10) (v := .int .i64 x8) u8a hle; have r8b := (Below.heap_setCell (w8) ⟨w.heap.size + 1, 10, none⟩ (.int .i64 x8) w.heap.size (by simp)).trans r8a; have q8b := k8.step (upd_one (w8) (w.heap.size + 1) 10 (.int .i64 x8)) hE; clear h8a r8a u8a k8 hu8 h7b r7b u7b q7b HR7)
    | (go_at_call 90; refine (dLinks c w0 _ K s8 q8b).mono ?_; rintro e w9 hp; rcases hr : linksD K s8 with ⟨a9, no9⟩ | ⟨x9, s9⟩; (focus (rw [hr] at hp; obtain ⟨⟨qq, pp, rfl, GG⟩, uu⟩ := hp; have hRR := hid_er HR8 hr; go_wp2; all_goals (exact ⟨rfl, by rw [hRR]; exact ⟨⟨qq, pp, rfl, GG⟩, u8b.trans uu (fun _ _ h => h)⟩⟩))); rw [hr] at hp; have HR9 := hid_bind HR8 hr; have len9 := list_len hr; clear hr; obtain ⟨vv, rfl, o9, k9, hu9⟩ := hp; obtain ⟨la, ll9, lc, rfl⟩ := row_shape o9; have el9 := own_len o9; subst el9; have bz := u8b.size; replace o9 := own_base o9 bz; clear bz; have h9a := (hu9.block (w.heap.size + 1) (lt_of_block h8b) nE).trans h8b; have r9a := (hu9.block w.heap.size (lt_of_block r8b) nF).trans r8b; have u9a := u8b.trans hu9 (fun _ _ h => h); have d4 := blk_cell h9a 4 rfl; have f4 := blk_free h9a 4; have h9b := set_block h9a 4 (.slice la x9.length lc); rw [a13_4] at h9b; have u9b := upd_far (i := 4) (v := .slice la x9.length lc) u9a hle; have r9b := (Below.heap_setCell (w9) ⟨w.heap.size + 1, 4, none⟩ (.slice la x9.length lc) w.heap.size (by simp)).trans r9a; have q9b := k9.step (upd_one (w9) (w.heap.size + 1) 4 (.slice la x9.length lc)) hE; have nn := own_neW o9 h9a (by decide); replace o9 := ownsRow_setCell_other (a := ⟨w.heap.size + 1, 4, none⟩) o9 nn (.slice la x9.length lc); clear nn; clear h9a r9a u9a k9 hu9 h8b r8b u8b q8b HR8)
    | (go_at_call 91; refine (dAttrs c w0 _ K s9 q9b).mono ?_; rintro e w10 hp; rcases hr : attrsD K s9 with ⟨a10, no10⟩ | ⟨x10, s10⟩; (focus (rw [hr] at hp; obtain ⟨⟨qq, pp, rfl, GG⟩, uu⟩ := hp; have hRR := hid_er HR9 hr; go_wp2; all_goals (exact ⟨rfl, by rw [hRR]; exact ⟨⟨qq, pp, rfl, GG⟩, u9b.trans uu (fun _ _ h => h)⟩⟩))); rw [hr] at hp; have HR10 := hid_bind HR9 hr; have len10 := list_len hr; clear hr; obtain ⟨vv, rfl, o10, k10, hu10⟩ := hp; obtain ⟨aa, ll10, ac, rfl⟩ := row_shape o10; have el10 := own_len o10; subst el10; have bz := u9b.size; replace o10 := own_base o10 bz; clear bz; have h10a := (hu10.block (w.heap.size + 1) (lt_of_block h9b) nE).trans h9b; have r10a := (hu10.block w.heap.size (lt_of_block r9b) nF).trans r9b; have u10a := u9b.trans hu10 (fun _ _ h => h); replace o9 := own_dset q9b o9 hz hu10; have d11 := blk_cell h10a 11 rfl; have f11 := blk_free h10a 11; have h10b := set_block h10a 11 (.slice aa x10.length ac); rw [a13_11] at h10b; have u10b := upd_far (i := 11) (v := .slice aa x10.length ac) u10a hle; have r10b := (Below.heap_setCell (w10) ⟨w.heap.size + 1, 11, none⟩ (.slice aa x10.length ac) w.heap.size (by simp)).trans r10a; have q10b := k10.step (upd_one (w10) (w.heap.size + 1) 11 (.slice aa x10.length ac)) hE; have nn := own_neW o9 h10a (by decide); replace o9 := ownsRow_setCell_other (a := ⟨w.heap.size + 1, 11, none⟩) o9 nn (.slice aa x10.length ac); clear nn; have nn := own_neW o10 h10a (by decide); replace o10 := ownsRow_setCell_other (a := ⟨w.heap.size + 1, 11, none⟩) o10 nn (.slice aa x10.length ac); clear nn; clear h10a r10a u10a k10 hu10 h9b r9b u9b q9b HR9)
    | (go_at_call 92; refine (dEvents c w0 _ K s10 q10b).mono ?_; rintro e w11 hp; rcases hr : eventsD K s10 with ⟨a11, no11⟩ | ⟨x11, s11⟩; (focus (rw [hr] at hp; obtain ⟨⟨qq, pp, rfl, GG⟩, uu⟩ := hp; have hRR := hid_er HR10 hr; go_wp2; all_goals (exact ⟨rfl, by rw [hRR]; exact ⟨⟨qq, pp, rfl, GG⟩, u10b.trans uu (fun _ _ h => h)⟩⟩))); rw [hr] at hp; have HR11 := hid_bind HR10 hr; have len11 := list_len hr; clear hr; obtain ⟨vv, rfl, o11, k11, hu11⟩ := hp; obtain ⟨ea, ll11, ec, rfl⟩ := row_shape o11; have el11 := own_len o11; subst el11; have bz := u10b.size; replace o11 := own_base o11 bz; clear bz; have h11a := (hu11.block (w.heap.size + 1) (lt_of_block h10b) nE).trans h10b; have r11a := (hu11.block w.heap.size (lt_of_block r10b) nF).trans r10b; have u11a := u10b.trans hu11 (fun _ _ h => h); replace o9 := own_dset q10b o9 hz hu11; replace o10 := own_dset q10b o10 hz hu11; have d12 := blk_cell h11a 12 rfl; have f12 := blk_free h11a 12; have h11b := set_block h11a 12 (.slice ea x11.length ec); rw [a13_12] at h11b; have u11b := upd_far (i := 12) (v := .slice ea x11.length ec) u11a hle; have r11b := (Below.heap_setCell (w11) ⟨w.heap.size + 1, 12, none⟩ (.slice ea x11.length ec) w.heap.size (by simp)).trans r11a; have q11b := k11.step (upd_one (w11) (w.heap.size + 1) 12 (.slice ea x11.length ec)) hE; have nn := own_neW o9 h11a (by decide); replace o9 := ownsRow_setCell_other (a := ⟨w.heap.size + 1, 12, none⟩) o9 nn (.slice ea x11.length ec); clear nn; have nn := own_neW o10 h11a (by decide); replace o10 := ownsRow_setCell_other (a := ⟨w.heap.size + 1, 12, none⟩) o10 nn (.slice ea x11.length ec); clear nn; have nn := own_neW o11 h11a (by decide); replace o11 := ownsRow_setCell_other (a := ⟨w.heap.size + 1, 12, none⟩) o11 nn (.slice ea x11.length ec); clear nn; clear h11a r11a u11a k11 hu11 h10b r10b u10b q10b HR10; have e0 := blk_cell r11b 0 rfl; have ff0 := blk_free r11b 0; have ll0 := blk_cell h11b 0 rfl; have e1 := blk_cell r11b 1 rfl; have ff1 := blk_free r11b 1; have ll1 := blk_cell h11b 1 rfl; have e2 := blk_cell r11b 2 rfl; have ff2 := blk_free r11b 2; have ll2 := blk_cell h11b 2 rfl; have e3 := blk_cell r11b 3 rfl; have ff3 := blk_free r11b 3; have ll3 := blk_cell h11b 3 rfl; have e4 := blk_cell r11b 4 rfl; have ff4 := blk_free r11b 4; have ll4 := blk_cell h11b 4 rfl; have e5 := blk_cell r11b 5 rfl; have ff5 := blk_free r11b 5; have ll5 := blk_cell h11b 5 rfl; have e6 := blk_cell r11b 6 rfl; have ff6 := blk_free r11b 6; have ll6 := blk_cell h11b 6 rfl; have e7 := blk_cell r11b 7 rfl; have ff7 := blk_free r11b 7; have ll7 := blk_cell h11b 7 rfl; have e8 := blk_cell r11b 8 rfl; have ff8 := blk_free r11b 8; have ll8 := blk_cell h11b 8 rfl; have e9 := blk_cell r11b 9 rfl; have ff9 := blk_free r11b 9; have ll9 := blk_cell h11b 9 rfl; have e10 := blk_cell r11b 10 rfl; have ff10 := blk_free r11b 10; have ll10 := blk_cell h11b 10 rfl; have e11 := blk_cell r11b 11 rfl; have ff11 := blk_free r11b 11; have ll11 := blk_cell h11b 11 rfl; have e12 := blk_cell r11b 12 rfl; have ff12 := blk_free r11b 12; have ll12 := blk_cell h11b 12 rfl))
  (try simp only [Exit.inBlock, Exit.then])
  obtain ⟨W, hW⟩ : ∃ W, w11.setCell ⟨w.heap.size + 1, 12, none⟩ (.slice ea x11.length ec) = W := ⟨_, rfl⟩
  rw [hW] at h11b r11b u11b q11b o9 o10 o11 ⊢
  clear hW
  rw [set13_eq W w.heap.size 41 _ _ _ _ _ _ _ _ _ _ _ _ _ _ _ _ _ _ _ _ _ _ _ _ _ _ r11b]
  have hrow := setRow_heap W w.heap.size _ #[.int .u64 xh, .int .u64 xl, .int .u64 x2, .int .u64 x3, .slice la x9.length lc, .string x4, .string x5, .int .i64 (x6 % 8), .int .i64 (x6 / 8), .int .i64 x7, .int .i64 x8, .slice aa x10.length ac, .slice ea x11.length ec] 41 (0, 0) r11b
  have hld := run_loadVar_row (P := Tryz.prog) (W.setRow w.heap.size #[.int .u64 xh, .int .u64 xl, .int .u64 x2, .int .u64 x3, .slice la x9.length lc, .string x4, .string x5, .int .i64 (x6 % 8), .int .i64 (x6 / 8), .int .i64 x7, .int .i64 x8, .slice aa x10.length ac, .slice ea x11.length ec]) w.heap.size 41 41 #[.int .u64 xh, .int .u64 xl, .int .u64 x2, .int .u64 x3, .slice la x9.length lc, .string x4, .string x5, .int .i64 (x6 % 8), .int .i64 (x6 / 8), .int .i64 x7, .int .i64 x8, .slice aa x10.length ac, .slice ea x11.length ec] (0, 0) _ hrow Tryz.underlying41 rfl Tryz.info41
  have ur := upd_row W w.heap.size #[.int .u64 xh, .int .u64 xl, .int .u64 x2, .int .u64 x3, .slice la x9.length lc, .string x4, .string x5, .int .i64 (x6 % 8), .int .i64 (x6 / 8), .int .i64 x7, .int .i64 x8, .slice aa x10.length ac, .slice ea x11.length ec]
  have qf := q11b.step ur (fun j e => by omega)
  have uf := u11b.trans ur (fun k hk e => by omega)
  have n4 := own_neW o9 r11b (by decide)
  have n11 := own_neW o10 r11b (by decide)
  have n12 := own_neW o11 r11b (by decide)
  have k4 := ownsRow_upd o9 ur (fun k hk e => n4 (by rw [hk, e]))
  have k11 := ownsRow_upd o10 ur (fun k hk e => n11 (by rw [hk, e]))
  have k12 := ownsRow_upd o11 ur (fun k hk e => n12 (by rw [hk, e]))
  refine bodyPost_ret (v := .agg #[.int .u64 xh, .int .u64 xl, .int .u64 x2, .int .u64 x3, .slice la x9.length lc, .string x4, .string x5, .int .i64 (x6 % 8), .int .i64 (x6 / 8), .int .i64 x7, .int .i64 x8, .slice aa x10.length ac, .slice ea x11.length ec]) ?_ rfl (by rw [← HR11.out]; exact ⟨⟨la, lc, aa, ac, ea, ec⟩, rfl, ⟨k4, k11, k12, len9, len10, len11⟩, qf, uf⟩)
  rw [results_cell1 rfl]
  simp [asAddr, Result.andThen, hld]
end Go.Proofs.YthcghpbkadlliabGreatDoor
