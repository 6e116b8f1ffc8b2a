/-
  Layer 7 (disk): file.settle, sync, restart.
-/
import Derived.Test.YtgoafinbaiepmaaGreatDoorDc
namespace Go.Proofs.YtgoafinbaiepmaaGreatDoor
open Go.RowKit Go.Shelf
set_option maxRecDepth 100000

/-- Midway in settle. -/
structure Stl (base : Nat) (w : World) (f : Nat) (F : Fl) (u : Nat) (wr : World) (k uk : Nat) (lv : Value) (Lk : List Int) : Prop where
  blk : wr.heap[f]? = some (.cells #[F.bv, lv, F.sv] 174 (0, 0))
  own : OwnB base wr lv Lk
  upd : Upd (fun k => k = f ∨ F.lv.ownBlock = some k) w wr
  mov : Moved w F.lv lv
  fin : firstOn F.L F.S u = firstOn Lk (F.S.drop k) uk
  leg : uk = 0 ∨ Legal Lk (F.S.drop k)
  len : Lk.length + unitsL (F.S.drop k) ≤ 140737488355328
theorem on_len (s : St) (L : List Int) (u : Nat) : (s.on L u).length ≤ L.length + s.units := by
  unfold St.on St.units
  by_cases hu : u = 0
  · rw [if_pos hu]; omega
  · rw [if_neg hu]
    cases hc : s.cut with
    | true => simp; omega
    | false => simp; omega
theorem Stl.below {base : Nat} {w : World} {f : Nat} {F : Fl} {u : Nat} {wr w' : World} {k uk : Nat} {lv : Value} {Lk : List Int} (h : Stl base w f F u wr k uk lv Lk) (hb : Below wr.heap.size wr w') : Stl base w f F u w' k uk lv Lk :=
  ⟨(hb.block f (lt_of_block h.blk)).trans h.blk, h.own.below hb, h.upd.trans (S' := fun _ => False) (Upd.ofBelow hb (fun k hk hk' => by omega)) (fun _ _ h => h.elim), h.mov, h.fin, h.leg, h.len⟩
theorem Stl.next {base : Nat} {w : World} {f : Nat} {F : Fl} {u : Nat} {wr w2 : World} {k uk : Nat} {lv v' : Value} {Lk : List Int} (h0 : FileAt base w f F) (h : Stl base w f F u wr k uk lv Lk) (hk : k < F.S.length) (o2 : OwnB base w2 v' (F.S[k].on Lk uk)) (u2 : Upd (fun k => lv.ownBlock = some k) wr w2) (m2 : Moved wr lv v') :
    Stl base w f F u (w2.setCell ⟨f, 1, none⟩ v') (k + 1) (uk - min uk F.S[k].units) v' (F.S[k].on Lk uk) ∧ w2.heap[f]? = some (.cells #[F.bv, lv, F.sv] 174 (0, 0)) := by
  have nf : lv.ownBlock ≠ some f := own_not h.own h.blk (fun cs h => by simp at h)
  have k2 : w2.heap[f]? = some (.cells #[F.bv, lv, F.sv] 174 (0, 0)) := (u2.block f (lt_of_block h.blk) nf).trans h.blk
  have hm : Moved w F.lv v' := h.mov.trans h.upd.size m2
  have nf' : v'.ownBlock ≠ some f := fun e => by
    rcases hm.old e with h1 | h1
    · exact own_not h0.lown h0.block (fun cs h => by simp at h) h1
    · have := lt_of_block h0.block; omega
  refine ⟨⟨set3_1 v' k2, o2.upd ((Upd.refl (fun k => k = f) w2).setCell (p := ⟨f, 1, none⟩) (fun _ => rfl) v') (fun k e hh => by subst hh; exact nf' e), ?_, hm, ?_, ?_, ?_⟩, k2⟩
  · refine (h.upd.trans (S' := fun k => lv.ownBlock = some k) u2 (fun i hi e => ?_)).setCell (p := ⟨f, 1, none⟩) (fun _ => Or.inl rfl) v'
    rcases h.mov.old e with h1 | h1
    · exact Or.inr h1
    · omega
  · rw [h.fin, drop_cons hk]; rfl
  · rcases h.leg with h1 | h1
    · exact Or.inl (by omega)
    · rw [drop_cons hk] at h1
      by_cases hu : F.S[k].units ≤ uk
      · by_cases hz : uk = 0
        · exact Or.inl (by omega)
        · right
          have hp : 0 < F.S[k].units := by
            unfold St.units
            cases hc : F.S[k].cut with
            | true => simp
            | false => simp; exact (h1.2.1 hc).2
          have e : F.S[k].on Lk uk = F.S[k].on Lk F.S[k].units := by
            unfold St.on
            rw [if_neg hz, if_neg (by omega : ¬ F.S[k].units = 0)]
            cases hc : F.S[k].cut with
            | true => simp
            | false =>
              simp only [Bool.false_eq_true, if_false]
              have e1 : F.S[k].units = F.S[k].n := by simp [St.units, hc]
              rw [e1] at hu ⊢
              rw [Nat.min_eq_right hu, Nat.min_self]
          rw [e]
          exact h1.2.2
      · exact Or.inl (by omega)
  · have := h.len
    rw [units_drop hk] at this
    have := on_len F.S[k] Lk uk
    omega

theorem legal_at : ∀ (S : List St) (L : List Int), Legal L S → ∀ s ∈ S, s.cut = false → s.K.length = s.n ∧ 0 < s.n
  | [], _, _, s, hs, _ => by simp at hs
  | x :: r, L, h, s, hs, hc => by
    rcases List.mem_cons.1 hs with rfl | hs
    · exact h.2.1 hc
    · exact legal_at r _ h.2.2 s hs hc
set_option maxHeartbeats 4000000 in
theorem settle_any (base : Nat) (f : Nat) (F : Fl) (u : Nat) (w : World) (h : FileAt base w f F) (hb : base ≤ w.heap.size) (hu : u ≤ 9223372036854775807) (hbig : F.L.length + unitsL F.S ≤ 140737488355328) :
    Calls Tryz.prog 170 #[.pointer (some ⟨f, 0, none⟩), .int .i64 u] w fun e w' => e = .returned (.tuple #[]) ∧ ∃ lv, w'.heap[f]? = some (.cells #[F.bv, lv, .slice none 0 0] 174 (0, 0)) ∧ OwnB base w' lv (firstOn F.L F.S u) ∧ Upd (fun k => k = f ∨ F.lv.ownBlock = some k) w w' ∧ Moved w F.lv lv := by
  obtain ⟨Q, hQ⟩ : ∃ Q : World → Prop, Q = fun w' => ∃ lv, w'.heap[f]? = some (.cells #[F.bv, lv, .slice none 0 0] 174 (0, 0)) ∧ OwnB base w' lv (firstOn F.L F.S u) ∧ Upd (fun k => k = f ∨ F.lv.ownBlock = some k) w w' ∧ Moved w F.lv lv := ⟨_, rfl⟩
  suffices H : Calls Tryz.prog 170 #[.pointer (some ⟨f, 0, none⟩), .int .i64 u] w fun e w' => e = .returned (.tuple #[]) ∧ Q w' by rw [hQ] at H; exact H
  have END : ∀ wr k uk lv Lk, Stl base w f F u wr k uk lv Lk → F.S.length ≤ k → Q (wr.setCell ⟨f, 2, none⟩ (.slice none 0 0)) := by
    intro wr k uk lv Lk hS hk
    rw [hQ]
    have e : firstOn F.L F.S u = Lk := by rw [hS.fin, List.drop_eq_nil_of_le hk]; rfl
    have nf' : lv.ownBlock ≠ some f := own_not hS.own hS.blk (fun cs h => by simp at h)
    refine ⟨lv, set3_2 _ hS.blk, ?_, hS.upd.setCell (p := ⟨f, 2, none⟩) (fun _ => Or.inl rfl) _, hS.mov⟩
    rw [e]
    exact hS.own.upd ((Upd.refl (fun k => k = f) wr).setCell (p := ⟨f, 2, none⟩) (fun _ => rfl) _) (fun k e hh => by subst hh; exact nf' e)
  clear hQ
  have START : Stl base w f F u w 0 u F.lv F.L := ⟨h.block, h.lown, Upd.refl _ _, Moved.refl _ _, by simp, Or.inr (by simpa using h.legal), by simpa using hbig⟩
  obtain ⟨c0, c1, c2⟩ := cell3 h.block
  obtain ⟨ao, l, c, hsv⟩ := row_shape h.sown
  have ho := h.sown
  rw [hsv] at ho c2
  obtain ⟨e1, hl1, hl2⟩ := own_len ho
  subst e1
  have hnb : F.S.length ≤ 9223372036854775807 := by unfold maxLen at hl2; omega
  clear hl1 hl2
  have DF : ∀ wr k uk lv Lk (hk : k < F.S.length), Stl base w f F u wr k uk lv Lk → Calls Tryz.prog 198 #[lv, F.S[k].v, .int .i64 uk] wr fun e w' => ∃ v', e = .returned v' ∧ (∃ a n c, v' = .slice a n c) ∧ Stl base w f F u (w'.setCell ⟨f, 1, none⟩ v') (k + 1) (uk - min uk F.S[k].units) v' (F.S[k].on Lk uk) ∧ w'.heap[f]? = some (.cells #[F.bv, lv, F.sv] 174 (0, 0)) := by
    intro wr k uk lv Lk hk hS
    have hm : F.S[k] ∈ F.S := List.getElem_mem hk
    have hlen := hS.len
    rw [units_drop hk] at hlen
    refine (doFile_any lv Lk F.S[k] uk wr hS.own (Nat.le_trans hb hS.upd.size) ((h.steps _ hm).upd hS.upd (fun j e hh => ?_)) (fun h1 hc => ?_) (by omega)).mono ?_
    · rcases hh with rfl | hh
      · obtain ⟨cs, hcs⟩ := (h.steps _ hm).type e
        rw [h.block] at hcs; simp at hcs
      · exact (h.bs _ hm j e).2 hh
    · rcases hS.leg with h2 | h2
      · omega
      · rw [drop_cons hk] at h2; exact h2.1 hc
    · rintro e w' ⟨v', rfl, o2, u2, m2⟩
      obtain ⟨a, n2, c3, e3⟩ := row_shape o2
      obtain ⟨s1, s2⟩ := hS.next h hk o2 u2 m2
      exact ⟨v', rfl, ⟨a, n2, c3, e3⟩, s1, s2⟩
  have CE : ∀ wr k uk lv Lk (hk : k < F.S.length), Stl base w f F u wr k uk lv Lk → ∃ g, ao = some ⟨g, 0, none⟩ ∧ wr.cell? ⟨g, k, none⟩ = some F.S[k].v := by
    intro wr k uk lv Lk hk hS
    have o2 := ownsRow_upd ho hS.upd (fun j e hh => by
      rw [← hsv] at e
      rcases hh with rfl | hh
      · exact own_not h.sown h.block (fun cs h => by simp at h) e
      · obtain ⟨cs, hcs⟩ := own_type h.sown e
        exact own_not h.lown hcs (fun cs h => by simp at h) hh)
    obtain ⟨g, e, hc⟩ := own_cell o2 (by omega)
    exact ⟨g, e, hc k _ (by simp [hk])⟩
  have LV : ∀ wr k uk lv Lk, Stl base w f F u wr k uk lv Lk → ∃ a n c, lv = .slice a n c := fun wr k uk lv Lk hS => row_shape hS.own
  have BLK : ∀ wr k uk lv Lk, Stl base w f F u wr k uk lv Lk → wr.cell? ⟨f, 1, none⟩ = some lv ∧ wr.cell? ⟨f, 2, none⟩ = some F.sv ∧ wr.frozen? ⟨f, 2, none⟩ = false := fun wr k uk lv Lk hS => ⟨(cell3 hS.blk).2.1, (cell3 hS.blk).2.2, free3 hS.blk 2⟩
  have HK : Hid (∀ s ∈ F.S, True) := fun _ _ => trivial
  obtain ⟨n, hnn⟩ : ∃ n, F.S.length = n := ⟨_, rfl⟩
  have HN : Hid _ := hnn
  rw [hnn] at c2 hnb
  rw [hsv] at BLK
  rw [hnn] at BLK
  have UNI : ∀ k (hk : k < F.S.length), F.S[k].units ≤ 140737488355328 := fun k hk => by
    have := units_take_le F.S (k + 1)
    rw [units_take hk] at this
    omega
  have HUN : Hid _ := UNI
  have HDF : Hid _ := DF
  have HCE : Hid _ := CE
  have HEND : Hid _ := END
  clear h ho c0 c1 hsv hnn hbig DF CE END UNI
  generalize F.lv = lv0 at *
  have m1 := meth_app
  have m2 := meth_cut
  go_enter Tryz.func170, Tryz.ntmps170
  go_wp2
  go_loopw [1, 11] (fun a b wr => ∃ (k uk : Nat) (lv : Value) (Lk : List Int), a = .int .i64 uk ∧ b = .int .i64 k ∧ k ≤ n ∧ uk ≤ 9223372036854775807 ∧ Stl base w f F u wr k uk lv Lk) (fun _ b _ => n - (intOf b).toNat)
  case atStart => exact ⟨0, u, _, _, rfl, rfl, by omega, hu, START⟩
  case round =>
    obtain ⟨k, uk, lv, Lk, rfl, rfl, hk, huk, hS⟩ := hrel
    obtain ⟨d1, d2, d3⟩ := BLK _ _ _ _ _ hS
    by_cases hlt : k < n
    · have hz : (k : Int) < (n : Int) := by omega
      have hkS : k < F.S.length := by have := HN.out; omega
      obtain ⟨g, rfl, cS⟩ := HCE.out _ _ _ _ _ hkS hS
      have D1 := HDF.out _ _ _ _ _ hkS hS
      have hun := HUN.out k hkS
      obtain ⟨la, ln, lc, rfl⟩ := LV _ _ _ _ _ hS
      clear hS BLK LV HCE HDF HUN START
      generalize F.S[k].on Lk uk = NL at D1
      generalize F.S[k] = s at cS D1 hun
      obtain ⟨ct, sn, sa, sc, sK⟩ := s
      cases ct with
      | true =>
        simp only [St.v, St.units, if_true] at cS D1 hun
        have ub := fun W => units_cut (.int .i64 (sn : Int)) W
        have e5 : min (uk : Int) 1 = ((min uk 1 : Nat) : Int) := by omega
        have e6 : (uk : Int) - ((min uk 1 : Nat) : Int) = ((uk - min uk 1 : Nat) : Int) := by omega
        go_wp2_with (first
          | (go_at_call 198; refine D1.mono ?_; clear D1; rintro e w2 ⟨v2, rfl, ⟨a2, n2, c2', rfl⟩, s2, k2⟩; have y1 := (cell3 k2).2.1; have y2 := free3 k2 1)
          | (go_at_call 293; refine (ub _).mono ?_; rintro e w3 ⟨rfl, b3⟩; have s3 := s2.below b3; clear s2))
        go_roundw
        case rel => exact ⟨k + 1, uk - min uk 1, _, _, rfl, by go_num, by omega, by omega, s3⟩
        case measure => simp [intOf]; omega
      | false =>
        simp only [St.v, St.units, Bool.false_eq_true, if_false] at cS D1 hun
        have ub := fun W => units_app sa sn sc W
        go_wp2_with (first
          | (go_at_call 198; refine D1.mono ?_; clear D1; rintro e w2 ⟨v2, rfl, ⟨a2, n2, c2', rfl⟩, s2, k2⟩; have y1 := (cell3 k2).2.1; have y2 := free3 k2 1)
          | (go_at_call 292; refine (ub _).mono ?_; rintro e w3 ⟨rfl, b3⟩; have s3 := s2.below b3; clear s2))
        go_roundw
        case rel => exact ⟨k + 1, uk - min uk sn, _, _, by rw [show ((uk : Int) - min (uk : Int) (sn : Int)) = ((uk - min uk sn : Nat) : Int) by omega], by go_num, by omega, by omega, s3⟩
        case measure => simp [intOf]; omega
    · have hz : ¬ (k : Int) < (n : Int) := by omega
      have EN := HEND.out _ _ _ _ _ hS (by have := HN.out; omega)
      clear hS BLK LV HCE HDF HUN START
      go_wp2
      go_returns
      exact ⟨rfl, EN⟩

theorem nil_own (w : World) (base : Nat) : w.ownsRow base 254 1 (.slice none 0 0) ([] : List St).length (([] : List St).map St.v) := World.ownsRow_nil _ _ _ _
/-- Sync: all bytes last. -/
theorem fsync_any (base : Nat) (f : Nat) (F : Fl) (w : World) (h : FileAt base w f F) (hb : base ≤ w.heap.size) (hbig : F.L.length + unitsL F.S ≤ 140737488355328) :
    Calls Tryz.prog 172 #[.pointer (some ⟨f, 0, none⟩)] w fun e w' => e = .returned (.tuple #[]) ∧ ∃ lv, FileAt base w' f ⟨F.bv, lv, .slice none 0 0, F.B, F.B, []⟩ ∧ Upd (FW f F) w w' ∧ Next w f F ⟨F.bv, lv, .slice none 0 0, F.B, F.B, []⟩ := by
  have ST : Calls Tryz.prog 170 #[.pointer (some ⟨f, 0, none⟩), .int .i64 9223372036854775807] w fun e w' => e = .returned (.tuple #[]) ∧ ∃ lv, FileAt base w' f ⟨F.bv, lv, .slice none 0 0, F.B, F.B, []⟩ ∧ Upd (FW f F) w w' ∧ Next w f F ⟨F.bv, lv, .slice none 0 0, F.B, F.B, []⟩ := by
    refine (settle_any base f F 9223372036854775807 w h hb (by omega) hbig).mono ?_
    rintro e w' ⟨rfl, lv, k1, o1, u1, m1⟩
    rw [firstOn_all F.S F.L _ h.legal (by omega), ← h.sum] at o1
    refine ⟨rfl, lv, ⟨k1, h.low, h.bown.upd u1 (fun k e hh => ?_), o1, nil_own _ _, fun s hs => by simp at hs, fun k e e2 => ?_, fun s hs => by simp at hs, trivial, rfl⟩, u1.mono (fun k _ hh => hh.elim Or.inl (fun hh => Or.inr (Or.inr (Or.inl hh)))), ⟨fun k hk => ?_, fun s hs => by simp at hs⟩⟩
    · rcases hh with rfl | hh
      · exact own_not h.bown h.block (fun cs h => by simp at h) e
      · exact h.bl k e hh
    · rcases m1.old e2 with h1 | h1
      · exact h.bl k e h1
      · have := (h.bown.lt e).1; omega
    · rcases hk with hk | hk | hk | hk
      · exact Or.inl (Or.inl hk)
      · exact Or.inl (Or.inr (Or.inl hk))
      · exact (m1.old hk).elim (fun e => Or.inl (Or.inr (Or.inr (Or.inl e)))) (fun e => Or.inr e)
      · simp [Value.ownBlock] at hk
  obtain ⟨Q, hQ⟩ : ∃ Q : World → Prop, Q = fun w' => ∃ lv, FileAt base w' f ⟨F.bv, lv, .slice none 0 0, F.B, F.B, []⟩ ∧ Upd (FW f F) w w' ∧ Next w f F ⟨F.bv, lv, .slice none 0 0, F.B, F.B, []⟩ := ⟨_, rfl⟩
  have ST2 : Calls Tryz.prog 170 #[.pointer (some ⟨f, 0, none⟩), .int .i64 9223372036854775807] w fun e w' => e = .returned (.tuple #[]) ∧ Q w' := by rw [hQ]; exact ST
  suffices H : Calls Tryz.prog 172 #[.pointer (some ⟨f, 0, none⟩)] w fun e w' => e = .returned (.tuple #[]) ∧ Q w' by rw [hQ] at H; exact H
  clear ST hQ h
  go_enter Tryz.func172, Tryz.ntmps172
  go_wp2_with (go_at_call 170; refine ST2.mono ?_; clear ST2; rintro e w' ⟨rfl, q⟩)
  go_returns
  exact ⟨rfl, q⟩
/-- restart: the first units last, and nothing else is there. -/
def Restarted (base : Nat) (f : Nat) (F : Fl) (u : Nat) (w w' : World) : Prop := ∃ G, FileAt base w' f G ∧ G.B = firstOn F.L F.S u ∧ G.L = firstOn F.L F.S u ∧ G.S = [] ∧ Upd (FW f F) w w' ∧ Next w f F G
set_option maxHeartbeats 1000000 in
theorem frestart_any (base : Nat) (f : Nat) (F : Fl) (u : Nat) (w : World) (h : FileAt base w f F) (hb : base ≤ w.heap.size) (hu : u ≤ 9223372036854775807) (hbig : F.L.length + unitsL F.S ≤ 140737488355328) :
    Calls Tryz.prog 116 #[.pointer (some ⟨f, 0, none⟩), .int .i64 u] w fun e w' => e = .returned (.tuple #[]) ∧ Restarted base f F u w w' := by
  obtain ⟨c0, c1, c2⟩ := cell3 h.block
  obtain ⟨ao, l, c, hsv⟩ := row_shape h.sown
  have ho := h.sown
  rw [hsv] at ho c2
  obtain ⟨e1, hl1, hl2⟩ := own_len ho
  subst e1
  by_cases hS : F.S = []
  · have hR : Restarted base f F u w w := ⟨F, h, by rw [h.sum, hS]; rfl, by rw [hS]; rfl, hS, Upd.refl _ _, ⟨fun k hk => Or.inl hk, fun s hs => Or.inl hs⟩⟩
    have hz : F.S.length = 0 := by rw [hS]; rfl
    rw [hz] at c2
    clear h ho hsv hS hz hl1
    go_enter Tryz.func116, Tryz.ntmps116
    go_wp2
    go_returns
    exact ⟨rfl, hR⟩
  · have hz : ¬ ((F.S.length : Int) = 0) := fun e => hS (List.eq_nil_of_length_eq_zero (by omega))
    have ST := settle_any base f F u w h hb hu hbig
    have lenX : ∀ (S : List St) (L : List Int) (u : Nat), (firstOn L S u).length ≤ L.length + unitsL S := by
      intro S
      induction S with
      | nil => intro L u; simp [firstOn, unitsL]
      | cons s r ih =>
        intro L u
        have h1 := ih (s.on L u) (u - min u s.units)
        have h2 := on_len s L u
        have h3 : unitsL (s :: r) = s.units + unitsL r := by simp [unitsL]
        show (firstOn (s.on L u) r (u - min u s.units)).length ≤ _
        omega
    have hX := lenX F.S F.L u
    have CL : ∀ (w1 : World) (lv : Value), OwnB base w1 lv (firstOn F.L F.S u) → Calls Tryz.prog 69 #[lv] w1 fun e w' => ∃ v', e = .returned v' ∧ OwnB w1.heap.size w' v' (firstOn F.L F.S u) ∧ Below w1.heap.size w1 w' := fun w1 lv o => clone_any lv _ w1 o (by omega)
    have SH : ∀ (b : Nat) (v : Value) (w1 : World), OwnB b w1 v (firstOn F.L F.S u) → ∃ a n c, v = .slice a n c := fun b v w1 o => row_shape o
    have END : ∀ (w1 w2 : World) (lv v2 : Value), w1.heap[f]? = some (.cells #[F.bv, lv, .slice none 0 0] 174 (0, 0)) → OwnB base w1 lv (firstOn F.L F.S u) → Upd (fun k => k = f ∨ F.lv.ownBlock = some k) w w1 → Moved w F.lv lv → OwnB w1.heap.size w2 v2 (firstOn F.L F.S u) → Below w1.heap.size w1 w2 → Restarted base f F u w (w2.setCell ⟨f, 0, none⟩ v2) := by
      intro w1 w2 lv v2 k1 o1 u1 m1 o2 b2
      have k2 := (b2.block f (lt_of_block k1)).trans k1
      have hs1 := u1.size
      have nf2 : v2.ownBlock ≠ some f := fun e => by have := (o2.lt e).2; have := lt_of_block k1; omega
      have nfl : lv.ownBlock ≠ some f := own_not o1 k1 (fun cs h => by simp at h)
      have us : Upd (fun k => k = f) w2 (w2.setCell ⟨f, 0, none⟩ v2) := (Upd.refl (fun k => k = f) w2).setCell (p := ⟨f, 0, none⟩) (fun _ => rfl) v2
      refine ⟨⟨v2, lv, .slice none 0 0, firstOn F.L F.S u, firstOn F.L F.S u, []⟩, ⟨set3_0 v2 k2, h.low, (o2.base (by omega)).upd us (fun k e hh => by subst hh; exact nf2 e), (o1.below b2).upd us (fun k e hh => by subst hh; exact nfl e), nil_own _ _, fun s hs => by simp at hs, fun k e e2 => ?_, fun s hs => by simp at hs, trivial, rfl⟩, rfl, rfl, rfl, ?_, ⟨fun k hk => ?_, fun s hs => by simp at hs⟩⟩
      · have := (o2.lt e).2; have := (o1.lt e2).1; omega
      · refine ((u1.mono (S' := FW f F) (fun k _ hh => hh.elim Or.inl (fun hh => Or.inr (Or.inr (Or.inl hh))))).trans (S' := fun _ => False) (Upd.ofBelow b2 (fun k hk hk' => by omega)) (fun _ _ h => h.elim)).setCell (p := ⟨f, 0, none⟩) (fun _ => Or.inl rfl) v2
      · rcases hk with hk | hk | hk | hk
        · exact Or.inl (Or.inl hk)
        · exact Or.inr (by have := (o2.lt hk).2; omega)
        · exact (m1.old hk).elim (fun e => Or.inl (Or.inr (Or.inr (Or.inl e)))) (fun e => Or.inr e)
        · simp [Value.ownBlock] at hk
    have HEND : Hid _ := END
    clear END lenX hX h ho hS hbig hsv hl1 c1 c0
    generalize Restarted base f F u w = R at *
    generalize firstOn F.L F.S u = X at *
    generalize F.S.length = n at *
    generalize F.bv = bv0 at *
    generalize F.lv = lv0 at *
    go_enter Tryz.func116, Tryz.ntmps116
    go_wp2_with (first
      | (go_at_call 170; refine ST.mono ?_; clear ST; rintro e w1 ⟨rfl, lv1, k1, o1, u1, m1⟩; have y1 := (cell3 k1).2.1; have CL1 := CL _ _ o1; obtain ⟨a1, n1, c1, rfl⟩ := SH _ _ _ o1; clear CL)
      | (go_at_call 69; refine CL1.mono ?_; clear CL1; rintro e w2 ⟨v2, rfl, o2, b2⟩; have EN := HEND.out _ _ _ _ k1 o1 u1 m1 o2 b2; have k2 := (b2.block f (lt_of_block k1)).trans k1; have y2 := (cell3 k2).1; have y3 := free3 k2 0; obtain ⟨a2, n2, c2', rfl⟩ := SH _ _ _ o2))
    go_returns
    exact ⟨rfl, EN⟩
end Go.Proofs.YtgoafinbaiepmaaGreatDoor
