/-
  FrameJoined: the walk.
-/
import Derived.Test.YthnfpapaknejnabOw
import Derived.Test.YthnfpapaknejnabFo
namespace Go.Proofs.Ythnfpapaknejnab
open Go.RowKit
set_option maxRecDepth 100000

/-- What of a row of pieces is still as it came, from the i-th on. -/
def RestP (w : World) (g : Nat) (ps : List Pc) (i : Nat) : Prop := ∃ cur : Array Value, w.heap[g]? = some (.cells cur 33 (0, 0)) ∧ ∀ j (hj : j < ps.length), i ≤ j → ∀ c u, (pcCells ps[j])[c]? = some u → cur[j * 4 + c]? = some u
theorem pc4 {p : Pc} {c : Nat} {u : Value} (h : (pcCells p)[c]? = some u) : c < 4 := by
  have := (List.getElem?_eq_some_iff.1 h).1
  simpa [pcCells] using this
theorem RestP.set {w : World} {g : Nat} {ps : List Pc} {i : Nat} (h : RestP w g ps i) (v : Value) : RestP (w.setCell ⟨g, i * 4 + 2, none⟩ v) g ps (i + 1) := by
  obtain ⟨cur, h1, h2⟩ := h
  refine ⟨_, set_block h1 _ _, fun j hj hij c u hu => ?_⟩
  have hc := pc4 hu
  rw [Array.getElem?_setIfInBounds_ne (by omega)]
  exact h2 j hj (by omega) c u hu
theorem RestP.upd {S : Nat → Prop} {w w' : World} {g : Nat} {ps : List Pc} {i : Nat} (h : RestP w g ps i) (hu : Upd S w w') (hS : ¬ S g) : RestP w' g ps i := by
  obtain ⟨cur, h1, h2⟩ := h
  exact ⟨cur, (hu.block g (lt_of_block h1) hS).trans h1, h2⟩
theorem RestP.cell {w : World} {g : Nat} {ps : List Pc} {i : Nat} (h : RestP w g ps i) (hi : i < ps.length) (c : Nat) (u : Value) (hu : (pcCells ps[i])[c]? = some u) : w.cell? ⟨g, i * 4 + c, none⟩ = some u := by
  obtain ⟨cur, h1, h2⟩ := h
  rw [cell_of_row _ _ _ _ _ _ h1]
  exact h2 i hi (Nat.le_refl _) c u hu
theorem RestP.free {w : World} {g : Nat} {ps : List Pc} {i : Nat} (h : RestP w g ps i) (o : Nat) : w.frozen? ⟨g, o, none⟩ = false := by
  obtain ⟨cur, h1, h2⟩ := h
  simp [World.frozen?, h1]
theorem OwnP.rest {base : Nat} {w : World} {v : Value} {ps : List Pc} (h : OwnP base w v ps) (hp : 0 < ps.length) : ∃ g cap, v = .slice (some ⟨g, 0, none⟩) ps.length cap ∧ base ≤ g ∧ g < w.heap.size ∧ RestP w g ps 0 := by
  rcases h.2 with ⟨_, h0⟩ | ⟨g, cap, cur, rfl, hb, hg, _, _, _, ht⟩
  · omega
  · refine ⟨g, cap, rfl, hb, lt_of_block hg, cur, hg, fun j hj _ c u hu => ?_⟩
    have hf := flat_at ps j hj c u hu
    rw [← ht] at hf
    rw [List.getElem?_take] at hf
    split at hf
    · simpa using hf
    · cases hf

theorem chain_at (K : List Int) (ps : List Pc) : ∀ (p z : Nat), Chain K p ps z → ∀ i (hi : i < ps.length), ps[i].2.2.1 ≤ K.length := by
  induction ps with
  | nil => intro p z _ i hi; simp at hi
  | cons x r ih =>
    intro p z h i hi
    obtain ⟨k, q, a, L⟩ := x
    obtain ⟨h1, h2, _, _, _, _, h7⟩ := h
    cases i with
    | zero => show a ≤ _; omega
    | succ i => exact ih (a + L) z h7 i (by simpa using hi)
/-- The loop's state. -/
structure Jm (w0 wr : World) (gx gy : Nat) (aoy : Option Addr) (ly : Nat) (vw : Value) (ws ps ys : List Pc) (d i : Nat) : Prop where
  below : Below w0.heap.size w0 wr
  own : OwnP w0.heap.size wr vw (ws ++ (ps.take i).map (farP d))
  rest : 0 < ps.length → RestP wr gx ps i
  y : PHolds wr aoy ly ys
  nex : ∀ k, vw.ownBlock = some k → k ≠ gx ∧ ∀ a, aoy = some a → k ≠ a.block
  ney : ∀ a, aoy = some a → a.block ≠ gx
  lo : w0.heap.size ≤ gx
  lt : (0 < ps.length → gx < wr.heap.size) ∧ ∀ a, aoy = some a → a.block < wr.heap.size

set_option maxHeartbeats 1000000 in
theorem joined_any (ad ae : Option Addr) (n nr cap capr : Nat) (R : List Int) (w : World) (h : ParcAt w ad n) (hR : Holds w ae nr R) (hRb : ByteL R) (hn : n ≤ 140737488355328) (hcr : nr ≤ capr) (hnr : nr ≤ 140737488351232) :
    Calls Try.prog 3 #[.slice ad n cap, .slice ae nr capr] w fun e w' => e = .returned (.bool true) ∧ Below w.heap.size w w' := by
  obtain ⟨i0, hiu, hz0, hz1, hz2⟩ := info_parts Try.info5
  obtain ⟨i1, hip, hp0, hp1, hp2⟩ := info_parts Try.info33
  have hRl := hR.len
  go_enter Try.func3, Try.ntmps3
  go_wp2_with (first
    | (go_at_call 7; refine (shown_any _).mono ?_; rintro e w1 ⟨rfl, b1⟩; have LA := laid_any ad n cap w1 (h.below b1) hn)
    | (go_at_call 8; fail))
  refine LA.mono ?_
  rintro e w2 ⟨vb, vw, fs, rfl, M⟩
  obtain ⟨aob, lb, cb, rfl⟩ := row_shape M.ownB
  obtain ⟨aow, lw, cw, rfl⟩ := row_shape M.ownW
  have HLB : Hid (lb = (catL fs).length ∧ (catL fs).length ≤ cb ∧ cb ≤ maxLen) := own_cap M.ownB
  have HLW : Hid (lw = (pcsL 0 fs).length ∧ (pcsL 0 fs).length ≤ cw ∧ cw ≤ maxLen) := own_cap M.ownW
  have hfew : lb ≤ 2147483647 := by rw [HLB.out.1]; exact M.few
  have HM : Hid (Lm w1 w2 (.slice aob lb cb) (.slice aow lw cw) fs) := M
  have B2 := b1.trans (M.below.mono b1.size)
  clear M LA
  by_cases hbig : 2147483647 - lb < nr
  · have t1 : (2147483647 : Int) - (lb : Int) < (nr : Int) := by omega
    go_wp2
    go_ret
    exact ⟨rfl, B2⟩
  · have t1 : ¬ ((2147483647 : Int) - (lb : Int) < (nr : Int)) := by omega
    have t1' : decide ((2147483647 : Int) - (lb : Int) < (nr : Int)) = false := by simpa using t1
    have hsum : lb + nr ≤ 2147483647 := by omega
    have S1 := scan_any ae nr capr R w2 (hR.below B2) hRb hcr (by omega)
    have HJ : Hid (scanL (catL fs ++ R) = (pcsL 0 fs ++ (scanL R).1.map (farP lb), (scanL R).2.1 + lb, (scanL R).2.2)) := by
      have := scan_joined fs R HM.out.ok
      rw [← HLB.out.1] at this
      exact this
    obtain ⟨c1, c2, c3, c4, c5⟩ := scan_chain R hRb nr 0 (by omega) (by omega)
    have hsc : scanL R = scanG nr (R.drop 0) 0 := by unfold scanL; rw [hRl, List.drop_zero]
    rw [← hsc] at c1 c2 c3
    rw [hRl] at c2
    have HCH : Hid (∀ i (hi : i < (scanL R).1.length), (scanL R).1[i].2.2.1 ≤ nr) := fun i hi => by have := chain_at R _ _ _ c1 i hi; omega
    clear c1 c4 c5 hsc
    generalize hps : (scanL R).1 = ps at *
    generalize hpz : (scanL R).2.1 = z at *
    generalize hpe : (scanL R).2.2 = er at *
    clear hps hpz hpe
    go_wp2_with (go_at_call 9; fail)
    refine S1.mono ?_
    rintro e w3 ⟨v3, rfl, o3, b3⟩
    obtain ⟨aox, lx, cx, rfl⟩ := row_shape o3
    have hlx := (own_cap o3).1
    subst hlx
    have z3 := b3.size
    have B3 : Below w2.heap.size w2 w3 := b3
    have HB3 : Holds w3 aob lb (catL fs) := (Holds.ofRow HM.out.ownB).below b3
    have O1 := Ow.fresh (w := w3) (Below.refl w3.heap.size w3)
    have A1 := O1.own
    have hcl : (catL fs).length = lb := HLB.out.1.symm
    clear S1
    go_wp2_with (at_builtin; refine wpList_app _ rfl (.tmp 40) (.tmp 41) 23 23 rfl w3.heap.size 5 i0 (.int .u8 0) 1 Try.underlying23 hiu hz0 hz1 hz2 rfl _ _ _ rfl A1 _ lb ((catL fs).map (Value.int .u8)) rfl ((HB3.below O1.below).src cb) ?a1 ?a2 ?a3 ?_)
    case a1 => unfold maxLen; simp; omega
    case a2 => simp; omega
    case a3 => exact O1.below.size
    intro v4 w4 ho hg hm
    have O2 := O1.grown (M := catL fs) (by simpa [hcl] using ho) hg
    have A2 := O2.own
    obtain ⟨ao4, l4, c4, rfl⟩ := row_shape A2
    clear ho hg hm A1 O1
    go_wp2_with (at_builtin; refine wpList_app _ rfl (.tmp 42) (.tmp 43) 23 23 rfl w3.heap.size 5 i0 (.int .u8 0) 1 Try.underlying23 hiu hz0 hz1 hz2 rfl _ _ _ rfl A2 _ nr (R.map (Value.int .u8)) rfl ((((hR.below B2).below b3).below O2.below).src capr) ?b1 ?b2 ?b3 ?_)
    case b1 => unfold maxLen; simp [hcl]; omega
    case b2 => simp [hcl]; omega
    case b3 => exact O2.below.size
    intro v5 w5 ho hg hm
    have O3 := O2.grown (M := R) (by simpa [hRl, hcl] using ho) hg
    have A3 := O3.own
    obtain ⟨ao5, l5, c5, rfl⟩ := row_shape A3
    clear ho hg hm A2 O2
    have hl5 := own_cap A3
    have S2 := scan_any ao5 l5 c5 _ w5 (Holds.ofRow A3) ((byteL_nil.append (catL_bytes fs HM.out.ok)).append hRb) (by rw [hl5.1]; exact hl5.2.1) (by rw [hl5.1]; simp [hcl]; omega)
    rw [List.nil_append, HJ.out] at S2
    have B5 := O3.below
    clear A3 O3 hl5
    go_wp2_with (go_at_call 9; fail)
    refine S2.mono ?_
    rintro e w6 ⟨v6, rfl, o6, b6⟩
    obtain ⟨aoy, ly, cy, rfl⟩ := row_shape o6
    have PY := o6.holds
    have z5 := B5.size
    have z6 := b6.size
    have hlt6 : ∀ a, aoy = some a → w5.heap.size ≤ a.block ∧ a.block < w6.heap.size := by
      intro a ha
      subst ha
      rcases o6.2 with ⟨e, _⟩ | ⟨g, cap, cur, e, hb, hg, _⟩
      · simp at e
      · simp at e
        obtain ⟨rfl, rfl, rfl⟩ := e
        exact ⟨hb, lt_of_block hg⟩
    have hB16 : Below w1.heap.size w1 w6 := ((HM.out.below.trans (B3.mono HM.out.below.size)).trans (B5.mono (Nat.le_trans HM.out.below.size z3))).trans (b6.mono (Nat.le_trans (Nat.le_trans HM.out.below.size z3) z5))
    have hB36 : Below w3.heap.size w3 w6 := B5.trans (b6.mono z5)
    obtain ⟨gx, hgx⟩ : ∃ gx, w2.heap.size ≤ gx ∧ (0 < ps.length → aox = some ⟨gx, 0, none⟩ ∧ gx < w3.heap.size ∧ RestP w3 gx ps 0) ∧ (¬ 0 < ps.length → gx = w6.heap.size) := by
      by_cases hp : 0 < ps.length
      · obtain ⟨g, c, e, q1, q2, q3⟩ := o3.rest hp
        simp at e
        exact ⟨g, q1, fun _ => ⟨e.1, q2, q3⟩, fun h => absurd hp h⟩
      · exact ⟨w6.heap.size, by omega, fun h => absurd h hp, fun _ => rfl⟩
    obtain ⟨hgx1, hgx2, hgx3⟩ := hgx
    have hJ0 : Jm w1 w6 gx 0 aoy ly (.slice aow lw cw) (pcsL 0 fs) ps (pcsL 0 fs ++ ps.map (farP lb)) lb 0 := by
      refine ⟨hB16, ?_, fun hp => ?_, PY, ?_, ?_, ?_, ⟨fun hp => ?_, fun a ha => (hlt6 a ha).2⟩⟩
      · simp only [List.take_zero, List.map_nil, List.append_nil]
        exact ((HM.out.ownW.below B3).below B5).below b6
      · exact (hgx2 hp).2.2.upd (Upd.ofBelow (S := fun _ => False) hB36 (fun k hk hk' => by omega)) (fun h => h)
      · intro k hk
        have h1 := (own_lt HM.out.ownW hk).1
        refine ⟨by omega, fun a ha => ?_⟩
        have := (hlt6 a ha).1
        omega
      · intro a ha e
        have h1 := hlt6 a ha
        by_cases hp : 0 < ps.length
        · have := (hgx2 hp).2.1; omega
        · have := hgx3 hp; omega
      · have := HM.out.below.size; omega
      · have := (hgx2 hp).2.1; omega
    have HJ0 : Hid (Jm w1 w6 gx 0 aoy ly (.slice aow lw cw) (pcsL 0 fs) ps (pcsL 0 fs ++ ps.map (farP lb)) lb 0) := hJ0
    have hly : ly = (pcsL 0 fs ++ ps.map (farP lb)).length := PY.len.symm
    have HLY : Hid (ly = (pcsL 0 fs ++ ps.map (farP lb)).length) := hly
    have hwl : (pcsL 0 fs).length ≤ 100000000 := by rw [pcsL_len]; have := catL_len fs; omega
    have hpl : ps.length ≤ 100000000 := by omega
    have u1 : ((z : Int) + (lb : Int) != (lb : Int) + (z : Int)) = false := by rw [Int.add_comm]; simp
    clear hJ0 hly PY o6 o3 b6 B5 S2 HB3 B3 b3 hlt6 hB36
    go_wp2
    go_loopw [7, 15] (fun a b wr => ∃ i : Nat, b = .int .i64 i ∧ i ≤ ps.length ∧ Jm w1 wr gx 0 aoy ly a (pcsL 0 fs) ps (pcsL 0 fs ++ ps.map (farP lb)) lb i) (fun _ b _ => ps.length - (intOf b).toNat)
    case atStart => exact ⟨0, rfl, by omega, HJ0.out⟩
    case round =>
      obtain ⟨i, rfl, hi, J⟩ := hrel
      have hown := J.own
      obtain ⟨aok, lk, ck, rfl⟩ := row_shape hown
      by_cases hlt : i < ps.length
      · have hz : (i : Int) < (ps.length : Int) := by omega
        obtain ⟨rfl, hg3, _⟩ := hgx2 (by omega)
        have hr := J.rest (by omega)
        have c0 := hr.cell hlt 0 _ rfl
        have c1 := hr.cell hlt 1 _ rfl
        have c2 := hr.cell hlt 2 _ rfl
        have c3 := hr.cell hlt 3 _ rfl
        rw [Nat.add_zero] at c0
        have f2 := hr.free (i * 4 + 2)
        have hfar : farP lb ps[i] = (ps[i].1, ps[i].2.1, ps[i].2.2.1 + lb, ps[i].2.2.2) := rfl
        have hsn : (ps.take (i + 1)).map (farP lb) = (ps.take i).map (farP lb) ++ [farP lb ps[i]] := by
          rw [List.take_succ_eq_append_getElem hlt, List.map_append]; rfl
        have HSN : Hid ((ps.take (i + 1)).map (farP lb) = (ps.take i).map (farP lb) ++ [farP lb ps[i]]) := hsn
        generalize hpi : ps[i] = pi at c0 c1 c2 c3 hfar
        obtain ⟨k, q, a, L⟩ := pi
        have HPI : Hid (ps[i] = (k, q, a, L)) := hpi
        have ha : a ≤ 2147483647 := by have := HCH.out i hlt; rw [hpi] at this; simp at this; omega
        have HJ1 : Hid (Jm w1 wr gx 0 aoy ly (.slice aok lk ck) (pcsL 0 fs) ps (pcsL 0 fs ++ ps.map (farP lb)) lb i) := J
        have hst := hr.set (.int .i64 ((a : Int) + (lb : Int)))
        have hbr := J.below
        have hbs := hbr.size
        have hne := (J.nex)
        have hlk : (pcsL 0 fs ++ (ps.take i).map (farP lb)).length ≤ 300000000 := by simp; omega
        have A0 := ownsRow_setCell_other (a := ⟨gx, i * 4 + 2, none⟩) hown (fun e => (hne gx e).1 rfl) (.int .i64 ((a : Int) + (lb : Int)))
        have HST : Hid (RestP (wr.setCell ⟨gx, i * 4 + 2, none⟩ (.int .i64 ((a : Int) + (lb : Int)))) gx ps (i + 1)) := hst
        clear J hst hr hpi hfar hsn
        go_wp2_with (at_builtin; refine wpList_appW _ rfl (.tmp 86) (.tmp 91) 25 25 rfl w1.heap.size 33 i1 _ 4 32 Try.underlying25 hip hp0 hp1 hp2 rfl _ _ _ rfl (A0.alloc _) _ 1 [.int .i64 k, .int .u64 q, .int .i64 ((a : Int) + (lb : Int)), .int .i64 L] rfl (Src.ofSlice _ Try.underlying25 ⟨wr.heap.size, 0, none⟩ 1 1 _ rfl ?d1 ?d2) ?d3 ?d4 ?d5 ?_)
        case d2 => exact ⟨rfl, rfl, rfl, rfl⟩
        case d3 => unfold maxLen; omega
        case d4 => omega
        case d5 => omega
        intro v7 w7 ho7 hg7 hm7
        have hsz : (wr.setCell ⟨gx, i * 4 + 2, none⟩ (.int .i64 ((a : Int) + (lb : Int)))).heap.size = wr.heap.size := by simp
        have u7 := grown_upd' hg7
        have m7 := (Moved.refl (wr.setCell ⟨gx, i * 4 + 2, none⟩ (.int .i64 ((a : Int) + (lb : Int)))) (Value.slice aok lk ck)).trans (by simp) hm7
        have z7 := u7.size
        rw [hsz] at z7
        have uall : Upd (fun k => k = gx ∨ (Value.slice aok lk ck).ownBlock = some k) wr w7 :=
          ((Upd.refl _ wr).setCell (p := ⟨gx, i * 4 + 2, none⟩) (fun _ => Or.inl rfl) _).trans u7 (fun k _ e => Or.inr e)
        have hLo : ∀ k, (Value.slice aok lk ck).ownBlock = some k → k < wr.heap.size ∧ w1.heap.size ≤ k := fun k e => own_lt hown e
        have hJ2 : Jm w1 w7 gx 0 aoy ly v7 (pcsL 0 fs) ps (pcsL 0 fs ++ ps.map (farP lb)) lb (i + 1) := by
          have J := HJ1.out
          refine ⟨?_, ?_, fun _ => ?_, ?_, ?_, J.ney, J.lo, ⟨fun hp => by have := J.lt.1 hp; omega, fun a ha => by have := J.lt.2 a ha; omega⟩⟩
          · refine hbr.trans (uall.below hbs (fun k hk e => ?_))
            rcases e with rfl | e
            · have := J.lo; omega
            · have := (hLo k e).2; omega
          · unfold OwnP
            rw [HSN.out, HPI.out, ← List.append_assoc]
            have hmi : min i ps.length = i := Nat.min_eq_left hi
            simpa [pcCells, farP, hmi, Nat.add_assoc] using ho7
          · exact HST.out.upd u7 (fun e => (hne gx e).1 rfl)
          · refine J.y.upd uall (fun a ha e => ?_)
            rcases e with e | e
            · exact J.ney a ha e
            · exact (hne _ e).2 a ha rfl
          · intro k hk
            rcases m7 with m | ⟨i', m, hi'⟩
            · exact hne k (m ▸ hk)
            · rw [hk] at m; simp at m
              rw [hsz] at hi'
              refine ⟨by have := J.lt.1 (by omega); omega, fun a ha => by have := J.lt.2 a ha; omega⟩
        have HJ2 : Hid (Jm w1 w7 gx 0 aoy ly v7 (pcsL 0 fs) ps (pcsL 0 fs ++ ps.map (farP lb)) lb (i + 1)) := hJ2
        obtain ⟨ao7, l7, c7, rfl⟩ := row_shape ho7
        clear hJ2 ho7 hg7 hm7 u7 m7 uall hLo A0 c0 c1 c2 c3 hne
        go_wp2
        go_roundw
        case rel => exact ⟨i + 1, by go_num, by omega, HJ2.out⟩
        case measure => simp [intOf]; omega
      · obtain rfl : i = ps.length := by omega
        have hT : (ps.take ps.length).map (farP lb) = ps.map (farP lb) := by rw [List.take_length]
        have PW := hown.holds
        rw [hT] at PW
        have hlk2 : lk = ly := by rw [← PW.len, HLY.out]
        subst hlk2
        have SP := samePieces_eq aoy aok lk cy ck _ wr J.y PW (by rw [HLY.out]; simp; omega)
        have hbr := b1.trans (J.below.mono b1.size)
        go_wp2_with (go_at_call 10; refine SP.mono ?_; rintro e w8 ⟨rfl, b8⟩)
        go_ret
        exact ⟨rfl, hbr.trans (b8.mono hbr.size)⟩
end Go.Proofs.Ythnfpapaknejnab
