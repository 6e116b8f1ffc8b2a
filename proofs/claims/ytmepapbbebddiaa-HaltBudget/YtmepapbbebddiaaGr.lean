/-
  spoorlaw03: pick, grown: a tree of stops.
-/
import Derived.Test.YtmepapbbebddiaaAl
namespace Go.Proofs.Ytmepapbbebddiaa
open Go Go.Conc Go.RowKit Go.MuLone

theorem ret_int {k : IntKind} {a b : Int} (h : a = b) : Ending.returned (.int k a) = .returned (.int k b) := by rw [h]
def pickI (c n : Int) : Int := (if c < 0 then -(c + 1) else c) % n
theorem pick_lo (c n : Int) (h : 0 < n) : 0 ≤ pickI c n := Int.emod_nonneg _ (by omega)
theorem pick_hi (c n : Int) (h : 0 < n) : pickI c n < n := Int.emod_lt_of_pos _ h
set_option maxRecDepth 100000 in
theorem pick_any (c n : Int) (h0 : -9223372036854775808 ≤ c) (h1 : c ≤ 9223372036854775807) (hn : 0 < n) (hn' : n ≤ 9223372036854775807) (w : World) :
    Calls Try.prog 13 #[.int .i64 c, .int .i64 n] w fun e w' => e = .returned (.int .i64 (pickI c n)) ∧ w' = w := by
  by_cases h : c < 0
  · have e : pickI c n = -(c + 1) % n := by unfold pickI; rw [if_pos h]
    go_enter Try.func13, Try.ntmps13
    go_wp2
    go_ret
    exact ⟨ret_int (by rw [e, ← Int.neg_tmod]; exact Int.tmod_eq_emod_of_nonneg (by omega)), rfl⟩
  · have e : pickI c n = c % n := by unfold pickI; rw [if_neg h]
    go_enter Try.func13, Try.ntmps13
    go_wp2
    go_ret
    exact ⟨ret_int (by first | rfl | exact e.symm), rfl⟩
/-- pick, of a list that is not empty: a place in it. -/
theorem pick_nat (c : Int) (n : Nat) (h0 : -9223372036854775808 ≤ c) (h1 : c ≤ 9223372036854775807) (hn : 0 < n) (hn' : n ≤ 17592186044416) (w : World) :
    ∃ k, k < n ∧ Calls Try.prog 13 #[.int .i64 c, .int .i64 (n : Int)] w fun e w' => e = .returned (.int .i64 (k : Int)) ∧ w' = w := by
  have a := pick_lo c n (by omega)
  have b := pick_hi c n (by omega)
  refine ⟨(pickI c n).toNat, by omega, ?_⟩
  refine (pick_any c n h0 h1 (by omega) (by omega) w).mono ?_
  rintro e w' ⟨rfl, hw⟩
  exact ⟨by rw [Int.toNat_of_nonneg a], hw⟩

/-- A slice that holds these values. -/
structure HoldsV (w : World) (ad : Option Addr) (n : Nat) (vs : List Value) : Prop where
  len : vs.length = n
  cells : ∀ j u, vs[j]? = some u → ∃ a, ad = some a ∧ w.cell? (a.add j) = some u
theorem HoldsV.nil (w : World) : HoldsV w none 0 [] := ⟨rfl, fun j u hj => by simp at hj⟩
theorem HoldsV.below {w w' : World} {ad : Option Addr} {n : Nat} {vs : List Value} (h : HoldsV w ad n vs) (hb : Below w.heap.size w w') : HoldsV w' ad n vs :=
  ⟨h.len, fun j u hj => by
    obtain ⟨a, h1, h2⟩ := h.cells j u hj
    exact ⟨a, h1, (hb.cell (p := a.add j) (lt_of_cell h2)).trans h2⟩⟩
theorem HoldsV.at {w : World} {ad : Option Addr} {n : Nat} {vs : List Value} (h : HoldsV w ad n vs) {j : Nat} {u : Value} (hj : vs[j]? = some u) : ∃ b o, ad = some ⟨b, o, none⟩ ∧ w.cell? ⟨b, o + j, none⟩ = some u := by
  obtain ⟨a, rfl, h2⟩ := h.cells j u hj
  obtain ⟨b, o, sp⟩ := a
  cases sp with
  | none =>
    refine ⟨b, o, rfl, ?_⟩
    rwa [Addr.add_lit] at h2
  | some x =>
    exfalso
    have hl : j < vs.length := (List.getElem?_eq_some_iff.1 hj).1
    obtain ⟨a', e, h3⟩ := h.cells 0 vs[0] (List.getElem?_eq_getElem (by omega))
    injection e with e
    subst e
    simp [World.cell?, Addr.add] at h3
    split at h3 <;> simp at h3
/-- Numbers. -/
abbrev intsV (K : List Int) : List Value := K.map (Value.int .i64)
def I64L (K : List Int) : Prop := ∀ x ∈ K, -9223372036854775808 ≤ x ∧ x ≤ 9223372036854775807
theorem HoldsV.int {w : World} {ad : Option Addr} {n : Nat} {K : List Int} (h : HoldsV w ad n (intsV K)) (hK : I64L K) {j : Nat} (hj : j < n) : ∃ b o x, ad = some ⟨b, o, none⟩ ∧ K[j]? = some x ∧ w.cell? ⟨b, o + j, none⟩ = some (.int .i64 x) ∧ -9223372036854775808 ≤ x ∧ x ≤ 9223372036854775807 := by
  have hl := h.len
  simp only [List.length_map] at hl
  have hx : K[j]? = some K[j] := List.getElem?_eq_getElem (by omega)
  obtain ⟨b, o, h1, h2⟩ := h.at (j := j) (u := .int .i64 K[j]) (by simp [hx])
  exact ⟨b, o, K[j], h1, hx, h2, hK _ (List.getElem_mem _)⟩

theorem own_at {w : World} {base : Nat} {e : TypeId} {size : Nat} {v : Value} {n : Nat} {xs : List Value} (h : w.ownsRow base e size v n xs) (hn : 0 < n) : ∃ g cap, v = .slice (some ⟨g, 0, none⟩) n cap := by
  rcases h.2 with ⟨_, h0⟩ | ⟨g, cap, _, rfl, _⟩
  · omega
  · exact ⟨g, cap, rfl⟩
/-- A block of another kind is none of the family's. -/
theorem Fam.notFoot {w : World} {n₀ lk : Nat} {S : List Nat} {N : Nat → Nd} {pg : Nat → Option Nat} {q : Int} (h : Fam w n₀ lk S N pg q) {g : Nat} {c : Array Value} {T : TypeId} (hb : Blk w g c T) (h1 : T ≠ 94) (h2 : T ≠ 85) (h3 : T ≠ 46) : ¬ Foot lk S N g := by
  rintro (rfl | hk | hk | ⟨b, hB, hg⟩)
  · exact (Blk.ne hb h.lock h1) rfl
  · exact (Blk.ne hb (h.stop g hk) h2) rfl
  · have := h.chan (g + 1) hk
    unfold ChanAt at this; unfold Blk at hb
    rw [Nat.add_sub_cancel, hb] at this
    cases this
  · exact ownsRow_ne (h.row b hB) hb h3 hg rfl

/-- A tree of stops: their list, and each one's place of the one above. -/
structure Grw (W wr : World) (ids : List Nat) (ups : List Int) (va vu : Value) (n₀ lk : Nat) (N : Nat → Nd) (pg : Nat → Option Nat) : Prop where
  fam : Fam wr n₀ lk ids N pg 0
  base : W.heap.size ≤ n₀
  below : Below W.heap.size W wr
  rowA : wr.ownsRow W.heap.size 46 1 va ids.length (ids.map ptrV)
  rowU : wr.ownsRow W.heap.size 3 1 vu ups.length (intsV ups)
  len : ups.length = ids.length
  pos : 0 < ids.length
  notA : ∀ g, va.ownBlock = some g → ¬ Foot lk ids N g
  link : ∀ i x, ids[i]? = some x → (i = 0 ∧ pg x = none) ∨ ∃ k : Nat, k < i ∧ ups[i]? = some (k : Int) ∧ pg x = ids[k]?
  fresh : ∀ x ∈ ids, (N x).why = 0 ∧ (N x).left = -1
theorem infoInt : (Try.prog.info? 3).map (fun i => (i.zero, i.size, i.bytes)) = some (some (.int .i64 0), 1, 8) := by kernel_rfl

/-- One more, in the tree and in both lists. -/
theorem Grw.more {W wr w1 w2 w3 : World} {ids : List Nat} {ups : List Int} {va vu va' vu' : Value} {n₀ lk : Nat} {N N' : Nat → Nd} {pg : Nat → Option Nat} (h : Grw W wr ids ups va vu n₀ lk N pg) {k s : Nat} (hk : ids[k]? = some s)
    (G : Grown1 wr w1 n₀ lk ids N N' pg s (-1)) (A : w2.ownsRow W.heap.size 46 1 va' (ids.length + 1) (ids.map ptrV ++ [ptrV (wr.heap.size + 1)])) (AU : Upd (fun j => va.ownBlock = some j) w1 w2) (AM : Moved w1 va va')
    (U : w3.ownsRow W.heap.size 3 1 vu' (ups.length + 1) (intsV ups ++ [.int .i64 (k : Int)])) (UU : Upd (fun j => vu.ownBlock = some j) w2 w3) :
    Grw W w3 (ids ++ [wr.heap.size + 1]) (ups ++ [(k : Int)]) va' vu' n₀ lk N' (pgX pg (wr.heap.size + 1) s) := by
  have hs : s ∈ ids := List.mem_of_getElem? hk
  have hz1 := G.upd.size
  have hrowA1 : w1.ownsRow W.heap.size 46 1 va ids.length (ids.map ptrV) := ownsRow_upd h.rowA G.upd (fun g hg => h.notA g hg)
  have hnotU : ∀ g, vu.ownBlock = some g → ¬ Foot lk ids N g := fun g hg => by
    obtain ⟨_, _, c, hc⟩ := ownsRow_base h.rowU hg
    exact h.fam.notFoot hc (by decide) (by decide) (by decide)
  have hrowU1 : w1.ownsRow W.heap.size 3 1 vu ups.length (intsV ups) := ownsRow_upd h.rowU G.upd hnotU
  have hrowU2 : w2.ownsRow W.heap.size 3 1 vu ups.length (intsV ups) := ownsRow_upd hrowU1 AU (fun g hg e => by
    obtain ⟨_, _, c, hc⟩ := ownsRow_base hrowA1 e
    exact ownsRow_ne hrowU1 hc (by decide) hg rfl)
  have hnotA1 : ∀ g, va.ownBlock = some g → ¬ Foot lk (ids ++ [wr.heap.size + 1]) N' g := fun g hg hf => by
    rcases G.foot g hf with h' | h'
    · exact h.notA g hg h'
    · have := (ownsRow_base h.rowA hg).2.1; omega
  have F2 : Fam w2 n₀ lk (ids ++ [wr.heap.size + 1]) N' (pgX pg (wr.heap.size + 1) s) 0 := G.fam.upd AU (fun g hf e => hnotA1 g e hf)
  have hnotA2 : ∀ g, va'.ownBlock = some g → ¬ Foot lk (ids ++ [wr.heap.size + 1]) N' g := fun g hg hf => by
    rcases AM with m | ⟨j, m, hj⟩
    · exact hnotA1 g (m.symm.trans hg) hf
    · rw [m] at hg
      injection hg with e
      have := (Foot.range G.fam hf).2
      omega
  have hnotU2 : ∀ g, vu.ownBlock = some g → ¬ Foot lk (ids ++ [wr.heap.size + 1]) N' g := fun g hg => by
    obtain ⟨_, _, c, hc⟩ := ownsRow_base hrowU2 hg
    exact F2.notFoot hc (by decide) (by decide) (by decide)
  have F3 : Fam w3 n₀ lk (ids ++ [wr.heap.size + 1]) N' (pgX pg (wr.heap.size + 1) s) 0 := F2.upd UU (fun g hf e => hnotU2 g e hf)
  have A3 : w3.ownsRow W.heap.size 46 1 va' (ids.length + 1) (ids.map ptrV ++ [ptrV (wr.heap.size + 1)]) := ownsRow_upd A UU (fun g hg e => by
    obtain ⟨_, _, c, hc⟩ := ownsRow_base hrowU2 e
    exact ownsRow_ne A hc (by decide) hg rfl)
  have hWs := h.below.size
  have b1 : Below W.heap.size W w1 := h.below.trans (G.upd.below hWs (fun g hg hf => by have := (Foot.range h.fam hf).1; have := h.base; omega))
  have b2 : Below W.heap.size W w2 := b1.trans (AU.below b1.size (fun g hg e => by have := (ownsRow_base h.rowA e).1; omega))
  have b3 : Below W.heap.size W w3 := b2.trans (UU.below b2.size (fun g hg e => by have := (ownsRow_base h.rowU e).1; omega))
  have hxn : wr.heap.size + 1 ∉ ids := fun hc => by have := h.fam.lt hc; omega
  refine ⟨F3, h.base, b3, by simpa using A3, by simpa using U, by simp [h.len], by simp, hnotA2, ?_, ?_⟩
  · intro i x hi
    by_cases hil : i < ids.length
    · rw [List.getElem?_append_left hil] at hi
      have hxne : x ≠ wr.heap.size + 1 := fun e => hxn (e ▸ List.mem_of_getElem? hi)
      have hpx : pgX pg (wr.heap.size + 1) s x = pg x := by unfold pgX; rw [if_neg hxne]
      rw [hpx]
      rcases h.link i x hi with h' | ⟨j, j1, j2, j3⟩
      · exact Or.inl h'
      · refine Or.inr ⟨j, j1, ?_, ?_⟩
        · rw [List.getElem?_append_left (by rw [h.len]; exact hil)]; exact j2
        · rw [List.getElem?_append_left (by omega)]; exact j3
    · have hi' : i = ids.length := by
        have := (List.getElem?_eq_some_iff.1 hi).1
        simp at this
        omega
      subst hi'
      have hkl := (List.getElem?_eq_some_iff.1 hk).1
      rw [List.getElem?_append_right (Nat.le_refl _)] at hi
      simp at hi
      refine Or.inr ⟨k, hkl, ?_, ?_⟩
      · rw [← h.len, List.getElem?_append_right (Nat.le_refl _)]; simp
      · rw [List.getElem?_append_left hkl, hk]
        unfold pgX; rw [if_pos hi.symm]
  · intro x hx
    rcases List.mem_append.1 hx with hx | hx
    · rw [(G.old x hx).1, (G.old x hx).2]; exact h.fresh x hx
    · simp at hx; subst hx
      exact ⟨by rw [G.why]; exact (h.fresh s hs).1, G.left⟩

set_option maxRecDepth 100000 in
set_option maxHeartbeats 1000000 in
theorem grown_any (ad : Option Addr) (n cap : Nat) (K : List Int) (w : World) (hK : HoldsV w ad n (intsV K)) (hI : I64L K) (hn : n * 8 ≤ 140737488351232) :
    Calls Try.prog 12 #[.slice ad n cap] w fun e w' => ∃ va vu ids ups n₀ lk N pg, e = .returned (.tuple #[va, vu, .bool true]) ∧ Grw w w' ids ups va vu n₀ lk N pg ∧ ids.length = n + 1 := by
  have HN := new_any 0 (by omega) w
  obtain ⟨w1, hw1⟩ : ∃ w1, newL w (budg 0) = w1 := ⟨_, rfl⟩
  have F1 := Fam.one w (budg 0)
  rw [hw1] at HN F1
  have b1 : Below w.heap.size w w1 := by
    rw [← hw1]; simp only [newL, newW]
    exact (((Below.refl _ w).alloc (Nat.le_refl _) _).alloc (by simp) _).alloc (by simp; omega) _
  have s1 := b1.size
  obtain ⟨a, ha⟩ : ∃ a, w.heap.size + 2 = a := ⟨_, rfl⟩
  rw [ha] at F1 HN
  obtain ⟨i0, hi, hz0, hz1, hz2⟩ := info_parts infoPtr
  obtain ⟨i1, hj, hy0, hy1, hy2⟩ := info_parts infoInt
  have G0 : Grw w ((w1.alloc (.cells #[ptrV a] 46)).alloc (.cells #[.int .i64 (-1)] 3)) [a] [-1] (.slice (some ⟨w1.heap.size, 0, none⟩) 1 1) (.slice (some ⟨w1.heap.size + 1, 0, none⟩) 1 1) w.heap.size w.heap.size (fun _ => ndNew none 0 (budg 0)) (fun _ => none) := by
    have hA := Blk.new w1 #[ptrV a] 46
    have hB := Blk.new (w1.alloc (.cells #[ptrV a] 46)) #[.int .i64 (-1)] 3
    rw [World.size_alloc] at hB
    refine ⟨(F1.alloc _).alloc _, Nat.le_refl _, (b1.alloc s1 _).alloc (by simp; omega) _, ?_, ?_, rfl, by simp, ?_, ?_, ?_⟩
    · exact ⟨rfl, Or.inr ⟨w1.heap.size, 1, #[ptrV a], rfl, s1, hA.alloc _, Nat.le_refl _, by unfold maxLen; omega, rfl, rfl⟩⟩
    · exact ⟨rfl, Or.inr ⟨w1.heap.size + 1, 1, #[.int .i64 (-1)], rfl, by omega, hB, Nat.le_refl _, by unfold maxLen; omega, rfl, rfl⟩⟩
    · intro g hg hf
      simp [Value.ownBlock] at hg
      have := (Foot.range F1 hf).2
      omega
    · intro i x hx
      match i, hx with
      | 0, hx => exact Or.inl ⟨rfl, rfl⟩
      | i + 1, hx => simp at hx
    · intro x _
      exact ⟨rfl, rfl⟩
  have HK : Hid (HoldsV w ad n (intsV K)) := hK
  have HG0 : Hid (Grw w ((w1.alloc (.cells #[ptrV a] 46)).alloc (.cells #[.int .i64 (-1)] 3)) [a] [-1] (.slice (some ⟨w1.heap.size, 0, none⟩) 1 1) (.slice (some ⟨w1.heap.size + 1, 0, none⟩) 1 1) w.heap.size w.heap.size (fun _ => ndNew none 0 (budg 0)) (fun _ => none)) := G0
  clear hK G0 F1
  go_enter Try.func12, Try.ntmps12
  go_wp2_with (go_at_call 19; refine HN.mono ?_; clear HN; rintro e w' ⟨rfl, hw⟩; obtain rfl := hw.symm)
  go_loopw [7, 8, 9] (fun x y i wr => ∃ (j : Nat) (va vu : Value) (ids : List Nat) (ups : List Int) (n₀ lk : Nat) (N : Nat → Nd) (pg : Nat → Option Nat), x = va ∧ y = vu ∧ i = .int .i64 j ∧ j ≤ n ∧ ids.length = j + 1 ∧ Grw w wr ids ups va vu n₀ lk N pg) (fun _ _ i _ => n - (intOf i).toNat)
  case atStart => exact ⟨0, _, _, [a], [-1], _, _, _, _, rfl, rfl, rfl, by omega, rfl, HG0⟩
  case round =>
    obtain ⟨j, va, vu, ids, ups, n₀, lk, N, pg, rfl, rfl, rfl, hjn, hlen, G⟩ := hrel
    have hsz := G.below.size
    by_cases hlt : j < n
    · obtain ⟨b, o, x, rfl, hx, hcx, x0, x1⟩ := HoldsV.int (HoldsV.below (show HoldsV w ad n (intsV K) from HK) G.below) hI hlt
      obtain ⟨k, hkl, HP⟩ := pick_nat x ids.length x0 x1 G.pos (by omega) wr
      obtain ⟨s, hs⟩ : ∃ s, ids[k]? = some s := ⟨_, List.getElem?_eq_getElem hkl⟩
      have HU := Under_any G.fam (s := s) (List.mem_of_getElem? hs) 0 (by omega) (by omega)
      have rA := G.rowA
      have rU := G.rowU
      obtain ⟨ga, ca, rfl⟩ := own_at rA G.pos
      obtain ⟨gu, cu, rfl⟩ := own_at rU (by rw [G.len]; exact G.pos)
      have hcs : wr.cell? ⟨ga, k, none⟩ = some (ptrV s) := by
        have := rA.cells (g := ga) rfl k (ptrV s) (by simp [hs])
        rwa [Addr.add_lit, Nat.zero_add] at this
      have hlz : (j : Int) < (n : Int) := by omega
      have hkz : (k : Int) < (ids.length : Int) := by omega
      have HS : Hid (ids[k]? = some s) := hs
      have HG : Hid (Grw w wr ids ups (.slice (some ⟨ga, 0, none⟩) ids.length ca) (.slice (some ⟨gu, 0, none⟩) ups.length cu) n₀ lk N pg) := G
      have hub : ups.length ≤ n := by rw [G.len]; omega
      have hnotU : ∀ g, (Value.slice (some ⟨gu, 0, none⟩) ups.length cu).ownBlock = some g → ¬ Foot lk ids N g := fun g hg => by
        obtain ⟨_, _, c, hc⟩ := ownsRow_base rU hg
        exact G.fam.notFoot hc (by decide) (by decide) (by decide)
      have hnotA := G.notA
      have HNA : Hid (∀ g, (Value.slice (some ⟨ga, 0, none⟩) ids.length ca).ownBlock = some g → ¬ Foot lk ids N g) := hnotA
      have HNU : Hid (∀ g, (Value.slice (some ⟨gu, 0, none⟩) ups.length cu).ownBlock = some g → ¬ Foot lk ids N g) := hnotU
      have HRA : Hid (wr.ownsRow w.heap.size 46 1 (.slice (some ⟨ga, 0, none⟩) ids.length ca) ids.length (ids.map ptrV)) := rA
      have HRU : Hid (wr.ownsRow w.heap.size 3 1 (.slice (some ⟨gu, 0, none⟩) ups.length cu) ups.length (intsV ups)) := rU
      have HL : Hid (ids.length = j + 1) := hlen
      have hlb : ids.length ≤ n := by omega
      clear hs G hnotU hnotA rA rU hx hlen
      go_wp2_with (first
        | (go_at_call 13; refine HP.mono ?_; clear HP; rintro e w' ⟨rfl, hw⟩; obtain rfl := hw.symm)
        | (go_at_call 15; refine HU.mono ?_; clear HU; rintro e w2 ⟨rfl, N', G1⟩)
        | (at_builtin; refine wpList_app _ rfl (.tmp 53) (.tmp 55) 25 25 rfl w.heap.size 46 i0 (.pointer none) 8 Try.underlying25 hi hz0 hz1 hz2 rfl _ _ _ rfl (World.ownsRow.alloc (ownsRow_upd (show wr.ownsRow _ _ _ _ _ _ from HRA) G1.upd HNA) _) _ 1 [ptrV (wr.heap.size + 1)] rfl (Src.ofSlice _ Try.underlying25 ⟨w2.heap.size, 0, none⟩ 1 1 _ rfl ?c1 ?c2) ?c3 ?c4 ?c5 ?_))
      case c1 =>
        intro j u hj
        match j, hj with
        | 0, hj => simp at hj; subst hj; simp [Addr.add]
      case c2 => intro u hu; simp at hu; subst hu; rfl
      case c3 => unfold maxLen; omega
      case c4 => omega
      case c5 => have := G1.upd.size; simp; omega
      intro v4 w4 o4 g4 m4
      have u4 : Upd (fun q => (Value.slice (some ⟨ga, 0, none⟩) ids.length ca).ownBlock = some q) w2 w4 := ((Upd.refl _ w2).alloc _).grown g4 (fun q _ e => e)
      have m4' : Moved w2 (Value.slice (some ⟨ga, 0, none⟩) ids.length ca) v4 := by
        rcases m4 with m | ⟨q, m, hq⟩
        · exact Or.inl m
        · exact Or.inr ⟨q, m, by simp at hq; omega⟩
      have rU2 : w2.ownsRow w.heap.size 3 1 (.slice (some ⟨gu, 0, none⟩) ups.length cu) ups.length (intsV ups) := ownsRow_upd (show wr.ownsRow _ _ _ _ _ _ from HRU) G1.upd HNU
      have rA2 : w2.ownsRow w.heap.size 46 1 (.slice (some ⟨ga, 0, none⟩) ids.length ca) ids.length (ids.map ptrV) := ownsRow_upd (show wr.ownsRow _ _ _ _ _ _ from HRA) G1.upd HNA
      have rU4 : w4.ownsRow w.heap.size 3 1 (.slice (some ⟨gu, 0, none⟩) ups.length cu) ups.length (intsV ups) := ownsRow_upd rU2 u4 (fun q hq e => by
        obtain ⟨_, _, c, hc⟩ := ownsRow_base rA2 e
        exact ownsRow_ne rU2 hc (by decide) hq rfl)
      have z4 := u4.size
      have z2 := G1.upd.size
      obtain ⟨g4', c4', rfl⟩ := ownsRow_sl o4
      have HO4 : Hid (w4.ownsRow w.heap.size 46 1 (.slice (some ⟨g4', 0, none⟩) (ids.length + 1) c4') (ids.length + 1) (ids.map ptrV ++ [ptrV (wr.heap.size + 1)])) := o4
      have HG1 : Hid (Grown1 wr w2 n₀ lk ids N N' pg s (budg 0)) := G1
      clear o4 g4 m4 rU2 rA2 G1
      go_wp2_with (at_builtin; refine wpList_app _ rfl (.tmp 57) (.tmp 59) 41 41 rfl w.heap.size 3 i1 (.int .i64 0) 8 Try.underlying41 hj hy0 hy1 hy2 rfl _ _ _ rfl (rU4.alloc _) _ 1 [.int .i64 (k : Int)] rfl (Src.ofSlice _ Try.underlying41 ⟨w4.heap.size, 0, none⟩ 1 1 _ rfl ?d1 ?d2) ?d3 ?d4 ?d5 ?_)
      case d1 =>
        intro j u hj
        match j, hj with
        | 0, hj => simp at hj; subst hj; simp [Addr.add]
      case d2 => intro u hu; simp at hu; subst hu; rfl
      case d3 => unfold maxLen; omega
      case d4 => omega
      case d5 => simp; omega
      intro v5 w5 o5 g5 m5
      have u5 : Upd (fun q => (Value.slice (some ⟨gu, 0, none⟩) ups.length cu).ownBlock = some q) w4 w5 := ((Upd.refl _ w4).alloc _).grown g5 (fun q _ e => e)
      have GG := Grw.more (show Grw w wr ids ups _ _ n₀ lk N pg from HG) (show ids[k]? = some s from HS) (show Grown1 wr w2 n₀ lk ids N N' pg s (-1) from HG1) HO4 u4 m4' o5 u5
      have hlj : (ids ++ [wr.heap.size + 1]).length = j + 1 + 1 := by simp; exact HL
      clear o5 g5 m5 u5 u4 m4' rU4
      go_wp2
      go_roundw
      case rel => exact ⟨j + 1, _, _, _, _, n₀, lk, N', _, rfl, rfl, by simp, by omega, hlj, GG⟩
      case measure => simp [intOf]; omega
    · obtain rfl : j = n := by omega
      obtain ⟨a1, l1, c1, rfl⟩ := row_sh G.rowA
      obtain ⟨a2, l2, c2, rfl⟩ := row_sh G.rowU
      have HG : Hid (Grw w wr ids ups (.slice a1 l1 c1) (.slice a2 l2 c2) n₀ lk N pg) := G
      clear G
      go_wp2
      refine bodyPost_ret (results_tmp3 rfl _ _ _) rfl ?_
      exact ⟨_, _, ids, ups, n₀, lk, N, pg, rfl, HG, hlen⟩
end Go.Proofs.Ytmepapbbebddiaa
