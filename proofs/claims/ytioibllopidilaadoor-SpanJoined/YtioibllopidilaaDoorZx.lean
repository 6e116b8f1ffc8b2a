/-
  Contracts: the taker's attributes and events.
-/
import Derived.Test.YtioibllopidilaaDoorZo
namespace Go.Proofs.YtioibllopidilaaDoor
open Go.Shelf Go.RowKit
set_option maxRecDepth 100000

theorem a4_0 (a b c d v : Value) : (#[a, b, c, d] : Array Value).setIfInBounds 0 v = #[v, b, c, d] := rfl
theorem a4_1 (a b c d v : Value) : (#[a, b, c, d] : Array Value).setIfInBounds 1 v = #[a, v, c, d] := rfl
theorem a4_2 (a b c d v : Value) : (#[a, b, c, d] : Array Value).setIfInBounds 2 v = #[a, b, v, d] := rfl
theorem a4_3 (a b c d v : Value) : (#[a, b, c, d] : Array Value).setIfInBounds 3 v = #[a, b, c, v] := rfl
theorem a2_0 (a b v : Value) : (#[a, b] : Array Value).setIfInBounds 0 v = #[v, b] := rfl
theorem a2_1 (a b v : Value) : (#[a, b] : Array Value).setIfInBounds 1 v = #[a, v] := rfl

def attrP (K : List Int) (s : Option Nat) : AttrD × Option Nat :=
  (⟨(textP K 40 s).1, (smallP K (textP K 40 s).2).1, (textP K 200 (smallP K (textP K 40 s).2).2).1, (intP K (textP K 200 (smallP K (textP K 40 s).2).2).2).1⟩, (intP K (textP K 200 (smallP K (textP K 40 s).2).2).2).2)
def eventP (K : List Int) (s : Option Nat) : EventD × Option Nat := (⟨(momP K s).1, (textP K 100 (momP K s).2).1⟩, (textP K 100 (momP K s).2).2)
def attrC (a : AttrD) : List Value := [.string a.key, .int .i64 a.kind, .string a.text, .int .i64 a.num]
def eventC (a : EventD) : List Value := [.int .i64 a.moment, .string a.name]
def attrsP (K : List Int) (s : Option Nat) : List AttrD × Option Nat := iterS (attrP K) (countP K 32 s).1 (countP K 32 s).2
def eventsP (K : List Int) (s : Option Nat) : List EventD × Option Nat := iterS (eventP K) (countP K 32 s).1 (countP K 32 s).2
theorem Tryd.info62 : (Tryd.prog.info? 62).map (fun i => (i.zero, i.size, i.bytes)) = some (some (.agg #[.string ⟨#[]⟩, .int .i64 0, .string ⟨#[]⟩, .int .i64 0]), 4, 48) := by kernel_rfl
theorem Tryd.info64 : (Tryd.prog.info? 64).map (fun i => (i.zero, i.size, i.bytes)) = some (some (.agg #[.int .i64 0, .string ⟨#[]⟩]), 2, 24) := by kernel_rfl
theorem upd_far {S : Nat → Prop} {w0 w : World} {E i : Nat} {v : Value} (hu : Upd S w0 w) (hE : w0.heap.size ≤ E) : Upd S w0 (w.setCell ⟨E, i, none⟩ v) :=
  Upd.setCell (p := ⟨E, i, none⟩) hu (fun h => by simp at h; omega) v

theorem own_fresh {base : Nat} {w : World} {e : TypeId} {size : Nat} {v : Value} {n : Nat} {xs : List Value} (h : w.ownsRow base e size v n xs) : v.ownBlock ≠ some w.heap.size := by
  intro hk
  rcases h.2 with ⟨rfl, _⟩ | ⟨g, cap, cur, rfl, _, hg, _⟩
  · simp [Value.ownBlock] at hk
  · simp [Value.ownBlock] at hk
    have := lt_of_block hg
    omega
theorem eventP_eq (K : List Int) (s : Option Nat) : eventP K s = (⟨(momP K s).1, (textP K 100 (momP K s).2).1⟩, (textP K 100 (momP K s).2).2) := rfl
theorem attrP_eq (K : List Int) (s : Option Nat) : attrP K s = (⟨(textP K 40 s).1, (smallP K (textP K 40 s).2).1, (textP K 200 (smallP K (textP K 40 s).2).2).1, (intP K (textP K 200 (smallP K (textP K 40 s).2).2).2).1⟩, (intP K (textP K 200 (smallP K (textP K 40 s).2).2).2).2) := rfl

set_option maxHeartbeats 2000000 in
theorem tkEvents_any (T R g : Nat) (K : List Int) (s : Option Nat) (w : World) (h : Tq w T R g K s) :
    Calls Tryd.prog 62 #[.pointer (some ⟨T, 0, none⟩)] w fun e w' => ∃ v, e = .returned v ∧ w'.ownsRow w.heap.size 64 2 v (eventsP K s).1.length ((eventsP K s).1.flatMap eventC) ∧ Tq w' T R g K (eventsP K s).2 ∧ Upd (TR T R) w w' := by
  obtain ⟨i0, hi, hz0, hz1, hz2⟩ := info_parts Tryd.info64
  have CN := count_any T R g K s 32 47 w h.tk
  have hN := countP_le K 32 s
  have hlo := h.tabs.lt
  unfold eventsP
  obtain ⟨N, hN1⟩ : ∃ N, (countP K 32 s).1 = N := ⟨_, rfl⟩
  obtain ⟨s1, hs1⟩ : ∃ s1, (countP K 32 s).2 = s1 := ⟨_, rfl⟩
  rw [hN1] at CN hN ⊢
  rw [hs1] at CN ⊢
  clear hN1 hs1
  go_enter Tryd.func62, Tryd.ntmps62
  go_wp2_with (go_at_call 80; refine CN.mono ?_; rintro e w1 ⟨rfl, k1, u1⟩; have q1 := h.step k1 u1)
  clear CN
  go_loopw [3, 7] (fun a b wr => ∃ k : Nat, b = .int .u64 k ∧ k ≤ N ∧ wr.ownsRow w.heap.size 64 2 a k ((iterS (eventP K) k s1).1.flatMap eventC) ∧ Tq wr T R g K (iterS (eventP K) k s1).2 ∧ Upd (TR T R) w wr) (fun _ b _ => N - (intOf b).toNat)
  case atStart => exact ⟨0, rfl, by omega, World.ownsRow_nil _ _ _ _, q1, u1⟩
  case round =>
    obtain ⟨k, rfl, hk, ho, hq, hu⟩ := hrel
    clear q1 k1 u1
    have hsz := hu.size
    by_cases hlt : k < N
    · have ba := (Below.refl wr.heap.size wr).alloc (Nat.le_refl _) (.cells #[.int .i64 0, .string ⟨#[]⟩] 64)
      have qa := hq.below ba
      have oa := ho.alloc (.cells #[.int .i64 0, .string ⟨#[]⟩] 64)
      have ua := hu.alloc (.cells #[.int .i64 0, .string ⟨#[]⟩] 64)
      have ha := heap_alloc_new wr (.cells #[.int .i64 0, .string ⟨#[]⟩] 64)
      have hf : Far wr T R g wr.heap.size := hq.far (Nat.le_refl _)
      have hEown := own_fresh ho
      have M1 := mom_any T R g K _ _ qa.tk
      have e1 : (iterS (eventP K) (k + 1) s1).1 = (iterS (eventP K) k s1).1 ++ [(eventP K (iterS (eventP K) k s1).2).1] := rfl
      have e2 : (iterS (eventP K) (k + 1) s1).2 = (eventP K (iterS (eventP K) k s1).2).2 := rfl
      obtain ⟨x, hx⟩ : ∃ x, (momP K (iterS (eventP K) k s1).2).1 = x := ⟨_, rfl⟩
      obtain ⟨s2, hs2⟩ : ∃ s2, (momP K (iterS (eventP K) k s1).2).2 = s2 := ⟨_, rfl⟩
      obtain ⟨y, hy⟩ : ∃ y, (textP K 100 s2).1 = y := ⟨_, rfl⟩
      obtain ⟨s3, hs3⟩ : ∃ s3, (textP K 100 s2).2 = s3 := ⟨_, rfl⟩
      have HE : Hid ((iterS (eventP K) (k + 1) s1).1 = (iterS (eventP K) k s1).1 ++ [⟨x, y⟩] ∧ (iterS (eventP K) (k + 1) s1).2 = s3) := by
        refine ⟨?_, ?_⟩
        · rw [e1, eventP_eq K (iterS (eventP K) k s1).2, hs2, hx, hy]
        · rw [e2, eventP_eq K (iterS (eventP K) k s1).2, hs2, hs3]
      have M2 := fun w' h1 h2 => tkText_any T R g K s2 100 w' h1 h2 (by omega)
      rw [hx, hs2] at M1
      rw [hy, hs3] at M2
      clear e1 e2 hx hs2 hy hs3
      have hki : (k : Int) < (N : Int) := by omega
      go_wp2_with (first
        | (go_at_call 60; refine M1.mono ?_; clear M1; rintro e w5 ⟨rfl, k5, hu5⟩; have q5 := qa.step k5 hu5; have h5 := (hu5.block wr.heap.size (by simp) (fun e => e.elim (fun e => hf.t e.symm) (fun e => hf.r e.symm))).trans ha; have d5 := blk_cell h5 0 rfl; have f5 := blk_free h5 0; have o5 := own_step qa oa hu5 (by decide) (by decide); have uu5 := ua.trans hu5 (fun _ _ h => h); have q6 := q5.set (i := 0) (v := .int .i64 x) hf; have h6 := set_block h5 0 (.int .i64 x); rw [a2_0] at h6; have uu6 := upd_far (i := 0) (v := .int .i64 x) uu5 hsz; have o6 := ownsRow_setCell_other (a := ⟨wr.heap.size, 0, none⟩) o5 hEown (.int .i64 x))
        | (go_at_call 58; refine (M2 _ q6.tk q6.tabs).mono ?_; clear M2; rintro e w7 ⟨rfl, k7, hu7⟩; have q7 := q6.step k7 hu7; have h7 := (hu7.block wr.heap.size (lt_of_block h6) (fun e => e.elim (fun e => hf.t e.symm) (fun e => hf.r e.symm))).trans h6; have d7 := blk_cell h7 1 rfl; have f7 := blk_free h7 1; have o7 := own_step q6 o6 hu7 (by decide) (by decide); have uu7 := uu6.trans hu7 (fun _ _ h => h); have q8 := q7.set (i := 1) (v := .string y) hf; have h8 := set_block h7 1 (.string y); rw [a2_1] at h8; have uu8 := upd_far (i := 1) (v := .string y) uu7 hsz; have o8 := ownsRow_setCell_other (a := ⟨wr.heap.size, 1, none⟩) o7 hEown (.string y); have g0 := blk_cell h8 0 rfl; have g1 := blk_cell h8 1 rfl; have z8 := lt_of_block h8)
        | (at_builtin; refine wpList_appW _ rfl (.tmp 15) (.tmp 17) 31 31 rfl w.heap.size 64 i0 _ 2 24 Tryd.underlying31 hi hz0 hz1 hz2 rfl _ _ _ rfl (o8.alloc _) _ 1 [.int .i64 x, .string y] rfl (Src.ofSlice _ Tryd.underlying31 ⟨w7.heap.size, 0, none⟩ 1 1 _ rfl ?c1 ?c2) ?c3 ?c4 ?c5 ?_))
      case c1 =>
        intro j u hj
        match j, hj with
        | 0, hj => simp at hj; subst hj; rw [Addr.add_lit]; exact blk_cell (alloc_at (by simp)) 0 rfl
        | 1, hj => simp at hj; subst hj; rw [Addr.add_lit]; exact blk_cell (alloc_at (by simp)) 1 rfl
      case c2 => intro u hu; simp at hu; rcases hu with rfl | rfl <;> rfl
      case c3 => unfold maxLen; omega
      case c4 => omega
      case c5 => simp; have := uu7.size; omega
      intro v' w9 ho9 hg9 hm9
      have qb := q8.below ((Below.refl _ _).alloc (Nat.le_refl _) (.cells #[.int .i64 x, .string y] 64))
      have q9 : Tq w9 T R g K s3 := qb.grown (o8.alloc _) hg9 (by decide) (by decide) (by decide) hlo
      have u9' := upd_new (uu8.alloc (.cells #[.int .i64 x, .string y] 64)) (o8.alloc _) (Nat.le_refl _) hg9
      have hoA : w9.ownsRow w.heap.size 64 2 v' (k + 1) ((iterS (eventP K) (k + 1) s1).1.flatMap eventC) := by
        rw [HE.out.1]; simpa [eventC] using ho9
      have qA : Tq w9 T R g K (iterS (eventP K) (k + 1) s1).2 := by rw [HE.out.2]; exact q9
      obtain ⟨ao, l, c, rfl⟩ := row_shape hoA
      clear ho9 hg9 hm9 qb q9 q8 o8
      go_wp2
      go_roundw
      case rel => exact ⟨k + 1, by go_num, by omega, hoA, qA, u9'⟩
      case measure => simp [intOf]; omega
    · have hkn : k = N := by omega
      subst hkn
      obtain ⟨ao, l, c, rfl⟩ := row_shape ho
      go_wp2
      go_ret
      exact ⟨_, rfl, by rw [iterS_len]; exact ho, hq, hu⟩

set_option maxHeartbeats 4000000 in
theorem tkAttrs_any (T R g : Nat) (K : List Int) (s : Option Nat) (w : World) (h : Tq w T R g K s) :
    Calls Tryd.prog 61 #[.pointer (some ⟨T, 0, none⟩)] w fun e w' => ∃ v, e = .returned v ∧ w'.ownsRow w.heap.size 62 4 v (attrsP K s).1.length ((attrsP K s).1.flatMap attrC) ∧ Tq w' T R g K (attrsP K s).2 ∧ Upd (TR T R) w w' := by
  obtain ⟨i0, hi, hz0, hz1, hz2⟩ := info_parts Tryd.info62
  have CN := count_any T R g K s 32 46 w h.tk
  have hN := countP_le K 32 s
  have hlo := h.tabs.lt
  unfold attrsP
  obtain ⟨N, hN1⟩ : ∃ N, (countP K 32 s).1 = N := ⟨_, rfl⟩
  obtain ⟨s1, hs1⟩ : ∃ s1, (countP K 32 s).2 = s1 := ⟨_, rfl⟩
  rw [hN1] at CN hN ⊢
  rw [hs1] at CN ⊢
  clear hN1 hs1
  go_enter Tryd.func61, Tryd.ntmps61
  go_wp2_with (go_at_call 80; refine CN.mono ?_; rintro e w1 ⟨rfl, k1, u1⟩; have q1 := h.step k1 u1)
  clear CN
  go_loopw [3, 7] (fun a b wr => ∃ k : Nat, b = .int .u64 k ∧ k ≤ N ∧ wr.ownsRow w.heap.size 62 4 a k ((iterS (attrP K) k s1).1.flatMap attrC) ∧ Tq wr T R g K (iterS (attrP K) k s1).2 ∧ Upd (TR T R) w wr) (fun _ b _ => N - (intOf b).toNat)
  case atStart => exact ⟨0, rfl, by omega, World.ownsRow_nil _ _ _ _, q1, u1⟩
  case round =>
    obtain ⟨k, rfl, hk, ho, hq, hu⟩ := hrel
    clear q1 k1 u1
    have hsz := hu.size
    by_cases hlt : k < N
    · have ba := (Below.refl wr.heap.size wr).alloc (Nat.le_refl _) (.cells #[.string ⟨#[]⟩, .int .i64 0, .string ⟨#[]⟩, .int .i64 0] 62)
      have qa := hq.below ba
      have oa := ho.alloc (.cells #[.string ⟨#[]⟩, .int .i64 0, .string ⟨#[]⟩, .int .i64 0] 62)
      have ua := hu.alloc (.cells #[.string ⟨#[]⟩, .int .i64 0, .string ⟨#[]⟩, .int .i64 0] 62)
      have ha := heap_alloc_new wr (.cells #[.string ⟨#[]⟩, .int .i64 0, .string ⟨#[]⟩, .int .i64 0] 62)
      have hf : Far wr T R g wr.heap.size := hq.far (Nat.le_refl _)
      have hEown := own_fresh ho
      have M1 := tkText_any T R g K (iterS (attrP K) k s1).2 40 _ qa.tk qa.tabs (by omega)
      have e1 : (iterS (attrP K) (k + 1) s1).1 = (iterS (attrP K) k s1).1 ++ [(attrP K (iterS (attrP K) k s1).2).1] := rfl
      have e2 : (iterS (attrP K) (k + 1) s1).2 = (attrP K (iterS (attrP K) k s1).2).2 := rfl
      obtain ⟨x, hx⟩ : ∃ x, (textP K 40 (iterS (attrP K) k s1).2).1 = x := ⟨_, rfl⟩
      obtain ⟨s2, hs2⟩ : ∃ s2, (textP K 40 (iterS (attrP K) k s1).2).2 = s2 := ⟨_, rfl⟩
      obtain ⟨y, hy⟩ : ∃ y, (smallP K s2).1 = y := ⟨_, rfl⟩
      obtain ⟨s3, hs3⟩ : ∃ s3, (smallP K s2).2 = s3 := ⟨_, rfl⟩
      obtain ⟨z, hz⟩ : ∃ z, (textP K 200 s3).1 = z := ⟨_, rfl⟩
      obtain ⟨s4, hs4⟩ : ∃ s4, (textP K 200 s3).2 = s4 := ⟨_, rfl⟩
      obtain ⟨n, hn⟩ : ∃ n, (intP K s4).1 = n := ⟨_, rfl⟩
      obtain ⟨s5, hs5⟩ : ∃ s5, (intP K s4).2 = s5 := ⟨_, rfl⟩
      have HE : Hid ((iterS (attrP K) (k + 1) s1).1 = (iterS (attrP K) k s1).1 ++ [⟨x, y, z, n⟩] ∧ (iterS (attrP K) (k + 1) s1).2 = s5) := by
        refine ⟨?_, ?_⟩
        · rw [e1, attrP_eq K (iterS (attrP K) k s1).2, hs2, hx, hs3, hy, hs4, hz, hn]
        · rw [e2, attrP_eq K (iterS (attrP K) k s1).2, hs2, hs3, hs4, hs5]
      have M2 := fun w' h1 => small_any T R g K s2 w' h1
      have M3 := fun w' h1 h2 => tkText_any T R g K s3 200 w' h1 h2 (by omega)
      have M4 := fun w' h1 => takeI_any T R g K s4 w' h1
      rw [hx, hs2] at M1
      rw [hy, hs3] at M2
      rw [hz, hs4] at M3
      rw [hn, hs5] at M4
      clear e1 e2 hx hs2 hy hs3 hz hs4 hn hs5
      have hki : (k : Int) < (N : Int) := by omega
      go_wp2_with (first
        | (go_at_call 58; refine M1.mono ?_; clear M1; rintro e w5 ⟨rfl, k5, hu5⟩; have q5 := qa.step k5 hu5; have h5 := (hu5.block wr.heap.size (lt_of_block ha) (fun e => e.elim (fun e => hf.t e.symm) (fun e => hf.r e.symm))).trans ha; have d5 := blk_cell h5 0 rfl; have f5 := blk_free h5 0; have o5 := own_step qa oa hu5 (by decide) (by decide); have uu5 := ua.trans hu5 (fun _ _ h => h); have p5 := q5.set (i := 0) (v := .string x) hf; have j5 := set_block h5 0 (.string x); rw [a4_0] at j5; have v5 := upd_far (i := 0) (v := .string x) uu5 hsz; have t5 := ownsRow_setCell_other (a := ⟨wr.heap.size, 0, none⟩) o5 hEown (.string x))
        | (go_at_call 59; refine (M2 _ p5.tk).mono ?_; clear M2; rintro e w6 ⟨rfl, k6, hu6⟩; have q6 := p5.step k6 hu6; have h6 := (hu6.block wr.heap.size (lt_of_block j5) (fun e => e.elim (fun e => hf.t e.symm) (fun e => hf.r e.symm))).trans j5; have d6 := blk_cell h6 1 rfl; have f6 := blk_free h6 1; have o6 := own_step p5 t5 hu6 (by decide) (by decide); have uu6 := v5.trans hu6 (fun _ _ h => h); have p6 := q6.set (i := 1) (v := .int .i64 y) hf; have j6 := set_block h6 1 (.int .i64 y); rw [a4_1] at j6; have v6 := upd_far (i := 1) (v := .int .i64 y) uu6 hsz; have t6 := ownsRow_setCell_other (a := ⟨wr.heap.size, 1, none⟩) o6 hEown (.int .i64 y))
        | (go_at_call 58; refine (M3 _ p6.tk p6.tabs).mono ?_; clear M3; rintro e w7 ⟨rfl, k7, hu7⟩; have q7 := p6.step k7 hu7; have h7 := (hu7.block wr.heap.size (lt_of_block j6) (fun e => e.elim (fun e => hf.t e.symm) (fun e => hf.r e.symm))).trans j6; have d7 := blk_cell h7 2 rfl; have f7 := blk_free h7 2; have o7 := own_step p6 t6 hu7 (by decide) (by decide); have uu7 := v6.trans hu7 (fun _ _ h => h); have p7 := q7.set (i := 2) (v := .string z) hf; have j7 := set_block h7 2 (.string z); rw [a4_2] at j7; have v7 := upd_far (i := 2) (v := .string z) uu7 hsz; have t7 := ownsRow_setCell_other (a := ⟨wr.heap.size, 2, none⟩) o7 hEown (.string z); obtain ⟨vv7, tt7, th7, hr7⟩ := p7.tk.shape; have c7 := blk_cell th7 0 rfl)
        | (go_at_call 86; refine (M4 _ p7.tk).mono ?_; clear M4; rintro e w8 ⟨rfl, k8, hu8⟩; have q8 := p7.step k8 hu8; have h8 := (hu8.block wr.heap.size (lt_of_block j7) (fun e => e.elim (fun e => hf.t e.symm) (fun e => hf.r e.symm))).trans j7; have d8 := blk_cell h8 3 rfl; have f8 := blk_free h8 3; have o8 := own_step p7 t7 hu8 (by decide) (by decide); have uu8 := v7.trans hu8 (fun _ _ h => h); have p8 := q8.set (i := 3) (v := .int .i64 n) hf; have j8 := set_block h8 3 (.int .i64 n); rw [a4_3] at j8; have v8 := upd_far (i := 3) (v := .int .i64 n) uu8 hsz; have t8 := ownsRow_setCell_other (a := ⟨wr.heap.size, 3, none⟩) o8 hEown (.int .i64 n); have g0 := blk_cell j8 0 rfl; have g1 := blk_cell j8 1 rfl; have g2 := blk_cell j8 2 rfl; have g3 := blk_cell j8 3 rfl)
        | (at_builtin; refine wpList_appW _ rfl (.tmp 29) (.tmp 31) 30 30 rfl w.heap.size 62 i0 _ 4 48 Tryd.underlying30 hi hz0 hz1 hz2 rfl _ _ _ rfl (t8.alloc _) _ 1 [.string x, .int .i64 y, .string z, .int .i64 n] rfl (Src.ofSlice _ Tryd.underlying30 ⟨w8.heap.size, 0, none⟩ 1 1 _ rfl ?c1 ?c2) ?c3 ?c4 ?c5 ?_))
      case c1 =>
        intro j u hj
        match j, hj with
        | 0, hj => simp at hj; subst hj; rw [Addr.add_lit]; exact blk_cell (alloc_at (by simp)) 0 rfl
        | 1, hj => simp at hj; subst hj; rw [Addr.add_lit]; exact blk_cell (alloc_at (by simp)) 1 rfl
        | 2, hj => simp at hj; subst hj; rw [Addr.add_lit]; exact blk_cell (alloc_at (by simp)) 2 rfl
        | 3, hj => simp at hj; subst hj; rw [Addr.add_lit]; exact blk_cell (alloc_at (by simp)) 3 rfl
      case c2 => intro u hu; simp at hu; rcases hu with rfl | rfl | rfl | rfl <;> rfl
      case c3 => unfold maxLen; omega
      case c4 => omega
      case c5 => simp; have := uu8.size; omega
      intro v' w9 ho9 hg9 hm9
      have qb := p8.below ((Below.refl _ _).alloc (Nat.le_refl _) (.cells #[.string x, .int .i64 y, .string z, .int .i64 n] 62))
      have q9 : Tq w9 T R g K s5 := qb.grown (t8.alloc _) hg9 (by decide) (by decide) (by decide) hlo
      have u9' := upd_new (v8.alloc (.cells #[.string x, .int .i64 y, .string z, .int .i64 n] 62)) (t8.alloc _) (Nat.le_refl _) hg9
      have hoA : w9.ownsRow w.heap.size 62 4 v' (k + 1) ((iterS (attrP K) (k + 1) s1).1.flatMap attrC) := by
        rw [HE.out.1]; simpa [attrC] using ho9
      have qA : Tq w9 T R g K (iterS (attrP K) (k + 1) s1).2 := by rw [HE.out.2]; exact q9
      obtain ⟨ao, l, c, rfl⟩ := row_shape hoA
      clear ho9 hg9 hm9 qb q9 p8 t8
      go_wp2
      go_roundw
      case rel => exact ⟨k + 1, by go_num, by omega, hoA, qA, u9'⟩
      case measure => simp [intOf]; omega
    · have hkn : k = N := by omega
      subst hkn
      obtain ⟨ao, l, c, rfl⟩ := row_shape ho
      go_wp2
      go_ret
      exact ⟨_, rfl, by rw [iterS_len]; exact ho, hq, hu⟩
end Go.Proofs.YtioibllopidilaaDoor
