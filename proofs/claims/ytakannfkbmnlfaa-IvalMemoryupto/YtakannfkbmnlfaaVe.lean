/-
  Contracts of layer 6: the walk's pass (written by gen_ve.py).
-/
import Derived.Test.YtakannfkbmnlfaaVd
namespace Go.Proofs.Ytakannfkbmnlfaa
open Go.Shelf Go.RowKit
set_option maxRecDepth 100000

def PassP (base W g : Nat) (s : Wk) (v : Value) (w : World) (e : Ending) (w' : World) : Prop :=
  e = .returned (.tuple #[]) ∧ ∃ v', IsWk base w' W g s.n0 s.n1 s.at_ v' s.out ∧ Upd (fun k => k = W ∨ v.ownBlock = some k) w w' ∧ Moved w v v'
theorem IsWk.set1 {base W g : Nat} {n0 n1 at_ : Int} {v : Value} {out : List (Int × Int)} {w : World} (h : IsWk base w W g n0 n1 at_ v out) (t : Int) : IsWk base (w.setCell ⟨W, 1, none⟩ (.int .i64 t)) W g t n1 at_ v out := by
  refine ⟨?_, ownsRow_upd h.own (upd_one w W 1 (.int .i64 t)) (fun k hk e => h.ne (by rw [hk, e]))⟩
  rw [set_block h.blk 1]; rfl
theorem IsWk.set2 {base W g : Nat} {n0 n1 at_ : Int} {v : Value} {out : List (Int × Int)} {w : World} (h : IsWk base w W g n0 n1 at_ v out) (t : Int) : IsWk base (w.setCell ⟨W, 2, none⟩ (.int .i64 t)) W g n0 t at_ v out := by
  refine ⟨?_, ownsRow_upd h.own (upd_one w W 2 (.int .i64 t)) (fun k hk e => h.ne (by rw [hk, e]))⟩
  rw [set_block h.blk 2]; rfl
set_option maxHeartbeats 1000000 in
theorem pass_00 (base W g : Nat) (want : Bool → Bool → Bool) (n0 n1 at_ t : Int) (v : Value) (out : List (Int × Int)) (w : World) (h : IsWk base w W g n0 n1 at_ v out) (hg : Wants g want) (hb : base ≤ w.heap.size) (hn : out.length ≤ 1099511627776) (b0 : -1099511627776 ≤ n0) (b1 : n0 ≤ 1099511627776) :
    Calls Try.prog 34 #[.pointer (some ⟨W, 0, none⟩), .agg #[.int .i64 t, .int .i64 0, .int .i64 0]] w (PassP base W g (passL want ⟨n0, n1, at_, out⟩ (t, 0, 0)) v w) := by
  have wr : IntKind.i64.wrap (n0 + (1)) = n0 + (1) := wrap_i64_in _ (by omega) (by omega)
  have hp : passL want ⟨n0, n1, at_, out⟩ (t, 0, 0) = ⟨n0 + (1), n1, t, closeL want ⟨n0, n1, at_, out⟩ t⟩ := by
    unfold passL stepE; simp
  rw [hp]
  have h1 := h.alloc (.cells #[.int .i64 t, .int .i64 0, .int .i64 0] 50)
  have X1 : (w.alloc (.cells #[.int .i64 t, .int .i64 0, .int .i64 0] 50)).heap[w.heap.size]? = some (.cells #[.int .i64 t, .int .i64 0, .int .i64 0] 50 (0, 0)) := heap_alloc_new _ _
  have u1 : Upd (fun _ => False) w (w.alloc (.cells #[.int .i64 t, .int .i64 0, .int .i64 0] 50)) := (Upd.refl _ w).alloc _
  have T := close_any base W g want n0 n1 at_ t v out _ h1 hg (Nat.le_trans hb u1.size) hn
  have hW : W ≠ w.heap.size := fun e => by have := lt_of_block h.blk; omega
  have HV : Hid (∀ k, v.ownBlock = some k → k < w.heap.size) := fun k hk => by
    obtain ⟨_, cs, fz, hb⟩ := own_block h.own hk
    exact lt_of_block hb
  clear hp b0 b1 h hg
  unfold PassP
  unfold CloseP at T
  generalize closeL want ⟨n0, n1, at_, out⟩ t = out' at T ⊢
  go_enter Try.func34, Try.ntmps34
  go_wp2_with (go_at_call 41; refine T.mono ?_; clear T; rintro e w1 ⟨rfl, v1, h2, u2, m2⟩; have X2 := (u2.block _ (lt_of_block X1) (fun e => e.elim (fun e => hW e.symm) (fun e => by have := HV.out _ e; omega))).trans X1; have e0 := blk_cell X2 0 rfl; have e1 := blk_cell X2 1 rfl; have e2 := blk_cell X2 2 rfl; have d1 : w1.cell? ⟨W, 1, none⟩ = some (.int .i64 n0) := blk_cell h2.blk 1 rfl; have fd := blk_free h2.blk 1)
  have us := upd_one w1 W 1 (.int .i64 (n0 + (1)))
  have e3 : (w1.setCell ⟨W, 1, none⟩ (.int .i64 (n0 + (1)))).cell? ⟨w.heap.size, 2, none⟩ = some (.int .i64 0) := cell_upd us e2 (fun e => hW e.symm)
  go_region
  go_wp2
  go_returns
  have H := h2.set1 (n0 + (1))
  refine ⟨rfl, v1, ⟨H.blk, H.own⟩, ?_, ?_⟩
  · exact ((u1.mono (fun _ _ e => e.elim)).trans u2 (fun _ _ h => h)).trans (S' := fun k => k = W) us.drew (fun _ _ e => Or.inl e)
  · rcases m2 with h | ⟨k, h, h'⟩
    · exact Or.inl h
    · exact Or.inr ⟨k, h, Nat.le_trans u1.size h'⟩
set_option maxHeartbeats 1000000 in
theorem pass_01 (base W g : Nat) (want : Bool → Bool → Bool) (n0 n1 at_ t : Int) (v : Value) (out : List (Int × Int)) (w : World) (h : IsWk base w W g n0 n1 at_ v out) (hg : Wants g want) (hb : base ≤ w.heap.size) (hn : out.length ≤ 1099511627776) (b0 : -1099511627776 ≤ n1) (b1 : n1 ≤ 1099511627776) :
    Calls Try.prog 34 #[.pointer (some ⟨W, 0, none⟩), .agg #[.int .i64 t, .int .i64 0, .int .i64 1]] w (PassP base W g (passL want ⟨n0, n1, at_, out⟩ (t, 0, 1)) v w) := by
  have wr : IntKind.i64.wrap (n1 + (1)) = n1 + (1) := wrap_i64_in _ (by omega) (by omega)
  have hp : passL want ⟨n0, n1, at_, out⟩ (t, 0, 1) = ⟨n0, n1 + (1), t, closeL want ⟨n0, n1, at_, out⟩ t⟩ := by
    unfold passL stepE; simp
  rw [hp]
  have h1 := h.alloc (.cells #[.int .i64 t, .int .i64 0, .int .i64 1] 50)
  have X1 : (w.alloc (.cells #[.int .i64 t, .int .i64 0, .int .i64 1] 50)).heap[w.heap.size]? = some (.cells #[.int .i64 t, .int .i64 0, .int .i64 1] 50 (0, 0)) := heap_alloc_new _ _
  have u1 : Upd (fun _ => False) w (w.alloc (.cells #[.int .i64 t, .int .i64 0, .int .i64 1] 50)) := (Upd.refl _ w).alloc _
  have T := close_any base W g want n0 n1 at_ t v out _ h1 hg (Nat.le_trans hb u1.size) hn
  have hW : W ≠ w.heap.size := fun e => by have := lt_of_block h.blk; omega
  have HV : Hid (∀ k, v.ownBlock = some k → k < w.heap.size) := fun k hk => by
    obtain ⟨_, cs, fz, hb⟩ := own_block h.own hk
    exact lt_of_block hb
  clear hp b0 b1 h hg
  unfold PassP
  unfold CloseP at T
  generalize closeL want ⟨n0, n1, at_, out⟩ t = out' at T ⊢
  go_enter Try.func34, Try.ntmps34
  go_wp2_with (go_at_call 41; refine T.mono ?_; clear T; rintro e w1 ⟨rfl, v1, h2, u2, m2⟩; have X2 := (u2.block _ (lt_of_block X1) (fun e => e.elim (fun e => hW e.symm) (fun e => by have := HV.out _ e; omega))).trans X1; have e0 := blk_cell X2 0 rfl; have e1 := blk_cell X2 1 rfl; have e2 := blk_cell X2 2 rfl; have d2 : w1.cell? ⟨W, 2, none⟩ = some (.int .i64 n1) := blk_cell h2.blk 2 rfl; have fd := blk_free h2.blk 2)
  have us := upd_one w1 W 2 (.int .i64 (n1 + (1)))
  have e3 : (w1.setCell ⟨W, 2, none⟩ (.int .i64 (n1 + (1)))).cell? ⟨w.heap.size, 2, none⟩ = some (.int .i64 1) := cell_upd us e2 (fun e => hW e.symm)
  go_region
  go_wp2
  go_returns
  have H := h2.set2 (n1 + (1))
  refine ⟨rfl, v1, ⟨H.blk, H.own⟩, ?_, ?_⟩
  · exact ((u1.mono (fun _ _ e => e.elim)).trans u2 (fun _ _ h => h)).trans (S' := fun k => k = W) us.drew (fun _ _ e => Or.inl e)
  · rcases m2 with h | ⟨k, h, h'⟩
    · exact Or.inl h
    · exact Or.inr ⟨k, h, Nat.le_trans u1.size h'⟩
set_option maxHeartbeats 1000000 in
theorem pass_10 (base W g : Nat) (want : Bool → Bool → Bool) (n0 n1 at_ t : Int) (v : Value) (out : List (Int × Int)) (w : World) (h : IsWk base w W g n0 n1 at_ v out) (hg : Wants g want) (hb : base ≤ w.heap.size) (hn : out.length ≤ 1099511627776) (b0 : -1099511627776 ≤ n0) (b1 : n0 ≤ 1099511627776) :
    Calls Try.prog 34 #[.pointer (some ⟨W, 0, none⟩), .agg #[.int .i64 t, .int .i64 1, .int .i64 0]] w (PassP base W g (passL want ⟨n0, n1, at_, out⟩ (t, 1, 0)) v w) := by
  have wr : IntKind.i64.wrap (n0 + (-1)) = n0 + (-1) := wrap_i64_in _ (by omega) (by omega)
  have hp : passL want ⟨n0, n1, at_, out⟩ (t, 1, 0) = ⟨n0 + (-1), n1, t, closeL want ⟨n0, n1, at_, out⟩ t⟩ := by
    unfold passL stepE; simp
  rw [hp]
  have h1 := h.alloc (.cells #[.int .i64 t, .int .i64 1, .int .i64 0] 50)
  have X1 : (w.alloc (.cells #[.int .i64 t, .int .i64 1, .int .i64 0] 50)).heap[w.heap.size]? = some (.cells #[.int .i64 t, .int .i64 1, .int .i64 0] 50 (0, 0)) := heap_alloc_new _ _
  have u1 : Upd (fun _ => False) w (w.alloc (.cells #[.int .i64 t, .int .i64 1, .int .i64 0] 50)) := (Upd.refl _ w).alloc _
  have T := close_any base W g want n0 n1 at_ t v out _ h1 hg (Nat.le_trans hb u1.size) hn
  have hW : W ≠ w.heap.size := fun e => by have := lt_of_block h.blk; omega
  have HV : Hid (∀ k, v.ownBlock = some k → k < w.heap.size) := fun k hk => by
    obtain ⟨_, cs, fz, hb⟩ := own_block h.own hk
    exact lt_of_block hb
  clear hp b0 b1 h hg
  unfold PassP
  unfold CloseP at T
  generalize closeL want ⟨n0, n1, at_, out⟩ t = out' at T ⊢
  go_enter Try.func34, Try.ntmps34
  go_wp2_with (go_at_call 41; refine T.mono ?_; clear T; rintro e w1 ⟨rfl, v1, h2, u2, m2⟩; have X2 := (u2.block _ (lt_of_block X1) (fun e => e.elim (fun e => hW e.symm) (fun e => by have := HV.out _ e; omega))).trans X1; have e0 := blk_cell X2 0 rfl; have e1 := blk_cell X2 1 rfl; have e2 := blk_cell X2 2 rfl; have d1 : w1.cell? ⟨W, 1, none⟩ = some (.int .i64 n0) := blk_cell h2.blk 1 rfl; have fd := blk_free h2.blk 1)
  have us := upd_one w1 W 1 (.int .i64 (n0 + (-1)))
  have e3 : (w1.setCell ⟨W, 1, none⟩ (.int .i64 (n0 + (-1)))).cell? ⟨w.heap.size, 2, none⟩ = some (.int .i64 0) := cell_upd us e2 (fun e => hW e.symm)
  go_region
  go_wp2
  go_returns
  have H := h2.set1 (n0 + (-1))
  refine ⟨rfl, v1, ⟨H.blk, H.own⟩, ?_, ?_⟩
  · exact ((u1.mono (fun _ _ e => e.elim)).trans u2 (fun _ _ h => h)).trans (S' := fun k => k = W) us.drew (fun _ _ e => Or.inl e)
  · rcases m2 with h | ⟨k, h, h'⟩
    · exact Or.inl h
    · exact Or.inr ⟨k, h, Nat.le_trans u1.size h'⟩
set_option maxHeartbeats 1000000 in
theorem pass_11 (base W g : Nat) (want : Bool → Bool → Bool) (n0 n1 at_ t : Int) (v : Value) (out : List (Int × Int)) (w : World) (h : IsWk base w W g n0 n1 at_ v out) (hg : Wants g want) (hb : base ≤ w.heap.size) (hn : out.length ≤ 1099511627776) (b0 : -1099511627776 ≤ n1) (b1 : n1 ≤ 1099511627776) :
    Calls Try.prog 34 #[.pointer (some ⟨W, 0, none⟩), .agg #[.int .i64 t, .int .i64 1, .int .i64 1]] w (PassP base W g (passL want ⟨n0, n1, at_, out⟩ (t, 1, 1)) v w) := by
  have wr : IntKind.i64.wrap (n1 + (-1)) = n1 + (-1) := wrap_i64_in _ (by omega) (by omega)
  have hp : passL want ⟨n0, n1, at_, out⟩ (t, 1, 1) = ⟨n0, n1 + (-1), t, closeL want ⟨n0, n1, at_, out⟩ t⟩ := by
    unfold passL stepE; simp
  rw [hp]
  have h1 := h.alloc (.cells #[.int .i64 t, .int .i64 1, .int .i64 1] 50)
  have X1 : (w.alloc (.cells #[.int .i64 t, .int .i64 1, .int .i64 1] 50)).heap[w.heap.size]? = some (.cells #[.int .i64 t, .int .i64 1, .int .i64 1] 50 (0, 0)) := heap_alloc_new _ _
  have u1 : Upd (fun _ => False) w (w.alloc (.cells #[.int .i64 t, .int .i64 1, .int .i64 1] 50)) := (Upd.refl _ w).alloc _
  have T := close_any base W g want n0 n1 at_ t v out _ h1 hg (Nat.le_trans hb u1.size) hn
  have hW : W ≠ w.heap.size := fun e => by have := lt_of_block h.blk; omega
  have HV : Hid (∀ k, v.ownBlock = some k → k < w.heap.size) := fun k hk => by
    obtain ⟨_, cs, fz, hb⟩ := own_block h.own hk
    exact lt_of_block hb
  clear hp b0 b1 h hg
  unfold PassP
  unfold CloseP at T
  generalize closeL want ⟨n0, n1, at_, out⟩ t = out' at T ⊢
  go_enter Try.func34, Try.ntmps34
  go_wp2_with (go_at_call 41; refine T.mono ?_; clear T; rintro e w1 ⟨rfl, v1, h2, u2, m2⟩; have X2 := (u2.block _ (lt_of_block X1) (fun e => e.elim (fun e => hW e.symm) (fun e => by have := HV.out _ e; omega))).trans X1; have e0 := blk_cell X2 0 rfl; have e1 := blk_cell X2 1 rfl; have e2 := blk_cell X2 2 rfl; have d2 : w1.cell? ⟨W, 2, none⟩ = some (.int .i64 n1) := blk_cell h2.blk 2 rfl; have fd := blk_free h2.blk 2)
  have us := upd_one w1 W 2 (.int .i64 (n1 + (-1)))
  have e3 : (w1.setCell ⟨W, 2, none⟩ (.int .i64 (n1 + (-1)))).cell? ⟨w.heap.size, 2, none⟩ = some (.int .i64 1) := cell_upd us e2 (fun e => hW e.symm)
  go_region
  go_wp2
  go_returns
  have H := h2.set2 (n1 + (-1))
  refine ⟨rfl, v1, ⟨H.blk, H.own⟩, ?_, ?_⟩
  · exact ((u1.mono (fun _ _ e => e.elim)).trans u2 (fun _ _ h => h)).trans (S' := fun k => k = W) us.drew (fun _ _ e => Or.inl e)
  · rcases m2 with h | ⟨k, h, h'⟩
    · exact Or.inl h
    · exact Or.inr ⟨k, h, Nat.le_trans u1.size h'⟩
/-- An end as endsOf makes them. -/
def EndOk (e : Int × Int × Int) : Prop := (e.2.1 = 0 ∨ e.2.1 = 1) ∧ (e.2.2 = 0 ∨ e.2.2 = 1)
theorem pass_any (base W g : Nat) (want : Bool → Bool → Bool) (s : Wk) (v : Value) (x : Int × Int × Int) (w : World) (h : IsWk base w W g s.n0 s.n1 s.at_ v s.out) (hg : Wants g want) (hb : base ≤ w.heap.size) (hn : s.out.length ≤ 1099511627776) (b0 : -1099511627776 ≤ s.n0 ∧ s.n0 ≤ 1099511627776) (b1 : -1099511627776 ≤ s.n1 ∧ s.n1 ≤ 1099511627776) (hx : EndOk x) :
    Calls Try.prog 34 #[.pointer (some ⟨W, 0, none⟩), .agg #[.int .i64 x.1, .int .i64 x.2.1, .int .i64 x.2.2]] w (PassP base W g (passL want s x) v w) := by
  obtain ⟨t, kd, j⟩ := x
  obtain ⟨n0, n1, at_, out⟩ := s
  obtain ⟨hk, hj⟩ := hx
  simp only at hk hj
  rcases hk with rfl | rfl <;> rcases hj with rfl | rfl
  · exact pass_00 base W g want n0 n1 at_ t v out w h hg hb hn b0.1 b0.2
  · exact pass_01 base W g want n0 n1 at_ t v out w h hg hb hn b1.1 b1.2
  · exact pass_10 base W g want n0 n1 at_ t v out w h hg hb hn b0.1 b0.2
  · exact pass_11 base W g want n0 n1 at_ t v out w h hg hb hn b1.1 b1.2
end Go.Proofs.Ytakannfkbmnlfaa
