/-
  Contracts: Make.
-/
import Derived.Test.YtgoafinbaiepmaaGreatDoorFrAp
namespace Go.Proofs.YtgoafinbaiepmaaGreatDoor.fr
open Go.RowKit
set_option maxRecDepth 100000

theorem Holds.alloc {w : World} {ad : Option Addr} {n : Nat} {K : List Int} (h : Holds w ad n K) (o : Obj) : Holds (w.alloc o) ad n K := h.below ((Below.refl _ _).alloc (Nat.le_refl _) _)
theorem Holds.src {w : World} {ad : Option Addr} {n : Nat} {K : List Int} (hK : Holds w ad n K) (cap : Nat) : Src Tryz.prog 1 37 (.slice ad n cap) n (K.map (Value.int .u8)) w := by
  have hl := hK.len
  cases ad with
  | none =>
    have hK0 : K = [] := by
      cases K with
      | nil => rfl
      | cons x r => obtain ⟨a, ha, _⟩ := hK.cells 0 (.int .u8 x) (by simp); simp at ha
    subst hK0
    subst hl
    exact Src.ofNil _ Tryz.underlying37 cap
  | some a =>
    exact Src.ofSlice _ Tryz.underlying37 a n cap _ (by simpa using hl) (fun j u hj => by
      obtain ⟨a', ha, hc⟩ := hK.cells j u hj
      simp at ha; subst ha; exact hc) (u8_one K)

/-- The first 20 bytes of a head, a head, a frame. -/
def headA (k : Int) (q n s : Nat) : List Int := [83, 80, 82] ++ [k] ++ bigL q 8 ++ bigL n 4 ++ leL s
def headL (k : Int) (q n s : Nat) : List Int := headA k q n s ++ leL (moreB 0#32 (headA k q n s)).toNat
def makeL (k : Int) (q : Nat) (K : List Int) : List Int := headL k q K.length (moreB 0#32 K).toNat ++ K
theorem headA_len (k : Int) (q n s : Nat) : (headA k q n s).length = 20 := by simp [headA, bigL_len, leL_len]
theorem headL_len (k : Int) (q n s : Nat) : (headL k q n s).length = 24 := by simp [headL, headA_len, leL_len]
theorem headA_bytes (k : Int) (q n s : Nat) (hk : 0 ≤ k ∧ k < 256) : ByteL (headA k q n s) := by
  intro x hx
  simp only [headA, List.mem_append] at hx
  rcases hx with (((h | h) | h) | h) | h
  · simp at h; omega
  · simp at h; subst h; exact hk
  · exact bigL_bytes _ _ x h
  · exact bigL_bytes _ _ x h
  · exact bigL_bytes _ _ x h
theorem ByteL.append {K L : List Int} (h : ByteL K) (h' : ByteL L) : ByteL (K ++ L) := fun x hx => by
  rcases List.mem_append.1 hx with e | e
  · exact h x e
  · exact h' x e
theorem headL_bytes (k : Int) (q n s : Nat) (hk : 0 ≤ k ∧ k < 256) : ByteL (headL k q n s) := (headA_bytes k q n s hk).append (bigL_bytes _ _)
theorem makeL_bytes (k : Int) (q : Nat) (K : List Int) (hk : 0 ≤ k ∧ k < 256) (hK : ByteL K) : ByteL (makeL k q K) := (headL_bytes k q _ _ hk).append hK
theorem makeL_len (k : Int) (q : Nat) (K : List Int) : (makeL k q K).length = 24 + K.length := by simp [makeL, headL_len]

/-- Midway in Make: a table, and a row of one's own. -/
structure Mk (w : World) (T : Nat) (wk : World) (v : Value) (L : List Int) : Prop where
  below : Below w.heap.size w wk
  tab : wk.heap[T]? = some (.cells (tabAt 256) 220 (0, 0))
  lo : w.heap.size ≤ T
  own : wk.ownsRow w.heap.size 5 1 v L.length (L.map (Value.int .u8))
  ne : ∀ j, v.ownBlock = some j → T < j
theorem Mk.step {w : World} {T : Nat} {wk w' : World} {v v' : Value} {L L' : List Int} (h : Mk w T wk v L) (ho : w'.ownsRow w.heap.size 5 1 v' L'.length (L'.map (Value.int .u8))) (hU : Upd (fun j => v.ownBlock = some j) wk w') (hM : Moved wk v v') : Mk w T w' v' L' := by
  refine ⟨?_, ?_, h.lo, ho, ?_⟩
  · exact h.below.trans (hU.below h.below.size (fun k hk e => by have := h.ne k e; have := h.lo; omega))
  · exact (hU.block T (lt_of_block h.tab) (fun e => by have := h.ne T e; omega)).trans h.tab
  · intro j hj
    rcases hM with e | ⟨i, e, hi⟩
    · exact h.ne j (e ▸ hj)
    · rw [hj] at e; simp at e
      have := lt_of_block h.tab
      omega
theorem grown_upd {wk w2 : World} {v : Value} (hg : wk.grownBy w2 v.ownBlock) : Upd (fun j => v.ownBlock = some j) wk w2 := (Upd.refl _ _).grown hg (fun _ _ e => e)
theorem grown_upd' {wk w2 : World} {v : Value} {o : Obj} (hg : (wk.alloc o).grownBy w2 v.ownBlock) : Upd (fun j => v.ownBlock = some j) wk w2 := ((Upd.refl _ _).alloc o).grown hg (fun _ _ e => e)

theorem make_kind (k : Int) (q : Int) (ad : Option Addr) (n cap : Nat) (w : World) (hk : ¬ (1 ≤ k ∧ k ≤ 9)) :
    Calls Tryz.prog 60 #[.int .i64 k, .int .u64 q, .slice ad n cap] w fun e w' => e = .returned (.tuple #[.slice none 0 0, .int .i64 21]) ∧ w' = w := by
  go_enter Tryz.func60, Tryz.ntmps60
  go_wp2_with (go_at_call 117; refine (isKind_false k hk _).mono ?_; rintro e w' ⟨rfl, hw⟩; obtain rfl := hw.symm)
  go_ret2
  exact ⟨rfl, rfl⟩
theorem make_long (k : Int) (q : Int) (ad : Option Addr) (n cap : Nat) (w : World) (hk : 1 ≤ k ∧ k ≤ 9) (hn : 1048576 < n) :
    Calls Tryz.prog 60 #[.int .i64 k, .int .u64 q, .slice ad n cap] w fun e w' => e = .returned (.tuple #[.slice none 0 0, .int .i64 22]) ∧ w' = w := by
  have hz : (1048576 : Int) < (n : Int) := by omega
  go_enter Tryz.func60, Tryz.ntmps60
  go_wp2_with (go_at_call 117; refine (isKind_true k hk _).mono ?_; rintro e w' ⟨rfl, hw⟩; obtain rfl := hw.symm)
  go_ret2
  exact ⟨rfl, rfl⟩

set_option maxHeartbeats 2000000 in
theorem make_any (k : Int) (q : Nat) (ad : Option Addr) (n cap : Nat) (K : List Int) (w : World) (hk : 1 ≤ k ∧ k ≤ 9) (hn : n ≤ 1048576) (h : Holds w ad n K) (hK : ByteL K) :
    Calls Tryz.prog 60 #[.int .i64 k, .int .u64 (q : Int), .slice ad n cap] w fun e w' => ∃ v', e = .returned (.tuple #[v', .int .i64 0]) ∧ w'.ownsRow w.heap.size 5 1 v' (makeL k q K).length ((makeL k q K).map (Value.int .u8)) ∧ Below w.heap.size w w' := by
  obtain ⟨hv, hi⟩ := zero_of_info Tryz.info220
  have hs2 := tabAt_size 256
  obtain ⟨i0, hiu, hz0, hz1, hz2⟩ := info_parts Tryz.info5
  have hz : ¬ ((1048576 : Int) < (n : Int)) := by omega
  have hl := h.len
  have ek : k % 256 = k := by omega
  have en : (n : Int) % 18446744073709551616 = n := by omega
  go_enter Tryz.func60, Tryz.ntmps60
  go_wp2_with (first
    | (go_at_call 117; refine (isKind_true k hk _).mono ?_; rintro e w' ⟨rfl, hw⟩; obtain rfl := hw.symm)
    | (go_at_call 118; refine (newTable_any _).mono ?_; rintro e w1 ⟨rfl, hb1⟩; have hsz1 := hb1.size; have hnew := heap_alloc_new w1 (.cells (Array.replicate 256 (Value.int .u32 0)) 220))
    | (refine wpList_store_row rfl 220 (.tmp 8) (.tmp 16) rfl w1.heap.size 220 _ (tabAt 256) rfl rfl hnew (by rw [hs2]; exact hi) (by rw [hs2]; simp) (tabAt_one _) ?_; rw [World.setRow_alloc_new])
    | (at_make; refine wpList_make_own _ rfl _ (.tmp 19) 37 rfl w.heap.size 5 i0 (.int .u8 0) 1 Tryz.underlying37 hiu hz0 hz1 .i64 .i64 _ (24 + n) rfl rfl ?m1 ?m2 ?m3 ?m4 ?_))
  case m1 => omega
  case m2 => rw [hz2]; omega
  case m3 => unfold maxLen; omega
  case m4 => simp; omega
  intro w2 ho2 hg2
  have M0 : Mk w w1.heap.size w2 (.slice (some ⟨w1.heap.size + 1, 0, none⟩) 0 (24 + n)) [] := by
    have hb2 : Below (w1.heap.size + 1) (w1.alloc (.cells (tabAt 256) 220)) w2 := (Below.refl _ _).grown hg2 (by simp) (by intro k hk; cases hk)
    refine ⟨(hb1.alloc hsz1 _).trans (hb2.mono (by omega)), (hb2.block _ (by omega)).trans (heap_alloc_new w1 _), hsz1, by simpa using ho2, ?_⟩
    intro j hj
    simp [Value.ownBlock] at hj
    omega
  have A1 := M0.own
  clear ho2 hg2 hnew
  go_wp2_with (at_builtin; refine wpList_app _ rfl (.tmp 21) _ 37 9 rfl w.heap.size 5 i0 (.int .u8 0) 1 Tryz.underlying37 hiu hz0 hz1 hz2 rfl _ _ _ rfl A1 _ 3 (byteCells ⟨#[83, 80, 82]⟩) rfl (Src.ofString _ Tryz.underlying9 ⟨#[83, 80, 82]⟩) ?a3 ?a4 ?a5 ?_)
  case a3 => unfold maxLen; simp
  case a4 => simp
  case a5 => exact M0.below.size
  intro v3 w3 ho3 hg3 hm3
  have M1 : Mk w w1.heap.size w3 v3 [83, 80, 82] := M0.step ho3 (grown_upd hg3) hm3
  clear ho3 hg3 hm3 A1 M0
  have A1 := M1.own
  obtain ⟨ao3, l3, c3, rfl⟩ := row_shape A1
  go_wp2_with (at_builtin; refine wpList_app _ rfl (.tmp 23) (.tmp 26) 37 37 rfl w.heap.size 5 i0 (.int .u8 0) 1 Tryz.underlying37 hiu hz0 hz1 hz2 rfl _ _ _ rfl (A1.alloc _) _ 1 [.int .u8 k] rfl (Src.ofSlice _ Tryz.underlying37 ⟨w3.heap.size, 0, none⟩ 1 1 _ rfl ?c1 ?c2) ?c3 ?c4 ?c5 ?_)
  case c1 =>
    intro j u hj
    match j, hj with
    | 0, hj => simp at hj; subst hj; simp [Addr.add]
  case c2 => intro u hu; simp at hu; subst hu; rfl
  case c3 => unfold maxLen; simp
  case c4 => simp
  case c5 => have := M1.below.size; simp; omega
  intro v4 w4 ho4 hg4 hm4
  have M2 : Mk w w1.heap.size w4 v4 ([83, 80, 82] ++ [k]) := M1.step (by simpa using ho4) (grown_upd' hg4) ((Moved.refl w3 _).trans (by simp) hm4)
  clear ho4 hg4 hm4 A1 M1
  have A1 := M2.own
  obtain ⟨ao4, l4, c4, rfl⟩ := row_shape A1
  go_wp2_with (first
    | (go_at_call 119; refine (appendNumber_any w.heap.size _ _ q 8 (by omega) _ M2.own M2.below.size (by simp)).mono ?_; rintro e w5 ⟨v5, rfl, o5, u5, m5⟩; have M3 := M2.step o5 u5 m5; obtain ⟨ao5, l5, c5, rfl⟩ := row_shape o5; clear o5 u5 m5 M2 A1)
    | (go_at_call 119; refine (appendNumber_any w.heap.size _ _ n 4 (by omega) _ M3.own M3.below.size (by simp [bigL_len])).mono ?_; rintro e w6 ⟨v6, rfl, o6, u6, m6⟩; have M4 := M3.step o6 u6 m6; obtain ⟨ao6, l6, c6, rfl⟩ := row_shape o6; clear o6 u6 m6 M3)
    | (go_at_call 121; refine (more_any w1.heap.size 0#32 ad n cap K _ M4.tab (h.below M4.below) hK (by omega)).mono ?_; rintro e w' ⟨rfl, hw⟩; obtain rfl := hw.symm))
  obtain ⟨s1, hs1⟩ : ∃ s, (moreB 0#32 K).toNat = s := ⟨_, rfl⟩
  have hs1l : s1 < 4294967296 := by rw [← hs1]; exact (moreB 0#32 K).isLt
  have HS1 : Hid ((moreB 0#32 K).toNat = s1) := hs1
  rw [hs1]
  clear hs1
  have hA : [83, 80, 82] ++ [k] ++ bigL q 8 ++ bigL n 4 ++ leL s1 = headA k q n s1 := rfl
  have hAb := headA_bytes k q n s1 (by omega)
  have hAl := headA_len k q n s1
  generalize hHA : headA k q n s1 = HA at hA hAb hAl
  have HHA : Hid (headA k q n s1 = HA) := hHA
  clear hHA
  obtain ⟨s3, hs3⟩ : ∃ s, (moreB 0#32 HA).toNat = s := ⟨_, rfl⟩
  have hs3l : s3 < 4294967296 := by rw [← hs3]; exact (moreB 0#32 HA).isLt
  have HS3 : Hid ((moreB 0#32 HA).toNat = s3) := hs3
  have MOR : ∀ (ww : World) (T : Nat) (ao : Option Addr) (l c : Nat), ww.heap[T]? = some (.cells (tabAt 256) 220 (0, 0)) → Holds ww ao l HA → Calls Tryz.prog 121 #[.pointer (some ⟨T, 0, none⟩), .int .u32 0, .slice ao l c] ww fun e w' => e = .returned (.int .u32 (s3 : Int)) ∧ w' = ww := by
    intro ww T ao l c hT hH
    have := more_any T 0#32 ao l c HA ww hT hH hAb (by have := hH.len; omega)
    rw [hs3] at this
    exact this
  clear hs3
  go_wp2_with (first
    | (go_at_call 120; refine (appendSum_any w.heap.size _ _ s1 hs1l _ M4.own M4.below.size (by simp [bigL_len])).mono ?_; rintro e w7 ⟨v7, rfl, o7, u7, m7⟩; have M5 := M4.step o7 u7 m7; obtain ⟨ao7, l7, c7, rfl⟩ := row_shape o7; rw [hA] at M5; clear o7 u7 m7 M4)
    | (go_at_call 121; refine (MOR _ w1.heap.size _ _ _ M5.tab (Holds.ofRow M5.own)).mono ?_; rintro e w' ⟨rfl, hw⟩; obtain rfl := hw.symm)
    | (go_at_call 120; refine (appendSum_any w.heap.size _ _ s3 hs3l _ M5.own M5.below.size (by omega)).mono ?_; rintro e w8 ⟨v8, rfl, o8, u8, m8⟩; have M6 := M5.step o8 u8 m8; obtain ⟨ao8, l8, c8, rfl⟩ := row_shape o8; have A6 := M6.own; clear o8 u8 m8 M5)
    | (at_builtin; refine wpList_app _ rfl (.tmp 44) (.tmp 45) 37 37 rfl w.heap.size 5 i0 (.int .u8 0) 1 Tryz.underlying37 hiu hz0 hz1 hz2 rfl _ _ _ rfl A6 _ n (K.map (Value.int .u8)) rfl ((h.below M6.below).src cap) ?e3 ?e4 ?e5 ?_))
  case e3 => unfold maxLen; simp [leL_len]; omega
  case e4 => simp [leL_len]; omega
  case e5 => exact M6.below.size
  intro v9 w9 ho9 hg9 hm9
  have M7 : Mk w w1.heap.size w9 v9 (makeL k q K) := by
    refine M6.step ?_ (grown_upd hg9) hm9
    unfold makeL headL
    rw [HS1.out, hl, HHA.out, HS3.out]
    have e : (HA ++ leL s3 ++ K).length = (HA ++ leL s3).length + n := by simp [hl]; omega
    rw [e]
    simpa [hAl] using ho9
  clear ho9 hg9 hm9
  have A7 := M7.own
  have B7 := M7.below
  obtain ⟨ao9, l9, c9, rfl⟩ := row_shape A7
  go_wp2
  go_ret2
  exact ⟨_, rfl, A7, B7⟩
end Go.Proofs.YtgoafinbaiepmaaGreatDoor.fr