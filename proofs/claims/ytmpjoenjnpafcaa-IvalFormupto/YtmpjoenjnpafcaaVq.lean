/-
  The walk of IvalMoments (written by gen_vq.py).
-/
import Derived.Test.YtmpjoenjnpafcaaVp
namespace Go.Proofs.Ytmpjoenjnpafcaa
open Go.Shelf Go.RowKit Go.Lib
set_option maxRecDepth 100000

theorem below_grown {base : Nat} {w w' : World} {e : TypeId} {size n : Nat} {v : Value} {xs : List Value} (h : w.grownBy w' v.ownBlock) (ho : w.ownsRow base e size v n xs) (hb : base ≤ w.heap.size) : Below base w w' :=
  ⟨h.os, h.tape, h.output, h.size, fun k hk => h.block k (by omega) (fun e => by have := (own_block ho e.symm).1; omega)⟩
/-- Two lists, one behind the other. -/
theorem both_own {base : Nat} {w : World} {v : Value} {n m : Nat} {A B : List (Int × Int)} (h : w.ownsRow base 23 2 v (n + m) (A.flatMap ivC ++ B.flatMap ivC)) (hn : A.length = n) (hm : B.length = m) : OwnI base w v (A ++ B) := by
  unfold OwnI
  rw [List.length_append, List.flatMap_append, hn, hm]
  exact h
set_option maxHeartbeats 2000000 in
theorem moments_none (ad bd : Option Addr) (n m ca cb : Nat) (A B : List (Int × Int)) (x wh : Int) (w : World) (hA : IvAt w ad n A) (hB : IvAt w bd m B) (hn : n ≤ 1048576) (hm : m ≤ 1048576) (iA : ∀ i ∈ A, In64 i) (iB : ∀ i ∈ B, In64 i) (h0 : n + m = 0) :
    Calls Try.prog 5 #[.slice ad n ca, .slice bd m cb, .int .i64 x, .int .i64 wh] w fun e w' => e = .returned (.bool true) ∧ Below w.heap.size w w' := by
  have K := fun W y (b : Below w.heap.size w W) => asked_any ad bd n m ca cb A B y W (hA.below b) (hB.below b) (by omega) iA iB
  obtain ⟨i0, hi, hz0, hz1, hz2⟩ := info_parts Try.info23
  have B0 : Below w.heap.size w w := Below.refl _ _
  have SA := fun W (b : Below w.heap.size w W) => (hA.below b).src (c := ca)
  have SB := fun W (b : Below w.heap.size w W) => (hB.below b).src (c := cb)
  have hAl := hA.len
  have hBl := hB.len
  have h0i : (n : Int) + (m : Int) = 0 := by omega
  clear iA iB hA hB
  go_enter Try.func5, Try.ntmps5
  go_wp2_with (first
    | (go_at_call 9; refine (alive_any _).mono ?_; rintro e w1 ⟨rfl, b1⟩; have B1 := Below.step B0 b1; clear b1)
    | (go_at_call 27; refine (K _ _ B1).mono ?_; rintro e w2 ⟨rfl, b2⟩; have B2 := Below.step B1 b2; clear b2 B1)
    | (at_builtin; refine wpList_appW _ rfl _ _ 29 29 rfl w.heap.size 23 i0 _ 2 16 Try.underlying29 hi hz0 hz1 hz2 rfl (.slice none 0 0) 0 [] rfl (World.ownsRow_nil _ _ _ _) _ n _ rfl (SA _ B2) (by unfold maxLen; omega) (by omega) B2.size ?_; clear SA; intro v3 w3 o3 g3 m3; clear m3; rw [List.nil_append, Nat.zero_add] at o3; obtain ⟨ao3, l3, cp3, rfl⟩ := row_shape o3; have B3 : Below w.heap.size w w3 := B2.trans (below_grown g3 (World.ownsRow_nil _ _ 23 2) B2.size); clear g3)
    | (at_builtin; refine wpList_appW _ rfl _ _ 29 29 rfl w.heap.size 23 i0 _ 2 16 Try.underlying29 hi hz0 hz1 hz2 rfl (.slice ao3 l3 cp3) n _ rfl o3 _ m _ rfl (SB _ B3) (by unfold maxLen; omega) (by omega) B3.size ?_; clear SB; intro v4 w4 o4 g4 m4; clear m4; obtain ⟨ao4, l4, cp4, rfl⟩ := row_shape o4; have B4 : Below w.heap.size w w4 := B3.trans (below_grown g4 o3 B3.size); have O4 := both_own o4 hAl hBl; have n4 := O4.len; rw [List.length_append, hAl, hBl] at n4; have n4i : (l4 : Int) = (n : Int) + (m : Int) := (by omega); clear g4 o4 o3 B3 n4))
  go_ret
  exact ⟨rfl, B4⟩
set_option maxHeartbeats 2000000 in
theorem moments_pos (ad bd : Option Addr) (n m ca cb : Nat) (A B : List (Int × Int)) (x wh : Int) (w : World) (hA : IvAt w ad n A) (hB : IvAt w bd m B) (hn : n ≤ 1048576) (hm : m ≤ 1048576) (iA : ∀ i ∈ A, In64 i) (iB : ∀ i ∈ B, In64 i) (L r : Nat) (hL : L = n + m) (h0 : 0 < L) (hrL : r < L) (hr : Int.tmod wh (L : Int) = (r : Int)) (hw : ¬ wh < 0) :
    Calls Try.prog 5 #[.slice ad n ca, .slice bd m cb, .int .i64 x, .int .i64 wh] w fun e w' => e = .returned (.bool true) ∧ Below w.heap.size w w' := by
  have K := fun W y (b : Below w.heap.size w W) => asked_any ad bd n m ca cb A B y W (hA.below b) (hB.below b) (by omega) iA iB
  obtain ⟨i0, hi, hz0, hz1, hz2⟩ := info_parts Try.info23
  have B0 : Below w.heap.size w w := Below.refl _ _
  have SA := fun W (b : Below w.heap.size w W) => (hA.below b).src (c := ca)
  have SB := fun W (b : Below w.heap.size w W) => (hB.below b).src (c := cb)
  have hAl := hA.len
  have hBl := hB.len
  have HL : Hid (L = n + m) := hL
  have hL0 : ¬ (L : Int) = 0 := by omega
  have hL1 : ((L : Int) == 0) = false := beq_eq_false_iff_ne.mpr hL0
  have hr1 : (r : Int) < (L : Int) := by omega
  have hr0 : (0 : Int) ≤ (r : Int) := by omega
  clear iA iB hA hB hL
  go_enter Try.func5, Try.ntmps5
  go_wp2_with (first
    | (go_at_call 9; refine (alive_any _).mono ?_; rintro e w1 ⟨rfl, b1⟩; have B1 := Below.step B0 b1; clear b1)
    | (go_at_call 27; refine (K _ _ B1).mono ?_; rintro e w2 ⟨rfl, b2⟩; have B2 := Below.step B1 b2; clear b2 B1)
    | (at_builtin; refine wpList_appW _ rfl _ _ 29 29 rfl w.heap.size 23 i0 _ 2 16 Try.underlying29 hi hz0 hz1 hz2 rfl (.slice none 0 0) 0 [] rfl (World.ownsRow_nil _ _ _ _) _ n _ rfl (SA _ B2) (by unfold maxLen; omega) (by omega) B2.size ?_; clear SA; intro v3 w3 o3 g3 m3; clear m3; rw [List.nil_append, Nat.zero_add] at o3; obtain ⟨ao3, l3, cp3, rfl⟩ := row_shape o3; have B3 : Below w.heap.size w w3 := B2.trans (below_grown g3 (World.ownsRow_nil _ _ 23 2) B2.size); clear g3)
    | (at_builtin; refine wpList_appW _ rfl _ _ 29 29 rfl w.heap.size 23 i0 _ 2 16 Try.underlying29 hi hz0 hz1 hz2 rfl (.slice ao3 l3 cp3) n _ rfl o3 _ m _ rfl (SB _ B3) (by unfold maxLen; omega) (by omega) B3.size ?_; clear SB; intro v4 w4 o4 g4 m4; clear m4; obtain ⟨ao4, l4, cp4, rfl⟩ := row_shape o4; have B4 : Below w.heap.size w w4 := B3.trans (below_grown g4 o3 B3.size); have O4 := both_own o4 hAl hBl; have n4 := O4.len; rw [List.length_append, hAl, hBl] at n4; obtain rfl : l4 = L := (by have := HL.out; omega); obtain ⟨b4, f4, had, hc4⟩ := O4.at.lies (by omega); subst had; obtain ⟨c0, c1⟩ := hc4 r (by rw [List.length_append, hAl, hBl]; have := HL.out; omega); generalize (A ++ B)[r]'(by rw [List.length_append, hAl, hBl]; have := HL.out; omega) = c at c0 c1; obtain ⟨x1, x2⟩ := c; simp only at c0 c1; clear g4 o4 o3 B3 n4 hc4 O4)
    | (go_at_call 27; refine (K _ _ (B4.alloc B4.size _)).mono ?_; rintro e w6 ⟨rfl, b6⟩; have X6 : w6.heap[w4.heap.size]? = some (.cells #[.int .i64 x1, .int .i64 x2] 23) := (b6.block _ (by simp)).trans (heap_alloc_new _ _); have B6 := Below.step (B4.alloc B4.size (.cells #[.int .i64 x1, .int .i64 x2] 23)) b6; clear b6 B4; have d60 := blk_cell X6 0 rfl; have d61 := blk_cell X6 1 rfl)
    | (go_at_call 27; refine (K _ _ B6).mono ?_; rintro e w7 ⟨rfl, b7⟩; have X7 := (b7.block _ (lt_of_block X6)).trans X6; have B7 := Below.step B6 b7; clear b7 B6; have d70 := blk_cell X7 0 rfl; have d71 := blk_cell X7 1 rfl)
    | (go_at_call 27; refine (K _ _ B7).mono ?_; rintro e w8 ⟨rfl, b8⟩; have X8 := (b8.block _ (lt_of_block X7)).trans X7; have B8 := Below.step B7 b8; clear b8 B7; have d80 := blk_cell X8 0 rfl; have d81 := blk_cell X8 1 rfl)
    | (go_at_call 27; refine (K _ _ B8).mono ?_; rintro e w9 ⟨rfl, b9⟩; have X9 := (b9.block _ (lt_of_block X8)).trans X8; have B9 := Below.step B8 b9; clear b9 B8; have d90 := blk_cell X9 0 rfl; have d91 := blk_cell X9 1 rfl)
    | (go_at_call 27; refine (K _ _ B9).mono ?_; rintro e w10 ⟨rfl, b10⟩; have X10 := (b10.block _ (lt_of_block X9)).trans X9; have B10 := Below.step B9 b10; clear b10 B9; have d100 := blk_cell X10 0 rfl; have d101 := blk_cell X10 1 rfl))
  go_ret
  exact ⟨rfl, B10⟩
set_option maxHeartbeats 2000000 in
theorem moments_neg (ad bd : Option Addr) (n m ca cb : Nat) (A B : List (Int × Int)) (x wh : Int) (w : World) (hA : IvAt w ad n A) (hB : IvAt w bd m B) (hn : n ≤ 1048576) (hm : m ≤ 1048576) (iA : ∀ i ∈ A, In64 i) (iB : ∀ i ∈ B, In64 i) (L r : Nat) (hL : L = n + m) (h0 : 0 < L) (hrL : r < L) (wh2 : Int) (hr : Int.tmod wh2 (L : Int) = (r : Int)) (hw : wh < 0) (hw1 : in64 wh) (hw2 : wh2 = -(wh + 1)) :
    Calls Try.prog 5 #[.slice ad n ca, .slice bd m cb, .int .i64 x, .int .i64 wh] w fun e w' => e = .returned (.bool true) ∧ Below w.heap.size w w' := by
  have K := fun W y (b : Below w.heap.size w W) => asked_any ad bd n m ca cb A B y W (hA.below b) (hB.below b) (by omega) iA iB
  obtain ⟨i0, hi, hz0, hz1, hz2⟩ := info_parts Try.info23
  have B0 : Below w.heap.size w w := Below.refl _ _
  have SA := fun W (b : Below w.heap.size w W) => (hA.below b).src (c := ca)
  have SB := fun W (b : Below w.heap.size w W) => (hB.below b).src (c := cb)
  have hAl := hA.len
  have hBl := hB.len
  have HL : Hid (L = n + m) := hL
  have hL0 : ¬ (L : Int) = 0 := by omega
  have hL1 : ((L : Int) == 0) = false := beq_eq_false_iff_ne.mpr hL0
  have hr1 : (r : Int) < (L : Int) := by omega
  have hr0 : (0 : Int) ≤ (r : Int) := by omega
  have q1 : IntKind.i64.wrap (wh + 1) = wh + 1 := by have := hw1; unfold in64 at this; exact wrap_i64_in _ (by omega) (by omega)
  have q2 : IntKind.i64.wrap (-(wh + 1)) = wh2 := by have := hw1; unfold in64 at this; rw [hw2]; exact wrap_i64_in _ (by omega) (by omega)
  clear hw1 hw2
  clear iA iB hA hB hL
  go_enter Try.func5, Try.ntmps5
  go_wp2_with (first
    | (go_at_call 9; refine (alive_any _).mono ?_; rintro e w1 ⟨rfl, b1⟩; have B1 := Below.step B0 b1; clear b1)
    | (go_at_call 27; refine (K _ _ B1).mono ?_; rintro e w2 ⟨rfl, b2⟩; have B2 := Below.step B1 b2; clear b2 B1)
    | (at_builtin; refine wpList_appW _ rfl _ _ 29 29 rfl w.heap.size 23 i0 _ 2 16 Try.underlying29 hi hz0 hz1 hz2 rfl (.slice none 0 0) 0 [] rfl (World.ownsRow_nil _ _ _ _) _ n _ rfl (SA _ B2) (by unfold maxLen; omega) (by omega) B2.size ?_; clear SA; intro v3 w3 o3 g3 m3; clear m3; rw [List.nil_append, Nat.zero_add] at o3; obtain ⟨ao3, l3, cp3, rfl⟩ := row_shape o3; have B3 : Below w.heap.size w w3 := B2.trans (below_grown g3 (World.ownsRow_nil _ _ 23 2) B2.size); clear g3)
    | (at_builtin; refine wpList_appW _ rfl _ _ 29 29 rfl w.heap.size 23 i0 _ 2 16 Try.underlying29 hi hz0 hz1 hz2 rfl (.slice ao3 l3 cp3) n _ rfl o3 _ m _ rfl (SB _ B3) (by unfold maxLen; omega) (by omega) B3.size ?_; clear SB; intro v4 w4 o4 g4 m4; clear m4; obtain ⟨ao4, l4, cp4, rfl⟩ := row_shape o4; have B4 : Below w.heap.size w w4 := B3.trans (below_grown g4 o3 B3.size); have O4 := both_own o4 hAl hBl; have n4 := O4.len; rw [List.length_append, hAl, hBl] at n4; obtain rfl : l4 = L := (by have := HL.out; omega); obtain ⟨b4, f4, had, hc4⟩ := O4.at.lies (by omega); subst had; obtain ⟨c0, c1⟩ := hc4 r (by rw [List.length_append, hAl, hBl]; have := HL.out; omega); generalize (A ++ B)[r]'(by rw [List.length_append, hAl, hBl]; have := HL.out; omega) = c at c0 c1; obtain ⟨x1, x2⟩ := c; simp only at c0 c1; clear g4 o4 o3 B3 n4 hc4 O4)
    | (go_at_call 27; refine (K _ _ (B4.alloc B4.size _)).mono ?_; rintro e w6 ⟨rfl, b6⟩; have X6 : w6.heap[w4.heap.size]? = some (.cells #[.int .i64 x1, .int .i64 x2] 23) := (b6.block _ (by simp)).trans (heap_alloc_new _ _); have B6 := Below.step (B4.alloc B4.size (.cells #[.int .i64 x1, .int .i64 x2] 23)) b6; clear b6 B4; have d60 := blk_cell X6 0 rfl; have d61 := blk_cell X6 1 rfl)
    | (go_at_call 27; refine (K _ _ B6).mono ?_; rintro e w7 ⟨rfl, b7⟩; have X7 := (b7.block _ (lt_of_block X6)).trans X6; have B7 := Below.step B6 b7; clear b7 B6; have d70 := blk_cell X7 0 rfl; have d71 := blk_cell X7 1 rfl)
    | (go_at_call 27; refine (K _ _ B7).mono ?_; rintro e w8 ⟨rfl, b8⟩; have X8 := (b8.block _ (lt_of_block X7)).trans X7; have B8 := Below.step B7 b8; clear b8 B7; have d80 := blk_cell X8 0 rfl; have d81 := blk_cell X8 1 rfl)
    | (go_at_call 27; refine (K _ _ B8).mono ?_; rintro e w9 ⟨rfl, b9⟩; have X9 := (b9.block _ (lt_of_block X8)).trans X8; have B9 := Below.step B8 b9; clear b9 B8; have d90 := blk_cell X9 0 rfl; have d91 := blk_cell X9 1 rfl)
    | (go_at_call 27; refine (K _ _ B9).mono ?_; rintro e w10 ⟨rfl, b10⟩; have X10 := (b10.block _ (lt_of_block X9)).trans X9; have B10 := Below.step B9 b10; clear b10 B9; have d100 := blk_cell X10 0 rfl; have d101 := blk_cell X10 1 rfl))
  go_ret
  exact ⟨rfl, B10⟩
theorem tmod_nat {a : Int} (ha : 0 ≤ a) {L : Nat} (hL : 0 < L) : Int.tmod a (L : Int) = ((a.toNat % L : Nat) : Int) ∧ a.toNat % L < L := by
  obtain ⟨k, rfl⟩ := Int.eq_ofNat_of_zero_le ha
  exact ⟨rfl, Nat.mod_lt _ hL⟩
theorem moments_any (ad bd : Option Addr) (n m ca cb : Nat) (A B : List (Int × Int)) (x wh : Int) (w : World) (hA : IvAt w ad n A) (hB : IvAt w bd m B) (hn : n ≤ 1048576) (hm : m ≤ 1048576) (iA : ∀ i ∈ A, In64 i) (iB : ∀ i ∈ B, In64 i) (hw : in64 wh) :
    Calls Try.prog 5 #[.slice ad n ca, .slice bd m cb, .int .i64 x, .int .i64 wh] w fun e w' => e = .returned (.bool true) ∧ Below w.heap.size w w' := by
  by_cases h0 : n + m = 0
  · exact moments_none ad bd n m ca cb A B x wh w hA hB hn hm iA iB h0
  · by_cases hz : wh < 0
    · have hp : 0 ≤ -(wh + 1) := by omega
      obtain ⟨h1, h2⟩ := tmod_nat hp (L := n + m) (by omega)
      exact moments_neg ad bd n m ca cb A B x wh w hA hB hn hm iA iB (n + m) _ rfl (by omega) h2 _ h1 hz hw rfl
    · obtain ⟨h1, h2⟩ := tmod_nat (a := wh) (by omega) (L := n + m) (by omega)
      exact moments_pos ad bd n m ca cb A B x wh w hA hB hn hm iA iB (n + m) _ rfl (by omega) h2 h1 hz
end Go.Proofs.Ytmpjoenjnpafcaa
