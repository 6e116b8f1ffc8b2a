/-
  FrameHeads: the walk.
-/
import Derived.Test.YtigpmmhofncgpaaBc
import Derived.Test.YtigpmmhofncgpaaHf
import Derived.Test.YtigpmmhofncgpaaSh2
import Derived.Test.YtigpmmhofncgpaaRk
import Derived.BigQuiet
import Derived.Deep.CutBlock
namespace Go.Proofs.Ytigpmmhofncgpaa
open Go.RowKit
set_option maxRecDepth 100000

theorem RowAt.front {w : World} {g : Nat} {L : List Int} (h : RowAt w g L) (n : Nat) (hn : n ≤ L.length) : Holds w (some ⟨g, 0, none⟩) n (L.take n) := by
  have := h.holds.sub 0 n (by omega)
  simpa using this
theorem RowAt.below {w w' : World} {g : Nat} {L : List Int} (h : RowAt w g L) (hb : Below w.heap.size w w') : RowAt w' g L := h.upd (Upd.ofBelow (S := fun _ => False) hb (fun k hk hk' => by omega)) (fun h => h)
theorem lentL_front (K : List Int) : (lentL K).take K.length = K := by unfold lentL; exact List.take_left

/-- A head in a block of its own. -/
def BoxAt (w : World) (g : Nat) (k : Int) (q L s : Nat) : Prop := w.heap[g]? = some (.cells #[.int .i64 k, .int .u64 q, .int .i64 L, .int .u32 s] 40 (0, 0))
abbrev bx (w : World) (k : Int) (q L s : Nat) : World := w.alloc (.cells #[.int .i64 k, .int .u64 q, .int .i64 L, .int .u32 s] 40)
theorem BoxAt.new (w : World) (k : Int) (q L s : Nat) : BoxAt (bx w k q L s) w.heap.size k q L s := heap_alloc_new w _
theorem BoxAt.upd {S : Nat → Prop} {w w' : World} {g : Nat} {k : Int} {q L s : Nat} (h : BoxAt w g k q L s) (hu : Upd S w w') (hS : ¬ S g) : BoxAt w' g k q L s := (hu.block g (lt_of_block h) hS).trans h
theorem BoxAt.below {w w' : World} {g : Nat} {k : Int} {q L s : Nat} (h : BoxAt w g k q L s) (hb : Below w.heap.size w w') : BoxAt w' g k q L s := h.upd (Upd.ofBelow (S := fun _ => False) hb (fun k hk hk' => by omega)) (fun h => h)
theorem BoxAt.c0 {w : World} {g : Nat} {k : Int} {q L s : Nat} (h : BoxAt w g k q L s) : w.cell? ⟨g, 0, none⟩ = some (.int .i64 k) := cell_of_row _ _ 0 _ _ _ h
theorem BoxAt.c1 {w : World} {g : Nat} {k : Int} {q L s : Nat} (h : BoxAt w g k q L s) : w.cell? ⟨g, 1, none⟩ = some (.int .u64 q) := cell_of_row _ _ 1 _ _ _ h
theorem BoxAt.c2 {w : World} {g : Nat} {k : Int} {q L s : Nat} (h : BoxAt w g k q L s) : w.cell? ⟨g, 2, none⟩ = some (.int .i64 L) := cell_of_row _ _ 2 _ _ _ h
theorem BoxAt.c3 {w : World} {g : Nat} {k : Int} {q L s : Nat} (h : BoxAt w g k q L s) : w.cell? ⟨g, 3, none⟩ = some (.int .u32 s) := cell_of_row _ _ 3 _ _ _ h

theorem refHead_any (ad : Option Addr) (n cap : Nat) (K : List Int) (r : Value) (hr : headR K r) (w : World) (h : Holds w ad n K) (hK : ByteL K) (hcap : n ≤ cap) :
    Calls Try.prog 14 #[.slice ad n cap] w fun e w' => e = .returned r ∧ Below w.heap.size w w' := by
  have hl := h.len
  by_cases hn : n < 24
  · obtain rfl : r = .tuple #[headV 0 0 0 0, .int .i64 23] := by
      rcases hr with hh | hh | hh
      · exact hh.2
      · omega
      · omega
    exact refHead_short ad n cap w hn
  · obtain ⟨b, o, rfl⟩ := h.some_of (by omega)
    exact refHead_long b o n cap K w h hK (by omega) hcap r hr

set_option maxHeartbeats 1000000 in
theorem heads_any (ad : Option Addr) (n cap : Nat) (K : List Int) (w : World) (h : Holds w ad n K) (hK : ByteL K) (hn : n ≤ 140737488351232) (hcap : n ≤ cap) :
    Calls Try.prog 4 #[.slice ad n cap] w fun e w' => e = .returned (.bool true) ∧ Below w.heap.size w w' := by
  obtain ⟨i0, hi, hz0, hz1, hz2⟩ := info_parts Try.info5
  have hl := h.len
  obtain ⟨r, hr⟩ := headR_has K
  obtain ⟨k, q, L, s, c, rfl⟩ := headR_shape hr
  have HKH : Hid (headR K (.tuple #[headV k q L s, .int .i64 c])) := hr
  clear hr
  obtain ⟨M, hM⟩ : ∃ M, (overL (lentL K) (n + 40)).take n = M := ⟨_, rfl⟩
  have hMb : ByteL M := by rw [← hM]; exact (overL_bytes _ (lentL_bytes K hK) _).take n
  have hMl : M.length = n := by rw [← hM, List.length_take, overL_len, lentL_len]; omega
  have RH := fun (ww : World) (hh : Holds ww ad n K) => refHead_any ad n cap K _ HKH.out ww hh hK hcap
  unfold headV at RH
  go_enter Try.func4, Try.ntmps4
  go_wp2_with (first
    | (go_at_call 6; refine (shown_any _).mono ?_; rintro e w1 ⟨rfl, b1⟩)
    | (go_at_call 7; refine (lent_any ad n cap K w1 (h.below b1) hn).mono ?_; rintro e w2 ⟨rfl, hR2, b2⟩; have hF2 := hR2.front n (by rw [lentL_len]; omega); rw [← hl, lentL_front, hl] at hF2; have FH := fun (ww : World) (hh : Holds ww (some ⟨w1.heap.size, 0, none⟩) n K) => frameHead_any _ n (n + 40) K _ HKH.out ww hh hK (by omega); unfold headV at FH; have s1 := FH w2 hF2; have B2 := b1.trans (b2.mono b1.size); have lt2 := lt_of_block hR2)
    | (go_at_call 13; refine s1.mono ?_; rintro e w3 ⟨rfl, b3⟩; clear s1; have Xx := BoxAt.new w3 k q L s; have ax : Below w3.heap.size w3 (bx w3 k q L s) := (Below.refl _ _).alloc (Nat.le_refl _) _; have z3 := b3.size; have b3a := b3.trans (ax.mono b3.size); have s2 := FH (bx w3 k q L s) (hF2.below b3a))
    | (go_at_call 13; refine s2.mono ?_; rintro e w4 ⟨rfl, b4⟩; clear s2; have b42 := b3a.trans (b4.mono b3a.size); have Xx4 := Xx.below b4; clear Xx ax b3a b4; have Xy := BoxAt.new w4 k q L s; have ay : Below w4.heap.size w4 (bx w4 k q L s) := (Below.refl _ _).alloc (Nat.le_refl _) _; have z4 := b42.size; have b42a := b42.trans (ay.mono b42.size); have Xx4a := Xx4.below ay; have B4a := B2.trans (b42a.mono B2.size); have s3 := RH (bx w4 k q L s) (h.below B4a); clear Xx4 b42 ay)
    | (go_at_call 14; refine s3.mono ?_; rintro e w5 ⟨rfl, b5⟩; clear s3; have b52 := b42a.trans (b5.mono b42a.size); have Xx5 := Xx4a.below b5; have Xy5 := Xy.below b5; clear Xx4a Xy b42a B4a b5; have Xw := BoxAt.new w5 k q L s; have aw : Below w5.heap.size w5 (bx w5 k q L s) := (Below.refl _ _).alloc (Nat.le_refl _) _; have z5 := b52.size; have b52a := b52.trans (aw.mono b52.size); have Xx5a := Xx5.below aw; have Xy5a := Xy5.below aw; clear Xx5 Xy5 b52 aw; have BK := back_any w1.heap.size n ad cap K w1 (bx w5 k q L s) (h.below b1) (b2.trans (b52a.mono b2.size)) (Nat.le_refl _) (hR2.below b52a) hn)
    | (go_at_call 10; refine BK.mono ?_; rintro e w6 ⟨rfl, hR6, u6⟩; have hF6 := hR6.front n (by rw [overL_len, lentL_len]; omega); rw [hM] at hF6; have Xx6 := Xx5a.upd u6 (by omega); have Xy6 := Xy5a.upd u6 (by omega); have Xw6 := Xw.upd u6 (by omega); have B6 : Below w.heap.size w w6 := (B2.trans (b52a.mono B2.size)).trans (u6.below (by have := b52a.size; have := B2.size; omega) (fun k hk e => by have := b1.size; omega)); clear u6 BK Xx5a Xy5a Xw b52a; have O1 := Ow.fresh B6; have A1 := O1.own; have hF7 := hF6.alloc (.cells #[] 5))
    | (at_builtin; refine wpList_app _ rfl _ _ 23 23 rfl w.heap.size 5 i0 (.int .u8 0) 1 Try.underlying23 hi hz0 hz1 hz2 rfl _ _ _ rfl A1 _ n (M.map (Value.int .u8)) rfl (hF7.src (n + 40)) ?a1 ?a2 ?a3 ?_))
  case a1 => unfold maxLen; simp; omega
  case a2 => simp; omega
  case a3 => exact O1.below.size
  intro v8 w8 ho hg hm
  have O2 := O1.grown (M := M) (by simpa [hMl] using ho) hg
  have A2 := O2.own
  have hlt6 := lt_of_block hR6
  have u8 := grown_upd' hg
  have hne8 : ∀ j, j < w6.heap.size → ¬ (Value.slice (some ⟨w6.heap.size, 0, none⟩) 0 0).ownBlock = some j := fun j hj e => by
    simp [Value.ownBlock] at e
    omega
  have hF8 : Holds w8 (some ⟨w1.heap.size, 0, none⟩) n ([] ++ M) := by
    rw [List.nil_append]
    exact hF6.upd u8 (fun a ha => by cases ha; exact hne8 _ hlt6)
  have Xx8 := Xx6.upd u8 (hne8 _ (lt_of_block Xx6))
  have Xy8 := Xy6.upd u8 (hne8 _ (lt_of_block Xy6))
  have Xw8 := Xw6.upd u8 (hne8 _ (lt_of_block Xw6))
  obtain ⟨ao8, l8, c8, rfl⟩ := row_shape A2
  have H8 := Holds.ofRow A2
  have B8 := O2.below
  have hc8 : l8 ≤ c8 := by obtain ⟨e1, e2, _⟩ := own_cap A2; omega
  clear ho hg hm A1 O1 O2 A2 hF7 u8 hne8 Xx6 Xy6 Xw6 B6
  obtain ⟨r2, hr2⟩ := headR_has ([] ++ M)
  obtain ⟨k2, q2, L2, s2, d2, rfl⟩ := headR_shape hr2
  have HK2 : Hid (headR ([] ++ M) (.tuple #[headV k2 q2 L2 s2, .int .i64 d2])) := hr2
  clear hr2
  have t1 := frameHead_any _ n (n + 40) ([] ++ M) _ HK2.out w8 hF8 (by rw [List.nil_append]; exact hMb) (by omega)
  have RH2 := fun (ww : World) (hh : Holds ww ao8 l8 ([] ++ M)) => refHead_any ao8 l8 c8 ([] ++ M) _ HK2.out ww hh (by rw [List.nil_append]; exact hMb) hc8
  unfold headV at t1 RH2
  clear hM hMb hMl
  go_upto_region 10 with (first
    | (go_at_call 13; refine t1.mono ?_; rintro e w9 ⟨rfl, b9⟩; clear t1; have Xz := BoxAt.new w9 k2 q2 L2 s2; have az : Below w9.heap.size w9 (bx w9 k2 q2 L2 s2) := (Below.refl _ _).alloc (Nat.le_refl _) _; have b9a := b9.trans (az.mono b9.size); have t2 := RH2 (bx w9 k2 q2 L2 s2) (H8.below b9a))
    | (go_at_call 14; refine t2.mono ?_; rintro e w10 ⟨rfl, b10⟩; clear t2; have Xz10 := Xz.below b10; have b10a := b9a.trans (b10.mono b9a.size); have Xn := BoxAt.new w10 k2 q2 L2 s2; have an : Below w10.heap.size w10 (bx w10 k2 q2 L2 s2) := (Below.refl _ _).alloc (Nat.le_refl _) _; have b10b := b10a.trans (an.mono b10a.size); have Xz := Xz10.below an; have Xx := Xx8.below b10b; have Xy := Xy8.below b10b; have Xw := Xw8.below b10b; have B10 := B8.trans (b10b.mono B8.size)))
  unfold bx at Xn Xz Xx Xy Xw B10
  generalize w10.alloc (.cells #[.int .i64 k2, .int .u64 q2, .int .i64 L2, .int .u32 s2] 40) = w11 at Xn Xz Xx Xy Xw B10 ⊢
  have cx0 := Xx.c0
  have cx1 := Xx.c1
  have cx2 := Xx.c2
  have cx3 := Xx.c3
  have cy0 := Xy.c0
  have cy1 := Xy.c1
  have cy2 := Xy.c2
  have cy3 := Xy.c3
  have cw0 := Xw.c0
  have cw1 := Xw.c1
  have cw2 := Xw.c2
  have cw3 := Xw.c3
  have cz0 := Xz.c0
  have cz1 := Xz.c1
  have cz2 := Xz.c2
  have cz3 := Xz.c3
  have cn0 := Xn.c0
  have cn1 := Xn.c1
  have cn2 := Xn.c2
  have cn3 := Xn.c3
  have HB10 : Hid (Below w.heap.size w w11) := B10
  clear Xx Xy Xw Xz Xn B10 HKH HK2 RH RH2 FH hF2 hF6 hF8 hR2 hR6 Xx8 Xy8 Xw8 Xz10 H8 B8 b1 b2 B2 b3 b9 b9a b10 b10a b10b an az h hK
  go_wp2

  go_ret
  exact ⟨rfl, HB10.out⟩
end Go.Proofs.Ytigpmmhofncgpaa
