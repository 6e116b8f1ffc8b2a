/-
  CP.
-/
import Derived.Test.YtidcbkmjkiennaaGreatDoorCNq
namespace Go.Proofs.YtidcbkmjkiennaaGreatDoor.sk
open Go Go.RowKit
set_option maxRecDepth 100000

/-- A tally in a block of its own. -/
structure TV (w : World) (b : Nat) (x0 x1 x2 x3 x4 x5 : Int) (ao : Option Addr) (N cp : Nat) (f : Nat → Nat) : Prop where
  blk : Blk w b (talL x0 x1 x2 x3 x4 x5 ao N cp).toArray 41
  sk : SkAt w ao N f
theorem TV.below {w w' : World} {b : Nat} {x0 x1 x2 x3 x4 x5 : Int} {ao : Option Addr} {N cp : Nat} {f : Nat → Nat} (h : TV w b x0 x1 x2 x3 x4 x5 ao N cp f) (hb : Below w.heap.size w w') : TV w' b x0 x1 x2 x3 x4 x5 ao N cp f := ⟨h.blk.below hb h.blk.lt, h.sk.below hb⟩
/-- Three tallies as arguments. -/
structure P3 (w W : World) (A B C : List Value) (aa ba ca : Option Addr) (na nb nc : Nat) (la lb lc : List (Int × Int)) : Prop where
  xa : Blk W w.heap.size A.toArray 41
  xb : Blk W (w.heap.size + 1) B.toArray 41
  xc : Blk W (w.heap.size + 1 + 1) C.toArray 41
  ia : InAt W aa na la
  ib : InAt W ba nb lb
  ic : InAt W ca nc lc
  low : Below w.heap.size w W
theorem P3.below {w W W' : World} {A B C : List Value} {aa ba ca : Option Addr} {na nb nc : Nat} {la lb lc : List (Int × Int)} (h : P3 w W A B C aa ba ca na nb nc la lb lc) (hb : Below W.heap.size W W') : P3 w W' A B C aa ba ca na nb nc la lb lc :=
  ⟨h.xa.below hb h.xa.lt, h.xb.below hb h.xb.lt, h.xc.below hb h.xc.lt, h.ia.below hb, h.ib.below hb, h.ic.below hb, h.low.trans (hb.mono h.low.size)⟩
theorem P3.new {w : World} {A B C : List Value} {aa ba ca : Option Addr} {na nb nc : Nat} {la lb lc : List (Int × Int)} (hA : InAt w aa na la) (hB : InAt w ba nb lb) (hC : InAt w ca nc lc) : P3 w (((w.alloc (.cells A.toArray 41)).alloc (.cells B.toArray 41)).alloc (.cells C.toArray 41)) A B C aa ba ca na nb nc la lb lc := by
  have h1 : (w.alloc (.cells A.toArray 41)).heap.size = w.heap.size + 1 := by simp
  have hb : Below w.heap.size w (((w.alloc (.cells A.toArray 41)).alloc (.cells B.toArray 41)).alloc (.cells C.toArray 41)) := ((((Below.refl _ _).alloc (Nat.le_refl _) _).alloc (by simp) _).alloc (by simp; omega) _)
  refine ⟨((Blk.new _ _ _).alloc _).alloc _, Blk.alloc ?_ _, ?_, hA.below hb, hB.below hb, hC.below hb, hb⟩
  · have := Blk.new (w.alloc (.cells A.toArray 41)) B.toArray 41
    rw [h1] at this
    exact this
  · have := Blk.new ((w.alloc (.cells A.toArray 41)).alloc (.cells B.toArray 41)) C.toArray 41
    rw [World.size_alloc, h1] at this
    exact this
theorem InAt.sk {w : World} {ad : Option Addr} {n : Nat} {l : List (Int × Int)} (h : InAt w ad n l) (hc : chkF (-1) l = true) : SkAt w ad n (cntF l) := by
  have e := bars_of hc (fun b hb => (h.bin b hb).2.2.1)
  refine ⟨?_, ?_, cntF_le h.bin⟩
  · rw [← e]; exact h.at_.len.symm
  · rw [← e]; exact h
theorem addT_comm (a b : Nat) : addT a b = addT b a := by unfold addT; rw [Nat.add_comm]
theorem addT_assoc (a b c : Nat) : addT a (addT b c) = addT (addT a b) c := by unfold addT; omega
theorem addT_zero {a : Nat} (h : a ≤ top128) : addT a 0 = a := by unfold addT; omega
theorem zero_addT {a : Nat} (h : a ≤ top128) : addT 0 a = a := by unfold addT; omega
set_option maxHeartbeats 2000000 in
theorem callsPlus_no (aa ba ca : Option Addr) (na nb nc pa pb pc : Nat) (la lb lc : List (Int × Int)) (c1 e1 k1 c2 e2 k2 c3 e3 k3 : Nat) (w : World) (hT : Tabs w) (hA : InAt w aa na la) (hB : InAt w ba nb lb) (hC : InAt w ca nc lc) (hab : (chkF (-1) la && chkF (-1) lb) = false) :
    Calls Tryz.prog 6 #[talV c1 e1 k1 aa na pa, talV c2 e2 k2 ba nb pb, talV c3 e3 k3 ca nc pc] w fun x w' => x = .returned (.bool true) ∧ Below w.heap.size w w' := by
  have SH := shown_any (((w.alloc (.cells (talL (hi64 c1) (lo64 c1) (hi64 e1) (lo64 e1) (hi64 k1) (lo64 k1) aa na pa).toArray 41)).alloc (.cells (talL (hi64 c2) (lo64 c2) (hi64 e2) (lo64 e2) (hi64 k2) (lo64 k2) ba nb pb).toArray 41)).alloc (.cells (talL (hi64 c3) (lo64 c3) (hi64 e3) (lo64 e3) (hi64 k3) (lo64 k3) ca nc pc).toArray 41)) (hT.below (((((Below.refl _ _).alloc (Nat.le_refl _) _).alloc (by simp) _).alloc (by simp; omega) _)))
  have F : Hid (P3 w _ (talL (hi64 c1) (lo64 c1) (hi64 e1) (lo64 e1) (hi64 k1) (lo64 k1) aa na pa) (talL (hi64 c2) (lo64 c2) (hi64 e2) (lo64 e2) (hi64 k2) (lo64 k2) ba nb pb) (talL (hi64 c3) (lo64 c3) (hi64 e3) (lo64 e3) (hi64 k3) (lo64 k3) ca nc pc) aa ba ca na nb nc la lb lc) := P3.new hA hB hC
  have MA : Hid (∀ W, P3 w W (talL (hi64 c1) (lo64 c1) (hi64 e1) (lo64 e1) (hi64 k1) (lo64 k1) aa na pa) (talL (hi64 c2) (lo64 c2) (hi64 e2) (lo64 e2) (hi64 k2) (lo64 k2) ba nb pb) (talL (hi64 c3) (lo64 c3) (hi64 e3) (lo64 e3) (hi64 k3) (lo64 k3) ca nc pc) aa ba ca na nb nc la lb lc → Calls Tryz.prog 29 #[talV c1 e1 k1 aa na pa] W fun x w' => x = .returned (.bool (chkF (-1) la)) ∧ Below W.heap.size W w') := fun W h => may_any aa na pa la c1 e1 k1 W h.ia
  have MB : Hid (∀ W, P3 w W (talL (hi64 c1) (lo64 c1) (hi64 e1) (lo64 e1) (hi64 k1) (lo64 k1) aa na pa) (talL (hi64 c2) (lo64 c2) (hi64 e2) (lo64 e2) (hi64 k2) (lo64 k2) ba nb pb) (talL (hi64 c3) (lo64 c3) (hi64 e3) (lo64 e3) (hi64 k3) (lo64 k3) ca nc pc) aa ba ca na nb nc la lb lc → Calls Tryz.prog 29 #[talV c2 e2 k2 ba nb pb] W fun x w' => x = .returned (.bool (chkF (-1) lb)) ∧ Below W.heap.size W w') := fun W h => may_any ba nb pb lb c2 e2 k2 W h.ib
  have MC : Hid (∀ W, P3 w W (talL (hi64 c1) (lo64 c1) (hi64 e1) (lo64 e1) (hi64 k1) (lo64 k1) aa na pa) (talL (hi64 c2) (lo64 c2) (hi64 e2) (lo64 e2) (hi64 k2) (lo64 k2) ba nb pb) (talL (hi64 c3) (lo64 c3) (hi64 e3) (lo64 e3) (hi64 k3) (lo64 k3) ca nc pc) aa ba ca na nb nc la lb lc → Calls Tryz.prog 29 #[talV c3 e3 k3 ca nc pc] W fun x w' => x = .returned (.bool (chkF (-1) lc)) ∧ Below W.heap.size W w') := fun W h => may_any ca nc pc lc c3 e3 k3 W h.ic
  have PX : Hid (∀ W, P3 w W (talL (hi64 c1) (lo64 c1) (hi64 e1) (lo64 e1) (hi64 k1) (lo64 k1) aa na pa) (talL (hi64 c2) (lo64 c2) (hi64 e2) (lo64 e2) (hi64 k2) (lo64 k2) ba nb pb) (talL (hi64 c3) (lo64 c3) (hi64 e3) (lo64 e3) (hi64 k3) (lo64 k3) ca nc pc) aa ba ca na nb nc la lb lc → Calls Tryz.prog 19 #[talV c1 e1 k1 aa na pa, talV c2 e2 k2 ba nb pb] W (TalN 131 W)) := fun W h => cPlus_no aa ba na nb pa pb la lb c1 e1 k1 c2 e2 k2 W h.ia h.ib hab
  have PY : Hid (∀ W, P3 w W (talL (hi64 c1) (lo64 c1) (hi64 e1) (lo64 e1) (hi64 k1) (lo64 k1) aa na pa) (talL (hi64 c2) (lo64 c2) (hi64 e2) (lo64 e2) (hi64 k2) (lo64 k2) ba nb pb) (talL (hi64 c3) (lo64 c3) (hi64 e3) (lo64 e3) (hi64 k3) (lo64 k3) ca nc pc) aa ba ca na nb nc la lb lc → Calls Tryz.prog 19 #[talV c2 e2 k2 ba nb pb, talV c1 e1 k1 aa na pa] W (TalN 131 W)) := fun W h => cPlus_no ba aa nb na pb pa lb la c2 e2 k2 c1 e1 k1 W h.ib h.ia (by rw [Bool.and_comm]; exact hab)
  unfold TalN at PX PY
  simp only [talV_zero] at PX PY
  unfold talV at *
  generalize (hi64 c1 : Int) = a0 at *
  generalize (lo64 c1 : Int) = a1 at *
  generalize (hi64 e1 : Int) = a2 at *
  generalize (lo64 e1 : Int) = a3 at *
  generalize (hi64 k1 : Int) = a4 at *
  generalize (lo64 k1 : Int) = a5 at *
  generalize (hi64 c2 : Int) = b0 at *
  generalize (lo64 c2 : Int) = b1 at *
  generalize (hi64 e2 : Int) = b2 at *
  generalize (lo64 e2 : Int) = b3 at *
  generalize (hi64 k2 : Int) = b4 at *
  generalize (lo64 k2 : Int) = b5 at *
  generalize (hi64 c3 : Int) = c0 at *
  generalize (lo64 c3 : Int) = c1 at *
  generalize (hi64 e3 : Int) = c2 at *
  generalize (lo64 e3 : Int) = c3 at *
  generalize (hi64 k3 : Int) = c4 at *
  generalize (lo64 k3 : Int) = c5 at *
  clear hT hA hB hC
  cases ha : chkF (-1) la <;> cases hb : chkF (-1) lb <;> cases hc : chkF (-1) lc <;> rw [ha, hb] at hab <;> first | (exact absurd hab (by decide)) | skip
  all_goals rw [ha] at MA
  all_goals rw [hb] at MB
  all_goals rw [hc] at MC
  all_goals clear ha hb hc hab
  all_goals simp only [talL] at SH F MA MB MC PX PY ⊢
  all_goals go_enter Tryz.func6, Tryz.ntmps6
  all_goals go_wp2_with (first
    | (go_at_call 9; (with_reducible refine (SH).mono ?_); clear SH; rintro x w1 ⟨rfl, b⟩; have F1 : Hid _ := P3.below F.out b; clear F; have F := F1; clear F1; clear b)
    | (go_at_call 29; (with_reducible refine (MA.out _ F.out).mono ?_); clear MA; rintro x w2 ⟨rfl, b⟩; have F1 : Hid _ := P3.below F.out b; clear F; have F := F1; clear F1; clear b)
    | (go_at_call 29; (with_reducible refine (MB.out _ F.out).mono ?_); clear MB; rintro x w3 ⟨rfl, b⟩; have F1 : Hid _ := P3.below F.out b; clear F; have F := F1; clear F1; clear b)
    | (go_at_call 29; (with_reducible refine (MC.out _ F.out).mono ?_); clear MC; rintro x w4 ⟨rfl, b⟩; have F1 : Hid _ := P3.below F.out b; clear F; have F := F1; clear F1; clear b)
    | (go_at_call 19; (with_reducible refine (PX.out _ F.out).mono ?_); clear PX; rintro x w5 ⟨rfl, b⟩; have F1 : Hid _ := P3.below F.out b; clear F; have F := F1; clear F1; clear b)
    | (go_at_call 19; (with_reducible refine (PY.out _ (P3.below F.out ((Below.refl _ _).alloc (Nat.le_refl _) _))).mono ?_); clear PY; rintro x w6 ⟨rfl, b⟩; have M : Below w5.heap.size w5 w6 := ((Below.refl _ _).alloc (Nat.le_refl _) _).trans (b.mono (by simp)); have F1 : Hid _ := P3.below F.out M; clear F; have F := F1; clear F1; clear b M)
    | (refine wpList_load_mid rfl 41 _ rfl w.heap.size 0 rfl [.int .u64 a0, .int .u64 a1, .int .u64 a2, .int .u64 a3, .int .u64 a4, .int .u64 a5, .slice aa na pa] _ (range13 F.out.xa) Tryz.underlying41 rfl (by kernel_rfl) ?_)
    | (refine wpList_load_mid rfl 41 _ rfl w.heap.size 0 rfl [.int .u64 a0, .int .u64 a1, .int .u64 a2, .int .u64 a3, .int .u64 a4, .int .u64 a5, .slice aa na pa] _ (range13 (Blk.alloc F.out.xa _)) Tryz.underlying41 rfl (by kernel_rfl) ?_)
    | (refine wpList_load_mid rfl 41 _ rfl (w.heap.size + 1) 0 rfl [.int .u64 b0, .int .u64 b1, .int .u64 b2, .int .u64 b3, .int .u64 b4, .int .u64 b5, .slice ba nb pb] _ (range13 F.out.xb) Tryz.underlying41 rfl (by kernel_rfl) ?_)
    | (refine wpList_load_mid rfl 41 _ rfl (w.heap.size + 1) 0 rfl [.int .u64 b0, .int .u64 b1, .int .u64 b2, .int .u64 b3, .int .u64 b4, .int .u64 b5, .slice ba nb pb] _ (range13 (Blk.alloc F.out.xb _)) Tryz.underlying41 rfl (by kernel_rfl) ?_)
    | (refine wpList_load_mid rfl 41 _ rfl (w.heap.size + 1 + 1) 0 rfl [.int .u64 c0, .int .u64 c1, .int .u64 c2, .int .u64 c3, .int .u64 c4, .int .u64 c5, .slice ca nc pc] _ (range13 F.out.xc) Tryz.underlying41 rfl (by kernel_rfl) ?_)
    | (refine wpList_load_mid rfl 41 _ rfl (w.heap.size + 1 + 1) 0 rfl [.int .u64 c0, .int .u64 c1, .int .u64 c2, .int .u64 c3, .int .u64 c4, .int .u64 c5, .slice ca nc pc] _ (range13 (Blk.alloc F.out.xc _)) Tryz.underlying41 rfl (by kernel_rfl) ?_))
  all_goals go_ret
  all_goals exact ⟨rfl, F.out.low.alloc F.out.low.size _⟩
set_option maxHeartbeats 2000000 in
theorem callsPlus_two (aa ba ca : Option Addr) (na nb nc pa pb pc : Nat) (la lb lc : List (Int × Int)) (c1 e1 k1 c2 e2 k2 c3 e3 k3 : Nat) (w : World) (hT : Tabs w) (hA : InAt w aa na la) (hB : InAt w ba nb lb) (hC : InAt w ca nc lc) (c1b : c1 ≤ top128) (e1b : e1 ≤ top128) (k1b : k1 ≤ top128) (c2b : c2 ≤ top128) (e2b : e2 ≤ top128) (k2b : k2 ≤ top128) (ha : chkF (-1) la = true) (hb : chkF (-1) lb = true) (hc : chkF (-1) lc = false) :
    Calls Tryz.prog 6 #[talV c1 e1 k1 aa na pa, talV c2 e2 k2 ba nb pb, talV c3 e3 k3 ca nc pc] w fun x w' => x = .returned (.bool true) ∧ Below w.heap.size w w' := by
  have SH := shown_any (((w.alloc (.cells (talL (hi64 c1) (lo64 c1) (hi64 e1) (lo64 e1) (hi64 k1) (lo64 k1) aa na pa).toArray 41)).alloc (.cells (talL (hi64 c2) (lo64 c2) (hi64 e2) (lo64 e2) (hi64 k2) (lo64 k2) ba nb pb).toArray 41)).alloc (.cells (talL (hi64 c3) (lo64 c3) (hi64 e3) (lo64 e3) (hi64 k3) (lo64 k3) ca nc pc).toArray 41)) (hT.below (((((Below.refl _ _).alloc (Nat.le_refl _) _).alloc (by simp) _).alloc (by simp; omega) _)))
  have F : Hid (P3 w _ (talL (hi64 c1) (lo64 c1) (hi64 e1) (lo64 e1) (hi64 k1) (lo64 k1) aa na pa) (talL (hi64 c2) (lo64 c2) (hi64 e2) (lo64 e2) (hi64 k2) (lo64 k2) ba nb pb) (talL (hi64 c3) (lo64 c3) (hi64 e3) (lo64 e3) (hi64 k3) (lo64 k3) ca nc pc) aa ba ca na nb nc la lb lc) := P3.new hA hB hC
  have MA : Hid (∀ W, P3 w W (talL (hi64 c1) (lo64 c1) (hi64 e1) (lo64 e1) (hi64 k1) (lo64 k1) aa na pa) (talL (hi64 c2) (lo64 c2) (hi64 e2) (lo64 e2) (hi64 k2) (lo64 k2) ba nb pb) (talL (hi64 c3) (lo64 c3) (hi64 e3) (lo64 e3) (hi64 k3) (lo64 k3) ca nc pc) aa ba ca na nb nc la lb lc → Calls Tryz.prog 29 #[talV c1 e1 k1 aa na pa] W fun x w' => x = .returned (.bool (chkF (-1) la)) ∧ Below W.heap.size W w') := fun W h => may_any aa na pa la c1 e1 k1 W h.ia
  have MB : Hid (∀ W, P3 w W (talL (hi64 c1) (lo64 c1) (hi64 e1) (lo64 e1) (hi64 k1) (lo64 k1) aa na pa) (talL (hi64 c2) (lo64 c2) (hi64 e2) (lo64 e2) (hi64 k2) (lo64 k2) ba nb pb) (talL (hi64 c3) (lo64 c3) (hi64 e3) (lo64 e3) (hi64 k3) (lo64 k3) ca nc pc) aa ba ca na nb nc la lb lc → Calls Tryz.prog 29 #[talV c2 e2 k2 ba nb pb] W fun x w' => x = .returned (.bool (chkF (-1) lb)) ∧ Below W.heap.size W w') := fun W h => may_any ba nb pb lb c2 e2 k2 W h.ib
  have MC : Hid (∀ W, P3 w W (talL (hi64 c1) (lo64 c1) (hi64 e1) (lo64 e1) (hi64 k1) (lo64 k1) aa na pa) (talL (hi64 c2) (lo64 c2) (hi64 e2) (lo64 e2) (hi64 k2) (lo64 k2) ba nb pb) (talL (hi64 c3) (lo64 c3) (hi64 e3) (lo64 e3) (hi64 k3) (lo64 k3) ca nc pc) aa ba ca na nb nc la lb lc → Calls Tryz.prog 29 #[talV c3 e3 k3 ca nc pc] W fun x w' => x = .returned (.bool (chkF (-1) lc)) ∧ Below W.heap.size W w') := fun W h => may_any ca nc pc lc c3 e3 k3 W h.ic
  have sa : ∀ {W}, InAt W aa na la → SkAt W aa na (cntF la) := fun h => h.sk ha
  have sb : ∀ {W}, InAt W ba nb lb → SkAt W ba nb (cntF lb) := fun h => h.sk hb
  have PX : Hid (∀ W, P3 w W (talL (hi64 c1) (lo64 c1) (hi64 e1) (lo64 e1) (hi64 k1) (lo64 k1) aa na pa) (talL (hi64 c2) (lo64 c2) (hi64 e2) (lo64 e2) (hi64 k2) (lo64 k2) ba nb pb) (talL (hi64 c3) (lo64 c3) (hi64 e3) (lo64 e3) (hi64 k3) (lo64 k3) ca nc pc) aa ba ca na nb nc la lb lc → Calls Tryz.prog 19 #[talV c1 e1 k1 aa na pa, talV c2 e2 k2 ba nb pb] W fun x w' => ∃ ao L cp, x = .returned (.tuple #[talV (addT c1 c2) (addT e1 e2) (addT k1 k2) ao L cp, .int .i64 0]) ∧ Hid (SkAt w' ao L (minF (cntF la) (cntF lb))) ∧ Below W.heap.size W w') := fun W h => by
    refine (cPlus_ok aa ba na nb pa pb (cntF la) (cntF lb) c1 e1 k1 c2 e2 k2 W (sa h.ia) (sb h.ib) c1b e1b k1b c2b e2b k2b).mono fun x w' hx => ?_
    obtain ⟨ao, L, cp, h1, h2, h3, _⟩ := hx
    exact ⟨ao, L, cp, h1, h2, h3⟩
  have PY : Hid (∀ W, P3 w W (talL (hi64 c1) (lo64 c1) (hi64 e1) (lo64 e1) (hi64 k1) (lo64 k1) aa na pa) (talL (hi64 c2) (lo64 c2) (hi64 e2) (lo64 e2) (hi64 k2) (lo64 k2) ba nb pb) (talL (hi64 c3) (lo64 c3) (hi64 e3) (lo64 e3) (hi64 k3) (lo64 k3) ca nc pc) aa ba ca na nb nc la lb lc → Calls Tryz.prog 19 #[talV c2 e2 k2 ba nb pb, talV c1 e1 k1 aa na pa] W fun x w' => ∃ ao L cp, x = .returned (.tuple #[talV (addT c1 c2) (addT e1 e2) (addT k1 k2) ao L cp, .int .i64 0]) ∧ Hid (SkAt w' ao L (minF (cntF lb) (cntF la))) ∧ Below W.heap.size W w') := fun W h => by
    rw [addT_comm c1, addT_comm e1, addT_comm k1]
    refine (cPlus_ok ba aa nb na pb pa (cntF lb) (cntF la) c2 e2 k2 c1 e1 k1 W (sb h.ib) (sa h.ia) c2b e2b k2b c1b e1b k1b).mono fun x w' hx => ?_
    obtain ⟨ao, L, cp, h1, h2, h3, _⟩ := hx
    exact ⟨ao, L, cp, h1, h2, h3⟩
  rw [ha] at MA
  rw [hb] at MB
  rw [hc] at MC
  unfold talV at *
  clear sa sb ha hb hc hT hA hB hC c1b e1b k1b c2b e2b k2b
  generalize (hi64 (addT c1 c2) : Int) = x0 at *
  generalize (lo64 (addT c1 c2) : Int) = x1 at *
  generalize (hi64 (addT e1 e2) : Int) = x2 at *
  generalize (lo64 (addT e1 e2) : Int) = x3 at *
  generalize (hi64 (addT k1 k2) : Int) = x4 at *
  generalize (lo64 (addT k1 k2) : Int) = x5 at *
  generalize (hi64 c1 : Int) = a0 at *
  generalize (lo64 c1 : Int) = a1 at *
  generalize (hi64 e1 : Int) = a2 at *
  generalize (lo64 e1 : Int) = a3 at *
  generalize (hi64 k1 : Int) = a4 at *
  generalize (lo64 k1 : Int) = a5 at *
  generalize (hi64 c2 : Int) = b0 at *
  generalize (lo64 c2 : Int) = b1 at *
  generalize (hi64 e2 : Int) = b2 at *
  generalize (lo64 e2 : Int) = b3 at *
  generalize (hi64 k2 : Int) = b4 at *
  generalize (lo64 k2 : Int) = b5 at *
  generalize (hi64 c3 : Int) = c0 at *
  generalize (lo64 c3 : Int) = c1 at *
  generalize (hi64 e3 : Int) = c2 at *
  generalize (lo64 e3 : Int) = c3 at *
  generalize (hi64 k3 : Int) = c4 at *
  generalize (lo64 k3 : Int) = c5 at *
  generalize cntF la = fa at *
  generalize cntF lb = fb at *
  simp only [talL] at SH F MA MB MC PX PY ⊢
  go_enter Tryz.func6, Tryz.ntmps6
  go_wp2_with (first
    | (go_at_call 9; (with_reducible refine (SH).mono ?_); clear SH; rintro x w1 ⟨rfl, b⟩; have F1 : Hid _ := P3.below F.out b; clear F; have F := F1; clear F1; clear b)
    | (go_at_call 29; (with_reducible refine (MA.out _ F.out).mono ?_); clear MA; rintro x w2 ⟨rfl, b⟩; have F1 : Hid _ := P3.below F.out b; clear F; have F := F1; clear F1; clear b)
    | (go_at_call 29; (with_reducible refine (MB.out _ F.out).mono ?_); clear MB; rintro x w3 ⟨rfl, b⟩; have F1 : Hid _ := P3.below F.out b; clear F; have F := F1; clear F1; clear b)
    | (go_at_call 29; (with_reducible refine (MC.out _ F.out).mono ?_); clear MC; rintro x w4 ⟨rfl, b⟩; have F1 : Hid _ := P3.below F.out b; clear F; have F := F1; clear F1; clear b)
    | (go_at_call 19; (with_reducible refine (PX.out _ F.out).mono ?_); clear PX; rintro x w5 ⟨oX, nX, pX, rfl, SX, b⟩; have F1 : Hid _ := P3.below F.out b; clear F; have F := F1; clear F1; clear b)
    | (go_at_call 19; (with_reducible refine (PY.out _ (P3.below F.out ((Below.refl _ _).alloc (Nat.le_refl _) _))).mono ?_); clear PY; rintro x w6 ⟨oY, nY, pY, rfl, SY, b⟩; have MM : Below w5.heap.size w5 w6 := ((Below.refl _ _).alloc (Nat.le_refl _) _).trans (b.mono (by simp)); have F1 : Hid _ := P3.below F.out MM; clear F; have F := F1; clear F1; have X : Hid (TV w6 w5.heap.size x0 x1 x2 x3 x4 x5 oX nX pX (minF fa fb)) := ⟨Blk.below (Blk.new _ _ _) b (by simp), SkAt.below SX.out MM⟩; clear MM SX; clear b)
    | (refine wpList_load_mid rfl 41 _ rfl w.heap.size 0 rfl [.int .u64 a0, .int .u64 a1, .int .u64 a2, .int .u64 a3, .int .u64 a4, .int .u64 a5, .slice aa na pa] _ (range13 F.out.xa) Tryz.underlying41 rfl (by kernel_rfl) ?_)
    | (refine wpList_load_mid rfl 41 _ rfl w.heap.size 0 rfl [.int .u64 a0, .int .u64 a1, .int .u64 a2, .int .u64 a3, .int .u64 a4, .int .u64 a5, .slice aa na pa] _ (range13 (Blk.alloc F.out.xa _)) Tryz.underlying41 rfl (by kernel_rfl) ?_)
    | (refine wpList_load_mid rfl 41 _ rfl (w.heap.size + 1) 0 rfl [.int .u64 b0, .int .u64 b1, .int .u64 b2, .int .u64 b3, .int .u64 b4, .int .u64 b5, .slice ba nb pb] _ (range13 F.out.xb) Tryz.underlying41 rfl (by kernel_rfl) ?_)
    | (refine wpList_load_mid rfl 41 _ rfl (w.heap.size + 1) 0 rfl [.int .u64 b0, .int .u64 b1, .int .u64 b2, .int .u64 b3, .int .u64 b4, .int .u64 b5, .slice ba nb pb] _ (range13 (Blk.alloc F.out.xb _)) Tryz.underlying41 rfl (by kernel_rfl) ?_)
    | (refine wpList_load_mid rfl 41 _ rfl (w.heap.size + 1 + 1) 0 rfl [.int .u64 c0, .int .u64 c1, .int .u64 c2, .int .u64 c3, .int .u64 c4, .int .u64 c5, .slice ca nc pc] _ (range13 F.out.xc) Tryz.underlying41 rfl (by kernel_rfl) ?_)
    | (refine wpList_load_mid rfl 41 _ rfl (w.heap.size + 1 + 1) 0 rfl [.int .u64 c0, .int .u64 c1, .int .u64 c2, .int .u64 c3, .int .u64 c4, .int .u64 c5, .slice ca nc pc] _ (range13 (Blk.alloc F.out.xc _)) Tryz.underlying41 rfl (by kernel_rfl) ?_)
    | (refine wpList_load_mid rfl 41 _ rfl w5.heap.size 0 rfl [.int .u64 x0, .int .u64 x1, .int .u64 x2, .int .u64 x3, .int .u64 x4, .int .u64 x5, .slice oX nX pX] _ (range13 X.out.blk) Tryz.underlying41 rfl (by kernel_rfl) ?_)
    | (refine wpList_load_mid rfl 41 _ rfl w5.heap.size 0 rfl [.int .u64 x0, .int .u64 x1, .int .u64 x2, .int .u64 x3, .int .u64 x4, .int .u64 x5, .slice oX nX pX] _ (range13 (Blk.alloc X.out.blk _)) Tryz.underlying41 rfl (by kernel_rfl) ?_))
  go_ret
  exact ⟨rfl, F.out.low.alloc F.out.low.size _⟩
set_option maxHeartbeats 8000000 in
theorem callsPlus_all (aa ba ca : Option Addr) (na nb nc pa pb pc : Nat) (la lb lc : List (Int × Int)) (c1 e1 k1 c2 e2 k2 c3 e3 k3 : Nat) (w : World) (hT : Tabs w) (hA : InAt w aa na la) (hB : InAt w ba nb lb) (hC : InAt w ca nc lc) (c1b : c1 ≤ top128) (e1b : e1 ≤ top128) (k1b : k1 ≤ top128) (c2b : c2 ≤ top128) (e2b : e2 ≤ top128) (k2b : k2 ≤ top128) (c3b : c3 ≤ top128) (e3b : e3 ≤ top128) (k3b : k3 ≤ top128) (ha : chkF (-1) la = true) (hb : chkF (-1) lb = true) (hc : chkF (-1) lc = true) :
    Calls Tryz.prog 6 #[talV c1 e1 k1 aa na pa, talV c2 e2 k2 ba nb pb, talV c3 e3 k3 ca nc pc] w fun x w' => x = .returned (.bool true) ∧ Below w.heap.size w w' := by
  have SH := shown_any (((w.alloc (.cells (talL (hi64 c1) (lo64 c1) (hi64 e1) (lo64 e1) (hi64 k1) (lo64 k1) aa na pa).toArray 41)).alloc (.cells (talL (hi64 c2) (lo64 c2) (hi64 e2) (lo64 e2) (hi64 k2) (lo64 k2) ba nb pb).toArray 41)).alloc (.cells (talL (hi64 c3) (lo64 c3) (hi64 e3) (lo64 e3) (hi64 k3) (lo64 k3) ca nc pc).toArray 41)) (hT.below (((((Below.refl _ _).alloc (Nat.le_refl _) _).alloc (by simp) _).alloc (by simp; omega) _)))
  have F : Hid (P3 w _ (talL (hi64 c1) (lo64 c1) (hi64 e1) (lo64 e1) (hi64 k1) (lo64 k1) aa na pa) (talL (hi64 c2) (lo64 c2) (hi64 e2) (lo64 e2) (hi64 k2) (lo64 k2) ba nb pb) (talL (hi64 c3) (lo64 c3) (hi64 e3) (lo64 e3) (hi64 k3) (lo64 k3) ca nc pc) aa ba ca na nb nc la lb lc) := P3.new hA hB hC
  have MA : Hid (∀ W, P3 w W (talL (hi64 c1) (lo64 c1) (hi64 e1) (lo64 e1) (hi64 k1) (lo64 k1) aa na pa) (talL (hi64 c2) (lo64 c2) (hi64 e2) (lo64 e2) (hi64 k2) (lo64 k2) ba nb pb) (talL (hi64 c3) (lo64 c3) (hi64 e3) (lo64 e3) (hi64 k3) (lo64 k3) ca nc pc) aa ba ca na nb nc la lb lc → Calls Tryz.prog 29 #[talV c1 e1 k1 aa na pa] W fun x w' => x = .returned (.bool (chkF (-1) la)) ∧ Below W.heap.size W w') := fun W h => may_any aa na pa la c1 e1 k1 W h.ia
  have MB : Hid (∀ W, P3 w W (talL (hi64 c1) (lo64 c1) (hi64 e1) (lo64 e1) (hi64 k1) (lo64 k1) aa na pa) (talL (hi64 c2) (lo64 c2) (hi64 e2) (lo64 e2) (hi64 k2) (lo64 k2) ba nb pb) (talL (hi64 c3) (lo64 c3) (hi64 e3) (lo64 e3) (hi64 k3) (lo64 k3) ca nc pc) aa ba ca na nb nc la lb lc → Calls Tryz.prog 29 #[talV c2 e2 k2 ba nb pb] W fun x w' => x = .returned (.bool (chkF (-1) lb)) ∧ Below W.heap.size W w') := fun W h => may_any ba nb pb lb c2 e2 k2 W h.ib
  have MC : Hid (∀ W, P3 w W (talL (hi64 c1) (lo64 c1) (hi64 e1) (lo64 e1) (hi64 k1) (lo64 k1) aa na pa) (talL (hi64 c2) (lo64 c2) (hi64 e2) (lo64 e2) (hi64 k2) (lo64 k2) ba nb pb) (talL (hi64 c3) (lo64 c3) (hi64 e3) (lo64 e3) (hi64 k3) (lo64 k3) ca nc pc) aa ba ca na nb nc la lb lc → Calls Tryz.prog 29 #[talV c3 e3 k3 ca nc pc] W fun x w' => x = .returned (.bool (chkF (-1) lc)) ∧ Below W.heap.size W w') := fun W h => may_any ca nc pc lc c3 e3 k3 W h.ic
  have sa : ∀ {W}, InAt W aa na la → SkAt W aa na (cntF la) := fun h => h.sk ha
  have sb : ∀ {W}, InAt W ba nb lb → SkAt W ba nb (cntF lb) := fun h => h.sk hb
  have sc : ∀ {W}, InAt W ca nc lc → SkAt W ca nc (cntF lc) := fun h => h.sk hc
  have PX : Hid (∀ W, P3 w W (talL (hi64 c1) (lo64 c1) (hi64 e1) (lo64 e1) (hi64 k1) (lo64 k1) aa na pa) (talL (hi64 c2) (lo64 c2) (hi64 e2) (lo64 e2) (hi64 k2) (lo64 k2) ba nb pb) (talL (hi64 c3) (lo64 c3) (hi64 e3) (lo64 e3) (hi64 k3) (lo64 k3) ca nc pc) aa ba ca na nb nc la lb lc → Calls Tryz.prog 19 #[talV c1 e1 k1 aa na pa, talV c2 e2 k2 ba nb pb] W fun x w' => ∃ ao L cp, x = .returned (.tuple #[talV (addT c1 c2) (addT e1 e2) (addT k1 k2) ao L cp, .int .i64 0]) ∧ Hid (SkAt w' ao L (minF (cntF la) (cntF lb))) ∧ Below W.heap.size W w') := fun W h => by
    refine (cPlus_ok aa ba na nb pa pb (cntF la) (cntF lb) c1 e1 k1 c2 e2 k2 W (sa h.ia) (sb h.ib) c1b e1b k1b c2b e2b k2b).mono fun x w' hx => ?_
    obtain ⟨ao, L, cp, h1, h2, h3, _⟩ := hx
    exact ⟨ao, L, cp, h1, h2, h3⟩
  have PY : Hid (∀ W, P3 w W (talL (hi64 c1) (lo64 c1) (hi64 e1) (lo64 e1) (hi64 k1) (lo64 k1) aa na pa) (talL (hi64 c2) (lo64 c2) (hi64 e2) (lo64 e2) (hi64 k2) (lo64 k2) ba nb pb) (talL (hi64 c3) (lo64 c3) (hi64 e3) (lo64 e3) (hi64 k3) (lo64 k3) ca nc pc) aa ba ca na nb nc la lb lc → Calls Tryz.prog 19 #[talV c2 e2 k2 ba nb pb, talV c1 e1 k1 aa na pa] W fun x w' => ∃ ao L cp, x = .returned (.tuple #[talV (addT c1 c2) (addT e1 e2) (addT k1 k2) ao L cp, .int .i64 0]) ∧ Hid (SkAt w' ao L (minF (cntF lb) (cntF la))) ∧ Below W.heap.size W w') := fun W h => by
    rw [addT_comm c1, addT_comm e1, addT_comm k1]
    refine (cPlus_ok ba aa nb na pb pa (cntF lb) (cntF la) c2 e2 k2 c1 e1 k1 W (sb h.ib) (sa h.ia) c2b e2b k2b c1b e1b k1b).mono fun x w' hx => ?_
    obtain ⟨ao, L, cp, h1, h2, h3, _⟩ := hx
    exact ⟨ao, L, cp, h1, h2, h3⟩
  have PP : Hid (∀ W b o n p, P3 w W (talL (hi64 c1) (lo64 c1) (hi64 e1) (lo64 e1) (hi64 k1) (lo64 k1) aa na pa) (talL (hi64 c2) (lo64 c2) (hi64 e2) (lo64 e2) (hi64 k2) (lo64 k2) ba nb pb) (talL (hi64 c3) (lo64 c3) (hi64 e3) (lo64 e3) (hi64 k3) (lo64 k3) ca nc pc) aa ba ca na nb nc la lb lc → TV W b (hi64 (addT c1 c2)) (lo64 (addT c1 c2)) (hi64 (addT e1 e2)) (lo64 (addT e1 e2)) (hi64 (addT k1 k2)) (lo64 (addT k1 k2)) o n p (minF (cntF la) (cntF lb)) → Calls Tryz.prog 19 #[talV (addT c1 c2) (addT e1 e2) (addT k1 k2) o n p, talV c3 e3 k3 ca nc pc] W fun x w' => ∃ ao L cp, x = .returned (.tuple #[talV (addT (addT c1 c2) c3) (addT (addT e1 e2) e3) (addT (addT k1 k2) k3) ao L cp, .int .i64 0]) ∧ Hid (SkAt w' ao L (minF (minF (cntF la) (cntF lb)) (cntF lc))) ∧ Below W.heap.size W w') := fun W b o n p h hx => by
    refine (cPlus_ok o ca n nc p pc (minF (cntF la) (cntF lb)) (cntF lc) (addT c1 c2) (addT e1 e2) (addT k1 k2) c3 e3 k3 W hx.sk (sc h.ic) (addT_le _ _) (addT_le _ _) (addT_le _ _) c3b e3b k3b).mono fun x w' hx => ?_
    obtain ⟨ao, L, cp, h1, h2, h3, _⟩ := hx
    exact ⟨ao, L, cp, h1, h2, h3⟩
  have PZ : Hid (∀ W, P3 w W (talL (hi64 c1) (lo64 c1) (hi64 e1) (lo64 e1) (hi64 k1) (lo64 k1) aa na pa) (talL (hi64 c2) (lo64 c2) (hi64 e2) (lo64 e2) (hi64 k2) (lo64 k2) ba nb pb) (talL (hi64 c3) (lo64 c3) (hi64 e3) (lo64 e3) (hi64 k3) (lo64 k3) ca nc pc) aa ba ca na nb nc la lb lc → Calls Tryz.prog 19 #[talV c2 e2 k2 ba nb pb, talV c3 e3 k3 ca nc pc] W fun x w' => ∃ ao L cp, x = .returned (.tuple #[talV (addT c2 c3) (addT e2 e3) (addT k2 k3) ao L cp, .int .i64 0]) ∧ Hid (SkAt w' ao L (minF (cntF lb) (cntF lc))) ∧ Below W.heap.size W w') := fun W h => by
    refine (cPlus_ok ba ca nb nc pb pc (cntF lb) (cntF lc) c2 e2 k2 c3 e3 k3 W (sb h.ib) (sc h.ic) c2b e2b k2b c3b e3b k3b).mono fun x w' hx => ?_
    obtain ⟨ao, L, cp, h1, h2, h3, _⟩ := hx
    exact ⟨ao, L, cp, h1, h2, h3⟩
  have PQ : Hid (∀ W b o n p, P3 w W (talL (hi64 c1) (lo64 c1) (hi64 e1) (lo64 e1) (hi64 k1) (lo64 k1) aa na pa) (talL (hi64 c2) (lo64 c2) (hi64 e2) (lo64 e2) (hi64 k2) (lo64 k2) ba nb pb) (talL (hi64 c3) (lo64 c3) (hi64 e3) (lo64 e3) (hi64 k3) (lo64 k3) ca nc pc) aa ba ca na nb nc la lb lc → TV W b (hi64 (addT c2 c3)) (lo64 (addT c2 c3)) (hi64 (addT e2 e3)) (lo64 (addT e2 e3)) (hi64 (addT k2 k3)) (lo64 (addT k2 k3)) o n p (minF (cntF lb) (cntF lc)) → Calls Tryz.prog 19 #[talV c1 e1 k1 aa na pa, talV (addT c2 c3) (addT e2 e3) (addT k2 k3) o n p] W fun x w' => ∃ ao L cp, x = .returned (.tuple #[talV (addT (addT c1 c2) c3) (addT (addT e1 e2) e3) (addT (addT k1 k2) k3) ao L cp, .int .i64 0]) ∧ Hid (SkAt w' ao L (minF (cntF la) (minF (cntF lb) (cntF lc)))) ∧ Below W.heap.size W w') := fun W b o n p h hx => by
    rw [← addT_assoc, ← addT_assoc, ← addT_assoc]
    refine (cPlus_ok aa o na n pa p (cntF la) (minF (cntF lb) (cntF lc)) c1 e1 k1 (addT c2 c3) (addT e2 e3) (addT k2 k3) W (sa h.ia) hx.sk c1b e1b k1b (addT_le _ _) (addT_le _ _) (addT_le _ _)).mono fun x w' hx => ?_
    obtain ⟨ao, L, cp, h1, h2, h3, _⟩ := hx
    exact ⟨ao, L, cp, h1, h2, h3⟩
  have PN : Hid (∀ W, P3 w W (talL (hi64 c1) (lo64 c1) (hi64 e1) (lo64 e1) (hi64 k1) (lo64 k1) aa na pa) (talL (hi64 c2) (lo64 c2) (hi64 e2) (lo64 e2) (hi64 k2) (lo64 k2) ba nb pb) (talL (hi64 c3) (lo64 c3) (hi64 e3) (lo64 e3) (hi64 k3) (lo64 k3) ca nc pc) aa ba ca na nb nc la lb lc → Calls Tryz.prog 19 #[talV c1 e1 k1 aa na pa, talV 0 0 0 none 0 0] W fun x w' => ∃ ao L cp, x = .returned (.tuple #[talV c1 e1 k1 ao L cp, .int .i64 0]) ∧ Hid (SkAt w' ao L (minF (cntF la) (fun _ => 0))) ∧ Below W.heap.size W w') := fun W h => by
    have P := cPlus_ok aa none na 0 pa 0 (cntF la) (fun _ => 0) c1 e1 k1 0 0 0 W (sa h.ia) (SkAt.nil W) c1b e1b k1b (Nat.zero_le _) (Nat.zero_le _) (Nat.zero_le _)
    rw [addT_zero c1b, addT_zero e1b, addT_zero k1b] at P
    refine (P).mono fun x w' hx => ?_
    obtain ⟨ao, L, cp, h1, h2, h3, _⟩ := hx
    exact ⟨ao, L, cp, h1, h2, h3⟩
  have PM : Hid (∀ W, P3 w W (talL (hi64 c1) (lo64 c1) (hi64 e1) (lo64 e1) (hi64 k1) (lo64 k1) aa na pa) (talL (hi64 c2) (lo64 c2) (hi64 e2) (lo64 e2) (hi64 k2) (lo64 k2) ba nb pb) (talL (hi64 c3) (lo64 c3) (hi64 e3) (lo64 e3) (hi64 k3) (lo64 k3) ca nc pc) aa ba ca na nb nc la lb lc → Calls Tryz.prog 19 #[talV 0 0 0 none 0 0, talV c1 e1 k1 aa na pa] W fun x w' => ∃ ao L cp, x = .returned (.tuple #[talV c1 e1 k1 ao L cp, .int .i64 0]) ∧ Hid (SkAt w' ao L (minF (fun _ => 0) (cntF la))) ∧ Below W.heap.size W w') := fun W h => by
    have P := cPlus_ok none aa 0 na 0 pa (fun _ => 0) (cntF la) 0 0 0 c1 e1 k1 W (SkAt.nil W) (sa h.ia) (Nat.zero_le _) (Nat.zero_le _) (Nat.zero_le _) c1b e1b k1b
    rw [zero_addT c1b, zero_addT e1b, zero_addT k1b] at P
    refine (P).mono fun x w' hx => ?_
    obtain ⟨ao, L, cp, h1, h2, h3, _⟩ := hx
    exact ⟨ao, L, cp, h1, h2, h3⟩
  have S1 : Hid (∀ W b b' o n p o' n' p', TV W b (hi64 (addT c1 c2)) (lo64 (addT c1 c2)) (hi64 (addT e1 e2)) (lo64 (addT e1 e2)) (hi64 (addT k1 k2)) (lo64 (addT k1 k2)) o n p (minF (cntF la) (cntF lb)) → TV W b' (hi64 (addT c1 c2)) (lo64 (addT c1 c2)) (hi64 (addT e1 e2)) (lo64 (addT e1 e2)) (hi64 (addT k1 k2)) (lo64 (addT k1 k2)) o' n' p' (minF (cntF lb) (cntF la)) → Calls Tryz.prog 24 #[talV (addT c1 c2) (addT e1 e2) (addT k1 k2) o n p, talV (addT c1 c2) (addT e1 e2) (addT k1 k2) o' n' p'] W fun x w' => x = .returned (.bool true) ∧ Below W.heap.size W w') := fun W b b' o n p o' n' p' h h' => sameT_sk o o' n n' p p' (minF (cntF la) (cntF lb)) (minF (cntF lb) (cntF la)) (addT c1 c2) (addT e1 e2) (addT k1 k2) W h.sk h'.sk (fun i _ => by unfold minF; rw [Nat.add_comm])
  have S2 : Hid (∀ W b b' o n p o' n' p', TV W b (hi64 (addT (addT c1 c2) c3)) (lo64 (addT (addT c1 c2) c3)) (hi64 (addT (addT e1 e2) e3)) (lo64 (addT (addT e1 e2) e3)) (hi64 (addT (addT k1 k2) k3)) (lo64 (addT (addT k1 k2) k3)) o n p (minF (minF (cntF la) (cntF lb)) (cntF lc)) → TV W b' (hi64 (addT (addT c1 c2) c3)) (lo64 (addT (addT c1 c2) c3)) (hi64 (addT (addT e1 e2) e3)) (lo64 (addT (addT e1 e2) e3)) (hi64 (addT (addT k1 k2) k3)) (lo64 (addT (addT k1 k2) k3)) o' n' p' (minF (cntF la) (minF (cntF lb) (cntF lc))) → Calls Tryz.prog 24 #[talV (addT (addT c1 c2) c3) (addT (addT e1 e2) e3) (addT (addT k1 k2) k3) o n p, talV (addT (addT c1 c2) c3) (addT (addT e1 e2) e3) (addT (addT k1 k2) k3) o' n' p'] W fun x w' => x = .returned (.bool true) ∧ Below W.heap.size W w') := fun W b b' o n p o' n' p' h h' => sameT_sk o o' n n' p p' (minF (minF (cntF la) (cntF lb)) (cntF lc)) (minF (cntF la) (minF (cntF lb) (cntF lc))) (addT (addT c1 c2) c3) (addT (addT e1 e2) e3) (addT (addT k1 k2) k3) W h.sk h'.sk (fun i _ => by unfold minF; omega)
  have S3 : Hid (∀ W b o n p, P3 w W (talL (hi64 c1) (lo64 c1) (hi64 e1) (lo64 e1) (hi64 k1) (lo64 k1) aa na pa) (talL (hi64 c2) (lo64 c2) (hi64 e2) (lo64 e2) (hi64 k2) (lo64 k2) ba nb pb) (talL (hi64 c3) (lo64 c3) (hi64 e3) (lo64 e3) (hi64 k3) (lo64 k3) ca nc pc) aa ba ca na nb nc la lb lc → TV W b (hi64 c1) (lo64 c1) (hi64 e1) (lo64 e1) (hi64 k1) (lo64 k1) o n p (minF (cntF la) (fun _ => 0)) → Calls Tryz.prog 24 #[talV c1 e1 k1 o n p, talV c1 e1 k1 aa na pa] W fun x w' => x = .returned (.bool true) ∧ Below W.heap.size W w') := fun W b o n p h h' => sameT_sk o aa n na p pa (minF (cntF la) (fun _ => 0)) (cntF la) c1 e1 k1 W h'.sk (sa h.ia) (fun i _ => by have h1 := cntF_le hA.bin i; show min (cntF la i + 0) topC = cntF la i; omega)
  have S4 : Hid (∀ W b o n p, P3 w W (talL (hi64 c1) (lo64 c1) (hi64 e1) (lo64 e1) (hi64 k1) (lo64 k1) aa na pa) (talL (hi64 c2) (lo64 c2) (hi64 e2) (lo64 e2) (hi64 k2) (lo64 k2) ba nb pb) (talL (hi64 c3) (lo64 c3) (hi64 e3) (lo64 e3) (hi64 k3) (lo64 k3) ca nc pc) aa ba ca na nb nc la lb lc → TV W b (hi64 c1) (lo64 c1) (hi64 e1) (lo64 e1) (hi64 k1) (lo64 k1) o n p (minF (fun _ => 0) (cntF la)) → Calls Tryz.prog 24 #[talV c1 e1 k1 o n p, talV c1 e1 k1 aa na pa] W fun x w' => x = .returned (.bool true) ∧ Below W.heap.size W w') := fun W b o n p h h' => sameT_sk o aa n na p pa (minF (fun _ => 0) (cntF la)) (cntF la) c1 e1 k1 W h'.sk (sa h.ia) (fun i _ => by have h1 := cntF_le hA.bin i; show min (0 + cntF la i) topC = cntF la i; omega)
  rw [ha] at MA
  rw [hb] at MB
  rw [hc] at MC
  simp only [talV_zero] at PN PM
  unfold talV at *
  clear sa sb sc ha hb hc hT hA hB hC c1b e1b k1b c2b e2b k2b c3b e3b k3b
  generalize (hi64 (addT (addT c1 c2) c3) : Int) = p0 at *
  generalize (lo64 (addT (addT c1 c2) c3) : Int) = p1 at *
  generalize (hi64 (addT (addT e1 e2) e3) : Int) = p2 at *
  generalize (lo64 (addT (addT e1 e2) e3) : Int) = p3 at *
  generalize (hi64 (addT (addT k1 k2) k3) : Int) = p4 at *
  generalize (lo64 (addT (addT k1 k2) k3) : Int) = p5 at *
  generalize (hi64 (addT c2 c3) : Int) = z0 at *
  generalize (lo64 (addT c2 c3) : Int) = z1 at *
  generalize (hi64 (addT e2 e3) : Int) = z2 at *
  generalize (lo64 (addT e2 e3) : Int) = z3 at *
  generalize (hi64 (addT k2 k3) : Int) = z4 at *
  generalize (lo64 (addT k2 k3) : Int) = z5 at *
  generalize (hi64 (addT c1 c2) : Int) = x0 at *
  generalize (lo64 (addT c1 c2) : Int) = x1 at *
  generalize (hi64 (addT e1 e2) : Int) = x2 at *
  generalize (lo64 (addT e1 e2) : Int) = x3 at *
  generalize (hi64 (addT k1 k2) : Int) = x4 at *
  generalize (lo64 (addT k1 k2) : Int) = x5 at *
  generalize (hi64 c1 : Int) = a0 at *
  generalize (lo64 c1 : Int) = a1 at *
  generalize (hi64 e1 : Int) = a2 at *
  generalize (lo64 e1 : Int) = a3 at *
  generalize (hi64 k1 : Int) = a4 at *
  generalize (lo64 k1 : Int) = a5 at *
  generalize (hi64 c2 : Int) = b0 at *
  generalize (lo64 c2 : Int) = b1 at *
  generalize (hi64 e2 : Int) = b2 at *
  generalize (lo64 e2 : Int) = b3 at *
  generalize (hi64 k2 : Int) = b4 at *
  generalize (lo64 k2 : Int) = b5 at *
  generalize (hi64 c3 : Int) = c0 at *
  generalize (lo64 c3 : Int) = c1 at *
  generalize (hi64 e3 : Int) = c2 at *
  generalize (lo64 e3 : Int) = c3 at *
  generalize (hi64 k3 : Int) = c4 at *
  generalize (lo64 k3 : Int) = c5 at *
  generalize cntF la = fa at *
  generalize cntF lb = fb at *
  generalize cntF lc = fc at *
  simp only [talL] at SH F MA MB MC PX PY PP PZ PQ PN PM S1 S2 S3 S4 ⊢
  go_enter Tryz.func6, Tryz.ntmps6
  go_wp2_with (first
    | (go_at_call 9; (with_reducible refine (SH).mono ?_); clear SH; rintro x w1 ⟨rfl, b⟩; have F1 : Hid _ := P3.below F.out b; clear F; have F := F1; clear F1; clear b)
    | (go_at_call 29; (with_reducible refine (MA.out _ F.out).mono ?_); clear MA; rintro x w2 ⟨rfl, b⟩; have F1 : Hid _ := P3.below F.out b; clear F; have F := F1; clear F1; clear b)
    | (go_at_call 29; (with_reducible refine (MB.out _ F.out).mono ?_); clear MB; rintro x w3 ⟨rfl, b⟩; have F1 : Hid _ := P3.below F.out b; clear F; have F := F1; clear F1; clear b)
    | (go_at_call 29; (with_reducible refine (MC.out _ F.out).mono ?_); clear MC; rintro x w4 ⟨rfl, b⟩; have F1 : Hid _ := P3.below F.out b; clear F; have F := F1; clear F1; clear b)
    | (go_at_call 19; (with_reducible refine (PX.out _ F.out).mono ?_); clear PX; rintro x w5 ⟨oX, nX, pX, rfl, SX, b⟩; have F1 : Hid _ := P3.below F.out b; clear F; have F := F1; clear F1; clear b)
    | (go_at_call 19; (with_reducible refine (PY.out _ (P3.below F.out ((Below.refl _ _).alloc (Nat.le_refl _) _))).mono ?_); clear PY; rintro x w6 ⟨oY, nY, pY, rfl, SY, b⟩; have MM : Below w5.heap.size w5 w6 := ((Below.refl _ _).alloc (Nat.le_refl _) _).trans (b.mono (by simp)); have F1 : Hid _ := P3.below F.out MM; clear F; have F := F1; clear F1; have X : Hid (TV w6 w5.heap.size x0 x1 x2 x3 x4 x5 oX nX pX (minF fa fb)) := ⟨Blk.below (Blk.new _ _ _) b (by simp), SkAt.below SX.out MM⟩; clear MM SX; clear b)
    | (go_at_call 19; (with_reducible refine (PP.out _ _ _ _ _ (P3.below F.out ((Below.refl _ _).alloc (Nat.le_refl _) _)) (TV.below X.out ((Below.refl _ _).alloc (Nat.le_refl _) _))).mono ?_); clear PP; rintro x w7 ⟨oP, nP, pP, rfl, SP, b⟩; have MM : Below w6.heap.size w6 w7 := ((Below.refl _ _).alloc (Nat.le_refl _) _).trans (b.mono (by simp)); have F1 : Hid _ := P3.below F.out MM; clear F; have F := F1; clear F1; have F1 : Hid _ := TV.below X.out MM; clear X; have X := F1; clear F1; have Y : Hid (TV w7 w6.heap.size x0 x1 x2 x3 x4 x5 oY nY pY (minF fb fa)) := ⟨Blk.below (Blk.new _ _ _) b (by simp), SkAt.below SY.out MM⟩; clear MM SY; clear b)
    | (go_at_call 19; (with_reducible refine (PZ.out _ (P3.below F.out ((Below.refl _ _).alloc (Nat.le_refl _) _))).mono ?_); clear PZ; rintro x w8 ⟨oZ, nZ, pZ, rfl, SZ, b⟩; have MM : Below w7.heap.size w7 w8 := ((Below.refl _ _).alloc (Nat.le_refl _) _).trans (b.mono (by simp)); have F1 : Hid _ := P3.below F.out MM; clear F; have F := F1; clear F1; have F1 : Hid _ := TV.below X.out MM; clear X; have X := F1; clear F1; have F1 : Hid _ := TV.below Y.out MM; clear Y; have Y := F1; clear F1; have P : Hid (TV w8 w7.heap.size p0 p1 p2 p3 p4 p5 oP nP pP (minF (minF fa fb) fc)) := ⟨Blk.below (Blk.new _ _ _) b (by simp), SkAt.below SP.out MM⟩; clear MM SP; clear b)
    | (go_at_call 19; (refine (PQ.out _ _ _ _ _ (P3.below F.out ((Below.refl _ _).alloc (Nat.le_refl _) _)) (TV.mk (Blk.new _ _ _) (SkAt.below SZ.out ((Below.refl _ _).alloc (Nat.le_refl _) _)))).mono ?_); clear PQ; rintro x w9 ⟨oQ, nQ, pQ, rfl, SQ, b⟩; have MM : Below w8.heap.size w8 w9 := ((Below.refl _ _).alloc (Nat.le_refl _) _).trans (b.mono (by simp)); have F1 : Hid _ := P3.below F.out MM; clear F; have F := F1; clear F1; have F1 : Hid _ := TV.below X.out MM; clear X; have X := F1; clear F1; have F1 : Hid _ := TV.below Y.out MM; clear Y; have Y := F1; clear F1; have F1 : Hid _ := TV.below P.out MM; clear P; have P := F1; clear F1; have Z : Hid (TV w9 w8.heap.size z0 z1 z2 z3 z4 z5 oZ nZ pZ (minF fb fc)) := ⟨Blk.below (Blk.new _ _ _) b (by simp), SkAt.below SZ.out MM⟩; clear MM SZ; clear b)
    | (go_at_call 19; (with_reducible refine (PN.out _ (P3.below F.out ((Below.refl _ _).alloc (Nat.le_refl _) _))).mono ?_); clear PN; rintro x w10 ⟨oN, nN, pN, rfl, SN, b⟩; have MM : Below w9.heap.size w9 w10 := ((Below.refl _ _).alloc (Nat.le_refl _) _).trans (b.mono (by simp)); have F1 : Hid _ := P3.below F.out MM; clear F; have F := F1; clear F1; have F1 : Hid _ := TV.below X.out MM; clear X; have X := F1; clear F1; have F1 : Hid _ := TV.below Y.out MM; clear Y; have Y := F1; clear F1; have F1 : Hid _ := TV.below P.out MM; clear P; have P := F1; clear F1; have F1 : Hid _ := TV.below Z.out MM; clear Z; have Z := F1; clear F1; have Q : Hid (TV w10 w9.heap.size p0 p1 p2 p3 p4 p5 oQ nQ pQ (minF fa (minF fb fc))) := ⟨Blk.below (Blk.new _ _ _) b (by simp), SkAt.below SQ.out MM⟩; clear MM SQ; clear b)
    | (go_at_call 19; (with_reducible refine (PM.out _ (P3.below F.out ((Below.refl _ _).alloc (Nat.le_refl _) _))).mono ?_); clear PM; rintro x w11 ⟨oM, nM, pM, rfl, SM, b⟩; have MM : Below w10.heap.size w10 w11 := ((Below.refl _ _).alloc (Nat.le_refl _) _).trans (b.mono (by simp)); have F1 : Hid _ := P3.below F.out MM; clear F; have F := F1; clear F1; have F1 : Hid _ := TV.below X.out MM; clear X; have X := F1; clear F1; have F1 : Hid _ := TV.below Y.out MM; clear Y; have Y := F1; clear F1; have F1 : Hid _ := TV.below P.out MM; clear P; have P := F1; clear F1; have F1 : Hid _ := TV.below Z.out MM; clear Z; have Z := F1; clear F1; have F1 : Hid _ := TV.below Q.out MM; clear Q; have Q := F1; clear F1; have N : Hid (TV w11 w10.heap.size a0 a1 a2 a3 a4 a5 oN nN pN (minF fa (fun _ => 0))) := ⟨Blk.below (Blk.new _ _ _) b (by simp), SkAt.below SN.out MM⟩; clear MM SN; clear b)
    | (go_at_call 24; (with_reducible refine (S1.out _ _ _ _ _ _ _ _ _ (TV.below X.out ((Below.refl _ _).alloc (Nat.le_refl _) _)) (TV.below Y.out ((Below.refl _ _).alloc (Nat.le_refl _) _))).mono ?_); clear S1; rintro x w12 ⟨rfl, b⟩; have MM : Below w11.heap.size w11 w12 := ((Below.refl _ _).alloc (Nat.le_refl _) _).trans (b.mono (by simp)); have F1 : Hid _ := P3.below F.out MM; clear F; have F := F1; clear F1; have F1 : Hid _ := TV.below X.out MM; clear X; have X := F1; clear F1; have F1 : Hid _ := TV.below Y.out MM; clear Y; have Y := F1; clear F1; have F1 : Hid _ := TV.below P.out MM; clear P; have P := F1; clear F1; have F1 : Hid _ := TV.below Z.out MM; clear Z; have Z := F1; clear F1; have F1 : Hid _ := TV.below Q.out MM; clear Q; have Q := F1; clear F1; have F1 : Hid _ := TV.below N.out MM; clear N; have N := F1; clear F1; have M : Hid (TV w12 w11.heap.size a0 a1 a2 a3 a4 a5 oM nM pM (minF (fun _ => 0) fa)) := ⟨Blk.below (Blk.new _ _ _) b (by simp), SkAt.below SM.out MM⟩; clear MM SM; clear b)
    | (go_at_call 24; (with_reducible refine (S2.out _ _ _ _ _ _ _ _ _ P.out Q.out).mono ?_); clear S2; rintro x w13 ⟨rfl, b⟩; have F1 : Hid _ := P3.below F.out b; clear F; have F := F1; clear F1; have F1 : Hid _ := TV.below X.out b; clear X; have X := F1; clear F1; have F1 : Hid _ := TV.below Y.out b; clear Y; have Y := F1; clear F1; have F1 : Hid _ := TV.below P.out b; clear P; have P := F1; clear F1; have F1 : Hid _ := TV.below Z.out b; clear Z; have Z := F1; clear F1; have F1 : Hid _ := TV.below Q.out b; clear Q; have Q := F1; clear F1; have F1 : Hid _ := TV.below N.out b; clear N; have N := F1; clear F1; have F1 : Hid _ := TV.below M.out b; clear M; have M := F1; clear F1; clear b)
    | (go_at_call 24; (with_reducible refine (S3.out _ _ _ _ _ F.out N.out).mono ?_); clear S3; rintro x w14 ⟨rfl, b⟩; have F1 : Hid _ := P3.below F.out b; clear F; have F := F1; clear F1; have F1 : Hid _ := TV.below X.out b; clear X; have X := F1; clear F1; have F1 : Hid _ := TV.below Y.out b; clear Y; have Y := F1; clear F1; have F1 : Hid _ := TV.below P.out b; clear P; have P := F1; clear F1; have F1 : Hid _ := TV.below Z.out b; clear Z; have Z := F1; clear F1; have F1 : Hid _ := TV.below Q.out b; clear Q; have Q := F1; clear F1; have F1 : Hid _ := TV.below N.out b; clear N; have N := F1; clear F1; have F1 : Hid _ := TV.below M.out b; clear M; have M := F1; clear F1; clear b)
    | (go_at_call 24; (with_reducible refine (S4.out _ _ _ _ _ F.out M.out).mono ?_); clear S4; rintro x w15 ⟨rfl, b⟩; have F1 : Hid _ := P3.below F.out b; clear F; have F := F1; clear F1; have F1 : Hid _ := TV.below X.out b; clear X; have X := F1; clear F1; have F1 : Hid _ := TV.below Y.out b; clear Y; have Y := F1; clear F1; have F1 : Hid _ := TV.below P.out b; clear P; have P := F1; clear F1; have F1 : Hid _ := TV.below Z.out b; clear Z; have Z := F1; clear F1; have F1 : Hid _ := TV.below Q.out b; clear Q; have Q := F1; clear F1; have F1 : Hid _ := TV.below N.out b; clear N; have N := F1; clear F1; have F1 : Hid _ := TV.below M.out b; clear M; have M := F1; clear F1; clear b)
    | (refine wpList_load_mid rfl 41 _ rfl w.heap.size 0 rfl [.int .u64 a0, .int .u64 a1, .int .u64 a2, .int .u64 a3, .int .u64 a4, .int .u64 a5, .slice aa na pa] _ (range13 F.out.xa) Tryz.underlying41 rfl (by kernel_rfl) ?_)
    | (refine wpList_load_mid rfl 41 _ rfl w.heap.size 0 rfl [.int .u64 a0, .int .u64 a1, .int .u64 a2, .int .u64 a3, .int .u64 a4, .int .u64 a5, .slice aa na pa] _ (range13 (Blk.alloc F.out.xa _)) Tryz.underlying41 rfl (by kernel_rfl) ?_)
    | (refine wpList_load_mid rfl 41 _ rfl (w.heap.size + 1) 0 rfl [.int .u64 b0, .int .u64 b1, .int .u64 b2, .int .u64 b3, .int .u64 b4, .int .u64 b5, .slice ba nb pb] _ (range13 F.out.xb) Tryz.underlying41 rfl (by kernel_rfl) ?_)
    | (refine wpList_load_mid rfl 41 _ rfl (w.heap.size + 1) 0 rfl [.int .u64 b0, .int .u64 b1, .int .u64 b2, .int .u64 b3, .int .u64 b4, .int .u64 b5, .slice ba nb pb] _ (range13 (Blk.alloc F.out.xb _)) Tryz.underlying41 rfl (by kernel_rfl) ?_)
    | (refine wpList_load_mid rfl 41 _ rfl (w.heap.size + 1 + 1) 0 rfl [.int .u64 c0, .int .u64 c1, .int .u64 c2, .int .u64 c3, .int .u64 c4, .int .u64 c5, .slice ca nc pc] _ (range13 F.out.xc) Tryz.underlying41 rfl (by kernel_rfl) ?_)
    | (refine wpList_load_mid rfl 41 _ rfl (w.heap.size + 1 + 1) 0 rfl [.int .u64 c0, .int .u64 c1, .int .u64 c2, .int .u64 c3, .int .u64 c4, .int .u64 c5, .slice ca nc pc] _ (range13 (Blk.alloc F.out.xc _)) Tryz.underlying41 rfl (by kernel_rfl) ?_)
    | (refine wpList_load_mid rfl 41 _ rfl w5.heap.size 0 rfl [.int .u64 x0, .int .u64 x1, .int .u64 x2, .int .u64 x3, .int .u64 x4, .int .u64 x5, .slice oX nX pX] _ (range13 X.out.blk) Tryz.underlying41 rfl (by kernel_rfl) ?_)
    | (refine wpList_load_mid rfl 41 _ rfl w5.heap.size 0 rfl [.int .u64 x0, .int .u64 x1, .int .u64 x2, .int .u64 x3, .int .u64 x4, .int .u64 x5, .slice oX nX pX] _ (range13 (Blk.alloc X.out.blk _)) Tryz.underlying41 rfl (by kernel_rfl) ?_)
    | (refine wpList_load_mid rfl 41 _ rfl w6.heap.size 0 rfl [.int .u64 x0, .int .u64 x1, .int .u64 x2, .int .u64 x3, .int .u64 x4, .int .u64 x5, .slice oY nY pY] _ (range13 Y.out.blk) Tryz.underlying41 rfl (by kernel_rfl) ?_)
    | (refine wpList_load_mid rfl 41 _ rfl w6.heap.size 0 rfl [.int .u64 x0, .int .u64 x1, .int .u64 x2, .int .u64 x3, .int .u64 x4, .int .u64 x5, .slice oY nY pY] _ (range13 (Blk.alloc Y.out.blk _)) Tryz.underlying41 rfl (by kernel_rfl) ?_)
    | (refine wpList_load_mid rfl 41 _ rfl w7.heap.size 0 rfl [.int .u64 p0, .int .u64 p1, .int .u64 p2, .int .u64 p3, .int .u64 p4, .int .u64 p5, .slice oP nP pP] _ (range13 P.out.blk) Tryz.underlying41 rfl (by kernel_rfl) ?_)
    | (refine wpList_load_mid rfl 41 _ rfl w7.heap.size 0 rfl [.int .u64 p0, .int .u64 p1, .int .u64 p2, .int .u64 p3, .int .u64 p4, .int .u64 p5, .slice oP nP pP] _ (range13 (Blk.alloc P.out.blk _)) Tryz.underlying41 rfl (by kernel_rfl) ?_)
    | (refine wpList_load_mid rfl 41 _ rfl w8.heap.size 0 rfl [.int .u64 z0, .int .u64 z1, .int .u64 z2, .int .u64 z3, .int .u64 z4, .int .u64 z5, .slice oZ nZ pZ] _ (range13 Z.out.blk) Tryz.underlying41 rfl (by kernel_rfl) ?_)
    | (refine wpList_load_mid rfl 41 _ rfl w8.heap.size 0 rfl [.int .u64 z0, .int .u64 z1, .int .u64 z2, .int .u64 z3, .int .u64 z4, .int .u64 z5, .slice oZ nZ pZ] _ (range13 (Blk.alloc Z.out.blk _)) Tryz.underlying41 rfl (by kernel_rfl) ?_)
    | (refine wpList_load_mid rfl 41 _ rfl w9.heap.size 0 rfl [.int .u64 p0, .int .u64 p1, .int .u64 p2, .int .u64 p3, .int .u64 p4, .int .u64 p5, .slice oQ nQ pQ] _ (range13 Q.out.blk) Tryz.underlying41 rfl (by kernel_rfl) ?_)
    | (refine wpList_load_mid rfl 41 _ rfl w9.heap.size 0 rfl [.int .u64 p0, .int .u64 p1, .int .u64 p2, .int .u64 p3, .int .u64 p4, .int .u64 p5, .slice oQ nQ pQ] _ (range13 (Blk.alloc Q.out.blk _)) Tryz.underlying41 rfl (by kernel_rfl) ?_)
    | (refine wpList_load_mid rfl 41 _ rfl w10.heap.size 0 rfl [.int .u64 a0, .int .u64 a1, .int .u64 a2, .int .u64 a3, .int .u64 a4, .int .u64 a5, .slice oN nN pN] _ (range13 N.out.blk) Tryz.underlying41 rfl (by kernel_rfl) ?_)
    | (refine wpList_load_mid rfl 41 _ rfl w10.heap.size 0 rfl [.int .u64 a0, .int .u64 a1, .int .u64 a2, .int .u64 a3, .int .u64 a4, .int .u64 a5, .slice oN nN pN] _ (range13 (Blk.alloc N.out.blk _)) Tryz.underlying41 rfl (by kernel_rfl) ?_)
    | (refine wpList_load_mid rfl 41 _ rfl w11.heap.size 0 rfl [.int .u64 a0, .int .u64 a1, .int .u64 a2, .int .u64 a3, .int .u64 a4, .int .u64 a5, .slice oM nM pM] _ (range13 M.out.blk) Tryz.underlying41 rfl (by kernel_rfl) ?_)
    | (refine wpList_load_mid rfl 41 _ rfl w11.heap.size 0 rfl [.int .u64 a0, .int .u64 a1, .int .u64 a2, .int .u64 a3, .int .u64 a4, .int .u64 a5, .slice oM nM pM] _ (range13 (Blk.alloc M.out.blk _)) Tryz.underlying41 rfl (by kernel_rfl) ?_))
  go_ret
  exact ⟨rfl, F.out.low⟩
theorem callsPlus_any (aa ba ca : Option Addr) (na nb nc pa pb pc : Nat) (la lb lc : List (Int × Int)) (c1 e1 k1 c2 e2 k2 c3 e3 k3 : Nat) (w : World) (hT : Tabs w) (hA : InAt w aa na la) (hB : InAt w ba nb lb) (hC : InAt w ca nc lc) (c1b : c1 ≤ top128) (e1b : e1 ≤ top128) (k1b : k1 ≤ top128) (c2b : c2 ≤ top128) (e2b : e2 ≤ top128) (k2b : k2 ≤ top128) (c3b : c3 ≤ top128) (e3b : e3 ≤ top128) (k3b : k3 ≤ top128) :
    Calls Tryz.prog 6 #[talV c1 e1 k1 aa na pa, talV c2 e2 k2 ba nb pb, talV c3 e3 k3 ca nc pc] w fun x w' => x = .returned (.bool true) ∧ Below w.heap.size w w' := by
  cases hab : chkF (-1) la && chkF (-1) lb with
  | false => exact callsPlus_no aa ba ca na nb nc pa pb pc la lb lc c1 e1 k1 c2 e2 k2 c3 e3 k3 w hT hA hB hC hab
  | true =>
    rw [Bool.and_eq_true] at hab
    cases hc : chkF (-1) lc with
    | false => exact callsPlus_two aa ba ca na nb nc pa pb pc la lb lc c1 e1 k1 c2 e2 k2 c3 e3 k3 w hT hA hB hC c1b e1b k1b c2b e2b k2b hab.1 hab.2 hc
    | true => exact callsPlus_all aa ba ca na nb nc pa pb pc la lb lc c1 e1 k1 c2 e2 k2 c3 e3 k3 w hT hA hB hC c1b e1b k1b c2b e2b k2b c3b e3b k3b hab.1 hab.2 hc
end Go.Proofs.YtidcbkmjkiennaaGreatDoor.sk
