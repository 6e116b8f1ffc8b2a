/-
  CT.
-/
import Derived.Test.YtidcbkmjkiennaaGreatDoorCP
import Derived.Test.YtidcbkmjkiennaaGreatDoorCNq
import Derived.Test.YtidcbkmjkiennaaGreatDoorCCq
namespace Go.Proofs.YtidcbkmjkiennaaGreatDoor.sk
open Go Go.RowKit
set_option maxRecDepth 100000

/-- Two tallies as arguments. -/
structure P2 (w W : World) (A B : List Value) (aa ba : Option Addr) (na nb : Nat) (la lb : List (Int × Int)) : Prop where
  xa : Blk W w.heap.size A.toArray 41
  xb : Blk W (w.heap.size + 1) B.toArray 41
  ia : InAt W aa na la
  ib : InAt W ba nb lb
  low : Below w.heap.size w W
theorem P2.below {w W W' : World} {A B : List Value} {aa ba : Option Addr} {na nb : Nat} {la lb : List (Int × Int)} (h : P2 w W A B aa ba na nb la lb) (hb : Below W.heap.size W W') : P2 w W' A B aa ba na nb la lb :=
  ⟨h.xa.below hb h.xa.lt, h.xb.below hb h.xb.lt, h.ia.below hb, h.ib.below hb, h.low.trans (hb.mono h.low.size)⟩
theorem P2.new {w : World} {A B : List Value} {aa ba : Option Addr} {na nb : Nat} {la lb : List (Int × Int)} (hA : InAt w aa na la) (hB : InAt w ba nb lb) : P2 w ((w.alloc (.cells A.toArray 41)).alloc (.cells B.toArray 41)) A B aa ba na nb la lb := by
  have h1 : (w.alloc (.cells A.toArray 41)).heap.size = w.heap.size + 1 := by simp
  have hb : Below w.heap.size w ((w.alloc (.cells A.toArray 41)).alloc (.cells B.toArray 41)) := (((Below.refl _ _).alloc (Nat.le_refl _) _).alloc (by simp) _)
  refine ⟨(Blk.new _ _ _).alloc _, ?_, hA.below hb, hB.below hb, hb⟩
  have := Blk.new (w.alloc (.cells A.toArray 41)) B.toArray 41
  rw [h1] at this
  exact this
theorem bars_mem_ofC {f : Nat → Nat} : ∀ {n i : Nat}, i < n → f i ≠ 0 → ((i : Int), (f i : Int)) ∈ barsN f n
  | 0, i, h, _ => by omega
  | n + 1, i, h, h0 => by
    rw [barsN_succ, List.mem_append]
    by_cases e : i = n
    · subst e
      right
      rw [if_neg h0]
      simp
    · left
      exact bars_mem_ofC (by omega) h0
theorem min_plain {f g : Nat → Nat} (h : ∀ b ∈ barsF (minF f g), b.2 ≠ 18446744073709551615) : ∀ i, i < 1920 → minF f g i = f i + g i := by
  intro i hi
  rcases Nat.lt_or_ge (f i + g i) topC with h1 | h1
  · unfold minF; omega
  · exfalso
    have e : minF f g i = topC := by unfold minF; omega
    have hm := bars_mem_ofC (f := minF f g) hi (by rw [e, topC_eq]; omega)
    refine h _ hm ?_
    rw [e, topC_eq]
    rfl
theorem addT_plain {a b : Nat} (h : addT a b ≠ top128) : addT a b = a + b := by unfold addT at *; omega
/-- A number and the next one, in two halves. -/
theorem one_more (n : Nat) : ((lo64 n : Int) ≠ 18446744073709551615 ∧ IntKind.u64.wrap ((lo64 n : Int) + 1) = (lo64 (n + 1) : Int) ∧ ((lo64 (n + 1) : Int) == 0) = false ∧ (hi64 (n + 1) : Int) = (hi64 n : Int)) ∨ ((lo64 n : Int) = 18446744073709551615 ∧ (lo64 (n + 1) : Int) = 0 ∧ (n ≠ top128 → n ≤ top128 → IntKind.u64.wrap ((hi64 n : Int) + 1) = (hi64 (n + 1) : Int))) := by
  have a := hilo n
  have b := lo64_lt n
  by_cases h : lo64 n = 18446744073709551615
  · right
    refine ⟨by omega, by unfold lo64 at *; omega, fun h1 h2 => ?_⟩
    rw [top128_eq] at *
    rw [IntKind.wrap_u64]
    unfold hi64 lo64 at *
    omega
  · left
    refine ⟨by omega, ?_, ?_, ?_⟩
    · rw [IntKind.wrap_u64]; unfold lo64 at *; omega
    · have : lo64 (n + 1) ≠ 0 := by unfold lo64 at *; omega
      simp; omega
    · unfold hi64 lo64 at *; omega
set_option maxHeartbeats 2000000 in
theorem callsBack_no (aa ba : Option Addr) (na nb pa pb : Nat) (la lb : List (Int × Int)) (c1 e1 k1 c2 e2 k2 : Nat) (w : World) (hT : Tabs w) (hA : InAt w aa na la) (hB : InAt w ba nb lb) (hab : (chkF (-1) la && chkF (-1) lb) = false) :
    Calls Tryz.prog 7 #[talV c1 e1 k1 aa na pa, talV c2 e2 k2 ba nb pb] w fun x w' => x = .returned (.bool true) ∧ Below w.heap.size w w' := by
  have SH := shown_any ((w.alloc (.cells (talL (hi64 c1) (lo64 c1) (hi64 e1) (lo64 e1) (hi64 k1) (lo64 k1) aa na pa).toArray 41)).alloc (.cells (talL (hi64 c2) (lo64 c2) (hi64 e2) (lo64 e2) (hi64 k2) (lo64 k2) ba nb pb).toArray 41)) (hT.below ((((Below.refl _ _).alloc (Nat.le_refl _) _).alloc (by simp) _)))
  have F : Hid (P2 w _ (talL (hi64 c1) (lo64 c1) (hi64 e1) (lo64 e1) (hi64 k1) (lo64 k1) aa na pa) (talL (hi64 c2) (lo64 c2) (hi64 e2) (lo64 e2) (hi64 k2) (lo64 k2) ba nb pb) aa ba na nb la lb) := P2.new hA hB
  have MA : Hid (∀ W, P2 w W (talL (hi64 c1) (lo64 c1) (hi64 e1) (lo64 e1) (hi64 k1) (lo64 k1) aa na pa) (talL (hi64 c2) (lo64 c2) (hi64 e2) (lo64 e2) (hi64 k2) (lo64 k2) ba nb pb) aa ba na nb la lb → Calls Tryz.prog 29 #[talV c1 e1 k1 aa na pa] W fun x w' => x = .returned (.bool (chkF (-1) la)) ∧ Below W.heap.size W w') := fun W h => may_any aa na pa la c1 e1 k1 W h.ia
  have MB : Hid (∀ W, P2 w W (talL (hi64 c1) (lo64 c1) (hi64 e1) (lo64 e1) (hi64 k1) (lo64 k1) aa na pa) (talL (hi64 c2) (lo64 c2) (hi64 e2) (lo64 e2) (hi64 k2) (lo64 k2) ba nb pb) aa ba na nb la lb → Calls Tryz.prog 29 #[talV c2 e2 k2 ba nb pb] W fun x w' => x = .returned (.bool (chkF (-1) lb)) ∧ Below W.heap.size W w') := fun W h => may_any ba nb pb lb c2 e2 k2 W h.ib
  unfold talV at *
  generalize (hi64 c1 : Int) = a0 at *
  generalize (lo64 c1 : Int) = a1 at *
  generalize (hi64 e1 : Int) = a2 at *
  generalize (lo64 e1 : Int) = a3 at *
  generalize (hi64 k1 : Int) = a4 at *
  generalize (lo64 k1 : Int) = a5 at *
  generalize (hi64 c2 : Int) = b0 at *
  generalize (lo64 c2 : Int) = b1 at *
  generalize (hi64 e2 : Int) = b2 at *
  generalize (lo64 e2 : Int) = b3 at *
  generalize (hi64 k2 : Int) = b4 at *
  generalize (lo64 k2 : Int) = b5 at *
  clear hT hA hB
  cases ha : chkF (-1) la <;> cases hb : chkF (-1) lb <;> rw [ha, hb] at hab <;> first | (exact absurd hab (by decide)) | skip
  all_goals rw [ha] at MA
  all_goals rw [hb] at MB
  all_goals clear ha hb hab
  all_goals simp only [talL] at SH F MA MB ⊢
  all_goals go_enter Tryz.func7, Tryz.ntmps7
  all_goals go_wp2_with (first
    | (go_at_call 9; (with_reducible refine (SH).mono ?_); clear SH; rintro x w1 ⟨rfl, b⟩; have F1 : Hid _ := P2.below F.out b; clear F; have F := F1; clear F1; clear b)
    | (go_at_call 29; (with_reducible refine (MA.out _ F.out).mono ?_); clear MA; rintro x w2 ⟨rfl, b⟩; have F1 : Hid _ := P2.below F.out b; clear F; have F := F1; clear F1; clear b)
    | (go_at_call 29; (with_reducible refine (MB.out _ F.out).mono ?_); clear MB; rintro x w3 ⟨rfl, b⟩; have F1 : Hid _ := P2.below F.out b; clear F; have F := F1; clear F1; clear b)
    | (refine wpList_load_mid rfl 41 _ rfl w.heap.size 0 rfl [.int .u64 a0, .int .u64 a1, .int .u64 a2, .int .u64 a3, .int .u64 a4, .int .u64 a5, .slice aa na pa] _ (range13 F.out.xa) Tryz.underlying41 rfl (by kernel_rfl) ?_)
    | (refine wpList_load_mid rfl 41 _ rfl w.heap.size 0 rfl [.int .u64 a0, .int .u64 a1, .int .u64 a2, .int .u64 a3, .int .u64 a4, .int .u64 a5, .slice aa na pa] _ (range13 (Blk.alloc F.out.xa _)) Tryz.underlying41 rfl (by kernel_rfl) ?_)
    | (refine wpList_load_mid rfl 41 _ rfl (w.heap.size + 1) 0 rfl [.int .u64 b0, .int .u64 b1, .int .u64 b2, .int .u64 b3, .int .u64 b4, .int .u64 b5, .slice ba nb pb] _ (range13 F.out.xb) Tryz.underlying41 rfl (by kernel_rfl) ?_)
    | (refine wpList_load_mid rfl 41 _ rfl (w.heap.size + 1) 0 rfl [.int .u64 b0, .int .u64 b1, .int .u64 b2, .int .u64 b3, .int .u64 b4, .int .u64 b5, .slice ba nb pb] _ (range13 (Blk.alloc F.out.xb _)) Tryz.underlying41 rfl (by kernel_rfl) ?_))
  all_goals go_ret
  all_goals exact ⟨rfl, F.out.low⟩
set_option maxHeartbeats 8000000 in
theorem callsBack_all (aa ba : Option Addr) (na nb pa pb : Nat) (la lb : List (Int × Int)) (c1 e1 k1 c2 e2 k2 : Nat) (w : World) (hT : Tabs w) (hA : InAt w aa na la) (hB : InAt w ba nb lb) (c1b : c1 ≤ top128) (e1b : e1 ≤ top128) (k1b : k1 ≤ top128) (c2b : c2 ≤ top128) (e2b : e2 ≤ top128) (k2b : k2 ≤ top128) (ha : chkF (-1) la = true) (hb : chkF (-1) lb = true) :
    Calls Tryz.prog 7 #[talV c1 e1 k1 aa na pa, talV c2 e2 k2 ba nb pb] w fun x w' => x = .returned (.bool true) ∧ Below w.heap.size w w' := by
  have HMP : Hid (∀ W x w', MostP (addT c1 c2) (addT e1 e2) (addT k1 k2) (barsF (minF (cntF la) (cntF lb))) W x w' → ∃ b, x = .returned (.bool b) ∧ Hid (b = false → Few (addT c1 c2) (addT e1 e2) (addT k1 k2) (barsF (minF (cntF la) (cntF lb)))) ∧ Below W.heap.size W w') := fun W x w' h => h
  have SH := shown_any ((w.alloc (.cells (talL (hi64 c1) (lo64 c1) (hi64 e1) (lo64 e1) (hi64 k1) (lo64 k1) aa na pa).toArray 41)).alloc (.cells (talL (hi64 c2) (lo64 c2) (hi64 e2) (lo64 e2) (hi64 k2) (lo64 k2) ba nb pb).toArray 41)) (hT.below ((((Below.refl _ _).alloc (Nat.le_refl _) _).alloc (by simp) _)))
  have F : Hid (P2 w _ (talL (hi64 c1) (lo64 c1) (hi64 e1) (lo64 e1) (hi64 k1) (lo64 k1) aa na pa) (talL (hi64 c2) (lo64 c2) (hi64 e2) (lo64 e2) (hi64 k2) (lo64 k2) ba nb pb) aa ba na nb la lb) := P2.new hA hB
  have MA : Hid (∀ W, P2 w W (talL (hi64 c1) (lo64 c1) (hi64 e1) (lo64 e1) (hi64 k1) (lo64 k1) aa na pa) (talL (hi64 c2) (lo64 c2) (hi64 e2) (lo64 e2) (hi64 k2) (lo64 k2) ba nb pb) aa ba na nb la lb → Calls Tryz.prog 29 #[talV c1 e1 k1 aa na pa] W fun x w' => x = .returned (.bool (chkF (-1) la)) ∧ Below W.heap.size W w') := fun W h => may_any aa na pa la c1 e1 k1 W h.ia
  have MB : Hid (∀ W, P2 w W (talL (hi64 c1) (lo64 c1) (hi64 e1) (lo64 e1) (hi64 k1) (lo64 k1) aa na pa) (talL (hi64 c2) (lo64 c2) (hi64 e2) (lo64 e2) (hi64 k2) (lo64 k2) ba nb pb) aa ba na nb la lb → Calls Tryz.prog 29 #[talV c2 e2 k2 ba nb pb] W fun x w' => x = .returned (.bool (chkF (-1) lb)) ∧ Below W.heap.size W w') := fun W h => may_any ba nb pb lb c2 e2 k2 W h.ib
  have sa : ∀ {W}, InAt W aa na la → SkAt W aa na (cntF la) := fun h => h.sk ha
  have sb : ∀ {W}, InAt W ba nb lb → SkAt W ba nb (cntF lb) := fun h => h.sk hb
  have PS : Hid (∀ W, P2 w W (talL (hi64 c1) (lo64 c1) (hi64 e1) (lo64 e1) (hi64 k1) (lo64 k1) aa na pa) (talL (hi64 c2) (lo64 c2) (hi64 e2) (lo64 e2) (hi64 k2) (lo64 k2) ba nb pb) aa ba na nb la lb → Calls Tryz.prog 19 #[talV c1 e1 k1 aa na pa, talV c2 e2 k2 ba nb pb] W fun x w' => ∃ ao L cp, x = .returned (.tuple #[talV (addT c1 c2) (addT e1 e2) (addT k1 k2) ao L cp, .int .i64 0]) ∧ Hid (SkAt w' ao L (minF (cntF la) (cntF lb))) ∧ Below W.heap.size W w') := fun W h => by
    refine (cPlus_ok aa ba na nb pa pb (cntF la) (cntF lb) c1 e1 k1 c2 e2 k2 W (sa h.ia) (sb h.ib) c1b e1b k1b c2b e2b k2b).mono fun x w' hx => ?_
    obtain ⟨ao, L, cp, h1, h2, h3, _⟩ := hx
    exact ⟨ao, L, cp, h1, h2, h3⟩
  have MO : Hid (∀ W o n p, SkAt W o n (minF (cntF la) (cntF lb)) → Calls Tryz.prog 30 #[talV (addT c1 c2) (addT e1 e2) (addT k1 k2) o n p] W (MostP (addT c1 c2) (addT e1 e2) (addT k1 k2) (barsF (minF (cntF la) (cntF lb))) W)) := fun W o n p h => most_any o n p (minF (cntF la) (cntF lb)) (addT c1 c2) (addT e1 e2) (addT k1 k2) W h
  have PX : Hid (∀ W b o n p, Few (addT c1 c2) (addT e1 e2) (addT k1 k2) (barsF (minF (cntF la) (cntF lb))) → P2 w W (talL (hi64 c1) (lo64 c1) (hi64 e1) (lo64 e1) (hi64 k1) (lo64 k1) aa na pa) (talL (hi64 c2) (lo64 c2) (hi64 e2) (lo64 e2) (hi64 k2) (lo64 k2) ba nb pb) aa ba na nb la lb → TV W b (hi64 (addT c1 c2)) (lo64 (addT c1 c2)) (hi64 (addT e1 e2)) (lo64 (addT e1 e2)) (hi64 (addT k1 k2)) (lo64 (addT k1 k2)) o n p (minF (cntF la) (cntF lb)) → Calls Tryz.prog 20 #[talV (addT c1 c2) (addT e1 e2) (addT k1 k2) o n p, talV c2 e2 k2 ba nb pb] W fun x w' => ∃ ao L cp, x = .returned (.tuple #[talV c1 e1 k1 ao L cp, .int .i64 0]) ∧ Hid (SkAt w' ao L (cntF la)) ∧ Below W.heap.size W w') := fun W b o n p hf h hs => by
    obtain ⟨f1, f2, f3, f4⟩ := hf
    have hp := min_plain f1
    have g2 := addT_plain f2
    have g3 := addT_plain f3
    have g4 := addT_plain f4
    have M := cMinus_ok o ba n nb p pb (minF (cntF la) (cntF lb)) (cntF lb) (addT c1 c2) (addT e1 e2) (addT k1 k2) c2 e2 k2 W hs.sk (sb h.ib) (addT_le _ _) (addT_le _ _) (addT_le _ _) (by omega) (by omega) (by omega) (fun i hi => by rw [hp i hi]; omega)
    rw [show (addT c1 c2) - c2 = c1 by omega, show (addT e1 e2) - e2 = e1 by omega, show (addT k1 k2) - k2 = k1 by omega] at M
    refine M.mono fun x w' hx => ?_
    obtain ⟨ao, L, cp, h1, h2, h3, _⟩ := hx
    exact ⟨ao, L, cp, h1, SkAt.congr h2.out (cntF_le hA.bin) (fun i hi => by show minF (cntF la) (cntF lb) i - cntF lb i = cntF la i; rw [hp i hi]; omega), h3⟩
  have SS : Hid (∀ W b o n p, P2 w W (talL (hi64 c1) (lo64 c1) (hi64 e1) (lo64 e1) (hi64 k1) (lo64 k1) aa na pa) (talL (hi64 c2) (lo64 c2) (hi64 e2) (lo64 e2) (hi64 k2) (lo64 k2) ba nb pb) aa ba na nb la lb → TV W b (hi64 c1) (lo64 c1) (hi64 e1) (lo64 e1) (hi64 k1) (lo64 k1) o n p (cntF la) → Calls Tryz.prog 24 #[talV c1 e1 k1 o n p, talV c1 e1 k1 aa na pa] W fun x w' => x = .returned (.bool true) ∧ Below W.heap.size W w') := fun W b o n p h h' => sameT_sk o aa n na p pa (cntF la) (cntF la) c1 e1 k1 W h'.sk (sa h.ia) (fun _ _ => rfl)
  have PN : Hid (∀ W b o n p, TV W b (hi64 (addT c1 c2)) (lo64 (addT c1 c2)) (hi64 (addT e1 e2)) (lo64 (addT e1 e2)) (hi64 (addT k1 k2)) (lo64 (addT k1 k2)) o n p (minF (cntF la) (cntF lb)) → Calls Tryz.prog 20 #[talV (addT c1 c2) (addT e1 e2) (addT k1 k2) o n p, talV ((addT c1 c2) + 1) (addT e1 e2) (addT k1 k2) o n p] W (TalN 141 W)) := fun W b o n p hs => cMinus_not o o n n p p (minF (cntF la) (cntF lb)) (minF (cntF la) (cntF lb)) (addT c1 c2) (addT e1 e2) (addT k1 k2) ((addT c1 c2) + 1) (addT e1 e2) (addT k1 k2) W hs.sk hs.sk (fun h => by omega)
  unfold TalN at PN
  simp only [talV_zero] at PN
  rw [ha] at MA
  rw [hb] at MB
  have HQ : Hid _ := one_more (addT c1 c2)
  have ZQ : ∀ W : World, (binOp .eql 38 (.agg #[.int .u64 0, .int .u64 0]) (.agg #[.int .u64 0, .int .u64 0])).run Tryz.prog W = .ok (.bool true) W := fun W => by rw [run_eqlS (eqI_nat 9998 _ _ _ _ W)]; simp
  unfold talV at *
  clear sa sb ha hb hT hA hB c1b e1b k1b c2b e2b k2b
  have HT : Hid (Few (addT c1 c2) (addT e1 e2) (addT k1 k2) (barsF (minF (cntF la) (cntF lb))) → (addT c1 c2) ≠ top128) := fun h => h.2.1
  have HLE : Hid ((addT c1 c2) ≤ top128) := addT_le _ _
  generalize Few (addT c1 c2) (addT e1 e2) (addT k1 k2) (barsF (minF (cntF la) (cntF lb))) = FW at *
  generalize MostP (addT c1 c2) (addT e1 e2) (addT k1 k2) (barsF (minF (cntF la) (cntF lb))) = MP at *
  generalize (hi64 ((addT c1 c2) + 1) : Int) = y0 at *
  generalize (lo64 ((addT c1 c2) + 1) : Int) = y1 at *
  generalize (hi64 (addT c1 c2) : Int) = s0 at *
  generalize (lo64 (addT c1 c2) : Int) = s1 at *
  generalize (hi64 (addT e1 e2) : Int) = s2 at *
  generalize (lo64 (addT e1 e2) : Int) = s3 at *
  generalize (hi64 (addT k1 k2) : Int) = s4 at *
  generalize (lo64 (addT k1 k2) : Int) = s5 at *
  generalize (hi64 c1 : Int) = a0 at *
  generalize (lo64 c1 : Int) = a1 at *
  generalize (hi64 e1 : Int) = a2 at *
  generalize (lo64 e1 : Int) = a3 at *
  generalize (hi64 k1 : Int) = a4 at *
  generalize (lo64 k1 : Int) = a5 at *
  generalize (hi64 c2 : Int) = b0 at *
  generalize (lo64 c2 : Int) = b1 at *
  generalize (hi64 e2 : Int) = b2 at *
  generalize (lo64 e2 : Int) = b3 at *
  generalize (hi64 k2 : Int) = b4 at *
  generalize (lo64 k2 : Int) = b5 at *
  simp only [talL] at SH F MA MB PS MO PX SS PN ⊢
  rcases HQ.out with ⟨-, hw, hy, h0⟩ | ⟨rfl, rfl, hw⟩
  · rw [h0] at PN
    clear HQ HT HLE h0
    go_enter Tryz.func7, Tryz.ntmps7
    go_wp2_with (first
    | (go_at_call 9; (with_reducible refine (SH).mono ?_); clear SH; rintro x w1 ⟨rfl, b⟩; have F1 : Hid _ := P2.below F.out b; clear F; have F := F1; clear F1; clear b)
    | (go_at_call 29; (with_reducible refine (MA.out _ F.out).mono ?_); clear MA; rintro x w2 ⟨rfl, b⟩; have F1 : Hid _ := P2.below F.out b; clear F; have F := F1; clear F1; clear b)
    | (go_at_call 29; (with_reducible refine (MB.out _ F.out).mono ?_); clear MB; rintro x w3 ⟨rfl, b⟩; have F1 : Hid _ := P2.below F.out b; clear F; have F := F1; clear F1; clear b)
    | (go_at_call 19; (with_reducible refine (PS.out _ F.out).mono ?_); clear PS; rintro x w4 ⟨oS, nS, pS, rfl, SS0, b⟩; have F1 : Hid _ := P2.below F.out b; clear F; have F := F1; clear F1; clear b)
    | (go_at_call 30; (with_reducible refine (MO.out _ _ _ _ (SkAt.below SS0.out ((Below.refl _ _).alloc (Nat.le_refl _) _))).mono ?_); clear MO; rintro x w5 hmp; obtain ⟨bo, rfl, HF, b⟩ := HMP.out _ _ _ hmp; clear hmp HMP; have MM : Below w4.heap.size w4 w5 := ((Below.refl _ _).alloc (Nat.le_refl _) _).trans (b.mono (by simp)); have F1 : Hid _ := P2.below F.out MM; clear F; have F := F1; clear F1; have S : Hid (TV w5 w4.heap.size s0 s1 s2 s3 s4 s5 oS nS pS (minF (cntF la) (cntF lb))) := ⟨Blk.below (Blk.new _ _ _) b (by simp), SkAt.below SS0.out MM⟩; clear MM SS0 b; cases bo)
    | (go_at_call 20; (with_reducible refine (PX.out _ _ _ _ _ (HF.out (by simp)) F.out S.out).mono ?_); clear PX; rintro x w6 ⟨oX, nX, pX, rfl, SX, b⟩; have F1 : Hid _ := P2.below F.out b; clear F; have F := F1; clear F1; have F1 : Hid _ := TV.below S.out b; clear S; have S := F1; clear F1; clear b)
    | (go_at_call 24; (refine (SS.out _ _ _ _ _ (P2.below F.out ((Below.refl _ _).alloc (Nat.le_refl _) _)) (TV.mk (Blk.new _ _ _) (SkAt.below SX.out ((Below.refl _ _).alloc (Nat.le_refl _) _)))).mono ?_); clear SS; rintro x w7 ⟨rfl, b⟩; have MM : Below w6.heap.size w6 w7 := ((Below.refl _ _).alloc (Nat.le_refl _) _).trans (b.mono (by simp)); have F1 : Hid _ := P2.below F.out MM; clear F; have F := F1; clear F1; have F1 : Hid _ := TV.below S.out MM; clear S; have S := F1; clear F1; have X : Hid (TV w7 w6.heap.size a0 a1 a2 a3 a4 a5 oX nX pX (cntF la)) := ⟨Blk.below (Blk.new _ _ _) b (by simp), SkAt.below SX.out MM⟩; clear MM SX; clear b)
    | (go_at_call 20; (with_reducible refine (PN.out _ _ _ _ _ (TV.below S.out ((Below.refl _ _).alloc (Nat.le_refl _) _))).mono ?_); clear PN; rintro x w8 ⟨rfl, b⟩; have MM : Below w7.heap.size w7 w8 := ((Below.refl _ _).alloc (Nat.le_refl _) _).trans (b.mono (by simp)); have F1 : Hid _ := P2.below F.out MM; clear F; have F := F1; clear F1 MM b)
    | (refine wpList_load_mid rfl 41 _ rfl w.heap.size 0 rfl [.int .u64 a0, .int .u64 a1, .int .u64 a2, .int .u64 a3, .int .u64 a4, .int .u64 a5, .slice aa na pa] _ (range13 F.out.xa) Tryz.underlying41 rfl (by kernel_rfl) ?_)
    | (refine wpList_load_mid rfl 41 _ rfl w.heap.size 0 rfl [.int .u64 a0, .int .u64 a1, .int .u64 a2, .int .u64 a3, .int .u64 a4, .int .u64 a5, .slice aa na pa] _ (range13 (Blk.alloc F.out.xa _)) Tryz.underlying41 rfl (by kernel_rfl) ?_)
    | (refine wpList_load_mid rfl 41 _ rfl (w.heap.size + 1) 0 rfl [.int .u64 b0, .int .u64 b1, .int .u64 b2, .int .u64 b3, .int .u64 b4, .int .u64 b5, .slice ba nb pb] _ (range13 F.out.xb) Tryz.underlying41 rfl (by kernel_rfl) ?_)
    | (refine wpList_load_mid rfl 41 _ rfl (w.heap.size + 1) 0 rfl [.int .u64 b0, .int .u64 b1, .int .u64 b2, .int .u64 b3, .int .u64 b4, .int .u64 b5, .slice ba nb pb] _ (range13 (Blk.alloc F.out.xb _)) Tryz.underlying41 rfl (by kernel_rfl) ?_)
    | (refine wpList_load_mid rfl 41 _ rfl w4.heap.size 0 rfl [.int .u64 s0, .int .u64 s1, .int .u64 s2, .int .u64 s3, .int .u64 s4, .int .u64 s5, .slice oS nS pS] _ (range13 S.out.blk) Tryz.underlying41 rfl (by kernel_rfl) ?_)
    | (refine wpList_load_mid rfl 41 _ rfl w4.heap.size 0 rfl [.int .u64 s0, .int .u64 s1, .int .u64 s2, .int .u64 s3, .int .u64 s4, .int .u64 s5, .slice oS nS pS] _ (range13 (Blk.alloc S.out.blk _)) Tryz.underlying41 rfl (by kernel_rfl) ?_)
    | (refine wpList_load_mid rfl 41 _ rfl w6.heap.size 0 rfl [.int .u64 a0, .int .u64 a1, .int .u64 a2, .int .u64 a3, .int .u64 a4, .int .u64 a5, .slice oX nX pX] _ (range13 X.out.blk) Tryz.underlying41 rfl (by kernel_rfl) ?_)
    | (refine wpList_load_mid rfl 41 _ rfl w6.heap.size 0 rfl [.int .u64 a0, .int .u64 a1, .int .u64 a2, .int .u64 a3, .int .u64 a4, .int .u64 a5, .slice oX nX pX] _ (range13 (Blk.alloc X.out.blk _)) Tryz.underlying41 rfl (by kernel_rfl) ?_))
    · go_ret
      exact ⟨rfl, F.out.low.alloc F.out.low.size _⟩
    · go_ret
      exact ⟨rfl, F.out.low⟩
  · have HQ2 : Hid (FW → IntKind.u64.wrap (s0 + 1) = y0) := fun h => hw (HT.out h) HLE.out
    clear HQ HT HLE hw
    have hz : IntKind.u64.wrap 18446744073709551616 = 0 := by rw [IntKind.wrap_u64]; omega
    go_enter Tryz.func7, Tryz.ntmps7
    go_wp2_with (first
    | (go_at_call 9; (with_reducible refine (SH).mono ?_); clear SH; rintro x w1 ⟨rfl, b⟩; have F1 : Hid _ := P2.below F.out b; clear F; have F := F1; clear F1; clear b)
    | (go_at_call 29; (with_reducible refine (MA.out _ F.out).mono ?_); clear MA; rintro x w2 ⟨rfl, b⟩; have F1 : Hid _ := P2.below F.out b; clear F; have F := F1; clear F1; clear b)
    | (go_at_call 29; (with_reducible refine (MB.out _ F.out).mono ?_); clear MB; rintro x w3 ⟨rfl, b⟩; have F1 : Hid _ := P2.below F.out b; clear F; have F := F1; clear F1; clear b)
    | (go_at_call 19; (with_reducible refine (PS.out _ F.out).mono ?_); clear PS; rintro x w4 ⟨oS, nS, pS, rfl, SS0, b⟩; have F1 : Hid _ := P2.below F.out b; clear F; have F := F1; clear F1; clear b)
    | (go_at_call 30; (with_reducible refine (MO.out _ _ _ _ (SkAt.below SS0.out ((Below.refl _ _).alloc (Nat.le_refl _) _))).mono ?_); clear MO; rintro x w5 hmp; obtain ⟨bo, rfl, HF, b⟩ := HMP.out _ _ _ hmp; clear hmp HMP; have MM : Below w4.heap.size w4 w5 := ((Below.refl _ _).alloc (Nat.le_refl _) _).trans (b.mono (by simp)); have F1 : Hid _ := P2.below F.out MM; clear F; have F := F1; clear F1; have S : Hid (TV w5 w4.heap.size s0 18446744073709551615 s2 s3 s4 s5 oS nS pS (minF (cntF la) (cntF lb))) := ⟨Blk.below (Blk.new _ _ _) b (by simp), SkAt.below SS0.out MM⟩; clear MM SS0 b; cases bo)
    | (go_at_call 20; (with_reducible refine (PX.out _ _ _ _ _ (HF.out (by simp)) F.out S.out).mono ?_); clear PX; rintro x w6 ⟨oX, nX, pX, rfl, SX, b⟩; have F1 : Hid _ := P2.below F.out b; clear F; have F := F1; clear F1; have F1 : Hid _ := TV.below S.out b; clear S; have S := F1; clear F1; clear b)
    | (go_at_call 24; (refine (SS.out _ _ _ _ _ (P2.below F.out ((Below.refl _ _).alloc (Nat.le_refl _) _)) (TV.mk (Blk.new _ _ _) (SkAt.below SX.out ((Below.refl _ _).alloc (Nat.le_refl _) _)))).mono ?_); clear SS; rintro x w7 ⟨rfl, b⟩; have MM : Below w6.heap.size w6 w7 := ((Below.refl _ _).alloc (Nat.le_refl _) _).trans (b.mono (by simp)); have F1 : Hid _ := P2.below F.out MM; clear F; have F := F1; clear F1; have F1 : Hid _ := TV.below S.out MM; clear S; have S := F1; clear F1; have X : Hid (TV w7 w6.heap.size a0 a1 a2 a3 a4 a5 oX nX pX (cntF la)) := ⟨Blk.below (Blk.new _ _ _) b (by simp), SkAt.below SX.out MM⟩; clear MM SX; clear b; have hw0 := HQ2.out (HF.out (by simp)))
    | (go_at_call 20; (with_reducible refine (PN.out _ _ _ _ _ (TV.below S.out ((Below.refl _ _).alloc (Nat.le_refl _) _))).mono ?_); clear PN; rintro x w8 ⟨rfl, b⟩; have MM : Below w7.heap.size w7 w8 := ((Below.refl _ _).alloc (Nat.le_refl _) _).trans (b.mono (by simp)); have F1 : Hid _ := P2.below F.out MM; clear F; have F := F1; clear F1 MM b)
    | (refine wpList_load_mid rfl 41 _ rfl w.heap.size 0 rfl [.int .u64 a0, .int .u64 a1, .int .u64 a2, .int .u64 a3, .int .u64 a4, .int .u64 a5, .slice aa na pa] _ (range13 F.out.xa) Tryz.underlying41 rfl (by kernel_rfl) ?_)
    | (refine wpList_load_mid rfl 41 _ rfl w.heap.size 0 rfl [.int .u64 a0, .int .u64 a1, .int .u64 a2, .int .u64 a3, .int .u64 a4, .int .u64 a5, .slice aa na pa] _ (range13 (Blk.alloc F.out.xa _)) Tryz.underlying41 rfl (by kernel_rfl) ?_)
    | (refine wpList_load_mid rfl 41 _ rfl (w.heap.size + 1) 0 rfl [.int .u64 b0, .int .u64 b1, .int .u64 b2, .int .u64 b3, .int .u64 b4, .int .u64 b5, .slice ba nb pb] _ (range13 F.out.xb) Tryz.underlying41 rfl (by kernel_rfl) ?_)
    | (refine wpList_load_mid rfl 41 _ rfl (w.heap.size + 1) 0 rfl [.int .u64 b0, .int .u64 b1, .int .u64 b2, .int .u64 b3, .int .u64 b4, .int .u64 b5, .slice ba nb pb] _ (range13 (Blk.alloc F.out.xb _)) Tryz.underlying41 rfl (by kernel_rfl) ?_)
    | (refine wpList_load_mid rfl 41 _ rfl w4.heap.size 0 rfl [.int .u64 s0, .int .u64 18446744073709551615, .int .u64 s2, .int .u64 s3, .int .u64 s4, .int .u64 s5, .slice oS nS pS] _ (range13 S.out.blk) Tryz.underlying41 rfl (by kernel_rfl) ?_)
    | (refine wpList_load_mid rfl 41 _ rfl w4.heap.size 0 rfl [.int .u64 s0, .int .u64 18446744073709551615, .int .u64 s2, .int .u64 s3, .int .u64 s4, .int .u64 s5, .slice oS nS pS] _ (range13 (Blk.alloc S.out.blk _)) Tryz.underlying41 rfl (by kernel_rfl) ?_)
    | (refine wpList_load_mid rfl 41 _ rfl w6.heap.size 0 rfl [.int .u64 a0, .int .u64 a1, .int .u64 a2, .int .u64 a3, .int .u64 a4, .int .u64 a5, .slice oX nX pX] _ (range13 X.out.blk) Tryz.underlying41 rfl (by kernel_rfl) ?_)
    | (refine wpList_load_mid rfl 41 _ rfl w6.heap.size 0 rfl [.int .u64 a0, .int .u64 a1, .int .u64 a2, .int .u64 a3, .int .u64 a4, .int .u64 a5, .slice oX nX pX] _ (range13 (Blk.alloc X.out.blk _)) Tryz.underlying41 rfl (by kernel_rfl) ?_))
    · go_ret
      exact ⟨rfl, F.out.low.alloc F.out.low.size _⟩
    · go_ret
      exact ⟨rfl, F.out.low⟩
theorem callsBack_any (aa ba : Option Addr) (na nb pa pb : Nat) (la lb : List (Int × Int)) (c1 e1 k1 c2 e2 k2 : Nat) (w : World) (hT : Tabs w) (hA : InAt w aa na la) (hB : InAt w ba nb lb) (c1b : c1 ≤ top128) (e1b : e1 ≤ top128) (k1b : k1 ≤ top128) (c2b : c2 ≤ top128) (e2b : e2 ≤ top128) (k2b : k2 ≤ top128) :
    Calls Tryz.prog 7 #[talV c1 e1 k1 aa na pa, talV c2 e2 k2 ba nb pb] w fun x w' => x = .returned (.bool true) ∧ Below w.heap.size w w' := by
  cases hab : chkF (-1) la && chkF (-1) lb with
  | false => exact callsBack_no aa ba na nb pa pb la lb c1 e1 k1 c2 e2 k2 w hT hA hB hab
  | true =>
    rw [Bool.and_eq_true] at hab
    exact callsBack_all aa ba na nb pa pb la lb c1 e1 k1 c2 e2 k2 w hT hA hB c1b e1b k1b c2b e2b k2b hab.1 hab.2
end Go.Proofs.YtidcbkmjkiennaaGreatDoor.sk
