/-
  Merged: RB, ToE.
-/
import Derived.Test.YtmpmpoclkgofeaaGreatDoorPMq
import Derived.Test.YtmpmpoclkgofeaaGreatDoorPIq
import Derived.Test.YtmpmpoclkgofeaaGreatDoorFSq
import Derived.Test.YtmpmpoclkgofeaaGreatDoorYcq
import Derived.Test.YtmpmpoclkgofeaaGreatDoorMwq
import Derived.Test.YtmpmpoclkgofeaaGreatDoorZmq
import Derived.Test.YtmpmpoclkgofeaaGreatDoorFIq
import Derived.Test.YtmpmpoclkgofeaaGreatDoorWaq
import Derived.Test.YtmpmpoclkgofeaaGreatDoorFXq
import Derived.Test.YtmpmpoclkgofeaaGreatDoorOXq
import Derived.Test.YtmpmpoclkgofeaaGreatDoorOZ
import Derived.Shelf.SlSortCmp.WholeK
import Derived.Shelf.SlSortCmp.NoneTotal
import Derived.Ground.SlsfProg
import Derived.Test.YtmpmpoclkgofeaaGreatDoorToC
namespace Go.Proofs.YtmpmpoclkgofeaaGreatDoor
open Go Go.Shelf Go.RowKit Go.Lib Go.Sort
set_option maxRecDepth 100000

def LieIn {α : Type} (f : α → List Value) (s : Nat) (W : World) (ad : Option Addr) (l : List α) : Prop := l ≠ [] → ∃ g, ad = some ⟨g, 0, none⟩ ∧ g < W.heap.size ∧ ∀ i (hi : i < l.length) j v, (f l[i])[j]? = some v → W.cell? ⟨g, i * s + j, none⟩ = some v
theorem LieIn.below {α : Type} {f : α → List Value} {s : Nat} {W W' : World} {ad : Option Addr} {l : List α} (h : LieIn f s W ad l) (hb : Below W.heap.size W W') : LieIn f s W' ad l := fun hn => by
  obtain ⟨g, e, hg, hc⟩ := h hn
  refine ⟨g, e, Nat.lt_of_lt_of_le hg hb.size, fun i hi j v hv => ?_⟩
  exact (hb.cell (p := ⟨g, i * s + j, none⟩) hg).trans (hc i hi j v hv)
end Go.Proofs.YtmpmpoclkgofeaaGreatDoor

namespace Go.Proofs.YtmpmpoclkgofeaaGreatDoor
open Go Go.RowKit
set_option maxRecDepth 100000

def atQ (Q : List (Int × Int × Int)) (fr : Int) : Nat → Int
  | 0 => fr
  | k + 1 => (Q.getD k (0, 0, 0)).2.2
structure TilQ (Q : List (Int × Int × Int)) (fr til : Int) : Prop where
  len : Q.length ≤ 2000
  each : ∀ k (h : k < Q.length), Q[k].2.1 = atQ Q fr k ∧ Q[k].2.1 < Q[k].2.2
  adj : ∀ k (h : k + 1 < Q.length), Q[k + 1].1 ≠ Q[k].1
  last : atQ Q fr Q.length = til
  some_ : fr < til → 0 < Q.length
  none_ : til ≤ fr → Q.length = 0
set_option maxHeartbeats 4000000 in
theorem tiled_any (ad : Option Addr) (q cap : Nat) (Q : List (Int × Int × Int)) (fr til : Int) (W : World) (hq : Q.length = q) (hT : TilQ Q fr til) (hA : LieIn legC 3 W ad Q) (hb : 0 ≤ fr ∧ fr ≤ 4611686018427387904 ∧ 0 ≤ til ∧ til ≤ 4611686018427387904) :
    Calls Tryz.prog 9 #[.slice ad q cap, .agg #[.int .i64 fr, .int .i64 til]] W fun e w' => e = .returned (.bool true) ∧ Below W.heap.size W w' := by
  have LO : Hid (∀ W1, Calls Tryz.prog 21 #[.agg #[.int .i64 fr, .int .i64 til]] W1 fun e w' => e = .returned (.int .u64 (lenI (fr, til))) ∧ Below W1.heap.size W1 w') := fun W1 => long_any fr til hb W1
  have lz : (lenI (fr, til) == 0) = decide (til ≤ fr) := lenI_zero
  have HT : Hid (TilQ Q fr til ∧ Q.length = q ∧ LieIn legC 3 W ad Q) := ⟨hT, hq, hA⟩
  have hq2 : q ≤ 2000 := by rw [← hq]; exact hT.len
  have HB0 : Hid (Below W.heap.size W (W.alloc (.cells #[.int .i64 fr, .int .i64 til] 30))) := (Below.refl _ _).alloc (Nat.le_refl _) _
  have HK0 : Hid (Blk (W.alloc (.cells #[.int .i64 fr, .int .i64 til] 30)) W.heap.size #[.int .i64 fr, .int .i64 til] 30) := Blk.new _ _ _
  have L1 := LO.out (W.alloc (.cells #[.int .i64 fr, .int .i64 til] 30))
  by_cases hz : til ≤ fr
  · rw [decide_eq_true hz] at lz
    have e0 : q = 0 := by rw [← hq]; exact hT.none_ hz
    subst e0
    generalize lenI (fr, til) = ll at *
    clear hT hA hb hz HT hq LO
    go_enter Tryz.func9, Tryz.ntmps9
    go_wp2_with (go_at_call 21; (with_reducible refine L1.mono ?_); clear L1; rintro e w1 ⟨rfl, hb1⟩; have HB1 : Hid (Below W.heap.size W w1) := HB0.out.trans (hb1.mono HB0.out.size); clear hb1)
    go_ret
    exact ⟨rfl, HB1.out⟩
  · rw [decide_eq_false hz] at lz
    have hq0 : 0 < q := by rw [← hq]; exact hT.some_ (by omega)
    generalize lenI (fr, til) = ll at *
    clear hT hA hb hz hq LO
    go_enter Tryz.func9, Tryz.ntmps9
    go_wp2_with (go_at_call 21; (with_reducible refine L1.mono ?_); clear L1; rintro e w1 ⟨rfl, hb1⟩; have HB1 : Hid (Below W.heap.size W w1) := HB0.out.trans (hb1.mono HB0.out.size); have HK1 : Hid (Blk w1 W.heap.size #[.int .i64 fr, .int .i64 til] 30) := HK0.out.below hb1 HK0.out.lt; have k0 : w1.cell? ⟨W.heap.size, 0, none⟩ = some (.int .i64 fr) := HK1.out.cell 0 rfl; clear hb1 HB0 HK0)
    clear k0
    go_loopw [5, 6] (fun z5 z6 wr => ∃ (k : Nat) (at_ : Int), z5 = .int .i64 at_ ∧ z6 = .int .i64 k ∧ k ≤ q ∧ Hid (at_ = atQ Q fr k) ∧ Hid (Below w1.heap.size w1 wr)) (fun _ z6 _ => q - (intOf z6).toNat)
    case atStart => exact ⟨0, fr, rfl, rfl, by omega, rfl, Below.refl _ _⟩
    case round =>
      obtain ⟨k, at_, rfl, rfl, hk, HAT, HBR⟩ := hrel
      by_cases hlt : k < q
      · have hkn : (k : Int) < (q : Int) := by omega
        have hkQ : k < Q.length := by rw [HT.out.2.1]; exact hlt
        obtain ⟨g, e, hg, hc⟩ := (HT.out.2.2.below (HB1.out.trans (HBR.out.mono HB1.out.size))) (fun e => by rw [e] at hkQ; simp at hkQ)
        subst e
        obtain ⟨e1, e2⟩ := HT.out.1.each k hkQ
        rw [← HAT.out] at e1
        have c1 : wr.cell? ⟨g, k * 3 + 1, none⟩ = some (.int .i64 at_) := by rw [← e1]; exact hc k hkQ 1 _ rfl
        have HC : Hid (∀ j, (wr.drewN j).cell? ⟨g, k * 3 + 2, none⟩ = some (.int .i64 Q[k].2.2)) := fun j => hc k hkQ 2 _ rfl
        have c2 : wr.cell? ⟨g, k * 3 + 2, none⟩ = some (.int .i64 Q[k].2.2) := hc k hkQ 2 _ rfl
        have c0 : wr.cell? ⟨g, k * 3, none⟩ = some (.int .u64 Q[k].1) := hc k hkQ 0 _ rfl
        have HNX : Hid (Q[k].2.2 = atQ Q fr (k + 1)) := by
          show _ = _
          simp [atQ, List.getD, hkQ]
        have HPR : Hid (∀ j, k = j + 1 → ∃ o : Int, wr.cell? ⟨g, j * 3, none⟩ = some (.int .u64 o) ∧ (Q[k].1 == o) = false) := fun j hj => by
          subst hj
          exact ⟨Q[j].1, hc j (by omega) 0 _ rfl, by simpa using HT.out.1.adj j hkQ⟩
        have HBD : Hid (∀ j, Below w1.heap.size w1 (wr.drewN j)) := fun j => below_drewN HBR.out j
        have dl : decide (Q[k].2.2 ≤ at_) = false := decide_eq_false (by omega)
        clear hc e1 e2 HAT HBR
        generalize Q[k] = l at *
        obtain ⟨ow, lf, lt⟩ := l
        simp only at HC c2 c0 HNX HPR dl
        have da : (at_ == at_) = true := by simp
        by_cases hk0 : k = 0
        · have z0 : decide (0 < k) = false := decide_eq_false (by omega)
          have z1 : decide ((0 : Int) < (k : Int)) = false := decide_eq_false (by omega)
          clear HPR hk0
          go_upto_region 7 with fail
          go_quiet (fail)
          go_upto_region 9 with fail
          obtain ⟨U, hU⟩ : ∃ U, wr.drewN nq = U := ⟨_, rfl⟩
          have c3 : U.cell? ⟨g, k * 3 + 2, none⟩ = some (.int .i64 lt) := by rw [← hU]; exact HC.out nq
          have HBU : Hid (Below w1.heap.size w1 U) := by rw [← hU]; exact HBD.out nq
          rw [hU]
          clear hU c0 c1 c2
          go_wp2
          go_roundw
          case rel => exact ⟨k + 1, lt, rfl, by go_num, by omega, HNX, HBU⟩
          case measure => (simp [intOf]; omega)
        · obtain ⟨j, hkj⟩ : ∃ j, k = j + 1 := ⟨k - 1, by omega⟩
          obtain ⟨po, cp, zo⟩ := HPR.out j hkj
          have z0 : decide (0 < k) = true := decide_eq_true (by omega)
          have z1 : decide ((0 : Int) < (k : Int)) = true := decide_eq_true (by omega)
          have hsub : (k : Int) - 1 = (j : Int) := by omega
          have hwr : IntKind.i64.wrap (j : Int) = (j : Int) := by simp [IntKind.wrap, IntKind.bits, IntKind.signed]; omega
          have hin3 : (j : Int) < (q : Int) := by omega
          clear HPR hk0 hkj
          go_upto_region 7 with fail
          go_quiet (fail)
          go_upto_region 9 with fail
          obtain ⟨U, hU⟩ : ∃ U, wr.drewN nq = U := ⟨_, rfl⟩
          have c3 : U.cell? ⟨g, k * 3 + 2, none⟩ = some (.int .i64 lt) := by rw [← hU]; exact HC.out nq
          have HBU : Hid (Below w1.heap.size w1 U) := by rw [← hU]; exact HBD.out nq
          rw [hU]
          clear hU c0 c1 c2 cp
          go_wp2
          go_roundw
          case rel => exact ⟨k + 1, lt, rfl, by go_num, by omega, HNX, HBU⟩
          case measure => (simp [intOf]; omega)
      · obtain rfl : q = k := by omega
        have e : at_ = til := by rw [HAT.out, ← HT.out.1.last, HT.out.2.1]
        subst e
        have k1 : wr.cell? ⟨W.heap.size, 1, none⟩ = some (.int .i64 at_) := (HK1.out.below HBR.out HK1.out.lt).cell 1 rfl
        have HBE : Hid (Below W.heap.size W wr) := HB1.out.trans (HBR.out.mono HB1.out.size)
        have z0 : decide (0 < q) = true := decide_eq_true hq0
        have z1 : decide ((0 : Int) < (q : Int)) = true := decide_eq_true (by omega)
        clear HAT HBR HT
        go_wp2
        go_ret
        exact ⟨rfl, HBE.out⟩
end Go.Proofs.YtmpmpoclkgofeaaGreatDoor
