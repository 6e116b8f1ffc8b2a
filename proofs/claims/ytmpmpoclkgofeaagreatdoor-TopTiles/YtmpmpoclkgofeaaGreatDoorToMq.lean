/-
  Merged: ToM, ToD, ToO, ToP.
-/
import Derived.Test.YtmpmpoclkgofeaaGreatDoorToKq
import Derived.Test.YtmpmpoclkgofeaaGreatDoorRBq
import Derived.Test.YtmpmpoclkgofeaaGreatDoorPMq
import Derived.Test.YtmpmpoclkgofeaaGreatDoorPAq
import Derived.Test.YtmpmpoclkgofeaaGreatDoorToC
namespace Go.Proofs.YtmpmpoclkgofeaaGreatDoor
open Go Go.RowKit
set_option maxRecDepth 100000

def lgQ (fin : Nat → Nod) (l : LegN) : Int × Int × Int := ((fin l.1).id, l.2.1, l.2.2)
theorem tile_key {fin : Nat → Nod} {hi lo : Int} {M : List LegN} (h : TileF hi lo M) : ∀ k, k ≤ M.length → TileF hi (atQ (M.map (lgQ fin)) lo k) (M.drop k) := by
  intro k
  induction k with
  | zero => intro _; exact h
  | succ k ih =>
    intro hk
    have hkM : k < M.length := by omega
    have h1 := ih (by omega)
    rw [List.drop_eq_getElem_cons hkM] at h1
    have e : atQ (M.map (lgQ fin)) lo (k + 1) = M[k].2.2 := by
      simp [atQ, List.getD, hkM, lgQ]
    rw [e]
    exact h1.2.2
theorem FoB.tilQ {Y : List Sp} {C : List Int} {dp : Nat → Nat} {fin : Nat → Nod} {X : List Spot} {K : Nat → List Int} {R : List Int} (h : FoB Y C dp fin X K R) {x : Nat} (hx : x < Y.length) {L : List LegN} (hP : PathR fin (cnK fin K) x (fin x).til L) (hL : L.length ≤ 2000) : TilQ (L.reverse.map (lgQ fin)) (fin x).fr (fin x).til := by
  obtain ⟨t, lg⟩ := h.legs hx hP
  have key := tile_key (fin := fin) t
  refine ⟨by simp [hL], fun k hk => ?_, fun k hk => ?_, ?_, fun hlt => ?_, fun hle => ?_⟩
  · have hkM : k < L.reverse.length := by simpa using hk
    obtain ⟨f1, _, f3⟩ := lg k hkM _ (key k (by omega))
    rw [List.getElem_map]
    exact ⟨f1, f3.ab⟩
  · have hkM : k + 1 < L.reverse.length := by simpa using hk
    obtain ⟨_, _, f3⟩ := lg (k + 1) hkM _ (key (k + 1) (by omega))
    rw [List.getElem_map, List.getElem_map]
    exact fun e => f3.adj (by omega) (by omega) e.symm
  · have := key L.reverse.length (Nat.le_refl _)
    rw [List.drop_of_length_le (Nat.le_refl _)] at this
    rw [List.length_map]
    exact this
  · rw [List.length_map]
    rcases Nat.eq_zero_or_pos L.reverse.length with e | e
    · rw [List.length_eq_zero_iff.1 e] at t
      have : (fin x).fr = (fin x).til := t
      omega
    · exact e
  · rw [List.length_map]
    rcases e : L.reverse with _ | ⟨⟨y, a, b⟩, r⟩
    · rfl
    · rw [e] at t
      have h1 := TileF.le _ _ t.2.2
      have h2 : a = (fin x).fr := t.1
      have h3 : a < b := t.2.1
      omega
theorem FoB.legOne {Y : List Sp} {C : List Int} {dp : Nat → Nat} {fin : Nat → Nod} {X : List Spot} {K : Nat → List Int} {R : List Int} (h : FoB Y C dp fin X K R) {x : Nat} (hx : x < Y.length) {L : List LegN} (hP : PathR fin (cnK fin K) x (fin x).til L) {m : Int} {l l' : LegN} (hl : l ∈ L) (hl' : l' ∈ L) (h1 : l.2.1 ≤ m) (h2 : m < l.2.2) (h3 : l'.2.1 ≤ m) (h4 : m < l'.2.2) : l = l' :=
  TileF.one _ _ (h.legs hx hP).1 m l l' (List.mem_reverse.2 hl) (List.mem_reverse.2 hl') h1 h2 h3 h4
theorem FoB.lieL {W W' : World} {ad : Option Addr} {Y : List Sp} {C : List Int} {dp : Nat → Nat} {fin : Nat → Nod} {X : List Spot} {K : Nat → List Int} {R : List Int} (h : FoB Y C dp fin X K R) {x : Nat} (hx : x < Y.length) {L : List LegN} (hP : PathT W W' (spAt Y) fin (cnK fin K) x ad L) : LieIn legC 3 W' ad (L.reverse.map (lgQ fin)) := fun hn => by
  obtain ⟨p, _, lg, _⟩ := hP
  have hL : L ≠ [] := fun e => hn (by rw [e]; rfl)
  obtain ⟨g, e, hg, hI⟩ := lg hL
  refine ⟨g, e, hg, fun i hi j v hv => ?_⟩
  have hiL : i < L.reverse.length := by simpa using hi
  have hyk : L.reverse[i].1 < Y.length := (h.bel (p.bel _ (List.mem_reverse.1 (List.getElem_mem hiL))) hx).1
  have q := hI i (by simpa using hiL)
  have e2 : (L.map (legX (spAt Y))).reverse[i]'(by simpa using hiL) = lgQ fin L.reverse[i] := by
    simp only [← List.map_reverse, List.getElem_map]
    unfold legX lgQ
    rw [h.ids _ hyk]
  rw [e2] at q
  rw [List.getElem_map] at hv
  match j, hv with
  | 0, hv => exact q.1.trans hv
  | 1, hv => exact q.2.1.trans hv
  | 2, hv => exact q.2.2.trans hv
  | j + 3, hv => simp [legC] at hv
end Go.Proofs.YtmpmpoclkgofeaaGreatDoor

namespace Go.Proofs.YtmpmpoclkgofeaaGreatDoor
open Go Go.RowKit
set_option maxRecDepth 100000

set_option maxHeartbeats 4000000 in
theorem aloneT_any (f sb : Nat) (X : List Spot) (K : Nat → List Int) (rv : Value) (R : List Int) (Y : List Sp) (C : List Int) (dp : Nat → Nat) (fin : Nat → Nod) (W : World) (hF : ForestAt W f sb X K rv R) (hB : FoB Y C dp fin X K R) (y : Nat) (hy : y < Y.length) (root a b : Int) (ht : (fin y).tree = root) (h1 : (fin y).fr ≤ a) (h2 : b ≤ (fin y).til) (hfree : ∀ c ∈ knK K y, ¬ ((fin c).fr < (fin c).til ∧ (fin c).fr < b ∧ a < (fin c).til)) :
    Calls Tryz.prog 10 #[.pointer (some ⟨f, 0, none⟩), .int .u64 root, .agg #[.int .u64 (fin y).id, .int .i64 a, .int .i64 b]] W fun e w' => e = .returned (.bool true) ∧ Below W.heap.size W w' := by
  have hl := hB.fo.len
  have T := hB.senv y hy
  have EA : ∀ y, y < Y.length → ∃ hy : y < X.length, X[y].nd = fin y := fun y hy => ⟨by omega, (hB.fo.each y hy (by omega)).2⟩
  have CL : Hid (∀ y, y < Y.length → ∀ W1, Below W.heap.size W W1 → Calls Tryz.prog 7 #[.pointer (some ⟨f, 0, none⟩), .int .u64 (fin y).id] W1 fun e w' => e = .returned (.agg #[.int .i64 (fin y).fr, .int .i64 (fin y).til]) ∧ Below W1.heap.size W1 w') := fun y hy W1 hb => by
    obtain ⟨h, e⟩ := EA y hy
    exact clipT_any f sb X K rv R W1 (hF.below hb) y h (fin y) e
  have BND : Hid (∀ y, y < Y.length → 0 ≤ (fin y).fr ∧ (fin y).fr ≤ 4611686018427387904 ∧ 0 ≤ (fin y).til ∧ (fin y).til ≤ 4611686018427387904) := fun y hy => by
    have := hB.inn (dp y) y rfl hy
    omega
  have LO : Hid (∀ y, y < Y.length → ∀ W1, Calls Tryz.prog 21 #[.agg #[.int .i64 (fin y).fr, .int .i64 (fin y).til]] W1 fun e w' => e = .returned (.int .u64 (lenI ((fin y).fr, (fin y).til))) ∧ Below W1.heap.size W1 w') := fun y hy W1 => long_any _ _ (BND.out y hy) W1
  have KL : Hid (∀ c ∈ knK K y, c < Y.length) := fun c hc => by have := (T.kn y T.xX).2.1 c hc; omega
  have hk1 : (knK K y).length ≤ 1000 := (T.kn y T.xX).2.2
  have CH : Hid (∀ W1, Below W.heap.size W W1 → Calls Tryz.prog 22 #[.pointer (some ⟨f, 0, none⟩), .int .u64 (fin y).id] W1 fun e w' => ∃ r n, e = .returned (.slice (some ⟨r, 0, none⟩) n n) ∧ Hid ((knK K y).length = n ∧ Blk w' r (fillC .u64 ((knK K y).map (fun c => (fin c).id)) 0) 33) ∧ Below W1.heap.size W1 w') := fun W1 hb => by
    refine (children_at f sb X K rv R fin (knK K) W1 (hF.below hb) T.nd y T.xX (T.kn y T.xX).1 (T.kn y T.xX).2.1).mono ?_
    rintro e w' ⟨r, rfl, h1, _, h2⟩
    exact ⟨r, _, rfl, ⟨rfl, h1⟩, h2⟩
  have ND : Hid (∀ W1, Below W.heap.size W W1 → Calls Tryz.prog 15 #[.pointer (some ⟨f, 0, none⟩), .int .u64 (fin y).id] W1 fun e w' => e = .returned (.tuple #[.agg #[.int .u64 (fin y).id, .int .u64 (fin y).par, .int .i64 (fin y).org, .int .u64 root, .int .i64 (fin y).dep, .int .i64 (fin y).fr, .int .i64 (fin y).til], .bool true]) ∧ Below W1.heap.size W1 w') := fun W1 hb => by
    obtain ⟨h, e⟩ := EA y hy
    have hn := node_at (hF.below hb) y h (fin y).id (by rw [e])
    rw [e] at hn
    unfold ndV at hn
    rw [ht] at hn
    exact hn
  have HFR : Hid (∀ c ∈ knK K y, ¬ ((fin c).fr < (fin c).til ∧ (fin c).fr < b ∧ a < (fin c).til)) := hfree
  clear hF hB hl T EA hfree ht
  obtain ⟨id, hid⟩ : ∃ id, (fin y).id = id := ⟨_, rfl⟩
  rw [hid] at CH ND ⊢
  generalize knK K y = kn at *
  have d1 : decide (a < (fin y).fr) = false := decide_eq_false (by omega)
  have d2 : decide ((fin y).til < b) = false := decide_eq_false (by omega)
  clear h1 h2 hid
  have HB0 : Hid (Below W.heap.size W (W.alloc (.cells #[.int .u64 id, .int .i64 a, .int .i64 b] 41))) := (Below.refl _ _).alloc (Nat.le_refl _) _
  have HK0 : Hid (Blk (W.alloc (.cells #[.int .u64 id, .int .i64 a, .int .i64 b] 41)) W.heap.size #[.int .u64 id, .int .i64 a, .int .i64 b] 41) := Blk.new _ _ _
  have N1 := ND.out _ HB0.out
  go_enter Tryz.func10, Tryz.ntmps10
  go_upto_region 2 with (go_at_call 15; (with_reducible refine N1.mono ?_); clear N1; rintro e w1 ⟨rfl, hb1⟩; have HB1 : Hid (Below W.heap.size W w1) := HB0.out.trans (hb1.mono HB0.out.size); have HK1 : Hid (Blk w1 W.heap.size #[.int .u64 id, .int .i64 a, .int .i64 b] 41) := HK0.out.below hb1 HK0.out.lt; clear hb1 HB0 HK0)
  obtain ⟨V1, hV1⟩ : ∃ V, w1.alloc (.cells #[.int .u64 id, .int .u64 (fin y).par, .int .i64 (fin y).org, .int .u64 root, .int .i64 (fin y).dep, .int .i64 (fin y).fr, .int .i64 (fin y).til] 59) = V := ⟨_, rfl⟩
  have bn : Blk V1 w1.heap.size #[.int .u64 id, .int .u64 (fin y).par, .int .i64 (fin y).org, .int .u64 root, .int .i64 (fin y).dep, .int .i64 (fin y).fr, .int .i64 (fin y).til] 59 := by rw [← hV1]; exact Blk.new _ _ _
  have HKV : Hid (Blk V1 W.heap.size #[.int .u64 id, .int .i64 a, .int .i64 b] 41) := by rw [← hV1]; exact HK1.out.alloc _
  have HBV : Hid (Below W.heap.size W V1) := by rw [← hV1]; exact HB1.out.alloc HB1.out.size _
  have g0 : V1.cell? ⟨W.heap.size, 0, none⟩ = some (.int .u64 id) := HKV.out.cell 0 rfl
  have g1 : V1.cell? ⟨W.heap.size, 1, none⟩ = some (.int .i64 a) := HKV.out.cell 1 rfl
  have g2 : V1.cell? ⟨W.heap.size, 2, none⟩ = some (.int .i64 b) := HKV.out.cell 2 rfl
  have n3 : V1.cell? ⟨w1.heap.size, 3, none⟩ = some (.int .u64 root) := bn.cell 3 rfl
  have n5 : V1.cell? ⟨w1.heap.size, 5, none⟩ = some (.int .i64 (fin y).fr) := bn.cell 5 rfl
  have n6 : V1.cell? ⟨w1.heap.size, 5 + 1, none⟩ = some (.int .i64 (fin y).til) := bn.cell 6 rfl
  rw [hV1]
  have C1 := CH.out V1 HBV.out
  clear hV1 bn HB1 HK1 CH ND
  go_wp2_with (go_at_call 22; (with_reducible refine C1.mono ?_); clear C1; rintro e w4 ⟨r, n, rfl, HR, hb4⟩; have HB4 : Hid (Below W.heap.size W w4) := HBV.out.trans (hb4.mono HBV.out.size); have HK4 : Hid (Blk w4 W.heap.size #[.int .u64 id, .int .i64 a, .int .i64 b] 41) := HKV.out.below hb4 HKV.out.lt; clear hb4 HBV HKV g0 g1 g2 n3 n5 n6)
  have hn1 : n ≤ 1000 := by rw [← HR.out.1]; exact hk1
  go_loopw [10] (fun z10 wr => ∃ i : Nat, z10 = .int .i64 i ∧ i ≤ n ∧ Hid (Below w4.heap.size w4 wr)) (fun z10 _ => n - (intOf z10).toNat)
  case atStart => exact ⟨0, rfl, by omega, Below.refl _ _⟩
  case round =>
    obtain ⟨i, rfl, hi, HBR⟩ := hrel
    by_cases hlt : i < n
    · have hin : (i : Int) < (n : Int) := by omega
      have hik : i < kn.length := by rw [HR.out.1]; exact hlt
      have hcm := List.getElem_mem hik
      have hrr := HR.out.2.below HBR.out HR.out.2.lt
      have c0 : wr.cell? ⟨r, i, none⟩ = some (.int .u64 (fin kn[i]).id) := hrr.cell i (by simp [fillC, hik])
      have CC := CL.out kn[i] (KL.out _ hcm) wr (HB4.out.trans (HBR.out.mono HB4.out.size))
      have LL : Hid (∀ W1, Calls Tryz.prog 21 #[.agg #[.int .i64 (fin kn[i]).fr, .int .i64 (fin kn[i]).til]] W1 fun e w' => e = .returned (.int .u64 (lenI ((fin kn[i]).fr, (fin kn[i]).til))) ∧ Below W1.heap.size W1 w') := LO.out kn[i] (KL.out _ hcm)
      have HNO := HFR.out _ hcm
      generalize fin kn[i] = d at *
      obtain ⟨did, dpar, dorg, dtree, ddep, dfr, dtil⟩ := d
      simp only at c0 CC LL HNO
      have lz : decide (0 < lenI (dfr, dtil)) = decide (dfr < dtil) := by
        unfold lenI
        by_cases h : dtil ≤ dfr
        · simp [h]
        · simp [h] <;> omega
      clear hrr hcm
      go_upto_region 9 with (go_at_call 7; (with_reducible refine CC.mono ?_); clear CC; rintro e w5 ⟨rfl, hb5⟩; have HB5 : Hid (Below w4.heap.size w4 w5) := HBR.out.trans (hb5.mono HBR.out.size); clear hb5 c0 HBR)
      obtain ⟨V5, hV5⟩ : ∃ V, w5.alloc (.cells #[.int .i64 dfr, .int .i64 dtil] 30) = V := ⟨_, rfl⟩
      have bk : Blk V5 w5.heap.size #[.int .i64 dfr, .int .i64 dtil] 30 := by rw [← hV5]; exact Blk.new _ _ _
      have BV : Hid (Below w4.heap.size w4 V5) := by rw [← hV5]; exact HB5.out.alloc HB5.out.size _
      have k0 : V5.cell? ⟨w5.heap.size, 0, none⟩ = some (.int .i64 dfr) := bk.cell 0 rfl
      have k1 : V5.cell? ⟨w5.heap.size, 1, none⟩ = some (.int .i64 dtil) := bk.cell 1 rfl
      have HBK : Hid (Blk V5 w5.heap.size #[.int .i64 dfr, .int .i64 dtil] 30) := bk
      rw [hV5]
      clear hV5 HB5 bk
      have L1 := LL.out V5
      have AFT : Hid (∀ V, Below V5.heap.size V5 V → (V.cell? ⟨w5.heap.size, 0, none⟩ = some (.int .i64 dfr) ∧ V.cell? ⟨w5.heap.size, 1, none⟩ = some (.int .i64 dtil) ∧ V.cell? ⟨W.heap.size, 1, none⟩ = some (.int .i64 a) ∧ V.cell? ⟨W.heap.size, 2, none⟩ = some (.int .i64 b)) ∧ Below w4.heap.size w4 V) := fun V hV => by
        have q := HBK.out.below hV HBK.out.lt
        have bb := BV.out.trans (hV.mono BV.out.size)
        have q4 := HK4.out.below bb HK4.out.lt
        exact ⟨⟨q.cell 0 rfl, q.cell 1 rfl, q4.cell 1 rfl, q4.cell 2 rfl⟩, bb⟩
      clear LL HBK BV
      by_cases hz : dfr < dtil
      · rw [decide_eq_true hz] at lz
        by_cases hb1 : dfr < b
        · have z1 : decide (dfr < b) = true := decide_eq_true hb1
          have z2 : decide (a < dtil) = false := decide_eq_false (fun h => HNO ⟨hz, hb1, h⟩)
          generalize lenI (dfr, dtil) = ll at *
          clear HNO hz hb1
          go_wp2_with (go_at_call 21; (with_reducible refine L1.mono ?_); clear L1; rintro e w6 ⟨rfl, hb6⟩; obtain ⟨⟨j0, j1, ja, jt⟩, jb⟩ := AFT.out w6 hb6; have HB6 : Hid (Below w4.heap.size w4 w6) := jb; clear hb6 jb AFT k0 k1)
          go_roundw
          case rel => exact ⟨i + 1, by go_num, by omega, HB6⟩
          case measure => (simp [intOf]; omega)
        · have z1 : decide (dfr < b) = false := decide_eq_false hb1
          generalize lenI (dfr, dtil) = ll at *
          clear HNO hz hb1
          go_wp2_with (go_at_call 21; (with_reducible refine L1.mono ?_); clear L1; rintro e w6 ⟨rfl, hb6⟩; obtain ⟨⟨j0, j1, ja, jt⟩, jb⟩ := AFT.out w6 hb6; have HB6 : Hid (Below w4.heap.size w4 w6) := jb; clear hb6 jb AFT k0 k1)
          go_roundw
          case rel => exact ⟨i + 1, by go_num, by omega, HB6⟩
          case measure => (simp [intOf]; omega)
      · rw [decide_eq_false hz] at lz
        generalize lenI (dfr, dtil) = ll at *
        clear HNO hz
        go_wp2_with (go_at_call 21; (with_reducible refine L1.mono ?_); clear L1; rintro e w6 ⟨rfl, hb6⟩; obtain ⟨⟨j0, j1, ja, jt⟩, jb⟩ := AFT.out w6 hb6; have HB6 : Hid (Below w4.heap.size w4 w6) := jb; clear hb6 jb AFT k0 k1)
        go_roundw
        case rel => exact ⟨i + 1, by go_num, by omega, HB6⟩
        case measure => (simp [intOf]; omega)
    · obtain rfl : i = n := by omega
      go_wp2
      go_ret
      exact ⟨rfl, HB4.out.trans (HBR.out.mono HB4.out.size)⟩
end Go.Proofs.YtmpmpoclkgofeaaGreatDoor

namespace Go.Proofs.YtmpmpoclkgofeaaGreatDoor
open Go Go.RowKit
set_option maxRecDepth 100000

theorem legAlone (f sb : Nat) (X : List Spot) (K : Nat → List Int) (rv : Value) (R : List Int) (Y : List Sp) (C : List Int) (dp : Nat → Nat) (fin : Nat → Nod) (W : World) (hF : ForestAt W f sb X K rv R) (hB : FoB Y C dp fin X K R) (x : Nat) (hx : x < Y.length) (ht : (fin x).tree = (fin x).id) (L : List LegN) (hP : PathR fin (cnK fin K) x (fin x).til L) (k : Nat) (hk : k < L.reverse.length) :
    Calls Tryz.prog 10 #[.pointer (some ⟨f, 0, none⟩), .int .u64 (fin x).id, .agg #[.int .u64 (lgQ fin L.reverse[k]).1, .int .i64 (lgQ fin L.reverse[k]).2.1, .int .i64 (lgQ fin L.reverse[k]).2.2]] W fun e w' => e = .returned (.bool true) ∧ Below W.heap.size W w' := by
  obtain ⟨t, lg⟩ := hB.legs hx hP
  obtain ⟨f1, _, f3⟩ := lg k hk _ (tile_key (fin := fin) t k (by omega))
  exact aloneT_any f sb X K rv R Y C dp fin W hF hB L.reverse[k].1 f3.yY (fin x).id L.reverse[k].2.1 L.reverse[k].2.2 (by rw [f3.tree]; exact ht) f3.fr f3.til f3.free
theorem legHangs (f sb : Nat) (X : List Spot) (K : Nat → List Int) (rv : Value) (R : List Int) (Y : List Sp) (C : List Int) (dp : Nat → Nat) (fin : Nat → Nod) (W : World) (hF : ForestAt W f sb X K rv R) (hB : FoB Y C dp fin X K R) (x : Nat) (hx : x < Y.length) (L : List LegN) (hP : PathR fin (cnK fin K) x (fin x).til L) (hL : L.length ≤ 2000) (k : Nat) (hk : k < L.reverse.length) (m : Int) (h1 : (lgQ fin L.reverse[k]).2.1 ≤ m) (h2 : m < (lgQ fin L.reverse[k]).2.2) :
    Calls Tryz.prog 11 #[.pointer (some ⟨f, 0, none⟩), .int .u64 (fin x).id, .int .i64 m] W fun e w' => e = .returned (.int .u64 (lgQ fin L.reverse[k]).1) ∧ Below W.heap.size W w' := by
  obtain ⟨t, lg⟩ := hB.legs hx hP
  have hm := (TileF.has _ _ t m).2 ⟨L.reverse[k], List.getElem_mem hk, h1, h2⟩
  refine (hangs_any f sb X K rv R Y C dp fin W hF hB x hx L hP hL m hm.1 hm.2).mono ?_
  rintro e w' ⟨l, hl, rfl, h3, h4, hb⟩
  have := hB.legOne hx hP hl (List.mem_reverse.1 (List.getElem_mem hk)) h3 h4 h1 h2
  subst this
  exact ⟨rfl, hb⟩
end Go.Proofs.YtmpmpoclkgofeaaGreatDoor

namespace Go.Proofs.YtmpmpoclkgofeaaGreatDoor
open Go Go.RowKit
set_option maxRecDepth 100000

theorem ownHangs (f sb : Nat) (X : List Spot) (K : Nat → List Int) (rv : Value) (R : List Int) (Y : List Sp) (C : List Int) (dp : Nat → Nat) (fin : Nat → Nod) (hB : FoB Y C dp fin X K R) (x : Nat) (hx : x < Y.length) (ho : (fin x).org ≠ 0) (L : List LegN) (hP : PathR fin (cnK fin K) x (fin x).til L) (hL : L.length ≤ 2000) (m : Int) (h1 : (fin x).fr ≤ m) (h2 : m < (fin x).til) :
    ∃ o, (∀ W, ForestAt W f sb X K rv R → Calls Tryz.prog 12 #[.pointer (some ⟨f, 0, none⟩), .int .u64 (fin x).id, .int .i64 m] W fun e w' => e = .returned (.tuple #[.int .u64 o, .int .i64 0]) ∧ Below W.heap.size W w') ∧
      (∀ W, ForestAt W f sb X K rv R → Calls Tryz.prog 11 #[.pointer (some ⟨f, 0, none⟩), .int .u64 (fin x).id, .int .i64 m] W fun e w' => e = .returned (.int .u64 o) ∧ Below W.heap.size W w') := by
  obtain ⟨t, lg⟩ := hB.legs hx hP
  obtain ⟨l, hl, l1, l2⟩ := (TileF.has _ _ t m).1 ⟨h1, h2⟩
  have hl := List.mem_reverse.1 hl
  refine ⟨(fin l.1).id, fun W hF => ?_, fun W hF => ?_⟩
  · refine (ownerW_any f sb X K rv R (spAt Y) fin (knK K) (cnK fin K) 1001 x m W hF (hB.senv x hx) ho).mono ?_
    rintro e w' ⟨L', o, er, rfl, g1, g2, g3⟩
    obtain rfl : L' = L := (PathR.one g1 L hP).symm
    rcases g2 with ⟨rfl, l', hl', a1, a2, rfl⟩ | ⟨rfl, rfl, hno⟩
    · have := hB.legOne hx hP hl' hl a1 a2 l1 l2
      subst this
      rw [hB.ids _ (hB.bel (hP.bel _ hl') hx).1]
      exact ⟨rfl, g3⟩
    · exact absurd ⟨l1, l2⟩ (hno l hl)
  · refine (hangs_any f sb X K rv R Y C dp fin W hF hB x hx L hP hL m h1 h2).mono ?_
    rintro e w' ⟨l', hl', rfl, a1, a2, hb⟩
    have := hB.legOne hx hP hl' hl a1 a2 l1 l2
    subst this
    exact ⟨rfl, hb⟩
end Go.Proofs.YtmpmpoclkgofeaaGreatDoor
