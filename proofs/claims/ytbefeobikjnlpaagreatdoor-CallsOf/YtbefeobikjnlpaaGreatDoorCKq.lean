/-
  Merged: CK, CL.
-/
import Derived.Test.YtbefeobikjnlpaaGreatDoorCIq
import Derived.Test.YtbefeobikjnlpaaGreatDoorOXq
import Derived.Test.YtbefeobikjnlpaaGreatDoorCEq
import Derived.Test.YtbefeobikjnlpaaGreatDoorCBq
import Derived.Test.YtbefeobikjnlpaaGreatDoorCMq
namespace Go.Proofs.YtbefeobikjnlpaaGreatDoor.sk
open Go Go.RowKit
set_option maxRecDepth 100000

def svC : ByteArray := ⟨#[99]⟩
def cY : List Sp := [spE svA 1 0 0 10, spE svC 2 1 2 6]
theorem cOneT : OneT cY := by
  refine oneE (fun a ha => ?_) (by simp [cY]) (by simp [cY, spE])
  simp only [cY, List.mem_cons, List.not_mem_nil, or_false] at ha
  rcases ha with rfl | rfl
  · exact ⟨_, _, _, _, _, rfl, by decide, by omega, by omega, by decide +kernel⟩
  · exact ⟨_, _, _, _, _, rfl, by decide, by omega, by omega, by decide +kernel⟩
theorem cRise : cY.Pairwise (fun a b => a.id < b.id) := by simp [cY, spE]
theorem cNm : nmOf (zs cY) = [-1, 0] := by decide +kernel
def cDp : Nat → Nat
  | 1 => 1
  | _ => 0
def cFin : Nat → Nod
  | 0 => ⟨1, 0, 1, 1, 0, 0, 10⟩
  | _ => ⟨2, 1, 0, 1, 1, 2, 6⟩
theorem two_cases {i : Nat} (h : i < 2) : i = 0 ∨ i = 1 := by omega
theorem cNo : NoRing (nmOf (zs cY)) cY.length := by
  rw [cNm]
  intro i hi
  rcases two_cases (show i < 2 from hi) with rfl | rfl
  · exact Or.inl (by decide +kernel)
  · exact Or.inr (by decide +kernel)
theorem cShape : Shape (zs cY) (nmOf (zs cY)) cDp cFin := by
  rw [cNm]
  refine ⟨fun i hi hn => ?_, fun i j hi hj hn => ?_, fun i hi => ?_⟩
  · rcases two_cases (show i < 2 from hi) with rfl | rfl
    · exact ⟨rfl, rfl⟩
    · exact absurd hn (by decide)
  · rcases two_cases (show i < 2 from hi) with rfl | rfl
    · exact absurd hn (by simp)
    · have : j = 0 := by simp at hn; omega
      subst this
      exact ⟨rfl, rfl⟩
  · rcases two_cases (show i < 2 from hi) with rfl | rfl <;> exact ⟨by decide, by decide, by decide⟩
theorem cFlat : (cY.flatMap enP).toArray = #[.int .u64 0, .int .u64 7, .int .u64 1, .int .u64 0, .slice none 0 0, .string svA, .string ⟨#[98]⟩, .int .i64 0, .int .i64 0, .int .i64 0, .int .i64 10, .slice none 0 0, .slice none 0 0, .int .u64 0, .int .u64 7, .int .u64 2, .int .u64 1, .slice none 0 0, .string svC, .string ⟨#[98]⟩, .int .i64 0, .int .i64 0, .int .i64 2, .int .i64 6, .slice none 0 0, .slice none 0 0] := rfl
theorem cBuild (w w1 : World) (hT : Tabs w) (g : Nat) (hb : Below w.heap.size w w1) (hB : Blk w1 g (cY.flatMap enP).toArray 62) : Calls Tryz.prog 6 #[.slice (some ⟨g, 0, none⟩) 2 2] w1 fun e w' => ∃ f sb X K rv R, e = .returned (.tuple #[.pointer (some ⟨f, 0, none⟩), .int .i64 0]) ∧ ForestAt w' f sb X K rv R ∧ FoR cY cFin X K R ∧ Below w.heap.size w w' := by
  refine (build_any (some ⟨g, 0, none⟩) 2 2 cY cY (fun _ => pl0) w1 (spsFlat hB (fun a ha => ?_)) cOneT (hT.below hb) (List.Perm.refl _) cRise cNo cDp cFin cShape).mono ?_
  · simp only [cY, List.mem_cons, List.not_mem_nil, or_false] at ha
    rcases ha with rfl | rfl <;> exact atE _ _ _ _ _ _
  · rintro e w' ⟨f, sb, X, K, rv, R, rfl, hF, hO, hb'⟩
    exact ⟨f, sb, X, K, rv, R, rfl, hF, hO, hb.trans (hb'.mono hb.size)⟩
def cC : Cal := (0, svA, svC, false, 4)
theorem cOf {W : World} {f sb : Nat} {X : List Spot} {K : Nat → List Int} {rv : Value} {R : List Int} (hF : ForestAt W f sb X K rv R) (hO : FoR cY cFin X K R) : ofL X X.length = [cC] ∧ ∀ i (h : i < X.length), 0 ≤ X[i].a.start ∧ X[i].a.start ≤ X[i].a.fin ∧ X[i].a.fin ≤ 4611686018427387904 := by
  have hl : X.length = 2 := hO.len
  have e0 := hO.each 0 (by decide) (by omega)
  have e1 := hO.each 1 (by decide) (by omega)
  have a0 : X[0].a = spE svA 1 0 0 10 := e0.1
  have a1 : X[1].a = spE svC 2 1 2 6 := e1.1
  have n0 : X[0].nd = cFin 0 := e0.2
  have n1 : X[1].nd = cFin 1 := e1.2
  constructor
  · rw [hl, ofL_succ X 1 (by omega), ofL_succ X 0 (by omega)]
    have h0 : ofOne X X[0] = [] := by unfold ofOne; rw [if_neg]; rw [n0]; exact fun h => absurd h.1 (by decide)
    have hs : svcOf X 1 = svA := by
      have := svcOf_at hF.rise (k := 0) (by omega) (id := 1) (by rw [n0]; rfl)
      rw [this, a0]
      rfl
    have h1 : ofOne X X[1] = [cC] := by
      have hp : X[1].nd.par = 1 := by rw [n1]; rfl
      unfold ofOne
      rw [hp, hs, if_pos]
      · rw [a1]; rfl
      · refine ⟨by rw [n1]; rfl, ?_⟩
        rw [a1]
        exact (by decide : ¬ svC = svA)
    rw [h0, h1]
    rfl
  · intro i hi
    rcases two_cases (show i < 2 by omega) with rfl | rfl
    · rw [a0]; simp [spE]
    · rw [a1]; simp [spE]
end Go.Proofs.YtbefeobikjnlpaaGreatDoor.sk

namespace Go.Proofs.YtbefeobikjnlpaaGreatDoor.sk
open Go Go.RowKit
set_option maxRecDepth 100000

def capN (n : Nat) : Nat := min n 18446744073709551615
set_option maxHeartbeats 1000000 in
theorem ccap_any (n : Nat) (w : World) :
    Calls Tryz.prog 19 #[natV n] w fun e w' => e = .returned (.int .u64 (capN n : Int)) ∧ Below w.heap.size w w' := by
  have EQ : ∀ W, (binOp .neq 40 (.agg #[.int .u64 (hi64 n : Int), .int .u64 (lo64 n : Int)]) (.agg #[.int .u64 0, .int .u64 (lo64 n : Int)])).run Tryz.prog W = .ok (.bool (!(decide (hi64 n = 0)))) W := fun W => by
    rw [run_neqS (eqI_nat 9998 _ _ _ _ W)]
    by_cases h : hi64 n = 0 <;> simp [h]
  unfold natV
  have a := hilo n
  have b := lo64_lt n
  by_cases h : hi64 n = 0
  · have e : (lo64 n : Int) = (capN n : Int) := by unfold capN; omega
    rw [decide_eq_true h] at EQ
    simp only [Bool.not_true] at EQ
    have HE : Hid _ := e
    clear a b h e
    generalize (hi64 n : Int) = x at *
    generalize (lo64 n : Int) = y at *
    go_enter Tryz.func19, Tryz.ntmps19
    go_wp2
    go_ret
    exact ⟨by rw [HE.out]; rfl, (Below.refl _ _).alloc (Nat.le_refl _) _⟩
  · have e : (18446744073709551615 : Int) = (capN n : Int) := by unfold capN; omega
    rw [decide_eq_false h] at EQ
    simp only [Bool.not_false] at EQ
    have HE : Hid _ := e
    clear a b h e
    generalize (hi64 n : Int) = x at *
    generalize (lo64 n : Int) = y at *
    go_enter Tryz.func19, Tryz.ntmps19
    go_wp2
    go_ret
    exact ⟨by rw [← HE.out]; rfl, (Below.refl _ _).alloc (Nat.le_refl _) _⟩
theorem tal_cells {w : World} {b : Nat} {x0 x1 x2 x3 x4 x5 : Int} {ao : Option Addr} {L cp : Nat} (h : Blk w b (talL x0 x1 x2 x3 x4 x5 ao L cp).toArray 43) : w.cell? ⟨b, 0, none⟩ = some (.int .u64 x0) ∧ w.cell? ⟨b, 1, none⟩ = some (.int .u64 x1) ∧ w.cell? ⟨b, 2, none⟩ = some (.int .u64 x2) ∧ w.cell? ⟨b, 3, none⟩ = some (.int .u64 x3) ∧ w.cell? ⟨b, 4, none⟩ = some (.int .u64 x4) ∧ w.cell? ⟨b, 5, none⟩ = some (.int .u64 x5) ∧ w.cell? ⟨b, 6, none⟩ = some (.slice ao L cp) :=
  ⟨h.cell 0 rfl, h.cell 1 rfl, h.cell 2 rfl, h.cell 3 rfl, h.cell 4 rfl, h.cell 5 rfl, h.cell 6 rfl⟩
theorem bars_two : barsF (minF (oneC cC) (oneC cC)) = [(4, 2)] := by
  refine barsF_is rfl (by simp) fun i _ => ?_
  have e : idxN (tookN cC) = 4 := by decide
  unfold minF oneC
  rw [e, cntF_cons]
  simp only
  by_cases h : i = 4
  · subst h; decide
  · rw [if_neg h, if_neg (by omega)]; rfl
theorem sk_two {w : World} {mo : Option Addr} {N : Nat} (h : SkAt w mo N (minF (oneC cC) (oneC cC))) : N = 1 ∧ ∃ b off, mo = some ⟨b, off, none⟩ ∧ w.cell? ⟨b, off, none⟩ = some (.int .i64 4) ∧ w.cell? ⟨b, off + 1, none⟩ = some (.int .u64 2) := by
  have e := bars_two
  have hN : N = 1 := by rw [h.len, e]; rfl
  subst hN
  have hI := h.at_
  rw [e] at hI
  obtain ⟨b, off, rfl, hc⟩ := hI.at_.lies (by omega)
  obtain ⟨c0, c1⟩ := hc 0 (by simp)
  exact ⟨rfl, b, off, rfl, by simpa using c0, by simpa using c1⟩
theorem ccap8 (w : World) : Calls Tryz.prog 19 #[.agg #[.int .u64 0, .int .u64 8]] w fun e w' => e = .returned (.int .u64 8) ∧ Below w.heap.size w w' := ccap_any 8 w
theorem one_cC (W : World) : Calls Tryz.prog 18 #[.agg #[.int .i64 0, .string ⟨#[97]⟩, .string ⟨#[99]⟩, .bool false, .int .u64 4]] W fun e w' => ∃ ao cp, e = .returned (.agg #[.int .u64 0, .int .u64 1, .int .u64 0, .int .u64 0, .int .u64 0, .int .u64 4, .slice ao 1 cp]) ∧ Hid (SkAt w' ao 1 (oneC cC)) ∧ Below W.heap.size W w' := by
  refine (cOne_any cC (by decide) W).mono fun e w' h => ?_
  obtain ⟨ao, cp, h1, h2, h3, _⟩ := h
  exact ⟨ao, cp, h1, h2, h3⟩
theorem plus_cC (W : World) (ao bo : Option Addr) (ca cb : Nat) (h1 : SkAt W ao 1 (oneC cC)) (h2 : SkAt W bo 1 (oneC cC)) : Calls Tryz.prog 17 #[.agg #[.int .u64 0, .int .u64 1, .int .u64 0, .int .u64 0, .int .u64 0, .int .u64 4, .slice ao 1 ca], .agg #[.int .u64 0, .int .u64 1, .int .u64 0, .int .u64 0, .int .u64 0, .int .u64 4, .slice bo 1 cb]] W fun e w' => ∃ mo N cm, e = .returned (.tuple #[.agg (talL 0 2 0 0 0 8 mo N cm).toArray, .int .i64 0]) ∧ Hid (SkAt w' mo N (minF (oneC cC) (oneC cC))) ∧ Below W.heap.size W w' ∧ Hid (OwnBar W.heap.size w' (.slice mo N cm) (barsF (minF (oneC cC) (oneC cC)))) :=
  cPlus_ok ao bo 1 1 ca cb (oneC cC) (oneC cC) 1 0 4 1 0 4 W h1 h2 (by decide) (by decide) (by decide) (by decide) (by decide) (by decide)
set_option maxHeartbeats 8000000 in
theorem shown_any (w : World) (hT : Tabs w) : Calls Tryz.prog 5 #[] w fun e w' => e = .returned (.bool true) ∧ Below w.heap.size w w' := by
  have BD : Hid (∀ w1 g, Below w.heap.size w w1 → Blk w1 g (cY.flatMap enP).toArray 62 → Calls Tryz.prog 6 #[.slice (some ⟨g, 0, none⟩) 2 2] w1 fun e w' => ∃ f sb X K rv R, e = .returned (.tuple #[.pointer (some ⟨f, 0, none⟩), .int .i64 0]) ∧ ForestAt w' f sb X K rv R ∧ FoR cY cFin X K R ∧ Below w.heap.size w w') := fun w1 g hb hB => cBuild w w1 hT g hb hB
  clear hT
  rw [cFlat] at BD
  unfold svA svC at BD
  have NQ : ∀ W : World, (binOp .neq 68 (.agg #[.int .i64 0, .string ⟨#[97]⟩, .string ⟨#[99]⟩, .bool false, .int .u64 4]) (.agg #[.int .i64 0, .string ⟨#[97]⟩, .string ⟨#[99]⟩, .bool false, .int .u64 4])).run Tryz.prog W = .ok (.bool false) W := fun W => by rw [run_neqS (eqI_call 9996 _ _ _ _ _ _ _ _ _ _ W)]; simp
  go_enter Tryz.func5, Tryz.ntmps5
  go_wp2_with (first
    | (go_at_call 6; (with_reducible refine (BD.out _ _ (by repeat' first | exact Below.refl _ _ | refine Below.alloc ?_ (by first | exact Nat.le_refl _ | (simp; done) | (simp; omega)) _ | refine Below.setCell ?_ (by first | exact Nat.le_refl _ | (simp; done) | (simp; omega)) _) (alloc_atS (by simp))).mono ?_); clear BD; rintro e w2 ⟨f, sb, X, K, rv, R, rfl, hF, hO, hb⟩; have E1 := cOf hF hO; have OF := of_any f sb X K rv R w2 hF E1.2; have HB2 : Hid (Below w.heap.size w w2) := hb; have HE1 : Hid _ := E1.1; clear hF hO hb E1)
    | (go_at_call 8; (with_reducible refine OF.mono ?_); clear OF; rintro e w3 ⟨v3, rfl, HO3, b3⟩; rw [HE1.out] at HO3; obtain ⟨g, cap, rfl, -, -, -, hx⟩ := own_some HO3.out (by decide); have HB3 : Hid (Below w.heap.size w w3) := HB2.out.trans (b3.mono HB2.out.size); have e0 : w3.cell? ⟨g, 0, none⟩ = some (.int .i64 0) := hx 0 _ rfl; have e1 : w3.cell? ⟨g, 1, none⟩ = some (.string ⟨#[97]⟩) := hx 1 _ rfl; have e2 : w3.cell? ⟨g, 2, none⟩ = some (.string ⟨#[99]⟩) := hx 2 _ rfl; have e3 : w3.cell? ⟨g, 3, none⟩ = some (.bool false) := hx 3 _ rfl; have e4 : w3.cell? ⟨g, 4, none⟩ = some (.int .u64 4) := hx 4 _ rfl; have HG0 : Hid (w3.rangeAt g 0 [.int .i64 0, .string ⟨#[97]⟩, .string ⟨#[99]⟩, .bool false, .int .u64 4]) := (fun j v hv => by rw [Nat.zero_add]; exact hx j v hv); clear b3 hx HE1 HB2 HO3))
  clear e0 e1 e2 e3 e4 NQ
  have ON := one_cC
  have HBZ := HB3
  have PL := plus_cC
  have HB3d : Hid (Below w.heap.size w w3.drew) := HB3.out.drew
  have HG0d : Hid (w3.drew.rangeAt g 0 [.int .i64 0, .string ⟨#[97]⟩, .string ⟨#[99]⟩, .bool false, .int .u64 4]) := HG0.out
  have HLE0 : Hid (w3.heap.size ≤ w3.drew.heap.size) := Nat.le_refl _
  refine wp_region_held (S := fun W => W.rangeAt g 0 [.int .i64 0, .string ⟨#[97]⟩, .string ⟨#[99]⟩, .bool false, .int .u64 4]) (by kernel_rfl) ?_
  change wpAnyH _ _ _ _ _ _ _ _ (World.drew _)
  obtain ⟨wd, hwd⟩ : ∃ V, w3.drew = V := ⟨_, rfl⟩
  rw [hwd] at HB3d HG0d HLE0 ⊢
  clear hwd
  refine takeC (i := 0) (v := .slice (some ⟨g, 0, none⟩) 1 cap) rfl (by kernel_rfl) (by kernel_rfl) (by kernel_rfl) (fun _ _ _ h => h) (Or.inl ⟨by rfl, fun W hW => by go_simp⟩) (HG0d.out) ?_
  simp only [Act.put, List.setIfInBounds_toArray, List.set_cons_zero, List.set_cons_succ]
  refine takeC (i := 1) (v := .pointer (some ⟨g, 0, none⟩)) rfl (by kernel_rfl) (by kernel_rfl) (by kernel_rfl) (fun _ _ _ h => h) (Or.inl ⟨by rfl, fun W hW => by go_simp⟩) (HG0d.out) ?_
  simp only [Act.put, List.setIfInBounds_toArray, List.set_cons_zero, List.set_cons_succ]
  refine takeC (i := 2) (v := .agg [.int .i64 0, .string ⟨#[97]⟩, .string ⟨#[99]⟩, .bool false, .int .u64 4].toArray) rfl (by kernel_rfl) (by kernel_rfl) (by kernel_rfl) (fun _ _ _ h => h) (yieldsIf_load_mid (by rfl) 68 _ rfl g 0 rfl [.int .i64 0, .string ⟨#[97]⟩, .string ⟨#[99]⟩, .bool false, .int .u64 4] _ (fun W hW => hW) Tryz.underlying68 rfl (by kernel_rfl)) (HG0d.out) ?_
  simp only [Act.put, List.setIfInBounds_toArray, List.set_cons_zero, List.set_cons_succ]
  refine takeC (i := 4) (v := .slice (some ⟨g, 0, none⟩) 1 cap) rfl (by kernel_rfl) (by kernel_rfl) (by kernel_rfl) (fun _ _ _ h => h) (Or.inl ⟨by rfl, fun W hW => by go_simp⟩) (HG0d.out) ?_
  simp only [Act.put, List.setIfInBounds_toArray, List.set_cons_zero, List.set_cons_succ]
  refine takeC (i := 5) (v := .pointer (some ⟨g, 0, none⟩)) rfl (by kernel_rfl) (by kernel_rfl) (by kernel_rfl) (fun _ _ _ h => h) (Or.inl ⟨by rfl, fun W hW => by go_simp⟩) (HG0d.out) ?_
  simp only [Act.put, List.setIfInBounds_toArray, List.set_cons_zero, List.set_cons_succ]
  refine takeC (i := 6) (v := .agg [.int .i64 0, .string ⟨#[97]⟩, .string ⟨#[99]⟩, .bool false, .int .u64 4].toArray) rfl (by kernel_rfl) (by kernel_rfl) (by kernel_rfl) (fun _ _ _ h => h) (yieldsIf_load_mid (by rfl) 68 _ rfl g 0 rfl [.int .i64 0, .string ⟨#[97]⟩, .string ⟨#[99]⟩, .bool false, .int .u64 4] _ (fun W hW => hW) Tryz.underlying68 rfl (by kernel_rfl)) (HG0d.out) ?_
  simp only [Act.put, List.setIfInBounds_toArray, List.set_cons_zero, List.set_cons_succ]
  refine twoC (i := 3) (j := 12) rfl rfl (by kernel_rfl) (fun K hK => ?_) (fun K hK => ?_)
  · go_simp
    go_at_call 18
    (with_reducible refine (ON wd).mono ?_)
    rintro e w_1 ⟨ao, ca, rfl, HS1, b_1⟩
    have HG1 : Hid _ := range_bel HG0d.out b_1
    have HB1 : Hid _ := Below.trans HB3d.out (Below.mono b_1 (Below.size HB3d.out))
    have HLE1 : Hid _ := Nat.le_trans HLE0.out (Below.size b_1)
    refine hK _ _ ⟨HG1.out, ?_⟩
    clear hK K
    refine twoC (i := 7) (j := 12) rfl rfl (by kernel_rfl) (fun K hK => ?_) (fun K hK => ?_)
    · go_simp
      go_at_call 18
      (with_reducible refine (ON w_1).mono ?_)
      rintro e w_2 ⟨bo, cb, rfl, HS2, b_2⟩
      have HG2 : Hid _ := range_bel HG1.out b_2
      have HB2 : Hid _ := Below.trans HB1.out (Below.mono b_2 (Below.size HB1.out))
      have HLE2 : Hid _ := Nat.le_trans HLE1.out (Below.size b_2)
      have HS12 : Hid _ := SkAt.below HS1.out b_2
      refine hK _ _ ⟨HG2.out, ?_⟩
      clear hK K
      refine twoC (i := 8) (j := 12) rfl rfl (by kernel_rfl) (fun K hK => ?_) (fun K hK => ?_)
      · go_simp
        go_at_call 17
        (with_reducible refine (PL w_2 ao bo ca cb HS12.out HS2.out).mono ?_)
        rintro e w_3 ⟨mo, N, cm, rfl, HM, b_3, HO⟩
        have HG3 : Hid _ := range_bel HG2.out b_3
        have HB3 : Hid _ := Below.trans HB2.out (Below.mono b_3 (Below.size HB2.out))
        have HLE3 : Hid _ := Nat.le_trans HLE2.out (Below.size b_3)
        have HS13 : Hid _ := SkAt.below HS12.out b_3
        have HS23 : Hid _ := SkAt.below HS2.out b_3
        refine hK _ _ ⟨HG3.out, ?_⟩
        clear hK K
        refine takeC (i := 9) (v := .tuple #[.agg (talL 0 2 0 0 0 8 mo N cm).toArray, .int .i64 0]) rfl (by kernel_rfl) (by kernel_rfl) (by kernel_rfl) (fun _ _ _ h => h) (Or.inl ⟨by rfl, fun W hW => by go_simp⟩) (HG3.out) ?_
        simp only [Act.put, List.setIfInBounds_toArray, List.set_cons_zero, List.set_cons_succ]
        refine takeC (i := 10) (v := .agg (talL 0 2 0 0 0 8 mo N cm).toArray) rfl (by kernel_rfl) (by kernel_rfl) (by kernel_rfl) (fun _ _ _ h => h) (Or.inl ⟨by rfl, fun W hW => by go_simp⟩) (HG3.out) ?_
        simp only [Act.put, List.setIfInBounds_toArray, List.set_cons_zero, List.set_cons_succ]
        refine takeC (i := 11) (v := .int .i64 0) rfl (by kernel_rfl) (by kernel_rfl) (by kernel_rfl) (fun _ _ _ h => h) (Or.inl ⟨by rfl, fun W hW => by go_simp⟩) (HG3.out) ?_
        simp only [Act.put, List.setIfInBounds_toArray, List.set_cons_zero, List.set_cons_succ]
        refine onlyC (i := 12) rfl (by kernel_rfl) (fun K hK => ?_)
        go_simp
        generalize hw_4 : w_3.alloc (.cells [.int .u64 0, .int .u64 0, .int .u64 0, .int .u64 0, .int .u64 0, .int .u64 0, .slice none 0 0].toArray 43) = w_4
        have b_4 : Below w_3.heap.size w_3 w_4 := by rw [← hw_4]; exact (Below.refl _ _).alloc (Nat.le_refl _) _
        have HA_4 : Blk w_4 w_3.heap.size [.int .u64 0, .int .u64 0, .int .u64 0, .int .u64 0, .int .u64 0, .int .u64 0, .slice none 0 0].toArray 43 := by rw [← hw_4]; exact Blk.new _ _ _
        clear hw_4
        have HG4 : Hid _ := range_bel HG3.out b_4
        have HB4 : Hid _ := Below.trans HB3.out (Below.mono b_4 (Below.size HB3.out))
        have HLE4 : Hid _ := Nat.le_trans HLE3.out (Below.size b_4)
        have HS14 : Hid _ := SkAt.below HS13.out b_4
        have HS24 : Hid _ := SkAt.below HS23.out b_4
        have HM4 : Hid _ := SkAt.below HM.out b_4
        have HO4 : Hid _ := OwnBar.below HO.out b_4
        have HSB4 : Hid _ := HLE3.out
        have HLL4 : Hid _ := (HM.out).at_.lt
        refine hK _ _ ⟨HG4.out, ?_⟩
        clear hK K
        refine onlyC (i := 13) rfl (by kernel_rfl) (fun K hK => ?_)
        refine step_stW (by rfl) 43 _ _ (by rfl) (w_3.heap.size) [.int .u64 0, .int .u64 0, .int .u64 0, .int .u64 0, .int .u64 0, .int .u64 0, .slice none 0 0] (talL 0 2 0 0 0 8 mo N cm) 43 (HA_4) (by rfl) (by rfl) (by rfl) (by kernel_rfl) talL_one ?_
        intro w_5 n_5 u_5
        have hlt : g < w3.heap.size := range_lt HG0.out
        have hne : w_3.heap.size ≠ g := by have h2 := HSB4.out; omega
        have HSx : w_5.rangeAt g 0 [.int .i64 0, .string ⟨#[97]⟩, .string ⟨#[99]⟩, .bool false, .int .u64 4] := range_updS HG4.out u_5 (fun e => hne e.symm)
        have hnm : ∀ a, mo = some a → ¬ a.block = w_3.heap.size := fun a ha e => by have h1 := HLL4.out a ha; omega
        refine hK _ _ ⟨HSx, ?_⟩
        clear hK K
        refine takeC (i := 14) (v := .int .i64 0) rfl (by kernel_rfl) (by kernel_rfl) (by kernel_rfl) (fun _ _ _ h => h) (Or.inl ⟨by rfl, fun W hW => by go_simp⟩) HSx ?_
        simp only [Act.put, List.setIfInBounds_toArray, List.set_cons_zero, List.set_cons_succ]
        refine wpAnyH_done (by kernel_rfl) ?_ _
        have HMx : SkAt w_5 mo N (minF (oneC cC) (oneC cC)) := (HM4.out).upd u_5 (fun a ha => hnm a ha)
        have HBx : Hid (Below w.heap.size w w_5) := (HB4.out).trans (u_5.below (Below.size HB4.out) (fun k hk e => by have h2 := HSB4.out; have h3 := HBZ.out.size; omega))
        obtain ⟨rfl, b, off, rfl, d0, d1⟩ := sk_two HMx
        obtain ⟨k0, k1, k2, k3, k4, k5, k6⟩ := tal_cells n_5
        clear HMx hnm HSx n_5 u_5
        have CP := ccap8
        go_wp2_with (go_at_call 19; (with_reducible refine (CP _).mono ?_); clear CP; rintro e w9 ⟨rfl, b9⟩)
        go_ret
        exact ⟨rfl, HBx.out.trans (b9.mono HBx.out.size)⟩
      · go_simp
        generalize hw_3 : w_2.alloc (.cells [.int .u64 0, .int .u64 0, .int .u64 0, .int .u64 0, .int .u64 0, .int .u64 0, .slice none 0 0].toArray 43) = w_3
        have b_3 : Below w_2.heap.size w_2 w_3 := by rw [← hw_3]; exact (Below.refl _ _).alloc (Nat.le_refl _) _
        have HA_3 : Blk w_3 w_2.heap.size [.int .u64 0, .int .u64 0, .int .u64 0, .int .u64 0, .int .u64 0, .int .u64 0, .slice none 0 0].toArray 43 := by rw [← hw_3]; exact Blk.new _ _ _
        clear hw_3
        have HG3 : Hid _ := range_bel HG2.out b_3
        have HB3 : Hid _ := Below.trans HB2.out (Below.mono b_3 (Below.size HB2.out))
        have HLE3 : Hid _ := Nat.le_trans HLE2.out (Below.size b_3)
        have HS13 : Hid _ := SkAt.below HS12.out b_3
        have HS23 : Hid _ := SkAt.below HS2.out b_3
        have HSB3 : Hid _ := HLE2.out
        refine hK _ _ ⟨HG3.out, ?_⟩
        clear hK K
        refine onlyC (i := 8) rfl (by kernel_rfl) (fun K hK => ?_)
        go_simp
        go_at_call 17
        (with_reducible refine (PL w_3 ao bo ca cb HS13.out HS23.out).mono ?_)
        rintro e w_4 ⟨mo, N, cm, rfl, HM, b_4, HO⟩
        have HG4 : Hid _ := range_bel HG3.out b_4
        have HB4 : Hid _ := Below.trans HB3.out (Below.mono b_4 (Below.size HB3.out))
        have HLE4 : Hid _ := Nat.le_trans HLE3.out (Below.size b_4)
        have HS14 : Hid _ := SkAt.below HS13.out b_4
        have HS24 : Hid _ := SkAt.below HS23.out b_4
        have HSB4 : Hid _ := HSB3.out
        have HA4 : Hid _ := Blk.below HA_3 b_4 (Blk.lt HA_3)
        refine hK _ _ ⟨HG4.out, ?_⟩
        clear hK K
        refine takeC (i := 9) (v := .tuple #[.agg (talL 0 2 0 0 0 8 mo N cm).toArray, .int .i64 0]) rfl (by kernel_rfl) (by kernel_rfl) (by kernel_rfl) (fun _ _ _ h => h) (Or.inl ⟨by rfl, fun W hW => by go_simp⟩) (HG4.out) ?_
        simp only [Act.put, List.setIfInBounds_toArray, List.set_cons_zero, List.set_cons_succ]
        refine takeC (i := 10) (v := .agg (talL 0 2 0 0 0 8 mo N cm).toArray) rfl (by kernel_rfl) (by kernel_rfl) (by kernel_rfl) (fun _ _ _ h => h) (Or.inl ⟨by rfl, fun W hW => by go_simp⟩) (HG4.out) ?_
        simp only [Act.put, List.setIfInBounds_toArray, List.set_cons_zero, List.set_cons_succ]
        refine takeC (i := 11) (v := .int .i64 0) rfl (by kernel_rfl) (by kernel_rfl) (by kernel_rfl) (fun _ _ _ h => h) (Or.inl ⟨by rfl, fun W hW => by go_simp⟩) (HG4.out) ?_
        simp only [Act.put, List.setIfInBounds_toArray, List.set_cons_zero, List.set_cons_succ]
        refine onlyC (i := 13) rfl (by kernel_rfl) (fun K hK => ?_)
        refine step_stW (by rfl) 43 _ _ (by rfl) (w_2.heap.size) [.int .u64 0, .int .u64 0, .int .u64 0, .int .u64 0, .int .u64 0, .int .u64 0, .slice none 0 0] (talL 0 2 0 0 0 8 mo N cm) 43 (HA4.out) (by rfl) (by rfl) (by rfl) (by kernel_rfl) talL_one ?_
        intro w_5 n_5 u_5
        have hlt : g < w3.heap.size := range_lt HG0.out
        have hne : w_2.heap.size ≠ g := by have h2 := HSB4.out; omega
        have HSx : w_5.rangeAt g 0 [.int .i64 0, .string ⟨#[97]⟩, .string ⟨#[99]⟩, .bool false, .int .u64 4] := range_updS HG4.out u_5 (fun e => hne e.symm)
        have hnm : ∀ a, mo = some a → ¬ a.block = w_2.heap.size := fun a ha e => by have h1 := own_fresh HO.out a ha; have h2 := Blk.lt HA_3; omega
        refine hK _ _ ⟨HSx, ?_⟩
        clear hK K
        refine takeC (i := 14) (v := .int .i64 0) rfl (by kernel_rfl) (by kernel_rfl) (by kernel_rfl) (fun _ _ _ h => h) (Or.inl ⟨by rfl, fun W hW => by go_simp⟩) HSx ?_
        simp only [Act.put, List.setIfInBounds_toArray, List.set_cons_zero, List.set_cons_succ]
        refine wpAnyH_done (by kernel_rfl) ?_ _
        have HMx : SkAt w_5 mo N (minF (oneC cC) (oneC cC)) := (HM.out).upd u_5 (fun a ha => hnm a ha)
        have HBx : Hid (Below w.heap.size w w_5) := (HB4.out).trans (u_5.below (Below.size HB4.out) (fun k hk e => by have h2 := HSB4.out; have h3 := HBZ.out.size; omega))
        obtain ⟨rfl, b, off, rfl, d0, d1⟩ := sk_two HMx
        obtain ⟨k0, k1, k2, k3, k4, k5, k6⟩ := tal_cells n_5
        clear HMx hnm HSx n_5 u_5
        have CP := ccap8
        go_wp2_with (go_at_call 19; (with_reducible refine (CP _).mono ?_); clear CP; rintro e w9 ⟨rfl, b9⟩)
        go_ret
        exact ⟨rfl, HBx.out.trans (b9.mono HBx.out.size)⟩
    · go_simp
      generalize hw_2 : w_1.alloc (.cells [.int .u64 0, .int .u64 0, .int .u64 0, .int .u64 0, .int .u64 0, .int .u64 0, .slice none 0 0].toArray 43) = w_2
      have b_2 : Below w_1.heap.size w_1 w_2 := by rw [← hw_2]; exact (Below.refl _ _).alloc (Nat.le_refl _) _
      have HA_2 : Blk w_2 w_1.heap.size [.int .u64 0, .int .u64 0, .int .u64 0, .int .u64 0, .int .u64 0, .int .u64 0, .slice none 0 0].toArray 43 := by rw [← hw_2]; exact Blk.new _ _ _
      clear hw_2
      have HG2 : Hid _ := range_bel HG1.out b_2
      have HB2 : Hid _ := Below.trans HB1.out (Below.mono b_2 (Below.size HB1.out))
      have HLE2 : Hid _ := Nat.le_trans HLE1.out (Below.size b_2)
      have HS12 : Hid _ := SkAt.below HS1.out b_2
      have HSB2 : Hid _ := HLE1.out
      refine hK _ _ ⟨HG2.out, ?_⟩
      clear hK K
      refine onlyC (i := 7) rfl (by kernel_rfl) (fun K hK => ?_)
      go_simp
      go_at_call 18
      (with_reducible refine (ON w_2).mono ?_)
      rintro e w_3 ⟨bo, cb, rfl, HS2, b_3⟩
      have HG3 : Hid _ := range_bel HG2.out b_3
      have HB3 : Hid _ := Below.trans HB2.out (Below.mono b_3 (Below.size HB2.out))
      have HLE3 : Hid _ := Nat.le_trans HLE2.out (Below.size b_3)
      have HS13 : Hid _ := SkAt.below HS12.out b_3
      have HSB3 : Hid _ := HSB2.out
      have HA3 : Hid _ := Blk.below HA_2 b_3 (Blk.lt HA_2)
      refine hK _ _ ⟨HG3.out, ?_⟩
      clear hK K
      refine onlyC (i := 8) rfl (by kernel_rfl) (fun K hK => ?_)
      go_simp
      go_at_call 17
      (with_reducible refine (PL w_3 ao bo ca cb HS13.out HS2.out).mono ?_)
      rintro e w_4 ⟨mo, N, cm, rfl, HM, b_4, HO⟩
      have HG4 : Hid _ := range_bel HG3.out b_4
      have HB4 : Hid _ := Below.trans HB3.out (Below.mono b_4 (Below.size HB3.out))
      have HLE4 : Hid _ := Nat.le_trans HLE3.out (Below.size b_4)
      have HS14 : Hid _ := SkAt.below HS13.out b_4
      have HSB4 : Hid _ := HSB3.out
      have HA4 : Hid _ := Blk.below HA3.out b_4 (Blk.lt HA3.out)
      have HS24 : Hid _ := SkAt.below HS2.out b_4
      refine hK _ _ ⟨HG4.out, ?_⟩
      clear hK K
      refine takeC (i := 9) (v := .tuple #[.agg (talL 0 2 0 0 0 8 mo N cm).toArray, .int .i64 0]) rfl (by kernel_rfl) (by kernel_rfl) (by kernel_rfl) (fun _ _ _ h => h) (Or.inl ⟨by rfl, fun W hW => by go_simp⟩) (HG4.out) ?_
      simp only [Act.put, List.setIfInBounds_toArray, List.set_cons_zero, List.set_cons_succ]
      refine takeC (i := 10) (v := .agg (talL 0 2 0 0 0 8 mo N cm).toArray) rfl (by kernel_rfl) (by kernel_rfl) (by kernel_rfl) (fun _ _ _ h => h) (Or.inl ⟨by rfl, fun W hW => by go_simp⟩) (HG4.out) ?_
      simp only [Act.put, List.setIfInBounds_toArray, List.set_cons_zero, List.set_cons_succ]
      refine takeC (i := 11) (v := .int .i64 0) rfl (by kernel_rfl) (by kernel_rfl) (by kernel_rfl) (fun _ _ _ h => h) (Or.inl ⟨by rfl, fun W hW => by go_simp⟩) (HG4.out) ?_
      simp only [Act.put, List.setIfInBounds_toArray, List.set_cons_zero, List.set_cons_succ]
      refine onlyC (i := 13) rfl (by kernel_rfl) (fun K hK => ?_)
      refine step_stW (by rfl) 43 _ _ (by rfl) (w_1.heap.size) [.int .u64 0, .int .u64 0, .int .u64 0, .int .u64 0, .int .u64 0, .int .u64 0, .slice none 0 0] (talL 0 2 0 0 0 8 mo N cm) 43 (HA4.out) (by rfl) (by rfl) (by rfl) (by kernel_rfl) talL_one ?_
      intro w_5 n_5 u_5
      have hlt : g < w3.heap.size := range_lt HG0.out
      have hne : w_1.heap.size ≠ g := by have h2 := HSB4.out; omega
      have HSx : w_5.rangeAt g 0 [.int .i64 0, .string ⟨#[97]⟩, .string ⟨#[99]⟩, .bool false, .int .u64 4] := range_updS HG4.out u_5 (fun e => hne e.symm)
      have hnm : ∀ a, mo = some a → ¬ a.block = w_1.heap.size := fun a ha e => by have h1 := own_fresh HO.out a ha; have h2 := Blk.lt HA3.out; omega
      refine hK _ _ ⟨HSx, ?_⟩
      clear hK K
      refine takeC (i := 14) (v := .int .i64 0) rfl (by kernel_rfl) (by kernel_rfl) (by kernel_rfl) (fun _ _ _ h => h) (Or.inl ⟨by rfl, fun W hW => by go_simp⟩) HSx ?_
      simp only [Act.put, List.setIfInBounds_toArray, List.set_cons_zero, List.set_cons_succ]
      refine wpAnyH_done (by kernel_rfl) ?_ _
      have HMx : SkAt w_5 mo N (minF (oneC cC) (oneC cC)) := (HM.out).upd u_5 (fun a ha => hnm a ha)
      have HBx : Hid (Below w.heap.size w w_5) := (HB4.out).trans (u_5.below (Below.size HB4.out) (fun k hk e => by have h2 := HSB4.out; have h3 := HBZ.out.size; omega))
      obtain ⟨rfl, b, off, rfl, d0, d1⟩ := sk_two HMx
      obtain ⟨k0, k1, k2, k3, k4, k5, k6⟩ := tal_cells n_5
      clear HMx hnm HSx n_5 u_5
      have CP := ccap8
      go_wp2_with (go_at_call 19; (with_reducible refine (CP _).mono ?_); clear CP; rintro e w9 ⟨rfl, b9⟩)
      go_ret
      exact ⟨rfl, HBx.out.trans (b9.mono HBx.out.size)⟩
  · go_simp
    generalize hw_1 : wd.alloc (.cells [.int .u64 0, .int .u64 0, .int .u64 0, .int .u64 0, .int .u64 0, .int .u64 0, .slice none 0 0].toArray 43) = w_1
    have b_1 : Below wd.heap.size wd w_1 := by rw [← hw_1]; exact (Below.refl _ _).alloc (Nat.le_refl _) _
    have HA_1 : Blk w_1 wd.heap.size [.int .u64 0, .int .u64 0, .int .u64 0, .int .u64 0, .int .u64 0, .int .u64 0, .slice none 0 0].toArray 43 := by rw [← hw_1]; exact Blk.new _ _ _
    clear hw_1
    have HG1 : Hid _ := range_bel HG0d.out b_1
    have HB1 : Hid _ := Below.trans HB3d.out (Below.mono b_1 (Below.size HB3d.out))
    have HLE1 : Hid _ := Nat.le_trans HLE0.out (Below.size b_1)
    have HSB1 : Hid _ := HLE0.out
    refine hK _ _ ⟨HG1.out, ?_⟩
    clear hK K
    refine onlyC (i := 3) rfl (by kernel_rfl) (fun K hK => ?_)
    go_simp
    go_at_call 18
    (with_reducible refine (ON w_1).mono ?_)
    rintro e w_2 ⟨ao, ca, rfl, HS1, b_2⟩
    have HG2 : Hid _ := range_bel HG1.out b_2
    have HB2 : Hid _ := Below.trans HB1.out (Below.mono b_2 (Below.size HB1.out))
    have HLE2 : Hid _ := Nat.le_trans HLE1.out (Below.size b_2)
    have HSB2 : Hid _ := HSB1.out
    have HA2 : Hid _ := Blk.below HA_1 b_2 (Blk.lt HA_1)
    refine hK _ _ ⟨HG2.out, ?_⟩
    clear hK K
    refine onlyC (i := 7) rfl (by kernel_rfl) (fun K hK => ?_)
    go_simp
    go_at_call 18
    (with_reducible refine (ON w_2).mono ?_)
    rintro e w_3 ⟨bo, cb, rfl, HS2, b_3⟩
    have HG3 : Hid _ := range_bel HG2.out b_3
    have HB3 : Hid _ := Below.trans HB2.out (Below.mono b_3 (Below.size HB2.out))
    have HLE3 : Hid _ := Nat.le_trans HLE2.out (Below.size b_3)
    have HSB3 : Hid _ := HSB2.out
    have HA3 : Hid _ := Blk.below HA2.out b_3 (Blk.lt HA2.out)
    have HS13 : Hid _ := SkAt.below HS1.out b_3
    refine hK _ _ ⟨HG3.out, ?_⟩
    clear hK K
    refine onlyC (i := 8) rfl (by kernel_rfl) (fun K hK => ?_)
    go_simp
    go_at_call 17
    (with_reducible refine (PL w_3 ao bo ca cb HS13.out HS2.out).mono ?_)
    rintro e w_4 ⟨mo, N, cm, rfl, HM, b_4, HO⟩
    have HG4 : Hid _ := range_bel HG3.out b_4
    have HB4 : Hid _ := Below.trans HB3.out (Below.mono b_4 (Below.size HB3.out))
    have HLE4 : Hid _ := Nat.le_trans HLE3.out (Below.size b_4)
    have HSB4 : Hid _ := HSB3.out
    have HA4 : Hid _ := Blk.below HA3.out b_4 (Blk.lt HA3.out)
    have HS14 : Hid _ := SkAt.below HS13.out b_4
    have HS24 : Hid _ := SkAt.below HS2.out b_4
    refine hK _ _ ⟨HG4.out, ?_⟩
    clear hK K
    refine takeC (i := 9) (v := .tuple #[.agg (talL 0 2 0 0 0 8 mo N cm).toArray, .int .i64 0]) rfl (by kernel_rfl) (by kernel_rfl) (by kernel_rfl) (fun _ _ _ h => h) (Or.inl ⟨by rfl, fun W hW => by go_simp⟩) (HG4.out) ?_
    simp only [Act.put, List.setIfInBounds_toArray, List.set_cons_zero, List.set_cons_succ]
    refine takeC (i := 10) (v := .agg (talL 0 2 0 0 0 8 mo N cm).toArray) rfl (by kernel_rfl) (by kernel_rfl) (by kernel_rfl) (fun _ _ _ h => h) (Or.inl ⟨by rfl, fun W hW => by go_simp⟩) (HG4.out) ?_
    simp only [Act.put, List.setIfInBounds_toArray, List.set_cons_zero, List.set_cons_succ]
    refine takeC (i := 11) (v := .int .i64 0) rfl (by kernel_rfl) (by kernel_rfl) (by kernel_rfl) (fun _ _ _ h => h) (Or.inl ⟨by rfl, fun W hW => by go_simp⟩) (HG4.out) ?_
    simp only [Act.put, List.setIfInBounds_toArray, List.set_cons_zero, List.set_cons_succ]
    refine onlyC (i := 13) rfl (by kernel_rfl) (fun K hK => ?_)
    refine step_stW (by rfl) 43 _ _ (by rfl) (wd.heap.size) [.int .u64 0, .int .u64 0, .int .u64 0, .int .u64 0, .int .u64 0, .int .u64 0, .slice none 0 0] (talL 0 2 0 0 0 8 mo N cm) 43 (HA4.out) (by rfl) (by rfl) (by rfl) (by kernel_rfl) talL_one ?_
    intro w_5 n_5 u_5
    have hlt : g < w3.heap.size := range_lt HG0.out
    have hne : wd.heap.size ≠ g := by have h2 := HSB4.out; omega
    have HSx : w_5.rangeAt g 0 [.int .i64 0, .string ⟨#[97]⟩, .string ⟨#[99]⟩, .bool false, .int .u64 4] := range_updS HG4.out u_5 (fun e => hne e.symm)
    have hnm : ∀ a, mo = some a → ¬ a.block = wd.heap.size := fun a ha e => by have h1 := own_fresh HO.out a ha; have h2 := Blk.lt HA3.out; omega
    refine hK _ _ ⟨HSx, ?_⟩
    clear hK K
    refine takeC (i := 14) (v := .int .i64 0) rfl (by kernel_rfl) (by kernel_rfl) (by kernel_rfl) (fun _ _ _ h => h) (Or.inl ⟨by rfl, fun W hW => by go_simp⟩) HSx ?_
    simp only [Act.put, List.setIfInBounds_toArray, List.set_cons_zero, List.set_cons_succ]
    refine wpAnyH_done (by kernel_rfl) ?_ _
    have HMx : SkAt w_5 mo N (minF (oneC cC) (oneC cC)) := (HM.out).upd u_5 (fun a ha => hnm a ha)
    have HBx : Hid (Below w.heap.size w w_5) := (HB4.out).trans (u_5.below (Below.size HB4.out) (fun k hk e => by have h2 := HSB4.out; have h3 := HBZ.out.size; omega))
    obtain ⟨rfl, b, off, rfl, d0, d1⟩ := sk_two HMx
    obtain ⟨k0, k1, k2, k3, k4, k5, k6⟩ := tal_cells n_5
    clear HMx hnm HSx n_5 u_5
    have CP := ccap8
    go_wp2_with (go_at_call 19; (with_reducible refine (CP _).mono ?_); clear CP; rintro e w9 ⟨rfl, b9⟩)
    go_ret
    exact ⟨rfl, HBx.out.trans (b9.mono HBx.out.size)⟩
end Go.Proofs.YtbefeobikjnlpaaGreatDoor.sk
