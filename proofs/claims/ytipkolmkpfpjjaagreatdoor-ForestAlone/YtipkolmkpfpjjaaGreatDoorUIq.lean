/-
  Merged: UI, UJ.
-/
import Derived.Test.YtipkolmkpfpjjaaGreatDoorUAq
import Derived.Deep.RegionHeld3
import Derived.Test.YtipkolmkpfpjjaaGreatDoorGMq
import Derived.Test.YtipkolmkpfpjjaaGreatDoorXP
namespace Go.Proofs.YtipkolmkpfpjjaaGreatDoor
open Go Go.RowKit
set_option maxRecDepth 100000

theorem run_neqN {T : TypeId} {xs ys : Array Value} {b : Bool} {W : World} (h : (Op.equalIn 10000 T (.agg xs) (.agg ys)).run Tryz.prog W = .ok b W) : (binOp .neq T (.agg xs) (.agg ys)).run Tryz.prog W = .ok (.bool (!b)) W := by
  rw [run_neq_struct, h]; rfl
theorem guard_node : Tryz.prog.eqGuardType Tryz.prog.depth 49 = false := by kernel_rfl
/-- What stays while the nodes are gone through. -/
structure AlI (n : Nat) (w6 : World) (f g : Nat) (A : List Nat) (nd : Nat → Nod) (sp : Nat → Sp) (kd : Nat → List Int) (ids rts : List Int) (ada adb : Option Addr) : Prop where
  one : OneF n w6 f A nd sp kd ids rts
  two : OneF n w6 g A nd sp kd ids rts
  len : A.length = n
  ra : 0 < n → ∃ ga, ada = some ⟨ga, 0, none⟩ ∧ ∀ i (hi : i < A.length) (j : Nat) (u : Value), (ndL (nd A[i]))[j]? = some u → w6.cell? ⟨ga, i * 7 + j, none⟩ = some u
  rb : 0 < n → ∃ gb, adb = some ⟨gb, 0, none⟩ ∧ ∀ i (hi : i < A.length) (j : Nat) (u : Value), (ndL (nd A[i]))[j]? = some u → w6.cell? ⟨gb, i * 7 + j, none⟩ = some u
  li : ids.length ≤ 1000
  lr : rts.length ≤ 1000
  lk : ∀ q ∈ A, (kd q).length ≤ 1000
theorem OneF.below {n : Nat} {w5 w6 : World} {f : Nat} {A : List Nat} {nd : Nat → Nod} {sp : Nat → Sp} {kd : Nat → List Int} {ids rts : List Int} (h : OneF n w5 f A nd sp kd ids rts) (hb : Below w5.heap.size w5 w6) : OneF n w6 f A nd sp kd ids rts :=
  ⟨fun W b => h.nodes W (hb.trans (b.mono hb.size)), fun W q hq b => h.span W q hq (hb.trans (b.mono hb.size)), fun W q hq b => h.kids W q hq (hb.trans (b.mono hb.size)), fun W b => h.ids_ W (hb.trans (b.mono hb.size)), fun W b => h.roots W (hb.trans (b.mono hb.size))⟩
theorem cell_bel {w w' : World} (hb : Below w.heap.size w w') {a : Addr} {v : Value} (h : w.cell? a = some v) : w'.cell? a = some v :=
  (hb.cell (World.block_lt_of_cell? w _ h)).trans h
set_option maxHeartbeats 16000000 in
theorem alone_yes (ad oa : Option Addr) (n c no co : Nat) (X Y : List Sp) (P : Nat → Pl) (r : List Int) (w : World) (hX : SpsAt w ad n X P) (hT : Tabs w) (hO : NumsAt w oa no r) (hz : n * 168 ≤ 140737488351232) (h1 : OneT X) (hp : X.Perm Y) (hr : Y.Pairwise (fun a b => a.id < b.id)) :
    Calls Tryz.prog 3 #[.slice ad n c, .slice oa no co] w fun e w' => e = .returned (.bool true) ∧ Below w.heap.size w w' := by
  have D1 := awake_any w hT
  have HX : Hid (SpsAt w ad n X P) := hX
  have HT : Hid (Tabs w) := hT
  have HO : Hid (NumsAt w oa no r) := hO
  have HN : Hid (OneT X) := h1
  have HP : Hid (X.Perm Y ∧ Y.Pairwise (fun a b => a.id < b.id)) := ⟨hp, hr⟩
  have HYn : Hid (Y.length = n) := by show _ = _; rw [← hp.length_eq]; exact hX.len
  clear hX hT hO h1 hp hr
  go_enter Tryz.func3, Tryz.ntmps3
  go_wp2_with (first
    | (go_at_call 4; (with_reducible refine D1.mono ?_); clear D1; rintro e w1 ⟨rfl, b1⟩; have B1 := hideU b1; clear b1; have D2 := build_yes ad n c X Y P w1 (HX.out.below B1.out) HN.out (HT.out.below B1.out) HP.out.1 HP.out.2)
    | (go_at_call 5; (with_reducible refine D2.mono ?_); clear D2; rintro e w2 ⟨f, rfl, H2, b2⟩; have B2 : Hid (Below w.heap.size w w2) := B1.out.trans (b2.mono B1.out.size); clear b2; have D3 := moved_any ad oa n c no co X P r w2 (HX.out.below B2.out) (HO.out.below B2.out) hz)
    | (go_at_call 6; (with_reducible refine D3.mono ?_); clear D3; rintro e w3 ⟨ao, cap, L, rfl, HM, b3⟩; have B3 : Hid (Below w.heap.size w w3) := B2.out.trans (b3.mono B2.out.size); have C3 := hideU b3; clear b3; have D4 := build_yes ao n cap (L.map (·.1)) Y (plQ L) w3 HM.out.2 (one_permR HN.out HM.out.1) (HT.out.below B3.out) (HM.out.1.symm.trans HP.out.1) HP.out.2)
    | (go_at_call 5; (with_reducible refine D4.mono ?_); clear D4; rintro e w4 ⟨g, rfl, H4, b4⟩; have B4 : Hid (Below w.heap.size w w4) := B3.out.trans (b4.mono B3.out.size); obtain ⟨A, nd, sp, kd, ids, rts, F1, F2, hA, hi, hrt, hk, hn⟩ := BuiltF.pair H2.out (C3.out.trans (b4.mono C3.out.size)) H4.out (Below.refl _ w4) n HYn.out; have HF1 := hideU F1; have HF2 := hideU F2; have HLN := hideU (And.intro hA (And.intro hi (And.intro hrt (And.intro hk hn)))); clear b4 F1 F2 hA hi hrt hk hn HM C3 H2 H4; have D5 := HF1.out.nodes w4 (Below.refl _ _))
    | (go_at_call 7; (with_reducible refine D5.mono ?_); clear D5; rintro e w5 ⟨ada, ca5, rfl, HRA, b5⟩; have C5 := hideU b5; clear b5; have D6 := HF2.out.nodes w5 C5.out)
    | (go_at_call 7; (with_reducible refine D6.mono ?_); clear D6; rintro e w6 ⟨adb, cb6, rfl, HRB, b6⟩; have C6 : Hid (Below w4.heap.size w4 w6) := C5.out.trans (b6.mono C5.out.size); have HRA6 := hideU (ownsRow_upd HRA.out (Upd.ofBelow (S := fun _ => False) b6 (fun k hk hk' => absurd hk (Nat.not_lt.mpr hk'))) (fun _ _ h => h)); clear b6 HRA))
  have B6 : Hid (Below w.heap.size w w6) := B4.out.trans (C6.out.mono B4.out.size)
  have hn : n ≤ 1000 := HLN.out.2.2.2.2
  have HAL : Hid (AlI n w6 f g A nd sp kd ids rts ada adb) := by
    obtain ⟨hA, hi, hrt, hk, _⟩ := HLN.out
    refine ⟨HF1.out.below C6.out, HF2.out.below C6.out, hA, fun h0 => ?_, fun h0 => ?_, hi, hrt, hk⟩
    · obtain ⟨ga, e, hc⟩ := ndRow HRA6.out h0
      exact ⟨ga, e, hc⟩
    · obtain ⟨gb, e, hc⟩ := ndRow HRB.out h0
      exact ⟨gb, e, hc⟩
  clear HF1 HF2 HLN C5 C6 HRA6 HRB B1 B2 B3 B4 HX HT HO HN HP HYn hz
  go_loopw [12] (fun a wr => ∃ (i : Nat), a = .int .i64 i ∧ i ≤ n ∧ Hid (Below w6.heap.size w6 wr)) (fun a _ => n - (intOf a).toNat)
  case atStart => exact ⟨0, rfl, by omega, Below.refl _ _⟩
  case round =>
    obtain ⟨i, rfl, hin, HW⟩ := hrel
    by_cases hlt : i < n
    · have hlt' : (i : Int) < (n : Int) := by omega
      obtain ⟨ga, rfl, hca⟩ := HAL.out.ra (by omega)
      obtain ⟨gb, rfl, hcb⟩ := HAL.out.rb (by omega)
      have hiA : i < A.length := by rw [HAL.out.len]; exact hlt
      have hq : A[i] ∈ A := List.getElem_mem hiA
      have ha := hca i hiA
      have hb := hcb i hiA
      generalize A[i] = q at hq ha hb
      have HQ : Hid (q ∈ A) := hq
      have S1 := HAL.out.one.span wr q hq HW.out
      have HS2 : Hid (∀ W, Below w6.heap.size w6 W → Calls Tryz.prog 8 #[.pointer (some ⟨g, 0, none⟩), .int .u64 (nd q).id] W fun e w' => ∃ p', e = .returned (.tuple #[.agg (spC (sp q) p'), .bool true]) ∧ Hid (SpKeep W w' (sp q) p') ∧ Below W.heap.size W w') := fun W hb => HAL.out.two.span W q hq hb
      have HK1 : Hid (∀ W, Below w6.heap.size w6 W → Calls Tryz.prog 11 #[.pointer (some ⟨f, 0, none⟩), .int .u64 (nd q).id] W fun e w' => ∃ r, e = .returned (.slice (some ⟨r, 0, none⟩) (kd q).length (kd q).length) ∧ Hid (Blk w' r (fillC .u64 (kd q) 0) 35) ∧ Below W.heap.size W w') := fun W hb => HAL.out.one.kids W q hq hb
      have HK2 : Hid (∀ W, Below w6.heap.size w6 W → Calls Tryz.prog 11 #[.pointer (some ⟨g, 0, none⟩), .int .u64 (nd q).id] W fun e w' => ∃ r, e = .returned (.slice (some ⟨r, 0, none⟩) (kd q).length (kd q).length) ∧ Hid (Blk w' r (fillC .u64 (kd q) 0) 35) ∧ Below W.heap.size W w') := fun W hb => HAL.out.two.kids W q hq hb
      have HKL : Hid ((kd q).length ≤ 1000) := HAL.out.lk q hq
      have HEQ : Hid (∀ W, (binOp .neq 49 (.agg (ndL (nd q)).toArray) (.agg (ndL (nd q)).toArray)).run Tryz.prog W = .ok (.bool false) W) := fun W => run_neqN (eqI_node 9997 (nd q) W)
      generalize nd q = d at *
      generalize sp q = s at *
      generalize kd q = kq at *
      obtain ⟨d0, d1, d2, d3, d4, d5, d6⟩ := d
      have HCA : Hid (∀ W, Below w6.heap.size w6 W → W.cell? ⟨ga, i * 7, none⟩ = some (.int .u64 d0) ∧ W.cell? ⟨ga, i * 7 + 1, none⟩ = some (.int .u64 d1) ∧ W.cell? ⟨ga, i * 7 + 2, none⟩ = some (.int .i64 d2) ∧ W.cell? ⟨ga, i * 7 + 3, none⟩ = some (.int .u64 d3) ∧ W.cell? ⟨ga, i * 7 + 4, none⟩ = some (.int .i64 d4) ∧ W.cell? ⟨ga, i * 7 + 5, none⟩ = some (.int .i64 d5) ∧ W.cell? ⟨ga, i * 7 + 6, none⟩ = some (.int .i64 d6)) := fun W hb => ⟨cell_bel hb (ha 0 _ rfl), cell_bel hb (ha 1 _ rfl), cell_bel hb (ha 2 _ rfl), cell_bel hb (ha 3 _ rfl), cell_bel hb (ha 4 _ rfl), cell_bel hb (ha 5 _ rfl), cell_bel hb (ha 6 _ rfl)⟩
      have HCB : Hid (∀ W, Below w6.heap.size w6 W → W.cell? ⟨gb, i * 7, none⟩ = some (.int .u64 d0) ∧ W.cell? ⟨gb, i * 7 + 1, none⟩ = some (.int .u64 d1) ∧ W.cell? ⟨gb, i * 7 + 2, none⟩ = some (.int .i64 d2) ∧ W.cell? ⟨gb, i * 7 + 3, none⟩ = some (.int .u64 d3) ∧ W.cell? ⟨gb, i * 7 + 4, none⟩ = some (.int .i64 d4) ∧ W.cell? ⟨gb, i * 7 + 5, none⟩ = some (.int .i64 d5) ∧ W.cell? ⟨gb, i * 7 + 6, none⟩ = some (.int .i64 d6)) := fun W h => ⟨cell_bel h (hb 0 _ rfl), cell_bel h (hb 1 _ rfl), cell_bel h (hb 2 _ rfl), cell_bel h (hb 3 _ rfl), cell_bel h (hb 4 _ rfl), cell_bel h (hb 5 _ rfl), cell_bel h (hb 6 _ rfl)⟩
      have k0 := (HCA.out wr HW.out).1
      clear hca hcb ha hb hq hiA
      simp only at S1
      go_upto_region 18 with (first
        | (go_at_call 8; (with_reducible refine S1.mono ?_); clear S1; rintro e w7 ⟨p1, rfl, hk7, b7⟩; have K7 := hk7; have C7 := hideU b7; clear hk7 b7 k0)
        | (refine wpList_stW rfl 42 _ _ rfl w7.heap.size zSpL (spC s p1).toList 42 (Blk.new _ _ _) rfl rfl rfl (by kernel_rfl) (spC_one _ _) ?_; intro w8 n8 u8; obtain ⟨x8, y8, z8⟩ := keep_box K7.out C7.out u8; have C8 : Hid (Below w6.heap.size w6 w8) := HW.out.trans (x8.mono HW.out.size); have N8 := hideU n8; have Y8 := hideU y8; clear n8 u8 x8 y8 z8 K7 C7; have k8 := (HCA.out w8 C8.out).1; have S2 := HS2.out w8 C8.out)
        | (go_at_call 8; (with_reducible refine S2.mono ?_); clear S2; rintro e w9 ⟨p2, rfl, hk9, b9⟩; have K9 := hk9; have C9 := hideU b9; clear hk9 b9 k8)
        | (refine wpList_stW rfl 42 _ _ rfl w9.heap.size zSpL (spC s p2).toList 42 (Blk.new _ _ _) rfl rfl rfl (by kernel_rfl) (spC_one _ _) ?_; intro w10 n10 u10; obtain ⟨x10, y10, z10⟩ := keep_box K9.out C9.out u10; have C10 : Hid (Below w6.heap.size w6 w10) := C8.out.trans (x10.mono C8.out.size); have N10 := hideU n10; have M10 := hideU (Blk.below N8.out x10 N8.out.lt); have S3 := same10_self s p1 p2 w10 (SpAt.below Y8.out x10) y10; clear n10 u10 x10 y10 z10 K9 C9 N8 Y8)
        | (refine wpList_load_mid rfl 42 _ rfl w7.heap.size 0 rfl (spC s p1).toList _ (fun j v hv => by rw [Nat.zero_add]; exact Blk.cell M10.out j (by rw [List.getElem?_toArray]; exact hv)) Tryz.underlying42 rfl (by kernel_rfl) ?_)
        | (refine wpList_load_mid rfl 42 _ rfl w9.heap.size 0 rfl (spC s p2).toList _ (fun j v hv => by rw [Nat.zero_add]; exact Blk.cell N10.out j (by rw [List.getElem?_toArray]; exact hv)) Tryz.underlying42 rfl (by kernel_rfl) ?_)
        | (go_at_call 9; refine S3.mono ?_; clear S3; rintro e w11 ⟨rfl, b11⟩; have C11 : Hid (Below w6.heap.size w6 w11) := C10.out.trans (b11.mono C10.out.size); clear b11))
      have E11 : Hid (Below w6.heap.size w6 w11.drew) := C11.out.drew
      go_region_held3 (fun W => W.cell? ⟨ga, i * 7, none⟩ = some (.int .u64 d0)) (first | exact (HCA.out _ C14.out).1 | exact (HCA.out _ C13.out).1 | exact (HCA.out _ C12.out).1 | exact (HCA.out _ E11.out).1) (first
        | (go_at_call 11; (with_reducible refine (HK1.out _ E11.out).mono ?_); clear HK1; rintro e w12 ⟨r1, rfl, R1, b12⟩; have C12 : Hid (Below w6.heap.size w6 w12) := E11.out.trans (b12.mono E11.out.size); clear b12)
        | (go_at_call 11; (with_reducible refine (HK2.out _ C12.out).mono ?_); clear HK2; rintro e w13 ⟨r2, rfl, R2, b13⟩; have C13 : Hid (Below w6.heap.size w6 w13) := C12.out.trans (b13.mono C12.out.size); have R3 := hideU (Blk.below R1.out b13 R1.out.lt); clear b13)
        | (go_at_call 10; (with_reducible refine (sameIDs_eq r1 r2 kq.length kq.length kq.length kq _ rfl R3.out R2.out (by have := HKL.out; omega)).mono ?_); rintro e w14 ⟨rfl, b14⟩; have C14 : Hid (Below w6.heap.size w6 w14) := C13.out.trans (b14.mono C13.out.size); clear b14))
      obtain ⟨a0, a1, a2, a3, a4, a5, a6⟩ := HCA.out w14 C14.out
      obtain ⟨b0, b1, b2, b3, b4, b5, b6⟩ := HCB.out w14 C14.out
      have heq := HEQ.out
      unfold ndL at heq
      have gd := guard_node
      clear HS2 HKL HQ HEQ HCA HCB N10 M10 R1 R2 R3 C8 C10 C11 E11 C12 C13
      go_wp2
      go_quiet (fail)
      go_wp2
      go_roundw
      case rel => exact ⟨i + 1, by go_num, by omega, C14.out.trans (⟨rfl, rfl, rfl, Nat.le_refl _, fun _ _ => rfl⟩ : Below w6.heap.size w14 (w14.drewN nq))⟩
      case measure => simp [intOf]; omega
    · have hlt' : ¬ (i : Int) < (n : Int) := by omega
      have D1 := HAL.out.one.ids_ wr HW.out
      have HLI : Hid (ids.length ≤ 1000) := HAL.out.li
      have HLR : Hid (rts.length ≤ 1000) := HAL.out.lr
      go_wp2_with (first
        | (go_at_call 12; (with_reducible refine D1.mono ?_); clear D1; rintro e w12 ⟨r1, rfl, R1, b12⟩; have C12 : Hid (Below w6.heap.size w6 w12) := HW.out.trans (b12.mono HW.out.size); clear b12; have D2 := HAL.out.two.ids_ w12 C12.out)
        | (go_at_call 12; (with_reducible refine D2.mono ?_); clear D2; rintro e w13 ⟨r2, rfl, R2, b13⟩; have C13 : Hid (Below w6.heap.size w6 w13) := C12.out.trans (b13.mono C12.out.size); have D3 := sameIDs_eq r1 r2 ids.length ids.length ids.length ids w13 rfl (Blk.below R1.out b13 R1.out.lt) R2.out (by have := HLI.out; omega); clear b13)
        | (go_at_call 10; (with_reducible refine D3.mono ?_); clear D3; rintro e w14 ⟨rfl, b14⟩; have C14 : Hid (Below w6.heap.size w6 w14) := C13.out.trans (b14.mono C13.out.size); clear b14; have D4 := HAL.out.one.roots w14 C14.out)
        | (go_at_call 13; (with_reducible refine D4.mono ?_); clear D4; rintro e w15 ⟨r3, rfl, R5, b15⟩; have C15 : Hid (Below w6.heap.size w6 w15) := C14.out.trans (b15.mono C14.out.size); clear b15; have D5 := HAL.out.two.roots w15 C15.out)
        | (go_at_call 13; (with_reducible refine D5.mono ?_); clear D5; rintro e w16 ⟨r4, rfl, R6, b16⟩; have C16 : Hid (Below w6.heap.size w6 w16) := C15.out.trans (b16.mono C15.out.size); have D6 := sameIDs_eq r3 r4 rts.length rts.length rts.length rts w16 rfl (Blk.below R5.out b16 R5.out.lt) R6.out (by have := HLR.out; omega); clear b16)
        | (go_at_call 10; (with_reducible refine D6.mono ?_); clear D6; rintro e w17 ⟨rfl, b17⟩; have C17 : Hid (Below w6.heap.size w6 w17) := C16.out.trans (b17.mono C16.out.size); clear b17))
      go_ret
      exact ⟨rfl, B6.out.trans (C17.out.mono B6.out.size)⟩
end Go.Proofs.YtipkolmkpfpjjaaGreatDoor

namespace Go.Proofs.YtipkolmkpfpjjaaGreatDoor
open Go Go.ChangeShapes Go.WideShapes Go.ChangeAt Go.RowKit Go.Deep
set_option maxRecDepth 100000

theorem alone_any (ad oa : Option Addr) (n c no co : Nat) (X : List Sp) (P : Nat → Pl) (r : List Int) (w : World) (hX : SpsAt w ad n X P) (hF : ∀ a ∈ X, a.Fits) (hS : ∀ a ∈ X, a.Small) (hT : Tabs w) (hO : NumsAt w oa no r) (hz : n * 168 ≤ 140737488351232) :
    Calls Tryz.prog 3 #[.slice ad n c, .slice oa no co] w fun e w' => e = .returned (.bool true) ∧ Below w.heap.size w w' := by
  by_cases h1 : OneT X
  · obtain ⟨Y, hp, hr⟩ := rising_of X h1.ids
    exact alone_yes ad oa n c no co X Y P r w hX hT hO hz h1 hp hr
  · exact alone_no ad oa n c no co X P r w hX hF hS hT hO hz h1
theorem cells_intU : Tryz.prog.cellsOf 3 = 1 := by kernel_rfl
theorem bytes_intU : Tryz.prog.bytesOf 3 = 8 := by kernel_rfl
section
variable {H : Type} {enc : TypeId × Value → H} {W : World} {base : Nat} {spare : Nat → Bool} {held : Bool}
theorem ints_open {n : Nat} {v : Value} {d : DataW H} {pl : List MemPlace} (h : DataW.trod enc Tryz.prog W base spare held n 23 [v] = some (d, pl)) (hr : Reach 23 d) :
    ∃ (ad : Option Addr) (len cap : Nat) (M : List Int), v = .slice ad len cap ∧ NumsAt W ad len M := by
  rcases open_slice1 Tryz.underlying23 cells_intU h with ⟨hcs, hx⟩ | ⟨a, len, cap, m, n, V, D, Pl, hcs, hb, hl, hm, hmm, hx, hel⟩
  · simp at hcs
    subst hcs
    exact ⟨none, 0, 0, [], rfl, ⟨rfl, (fun h => by omega), (fun _ h => by cases h), by omega⟩⟩
  · simp at hcs
    subst hcs
    simp only [Prod.mk.injEq] at hx
    rw [hx.1] at hr
    have hln := hr.len Tryz.underlying23
    rw [bytes_intU] at hln
    simp at hln
    have hlm : len ≤ m := by rw [hmm]; split <;> omega
    obtain ⟨b, off, spot⟩ := a
    have cell : ∀ i, i < len → ∃ x : Int, W.cell? ((⟨b, off, spot⟩ : Addr).add i) = some (.int .i64 x) ∧ -9223372036854775808 ≤ x ∧ x ≤ 9223372036854775807 := by
      intro i hi
      obtain ⟨h1, h2⟩ := hel i (by omega)
      obtain ⟨x, e1, _, w1⟩ := DataW.trod_int Tryz.underlying3 h2
      simp at e1
      rw [e1] at h1
      exact ⟨x, h1, bounds_i64 w1⟩
    have hspot : 0 < len → spot = none := fun hp => by
      cases spot with
      | none => rfl
      | some sp =>
        exfalso
        obtain ⟨x, hx0, _⟩ := cell 0 hp
        simp [World.cell?, Addr.add] at hx0
        split at hx0 <;> simp at hx0
    have each : ∀ i, i < len → ∃ x : Int, W.cell? ⟨b, off + i, none⟩ = some (.int .i64 x) ∧ -9223372036854775808 ≤ x ∧ x ≤ 9223372036854775807 := by
      intro i hi
      obtain ⟨x, h1, h2⟩ := cell i hi
      have hs := hspot (by omega)
      subst hs
      rw [Addr.add_lit] at h1
      exact ⟨x, h1, h2⟩
    obtain ⟨X, hX⟩ := choose_lt each
    refine ⟨some ⟨b, off, spot⟩, len, cap, (List.range len).map X, rfl, ⟨by simp, fun hp => ?_, ?_, by omega⟩⟩
    · have hs := hspot hp
      subst hs
      refine ⟨b, off, rfl, fun i hi => ?_⟩
      have hi' : i < len := by simpa using hi
      simp
      exact (hX i hi').1
    · intro x hx
      simp at hx
      obtain ⟨i, hi, rfl⟩ := hx
      exact (hX i hi).2
theorem spans_long {n : Nat} {ad : Option Addr} {len cap : Nat} {x : DataW H × List MemPlace} (h : DataW.trod enc Tryz.prog W base spare held n 22 [.slice ad len cap] = some x) (hr : Reach 22 x.1) : len * 168 ≤ 140737488351232 := by
  rcases open_slice Tryz.underlying22 h with ⟨hcs, hx⟩ | ⟨a, len', cap', m, n, D, PL, hcs, hb, hl, hm, hmm, hx, hel⟩
  · simp at hcs
    omega
  · simp at hcs
    obtain ⟨_, rfl, rfl⟩ := hcs
    subst hx
    have hln := hr.len Tryz.underlying22
    rw [bytes_span] at hln
    simp at hln
    have hlm : len ≤ m := by rw [hmm]; split <;> omega
    omega
end
end Go.Proofs.YtipkolmkpfpjjaaGreatDoor
