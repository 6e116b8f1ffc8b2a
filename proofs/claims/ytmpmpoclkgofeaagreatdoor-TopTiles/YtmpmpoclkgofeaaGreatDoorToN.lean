/-
  ToN.
-/
import Derived.Test.YtmpmpoclkgofeaaGreatDoorToMq
import Derived.Test.YtmpmpoclkgofeaaGreatDoorToA
namespace Go.Proofs.YtmpmpoclkgofeaaGreatDoor
open Go Go.RowKit
set_option maxRecDepth 100000

set_option maxHeartbeats 8000000 in
theorem topTiles_any (ad : Option Addr) (n cap : Nat) (X : List Sp) (P : Nat → Pl) (at_ : Int) (w : World) (hX : SpsAt w ad n X P) (hF : ∀ a ∈ X, a.Fits) (hS : ∀ a ∈ X, a.Small) (hn : n * 168 ≤ 140737488351232) (hT : Tabs w) :
    Calls Tryz.prog 3 #[.slice ad n cap, .int .i64 at_] w fun e w' => e = .returned (.bool true) ∧ Below w.heap.size w w' := by
  have LV := lives_any w hT
  have GR : Hid (∀ w1, Below w.heap.size w w1 → Calls Tryz.prog 5 #[.slice ad n cap] w1 fun e w' => ∃ f sb Y X' K rv R C dp fin sv, e = .returned (.tuple #[.pointer (some ⟨f, 0, none⟩), sv, .bool true]) ∧ ForestAt w' f sb X' K rv R ∧ FoB Y C dp fin X' K R ∧ Below w1.heap.size w1 w') := fun w1 hb => grown_any ad n cap X P w1 (hX.below hb) hF hS hn (hT.below hb)
  clear hX hF hS hT
  go_enter Tryz.func3, Tryz.ntmps3
  go_wp2_with (first
    | (go_at_call 4; (with_reducible refine LV.mono ?_); clear LV; rintro e w1 ⟨rfl, hb1⟩; have HB1 : Hid (Below w.heap.size w w1) := hb1; have G1 := GR.out w1 hb1; clear hb1 GR)
    | (go_at_call 5; (with_reducible refine G1.mono ?_); clear G1; rintro e w2 ⟨f, sb, Y, X', K, rv, R, C, dp, fin, sv, rfl, h1, h2, h3⟩)
    | (go_at_call 6; refine (roots_any f sb X' K rv R w2 h1).mono ?_; rintro e w3 ⟨rc, rfl, hrc, hrl, hb3⟩))
  have hF3 := h1.below hb3
  have hbw := HB1.out.trans (h3.mono HB1.out.size)
  have HS : Hid (ForestAt w3 f sb X' K rv R ∧ FoB Y C dp fin X' K R ∧ Blk w3 rc (fillC .u64 (idsOf X' R) 0) 33 ∧ Below w.heap.size w w3) := ⟨hF3, h2, hrc, hbw.trans (hb3.mono hbw.size)⟩
  obtain ⟨m, hm⟩ : ∃ m, R.length = m := ⟨_, rfl⟩
  have hm1 : (m : Int) ≤ 1000 := by
    have q1 := h2.fo.roots.1.length_eq
    have q2 := kidsF_len (cutN C (nmOf (zs Y))) Y.length (-1)
    have q3 := h2.one.len
    omega
  have HM : Hid (R.length = m) := hm
  rw [hm]
  clear h1 h2 h3 hrc hrl hb3 hF3 hm hbw HB1
  go_loopw [10] (fun z wr => ∃ i : Nat, z = .int .i64 i ∧ i ≤ m ∧ Hid (Below w3.heap.size w3 wr)) (fun z _ => m - (intOf z).toNat)
  case atStart => exact ⟨0, rfl, by omega, Below.refl _ _⟩
  case round =>
    obtain ⟨i, rfl, him, HBR⟩ := hrel
    by_cases hlt : i < m
    · obtain ⟨hF3, hB, hrc, hbw⟩ := HS.out
      have hbr := HBR.out
      obtain ⟨x, hx, hox, htx, hcx⟩ := hB.idsR i (by rw [HM.out]; exact hlt)
      have cr : wr.cell? ⟨rc, i, none⟩ = some (.int .u64 (fin x).id) := hcx wr rc (hrc.below hbr hrc.lt)
      have hin' : (i : Int) < (m : Int) := by omega
      have SV := hB.senv x hx
      have CL := clipT_any f sb X' K rv R wr (hF3.below hbr) x SV.xX (fin x) (SV.nd x SV.xX)
      have PT : Hid (∀ w4, Below w3.heap.size w3 w4 → Calls Tryz.prog 8 #[.pointer (some ⟨f, 0, none⟩), .int .u64 (fin x).id] w4 fun e W' => ∃ ad cap L, e = .returned (.tuple #[.slice ad L.length cap, .int .i64 0]) ∧ PathT w4 W' (spAt Y) fin (cnK fin K) x ad L) := fun w4 hb => path_any f sb X' K rv R (spAt Y) fin (knK K) (cnK fin K) 1001 x w4 (hF3.below hb) SV hox
      have hbd := hB.inn (dp x) x rfl hx
      have TL : Hid (∀ W W' ad cap (L : List LegN), PathT W W' (spAt Y) fin (cnK fin K) x ad L → Calls Tryz.prog 9 #[.slice ad L.length cap, .agg #[.int .i64 (fin x).fr, .int .i64 (fin x).til]] W' fun e w' => e = .returned (.bool true) ∧ Below W'.heap.size W' w') := fun W W' ad cap L hP => tiled_any ad L.length cap (L.reverse.map (lgQ fin)) (fin x).fr (fin x).til W' (by simp) (hB.tilQ hx hP.1 hP.2.1) (hB.lieL hx hP) (by omega)
      have HX : Hid (x < Y.length ∧ (fin x).tree = (fin x).id ∧ (fin x).org ≠ 0) := ⟨hx, htx, hox⟩
      have HCX : Hid (∀ w4, Below w3.heap.size w3 w4 → w4.cell? ⟨rc, i, none⟩ = some (.int .u64 (fin x).id)) := fun w4 hb => hcx w4 rc (hrc.below hb hrc.lt)
      clear hF3 hB hrc hbw hx hox htx hcx hbr SV hbd
      go_upto_region 11 with (first
        | (go_at_call 7; (with_reducible refine CL.mono ?_); clear CL; rintro e w4 ⟨rfl, hb4⟩; have H4 : Hid (∀ o, Below w3.heap.size w3 (w4.alloc o)) := (fun o => (HBR.out.trans (hb4.mono HBR.out.size)).alloc (by have := HBR.out.size; have := hb4.size; omega) o); have cr4 := fun (o : Obj) => HCX.out _ (H4.out o); clear hb4)
        | (go_at_call 8; refine (PT.out _ (H4.out _)).mono ?_; clear PT; rintro e w5 ⟨ad5, cap5, L, rfl, hP5⟩; have HP5 : Hid _ := hP5; have hk5 : Blk w5 w4.heap.size #[.int .i64 (fin x).fr, .int .i64 (fin x).til] 30 := Blk.below (Blk.new _ _ _) hP5.2.2.2 (by rw [World.size_alloc]; omega); have H5 : Hid (Below w3.heap.size w3 w5) := (H4.out _).trans (hP5.2.2.2.mono (H4.out _).size); clear hP5))
      have d0 := hk5.cell 0 rfl
      have d1 := hk5.cell 1 rfl
      have T1 := TL.out _ _ _ cap5 _ HP5.out
      have HK5 : Hid (Blk w5 w4.heap.size #[.int .i64 (fin x).fr, .int .i64 (fin x).til] 30) := hk5
      have HLQ : Hid (∀ W, Below w5.heap.size w5 W → LieIn legC 3 W ad5 (L.reverse.map (lgQ fin))) := fun W hW => (HS.out.2.1.lieL HX.out.1 HP5.out).below hW
      have HAL : Hid (∀ k (hk : k < L.reverse.length) W, Below w5.heap.size w5 W → Calls Tryz.prog 10 #[.pointer (some ⟨f, 0, none⟩), .int .u64 (fin x).id, .agg #[.int .u64 (lgQ fin L.reverse[k]).1, .int .i64 (lgQ fin L.reverse[k]).2.1, .int .i64 (lgQ fin L.reverse[k]).2.2]] W fun e w' => e = .returned (.bool true) ∧ Below W.heap.size W w') := fun k hk W hW => legAlone f sb X' K rv R Y C dp fin W (HS.out.1.below (H5.out.trans (hW.mono H5.out.size))) HS.out.2.1 x HX.out.1 HX.out.2.1 L HP5.out.1 k hk
      have HHG : Hid (∀ k (hk : k < L.reverse.length) (mm : Int) W, Below w5.heap.size w5 W → (lgQ fin L.reverse[k]).2.1 ≤ mm → mm < (lgQ fin L.reverse[k]).2.2 → Calls Tryz.prog 11 #[.pointer (some ⟨f, 0, none⟩), .int .u64 (fin x).id, .int .i64 mm] W fun e w' => e = .returned (.int .u64 (lgQ fin L.reverse[k]).1) ∧ Below W.heap.size W w') := fun k hk mm W hW h1 h2 => legHangs f sb X' K rv R Y C dp fin W (HS.out.1.below (H5.out.trans (hW.mono H5.out.size))) HS.out.2.1 x HX.out.1 L HP5.out.1 HP5.out.2.1 k hk mm h1 h2
      have HTQ : Hid (TilQ (L.reverse.map (lgQ fin)) (fin x).fr (fin x).til) := HS.out.2.1.tilQ HX.out.1 HP5.out.1 HP5.out.2.1
      obtain ⟨q, hq⟩ : ∃ q, L.length = q := ⟨_, rfl⟩
      have hq1 : (q : Int) ≤ 2000 := by have := HP5.out.2.1; omega
      have HQ : Hid (L.length = q) := hq
      rw [hq] at T1 ⊢
      clear hq hk5 TL
      go_wp2_with (go_at_call 9; (with_reducible refine T1.mono ?_); clear T1; rintro e w6 ⟨rfl, hb6⟩; have HB6 : Hid (Below w5.heap.size w5 w6) := hb6; clear hb6)
      go_loopw [14] (fun z wq => ∃ k : Nat, z = .int .i64 k ∧ k ≤ q ∧ Hid (Below w5.heap.size w5 wq)) (fun z _ => q - (intOf z).toNat)
      case atStart => exact ⟨0, rfl, by omega, HB6⟩
      case round =>
        obtain ⟨k, rfl, hkq, HBQ⟩ := hrel
        by_cases hk2 : k < q
        · have hin2 : (k : Int) < (q : Int) := by omega
          have hkL : k < L.reverse.length := by rw [List.length_reverse, HQ.out]; exact hk2
          obtain ⟨g, rfl, hgl, hcl⟩ := HLQ.out w5 (Below.refl _ _) (fun e => by have := congrArg List.length e; simp at this; simp [this] at hkL)
          have A1 := fun W hW => HAL.out k hkL W hW
          have G1 := fun mm W hW => HHG.out k hkL mm W hW
          have hab := (HTQ.out.each k (by simpa using hkL)).2
          rw [List.getElem_map] at hab
          have hbd : 0 ≤ (lgQ fin L.reverse[k]).2.1 ∧ (lgQ fin L.reverse[k]).2.2 ≤ 4611686018427387904 := by
            obtain ⟨t, lg⟩ := HS.out.2.1.legs HX.out.1 HP5.out.1
            obtain ⟨_, _, f3⟩ := lg k hkL _ (tile_key (fin := fin) t k (by omega))
            have := HS.out.2.1.inn (dp L.reverse[k].1) L.reverse[k].1 rfl f3.yY
            have h1 := f3.fr
            have h2 := f3.til
            unfold lgQ
            simp only
            omega
          have CE : Hid (∀ W, Below w5.heap.size w5 W → W.cell? ⟨g, k * 3, none⟩ = some (.int .u64 (lgQ fin L.reverse[k]).1) ∧ W.cell? ⟨g, k * 3 + 1, none⟩ = some (.int .i64 (lgQ fin L.reverse[k]).2.1) ∧ W.cell? ⟨g, k * 3 + 2, none⟩ = some (.int .i64 (lgQ fin L.reverse[k]).2.2) ∧ W.cell? ⟨rc, i, none⟩ = some (.int .u64 (fin x).id)) := fun W hW => by
            have hc : ∀ j, W.cell? ⟨g, j, none⟩ = w5.cell? ⟨g, j, none⟩ := fun j => hW.cell (p := ⟨g, j, none⟩) hgl
            have e := hcl k (by simpa using hkL)
            simp only [List.getElem_map] at e
            exact ⟨(hc _).trans (e 0 _ rfl), (hc _).trans (e 1 _ rfl), (hc _).trans (e 2 _ rfl), HCX.out W (H5.out.trans (hW.mono H5.out.size))⟩
          obtain ⟨⟨la, lb, lc⟩, hlg⟩ : ∃ l, lgQ fin L.reverse[k] = l := ⟨_, rfl⟩
          rw [hlg] at hab hbd CE
          simp only [hlg] at A1 G1
          simp only at hab hbd CE A1 G1
          have HA1 : Hid _ := A1
          have HG1 : Hid _ := G1
          have hwp : IntKind.i64.wrap (lc - 1) = lc - 1 := by simp [IntKind.wrap, IntKind.bits, IntKind.signed]; omega
          have KP : ∀ W, Below wr.heap.size wr W → W.cell? ⟨g, k * 3, none⟩ = some (.int .u64 la) ∧ W.cell? ⟨g, k * 3 + 1, none⟩ = some (.int .i64 lb) ∧ W.cell? ⟨g, k * 3 + 2, none⟩ = some (.int .i64 lc) ∧ W.cell? ⟨rc, i, none⟩ = some (.int .u64 (fin x).id) := fun W hW => CE.out W (HBQ.out.trans (hW.mono HBQ.out.size))
          have AL := HA1.out wr.drew (HBQ.out.trans (Below.refl _ _).drew)
          have BR : Below wr.heap.size wr wr.drew := (Below.refl _ _).drew
          have nb : (la != la) = false := by simp
          clear hlg A1 G1 hcl hgl
          go_upto_region 16 with fail
          go_region_held3 (fun W => W.cell? ⟨g, k * 3, none⟩ = some (.int .u64 la) ∧ W.cell? ⟨g, k * 3 + 1, none⟩ = some (.int .i64 lb) ∧ W.cell? ⟨g, k * 3 + 2, none⟩ = some (.int .i64 lc) ∧ W.cell? ⟨rc, i, none⟩ = some (.int .u64 (fin x).id)) (first | exact KP _ BR | exact KP _ (BR.trans (B7.mono BR.size)) | exact KP _ (BR.trans (B8.mono BR.size)) | exact KP _ (BR.trans (B9.mono BR.size))) (first
            | (go_at_call 10; refine AL.mono ?_; clear AL; rintro e w7 ⟨rfl, b7⟩; have B7 : Below wr.drew.heap.size wr.drew w7 := b7; have HG := HG1.out lb w7 (HBQ.out.trans ((BR.trans (B7.mono BR.size)).mono HBQ.out.size)) (by omega) (by omega); clear b7)
            | (go_at_call 11; refine HG.mono ?_; clear HG; rintro e w8 ⟨rfl, b8⟩; have B8 : Below wr.drew.heap.size wr.drew w8 := B7.trans (b8.mono B7.size); have HG' := HG1.out (lc - 1) w8 (HBQ.out.trans ((BR.trans (B8.mono BR.size)).mono HBQ.out.size)) (by omega) (by omega); clear b8)
            | (go_at_call 11; refine HG'.mono ?_; clear HG'; rintro e w9 ⟨rfl, b9⟩; have B9 : Below wr.drew.heap.size wr.drew w9 := B8.trans (b9.mono B8.size); clear b9))
          clear KP CE
          have HB9 : Hid (Below w5.heap.size w5 w9) := HBQ.out.trans ((BR.trans (B9.mono BR.size)).mono HBQ.out.size)
          clear B7 B8 B9 BR
          go_wp2
          go_roundw
          case rel => exact ⟨k + 1, by go_num, by omega, HB9⟩
          case measure => (simp [intOf]; omega)
        · obtain rfl : q = k := by omega
          have hk6 := HK5.out.below HBQ.out HK5.out.lt
          have e0 := hk6.cell 0 rfl
          have e1 := hk6.cell 1 rfl
          have H6 : Hid (Below w3.heap.size w3 wr) := H5.out.trans (HBQ.out.mono H5.out.size)
          have cr6 := HCX.out wr H6.out
          by_cases a1 : (fin x).fr ≤ at_
          · by_cases a2 : at_ < (fin x).til
            · obtain ⟨o, OW, HG⟩ := ownHangs f sb X' K rv R Y C dp fin HS.out.2.1 x HX.out.1 HX.out.2.2 L HP5.out.1 HP5.out.2.1 at_ a1 a2
              have O1 := OW wr (HS.out.1.below H6.out)
              have HHG6 : Hid _ := HG
              clear OW HG hk6 HAL HHG HTQ HLQ HK5 HP5 HBQ
              have nb : (o != o) = false := by simp
              go_upto_region 20 with (go_at_call 12; (with_reducible refine O1.mono ?_); clear O1; rintro e w7 ⟨rfl, hb7⟩; have H7 : Hid (Below w3.heap.size w3 w7) := H6.out.trans (hb7.mono H6.out.size); have cr7 := HCX.out w7 H7.out; have G7 := HHG6.out w7 (HS.out.1.below H7.out); clear hb7)
              go_wp2_with (go_at_call 11; (with_reducible refine G7.mono ?_); clear G7; rintro e w8 ⟨rfl, hb8⟩; have H8 : Hid (Below w3.heap.size w3 w8) := H7.out.trans (hb8.mono H7.out.size); clear hb8)
              go_roundw
              case rel => exact ⟨i + 1, by go_num, by omega, H8⟩
              case measure => (simp [intOf]; omega)
            · clear hk6 HAL HHG HTQ HLQ HK5 HP5 HBQ
              go_wp2
              go_roundw
              case rel => exact ⟨i + 1, by go_num, by omega, H6⟩
              case measure => (simp [intOf]; omega)
          · clear hk6 HAL HHG HTQ HLQ HK5 HP5 HBQ
            go_wp2
            go_roundw
            case rel => exact ⟨i + 1, by go_num, by omega, H6⟩
            case measure => (simp [intOf]; omega)
    · obtain rfl : m = i := by omega
      have HEN : Hid (Below w.heap.size w wr) := HS.out.2.2.2.trans (HBR.out.mono HS.out.2.2.2.size)
      clear HS HM HBR
      go_wp2
      go_ret
      exact ⟨rfl, HEN.out⟩
end Go.Proofs.YtmpmpoclkgofeaaGreatDoor
