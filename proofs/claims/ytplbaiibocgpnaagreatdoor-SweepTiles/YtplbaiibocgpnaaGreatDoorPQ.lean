/-
  PQ.
-/
import Derived.Test.YtplbaiibocgpnaaGreatDoorMb00
import Derived.Test.YtplbaiibocgpnaaGreatDoorMb01
namespace Go.Proofs.YtplbaiibocgpnaaGreatDoor
open Go Go.RowKit
set_option maxRecDepth 100000

theorem one_perm {X Y : List Sp} (h : OneT X) (hp : X.Perm Y) : OneT Y :=
  ⟨by rw [← hp.length_eq]; exact h.len, fun a ha => h.chk a (hp.mem_iff.2 ha), fun a ha => h.fits a (hp.mem_iff.2 ha), fun a ha => h.small a (hp.mem_iff.2 ha), fun a ha b hb => h.tr a (hp.mem_iff.2 ha) b (hp.mem_iff.2 hb), (hp.map _).nodup_iff.1 h.ids⟩
theorem buildT (ad : Option Addr) (n cap : Nat) (X : List Sp) (P : Nat → Pl) (w w1 : World) (hb : Below w.heap.size w w1) (hX : SpsAt w ad n X P) (hF : ∀ a ∈ X, a.Fits) (hS : ∀ a ∈ X, a.Small) (hT : Tabs w) :
    Calls Tryz.prog 6 #[.slice ad n cap] w1 fun e w' => (∃ f sb Y X' K rv R C dp fin, e = .returned (.tuple #[.pointer (some ⟨f, 0, none⟩), .int .i64 0]) ∧ ForestAt w' f sb X' K rv R ∧ FoB Y C dp fin X' K R ∧ Below w.heap.size w w') ∨ (e = .returned (.tuple #[.pointer none, .int .i64 101]) ∧ Below w.heap.size w w') := by
  refine (build_total ad n cap X P w1 (hX.below hb) hF hS (hT.below hb)).mono ?_
  rintro e w' (⟨h1, Y, hp, hr, f, sb, X', K, rv, R, C, dp, fin, rfl, h2, _, h4, h5, h6⟩ | ⟨_, rfl, h3⟩)
  · exact Or.inl ⟨f, sb, Y, X', K, rv, R, C, dp, fin, rfl, h2, ⟨h5, h4, h2.rise, one_perm h1 hp⟩, hb.trans (h6.mono hb.size)⟩
  · exact Or.inr ⟨rfl, hb.trans (h3.mono hb.size)⟩
set_option maxHeartbeats 8000000 in
theorem sweepTiles_any (ad : Option Addr) (n cap : Nat) (X : List Sp) (P : Nat → Pl) (w : World) (hX : SpsAt w ad n X P) (hF : ∀ a ∈ X, a.Fits) (hS : ∀ a ∈ X, a.Small) (hT : Tabs w) :
    Calls Tryz.prog 4 #[.slice ad n cap] w fun e w' => e = .returned (.bool true) ∧ Below w.heap.size w w' := by
  have SH := aliveW_any w hT
  have BD : Hid (∀ w1, Below w.heap.size w w1 → Calls Tryz.prog 6 #[.slice ad n cap] w1 fun e w' => (∃ f sb Y X' K rv R C dp fin, e = .returned (.tuple #[.pointer (some ⟨f, 0, none⟩), .int .i64 0]) ∧ ForestAt w' f sb X' K rv R ∧ FoB Y C dp fin X' K R ∧ Below w.heap.size w w') ∨ (e = .returned (.tuple #[.pointer none, .int .i64 101]) ∧ Below w.heap.size w w')) := fun w1 hb => buildT ad n cap X P w w1 hb hX hF hS hT
  clear hX hF hS hT
  go_enter Tryz.func4, Tryz.ntmps4
  go_wp2_with (first
    | (go_at_call 5; refine SH.mono ?_; clear SH; rintro e w1 ⟨rfl, hb⟩; have B1 := BD.out w1 hb; clear hb BD)
    | (go_at_call 6; refine B1.mono ?_; clear B1; rintro e w2 (⟨f, sb, Y, X', K, rv, R, C, dp, fin, rfl, h1, h2, h3⟩ | ⟨rfl, h3⟩))
    | (go_at_call 7; refine (roots_any f sb X' K rv R w2 h1).mono ?_; rintro e w3 ⟨rc, rfl, hrc, hrl, hb3⟩))
  · have hF3 := h1.below hb3
    have HS : Hid (ForestAt w3 f sb X' K rv R ∧ FoB Y C dp fin X' K R ∧ Blk w3 rc (fillC .u64 (idsOf X' R) 0) 31 ∧ Below w.heap.size w w3) := ⟨hF3, h2, hrc, h3.trans (hb3.mono h3.size)⟩
    obtain ⟨m, hm⟩ : ∃ m, R.length = m := ⟨_, rfl⟩
    have hm1 : (m : Int) ≤ 1000 := by
      have q1 := h2.fo.roots.1.length_eq
      have q2 := kidsF_len (cutN C (nmOf (zs Y))) Y.length (-1)
      have q3 := h2.one.len
      omega
    have HM : Hid (R.length = m) := hm
    rw [hm]
    clear h1 h2 h3 hrc hrl hb3 hF3 hm
    go_loopw [7] (fun z wr => ∃ i : Nat, z = .int .i64 i ∧ i ≤ m ∧ Below w3.heap.size w3 wr) (fun z _ => m - (intOf z).toNat)
    case atStart => exact ⟨0, rfl, by omega, Below.refl _ _⟩
    case round =>
      obtain ⟨i, rfl, him, hbr⟩ := hrel
      obtain ⟨hF3, hB, hrc, hbw⟩ := HS.out
      by_cases hlt : i < m
      · obtain ⟨x, hx, hox, htx, hcx⟩ := hB.idsR i (by rw [HM.out]; exact hlt)
        have cr : wr.cell? ⟨rc, i, none⟩ = some (.int .u64 (fin x).id) := hcx wr rc (hrc.below hbr hrc.lt)
        have hin' : (i : Int) < (m : Int) := by omega
        have hFr := hF3.below hbr
        have SV := hB.senv x hx
        have N1 := node_at hFr x SV.xX (fin x).id (by rw [SV.nd x SV.xX])
        rw [SV.nd x SV.xX] at N1
        unfold ndV at N1
        have PT : Hid (∀ w4, Below w3.heap.size w3 w4 → Calls Tryz.prog 9 #[.pointer (some ⟨f, 0, none⟩), .int .u64 (fin x).id] w4 fun e W' => ∃ ad cap L, e = .returned (.tuple #[.slice ad L.length cap, .int .i64 0]) ∧ PathT w4 W' (spAt Y) fin (cnK fin K) x ad L) := fun w4 hb => path_any f sb X' K rv R (spAt Y) fin (knK K) (cnK fin K) 1001 x w4 (hF3.below hb) SV hox
        have HBR : Hid (Below w3.heap.size w3 wr) := hbr
        have HX : Hid (x < Y.length ∧ (fin x).tree = (fin x).id) := ⟨hx, htx⟩
        have HCX : Hid (∀ w4, Below w3.heap.size w3 w4 → w4.cell? ⟨rc, i, none⟩ = some (.int .u64 (fin x).id)) := fun w4 hb => hcx w4 rc (hrc.below hb hrc.lt)
        obtain ⟨id, hid⟩ : ∃ id, (fin x).id = id := ⟨_, rfl⟩
        rw [hid] at N1 PT cr HCX
        have HID : Hid ((fin x).id = id) := hid
        clear hF3 hB hrc hbw hx hox htx hcx hbr hFr SV hid
        go_upto_region 14 with (first
          | (go_at_call 8; refine N1.mono ?_; clear N1; rintro e w4 ⟨rfl, hb4⟩; have H4 : Hid (∀ o, Below w3.heap.size w3 (w4.alloc o)) := (fun o => (HBR.out.trans (hb4.mono HBR.out.size)).alloc (by have := HBR.out.size; have := hb4.size; omega) o); have cr4 := fun (o : Obj) => HCX.out _ (H4.out o); clear hb4)
          | (go_at_call 9; refine (PT.out _ (H4.out _)).mono ?_; clear PT; rintro e w5 ⟨ad5, cap5, L, rfl, hP5⟩; have e5 : w5.cell? ⟨w4.heap.size, 5, none⟩ = some (.int .i64 (fin x).fr) := (Blk.below (Blk.new _ _ _) hP5.2.2.2 (by rw [World.size_alloc]; omega)).cell 5 rfl; have HR5 : Hid (∀ wq, Below w5.heap.size w5 wq → wq.cell? ⟨w4.heap.size, 5 + 1, none⟩ = some (.int .i64 (fin x).til) ∧ wq.cell? ⟨rc, i, none⟩ = some (.int .u64 id) ∧ Below w3.heap.size w3 wq) := (fun wq hb => ⟨(Blk.below (Blk.below (Blk.new _ _ _) hP5.2.2.2 (by rw [World.size_alloc]; omega)) hb (Blk.lt (Blk.below (Blk.new _ _ _) hP5.2.2.2 (by rw [World.size_alloc]; omega)))).cell 6 rfl, HCX.out wq (((H4.out _).trans (hP5.2.2.2.mono (H4.out _).size)).trans (hb.mono (Nat.le_trans (H4.out _).size hP5.2.2.2.size))), ((H4.out _).trans (hP5.2.2.2.mono (H4.out _).size)).trans (hb.mono (Nat.le_trans (H4.out _).size hP5.2.2.2.size))⟩); have HP5 : Hid (PathR fin (cnK fin K) x (fin x).til L ∧ L.length ≤ 2000 ∧ (L ≠ [] → ∃ g, ad5 = some ⟨g, 0, none⟩ ∧ g < w5.heap.size ∧ LegsIn w5 g ((L.map (legX (spAt Y))).reverse))) := ⟨hP5.1, hP5.2.1, hP5.2.2.1⟩; clear hP5))
        obtain ⟨q, hq⟩ : ∃ q, L.length = q := ⟨_, rfl⟩
        have hq1 : (q : Int) ≤ 2000 := by have := HP5.out.2.1; omega
        have LEG : Hid (∀ (k : Nat) (at_ : Int) (wq : World), k < q → Below w5.heap.size w5 wq → TileF (fin x).til at_ (L.reverse.drop k) → ∃ (g y : Nat) (b : Int), ad5 = some ⟨g, 0, none⟩ ∧ wq.cell? ⟨g, k * 3, none⟩ = some (.int .u64 (fin y).id) ∧ wq.cell? ⟨g, k * 3 + 1, none⟩ = some (.int .i64 at_) ∧ wq.cell? ⟨g, k * 3 + 2, none⟩ = some (.int .i64 b) ∧ TileF (fin x).til b (L.reverse.drop (k + 1)) ∧ at_ < b ∧ (fin y).fr ≤ at_ ∧ b ≤ (fin y).til ∧ (∀ k', k = k' + 1 → ∃ o : Int, wq.cell? ⟨g, k' * 3, none⟩ = some (.int .u64 o) ∧ o ≠ (fin y).id) ∧ g < w5.heap.size ∧ (∀ wz, Below w5.heap.size w5 wz → Calls Tryz.prog 8 #[.pointer (some ⟨f, 0, none⟩), .int .u64 (fin y).id] wz fun e w' => e = .returned (.tuple #[.agg #[.int .u64 (fin y).id, .int .u64 (fin y).par, .int .i64 (fin y).org, .int .u64 id, .int .i64 (fin y).dep, .int .i64 (fin y).fr, .int .i64 (fin y).til], .bool true]) ∧ Below wz.heap.size wz w') ∧ ∀ wz, Below w5.heap.size w5 wz → Calls Tryz.prog 10 #[.pointer (some ⟨f, 0, none⟩), .agg #[.int .u64 (fin y).id, .int .i64 at_, .int .i64 b]] wz fun e w' => e = .returned (.bool true) ∧ Below wz.heap.size wz w') := fun k at_ wq hk hbq hT => by
          obtain ⟨hP, _, hLg⟩ := HP5.out
          obtain ⟨hF3, hB, hrc, hbw⟩ := HS.out
          have hL : L ≠ [] := fun e => by rw [e] at hq; simp at hq; omega
          obtain ⟨g, hg, hgl, hLI⟩ := hLg hL
          have hk' : k < L.reverse.length := by rw [List.length_reverse]; omega
          obtain ⟨f1, f2, f3⟩ := (hB.legs HX.out.1 hP).2 k hk' at_ hT
          have hLq := legsIn_below hLI hbq hgl
          have cells : ∀ j (hj : j < L.reverse.length), wq.cell? ⟨g, j * 3, none⟩ = some (.int .u64 (spAt Y L.reverse[j].1).id) ∧ wq.cell? ⟨g, j * 3 + 1, none⟩ = some (.int .i64 L.reverse[j].2.1) ∧ wq.cell? ⟨g, j * 3 + 2, none⟩ = some (.int .i64 L.reverse[j].2.2) := fun j hj => by
            have := hLq j (by simpa using hj)
            have e : (L.map (legX (spAt Y))).reverse[j]'(by simpa using hj) = legX (spAt Y) L.reverse[j] := by
              simp only [← List.map_reverse, List.getElem_map]
            rw [e] at this
            exact this
          obtain ⟨q1, q2, q3⟩ := cells k hk'
          have w3q : ∀ wz, Below w5.heap.size w5 wz → Below w3.heap.size w3 wz := fun wz hb => (HR5.out wz hb).2.2
          have SV := hB.senv L.reverse[k].1 f3.yY
          refine ⟨g, L.reverse[k].1, L.reverse[k].2.2, hg, by rw [q1, hB.ids _ f3.yY], by rw [q2, f1], q3, f2, by rw [← f1]; exact f3.ab, by rw [← f1]; exact f3.fr, f3.til, fun k' hk1 => ?_, hgl, fun wz hb => ?_, fun wz hb => ?_⟩
          · subst hk1
            refine ⟨(spAt Y L.reverse[k'].1).id, (cells k' (by omega)).1, ?_⟩
            have hyk : L.reverse[k'].1 < Y.length := (hB.bel (hP.bel _ (List.mem_reverse.1 (List.getElem_mem (by omega)))) HX.out.1).1
            rw [hB.ids _ hyk]
            exact f3.adj (by omega) (by omega)
          · have := node_at (hF3.below (w3q wz hb)) L.reverse[k].1 SV.xX (fin L.reverse[k].1).id (by rw [SV.nd _ SV.xX])
            rw [SV.nd _ SV.xX] at this
            unfold ndV at this
            rw [f3.tree, HX.out.2, HID.out] at this
            exact this
          · have kn := SV.kn L.reverse[k].1 SV.xX
            have := free_any f sb X' K rv R fin (knK K) wz (hF3.below (w3q wz hb)) SV.nd L.reverse[k].1 SV.xX kn.1 kn.2.1 kn.2.2 L.reverse[k].2.1 L.reverse[k].2.2 f3.free
            rw [f1] at this
            exact this
        have HT0 : Hid (TileF (fin x).til (fin x).fr (L.reverse.drop 0)) := (HS.out.2.1.legs HX.out.1 HP5.out.1).1
        have HEND : Hid (∀ at_, TileF (fin x).til at_ (L.reverse.drop q) → at_ = (fin x).til) := fun at_ h => by
          rw [List.drop_of_length_le (by rw [List.length_reverse]; omega)] at h
          exact h
        rw [hq]
        clear hq HP5 HX HID HCX cr4 cr HBR H4
        go_wp2
        go_loopw [12, 13] (fun z12 z13 wq => ∃ (k : Nat) (at_ : Int), z13 = .int .i64 k ∧ z12 = .int .i64 at_ ∧ k ≤ q ∧ TileF (fin x).til at_ (L.reverse.drop k) ∧ Below w5.heap.size w5 wq) (fun _ z13 _ => q - (intOf z13).toNat)
        case atStart => exact ⟨0, _, rfl, rfl, by omega, HT0.out, Below.refl _ _⟩
        case round =>
          obtain ⟨k, at_, rfl, rfl, hkq, hT, hbq⟩ := hrel
          have HWQ : Hid (Below w5.heap.size w5 wr) := hbq
          have HTT : Hid (TileF (fin x).til at_ (L.reverse.drop k)) := hT
          obtain ⟨r1, r2, _⟩ := HR5.out wr hbq
          by_cases hlt2 : k < q
          · obtain ⟨g, y, b, rfl, l0, l1, l2, hT2, hab, hfy, hty, hadj, hgl, NC, FC⟩ := LEG.out k at_ wr hlt2 hbq hT
            have hin2 : (k : Int) < (q : Int) := by omega
            have d1 : decide (b ≤ at_) = false := decide_eq_false (by omega)
            have d2 : decide (at_ < (fin y).fr) = false := decide_eq_false (by omega)
            have d3 : decide ((fin y).til < b) = false := decide_eq_false (by omega)
            have HK : Hid (k < q ∧ TileF (fin x).til b (L.reverse.drop (k + 1))) := ⟨hlt2, hT2⟩
            have HFC : Hid (∀ wz, Below w5.heap.size w5 wz → Calls Tryz.prog 10 #[.pointer (some ⟨f, 0, none⟩), .agg #[.int .u64 (fin y).id, .int .i64 at_, .int .i64 b]] wz fun e w' => e = .returned (.bool true) ∧ Below wz.heap.size wz w') := FC
            have HADJ : Hid (∀ k', k = k' + 1 → ∃ o : Int, wr.cell? ⟨g, k' * 3, none⟩ = some (.int .u64 o) ∧ o ≠ (fin y).id) := hadj
            have HL : Hid (∀ V, Below wr.heap.size wr V → (V.cell? ⟨g, k * 3, none⟩ = some (.int .u64 (fin y).id) ∧ V.cell? ⟨g, k * 3 + 1, none⟩ = some (.int .i64 at_) ∧ V.cell? ⟨g, k * 3 + 2, none⟩ = some (.int .i64 b) ∧ V.cell? ⟨rc, i, none⟩ = some (.int .u64 id)) ∧ ∀ k' o, k = k' + 1 → wr.cell? ⟨g, k' * 3, none⟩ = some (.int .u64 o) → V.cell? ⟨g, k' * 3, none⟩ = some (.int .u64 o)) := fun V hb => by
              have hc : ∀ j, V.cell? ⟨g, j, none⟩ = wr.cell? ⟨g, j, none⟩ := fun j => hb.cell (p := ⟨g, j, none⟩) (by have := hbq.size; show g < wr.heap.size; omega)
              exact ⟨⟨by rw [hc]; exact l0, by rw [hc]; exact l1, by rw [hc]; exact l2, (hb.cell (p := ⟨rc, i, none⟩) (World.block_lt_of_cell? wr _ r2)).trans r2⟩, fun k' o _ ho => by rw [hc]; exact ho⟩
            clear hT hbq LEG HEND HT0 HTT hkq hlt2 hT2 hab hfy hty hadj hgl FC HR5
            obtain ⟨idy, hidy⟩ : ∃ v, (fin y).id = v := ⟨_, rfl⟩
            rw [hidy] at NC HFC HADJ HL l0
            clear hidy
            go_upto_region 18 with (go_at_call 8; refine (NC wr HWQ.out).mono ?_; clear NC; rintro e w6 ⟨rfl, hb6⟩; have H6 : Hid (∀ o, Below wr.heap.size wr (w6.alloc o)) := (fun o => hb6.alloc hb6.size o); clear hb6)
            obtain ⟨V, hV⟩ : ∃ V, w6.alloc (.cells #[.int .u64 idy, .int .u64 (fin y).par, .int .i64 (fin y).org, .int .u64 id, .int .i64 (fin y).dep, .int .i64 (fin y).fr, .int .i64 (fin y).til] 36) = V := ⟨_, rfl⟩
            have hbV : Below wr.heap.size wr V := by rw [← hV]; exact H6.out _
            have nV : Blk V w6.heap.size #[.int .u64 idy, .int .u64 (fin y).par, .int .i64 (fin y).org, .int .u64 id, .int .i64 (fin y).dep, .int .i64 (fin y).fr, .int .i64 (fin y).til] 36 := by rw [← hV]; exact Blk.new _ _ _
            obtain ⟨⟨v0, v1, v2, v3⟩, _⟩ := HL.out V hbV
            have n3 : V.cell? ⟨w6.heap.size, 3, none⟩ = some (.int .u64 id) := nV.cell 3 rfl
            have n5 : V.cell? ⟨w6.heap.size, 5, none⟩ = some (.int .i64 (fin y).fr) := nV.cell 5 rfl
            have n6 : V.cell? ⟨w6.heap.size, 5 + 1, none⟩ = some (.int .i64 (fin y).til) := nV.cell 6 rfl
            have HVB : Hid (Below wr.heap.size wr V) := hbV
            rw [hV]
            clear hV hbV nV H6 l0 l1 l2 r1 r2
            go_quiet (fail)
            go_upto_region 20 with fail
            obtain ⟨V7, hV7⟩ : ∃ W, V.drewN nq = W := ⟨_, rfl⟩
            have HB7 : Hid (Below w5.heap.size w5 V7) := by
              have h1 : Below wr.heap.size wr V7 := by rw [← hV7]; exact below_drewN HVB.out nq
              exact HWQ.out.trans (h1.mono HWQ.out.size)
            have HB7r : Hid (Below wr.heap.size wr V7) := by rw [← hV7]; exact below_drewN HVB.out nq
            rw [hV7]
            clear hV7 v0 v1 v2 v3 n3 n5 n6 HVB d1 d2 d3
            rcases Nat.eq_zero_or_pos k with hk0 | hk0
            · have d0 : decide ((0 : Int) < (k : Int)) = false := decide_eq_false (by omega)
              have HKEEP : Hid (∀ W, Below V7.heap.size V7 W → W.cell? ⟨g, k * 3, none⟩ = some (.int .u64 idy) ∧ W.cell? ⟨g, k * 3 + 1, none⟩ = some (.int .i64 at_) ∧ W.cell? ⟨g, k * 3 + 2, none⟩ = some (.int .i64 b) ∧ True) := fun W hb => by
                obtain ⟨⟨z0, z1, z2, _⟩, _⟩ := HL.out W (HB7r.out.trans (hb.mono HB7r.out.size))
                exact ⟨z0, z1, z2, trivial⟩
              have HK0 : Hid (k = 0) := hk0
              clear hk0 HADJ HL
              refine wp_region_held (S := fun W => W.cell? ⟨g, k * 3, none⟩ = some (.int .u64 idy) ∧ W.cell? ⟨g, k * 3 + 1, none⟩ = some (.int .i64 at_) ∧ W.cell? ⟨g, k * 3 + 2, none⟩ = some (.int .i64 b) ∧ True) (by kernel_rfl) ?_
              change wpAnyH _ _ _ _ _ _ _ _ (World.drew _)
              have hS := HKEEP.out V7.drew ((Below.refl _ _).drew)
              refine takeH (i := 0) (v := .int .i64 (k : Int)) rfl (by kernel_rfl) (by kernel_rfl) (by kernel_rfl) (fun _ _ _ h => h) (Or.inl ⟨by rfl, fun W hW => by go_simp⟩) hS ?_
              simp only [Act.put, List.setIfInBounds_toArray, List.set_cons_zero, List.set_cons_succ]
              refine takeH (i := 1) (v := .bool false) rfl (by kernel_rfl) (by kernel_rfl) (by kernel_rfl) (fun _ _ _ h => h) (Or.inl ⟨by rfl, fun W hW => by go_simp; exact HK0.out⟩) hS ?_
              simp only [Act.put, List.setIfInBounds_toArray, List.set_cons_zero, List.set_cons_succ]
              refine takeH (i := 2) (v := .bool false) rfl (by kernel_rfl) (by kernel_rfl) (by kernel_rfl) (fun _ _ _ h => h) (Or.inl ⟨by rfl, fun W hW => by go_simp⟩) hS ?_
              simp only [Act.put, List.setIfInBounds_toArray, List.set_cons_zero, List.set_cons_succ]
              refine takeH (i := 3) (v := undef) rfl (by kernel_rfl) (by kernel_rfl) (by kernel_rfl) (fun _ _ _ h => h) (Or.inr ⟨by rfl, rfl⟩) hS ?_
              simp only [Act.put, List.setIfInBounds_toArray, List.set_cons_zero, List.set_cons_succ]
              refine takeH (i := 4) (v := undef) rfl (by kernel_rfl) (by kernel_rfl) (by kernel_rfl) (fun _ _ _ h => h) (Or.inr ⟨by rfl, rfl⟩) hS ?_
              simp only [Act.put, List.setIfInBounds_toArray, List.set_cons_zero, List.set_cons_succ]
              refine takeH (i := 5) (v := undef) rfl (by kernel_rfl) (by kernel_rfl) (by kernel_rfl) (fun _ _ _ h => h) (Or.inr ⟨by rfl, rfl⟩) hS ?_
              simp only [Act.put, List.setIfInBounds_toArray, List.set_cons_zero, List.set_cons_succ]
              refine takeH (i := 6) (v := undef) rfl (by kernel_rfl) (by kernel_rfl) (by kernel_rfl) (fun _ _ _ h => h) (Or.inr ⟨by rfl, rfl⟩) hS ?_
              simp only [Act.put, List.setIfInBounds_toArray, List.set_cons_zero, List.set_cons_succ]
              refine takeH (i := 7) (v := undef) rfl (by kernel_rfl) (by kernel_rfl) (by kernel_rfl) (fun _ _ _ h => h) (Or.inr ⟨by rfl, rfl⟩) hS ?_
              simp only [Act.put, List.setIfInBounds_toArray, List.set_cons_zero, List.set_cons_succ]
              refine takeH (i := 8) (v := undef) rfl (by kernel_rfl) (by kernel_rfl) (by kernel_rfl) (fun _ _ _ h => h) (Or.inr ⟨by rfl, rfl⟩) hS ?_
              simp only [Act.put, List.setIfInBounds_toArray, List.set_cons_zero, List.set_cons_succ]
              refine takeH (i := 9) (v := undef) rfl (by kernel_rfl) (by kernel_rfl) (by kernel_rfl) (fun _ _ _ h => h) (Or.inr ⟨by rfl, rfl⟩) hS ?_
              simp only [Act.put, List.setIfInBounds_toArray, List.set_cons_zero, List.set_cons_succ]
              refine takeH (i := 10) (v := undef) rfl (by kernel_rfl) (by kernel_rfl) (by kernel_rfl) (fun _ _ _ h => h) (Or.inr ⟨by rfl, rfl⟩) hS ?_
              simp only [Act.put, List.setIfInBounds_toArray, List.set_cons_zero, List.set_cons_succ]
              refine takeH (i := 11) (v := undef) rfl (by kernel_rfl) (by kernel_rfl) (by kernel_rfl) (fun _ _ _ h => h) (Or.inr ⟨by rfl, rfl⟩) hS ?_
              simp only [Act.put, List.setIfInBounds_toArray, List.set_cons_zero, List.set_cons_succ]
              refine takeH (i := 12) (v := undef) rfl (by kernel_rfl) (by kernel_rfl) (by kernel_rfl) (fun _ _ _ h => h) (Or.inr ⟨by rfl, rfl⟩) hS ?_
              simp only [Act.put, List.setIfInBounds_toArray, List.set_cons_zero, List.set_cons_succ]
              refine takeH (i := 13) (v := undef) rfl (by kernel_rfl) (by kernel_rfl) (by kernel_rfl) (fun _ _ _ h => h) (Or.inr ⟨by rfl, rfl⟩) hS ?_
              simp only [Act.put, List.setIfInBounds_toArray, List.set_cons_zero, List.set_cons_succ]
              refine takeH (i := 14) (v := undef) rfl (by kernel_rfl) (by kernel_rfl) (by kernel_rfl) (fun _ _ _ h => h) (Or.inr ⟨by rfl, rfl⟩) hS ?_
              simp only [Act.put, List.setIfInBounds_toArray, List.set_cons_zero, List.set_cons_succ]
              refine takeH (i := 15) (v := .bool false) rfl (by kernel_rfl) (by kernel_rfl) (by kernel_rfl) (fun _ _ _ h => h) (Or.inl ⟨by rfl, fun W hW => by go_simp⟩) hS ?_
              simp only [Act.put, List.setIfInBounds_toArray, List.set_cons_zero, List.set_cons_succ]
              refine takeH (i := 16) (v := .bool false) rfl (by kernel_rfl) (by kernel_rfl) (by kernel_rfl) (fun _ _ _ h => h) (Or.inl ⟨by rfl, fun W hW => by go_simp⟩) hS ?_
              simp only [Act.put, List.setIfInBounds_toArray, List.set_cons_zero, List.set_cons_succ]
              refine takeH (i := 17) (v := .pointer (some ⟨f, 0, none⟩)) rfl (by kernel_rfl) (by kernel_rfl) (by kernel_rfl) (fun _ _ _ h => h) (Or.inl ⟨by rfl, fun W hW => by go_simp⟩) hS ?_
              simp only [Act.put, List.setIfInBounds_toArray, List.set_cons_zero, List.set_cons_succ]
              refine takeH (i := 18) (v := .slice (some ⟨g, 0, none⟩) q cap5) rfl (by kernel_rfl) (by kernel_rfl) (by kernel_rfl) (fun _ _ _ h => h) (Or.inl ⟨by rfl, fun W hW => by go_simp⟩) hS ?_
              simp only [Act.put, List.setIfInBounds_toArray, List.set_cons_zero, List.set_cons_succ]
              refine takeH (i := 19) (v := .int .i64 (k : Int)) rfl (by kernel_rfl) (by kernel_rfl) (by kernel_rfl) (fun _ _ _ h => h) (Or.inl ⟨by rfl, fun W hW => by go_simp⟩) hS ?_
              simp only [Act.put, List.setIfInBounds_toArray, List.set_cons_zero, List.set_cons_succ]
              refine takeH (i := 20) (v := .pointer (some ⟨g, k * 3, none⟩)) rfl (by kernel_rfl) (by kernel_rfl) (by kernel_rfl) (fun _ _ _ h => h) (Or.inl ⟨by rfl, fun W hW => by go_simp⟩) hS ?_
              simp only [Act.put, List.setIfInBounds_toArray, List.set_cons_zero, List.set_cons_succ]
              refine takeH (i := 21) (v := .agg #[.int .u64 idy, .int .i64 at_, .int .i64 b]) rfl (by kernel_rfl) (by kernel_rfl) (by kernel_rfl) (fun _ _ _ h => h) (Or.inl ⟨by rfl, fun W hW => by obtain ⟨s0, s1, s2, -⟩ := hW; go_simp⟩) hS ?_
              simp only [Act.put, List.setIfInBounds_toArray, List.set_cons_zero, List.set_cons_succ]
              refine onlyH (i := 22) rfl (by kernel_rfl) (fun K hK => ?_)
              go_simp
              go_at_call 10
              (with_reducible refine (HFC.out V7.drew HB7.out.drew).mono ?_)
              clear hS
              rintro e w8 ⟨rfl, hb8'⟩
              have hb8 : Below V7.heap.size V7 w8 := ⟨hb8'.os, hb8'.tape, hb8'.output, hb8'.size, hb8'.block⟩
              have hS := HKEEP.out w8 hb8
              refine hK _ _ ⟨hS, ?_⟩
              clear hK K
              have HB8 : Hid (Below w5.heap.size w5 w8) := HB7.out.trans (hb8.mono HB7.out.size)
              refine takeH (i := 23) (v := .bool false) rfl (by kernel_rfl) (by kernel_rfl) (by kernel_rfl) (fun _ _ _ h => h) (Or.inl ⟨by rfl, fun W hW => by go_simp⟩) hS ?_
              simp only [Act.put, List.setIfInBounds_toArray, List.set_cons_zero, List.set_cons_succ]
              refine takeH (i := 24) (v := .bool false) rfl (by kernel_rfl) (by kernel_rfl) (by kernel_rfl) (fun _ _ _ h => h) (Or.inl ⟨by rfl, fun W hW => by go_simp⟩) hS ?_
              simp only [Act.put, List.setIfInBounds_toArray, List.set_cons_zero, List.set_cons_succ]
              refine wpAnyH_done (by kernel_rfl) ?_ _
              obtain ⟨s0, s1, s2, -⟩ := hS
              clear hb8 hb8' HKEEP
              go_wp2
              go_roundw
              case rel => exact ⟨k + 1, b, by simp, rfl, by have := HK.out.1; omega, HK.out.2, HB8.out⟩
              case measure => (have := HK.out.1; simp [intOf]; try omega)
            · obtain ⟨k', hk'⟩ : ∃ k', k = k' + 1 := ⟨k - 1, by omega⟩
              obtain ⟨o, ho1, ho⟩ := HADJ.out k' hk'
              have HK0 : Hid (0 < k) := hk0
              have hne : (o == idy) = false := by simp [ho]
              have HNE : Hid (¬ o = idy) := ho
              have hsub : (k : Int) - 1 = (k' : Int) := by omega
              have hwr : IntKind.i64.wrap (k' : Int) = (k' : Int) := by simp [IntKind.wrap, IntKind.bits, IntKind.signed]; omega
              have hin3 : (k' : Int) < (q : Int) := by omega
              have HKEEP : Hid (∀ W, Below V7.heap.size V7 W → W.cell? ⟨g, k * 3, none⟩ = some (.int .u64 idy) ∧ W.cell? ⟨g, k * 3 + 1, none⟩ = some (.int .i64 at_) ∧ W.cell? ⟨g, k * 3 + 2, none⟩ = some (.int .i64 b) ∧ W.cell? ⟨g, k' * 3, none⟩ = some (.int .u64 o)) := fun W hb => by
                obtain ⟨⟨z0, z1, z2, _⟩, z3⟩ := HL.out W (HB7r.out.trans (hb.mono HB7r.out.size))
                exact ⟨z0, z1, z2, z3 k' o hk' ho1⟩
              clear hk0 HADJ HL ho ho1 hk'
              refine wp_region_held (S := fun W => W.cell? ⟨g, k * 3, none⟩ = some (.int .u64 idy) ∧ W.cell? ⟨g, k * 3 + 1, none⟩ = some (.int .i64 at_) ∧ W.cell? ⟨g, k * 3 + 2, none⟩ = some (.int .i64 b) ∧ W.cell? ⟨g, k' * 3, none⟩ = some (.int .u64 o)) (by kernel_rfl) ?_
              change wpAnyH _ _ _ _ _ _ _ _ (World.drew _)
              have hS := HKEEP.out V7.drew ((Below.refl _ _).drew)
              refine takeH (i := 0) (v := .int .i64 (k : Int)) rfl (by kernel_rfl) (by kernel_rfl) (by kernel_rfl) (fun _ _ _ h => h) (Or.inl ⟨by rfl, fun W hW => by go_simp⟩) hS ?_
              simp only [Act.put, List.setIfInBounds_toArray, List.set_cons_zero, List.set_cons_succ]
              refine takeH (i := 1) (v := .bool true) rfl (by kernel_rfl) (by kernel_rfl) (by kernel_rfl) (fun _ _ _ h => h) (Or.inl ⟨by rfl, fun W hW => by go_simp; exact HK0.out⟩) hS ?_
              simp only [Act.put, List.setIfInBounds_toArray, List.set_cons_zero, List.set_cons_succ]
              refine takeH (i := 2) (v := .bool true) rfl (by kernel_rfl) (by kernel_rfl) (by kernel_rfl) (fun _ _ _ h => h) (Or.inl ⟨by rfl, fun W hW => by go_simp⟩) hS ?_
              simp only [Act.put, List.setIfInBounds_toArray, List.set_cons_zero, List.set_cons_succ]
              refine takeH (i := 3) (v := .slice (some ⟨g, 0, none⟩) q cap5) rfl (by kernel_rfl) (by kernel_rfl) (by kernel_rfl) (fun _ _ _ h => h) (Or.inl ⟨by rfl, fun W hW => by go_simp⟩) hS ?_
              simp only [Act.put, List.setIfInBounds_toArray, List.set_cons_zero, List.set_cons_succ]
              refine takeH (i := 4) (v := .int .i64 (k : Int)) rfl (by kernel_rfl) (by kernel_rfl) (by kernel_rfl) (fun _ _ _ h => h) (Or.inl ⟨by rfl, fun W hW => by go_simp⟩) hS ?_
              simp only [Act.put, List.setIfInBounds_toArray, List.set_cons_zero, List.set_cons_succ]
              refine takeH (i := 5) (v := .int .i64 (k' : Int)) rfl (by kernel_rfl) (by kernel_rfl) (by kernel_rfl) (fun _ _ _ h => h) (Or.inl ⟨by rfl, fun W hW => by go_simp⟩) hS ?_
              simp only [Act.put, List.setIfInBounds_toArray, List.set_cons_zero, List.set_cons_succ]
              refine takeH (i := 6) (v := .pointer (some ⟨g, k' * 3, none⟩)) rfl (by kernel_rfl) (by kernel_rfl) (by kernel_rfl) (fun _ _ _ h => h) (Or.inl ⟨by rfl, fun W hW => by go_simp⟩) hS ?_
              simp only [Act.put, List.setIfInBounds_toArray, List.set_cons_zero, List.set_cons_succ]
              refine takeH (i := 7) (v := .pointer (some ⟨g, k' * 3, none⟩)) rfl (by kernel_rfl) (by kernel_rfl) (by kernel_rfl) (fun _ _ _ h => h) (Or.inl ⟨by rfl, fun W hW => by go_simp⟩) hS ?_
              simp only [Act.put, List.setIfInBounds_toArray, List.set_cons_zero, List.set_cons_succ]
              refine takeH (i := 8) (v := .int .u64 o) rfl (by kernel_rfl) (by kernel_rfl) (by kernel_rfl) (fun _ _ _ h => h) (Or.inl ⟨by rfl, fun W hW => by obtain ⟨s0, s1, s2, s3⟩ := hW; go_simp⟩) hS ?_
              simp only [Act.put, List.setIfInBounds_toArray, List.set_cons_zero, List.set_cons_succ]
              refine takeH (i := 9) (v := .slice (some ⟨g, 0, none⟩) q cap5) rfl (by kernel_rfl) (by kernel_rfl) (by kernel_rfl) (fun _ _ _ h => h) (Or.inl ⟨by rfl, fun W hW => by go_simp⟩) hS ?_
              simp only [Act.put, List.setIfInBounds_toArray, List.set_cons_zero, List.set_cons_succ]
              refine takeH (i := 10) (v := .int .i64 (k : Int)) rfl (by kernel_rfl) (by kernel_rfl) (by kernel_rfl) (fun _ _ _ h => h) (Or.inl ⟨by rfl, fun W hW => by go_simp⟩) hS ?_
              simp only [Act.put, List.setIfInBounds_toArray, List.set_cons_zero, List.set_cons_succ]
              refine takeH (i := 11) (v := .pointer (some ⟨g, k * 3, none⟩)) rfl (by kernel_rfl) (by kernel_rfl) (by kernel_rfl) (fun _ _ _ h => h) (Or.inl ⟨by rfl, fun W hW => by go_simp⟩) hS ?_
              simp only [Act.put, List.setIfInBounds_toArray, List.set_cons_zero, List.set_cons_succ]
              refine takeH (i := 12) (v := .pointer (some ⟨g, k * 3, none⟩)) rfl (by kernel_rfl) (by kernel_rfl) (by kernel_rfl) (fun _ _ _ h => h) (Or.inl ⟨by rfl, fun W hW => by go_simp⟩) hS ?_
              simp only [Act.put, List.setIfInBounds_toArray, List.set_cons_zero, List.set_cons_succ]
              refine takeH (i := 13) (v := .int .u64 idy) rfl (by kernel_rfl) (by kernel_rfl) (by kernel_rfl) (fun _ _ _ h => h) (Or.inl ⟨by rfl, fun W hW => by obtain ⟨s0, s1, s2, s3⟩ := hW; go_simp⟩) hS ?_
              simp only [Act.put, List.setIfInBounds_toArray, List.set_cons_zero, List.set_cons_succ]
              refine takeH (i := 14) (v := .bool false) rfl (by kernel_rfl) (by kernel_rfl) (by kernel_rfl) (fun _ _ _ h => h) (Or.inl ⟨by rfl, fun W hW => by go_simp⟩) hS ?_
              simp only [Act.put, List.setIfInBounds_toArray, List.set_cons_zero, List.set_cons_succ]
              refine takeH (i := 15) (v := .bool false) rfl (by kernel_rfl) (by kernel_rfl) (by kernel_rfl) (fun _ _ _ h => h) (Or.inl ⟨by rfl, fun W hW => by go_simp⟩) hS ?_
              simp only [Act.put, List.setIfInBounds_toArray, List.set_cons_zero, List.set_cons_succ]
              refine takeH (i := 16) (v := .bool false) rfl (by kernel_rfl) (by kernel_rfl) (by kernel_rfl) (fun _ _ _ h => h) (Or.inl ⟨by rfl, fun W hW => by go_simp⟩) hS ?_
              simp only [Act.put, List.setIfInBounds_toArray, List.set_cons_zero, List.set_cons_succ]
              refine takeH (i := 17) (v := .pointer (some ⟨f, 0, none⟩)) rfl (by kernel_rfl) (by kernel_rfl) (by kernel_rfl) (fun _ _ _ h => h) (Or.inl ⟨by rfl, fun W hW => by go_simp⟩) hS ?_
              simp only [Act.put, List.setIfInBounds_toArray, List.set_cons_zero, List.set_cons_succ]
              refine takeH (i := 18) (v := .slice (some ⟨g, 0, none⟩) q cap5) rfl (by kernel_rfl) (by kernel_rfl) (by kernel_rfl) (fun _ _ _ h => h) (Or.inl ⟨by rfl, fun W hW => by go_simp⟩) hS ?_
              simp only [Act.put, List.setIfInBounds_toArray, List.set_cons_zero, List.set_cons_succ]
              refine takeH (i := 19) (v := .int .i64 (k : Int)) rfl (by kernel_rfl) (by kernel_rfl) (by kernel_rfl) (fun _ _ _ h => h) (Or.inl ⟨by rfl, fun W hW => by go_simp⟩) hS ?_
              simp only [Act.put, List.setIfInBounds_toArray, List.set_cons_zero, List.set_cons_succ]
              refine takeH (i := 20) (v := .pointer (some ⟨g, k * 3, none⟩)) rfl (by kernel_rfl) (by kernel_rfl) (by kernel_rfl) (fun _ _ _ h => h) (Or.inl ⟨by rfl, fun W hW => by go_simp⟩) hS ?_
              simp only [Act.put, List.setIfInBounds_toArray, List.set_cons_zero, List.set_cons_succ]
              refine takeH (i := 21) (v := .agg #[.int .u64 idy, .int .i64 at_, .int .i64 b]) rfl (by kernel_rfl) (by kernel_rfl) (by kernel_rfl) (fun _ _ _ h => h) (Or.inl ⟨by rfl, fun W hW => by obtain ⟨s0, s1, s2, -⟩ := hW; go_simp⟩) hS ?_
              simp only [Act.put, List.setIfInBounds_toArray, List.set_cons_zero, List.set_cons_succ]
              refine onlyH (i := 22) rfl (by kernel_rfl) (fun K hK => ?_)
              go_simp
              go_at_call 10
              (with_reducible refine (HFC.out V7.drew HB7.out.drew).mono ?_)
              clear hS
              rintro e w8 ⟨rfl, hb8'⟩
              have hb8 : Below V7.heap.size V7 w8 := ⟨hb8'.os, hb8'.tape, hb8'.output, hb8'.size, hb8'.block⟩
              have hS := HKEEP.out w8 hb8
              refine hK _ _ ⟨hS, ?_⟩
              clear hK K
              have HB8 : Hid (Below w5.heap.size w5 w8) := HB7.out.trans (hb8.mono HB7.out.size)
              refine takeH (i := 23) (v := .bool false) rfl (by kernel_rfl) (by kernel_rfl) (by kernel_rfl) (fun _ _ _ h => h) (Or.inl ⟨by rfl, fun W hW => by go_simp⟩) hS ?_
              simp only [Act.put, List.setIfInBounds_toArray, List.set_cons_zero, List.set_cons_succ]
              refine takeH (i := 24) (v := .bool false) rfl (by kernel_rfl) (by kernel_rfl) (by kernel_rfl) (fun _ _ _ h => h) (Or.inl ⟨by rfl, fun W hW => by go_simp⟩) hS ?_
              simp only [Act.put, List.setIfInBounds_toArray, List.set_cons_zero, List.set_cons_succ]
              refine wpAnyH_done (by kernel_rfl) ?_ _
              obtain ⟨s0, s1, s2, -⟩ := hS
              clear hb8 hb8' HKEEP
              go_wp2
              go_roundw
              case rel => exact ⟨k + 1, b, by simp, rfl, by have := HK.out.1; omega, HK.out.2, HB8.out⟩
              case measure => (have := HK.out.1; simp [intOf]; try omega)
          · have hni2 : ¬ (k : Int) < (q : Int) := by omega
            have e : k = q := by omega
            subst e
            have hat := HEND.out at_ hT
            subst hat
            have HBW : Hid (Below w3.heap.size w3 wr) := (HR5.out wr hbq).2.2
            clear hT hbq LEG HEND HT0 HTT hkq hlt2
            go_wp2
            go_roundw
            case rel => exact ⟨i + 1, by simp, by omega, HBW.out⟩
            case measure => (simp [intOf]; try omega)
      · have hni : ¬ (i : Int) < (m : Int) := by omega
        have HB : Hid (Below w.heap.size w wr) := hbw.trans (hbr.mono hbw.size)
        clear hF3 hB hrc hbw hbr him hlt HS
        go_wp2
        go_ret
        exact ⟨rfl, HB.out⟩
  · go_ret
    exact ⟨rfl, h3⟩
end Go.Proofs.YtplbaiibocgpnaaGreatDoor
