/-
  Merged: PQ, PZ.
-/
import Derived.Test.YtbbonnbcenhkeaaGreatDoorPKq
import Derived.Test.YtbbonnbcenhkeaaGreatDoorPLq
import Derived.Test.YtbbonnbcenhkeaaGreatDoorGMq
namespace Go.Proofs.YtbbonnbcenhkeaaGreatDoor
open Go Go.RowKit
set_option maxRecDepth 100000

theorem one_perm {X Y : List Sp} (h : OneT X) (hp : X.Perm Y) : OneT Y :=
  ⟨by rw [← hp.length_eq]; exact h.len, fun a ha => h.chk a (hp.mem_iff.2 ha), fun a ha => h.fits a (hp.mem_iff.2 ha), fun a ha => h.small a (hp.mem_iff.2 ha), fun a ha b hb => h.tr a (hp.mem_iff.2 ha) b (hp.mem_iff.2 hb), (hp.map _).nodup_iff.1 h.ids⟩
theorem buildT (ad : Option Addr) (n cap : Nat) (X : List Sp) (P : Nat → Pl) (w w1 : World) (hb : Below w.heap.size w w1) (hX : SpsAt w ad n X P) (hF : ∀ a ∈ X, a.Fits) (hS : ∀ a ∈ X, a.Small) (hT : Tabs w) :
    Calls Tryz.prog 9 #[.slice ad n cap] w1 fun e w' => (∃ f sb Y X' K rv R C dp fin, e = .returned (.tuple #[.pointer (some ⟨f, 0, none⟩), .int .i64 0]) ∧ ForestAt w' f sb X' K rv R ∧ FoB Y C dp fin X' K R ∧ Below w.heap.size w w') ∨ (e = .returned (.tuple #[.pointer none, .int .i64 101]) ∧ Below w.heap.size w w') := by
  refine (build_total ad n cap X P w1 (hX.below hb) hF hS (hT.below hb)).mono ?_
  rintro e w' (⟨h1, Y, hp, hr, f, sb, X', K, rv, R, C, dp, fin, rfl, h2, _, h4, h5, h6⟩ | ⟨_, rfl, h3⟩)
  · exact Or.inl ⟨f, sb, Y, X', K, rv, R, C, dp, fin, rfl, h2, ⟨h5, h4, h2.rise, one_perm h1 hp⟩, hb.trans (h6.mono hb.size)⟩
  · exact Or.inr ⟨rfl, hb.trans (h3.mono hb.size)⟩
end Go.Proofs.YtbbonnbcenhkeaaGreatDoor

namespace Go.Proofs.YtbbonnbcenhkeaaGreatDoor
open Go Go.RowKit
set_option maxRecDepth 100000

theorem pathT_cell {W W' wq : World} {A : Nat → Sp} {fin : Nat → Nod} {C : Nat → List Nat} {x q : Nat} {ad : Option Addr} {L : List (Nat × Int × Int)} (h : PathT W W' A fin C x ad L) (hq : L.length = q) {k : Nat} (hk : k < q) (hb : Below W'.heap.size W' wq) : ∃ g y a b, ad = some ⟨g, 0, none⟩ ∧ (y, a, b) ∈ L ∧ wq.cell? ⟨g, k * 3, none⟩ = some (.int .u64 (A y).id) ∧ wq.cell? ⟨g, k * 3 + 1, none⟩ = some (.int .i64 a) ∧ wq.cell? ⟨g, k * 3 + 2, none⟩ = some (.int .i64 b) := by
  have hL : L ≠ [] := fun e => by rw [e] at hq; simp at hq; omega
  obtain ⟨g, hg, hgl, hLI⟩ := h.2.2.1 hL
  have hk' : k < L.reverse.length := by rw [List.length_reverse, hq]; exact hk
  have := legsIn_below hLI hb hgl k (by simpa using hk')
  have e : (L.map (legX A)).reverse[k]'(by simpa using hk') = legX A L.reverse[k] := by
    simp only [← List.map_reverse, List.getElem_map]
  rw [e] at this
  exact ⟨g, L.reverse[k].1, L.reverse[k].2.1, L.reverse[k].2.2, hg, List.mem_reverse.1 (List.getElem_mem hk'), this⟩
set_option maxHeartbeats 8000000 in
theorem sweepLast_any (ad : Option Addr) (n cap : Nat) (X : List Sp) (P : Nat → Pl) (at_ : Int) (w : World) (hX : SpsAt w ad n X P) (hF : ∀ a ∈ X, a.Fits) (hS : ∀ a ∈ X, a.Small) (hT : Tabs w) :
    Calls Tryz.prog 6 #[.slice ad n cap, .int .i64 at_] w fun e w' => e = .returned (.bool true) ∧ Below w.heap.size w w' := by
  have SH := aliveW_any w hT
  have BD : Hid (∀ w1, Below w.heap.size w w1 → Calls Tryz.prog 9 #[.slice ad n cap] w1 fun e w' => (∃ f sb Y X' K rv R C dp fin, e = .returned (.tuple #[.pointer (some ⟨f, 0, none⟩), .int .i64 0]) ∧ ForestAt w' f sb X' K rv R ∧ FoB Y C dp fin X' K R ∧ Below w.heap.size w w') ∨ (e = .returned (.tuple #[.pointer none, .int .i64 101]) ∧ Below w.heap.size w w')) := fun w1 hb => buildT ad n cap X P w w1 hb hX hF hS hT
  clear hX hF hS hT
  go_enter Tryz.func6, Tryz.ntmps6
  go_wp2_with (first
    | (go_at_call 22; refine SH.mono ?_; clear SH; rintro e w1 ⟨rfl, hb⟩; have B1 := BD.out w1 hb; clear hb BD)
    | (go_at_call 9; refine B1.mono ?_; clear B1; rintro e w2 (⟨f, sb, Y, X', K, rv, R, C, dp, fin, rfl, h1, h2, h3⟩ | ⟨rfl, h3⟩))
    | (go_at_call 11; refine (roots_any f sb X' K rv R w2 h1).mono ?_; rintro e w3 ⟨rc, rfl, hrc, hrl, hb3⟩))
  · have hF3 := h1.below hb3
    have HS : Hid (ForestAt w3 f sb X' K rv R ∧ FoB Y C dp fin X' K R ∧ Blk w3 rc (fillC .u64 (idsOf X' R) 0) 37 ∧ Below w.heap.size w w3) := ⟨hF3, h2, hrc, h3.trans (hb3.mono h3.size)⟩
    obtain ⟨m, hm⟩ : ∃ m, R.length = m := ⟨_, rfl⟩
    have hm1 : (m : Int) ≤ 1000 := by
      have q1 := h2.fo.roots.1.length_eq
      have q2 := kidsF_len (cutN C (nmOf (zs Y))) Y.length (-1)
      have q3 := h2.one.len
      omega
    have HM : Hid (R.length = m) := hm
    rw [hm]
    clear h1 h2 h3 hrc hrl hb3 hF3 hm
    go_loopw [9] (fun z wr => ∃ i : Nat, z = .int .i64 i ∧ i ≤ m ∧ Below w3.heap.size w3 wr) (fun z _ => m - (intOf z).toNat)
    case atStart => exact ⟨0, rfl, by omega, Below.refl _ _⟩
    case round =>
      obtain ⟨i, rfl, him, hbr⟩ := hrel
      obtain ⟨hF3, hB, hrc, hbw⟩ := HS.out
      by_cases hlt : i < m
      · obtain ⟨x, hx, hox, htx, hcx⟩ := hB.idsR i (by rw [HM.out]; exact hlt)
        have cr : wr.cell? ⟨rc, i, none⟩ = some (.int .u64 (fin x).id) := hcx wr rc (hrc.below hbr hrc.lt)
        have hin' : (i : Int) < (m : Int) := by omega
        have hFr := hF3.below hbr
        have SV := hB.senv x hx
        have N1 := node_at hFr x SV.xX (fin x).id (by rw [SV.nd x SV.xX])
        rw [SV.nd x SV.xX] at N1
        unfold ndV at N1
        have PT : Hid (∀ w4, Below w3.heap.size w3 w4 → Calls Tryz.prog 25 #[.pointer (some ⟨f, 0, none⟩), .int .u64 (fin x).id] w4 fun e W' => ∃ ad cap L q, e = .returned (.tuple #[.slice ad q cap, .int .i64 0]) ∧ L.length = q ∧ PathT w4 W' (spAt Y) fin (cnK fin K) x ad L) := fun w4 hb => by
          refine (path_any f sb X' K rv R (spAt Y) fin (knK K) (cnK fin K) 1001 x w4 (hF3.below hb) SV hox).mono ?_
          rintro e W' ⟨ad, cap, L, rfl, h⟩
          exact ⟨ad, cap, L, _, rfl, rfl, h⟩
        have SOW : Hid (∀ (t : Int) (w4 : World), Below w3.heap.size w3 w4 → Calls Tryz.prog 24 #[.pointer (some ⟨f, 0, none⟩), .int .u64 (fin x).id, .int .i64 t] w4 fun e W' => ∃ o er, e = .returned (.tuple #[.int .u64 o, .int .i64 er]) ∧ (∃ L, PathR fin (cnK fin K) x (fin x).til L ∧ OwnW (spAt Y) L t o er) ∧ Below w4.heap.size w4 W') := fun t w4 hb => by
          refine (ownerW_any f sb X' K rv R (spAt Y) fin (knK K) (cnK fin K) 1001 x t w4 (hF3.below hb) SV hox).mono ?_
          rintro e W' ⟨L, o, er, rfl, g1, g2, g3⟩
          exact ⟨o, er, rfl, ⟨L, g1, g2⟩, g3⟩
        have SLT : Hid (∀ (y : Nat) (w4 : World), y < Y.length → Below w3.heap.size w3 w4 → Calls Tryz.prog 23 #[.pointer (some ⟨f, 0, none⟩), .int .u64 (fin y).id, .int .i64 (fin x).til] w4 fun e W' => LatE fin (knK K y) (fin x).til e ∧ Below w4.heap.size w4 W') := fun y w4 hy hb => by
          have SVy := hB.senv y hy
          have kn := SVy.kn y SVy.xX
          exact latestW_any f sb X' K rv R fin (knK K) w4 (hF3.below hb) SVy.nd y SVy.xX kn.1 kn.2.1 kn.2.2 (fin x).til
        have SL0 : Hid (∀ (w4 : World), Below w3.heap.size w3 w4 → Calls Tryz.prog 23 #[.pointer (some ⟨f, 0, none⟩), .int .u64 (fin x).id, .int .i64 (fin x).til] w4 fun e W' => LatE fin (knK K x) (fin x).til e ∧ Below w4.heap.size w4 W') := fun w4 hb => SLT.out x w4 hx hb
        obtain ⟨mu, hmu⟩ := hB.mu
        have HMU : Hid (∀ i, i < Y.length → mu (fin i).id = 1000 - dp i) := hmu
        have HBR : Hid (Below w3.heap.size w3 wr) := hbr
        have HX : Hid (x < Y.length) := hx
        have HCX : Hid (∀ w4, Below w3.heap.size w3 w4 → w4.cell? ⟨rc, i, none⟩ = some (.int .u64 (fin x).id)) := fun w4 hb => hcx w4 rc (hrc.below hb hrc.lt)
        have hrng := hB.inn (dp x) x rfl hx
        obtain ⟨id, hid⟩ : ∃ id, (fin x).id = id := ⟨_, rfl⟩
        obtain ⟨fr, hfr⟩ : ∃ fr, (fin x).fr = fr := ⟨_, rfl⟩
        obtain ⟨til, htil⟩ : ∃ til, (fin x).til = til := ⟨_, rfl⟩
        rw [hid] at N1 PT SOW SL0 cr HCX
        rw [hfr, htil] at N1 hrng
        rw [htil] at SOW SLT SL0
        have HID : Hid ((fin x).id = id ∧ (fin x).fr = fr ∧ (fin x).til = til) := ⟨hid, hfr, htil⟩
        obtain ⟨hr0, hr1, hr2⟩ := hrng
        clear hF3 hB hrc hbw hx hox htx hcx hbr hFr SV hid hfr htil hmu
        by_cases hne : fr < til
        · have dge : decide (til ≤ fr) = false := decide_eq_false (by omega)
          go_wp2_with (first
            | (go_at_call 14; refine N1.mono ?_; clear N1; rintro e w4 ⟨rfl, hb4⟩; have H4 : Hid (∀ o, Below w3.heap.size w3 (w4.alloc o)) := (fun o => (HBR.out.trans (hb4.mono HBR.out.size)).alloc (by have := HBR.out.size; have := hb4.size; omega) o); have cr4 := fun (o : Obj) => HCX.out _ (H4.out o); clear hb4)
            | (go_at_call 23; refine (SL0.out _ (H4.out _)).mono ?_; clear SL0; rintro e w5 ⟨⟨b0, fd0, rfl, hLat⟩, hb5⟩; have HR5 : Hid (∀ wq, Below w5.heap.size w5 wq → wq.cell? ⟨w4.heap.size, 5, none⟩ = some (.int .i64 fr) ∧ wq.cell? ⟨w4.heap.size, 5 + 1, none⟩ = some (.int .i64 til) ∧ wq.cell? ⟨rc, i, none⟩ = some (.int .u64 id) ∧ Below w3.heap.size w3 wq) := (fun wq hb => ⟨(Blk.below (Blk.below (Blk.new _ _ _) hb5 (by rw [World.size_alloc]; omega)) hb (Blk.lt (Blk.below (Blk.new _ _ _) hb5 (by rw [World.size_alloc]; omega)))).cell 5 rfl, (Blk.below (Blk.below (Blk.new _ _ _) hb5 (by rw [World.size_alloc]; omega)) hb (Blk.lt (Blk.below (Blk.new _ _ _) hb5 (by rw [World.size_alloc]; omega)))).cell 6 rfl, HCX.out wq (((H4.out _).trans (hb5.mono (H4.out _).size)).trans (hb.mono (Nat.le_trans (H4.out _).size hb5.size))), ((H4.out _).trans (hb5.mono (H4.out _).size)).trans (hb.mono (Nat.le_trans (H4.out _).size hb5.size))⟩); have HLT : Hid (LatR fin (knK K x) til b0 fd0) := hLat; clear hLat hb5))
          clear cr4 cr HBR H4 HCX
          go_loopw [12, 13, 14] (fun z12 z13 z14 wq => ∃ (y : Nat) (b : Int) (fd : Bool), z12 = .int .u64 (fin y).id ∧ z13 = .int .u64 b ∧ z14 = .bool fd ∧ y < Y.length ∧ LatR fin (knK K y) til b fd ∧ (∀ z, DownR fin (cnK fin K) til y z → DownR fin (cnK fin K) til x z) ∧ Below w5.heap.size w5 wq) (fun z12 _ _ _ => mu (intOf z12))
          case atStart => exact ⟨x, b0, fd0, by rw [HID.out.1], rfl, rfl, HX.out, HLT.out, fun z hz => hz, Below.refl _ _⟩
          case round =>
            obtain ⟨y, b, fd, rfl, rfl, rfl, hy, hL, hD, hbq⟩ := hrel
            obtain ⟨cfr, ctil, cid, hb3q⟩ := HR5.out wr hbq
            cases fd with
            | true =>
              obtain ⟨c, hcm, hbc, c1, c2, c3⟩ : ∃ c ∈ knK K y, b = (fin c).id ∧ (fin c).til = til ∧ (fin c).fr < til ∧ ∀ d ∈ knK K y, (fin d).til = til → (fin d).fr < til → (fin c).id ≤ (fin d).id := by
                rcases hL with ⟨h, _⟩ | ⟨_, h⟩
                · cases h
                · exact h
              have hB := HS.out.2.1
              have hcY := ((hB.mem y hy c).1 hcm).1
              have hdp := hB.tree.hdp y hy c hcm
              have hdb := (hB.sh.bd c (by rw [cutX_len, zs_len]; exact hcY)).1
              have hmul : mu (fin c).id < mu (fin y).id := by
                rw [HMU.out c hcY, HMU.out y hy]
                omega
              have HST : Hid (∀ z, DownR fin (cnK fin K) til c z → DownR fin (cnK fin K) til x z) := fun z hz => by
                refine hD z (.step (List.mem_filter.2 ⟨hcm, decide_eq_true (by omega)⟩) c1 (fun d hd hdt => ?_) hz)
                obtain ⟨d1, d2⟩ := List.mem_filter.1 hd
                have := of_decide_eq_true d2
                exact c3 d d1 hdt (by omega)
              have HCY : Hid (c < Y.length) := hcY
              have HMUL : Hid (mu (fin c).id < mu (fin y).id) := hmul
              have HB3 : Hid (Below w3.heap.size w3 wr) := hb3q
              have HBQ : Hid (Below w5.heap.size w5 wr) := hbq
              subst hbc
              clear hL hD hbq hb3q hB hcm c1 c2 c3 hcY hdp hdb hmul hy
              go_wp2_with (go_at_call 23; refine (SLT.out c _ HCY.out HB3.out).mono ?_; rintro e w6 ⟨⟨b1, fd1, rfl, hLat⟩, hb6⟩; have HL6 : Hid (LatR fin (knK K c) til b1 fd1 ∧ Below w5.heap.size w5 w6) := ⟨hLat, HBQ.out.trans (hb6.mono HBQ.out.size)⟩; clear hLat hb6)
              go_roundw
              case rel => exact ⟨c, b1, fd1, rfl, rfl, rfl, HCY.out, HL6.out.1, HST.out, HL6.out.2⟩
              case measure => exact HMUL.out
            | false =>
              have hB := HS.out.2.1
              have hDx : DownR fin (cnK fin K) til x y := hD y (.here fun c hc hct => by
                obtain ⟨c1, c2⟩ := List.mem_filter.1 hc
                have c2' := of_decide_eq_true c2
                rcases hL with ⟨_, _, h3⟩ | ⟨h, _⟩
                · exact h3 c c1 ⟨hct, by omega⟩
                · cases h)
              obtain ⟨t1, ht1⟩ : ∃ t1, til - 1 = t1 := ⟨_, rfl⟩
              have LAST : Hid (∀ o er, (∃ L, PathR fin (cnK fin K) x til L ∧ OwnW (spAt Y) L t1 o er) → er = 0 ∧ o = (fin y).id) := fun o er ⟨L, g1, g2⟩ => by
                obtain ⟨rfl, rfl, rfl⟩ := HID.out
                subst ht1
                exact hB.lastOwn HX.out hne g1 g2 hDx
              have KI : Hid (∀ b k, (∃ L, PathR fin (cnK fin K) x til L ∧ OwnW (spAt Y) L at_ b k) → (k = 0 ∧ fr ≤ at_ ∧ at_ < til) ∨ (k = 112 ∧ ¬ fr ≤ at_) ∨ (k = 112 ∧ fr ≤ at_ ∧ ¬ at_ < til)) := fun b k ⟨L, g1, g2⟩ => by
                obtain ⟨rfl, rfl, rfl⟩ := HID.out
                have h1 := (hB.ownIff HX.out g1 g2).1
                rcases g2 with ⟨rfl, _⟩ | ⟨rfl, _⟩
                · exact Or.inl ⟨rfl, h1.1 rfl⟩
                · by_cases h2 : (fin x).fr ≤ at_
                  · by_cases h3 : at_ < (fin x).til
                    · exact absurd (h1.2 ⟨h2, h3⟩) (by omega)
                    · exact Or.inr (Or.inr ⟨rfl, h2, h3⟩)
                  · exact Or.inr (Or.inl ⟨rfl, h2⟩)
              have LG : Hid (∀ (b k : Int) (L : List (Nat × Int × Int)), PathR fin (cnK fin K) x (fin x).til L → (∃ L', PathR fin (cnK fin K) x til L' ∧ OwnW (spAt Y) L' at_ b k) → ∀ (z : Nat) (u v : Int), (z, u, v) ∈ L → u ≤ at_ → at_ < v → (spAt Y z).id = b) := fun b k L g0 ⟨L', g1, g2⟩ z u v hz h1 h2 => by
                obtain ⟨rfl, rfl, rfl⟩ := HID.out
                rw [PathR.one g1 L g0] at hz
                exact (hB.ownIff HX.out g1 g2).2 _ hz h1 h2
              have hwr : IntKind.i64.wrap t1 = t1 := by simp [IntKind.wrap, IntKind.bits, IntKind.signed]; omega
              have HB3 : Hid (Below w3.heap.size w3 wr) := hb3q
              have HBQ : Hid (Below w5.heap.size w5 wr) := hbq
              obtain ⟨idy, hidy⟩ : ∃ idy, (fin y).id = idy := ⟨_, rfl⟩
              rw [hidy] at LAST ⊢
              clear hL hD hbq hb3q hB hy hDx hidy SLT HMU
              go_wp2
              go_region_held3 (fun W' => W'.cell? ⟨w4.heap.size, 5 + 1, none⟩ = some (.int .i64 til) ∧ W'.cell? ⟨rc, i, none⟩ = some (.int .u64 id)) (first | exact ⟨ctil, cid⟩ | exact ⟨x1, x2⟩)
                (first
                  | (go_at_call 24; refine (SOW.out t1 _ HB3.out.drew).mono ?_; rintro e w6 ⟨o, er, rfl, hex, hb6⟩; obtain ⟨rfl, rfl⟩ := LAST.out o er hex; clear hex; have hb6' : Below wr.heap.size wr w6 := ⟨hb6.os, hb6.tape, hb6.output, hb6.size, hb6.block⟩; have HB6 : Hid (Below w5.heap.size w5 w6) := HBQ.out.trans (hb6'.mono HBQ.out.size); obtain ⟨xfr, x1, x2, x3⟩ := HR5.out w6 HB6.out; have HX3 : Hid (Below w3.heap.size w3 w6) := x3; clear hb6 hb6' x3))
              clear ctil cid cfr
              go_wp2_with (first
                | (go_at_call 25; refine (PT.out _ HX3.out).mono ?_; clear PT; rintro e w7 ⟨ad5, cap5, L, q, rfl, hq, hP5⟩; have HB7 : Hid (Below w5.heap.size w5 w7) := HB6.out.trans (hP5.2.2.2.mono HB6.out.size); obtain ⟨yfr, ytil, yid, y3⟩ := HR5.out w7 HB7.out; have HY3 : Hid (Below w3.heap.size w3 w7) := y3; have HP5 : Hid (L.length = q ∧ PathT w6 w7 (spAt Y) fin (cnK fin K) x ad5 L) := ⟨hq, hP5⟩; clear hq hP5 y3)
                | (go_at_call 24; refine (SOW.out at_ _ HY3.out).mono ?_; clear SOW; rintro e w8 ⟨b8, k8, rfl, hex8, hb8⟩; have HEX : Hid (∃ L', PathR fin (cnK fin K) x til L' ∧ OwnW (spAt Y) L' at_ b8 k8) := hex8; have HB8 : Hid (Below w7.heap.size w7 w8 ∧ Below w5.heap.size w5 w8) := ⟨hb8, HB7.out.trans (hb8.mono HB7.out.size)⟩; obtain ⟨vfr, vtil, -, -⟩ := HR5.out w8 HB8.out.2; clear hb8 hex8; rcases KI.out b8 k8 HEX.out with ⟨rfl, i1, i2⟩ | ⟨rfl, i1⟩ | ⟨rfl, i1, i2⟩))
              all_goals
                have hq1 : (q : Int) ≤ 2000 := by
                  have h1 := HP5.out.2.2.1
                  have h2 := HP5.out.1
                  omega
                have LEG : Hid (∀ (k : Nat) (wq : World), k < q → Below w8.heap.size w8 wq → ∃ (g : Nat) (o a b : Int), ad5 = some ⟨g, 0, none⟩ ∧ wq.cell? ⟨g, k * 3, none⟩ = some (.int .u64 o) ∧ wq.cell? ⟨g, k * 3 + 1, none⟩ = some (.int .i64 a) ∧ wq.cell? ⟨g, k * 3 + 2, none⟩ = some (.int .i64 b) ∧ (a ≤ at_ → at_ < b → o = b8)) := fun k wq hk hb => by
                  obtain ⟨g, y, a, b, h1, h2, h3⟩ := pathT_cell HP5.out.2 HP5.out.1 hk (HB8.out.1.trans (hb.mono HB8.out.1.size))
                  exact ⟨g, _, a, b, h1, h3.1, h3.2.1, h3.2.2, fun g1 g2 => LG.out b8 _ L HP5.out.2.1 HEX.out y a b h2 g1 g2⟩
                clear KI LG LAST HEX HP5 HX3 HY3 hwr ht1 HB3 HBQ HB6 xfr x1 x2 yfr ytil yid vfr vtil
                go_loopw [21] (fun z wq => ∃ k : Nat, z = .int .i64 k ∧ k ≤ q ∧ Below w8.heap.size w8 wq) (fun z _ => q - (intOf z).toNat)
                case atStart => exact ⟨0, rfl, by omega, Below.refl _ _⟩
                case round =>
                  obtain ⟨k, rfl, hkq, hbk⟩ := hrel
                  have HBK : Hid (Below w8.heap.size w8 wr) := hbk
                  by_cases hlt3 : k < q
                  · obtain ⟨g, o, a, b, rfl, c0, c1, c2, hob⟩ := LEG.out k wr hlt3 hbk
                    have hin3 : (k : Int) < (q : Int) := by omega
                    clear hbk LEG
                    by_cases g1 : a ≤ at_
                    · by_cases g2 : at_ < b
                      · obtain rfl := hob g1 g2
                        go_wp2
                        go_roundw
                        case rel => exact ⟨k + 1, by simp, by omega, HBK.out⟩
                        case measure => (simp [intOf]; try omega)
                      · clear hob
                        go_wp2
                        go_roundw
                        case rel => exact ⟨k + 1, by simp, by omega, HBK.out⟩
                        case measure => (simp [intOf]; try omega)
                    · clear hob
                      go_wp2
                      go_roundw
                      case rel => exact ⟨k + 1, by simp, by omega, HBK.out⟩
                      case measure => (simp [intOf]; try omega)
                  · have hni3 : ¬ (k : Int) < (q : Int) := by omega
                    have HBW : Hid (Below w3.heap.size w3 wr) := (HR5.out wr (HB8.out.2.trans (hbk.mono HB8.out.2.size))).2.2.2
                    clear hbk LEG HBK hkq hlt3
                    go_wp2
                    go_roundw
                    case rel => exact ⟨i + 1, by simp, by omega, HBW.out⟩
                    case measure => (simp [intOf]; try omega)
        · have dge : decide (til ≤ fr) = true := decide_eq_true (by omega)
          go_wp2_with (go_at_call 14; refine N1.mono ?_; clear N1; rintro e w4 ⟨rfl, hb4⟩; have H4 : Hid (∀ o, Below w3.heap.size w3 (w4.alloc o)) := (fun o => (HBR.out.trans (hb4.mono HBR.out.size)).alloc (by have := HBR.out.size; have := hb4.size; omega) o); clear hb4)
          go_roundw
          case rel => exact ⟨i + 1, by simp, by omega, H4.out _⟩
          case measure => (simp [intOf]; try omega)
      · have hni : ¬ (i : Int) < (m : Int) := by omega
        have HB : Hid (Below w.heap.size w wr) := hbw.trans (hbr.mono hbw.size)
        clear hF3 hB hrc hbw hbr him hlt HS
        go_wp2
        go_ret
        exact ⟨rfl, HB.out⟩
  · go_ret
    exact ⟨rfl, h3⟩
end Go.Proofs.YtbbonnbcenhkeaaGreatDoor
