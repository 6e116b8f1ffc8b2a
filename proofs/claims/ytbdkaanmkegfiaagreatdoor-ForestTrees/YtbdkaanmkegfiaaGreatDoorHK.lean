/-
  HK.
-/
import Derived.Test.YtbdkaanmkegfiaaGreatDoorHGq
namespace Go.Proofs.YtbdkaanmkegfiaaGreatDoor
open Go Go.RowKit
set_option maxRecDepth 100000

/-- Build, with all that is known of the forest then. -/
theorem buildF (ad : Option Addr) (n cap : Nat) (X : List Sp) (P : Nat → Pl) (w w1 : World) (hb : Below w.heap.size w w1) (hX : SpsAt w ad n X P) (hF : ∀ a ∈ X, a.Fits) (hS : ∀ a ∈ X, a.Small) (hT : Tabs w) :
    Calls Tryz.prog 10 #[.slice ad n cap] w1 fun e w' => (∃ f sb Y X' K rv R C dp fin, e = .returned (.tuple #[.pointer (some ⟨f, 0, none⟩), .int .i64 0]) ∧ (ForestAt w' f sb X' K rv R ∧ FoB Y C dp fin X' K R ∧ OneT X ∧ X.Perm Y ∧ Y.length = n) ∧ Below w.heap.size w w') ∨ (e = .returned (.tuple #[.pointer none, .int .i64 101]) ∧ Below w.heap.size w w') := by
  refine (build_total ad n cap X P w1 (hX.below hb) hF hS (hT.below hb)).mono ?_
  rintro e w' (⟨h1, Y, hp, hr, f, sb, X', K, rv, R, C, dp, fin, rfl, h2, hC, h4, h5, h6⟩ | ⟨h1, rfl, h3⟩)
  · exact Or.inl ⟨f, sb, Y, X', K, rv, R, C, dp, fin, rfl, ⟨h2, ⟨h5, h4, h2.rise, one_permR h1 hp⟩, h1, hp, by rw [← hp.length_eq, hX.len]⟩, hb.trans (h6.mono hb.size)⟩
  · exact Or.inr ⟨rfl, hb.trans (h3.mono hb.size)⟩
/-- What is known of one span of those that were given. -/
structure OneX (Y : List Sp) (C : List Int) (dp : Nat → Nat) (fin : Nat → Nod) (X' : List Spot) (a : Sp) (i : Nat) (A : List Nat) : Prop where
  ancR : AncR (cutN C (nmOf (zs Y))) Y.length i A
  iY : i < Y.length
  sp : spAt Y i = a
  id : (fin i).id = a.id
  anc : AncK Y dp fin X' i A
theorem oneX {X Y : List Sp} {C : List Int} {dp : Nat → Nat} {fin : Nat → Nod} {X' : List Spot} {K : Nat → List Int} {R : List Int} (h : FoB Y C dp fin X' K R) (hp : X.Perm Y) (k : Nat) (hk : k < X.length) : ∃ i A, OneX Y C dp fin X' X[k] i A := by
  obtain ⟨i, hi, e⟩ := List.mem_iff_getElem.1 (hp.mem_iff.1 (List.getElem_mem hk))
  obtain ⟨A, hA⟩ := h.anc (dp i) i rfl hi
  have hs : spAt Y i = X[k] := by rw [← e]; simp [spAt, List.getD, hi]
  exact ⟨i, A, hA, hi, hs, by rw [← h.ids i hi, hs], h.ancK hA hi⟩
set_option maxHeartbeats 32000000 in
theorem forestTrees_any (ad : Option Addr) (n cap : Nat) (X : List Sp) (P : Nat → Pl) (w : World) (hX : SpsAt w ad n X P) (hF : ∀ a ∈ X, a.Fits) (hS : ∀ a ∈ X, a.Small) (hT : Tabs w) :
    Calls Tryz.prog 4 #[.slice ad n cap] w fun e w' => e = .returned (.bool true) ∧ Below w.heap.size w w' := by
  have SH := awake_any w hT
  have BD : Hid (∀ w1, Below w.heap.size w w1 → Calls Tryz.prog 10 #[.slice ad n cap] w1 fun e w' => (∃ f sb Y X' K rv R C dp fin, e = .returned (.tuple #[.pointer (some ⟨f, 0, none⟩), .int .i64 0]) ∧ (ForestAt w' f sb X' K rv R ∧ FoB Y C dp fin X' K R ∧ OneT X ∧ X.Perm Y ∧ Y.length = n) ∧ Below w.heap.size w w') ∨ (e = .returned (.tuple #[.pointer none, .int .i64 101]) ∧ Below w.heap.size w w')) := fun w1 hb => buildF ad n cap X P w w1 hb hX hF hS hT
  have HXS : Hid (SpsAt w ad n X P) := hX
  clear hX hF hS hT
  go_enter Tryz.func4, Tryz.ntmps4
  go_wp2_with (first
    | (go_at_call 9; refine SH.mono ?_; clear SH; rintro e w1 ⟨rfl, hb⟩; have B1 := BD.out w1 hb; clear hb BD)
    | (go_at_call 10; refine B1.mono ?_; clear B1; rintro e w2 (⟨f, sb, Y, X', K, rv, R, C, dp, fin, rfl, h1, h2⟩ | ⟨rfl, h2⟩))
    | (go_at_call 12; refine (nodesB h1.1 h1.2.1 (Below.refl _ _) n h1.2.2.2.2).mono ?_; rintro e w3 ⟨ad3, cap3, rfl, hrow3, hb3⟩)
    | (go_at_call 18; refine (rootsB h1.1 h1.2.1 hb3).mono ?_; rintro e w4 ⟨rc, rfl, hrc, hb4⟩; obtain ⟨m, hm⟩ : ∃ m, (rtN R).length = m := ⟨_, rfl⟩; rw [hm])
    | (go_at_call 19; refine (orderB h1.1 h1.2.1 (hb3.trans (hb4.mono hb3.size)) rc m m hm hrc).mono ?_; rintro e w5 ⟨rfl, hb5⟩)
    | (go_at_call 20; refine (count_any f sb X' K rv R w5 (h1.1.below ((hb3.trans (hb4.mono hb3.size)).trans (hb5.mono (Nat.le_trans hb3.size hb4.size))))).mono ?_; rw [show X'.length = n from h1.2.1.fo.len.trans h1.2.2.2.2]; rintro e w6 ⟨rfl, hw6⟩; obtain rfl := hw6.symm))
  · have b25 := (hb3.trans (hb4.mono hb3.size)).trans (hb5.mono (Nat.le_trans hb3.size hb4.size))
    have hrow5 := ownsRow_upd hrow3 (Upd.ofBelow (S := fun _ => False) (hb4.trans (hb5.mono hb4.size)) (fun k h1 h2 => by omega)) (fun _ _ h => h)
    have HS : Hid ((ForestAt w5 f sb X' K rv R ∧ FoB Y C dp fin X' K R ∧ X.Perm Y ∧ Y.length = n ∧ (rtN R).length = m) ∧ Blk w5 rc (fillC .u64 ((rtN R).map (fun c => (fin c).id)) 0) 35 ∧ w5.ownsRow w2.heap.size 49 7 (.slice ad3 n cap3) n ((allN K R).flatMap (fun x => ndL (fin x))) ∧ Below w.heap.size w w5) := ⟨⟨h1.1.below b25, h1.2.1, h1.2.2.2.1, h1.2.2.2.2, hm⟩, hrc.below hb5 hrc.lt, hrow5, h2.trans (b25.mono h2.size)⟩
    have hn1 : (n : Int) ≤ 1000 := by have := h1.2.2.1.len; have := HXS.out.len; omega
    clear h1 h2 hb3 hb4 hb5 hrow3 hrow5 hrc hm b25
    go_loopw [9] (fun z wr => ∃ k : Nat, z = .int .i64 k ∧ k ≤ n ∧ Below w5.heap.size w5 wr) (fun z _ => n - (intOf z).toNat)
    case atStart => exact ⟨0, rfl, by omega, Below.refl _ _⟩
    case round =>
      obtain ⟨k, rfl, hkn, hbr⟩ := hrel
      obtain ⟨⟨hF5, hB, hp, hYn, hm⟩, hrc, hrow, hbw⟩ := HS.out
      by_cases hlt : k < n
      · have hkX : k < X.length := by rw [HXS.out.len]; exact hlt
        obtain ⟨i, A, hO⟩ := oneX hB hp k hkX
        have SX := HXS.out.below (hbw.trans (hbr.mono hbw.size))
        obtain ⟨b1, o1, rfl, _⟩ := SX.lies (by omega)
        have RG : Hid (wr.rangeAt b1 (o1 + k * 13) (spC X[k] (P k)).toList) := SX.range k hkX
        obtain ⟨a, ha⟩ : ∃ a, X[k]'hkX = a := ⟨_, rfl⟩
        obtain ⟨p, hpp⟩ : ∃ p, P k = p := ⟨_, rfl⟩
        rw [ha, hpp] at RG
        rw [ha] at hO
        obtain ⟨q, hq⟩ : ∃ q, A.length = q := ⟨_, rfl⟩
        have hqd : q = dp i := by rw [← hq]; exact hO.anc.len
        have hdep := hB.dep (dp i) i rfl hO.iY
        have hq1 : q ≤ 1000 := by rw [hqd]; exact (hB.sh.bd i (by rw [cutX_len, zs_len]; exact hO.iY)).1
        obtain ⟨δ, hδ⟩ : ∃ δ, (fin i).dep = δ := ⟨_, rfl⟩
        obtain ⟨og, hog⟩ : ∃ og, (fin i).org = og := ⟨_, rfl⟩
        obtain ⟨fr, hfr⟩ : ∃ fr, (fin i).fr = fr := ⟨_, rfl⟩
        obtain ⟨til, htil⟩ : ∃ til, (fin i).til = til := ⟨_, rfl⟩
        obtain ⟨tr, htr⟩ : ∃ tr, (fin i).tree = tr := ⟨_, rfl⟩
        obtain ⟨pr, hpr⟩ : ∃ pr, (fin i).par = pr := ⟨_, rfl⟩
        have HG : Hid ((fin i).fr = fr ∧ (fin i).til = til ∧ (fin i).tree = tr ∧ (fin i).par = pr) := ⟨hfr, htil, htr, hpr⟩
        have hiX : i < X'.length := by rw [hB.fo.len]; exact hO.iY
        have ND : Hid (∀ W, Below w5.heap.size w5 W → Calls Tryz.prog 21 #[.pointer (some ⟨f, 0, none⟩), .int .u64 a.id] W fun e w' => e = .returned (.tuple #[.agg #[.int .u64 a.id, .int .u64 pr, .int .i64 og, .int .u64 tr, .int .i64 δ, .int .i64 fr, .int .i64 til], .bool true]) ∧ Below W.heap.size W w') := fun W hb => by
          have := node_at (hF5.below hb) i hiX a.id (by rw [hB.nd i hiX]; exact hO.id)
          rw [hB.nd i hiX] at this
          unfold ndV at this
          rwa [hO.id, hog, hδ, hfr, htil, htr, hpr] at this
        have AB : Hid (∀ W, Below w5.heap.size w5 W → Calls Tryz.prog 22 #[.pointer (some ⟨f, 0, none⟩), .int .u64 a.id] W fun e w' => ∃ ad cap, e = .returned (.slice ad q cap) ∧ w'.ownsRow W.heap.size 35 1 (.slice ad q cap) q ((A.map (fun j => (fin j).id)).map (Value.int .u64)) ∧ Below W.heap.size W w') := fun W hb => by
          have hul := hO.anc.upl
          rw [hO.id] at hul
          have := aboveL_any f sb X' K rv R a.id (A.map (fun j => (fin j).id)) W (hF5.below hb) hul (by
            refine List.pairwise_map.2 (List.Pairwise.imp_of_mem ?_ hO.anc.nod)
            intro x y hx hy hxy e
            exact hxy (hB.idInjR (hO.anc.mem x hx).1 (hO.anc.mem y hy).1 e)) (by rw [List.length_map, hq]; exact hq1)
          rw [List.length_map, hq] at this
          exact this
        have FR : Hid (∀ W, Below w5.heap.size w5 W → Calls Tryz.prog 23 #[.slice (some ⟨rc, 0, none⟩) m m, .int .u64 a.id] W fun e w' => ∃ r, e = .returned (.int .i64 r) ∧ (0 ≤ r ↔ q = 0) ∧ w' = W) := fun W hb => by
          refine (find_list ((rtN R).map (fun c => (fin c).id)) rc m m a.id W (by rw [List.length_map]; exact hm) (by rw [← hm]; exact hB.rlen) (fun _ => hrc.below hb hrc.lt)).mono ?_
          rintro e w' ⟨r, rfl, h1, h2⟩
          refine ⟨r, rfl, ?_, h2⟩
          rw [h1, ← hO.id, hB.rtI i hO.iY, hqd]
        have SPN : Hid (∀ (j : Nat) (W : World), j < Y.length → Below w5.heap.size w5 W → Calls Tryz.prog 13 #[.pointer (some ⟨f, 0, none⟩), .int .u64 (fin j).id] W fun e w' => ∃ p', e = .returned (.tuple #[spV (spAt Y j) p', .bool true]) ∧ Below W.heap.size W w') := fun j W hj hb => by
          have hjX : j < X'.length := by rw [hB.fo.len]; exact hj
          refine (span_any f sb X' K rv R (fin j).id W (hF5.below hb)).mono ?_
          rintro e w' ⟨ht, hb'⟩
          rcases ht with ⟨k', hk', h1, p', rfl, _⟩ | ⟨h1, _⟩
          · have : k' = j := rise_same (hF5.below hb).rise hk' hjX (by rw [h1, hB.nd j hjX])
            subst this
            have e2 : X'[k'].a = spAt Y k' := by
              rw [(hB.fo.each k' hj hk').1]
              simp [spAt, List.getD, hj]
            exact ⟨p', by rw [e2], hb'⟩
          · exact absurd (by rw [hB.nd j hjX]) (h1 j hjX)
        have HZ : Hid ((q = 0 → og ≠ 0) ∧ (0 < q → og = 0) ∧ δ = (q : Int)) := by
          have := hB.orgZ i hO.iY
          rw [hog, ← hqd] at this
          exact ⟨this.1, this.2, by rw [← hδ, hdep, hqd]⟩
        have HO : Hid (OneX Y C dp fin X' a i A ∧ A.length = q ∧ q = dp i) := ⟨hO, hq, hqd⟩
        have HBR : Hid (Below w5.heap.size w5 wr) := hbr
        have hin' : (k : Int) < (n : Int) := by omega
        have hq1' : (q : Int) ≤ 1000 := by omega
        have BOX : Hid (∀ W, Upd (fun j => j = wr.heap.size) (wr.alloc (.cells zSpL.toArray 42)) W → Below wr.heap.size wr W ∧ Below w5.heap.size w5 W) := fun W hu => by
          have h0 : Below wr.heap.size wr W := ((Below.refl _ wr).alloc (Nat.le_refl _) _).trans (hu.below (by simp) (fun j hj e => by omega))
          exact ⟨h0, HBR.out.trans (h0.mono HBR.out.size)⟩
        clear hF5 hB hp hYn hm hrc hrow hbw hO SX ha hpp hq hqd hdep hδ hog hiX hbr hkn hfr htil htr hpr
        go_upto_region 18 with (first
          | (refine wpList_load_mid rfl 42 _ rfl b1 (o1 + k * 13) rfl (spC a p).toList _ RG.out Tryz.underlying42 rfl (by kernel_rfl) ?_)
          | (refine wpList_stW rfl 42 _ _ rfl wr.heap.size zSpL (spC a p).toList 42 (Blk.new _ _ _) rfl rfl rfl (by kernel_rfl) (spC_one _ _) ?_; intro w6 n6 u6; obtain ⟨hb6, hb56⟩ := BOX.out w6 u6; have HN6 : Hid (Blk w6 wr.heap.size (spC a p).toList.toArray 42 ∧ Below w5.heap.size w5 w6) := ⟨n6, hb56⟩; have e2 : w6.cell? ⟨wr.heap.size, 2, none⟩ = some (.int .u64 a.id) := n6.cell 2 rfl; have N1 := ND.out w6 hb56; clear n6 u6 hb6 hb56)
          | (go_at_call 21; refine N1.mono ?_; clear N1; rintro e w7 ⟨rfl, hb7⟩; have H7 : Hid (∀ o, Below w5.heap.size w5 (w7.alloc o) ∧ Blk (w7.alloc o) wr.heap.size (spC a p).toList.toArray 42) := (fun o => ⟨(HN6.out.2.trans (hb7.mono HN6.out.2.size)).alloc (Nat.le_trans HN6.out.2.size hb7.size) o, (Blk.below HN6.out.1 hb7 (Blk.lt HN6.out.1)).alloc o⟩); have e27 := fun (o : Obj) => (Blk.cell (H7.out o).2 2 (v := .int .u64 a.id) rfl); clear hb7)
          | (go_at_call 22; refine (AB.out _ (H7.out _).1).mono ?_; clear AB; rintro e w8 ⟨ad8, cap8, rfl, hrow8, hb8⟩; have H8 : Hid (∀ V, Below w8.heap.size w8 V → Below w5.heap.size w5 V ∧ Blk V wr.heap.size (spC a p).toList.toArray 42 ∧ Blk V w7.heap.size #[.int .u64 a.id, .int .u64 pr, .int .i64 og, .int .u64 tr, .int .i64 δ, .int .i64 fr, .int .i64 til] 49 ∧ V.ownsRow w5.heap.size 35 1 (.slice ad8 q cap8) q ((A.map (fun j => (fin j).id)).map (Value.int .u64))) := (fun V hb => ⟨((H7.out _).1.trans (hb8.mono (H7.out _).1.size)).trans (hb.mono (Nat.le_trans (H7.out _).1.size hb8.size)), Blk.below (Blk.below (H7.out _).2 hb8 (Blk.lt (H7.out _).2)) hb (Blk.lt (Blk.below (H7.out _).2 hb8 (Blk.lt (H7.out _).2))), Blk.below (Blk.below (Blk.new _ _ _) hb8 (by rw [World.size_alloc]; omega)) hb (Blk.lt (Blk.below (Blk.new _ _ _) hb8 (by rw [World.size_alloc]; omega))), owns_low (ownsRow_upd hrow8 (Upd.ofBelow (S := fun _ => False) hb (fun k h1 h2 => by omega)) (fun _ _ h => h)) (H7.out _).1.size⟩); clear hrow8 hb8))
        obtain ⟨bz, hbz⟩ : ∃ bz, (δ == 0) = bz := ⟨_, rfl⟩
        have hoz : (og != 0) = bz := by
          obtain ⟨z1, z2, z3⟩ := HZ.out
          rw [← hbz]
          by_cases h0 : q = 0
          · have := z1 h0
            have h2 : δ = 0 := by omega
            simp [this, h2]
          · have := z2 (by omega)
            have h2 : δ ≠ 0 := by omega
            simp [this, h2]
        have hqd' : ((q : Int) != δ) = false := by
          have := HZ.out.2.2
          simp [this]
        have FB := FR.out w8.drew (H8.out w8.drew ((Below.refl _ _).drew)).1
        obtain ⟨_, ns8, nx8, _⟩ := H8.out w8 (Below.refl _ _)
        have x0 : w8.cell? ⟨w7.heap.size, 0, none⟩ = some (.int .u64 a.id) := nx8.cell 0 rfl
        have x2 : w8.cell? ⟨w7.heap.size, 2, none⟩ = some (.int .i64 og) := nx8.cell 2 rfl
        have x4 : w8.cell? ⟨w7.heap.size, 4, none⟩ = some (.int .i64 δ) := nx8.cell 4 rfl
        have s2 : w8.cell? ⟨wr.heap.size, 2, none⟩ = some (.int .u64 a.id) := ns8.cell 2 rfl
        have HBZ : Hid ((bz = true ↔ q = 0)) := by
          have := HZ.out.2.2
          show bz = true ↔ q = 0
          rw [← hbz, beq_iff_eq]
          omega
        clear ns8 nx8 e2 e27 FR
        go_region_held3 (fun W => W.cell? ⟨w7.heap.size, 0, none⟩ = some (.int .u64 a.id) ∧ W.cell? ⟨w7.heap.size, 2, none⟩ = some (.int .i64 og) ∧ W.cell? ⟨w7.heap.size, 4, none⟩ = some (.int .i64 δ) ∧ W.cell? ⟨wr.heap.size, 2, none⟩ = some (.int .u64 a.id)) (exact ⟨x0, x2, x4, s2⟩)
          (first
            | (go_at_call 23; refine FB.mono ?_; clear FB; rintro e w9 ⟨r, rfl, hr, rfl⟩; have hrb : decide (0 ≤ r) = bz := (by cases hh : bz with | true => exact decide_eq_true (hr.2 (HBZ.out.1 hh)) | false => exact decide_eq_false (fun h5 => by have := HBZ.out.2 (hr.1 h5); rw [hh] at this; cases this)); clear hr))
        obtain ⟨s0, hs0⟩ : ∃ s0, wr.heap.size = s0 := ⟨_, rfl⟩
        obtain ⟨V, hV⟩ : ∃ V, w8.drew = V := ⟨_, rfl⟩
        have HV : Hid (∀ W, Below V.heap.size V W → Below w5.heap.size w5 W ∧ Blk W s0 (spC a p).toList.toArray 42 ∧ Blk W w7.heap.size #[.int .u64 a.id, .int .u64 pr, .int .i64 og, .int .u64 tr, .int .i64 δ, .int .i64 fr, .int .i64 til] 49 ∧ W.ownsRow w5.heap.size 35 1 (.slice ad8 q cap8) q ((A.map (fun j => (fin j).id)).map (Value.int .u64))) := fun W hb => by
          rw [← hs0]
          subst hV
          exact H8.out W (((Below.refl _ _).drew).trans (hb.mono (Nat.le_refl _)))
        obtain ⟨_, nsV, nxV, _⟩ := HV.out V (Below.refl _ _)
        have c9 : V.cell? ⟨s0, 9, none⟩ = some (.int .i64 a.start) := nsV.cell 9 rfl
        have c10 : V.cell? ⟨s0, 10, none⟩ = some (.int .i64 a.fin) := nsV.cell 10 rfl
        rw [hs0, hV]
        clear nsV nxV x0 x2 x4 s2 hs0 hV H8 HN6 H7 HBR BOX RG hrb
        go_wp2
        go_loopw [15] (fun z wq => ∃ (t : Nat) (c1 c2 : Int), z = .int .i64 t ∧ t ≤ q ∧ (c1, c2) = inAll Y i (A.take t) ∧ Blk wq V.heap.size #[.int .i64 c1, .int .i64 c2] 47 ∧ Below V.heap.size V wq) (fun z _ => q - (intOf z).toNat)
        case atStart =>
          refine ⟨0, a.start, a.fin, rfl, by omega, ?_, Blk.new _ _ _, (Below.refl _ _).alloc (Nat.le_refl _) _⟩
          rw [List.take_zero]
          show _ = ivY Y i
          unfold ivY
          rw [HO.out.1.sp]
        case round =>
          obtain ⟨t, c1, c2, rfl, htq, hc, hcb, hbq⟩ := hrel
          obtain ⟨b5q, _, nxq, rowq⟩ := HV.out wr hbq
          by_cases hlt2 : t < q
          · obtain ⟨gu, hgu⟩ : ∃ gu, ad8 = some ⟨gu, 0, none⟩ := by
              obtain ⟨q', rfl⟩ : ∃ q', q = q' + 1 := ⟨q - 1, by omega⟩
              exact owns_some rowq
            subst hgu
            have htA : t < A.length := by rw [HO.out.2.1]; exact hlt2
            obtain ⟨j, hj⟩ : ∃ j, A[t]'htA = j := ⟨_, rfl⟩
            have hjY : j < Y.length := by rw [← hj]; exact (HO.out.1.anc.mem _ (List.getElem_mem htA)).1
            have cu : wr.cell? ⟨gu, t, none⟩ = some (.int .u64 (fin j).id) := owns_cellU rowq (by simp [htA, hj])
            have hnx : inAll Y i (A.take (t + 1)) = (max c1 (spAt Y j).start, min c2 (spAt Y j).fin) := by
              unfold inAll at hc ⊢
              rw [List.take_succ_eq_append_getElem htA, List.foldl_append, ← hc, hj]
              rfl
            have HNX : Hid (inAll Y i (A.take (t + 1)) = (max c1 (spAt Y j).start, min c2 (spAt Y j).fin)) := hnx
            have SP := SPN.out j wr hjY b5q
            have HCB : Hid (Blk wr V.heap.size #[.int .i64 c1, .int .i64 c2] 47 ∧ Below V.heap.size V wr) := ⟨hcb, hbq⟩
            have hin2 : (t : Int) < (q : Int) := by omega
            unfold spV at SP
            clear hc hcb hbq b5q nxq rowq hj hnx hjY htA c9 c10
            go_wp2_with (first
              | (go_at_call 13; refine SP.mono ?_; clear SP; rintro e w10 ⟨p', rfl, hb10⟩)
              | (refine wpList_stW rfl 42 _ _ rfl w10.heap.size zSpL (spC (spAt Y j) p').toList 42 (Blk.new _ _ _) rfl rfl rfl (by kernel_rfl) (spC_one _ _) ?_; intro w11 n11 u11; have b11 : Below wr.heap.size wr w11 := (hb10.alloc hb10.size _).trans (u11.below (by rw [World.size_alloc]; have := hb10.size; omega) (fun k hk e => by have := hb10.size; omega)); have e9 : w11.cell? ⟨w10.heap.size, 9, none⟩ = some (.int .i64 (spAt Y j).start) := n11.cell 9 rfl; have e10 : w11.cell? ⟨w10.heap.size, 10, none⟩ = some (.int .i64 (spAt Y j).fin) := n11.cell 10 rfl; have B11 : Blk w11 V.heap.size #[.int .i64 c1, .int .i64 c2] 47 := Blk.below HCB.out.1 b11 (Blk.lt HCB.out.1); have d0 : w11.cell? ⟨V.heap.size, 0, none⟩ = some (.int .i64 c1) := B11.cell 0 rfl; have d1 : w11.cell? ⟨V.heap.size, 1, none⟩ = some (.int .i64 c2) := B11.cell 1 rfl; have z0 := B11.frozen 0; have z1 := B11.frozen 1; have hne : V.heap.size ≠ w10.heap.size := (fun e => by have := Blk.lt HCB.out.1; have := hb10.size; omega); have HB11 : Hid (Blk w11 V.heap.size #[.int .i64 c1, .int .i64 c2] 47 ∧ Below V.heap.size V w11) := ⟨B11, HCB.out.2.trans (b11.mono HCB.out.2.size)⟩; clear n11 u11 b11 B11 hb10))
            refine ⟨⟨t + 1, _, _, by simp, by omega, HNX.out.symm, (HB11.out.1.set 0 _).set 1 _, ?_⟩, by (simp [intOf]; try omega)⟩
            exact (HB11.out.2.setCell (p := ⟨V.heap.size, 0, none⟩) (Nat.le_refl _) _).setCell (p := ⟨V.heap.size, 1, none⟩) (Nat.le_refl _) _
          · have hni2 : ¬ (t : Int) < (q : Int) := by omega
            have hAt : A.take t = A := List.take_of_length_le (by rw [HO.out.2.1]; omega)
            rw [hAt] at hc
            obtain ⟨g1, g2, g3, g4⟩ := HG.out
            obtain ⟨l1, l2⟩ := HO.out.1.anc.clip
            rw [← hc, g1, g2] at l1
            rw [← hc, g1, g2] at l2
            have l1' : c1 < c2 → fr = c1 ∧ til = c2 := fun h => by have := l1 h; simpa using this
            have l2' : ¬ c1 < c2 → fr = til := l2
            have hfl : fr ≤ til := by
              have := (HS.out.1.2.1.inn (dp i) i rfl HO.out.1.iY).2.1
              rwa [g1, g2] at this
            have dlt : decide (til < fr) = false := decide_eq_false (by omega)
            obtain ⟨_, nsq, _, _⟩ := HV.out wr hbq
            have y1 : wr.cell? ⟨w7.heap.size, 1, none⟩ = some (.int .u64 pr) := nxq.cell 1 rfl
            have y3 : wr.cell? ⟨w7.heap.size, 3, none⟩ = some (.int .u64 tr) := nxq.cell 3 rfl
            have y4 : wr.cell? ⟨w7.heap.size, 4, none⟩ = some (.int .i64 δ) := nxq.cell 4 rfl
            have y5 : wr.cell? ⟨w7.heap.size, 5, none⟩ = some (.int .i64 fr) := nxq.cell 5 rfl
            have y6 : wr.cell? ⟨w7.heap.size, 5 + 1, none⟩ = some (.int .i64 til) := nxq.cell 6 rfl
            have s2 : wr.cell? ⟨s0, 2, none⟩ = some (.int .u64 a.id) := nsq.cell 2 rfl
            have d0 : wr.cell? ⟨V.heap.size, 0, none⟩ = some (.int .i64 c1) := hcb.cell 0 rfl
            have d1 : wr.cell? ⟨V.heap.size, 1, none⟩ = some (.int .i64 c2) := hcb.cell 1 rfl
            have d1' : wr.cell? ⟨V.heap.size, 0 + 1, none⟩ = some (.int .i64 c2) := hcb.cell 1 rfl
            have HQ : Hid (Below V.heap.size V wr ∧ Below w5.heap.size w5 wr) := ⟨hbq, b5q⟩
            clear hc hcb hbq b5q nxq nsq hAt l1 l2 c9 c10 hlt2 htq hfl
            cases bz with
            | true =>
              have hq0 : q = 0 := HBZ.out.1 rfl
              have hroot : tr = a.id ∧ pr = 0 := by
                rcases HS.out.1.2.1.two i HO.out.1.iY with ⟨_, _, _, _, _, e4, e5⟩ | ⟨j, _, _, e1, _⟩
                · exact ⟨by rw [← g3, e4, HO.out.1.id], by rw [← g4, e5]⟩
                · have := HO.out.2.2
                  omega
              obtain ⟨rfl, rfl⟩ := hroot
              clear hq0 g1 g2 g3 g4 HG
              by_cases hcc : c1 < c2
              · obtain ⟨rfl, rfl⟩ := l1' hcc
                clear l1' l2'
                go_wp2
                go_roundw
                case rel => exact ⟨k + 1, by simp, by omega, HQ.out.2⟩
                case measure => (simp [intOf]; try omega)
              · obtain rfl := l2' hcc
                clear l1' l2'
                go_wp2
                go_roundw
                case rel => exact ⟨k + 1, by simp, by omega, HQ.out.2⟩
                case measure => (simp [intOf]; try omega)
            | false =>
              have hq0 : 0 < q := by
                rcases Nat.eq_zero_or_pos q with h0 | h0
                · have := HBZ.out.2 h0
                  cases this
                · exact h0
              obtain ⟨q', hq'⟩ : ∃ q', q = q' + 1 := ⟨q - 1, by omega⟩
              obtain ⟨j, A', hAj⟩ : ∃ j A', A = j :: A' := by
                cases hA : A with
                | nil =>
                  have := HO.out.2.1
                  rw [hA] at this
                  simp at this
                  omega
                | cons j r => exact ⟨j, r, rfl⟩
              obtain ⟨gu, hgu⟩ : ∃ gu, ad8 = some ⟨gu, 0, none⟩ := by
                have := (HV.out wr HQ.out.1).2.2.2
                rw [hq'] at this
                exact owns_some this
              have hHK : HangK Y dp fin K i j := HS.out.1.2.1.hangK HO.out.1.iY (by rw [← hAj]; exact HO.out.1.ancR)
              have hpar : pr = a.par := by rw [← g4, hHK.own, HO.out.1.sp]
              have htrl : ∃ z, A[q']? = some z ∧ (fin z).id = tr := by
                have hl : q' < A.length := by rw [HO.out.2.1]; omega
                refine ⟨A[q'], List.getElem?_eq_getElem hl, ?_⟩
                have h2 : A.getLast? = some A[q'] := by
                  rw [List.getLast?_eq_getElem?, show A.length - 1 = q' by rw [HO.out.2.1]; omega]
                  exact List.getElem?_eq_getElem hl
                rw [← HO.out.1.anc.last _ h2]
                exact g3
              obtain ⟨δ', hδ'⟩ : ∃ δ', δ - 1 = δ' := ⟨_, rfl⟩
              obtain ⟨fj, hfj⟩ : ∃ fj, (fin j).fr = fj := ⟨_, rfl⟩
              obtain ⟨tj, htj⟩ : ∃ tj, (fin j).til = tj := ⟨_, rfl⟩
              obtain ⟨c, hcK⟩ : ∃ c, (knK K j).length = c := ⟨_, rfl⟩
              have hdl : δ = (q : Int) := HZ.out.2.2
              subst hgu
              have hid : (fin j).id = a.par := by rw [← hHK.par, g4, hpar]
              have NDJ : Calls Tryz.prog 21 #[.pointer (some ⟨f, 0, none⟩), .int .u64 a.par] wr fun e w' => e = .returned (.tuple #[.agg #[.int .u64 a.par, .int .u64 (fin j).par, .int .i64 (fin j).org, .int .u64 tr, .int .i64 δ', .int .i64 fj, .int .i64 tj], .bool true]) ∧ Below wr.heap.size wr w' := by
                have hB := HS.out.1.2.1
                have hjX : j < X'.length := by rw [hB.fo.len]; exact hHK.jY
                have := node_at (HS.out.1.1.below HQ.out.2) j hjX a.par (by rw [hB.nd j hjX]; exact hid)
                rw [hB.nd j hjX] at this
                unfold ndV at this
                have e1 : (fin j).dep = δ' := by
                  rw [hHK.dep, ← hδ']
                  have h1 := HS.out.1.2.1.dep (dp i) i rfl HO.out.1.iY
                  have h2 := HO.out.2.2
                  omega
                rwa [hid, hHK.tree, g3, e1, hfj, htj] at this
              have CHJ : Hid (∀ W, Below w5.heap.size w5 W → Calls Tryz.prog 16 #[.pointer (some ⟨f, 0, none⟩), .int .u64 a.par] W fun e w' => ∃ r, e = .returned (.slice (some ⟨r, 0, none⟩) c c) ∧ Blk w' r (fillC .u64 ((knK K j).map (fun c => (fin c).id)) 0) 35 ∧ Below W.heap.size W w') := fun W hb => by
                have := kidsB HS.out.1.1 HS.out.1.2.1 hb j hHK.jY
                rwa [hid, hcK] at this
              have ORJ : Hid (∀ (W : World) (r : Nat), Below w5.heap.size w5 W → Blk W r (fillC .u64 ((knK K j).map (fun c => (fin c).id)) 0) 35 → Calls Tryz.prog 19 #[.pointer (some ⟨f, 0, none⟩), .slice (some ⟨r, 0, none⟩) c c] W fun e W' => e = .returned (.bool true) ∧ Below W.heap.size W W') := fun W r hb hB => orderK HS.out.1.1 HS.out.1.2.1 hb j hHK.jY r c c hcK hB
              have FIJ : Hid (∀ (W : World) (r : Nat), Blk W r (fillC .u64 ((knK K j).map (fun c => (fin c).id)) 0) 35 → Calls Tryz.prog 23 #[.slice (some ⟨r, 0, none⟩) c c, .int .u64 a.id] W fun e w' => ∃ r', e = .returned (.int .i64 r') ∧ 0 ≤ r' ∧ w' = W) := fun W r hB => by
                have hjX : j < X'.length := by rw [HS.out.1.2.1.fo.len]; exact hHK.jY
                refine (find_list ((knK K j).map (fun c => (fin c).id)) r c c a.id W (by rw [List.length_map]; exact hcK) (by rw [← hcK]; exact (HS.out.1.2.1.kn j hjX).2.2) (fun _ => hB)).mono ?_
                rintro e w' ⟨r', rfl, h1, h2⟩
                exact ⟨r', rfl, h1.2 (by rw [← HO.out.1.id]; exact hHK.kid), h2⟩
              have HC : Hid (∀ W, Below V.heap.size V W → W.cell? ⟨w7.heap.size, 1, none⟩ = some (.int .u64 a.par) ∧ W.cell? ⟨w7.heap.size, 3, none⟩ = some (.int .u64 tr) ∧ W.cell? ⟨w7.heap.size, 4, none⟩ = some (.int .i64 δ) ∧ W.cell? ⟨w7.heap.size, 5, none⟩ = some (.int .i64 fr) ∧ W.cell? ⟨w7.heap.size, 5 + 1, none⟩ = some (.int .i64 til) ∧ W.cell? ⟨s0, 2, none⟩ = some (.int .u64 a.id) ∧ W.cell? ⟨s0, 3, none⟩ = some (.int .u64 a.par) ∧ W.cell? ⟨gu, 0, none⟩ = some (.int .u64 a.par) ∧ W.cell? ⟨gu, q', none⟩ = some (.int .u64 tr)) := fun W hb => by
                obtain ⟨_, n1, n2, n3⟩ := HV.out W hb
                obtain ⟨z, z1, z2⟩ := htrl
                refine ⟨by rw [← hpar]; exact n2.cell 1 rfl, n2.cell 3 rfl, n2.cell 4 rfl, n2.cell 5 rfl, n2.cell 6 rfl, n1.cell 2 rfl, n1.cell 3 rfl, owns_cellU n3 ?_, owns_cellU n3 ?_⟩
                · rw [hAj]
                  simp [hid]
                · rw [List.getElem?_map, List.getElem?_map, z1]
                  simp [z2]
              have hle1 : decide (fr < fj) = false := decide_eq_false (by have := hHK.fr; rw [g1, hfj] at this; omega)
              have hle2 : decide (tj < til) = false := decide_eq_false (by have := hHK.til; rw [g2, htj] at this; omega)
              have hsubq : (q : Int) - 1 = (q' : Int) := by omega
              have hwrq : IntKind.i64.wrap (q' : Int) = (q' : Int) := by simp [IntKind.wrap, IntKind.bits, IntKind.signed]; omega
              have hwrd : IntKind.i64.wrap δ' = δ' := by simp [IntKind.wrap, IntKind.bits, IntKind.signed]; omega
              have hqi : (q' : Int) < (q : Int) := by omega
              have hq0i : (0 : Int) < (q : Int) := by omega
              have hqi0 : (0 : Int) ≤ (q' : Int) := by omega
              subst hpar
              clear hq' hAj hHK htrl hfj htj hcK hdl hid g1 g2 g3 g4 hqd' hoz
              by_cases hcc : c1 < c2
              · as_aux_lemma =>
                  obtain ⟨hf1, hf2⟩ := l1' hcc
                  subst hf1 hf2
                  clear l1' l2'
                  go_wp2_with (first
                    | (go_at_call 21; refine NDJ.mono ?_; clear NDJ; rintro e w12 ⟨rfl, hb12⟩; have H12 : Hid (∀ o, Below V.heap.size V (w12.alloc o) ∧ Below w5.heap.size w5 (w12.alloc o)) := (fun o => ⟨(HQ.out.1.trans (hb12.mono HQ.out.1.size)).alloc (Nat.le_trans HQ.out.1.size hb12.size) o, (HQ.out.2.trans (hb12.mono HQ.out.2.size)).alloc (Nat.le_trans HQ.out.2.size hb12.size) o⟩); have y1a := fun (o : Obj) => (HC.out _ (H12.out o).1).1; clear hb12)
                    | (go_at_call 16; refine (CHJ.out _ (H12.out _).2).mono ?_; clear CHJ; rintro e w13 ⟨rk, rfl, hk13, hb13⟩; have H13 : Hid (Below V.heap.size V w13 ∧ Below w5.heap.size w5 w13 ∧ Blk w13 w12.heap.size #[.int .u64 a.par, .int .u64 (fin j).par, .int .i64 (fin j).org, .int .u64 tr, .int .i64 δ', .int .i64 fj, .int .i64 tj] 49 ∧ Blk w13 rk (fillC .u64 ((knK K j).map (fun c => (fin c).id)) 0) 35) := ⟨(H12.out _).1.trans (hb13.mono (H12.out _).1.size), (H12.out _).2.trans (hb13.mono (H12.out _).2.size), Blk.below (Blk.new _ _ _) hb13 (by rw [World.size_alloc]; omega), hk13⟩; have OR := ORJ.out w13 rk H13.out.2.1 hk13; clear hk13 hb13)
                    | (go_at_call 19; refine OR.mono ?_; clear OR; rintro e w14 ⟨rfl, hb14⟩; have H14 : Hid (Below V.heap.size V w14 ∧ Below w5.heap.size w5 w14 ∧ Blk w14 w12.heap.size #[.int .u64 a.par, .int .u64 (fin j).par, .int .i64 (fin j).org, .int .u64 tr, .int .i64 δ', .int .i64 fj, .int .i64 tj] 49 ∧ Blk w14 rk (fillC .u64 ((knK K j).map (fun c => (fin c).id)) 0) 35) := ⟨H13.out.1.trans (hb14.mono H13.out.1.size), H13.out.2.1.trans (hb14.mono H13.out.2.1.size), Blk.below H13.out.2.2.1 hb14 (Blk.lt H13.out.2.2.1), Blk.below H13.out.2.2.2 hb14 (Blk.lt H13.out.2.2.2)⟩; clear hb14))
                  obtain ⟨k1, k3, k4, k5, k6, k2, k8, k9, k10⟩ := HC.out w14 H14.out.1
                  have p3 : w14.cell? ⟨w12.heap.size, 3, none⟩ = some (.int .u64 tr) := H14.out.2.2.1.cell 3 rfl
                  have p4 : w14.cell? ⟨w12.heap.size, 4, none⟩ = some (.int .i64 δ') := H14.out.2.2.1.cell 4 rfl
                  have p5 : w14.cell? ⟨w12.heap.size, 5, none⟩ = some (.int .i64 fj) := H14.out.2.2.1.cell 5 rfl
                  have p6 : w14.cell? ⟨w12.heap.size, 5 + 1, none⟩ = some (.int .i64 tj) := H14.out.2.2.1.cell 6 rfl
                  have FI := FIJ.out w14.drew rk H14.out.2.2.2
                  clear FIJ HC H12 H13 y1 y3 y4 y5 y6 s2 d0 d1 d1' y1a
                  simp only [List.append]
                  go_region_held3 (fun W => W.cell? ⟨w7.heap.size, 1, none⟩ = some (.int .u64 a.par) ∧ W.cell? ⟨w7.heap.size, 3, none⟩ = some (.int .u64 tr) ∧ W.cell? ⟨w7.heap.size, 4, none⟩ = some (.int .i64 δ) ∧ W.cell? ⟨w7.heap.size, 5, none⟩ = some (.int .i64 fr) ∧ W.cell? ⟨w7.heap.size, 5 + 1, none⟩ = some (.int .i64 til) ∧ W.cell? ⟨s0, 2, none⟩ = some (.int .u64 a.id) ∧ W.cell? ⟨s0, 3, none⟩ = some (.int .u64 a.par) ∧ W.cell? ⟨gu, 0, none⟩ = some (.int .u64 a.par) ∧ W.cell? ⟨gu, q', none⟩ = some (.int .u64 tr) ∧ W.cell? ⟨w12.heap.size, 3, none⟩ = some (.int .u64 tr) ∧ W.cell? ⟨w12.heap.size, 4, none⟩ = some (.int .i64 δ') ∧ W.cell? ⟨w12.heap.size, 5, none⟩ = some (.int .i64 fj) ∧ W.cell? ⟨w12.heap.size, 5 + 1, none⟩ = some (.int .i64 tj)) (exact ⟨k1, k3, k4, k5, k6, k2, k8, k9, k10, p3, p4, p5, p6⟩)
                    (first
                      | (go_at_call 23; refine FI.mono ?_; clear FI; rintro e w15 ⟨r', rfl, hr', rfl⟩; have hrd : decide (r' < 0) = false := decide_eq_false (by omega)))
                  go_wp2
                  go_roundw
                  case rel => exact ⟨k + 1, by simp, by omega, H14.out.2.1.trans ⟨rfl, rfl, rfl, Nat.le_refl _, fun _ _ => rfl⟩⟩
                  case measure => (simp [intOf]; try omega)
              · as_aux_lemma =>
                  have hf1 := l2' hcc
                  subst hf1
                  clear l1' l2'
                  go_wp2_with (first
                    | (go_at_call 21; refine NDJ.mono ?_; clear NDJ; rintro e w12 ⟨rfl, hb12⟩; have H12 : Hid (∀ o, Below V.heap.size V (w12.alloc o) ∧ Below w5.heap.size w5 (w12.alloc o)) := (fun o => ⟨(HQ.out.1.trans (hb12.mono HQ.out.1.size)).alloc (Nat.le_trans HQ.out.1.size hb12.size) o, (HQ.out.2.trans (hb12.mono HQ.out.2.size)).alloc (Nat.le_trans HQ.out.2.size hb12.size) o⟩); have y1a := fun (o : Obj) => (HC.out _ (H12.out o).1).1; clear hb12)
                    | (go_at_call 16; refine (CHJ.out _ (H12.out _).2).mono ?_; clear CHJ; rintro e w13 ⟨rk, rfl, hk13, hb13⟩; have H13 : Hid (Below V.heap.size V w13 ∧ Below w5.heap.size w5 w13 ∧ Blk w13 w12.heap.size #[.int .u64 a.par, .int .u64 (fin j).par, .int .i64 (fin j).org, .int .u64 tr, .int .i64 δ', .int .i64 fj, .int .i64 tj] 49 ∧ Blk w13 rk (fillC .u64 ((knK K j).map (fun c => (fin c).id)) 0) 35) := ⟨(H12.out _).1.trans (hb13.mono (H12.out _).1.size), (H12.out _).2.trans (hb13.mono (H12.out _).2.size), Blk.below (Blk.new _ _ _) hb13 (by rw [World.size_alloc]; omega), hk13⟩; have OR := ORJ.out w13 rk H13.out.2.1 hk13; clear hk13 hb13)
                    | (go_at_call 19; refine OR.mono ?_; clear OR; rintro e w14 ⟨rfl, hb14⟩; have H14 : Hid (Below V.heap.size V w14 ∧ Below w5.heap.size w5 w14 ∧ Blk w14 w12.heap.size #[.int .u64 a.par, .int .u64 (fin j).par, .int .i64 (fin j).org, .int .u64 tr, .int .i64 δ', .int .i64 fj, .int .i64 tj] 49 ∧ Blk w14 rk (fillC .u64 ((knK K j).map (fun c => (fin c).id)) 0) 35) := ⟨H13.out.1.trans (hb14.mono H13.out.1.size), H13.out.2.1.trans (hb14.mono H13.out.2.1.size), Blk.below H13.out.2.2.1 hb14 (Blk.lt H13.out.2.2.1), Blk.below H13.out.2.2.2 hb14 (Blk.lt H13.out.2.2.2)⟩; clear hb14))
                  obtain ⟨k1, k3, k4, k5, k6, k2, k8, k9, k10⟩ := HC.out w14 H14.out.1
                  have p3 : w14.cell? ⟨w12.heap.size, 3, none⟩ = some (.int .u64 tr) := H14.out.2.2.1.cell 3 rfl
                  have p4 : w14.cell? ⟨w12.heap.size, 4, none⟩ = some (.int .i64 δ') := H14.out.2.2.1.cell 4 rfl
                  have p5 : w14.cell? ⟨w12.heap.size, 5, none⟩ = some (.int .i64 fj) := H14.out.2.2.1.cell 5 rfl
                  have p6 : w14.cell? ⟨w12.heap.size, 5 + 1, none⟩ = some (.int .i64 tj) := H14.out.2.2.1.cell 6 rfl
                  have FI := FIJ.out w14.drew rk H14.out.2.2.2
                  clear FIJ HC H12 H13 y1 y3 y4 y5 y6 s2 d0 d1 d1' y1a
                  simp only [List.append]
                  go_region_held3 (fun W => W.cell? ⟨w7.heap.size, 1, none⟩ = some (.int .u64 a.par) ∧ W.cell? ⟨w7.heap.size, 3, none⟩ = some (.int .u64 tr) ∧ W.cell? ⟨w7.heap.size, 4, none⟩ = some (.int .i64 δ) ∧ W.cell? ⟨w7.heap.size, 5, none⟩ = some (.int .i64 fr) ∧ W.cell? ⟨w7.heap.size, 5 + 1, none⟩ = some (.int .i64 fr) ∧ W.cell? ⟨s0, 2, none⟩ = some (.int .u64 a.id) ∧ W.cell? ⟨s0, 3, none⟩ = some (.int .u64 a.par) ∧ W.cell? ⟨gu, 0, none⟩ = some (.int .u64 a.par) ∧ W.cell? ⟨gu, q', none⟩ = some (.int .u64 tr) ∧ W.cell? ⟨w12.heap.size, 3, none⟩ = some (.int .u64 tr) ∧ W.cell? ⟨w12.heap.size, 4, none⟩ = some (.int .i64 δ') ∧ W.cell? ⟨w12.heap.size, 5, none⟩ = some (.int .i64 fj) ∧ W.cell? ⟨w12.heap.size, 5 + 1, none⟩ = some (.int .i64 tj)) (exact ⟨k1, k3, k4, k5, k6, k2, k8, k9, k10, p3, p4, p5, p6⟩)
                    (first
                      | (go_at_call 23; refine FI.mono ?_; clear FI; rintro e w15 ⟨r', rfl, hr', rfl⟩; have hrd : decide (r' < 0) = false := decide_eq_false (by omega)))
                  go_wp2
                  go_roundw
                  case rel => exact ⟨k + 1, by simp, by omega, H14.out.2.1.trans ⟨rfl, rfl, rfl, Nat.le_refl _, fun _ _ => rfl⟩⟩
                  case measure => (simp [intOf]; try omega)
      · have hni : ¬ (k : Int) < (n : Int) := by omega
        have FT := fitsB hF5 hB hbr w2.heap.size n cap3 ad3 hYn (ownsRow_upd hrow (Upd.ofBelow (S := fun _ => False) hbr (fun k h1 h2 => by omega)) (fun _ _ h => h))
        have HB : Hid (Below w.heap.size w wr) := hbw.trans (hbr.mono hbw.size)
        clear hF5 hB hp hYn hm hrc hrow hbw hbr hlt hkn HS
        go_wp2_with (go_at_call 24; refine FT.mono ?_; clear FT; rintro e w9 ⟨rfl, hb9⟩)
        go_ret
        exact ⟨rfl, HB.out.trans (hb9.mono HB.out.size)⟩
  · go_ret
    exact ⟨rfl, h2⟩
end Go.Proofs.YtbdkaanmkegfiaaGreatDoor
