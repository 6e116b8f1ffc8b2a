/-
  RzM.
-/
import Derived.Test.YtiflfapdffkcbaaGreatDoorRzL
namespace Go.Proofs.YtiflfapdffkcbaaGreatDoor
open Go Go.RowKit Go.Maps Go.WideMaps
set_option maxRecDepth 100000

theorem cmpI_lt {a b : Int} (h : cmpI a b < 0) : a < b := by
  unfold cmpI at h
  split at h
  · assumption
  · split at h <;> omega
theorem rise_parts {a b : Sp} (h : cmpN a b < 0) : (a.hi ≠ b.hi ∧ a.hi < b.hi) ∨ (a.hi = b.hi ∧ a.lo < b.lo) ∨ (a.hi = b.hi ∧ a.lo = b.lo ∧ a.id < b.id) := by
  unfold cmpN at h
  simp only [orL, orI_zero] at h
  unfold orI at h
  split at h
  · have e1 := (good_cmpI.eq a.hi b.hi).1 ‹_›
    split at h
    · have e2 := (good_cmpI.eq a.lo b.lo).1 ‹_›
      exact Or.inr (Or.inr ⟨e1, e2, cmpI_lt h⟩)
    · exact Or.inr (Or.inl ⟨e1, cmpI_lt h⟩)
  · have := cmpI_lt h
    exact Or.inl ⟨by omega, this⟩
set_option maxHeartbeats 2000000 in
theorem traceLess_any (a1 a2 b1 b2 : Int) (w : World) :
    Calls Tryz.prog 14 #[.agg #[.int .u64 a1, .int .u64 a2], .agg #[.int .u64 b1, .int .u64 b2]] w fun e w' => e = .returned (.bool (if a1 = b1 then decide (a2 < b2) else decide (a1 < b1))) ∧ Below w.heap.size w w' := by
  have B2 : ∀ o1 o2, Below w.heap.size w ((w.alloc o1).alloc o2) := fun o1 o2 => ((Below.refl _ _).alloc (Nat.le_refl _) _).alloc (by simp) _
  have HB : Hid _ := B2
  clear B2
  by_cases h : a1 = b1
  · subst h
    have hb : (a1 != a1) = false := by simp
    rw [if_pos rfl]
    go_enter Tryz.func14, Tryz.ntmps14
    go_wp2
    go_ret
    exact ⟨rfl, HB.out _ _⟩
  · have hb : (a1 != b1) = true := by simpa using h
    rw [if_neg h]
    clear h
    go_enter Tryz.func14, Tryz.ntmps14
    go_wp2
    go_ret
    exact ⟨rfl, HB.out _ _⟩
/-- Two stores beside one another, within a law. -/
structure TwE (w W : World) (s t : Nat) (S : Nat → Prop) (L K : List Sp) : Prop where
  a : StQ W s S L
  abase : ∀ k, S k → w.heap.size ≤ k
  b : ∃ R, StQ W t R K ∧ (∀ k, R k → w.heap.size ≤ k) ∧ ∀ k, R k → ¬ S k
  low : Below w.heap.size w W
theorem TwE.below {w W V : World} {s t : Nat} {S : Nat → Prop} {L K : List Sp} (h : TwE w W s t S L K) (hb : Below W.heap.size W V) : TwE w V s t S L K := by
  obtain ⟨R, h1, h2, h3⟩ := h.b
  exact ⟨h.a.below hb, h.abase, ⟨R, h1.below hb, h2, h3⟩, h.low.trans (hb.mono h.low.size)⟩
/-- One more span into the second one. -/
theorem TwE.one {w W V : World} {s t : Nat} {S : Nat → Prop} {L K M : List Sp} (h : TwE w W s t S L (runP [] K).1) (hV : Below W.heap.size W V) (B : Nat) (hB : W.heap.size ≤ B) (a : Sp) (p : Pl) (hBk : Blk V B (spC a p) 41) (ha : SpAt w a p) (hF : a.Fits) (hS : a.Small) (hT : Tabs w) (hM : fitsL [] M = 0) (hK : ∀ x ∈ K, x ∈ M) (hm : a ∈ M) :
    Calls Tryz.prog 8 #[.pointer (some ⟨t, 0, none⟩), .slice (some ⟨B, 0, none⟩) 1 1] V fun e w' => ∃ r, e = .returned (.tuple #[.slice (some ⟨r, 0, none⟩) 1 1, .int .i64 0]) ∧ TwE w w' s t S L (runP [] (K ++ [a])).1 := by
  obtain ⟨hf, he⟩ := fits_one hM hK hm
  obtain ⟨R, h1, h2, h3⟩ := h.b
  have hlow : Below w.heap.size w V := h.low.trans (hV.mono h.low.size)
  have hup : ∀ {W' : World}, Upd R V W' → Below w.heap.size w W' := fun hu => hlow.trans (hu.below hlow.size (fun k hk hs => by have := h2 k hs; omega))
  refine (put9 (h1.below hV) (some ⟨B, 0, none⟩) 1 1 [a] (fun _ => p) (fun W' hu => ?_) (fun x hx => by rw [List.mem_singleton.1 hx]; exact hF) (fun x hx => by rw [List.mem_singleton.1 hx]; exact hS) (hT.below hlow) (by omega)).mono ?_
  · refine ⟨rfl, fun _ => ⟨B, 0, rfl, fun i hi j u hu2 => ?_⟩, fun i hi => ?_⟩
    · have hi0 : i = 0 := by simpa using hi
      subst hi0
      have hb2 : Blk W' B (spC a p) 41 := hBk.upd hu (fun hr => by have := h1.lt B hr; omega)
      simpa using hb2.cell j hu2
    · have hi0 : i = 0 := by simpa using hi
      subst hi0
      exact ha.below (hup hu)
  · rintro e w' (⟨hne, _⟩ | ⟨_, r, rfl, q2, _, _, q5⟩)
    · exact absurd hf hne
    · rw [he] at q2
      have hVs := hV.size
      refine ⟨r, rfl, (h.a.below hV).upd q5 h3, h.abase, ⟨_, q2, fun k hk => ?_, fun k hk hs => ?_⟩, hup q5⟩
      · rcases hk with q | q
        · exact h2 k q
        · exact Nat.le_trans hlow.size q.1
      · rcases hk with q | q
        · exact h3 k q hs
        · have := h.a.lt k hs
          omega
theorem TwE.toldA {w W : World} {s t : Nat} {S : Nat → Prop} {L K : List Sp} (h : TwE w W s t S L K) : Calls Tryz.prog 10 #[.pointer (some ⟨s, 0, none⟩)] W fun e w' => ToldP9 W L e w' := told9 h.a
theorem TwE.toldB {w W : World} {s t : Nat} {S : Nat → Prop} {L K : List Sp} (h : TwE w W s t S L K) : Calls Tryz.prog 10 #[.pointer (some ⟨t, 0, none⟩)] W fun e w' => ToldP9 W K e w' := by
  obtain ⟨R, h1, _⟩ := h.b
  exact told9 h1
/-- The two have the same spans. -/
theorem order_same {L : List Sp} (x : Sp) : x ∈ (runP [] (backL L (2 * L.length))).1 ↔ x ∈ (runP [] L).1 := by
  rw [run_eq, run_eq, (fold_top _ (L := []) List.nodup_nil).2 x, (fold_top _ (L := []) List.nodup_nil).2 x]
  unfold Top
  simp only [backL_all]
theorem order_find {L : List Sp} {a : Sp} (ha : a ∈ L) : ∃ y, findL (runP [] L).1 (nmS a) = some y ∧ 0 ≤ cmpP y a := by
  rw [run_eq]
  have hn := (fold_top L (L := []) List.nodup_nil).1
  obtain ⟨z, hz, ez, _⟩ := fold_dom L (L := []) List.nodup_nil a (Or.inr ha)
  have hs : (findL (L.foldl putLs []) (nmS a)).isSome = true := by
    unfold findL
    rw [List.find?_isSome]
    exact ⟨z, hz, by rw [ez]; exact decide_eq_true rfl⟩
  obtain ⟨y, hy⟩ := Option.isSome_iff_exists.1 hs
  refine ⟨y, hy, ?_⟩
  have hy2 := findL_some hy
  have ht := ((fold_top L (L := []) List.nodup_nil).2 y).1 hy2.1
  have h1 := ht.2 a (Or.inr ha) hy2.2.symm
  have h2 := good_cmpP.anti a y
  omega
/-- What stays while the list is compared. -/
theorem order_mem {L Y : List Sp} (hY : ∀ y, y ∈ Y ↔ y ∈ (runP [] L).1) {y : Sp} (h : y ∈ Y) : y ∈ L := by
  have h1 := (hY y).1 h
  rw [run_eq] at h1
  rcases (((fold_top L (L := []) List.nodup_nil).2 y).1 h1).1 with h2 | h2
  · cases h2
  · exact h2
theorem lay_before {wr V w5 : World} {y : Sp} {p : Pl} {cs0 cs : Array Value} (hs : V.heap.size = wr.heap.size + 1) (R5 : w5.heap[wr.heap.size]? = some (.cells cs0 41 (0, 0))) (hst : ∀ W : World, (∀ j, V.heap.size ≤ j → W.heap[j]? = w5.heap[j]?) → SpAt W y p) (hb : Below wr.heap.size wr w5) : Blk (w5.setRow wr.heap.size cs) wr.heap.size cs 41 ∧ SpAt (w5.setRow wr.heap.size cs) y p ∧ Below wr.heap.size wr (w5.setRow wr.heap.size cs) :=
  ⟨setRow_heap _ _ _ _ _ _ R5, hst _ (fun j hj => setRow_other9 _ _ _ _ (by omega)), below_setRow hb (Nat.le_refl _) _⟩
theorem lay_new {wr w5 : World} {y : Sp} {p : Pl} {cs : Array Value} (hst : SpAt w5 y p) (hb : Below wr.heap.size wr w5) : Blk (w5.alloc (.cells cs 41)) w5.heap.size cs 41 ∧ SpAt (w5.alloc (.cells cs 41)) y p ∧ Below wr.heap.size wr (w5.alloc (.cells cs 41)) := by
  have h1 : Below w5.heap.size w5 (w5.alloc (.cells cs 41)) := (Below.refl _ _).alloc (Nat.le_refl _) _
  exact ⟨Blk.new _ _ _, hst.below h1, hb.trans (h1.mono hb.size)⟩
set_option maxHeartbeats 64000000 in
theorem storeOrder_any (ad : Option Addr) (n cp : Nat) (L : List Sp) (P : Nat → Pl) (w : World) (hX : SpsAt w ad n L P) (hF : ∀ a ∈ L, a.Fits) (hS : ∀ a ∈ L, a.Small) (hn : n ≤ 900000000000) (hT : Tabs w) :
    Calls Tryz.prog 3 #[.slice ad n cp] w fun e w' => e = .returned (.bool true) ∧ Below w.heap.size w w' := by
  have HX : Hid (SpsAt w ad n L P ∧ (∀ a ∈ L, a.Fits) ∧ ∀ a ∈ L, a.Small) := ⟨hX, hF, hS⟩
  have HT : Hid (∀ W, Below w.heap.size w W → Tabs W) := fun W hb => hT.below hb
  have HLN : Hid (L.length = n) := hX.len
  have AL := alive_any w hT
  clear hX hF hS hT
  go_enter Tryz.func3, Tryz.ntmps3
  obtain ⟨f, hf⟩ : ∃ x, fitsL [] L = x := ⟨_, rfl⟩
  have HF : Hid (fitsL [] L = f) := hf
  clear hf
  by_cases hf0 : f = 0
  · subst hf0
    obtain ⟨LA, hLA⟩ : ∃ x, (runP [] L).1 = x := ⟨_, rfl⟩
    have HLA : Hid ((runP [] L).1 = LA) := hLA
    clear hLA
    go_upto_region 9 with (first
      | (go_at_call 6; (with_reducible refine AL.mono ?_); clear AL; rintro e w1 ⟨rfl, hb1⟩; have H1 : Hid (Below w.heap.size w w1) := hb1; have NW := new9 w1; clear hb1)
      | (go_at_call 7; (with_reducible refine NW.mono ?_); clear NW; rintro e w2 ⟨sa, rfl, hst, hb⟩; have H2 : Hid (ChE w w2 sa (fun k => w1.heap.size ≤ k ∧ k < w2.heap.size) []) := ⟨hst, fun k hk => Nat.le_trans H1.out.size hk.1, H1.out.trans (hb.mono H1.out.size)⟩; have NV := new9 w2; clear hst hb)
      | (go_at_call 7; (with_reducible refine NV.mono ?_); clear NV; rintro e w3 ⟨sb, rfl, hst, hb⟩; have H3 : Hid (ChE w w3 sa (fun k => w1.heap.size ≤ k ∧ k < w2.heap.size) [] ∧ StQ w3 sb (fun k => w2.heap.size ≤ k ∧ k < w3.heap.size) [] ∧ w.heap.size ≤ w2.heap.size) := ⟨H2.out.below hb, hst, H2.out.low.size⟩; have PT := put9 H3.out.1.st ad n cp L P (H3.out.1.args HX.out.1) HX.out.2.1 HX.out.2.2 (HT.out _ H3.out.1.low) hn; clear hst hb H1 H2)
      | (go_at_call 8; (with_reducible refine PT.mono ?_); clear PT; rintro e w4 hp; rcases hp with ⟨hne, _⟩ | ⟨_, r, rfl, h2, _, _, h5⟩; exact absurd HF.out hne; have h4 := H3.out.1.putOk h2 h5; rw [HLA.out] at h4; obtain ⟨SA, hSA⟩ : ∃ x, (fun k => (fun k => w1.heap.size ≤ k ∧ k < w2.heap.size) k ∨ (w3.heap.size ≤ k ∧ k < w4.heap.size)) = x := ⟨_, rfl⟩; have H4 : Hid (TwE w w4 sa sb SA LA (runP [] (backL L 0)).1) := (by rw [hSA] at h4; exact ⟨h4.st, h4.base, ⟨_, H3.out.2.1.upd h5 (fun k k1 k2 => by omega), fun k hk => Nat.le_trans H3.out.2.2 hk.1, fun k hk hs => by rw [← hSA] at hs; rcases hs with q | q <;> omega⟩, h4.low⟩); clear h2 h5 h4 hSA H3))
    have hn2 : IntKind.i64.wrap (2 * (n : Int)) = 2 * (n : Int) := by rw [IntKind.wrap_i64]; omega
    have hn3 : IntKind.i64.wrap (2 * (n : Int) - 1) = 2 * (n : Int) - 1 := by rw [IntKind.wrap_i64]; omega
    go_wp2
    go_loopw [8] (fun z wr => ∃ (i : Int) (k : Nat), z = .int .i64 i ∧ -1 ≤ i ∧ i ≤ 1800000000000 ∧ Hid (i + k + 1 = 2 * n) ∧ Hid (TwE w wr sa sb SA LA (runP [] (backL L k)).1)) (fun z _ => (intOf z + 1).toNat)
    case atStart => exact ⟨_, 0, rfl, by omega, by omega, (by omega : 2 * (n : Int) - 1 + ((0 : Nat) : Int) + 1 = 2 * n), H4⟩
    case round =>
      obtain ⟨i, k, rfl, hi1, hi2, HIK, HI⟩ := hrel
      by_cases hi0 : 0 ≤ i
      · obtain ⟨j, rfl⟩ : ∃ j : Nat, i = (j : Int) := ⟨i.toNat, by omega⟩
        have hik := HIK.out
        have hnz : 0 < n := by omega
        have hqn : j % n < n := Nat.mod_lt _ hnz
        have hat : (j : Int).tmod (n : Int) = ((j % n : Nat) : Int) := by rw [Int.tmod_eq_emod_of_nonneg (by omega), Int.natCast_emod]
        have hqe : j % n = (2 * L.length - 1 - k) % L.length := by rw [HLN.out]; congr 1; omega
        have hqL : j % n < L.length := by rw [HLN.out]; exact hqn
        have hnx := backL_next L k (j % n) (by rw [HLN.out]; omega) hqe hqL
        have hSX := HX.out.1.below HI.out.low
        obtain ⟨b1, o1, rfl, hc1⟩ := HX.out.1.lies hnz
        have hcx := hc1 (j % n) hqL
        have hax := HX.out.1.each (j % n) hqL
        have hmem := List.getElem_mem hqL
        generalize hq : j % n = q at *
        obtain ⟨a, ha⟩ : ∃ a, L[q]'hqL = a := ⟨_, rfl⟩
        obtain ⟨p, hp⟩ : ∃ p, P q = p := ⟨_, rfl⟩
        rw [ha, hp] at hcx hax
        rw [ha] at hnx hmem
        have HA : Hid (SpAt w a p ∧ a ∈ L ∧ backL L (k + 1) = backL L k ++ [a]) := ⟨hax, hmem, hnx⟩
        have hnb : (n : Int) ≠ 0 := by omega
        have hqi : (q : Int) < (n : Int) := by omega
        have KP : wr.cell? ⟨b1, o1 + q * 13, none⟩ = some (.int .u64 a.hi) ∧ wr.cell? ⟨b1, o1 + q * 13 + 1, none⟩ = some (.int .u64 a.lo) ∧ wr.cell? ⟨b1, o1 + q * 13 + 2, none⟩ = some (.int .u64 a.id) ∧ wr.cell? ⟨b1, o1 + q * 13 + 3, none⟩ = some (.int .u64 a.par) ∧ wr.cell? ⟨b1, o1 + q * 13 + 4, none⟩ = some (.slice p.la a.links.length p.lc) ∧ wr.cell? ⟨b1, o1 + q * 13 + 5, none⟩ = some (.string a.svc) ∧ wr.cell? ⟨b1, o1 + q * 13 + 6, none⟩ = some (.string a.op) ∧ wr.cell? ⟨b1, o1 + q * 13 + 7, none⟩ = some (.int .i64 a.kind) ∧ wr.cell? ⟨b1, o1 + q * 13 + 8, none⟩ = some (.int .i64 a.status) ∧ wr.cell? ⟨b1, o1 + q * 13 + 9, none⟩ = some (.int .i64 a.start) ∧ wr.cell? ⟨b1, o1 + q * 13 + 10, none⟩ = some (.int .i64 a.fin) ∧ wr.cell? ⟨b1, o1 + q * 13 + 11, none⟩ = some (.slice p.aa a.attrs.length p.ac) ∧ wr.cell? ⟨b1, o1 + q * 13 + 12, none⟩ = some (.slice p.ea a.events.length p.ec) := by
          have e1 : ∀ j u, (spC a p)[j]? = some u → wr.cell? ⟨b1, o1 + q * 13 + j, none⟩ = some u := fun j u hu => (HI.out.low.cell (p := ⟨b1, o1 + q * 13 + j, none⟩) (World.block_lt_of_cell? w _ (hcx j u hu))).trans (hcx j u hu)
          exact ⟨e1 0 _ rfl, e1 1 _ rfl, e1 2 _ rfl, e1 3 _ rfl, e1 4 _ rfl, e1 5 _ rfl, e1 6 _ rfl, e1 7 _ rfl, e1 8 _ rfl, e1 9 _ rfl, e1 10 _ rfl, e1 11 _ rfl, e1 12 _ rfl⟩
        obtain ⟨k0, k1, k2, k3, k4, k5, k6, k7, k8, k9, k10, k11, k12⟩ := KP
        clear hik hqe hqL hnx hSX hc1 hcx hax hmem ha hp hq
        have PT := HI.out.one ((Below.refl _ _).alloc (Nat.le_refl _) (.cells (spC a p) 41)) wr.heap.size (Nat.le_refl _) a p (Blk.new _ _ _) HA.out.1 (HX.out.2.1 a HA.out.2.1) (HX.out.2.2 a HA.out.2.1) (HT.out w (Below.refl _ _)) HF.out (backL_sub L k) HA.out.2.1
        unfold spC at PT
        rw [← HA.out.2.2] at PT
        have hj1 : IntKind.i64.wrap ((j : Int) - 1) = (j : Int) - 1 := by rw [IntKind.wrap_i64]; omega
        have hjz : (0 : Int) ≤ (j : Int) := by omega
        have HIK2 : Hid ((j : Int) - 1 + ((k + 1 : Nat) : Int) + 1 = 2 * n) := (by have := HIK.out; omega : (j : Int) - 1 + ((k + 1 : Nat) : Int) + 1 = 2 * n)
        go_wp2_with (go_at_call 8; (with_reducible refine PT.mono ?_); clear PT; rintro e w6 ⟨r6, rfl, h6⟩; have H6 : Hid _ := h6; clear h6)
        go_roundw
        case rel => exact ⟨(j : Int) - 1, k + 1, rfl, by omega, by omega, HIK2, H6⟩
        case measure => simp [intOf]
      · have hk : k = 2 * L.length := by have := HIK.out; rw [HLN.out]; omega
        have H5 : Hid (TwE w wr sa sb SA LA (runP [] (backL L (2 * L.length))).1) := by rw [← hk]; exact HI
        have TD := H5.out.toldA
        clear HI HIK hk
        generalize wr = w5 at *
        go_upto_region 16 with (go_at_call 10; (with_reducible refine TD.mono ?_); clear TD; rintro e w6 ⟨ta, tc, Y, PY, rfl, hr, hm, hs, hb⟩; have H6 : Hid (TwE w w6 sa sb SA LA (runP [] (backL L (2 * L.length))).1 ∧ (Rise Y ∧ ∀ y, y ∈ Y ↔ y ∈ LA) ∧ SpsAt w6 ta Y.length Y PY) := ⟨H5.out.below hb, ⟨hr, hm⟩, hs _ (Nat.le_refl _) (fun _ _ _ => rfl)⟩; clear hr hm hs hb H5)
        have hy5z : Y.length ≤ 100000 := by rw [told_len H6.out.1.a.names H6.out.2.1]; exact H6.out.1.a.few
        have HYL : Hid (LA.length = Y.length) := (told_len H6.out.1.a.names H6.out.2.1).symm
        have HYM : Hid (Rise Y ∧ ∀ y ∈ Y, y ∈ L) := ⟨H6.out.2.1.1, fun y hy => order_mem (fun z => by rw [HLA.out]; exact H6.out.2.1.2 z) hy⟩
        obtain ⟨y5, hy5⟩ : ∃ x, Y.length = x := ⟨_, rfl⟩
        have HY5 : Hid (Y.length = y5) := hy5
        have H7 : Hid (TwE w w6 sa sb SA LA (runP [] (backL L (2 * L.length))).1 ∧ (Rise Y ∧ ∀ y, y ∈ Y ↔ y ∈ LA) ∧ SpsAt w6 ta y5 Y PY) := by rw [← hy5]; exact H6
        have HYL2 : Hid (LA.length = y5) := by rw [← hy5]; exact HYL
        rw [hy5] at hy5z ⊢
        clear hy5 H6 HYL
        have TD := H7.out.1.toldB
        have hyy : ((y5 : Int) != (y5 : Int)) = false := by simp
        go_upto_region 18 with (first
          | (go_at_call 10; (with_reducible refine TD.mono ?_); clear TD; rintro e w7 ⟨tb, te, Z, PZ, rfl, hr, hmz, hs, hb⟩; have he : Y = Z := (told_one ⟨hr, hmz⟩ H7.out.2.1 (fun y => by rw [← HLA.out]; exact order_same y)).symm; subst he; have H8 : Hid (TwE w w7 sa sb SA LA (runP [] (backL L (2 * L.length))).1 ∧ SpsAt w7 ta y5 Y PY) := ⟨H7.out.1.below hb, H7.out.2.2.below hb⟩; have SM := same_any ta tb y5 Y.length tc te Y Y PY PZ w7 H8.out.2 (hs _ (Nat.le_refl _) (fun _ _ _ => rfl)) (by omega) (by rw [HY5.out]; omega); clear hr hmz hs hb H7)
          | (go_at_call 11; (with_reducible refine SM.mono ?_); clear SM; rintro e w8 ⟨⟨r8, rfl, hr⟩, hb⟩; obtain rfl := hr.2 rfl; have H9 : Hid (TwE w w8 sa sb SA LA (runP [] (backL L (2 * L.length))).1 ∧ SpsAt w8 ta y5 Y PY) := ⟨H8.out.1.below hb, H8.out.2.below hb⟩; have CT := count9 H9.out.1.a; rw [HYL2.out] at CT; clear hr hb H8)
          | (go_at_call 9; (with_reducible refine CT.mono ?_); clear CT; rintro e w9 ⟨rfl, hw⟩; obtain rfl := hw.symm))
        go_wp2
        go_loopw [12] (fun z wr => ∃ k : Nat, z = .int .i64 k ∧ k ≤ n ∧ Hid (Below w8.heap.size w8 wr)) (fun z _ => n - (intOf z).toNat)
        case atStart => exact ⟨0, rfl, by omega, Below.refl _ _⟩
        case round =>
          obtain ⟨k, rfl, hkn, HB⟩ := hrel
          by_cases hlt : k < n
          · have hltd : (k : Int) < (n : Int) := by omega
            have hkL : k < L.length := by rw [HLN.out]; exact hlt
            have HE : Hid (TwE w wr sa sb SA LA (runP [] (backL L (2 * L.length))).1) := H9.out.1.below HB.out
            obtain ⟨b1, o1, rfl, hc1⟩ := HX.out.1.lies (by omega)
            have hcx := hc1 k hkL
            have hax := HX.out.1.each k hkL
            have hmem := List.getElem_mem hkL
            obtain ⟨a, ha⟩ : ∃ a, L[k]'hkL = a := ⟨_, rfl⟩
            obtain ⟨p, hp⟩ : ∃ p, P k = p := ⟨_, rfl⟩
            rw [ha, hp] at hcx hax
            rw [ha] at hmem
            obtain ⟨y, hy, hge⟩ := order_find hmem
            rw [HLA.out] at hy
            have HGE : Hid (0 ≤ cmpP y a) := hge
            have HAX : Hid (SpAt w a p ∧ NmOk (nmS a)) := ⟨hax, nmS_ok (HX.out.2.1 a hmem)⟩
            have HKP : Hid (∀ W, Below wr.heap.size wr W → W.cell? ⟨b1, o1 + k * 13, none⟩ = some (.int .u64 a.hi) ∧ W.cell? ⟨b1, o1 + k * 13 + 1, none⟩ = some (.int .u64 a.lo) ∧ W.cell? ⟨b1, o1 + k * 13 + 2, none⟩ = some (.int .u64 a.id) ∧ W.cell? ⟨b1, o1 + k * 13 + 3, none⟩ = some (.int .u64 a.par) ∧ W.cell? ⟨b1, o1 + k * 13 + 4, none⟩ = some (.slice p.la a.links.length p.lc) ∧ W.cell? ⟨b1, o1 + k * 13 + 5, none⟩ = some (.string a.svc) ∧ W.cell? ⟨b1, o1 + k * 13 + 6, none⟩ = some (.string a.op) ∧ W.cell? ⟨b1, o1 + k * 13 + 7, none⟩ = some (.int .i64 a.kind) ∧ W.cell? ⟨b1, o1 + k * 13 + 8, none⟩ = some (.int .i64 a.status) ∧ W.cell? ⟨b1, o1 + k * 13 + 9, none⟩ = some (.int .i64 a.start) ∧ W.cell? ⟨b1, o1 + k * 13 + 10, none⟩ = some (.int .i64 a.fin) ∧ W.cell? ⟨b1, o1 + k * 13 + 11, none⟩ = some (.slice p.aa a.attrs.length p.ac) ∧ W.cell? ⟨b1, o1 + k * 13 + 12, none⟩ = some (.slice p.ea a.events.length p.ec)) := fun W h => by
              have e1 : ∀ j u, (spC a p)[j]? = some u → W.cell? ⟨b1, o1 + k * 13 + j, none⟩ = some u := fun j u hu => ((HE.out.low.trans (h.mono HE.out.low.size)).cell (p := ⟨b1, o1 + k * 13 + j, none⟩) (World.block_lt_of_cell? w _ (hcx j u hu))).trans (hcx j u hu)
              exact ⟨e1 0 _ rfl, e1 1 _ rfl, e1 2 _ rfl, e1 3 _ rfl, e1 4 _ rfl, e1 5 _ rfl, e1 6 _ rfl, e1 7 _ rfl, e1 8 _ rfl, e1 9 _ rfl, e1 10 _ rfl, e1 11 _ rfl, e1 12 _ rfl⟩
            have GT : ∀ V, Below wr.heap.size wr V → Calls Tryz.prog 12 #[.pointer (some ⟨sa, 0, none⟩), .agg #[.int .u64 a.hi, .int .u64 a.lo], .int .u64 a.id] V fun e w' => ∃ p', e = .returned (.tuple #[spV y p', .bool true]) ∧ (∀ W : World, (∀ j, V.heap.size ≤ j → W.heap[j]? = w'.heap[j]?) → SpAt W y p') ∧ Below V.heap.size V w' := fun V hb => get9 (HE.out.a.below hb) (nmS a) HAX.out.2 hy
            have k0 := (HKP.out wr (Below.refl _ _)).1
            have k1 := (HKP.out wr (Below.refl _ _)).2.1
            have k2 := (HKP.out wr (Below.refl _ _)).2.2.1
            clear hc1 hcx hax ha hp hge hmem hkL hy
            go_upto_region 21 with fail
            go_cut [13, 14] from 84 to 115 (fun s13 s14 wx => ∃ (B : Nat) (p' : Pl), s13 = .pointer (some ⟨B, 0, none⟩) ∧ s14 = .bool true ∧ Hid (Blk wx B (spC y p') 41 ∧ SpAt wx y p' ∧ Below wr.heap.size wr wx))
            case first =>
              have B0 : Below wr.heap.size wr wr.drew := (Below.refl _ _).drew
              have B1 : Below wr.heap.size wr ((wr.alloc (.cells zC 41)).drew) := ((Below.refl _ _).alloc (Nat.le_refl _) _).drew
              have K0 := HKP.out _ B0
              have K1 := HKP.out _ B1
              have z0 := K0.1
              have z1 := K0.2.1
              have z2 := K0.2.2.1
              have y0 := K1.1
              have y1 := K1.2.1
              have y2 := K1.2.2.1
              have G0 := GT _ B0
              have G1 := GT _ B1
              have HB0 : Hid _ := B0
              have HBB : Hid _ := B1
              clear GT K0 K1 B0 B1
              unfold zC spV spC at *
              have HSZ : Hid (((wr.alloc (.cells zC 41)).drew).heap.size = wr.heap.size + 1) := (by show (wr.alloc _).heap.size = _; rw [World.size_alloc])
              have HRB : Hid (∀ w5, Below ((wr.alloc (.cells zC 41)).drew).heap.size ((wr.alloc (.cells zC 41)).drew) w5 → w5.heap[wr.heap.size]? = some (.cells #[.int .u64 0, .int .u64 0, .int .u64 0, .int .u64 0, .slice none 0 0, .string ⟨#[]⟩, .string ⟨#[]⟩, .int .i64 0, .int .i64 0, .int .i64 0, .int .i64 0, .slice none 0 0, .slice none 0 0] 41 (0, 0)) ∧ Below wr.heap.size wr w5) := fun w5 hb => ⟨(hb.block _ (by show _ < (wr.alloc _).heap.size; rw [World.size_alloc]; omega)).trans (alloc_at rfl), HBB.out.trans (hb.mono HBB.out.size)⟩
              go_region_with (first
                | (go_at_call 12; (with_reducible refine G1.mono ?_); rintro e w5 ⟨p', rfl, hst, hb5⟩; obtain ⟨R5, bw⟩ := HRB.out _ hb5; have o0 := blk_cell R5 0 rfl; have f0 := blk_free R5 0; have o1 := blk_cell R5 1 rfl; have f1 := blk_free R5 1; have o2 := blk_cell R5 2 rfl; have f2 := blk_free R5 2; have o3 := blk_cell R5 3 rfl; have f3 := blk_free R5 3; have o4 := blk_cell R5 4 rfl; have f4 := blk_free R5 4; have o5 := blk_cell R5 5 rfl; have f5 := blk_free R5 5; have o6 := blk_cell R5 6 rfl; have f6 := blk_free R5 6; have o7 := blk_cell R5 7 rfl; have f7 := blk_free R5 7; have o8 := blk_cell R5 8 rfl; have f8 := blk_free R5 8; have o9 := blk_cell R5 9 rfl; have f9 := blk_free R5 9; have o10 := blk_cell R5 10 rfl; have f10 := blk_free R5 10; have o11 := blk_cell R5 11 rfl; have f11 := blk_free R5 11; have o12 := blk_cell R5 12 rfl; have f12 := blk_free R5 12; have H5 : Hid (∀ cs : Array Value, Blk (w5.setRow wr.heap.size cs) wr.heap.size cs 41 ∧ SpAt (w5.setRow wr.heap.size cs) y p' ∧ Below wr.heap.size wr (w5.setRow wr.heap.size cs)) := fun cs => lay_before (V := (wr.alloc (.cells zC 41)).drew) HSZ.out R5 hst bw; clear hst hb5 bw)
                | (go_at_call 12; (with_reducible refine G0.mono ?_); rintro e w5 ⟨p', rfl, hst, hb5⟩; have H6 : Hid (∀ cs : Array Value, Blk (w5.alloc (.cells cs 41)) w5.heap.size cs 41 ∧ SpAt (w5.alloc (.cells cs 41)) y p' ∧ Below wr.heap.size wr (w5.alloc (.cells cs 41))) := fun cs => lay_new (hst w5 (fun _ _ => rfl)) (HB0.out.trans (hb5.mono HB0.out.size)); clear hst hb5))
              all_goals
                go_wp2_with fail
                go_meet
              all_goals
                first
                | exact ⟨w5.heap.size, p', rfl, rfl, H6.out _⟩
                | (rw [set13_eq w5 wr.heap.size 41 _ _ _ _ _ _ _ _ _ _ _ _ _ _ _ _ _ _ _ _ _ _ _ _ _ _ R5]; exact ⟨wr.heap.size, p', rfl, rfl, H5.out _⟩)
            case rest =>
              obtain ⟨B, p', rfl, rfl, HC⟩ := hcut
              as_aux_lemma =>
                have BR : Below wc.heap.size wc wc.drew := (Below.refl _ _).drew
                have CC := refCompare_any y a p' p wc.drew (HC.out.2.1.below BR) (HAX.out.1.below (HE.out.low.trans ((HC.out.2.2.trans (BR.mono HC.out.2.2.size)).mono HE.out.low.size)))
                have KP : ∀ W, Below wc.heap.size wc W → W.cell? ⟨B, 0, none⟩ = some (.int .u64 y.hi) ∧ W.cell? ⟨B, 1, none⟩ = some (.int .u64 y.lo) ∧ W.cell? ⟨B, 2, none⟩ = some (.int .u64 y.id) ∧ W.cell? ⟨B, 3, none⟩ = some (.int .u64 y.par) ∧ W.cell? ⟨B, 4, none⟩ = some (.slice p'.la y.links.length p'.lc) ∧ W.cell? ⟨B, 5, none⟩ = some (.string y.svc) ∧ W.cell? ⟨B, 6, none⟩ = some (.string y.op) ∧ W.cell? ⟨B, 7, none⟩ = some (.int .i64 y.kind) ∧ W.cell? ⟨B, 8, none⟩ = some (.int .i64 y.status) ∧ W.cell? ⟨B, 9, none⟩ = some (.int .i64 y.start) ∧ W.cell? ⟨B, 10, none⟩ = some (.int .i64 y.fin) ∧ W.cell? ⟨B, 11, none⟩ = some (.slice p'.aa y.attrs.length p'.ac) ∧ W.cell? ⟨B, 12, none⟩ = some (.slice p'.ea y.events.length p'.ec) ∧ W.cell? ⟨b1, o1 + k * 13, none⟩ = some (.int .u64 a.hi) ∧ W.cell? ⟨b1, o1 + k * 13 + 1, none⟩ = some (.int .u64 a.lo) ∧ W.cell? ⟨b1, o1 + k * 13 + 2, none⟩ = some (.int .u64 a.id) ∧ W.cell? ⟨b1, o1 + k * 13 + 3, none⟩ = some (.int .u64 a.par) ∧ W.cell? ⟨b1, o1 + k * 13 + 4, none⟩ = some (.slice p.la a.links.length p.lc) ∧ W.cell? ⟨b1, o1 + k * 13 + 5, none⟩ = some (.string a.svc) ∧ W.cell? ⟨b1, o1 + k * 13 + 6, none⟩ = some (.string a.op) ∧ W.cell? ⟨b1, o1 + k * 13 + 7, none⟩ = some (.int .i64 a.kind) ∧ W.cell? ⟨b1, o1 + k * 13 + 8, none⟩ = some (.int .i64 a.status) ∧ W.cell? ⟨b1, o1 + k * 13 + 9, none⟩ = some (.int .i64 a.start) ∧ W.cell? ⟨b1, o1 + k * 13 + 10, none⟩ = some (.int .i64 a.fin) ∧ W.cell? ⟨b1, o1 + k * 13 + 11, none⟩ = some (.slice p.aa a.attrs.length p.ac) ∧ W.cell? ⟨b1, o1 + k * 13 + 12, none⟩ = some (.slice p.ea a.events.length p.ec) := fun W h => by
                  have q := HC.out.1.below h HC.out.1.lt
                  exact ⟨q.cell 0 rfl, q.cell 1 rfl, q.cell 2 rfl, q.cell 3 rfl, q.cell 4 rfl, q.cell 5 rfl, q.cell 6 rfl, q.cell 7 rfl, q.cell 8 rfl, q.cell 9 rfl, q.cell 10 rfl, q.cell 11 rfl, q.cell 12 rfl, HKP.out W (HC.out.2.2.trans (h.mono HC.out.2.2.size))⟩
                obtain ⟨v, hv⟩ : ∃ v, cmpP y a = v := ⟨_, rfl⟩
                rw [hv] at CC
                have hv0 : decide (v < 0) = false := decide_eq_false (by have := HGE.out; omega)
                have HBC : Hid (Below w8.heap.size w8 wc) := HB.out.trans (HC.out.2.2.mono HB.out.size)
                unfold spV spC at CC
                clear hv GT k0 k1 k2
                go_upto_region 22 with fail
                go_region_held3 (fun W => W.cell? ⟨B, 0, none⟩ = some (.int .u64 y.hi) ∧ W.cell? ⟨B, 1, none⟩ = some (.int .u64 y.lo) ∧ W.cell? ⟨B, 2, none⟩ = some (.int .u64 y.id) ∧ W.cell? ⟨B, 3, none⟩ = some (.int .u64 y.par) ∧ W.cell? ⟨B, 4, none⟩ = some (.slice p'.la y.links.length p'.lc) ∧ W.cell? ⟨B, 5, none⟩ = some (.string y.svc) ∧ W.cell? ⟨B, 6, none⟩ = some (.string y.op) ∧ W.cell? ⟨B, 7, none⟩ = some (.int .i64 y.kind) ∧ W.cell? ⟨B, 8, none⟩ = some (.int .i64 y.status) ∧ W.cell? ⟨B, 9, none⟩ = some (.int .i64 y.start) ∧ W.cell? ⟨B, 10, none⟩ = some (.int .i64 y.fin) ∧ W.cell? ⟨B, 11, none⟩ = some (.slice p'.aa y.attrs.length p'.ac) ∧ W.cell? ⟨B, 12, none⟩ = some (.slice p'.ea y.events.length p'.ec) ∧ W.cell? ⟨b1, o1 + k * 13, none⟩ = some (.int .u64 a.hi) ∧ W.cell? ⟨b1, o1 + k * 13 + 1, none⟩ = some (.int .u64 a.lo) ∧ W.cell? ⟨b1, o1 + k * 13 + 2, none⟩ = some (.int .u64 a.id) ∧ W.cell? ⟨b1, o1 + k * 13 + 3, none⟩ = some (.int .u64 a.par) ∧ W.cell? ⟨b1, o1 + k * 13 + 4, none⟩ = some (.slice p.la a.links.length p.lc) ∧ W.cell? ⟨b1, o1 + k * 13 + 5, none⟩ = some (.string a.svc) ∧ W.cell? ⟨b1, o1 + k * 13 + 6, none⟩ = some (.string a.op) ∧ W.cell? ⟨b1, o1 + k * 13 + 7, none⟩ = some (.int .i64 a.kind) ∧ W.cell? ⟨b1, o1 + k * 13 + 8, none⟩ = some (.int .i64 a.status) ∧ W.cell? ⟨b1, o1 + k * 13 + 9, none⟩ = some (.int .i64 a.start) ∧ W.cell? ⟨b1, o1 + k * 13 + 10, none⟩ = some (.int .i64 a.fin) ∧ W.cell? ⟨b1, o1 + k * 13 + 11, none⟩ = some (.slice p.aa a.attrs.length p.ac) ∧ W.cell? ⟨b1, o1 + k * 13 + 12, none⟩ = some (.slice p.ea a.events.length p.ec)) (first | exact KP _ BR | exact KP _ (BR.trans bb)) (first
                  | (go_at_call 13; (with_reducible refine CC.mono ?_); clear CC; rintro e w6 ⟨rfl, bb⟩)
                  | fail)
                all_goals
                  have HB6 : Hid (Below w8.heap.size w8 w6) := HBC.out.trans ((BR.trans bb).mono HBC.out.size)
                  clear KP BR bb
                  go_wp2
                  go_roundw
                case rel => exact ⟨k + 1, by go_num, by omega, HB6⟩
                case measure => (simp [intOf]; omega)
          · have hltd : ¬ (k : Int) < (n : Int) := by omega
            have H10 : Hid (Below w.heap.size w wr ∧ SpsAt wr ta y5 Y PY) := ⟨H9.out.1.low.trans (HB.out.mono H9.out.1.low.size), H9.out.2.below HB.out⟩
            clear HB hlt H9 H4 HYL2
            generalize wr = w10 at *
            go_wp2
            go_loopw [15] (fun z wx => ∃ m : Nat, z = .int .i64 m ∧ m ≤ y5 ∧ Hid (Below w10.heap.size w10 wx)) (fun z _ => y5 - (intOf z).toNat)
            case atStart => exact ⟨0, rfl, by omega, Below.refl _ _⟩
            case round =>
              rename World => wx
              obtain ⟨m, rfl, hm5, HB⟩ := hrel
              by_cases hlt : m < y5
              · have hltd : (m : Int) < (y5 : Int) := by omega
                have hmY : m < Y.length := by rw [HY5.out]; exact hlt
                have HE : Hid (Below w.heap.size w wx ∧ SpsAt wx ta y5 Y PY) := ⟨H10.out.1.trans (HB.out.mono H10.out.1.size), H10.out.2.below HB.out⟩
                obtain ⟨g, go, rfl, hcY⟩ := HE.out.2.lies (by omega)
                have hay := HE.out.2.each m hmY
                have hmem := HYM.out.2 _ (List.getElem_mem hmY)
                have HYC : Hid (∀ i (hi : i < Y.length), ∀ W, Below wx.heap.size wx W → ∀ j u, (spC Y[i] (PY i))[j]? = some u → W.cell? ⟨g, go + i * 13 + j, none⟩ = some u) := fun i hi W h j u hu => (h.cell (p := ⟨g, go + i * 13 + j, none⟩) (World.block_lt_of_cell? wx _ (hcY i hi j u hu))).trans (hcY i hi j u hu)
                have hcy := HYC.out m hmY
                obtain ⟨y, hy⟩ : ∃ y, Y[m]'hmY = y := ⟨_, rfl⟩
                obtain ⟨yp, hyp⟩ : ∃ p, PY m = p := ⟨_, rfl⟩
                have HYE : Hid (∃ h : m < Y.length, Y[m] = y) := ⟨hmY, hy⟩
                rw [hy, hyp] at hcy hay
                rw [hy] at hmem
                have HAY : Hid (SpAt wx y yp ∧ y ∈ L) := ⟨hay, hmem⟩
                have HKY : Hid (∀ W, Below wx.heap.size wx W → ∀ j u, (spC y yp)[j]? = some u → W.cell? ⟨g, go + m * 13 + j, none⟩ = some u) := hcy
                clear hcY hay hmem hcy hy hyp hmY
                go_wp2
                go_loopw [16, 17] (fun z16 z17 wv => ∃ (f : Bool) (j : Nat), z16 = .bool f ∧ z17 = .int .i64 j ∧ j ≤ n ∧ Hid (f = false → ∀ (q : Nat) (hq : q < L.length), q < j → L[q] ≠ y) ∧ Hid (Below wx.heap.size wx wv)) (fun _ z _ => n - (intOf z).toNat)
                case atStart => exact ⟨false, 0, rfl, rfl, by omega, (fun _ q _ h => by omega), Below.refl _ _⟩
                case round =>
                  rename World => wv
                  obtain ⟨f, j, rfl, rfl, hjn, HNF, HB4⟩ := hrel
                  cases f
                  · by_cases hlt4 : j < n
                    · as_aux_lemma =>
                        have hltd4 : (j : Int) < (n : Int) := by omega
                        have hjL : j < L.length := by rw [HLN.out]; exact hlt4
                        have hlw := HE.out.1.trans (HB4.out.mono HE.out.1.size)
                        obtain ⟨b1, o1, rfl, hc1⟩ := HX.out.1.lies (by omega)
                        have hcx := hc1 j hjL
                        have hax := (HX.out.1.each j hjL).below (hlw.trans ((Below.refl _ wv).drew.mono hlw.size))
                        have hnj := HNF.out rfl
                        obtain ⟨a, ha⟩ : ∃ a, L[j]'hjL = a := ⟨_, rfl⟩
                        obtain ⟨p, hp⟩ : ∃ p, P j = p := ⟨_, rfl⟩
                        have HLA4 : Hid (∀ (q : Nat) (hq : q < L.length), q < j → L[q] ≠ y) := hnj
                        have HAJ : Hid (∃ h : j < L.length, L[j] = a) := ⟨hjL, ha⟩
                        rw [ha, hp] at hcx hax
                        have CC := refCompare_any y a yp p wv.drew (HAY.out.1.below (HB4.out.trans ((Below.refl _ wv).drew.mono HB4.out.size))) hax
                        have KP : ∀ W, Below wv.heap.size wv W → W.cell? ⟨g, go + m * 13, none⟩ = some (.int .u64 y.hi) ∧ W.cell? ⟨g, go + m * 13 + 1, none⟩ = some (.int .u64 y.lo) ∧ W.cell? ⟨g, go + m * 13 + 2, none⟩ = some (.int .u64 y.id) ∧ W.cell? ⟨g, go + m * 13 + 3, none⟩ = some (.int .u64 y.par) ∧ W.cell? ⟨g, go + m * 13 + 4, none⟩ = some (.slice yp.la y.links.length yp.lc) ∧ W.cell? ⟨g, go + m * 13 + 5, none⟩ = some (.string y.svc) ∧ W.cell? ⟨g, go + m * 13 + 6, none⟩ = some (.string y.op) ∧ W.cell? ⟨g, go + m * 13 + 7, none⟩ = some (.int .i64 y.kind) ∧ W.cell? ⟨g, go + m * 13 + 8, none⟩ = some (.int .i64 y.status) ∧ W.cell? ⟨g, go + m * 13 + 9, none⟩ = some (.int .i64 y.start) ∧ W.cell? ⟨g, go + m * 13 + 10, none⟩ = some (.int .i64 y.fin) ∧ W.cell? ⟨g, go + m * 13 + 11, none⟩ = some (.slice yp.aa y.attrs.length yp.ac) ∧ W.cell? ⟨g, go + m * 13 + 12, none⟩ = some (.slice yp.ea y.events.length yp.ec) ∧ W.cell? ⟨b1, o1 + j * 13, none⟩ = some (.int .u64 a.hi) ∧ W.cell? ⟨b1, o1 + j * 13 + 1, none⟩ = some (.int .u64 a.lo) ∧ W.cell? ⟨b1, o1 + j * 13 + 2, none⟩ = some (.int .u64 a.id) ∧ W.cell? ⟨b1, o1 + j * 13 + 3, none⟩ = some (.int .u64 a.par) ∧ W.cell? ⟨b1, o1 + j * 13 + 4, none⟩ = some (.slice p.la a.links.length p.lc) ∧ W.cell? ⟨b1, o1 + j * 13 + 5, none⟩ = some (.string a.svc) ∧ W.cell? ⟨b1, o1 + j * 13 + 6, none⟩ = some (.string a.op) ∧ W.cell? ⟨b1, o1 + j * 13 + 7, none⟩ = some (.int .i64 a.kind) ∧ W.cell? ⟨b1, o1 + j * 13 + 8, none⟩ = some (.int .i64 a.status) ∧ W.cell? ⟨b1, o1 + j * 13 + 9, none⟩ = some (.int .i64 a.start) ∧ W.cell? ⟨b1, o1 + j * 13 + 10, none⟩ = some (.int .i64 a.fin) ∧ W.cell? ⟨b1, o1 + j * 13 + 11, none⟩ = some (.slice p.aa a.attrs.length p.ac) ∧ W.cell? ⟨b1, o1 + j * 13 + 12, none⟩ = some (.slice p.ea a.events.length p.ec) := fun W h => by
                          have e1 : ∀ i u, (spC a p)[i]? = some u → W.cell? ⟨b1, o1 + j * 13 + i, none⟩ = some u := fun i u hu => ((hlw.trans (h.mono hlw.size)).cell (p := ⟨b1, o1 + j * 13 + i, none⟩) (World.block_lt_of_cell? w _ (hcx i u hu))).trans (hcx i u hu)
                          have e2 : ∀ i u, (spC y yp)[i]? = some u → W.cell? ⟨g, go + m * 13 + i, none⟩ = some u := HKY.out W (HB4.out.trans (h.mono HB4.out.size))
                          exact ⟨e2 0 _ rfl, e2 1 _ rfl, e2 2 _ rfl, e2 3 _ rfl, e2 4 _ rfl, e2 5 _ rfl, e2 6 _ rfl, e2 7 _ rfl, e2 8 _ rfl, e2 9 _ rfl, e2 10 _ rfl, e2 11 _ rfl, e2 12 _ rfl, e1 0 _ rfl, e1 1 _ rfl, e1 2 _ rfl, e1 3 _ rfl, e1 4 _ rfl, e1 5 _ rfl, e1 6 _ rfl, e1 7 _ rfl, e1 8 _ rfl, e1 9 _ rfl, e1 10 _ rfl, e1 11 _ rfl, e1 12 _ rfl⟩
                        have BR : Below wv.heap.size wv wv.drew := (Below.refl _ _).drew
                        have hz := good_cmpP.eq y a
                        obtain ⟨v, hv⟩ : ∃ v, cmpP y a = v := ⟨_, rfl⟩
                        rw [hv] at CC hz
                        have HZ : Hid _ := hz
                        unfold spV spC at CC
                        clear hc1 hcx hax hnj ha hp hv hz hjL hlw
                        by_cases hv0 : v = 0
                        · subst hv0
                          go_wp2
                          go_region_held3 (fun W => W.cell? ⟨g, go + m * 13, none⟩ = some (.int .u64 y.hi) ∧ W.cell? ⟨g, go + m * 13 + 1, none⟩ = some (.int .u64 y.lo) ∧ W.cell? ⟨g, go + m * 13 + 2, none⟩ = some (.int .u64 y.id) ∧ W.cell? ⟨g, go + m * 13 + 3, none⟩ = some (.int .u64 y.par) ∧ W.cell? ⟨g, go + m * 13 + 4, none⟩ = some (.slice yp.la y.links.length yp.lc) ∧ W.cell? ⟨g, go + m * 13 + 5, none⟩ = some (.string y.svc) ∧ W.cell? ⟨g, go + m * 13 + 6, none⟩ = some (.string y.op) ∧ W.cell? ⟨g, go + m * 13 + 7, none⟩ = some (.int .i64 y.kind) ∧ W.cell? ⟨g, go + m * 13 + 8, none⟩ = some (.int .i64 y.status) ∧ W.cell? ⟨g, go + m * 13 + 9, none⟩ = some (.int .i64 y.start) ∧ W.cell? ⟨g, go + m * 13 + 10, none⟩ = some (.int .i64 y.fin) ∧ W.cell? ⟨g, go + m * 13 + 11, none⟩ = some (.slice yp.aa y.attrs.length yp.ac) ∧ W.cell? ⟨g, go + m * 13 + 12, none⟩ = some (.slice yp.ea y.events.length yp.ec) ∧ W.cell? ⟨b1, o1 + j * 13, none⟩ = some (.int .u64 a.hi) ∧ W.cell? ⟨b1, o1 + j * 13 + 1, none⟩ = some (.int .u64 a.lo) ∧ W.cell? ⟨b1, o1 + j * 13 + 2, none⟩ = some (.int .u64 a.id) ∧ W.cell? ⟨b1, o1 + j * 13 + 3, none⟩ = some (.int .u64 a.par) ∧ W.cell? ⟨b1, o1 + j * 13 + 4, none⟩ = some (.slice p.la a.links.length p.lc) ∧ W.cell? ⟨b1, o1 + j * 13 + 5, none⟩ = some (.string a.svc) ∧ W.cell? ⟨b1, o1 + j * 13 + 6, none⟩ = some (.string a.op) ∧ W.cell? ⟨b1, o1 + j * 13 + 7, none⟩ = some (.int .i64 a.kind) ∧ W.cell? ⟨b1, o1 + j * 13 + 8, none⟩ = some (.int .i64 a.status) ∧ W.cell? ⟨b1, o1 + j * 13 + 9, none⟩ = some (.int .i64 a.start) ∧ W.cell? ⟨b1, o1 + j * 13 + 10, none⟩ = some (.int .i64 a.fin) ∧ W.cell? ⟨b1, o1 + j * 13 + 11, none⟩ = some (.slice p.aa a.attrs.length p.ac) ∧ W.cell? ⟨b1, o1 + j * 13 + 12, none⟩ = some (.slice p.ea a.events.length p.ec)) (first | exact KP _ BR | exact KP _ (BR.trans bb)) (first
                            | (go_at_call 13; (with_reducible refine CC.mono ?_); clear CC; rintro e w6 ⟨rfl, bb⟩)
                            | fail)
                          all_goals
                            have HB6 : Hid (Below wx.heap.size wx w6) := HB4.out.trans ((BR.trans bb).mono HB4.out.size)
                            clear KP BR bb
                            go_wp2
                            go_roundw
                          case rel => exact ⟨true, j + 1, by first | rfl | simp, by go_num, by omega, (fun h => by cases h), HB6⟩
                          case measure => (simp [intOf]; omega)
                        · have hv1 : (v == 0) = false := by simpa using hv0
                          have HNW : Hid (∀ (q : Nat) (hq : q < L.length), q < j + 1 → L[q] ≠ y) := fun q hq hlt2 e => by
                            by_cases hqj : q < j
                            · exact HLA4.out q hq hqj e
                            · obtain ⟨h1, h2⟩ := HAJ.out
                              have : q = j := by omega
                              subst this
                              exact hv0 (HZ.out.2 (by rw [← e, h2]))
                          clear hv0
                          go_wp2
                          go_region_held3 (fun W => W.cell? ⟨g, go + m * 13, none⟩ = some (.int .u64 y.hi) ∧ W.cell? ⟨g, go + m * 13 + 1, none⟩ = some (.int .u64 y.lo) ∧ W.cell? ⟨g, go + m * 13 + 2, none⟩ = some (.int .u64 y.id) ∧ W.cell? ⟨g, go + m * 13 + 3, none⟩ = some (.int .u64 y.par) ∧ W.cell? ⟨g, go + m * 13 + 4, none⟩ = some (.slice yp.la y.links.length yp.lc) ∧ W.cell? ⟨g, go + m * 13 + 5, none⟩ = some (.string y.svc) ∧ W.cell? ⟨g, go + m * 13 + 6, none⟩ = some (.string y.op) ∧ W.cell? ⟨g, go + m * 13 + 7, none⟩ = some (.int .i64 y.kind) ∧ W.cell? ⟨g, go + m * 13 + 8, none⟩ = some (.int .i64 y.status) ∧ W.cell? ⟨g, go + m * 13 + 9, none⟩ = some (.int .i64 y.start) ∧ W.cell? ⟨g, go + m * 13 + 10, none⟩ = some (.int .i64 y.fin) ∧ W.cell? ⟨g, go + m * 13 + 11, none⟩ = some (.slice yp.aa y.attrs.length yp.ac) ∧ W.cell? ⟨g, go + m * 13 + 12, none⟩ = some (.slice yp.ea y.events.length yp.ec) ∧ W.cell? ⟨b1, o1 + j * 13, none⟩ = some (.int .u64 a.hi) ∧ W.cell? ⟨b1, o1 + j * 13 + 1, none⟩ = some (.int .u64 a.lo) ∧ W.cell? ⟨b1, o1 + j * 13 + 2, none⟩ = some (.int .u64 a.id) ∧ W.cell? ⟨b1, o1 + j * 13 + 3, none⟩ = some (.int .u64 a.par) ∧ W.cell? ⟨b1, o1 + j * 13 + 4, none⟩ = some (.slice p.la a.links.length p.lc) ∧ W.cell? ⟨b1, o1 + j * 13 + 5, none⟩ = some (.string a.svc) ∧ W.cell? ⟨b1, o1 + j * 13 + 6, none⟩ = some (.string a.op) ∧ W.cell? ⟨b1, o1 + j * 13 + 7, none⟩ = some (.int .i64 a.kind) ∧ W.cell? ⟨b1, o1 + j * 13 + 8, none⟩ = some (.int .i64 a.status) ∧ W.cell? ⟨b1, o1 + j * 13 + 9, none⟩ = some (.int .i64 a.start) ∧ W.cell? ⟨b1, o1 + j * 13 + 10, none⟩ = some (.int .i64 a.fin) ∧ W.cell? ⟨b1, o1 + j * 13 + 11, none⟩ = some (.slice p.aa a.attrs.length p.ac) ∧ W.cell? ⟨b1, o1 + j * 13 + 12, none⟩ = some (.slice p.ea a.events.length p.ec)) (first | exact KP _ BR | exact KP _ (BR.trans bb)) (first
                            | (go_at_call 13; (with_reducible refine CC.mono ?_); clear CC; rintro e w6 ⟨rfl, bb⟩)
                            | fail)
                          all_goals
                            have HB6 : Hid (Below wx.heap.size wx w6) := HB4.out.trans ((BR.trans bb).mono HB4.out.size)
                            clear KP BR bb
                            go_wp2
                            go_roundw
                          case rel => exact ⟨false, j + 1, by first | rfl | simp, by go_num, by omega, (fun _ => HNW.out), HB6⟩
                          case measure => (simp [intOf]; omega)
                    · obtain ⟨q, hq, e⟩ := List.mem_iff_getElem.1 HAY.out.2
                      exact absurd e (HNF.out rfl q hq (by rw [HLN.out] at hq; omega))
                  · go_upto_region 29 with fail
                    go_cut [129] from 122 to 129 (fun s129 wz => s129 = .bool false ∧ wz = wv)
                    case first =>
                      by_cases hlt4 : j < n
                      · have hltd4 : (j : Int) < (n : Int) := by omega
                        go_wp2_with fail
                        go_meet
                        case rel => exact ⟨rfl, rfl⟩
                      · have hltd4 : ¬ (j : Int) < (n : Int) := by omega
                        go_wp2_with fail
                        go_meet
                        case rel => exact ⟨rfl, rfl⟩
                    case rest =>
                      obtain ⟨rfl, hw4⟩ := hcut
                      have hw5 := hw4.symm
                      clear hw4
                      subst hw5
                      have HBV : Hid (Below w10.heap.size w10 wv) := HB.out.trans (HB4.out.mono HB.out.size)
                      by_cases hm0 : m = 0
                      · as_aux_lemma =>
                          have HMZ : Hid (m = 0) := hm0
                          clear hm0
                          go_upto_region 32 with fail
                          have hS : True := trivial
                          refine wp_region_held (S := fun _ => True) (by kernel_rfl) ?_
                          change wpAnyH _ _ _ _ _ _ _ _ (World.drew _)
                          refine takeH (i := 0) (v := .bool true) rfl (by kernel_rfl) (by kernel_rfl) (by kernel_rfl) (fun _ _ _ h => h) (Or.inl ⟨by rfl, fun W hW => by go_simp⟩) hS ?_
                          simp only [Act.put, List.setIfInBounds_toArray, List.set_cons_zero, List.set_cons_succ]
                          refine takeH (i := 1) (v := .bool false) rfl (by kernel_rfl) (by kernel_rfl) (by kernel_rfl) (fun _ _ _ h => h) (Or.inl ⟨by rfl, fun W hW => by go_simp⟩) hS ?_
                          simp only [Act.put, List.setIfInBounds_toArray, List.set_cons_zero, List.set_cons_succ]
                          refine takeH (i := 2) (v := .bool false) rfl (by kernel_rfl) (by kernel_rfl) (by kernel_rfl) (fun _ _ _ h => h) (Or.inl ⟨by rfl, fun W hW => by go_simp⟩) hS ?_
                          simp only [Act.put, List.setIfInBounds_toArray, List.set_cons_zero, List.set_cons_succ]
                          refine takeH (i := 3) (v := .int .i64 (m : Int)) rfl (by kernel_rfl) (by kernel_rfl) (by kernel_rfl) (fun _ _ _ h => h) (Or.inl ⟨by rfl, fun W hW => by go_simp⟩) hS ?_
                          simp only [Act.put, List.setIfInBounds_toArray, List.set_cons_zero, List.set_cons_succ]
                          refine takeH (i := 4) (v := .bool false) rfl (by kernel_rfl) (by kernel_rfl) (by kernel_rfl) (fun _ _ _ h => h) (Or.inl ⟨by rfl, fun W hW => by go_simp; have := HMZ.out; omega⟩) hS ?_
                          simp only [Act.put, List.setIfInBounds_toArray, List.set_cons_zero, List.set_cons_succ]
                          refine takeH (i := 5) (v := .bool false) rfl (by kernel_rfl) (by kernel_rfl) (by kernel_rfl) (fun _ _ _ h => h) (Or.inl ⟨by rfl, fun W hW => by go_simp⟩) hS ?_
                          simp only [Act.put, List.setIfInBounds_toArray, List.set_cons_zero, List.set_cons_succ]
                          refine takeH (i := 6) (v := undef) rfl (by kernel_rfl) (by kernel_rfl) (by kernel_rfl) (fun _ _ _ h => h) (Or.inr ⟨by rfl, rfl⟩) hS ?_
                          simp only [Act.put, List.setIfInBounds_toArray, List.set_cons_zero, List.set_cons_succ]
                          refine takeH (i := 7) (v := undef) rfl (by kernel_rfl) (by kernel_rfl) (by kernel_rfl) (fun _ _ _ h => h) (Or.inr ⟨by rfl, rfl⟩) hS ?_
                          simp only [Act.put, List.setIfInBounds_toArray, List.set_cons_zero, List.set_cons_succ]
                          refine takeH (i := 8) (v := undef) rfl (by kernel_rfl) (by kernel_rfl) (by kernel_rfl) (fun _ _ _ h => h) (Or.inr ⟨by rfl, rfl⟩) hS ?_
                          simp only [Act.put, List.setIfInBounds_toArray, List.set_cons_zero, List.set_cons_succ]
                          refine takeH (i := 9) (v := undef) rfl (by kernel_rfl) (by kernel_rfl) (by kernel_rfl) (fun _ _ _ h => h) (Or.inr ⟨by rfl, rfl⟩) hS ?_
                          simp only [Act.put, List.setIfInBounds_toArray, List.set_cons_zero, List.set_cons_succ]
                          refine takeH (i := 10) (v := undef) rfl (by kernel_rfl) (by kernel_rfl) (by kernel_rfl) (fun _ _ _ h => h) (Or.inr ⟨by rfl, rfl⟩) hS ?_
                          simp only [Act.put, List.setIfInBounds_toArray, List.set_cons_zero, List.set_cons_succ]
                          refine takeH (i := 11) (v := undef) rfl (by kernel_rfl) (by kernel_rfl) (by kernel_rfl) (fun _ _ _ h => h) (Or.inr ⟨by rfl, rfl⟩) hS ?_
                          simp only [Act.put, List.setIfInBounds_toArray, List.set_cons_zero, List.set_cons_succ]
                          refine takeH (i := 12) (v := undef) rfl (by kernel_rfl) (by kernel_rfl) (by kernel_rfl) (fun _ _ _ h => h) (Or.inr ⟨by rfl, rfl⟩) hS ?_
                          simp only [Act.put, List.setIfInBounds_toArray, List.set_cons_zero, List.set_cons_succ]
                          refine takeH (i := 13) (v := undef) rfl (by kernel_rfl) (by kernel_rfl) (by kernel_rfl) (fun _ _ _ h => h) (Or.inr ⟨by rfl, rfl⟩) hS ?_
                          simp only [Act.put, List.setIfInBounds_toArray, List.set_cons_zero, List.set_cons_succ]
                          refine takeH (i := 14) (v := undef) rfl (by kernel_rfl) (by kernel_rfl) (by kernel_rfl) (fun _ _ _ h => h) (Or.inr ⟨by rfl, rfl⟩) hS ?_
                          simp only [Act.put, List.setIfInBounds_toArray, List.set_cons_zero, List.set_cons_succ]
                          refine takeH (i := 15) (v := undef) rfl (by kernel_rfl) (by kernel_rfl) (by kernel_rfl) (fun _ _ _ h => h) (Or.inr ⟨by rfl, rfl⟩) hS ?_
                          simp only [Act.put, List.setIfInBounds_toArray, List.set_cons_zero, List.set_cons_succ]
                          refine takeH (i := 16) (v := undef) rfl (by kernel_rfl) (by kernel_rfl) (by kernel_rfl) (fun _ _ _ h => h) (Or.inr ⟨by rfl, rfl⟩) hS ?_
                          simp only [Act.put, List.setIfInBounds_toArray, List.set_cons_zero, List.set_cons_succ]
                          refine takeH (i := 17) (v := undef) rfl (by kernel_rfl) (by kernel_rfl) (by kernel_rfl) (fun _ _ _ h => h) (Or.inr ⟨by rfl, rfl⟩) hS ?_
                          simp only [Act.put, List.setIfInBounds_toArray, List.set_cons_zero, List.set_cons_succ]
                          refine takeH (i := 18) (v := undef) rfl (by kernel_rfl) (by kernel_rfl) (by kernel_rfl) (fun _ _ _ h => h) (Or.inr ⟨by rfl, rfl⟩) hS ?_
                          simp only [Act.put, List.setIfInBounds_toArray, List.set_cons_zero, List.set_cons_succ]
                          refine takeH (i := 19) (v := undef) rfl (by kernel_rfl) (by kernel_rfl) (by kernel_rfl) (fun _ _ _ h => h) (Or.inr ⟨by rfl, rfl⟩) hS ?_
                          simp only [Act.put, List.setIfInBounds_toArray, List.set_cons_zero, List.set_cons_succ]
                          refine takeH (i := 20) (v := undef) rfl (by kernel_rfl) (by kernel_rfl) (by kernel_rfl) (fun _ _ _ h => h) (Or.inr ⟨by rfl, rfl⟩) hS ?_
                          simp only [Act.put, List.setIfInBounds_toArray, List.set_cons_zero, List.set_cons_succ]
                          refine takeH (i := 21) (v := undef) rfl (by kernel_rfl) (by kernel_rfl) (by kernel_rfl) (fun _ _ _ h => h) (Or.inr ⟨by rfl, rfl⟩) hS ?_
                          simp only [Act.put, List.setIfInBounds_toArray, List.set_cons_zero, List.set_cons_succ]
                          refine takeH (i := 22) (v := undef) rfl (by kernel_rfl) (by kernel_rfl) (by kernel_rfl) (fun _ _ _ h => h) (Or.inr ⟨by rfl, rfl⟩) hS ?_
                          simp only [Act.put, List.setIfInBounds_toArray, List.set_cons_zero, List.set_cons_succ]
                          refine takeH (i := 23) (v := undef) rfl (by kernel_rfl) (by kernel_rfl) (by kernel_rfl) (fun _ _ _ h => h) (Or.inr ⟨by rfl, rfl⟩) hS ?_
                          simp only [Act.put, List.setIfInBounds_toArray, List.set_cons_zero, List.set_cons_succ]
                          refine takeH (i := 24) (v := undef) rfl (by kernel_rfl) (by kernel_rfl) (by kernel_rfl) (fun _ _ _ h => h) (Or.inr ⟨by rfl, rfl⟩) hS ?_
                          simp only [Act.put, List.setIfInBounds_toArray, List.set_cons_zero, List.set_cons_succ]
                          refine takeH (i := 25) (v := undef) rfl (by kernel_rfl) (by kernel_rfl) (by kernel_rfl) (fun _ _ _ h => h) (Or.inr ⟨by rfl, rfl⟩) hS ?_
                          simp only [Act.put, List.setIfInBounds_toArray, List.set_cons_zero, List.set_cons_succ]
                          refine takeH (i := 26) (v := undef) rfl (by kernel_rfl) (by kernel_rfl) (by kernel_rfl) (fun _ _ _ h => h) (Or.inr ⟨by rfl, rfl⟩) hS ?_
                          simp only [Act.put, List.setIfInBounds_toArray, List.set_cons_zero, List.set_cons_succ]
                          refine takeH (i := 27) (v := undef) rfl (by kernel_rfl) (by kernel_rfl) (by kernel_rfl) (fun _ _ _ h => h) (Or.inr ⟨by rfl, rfl⟩) hS ?_
                          simp only [Act.put, List.setIfInBounds_toArray, List.set_cons_zero, List.set_cons_succ]
                          refine takeH (i := 28) (v := undef) rfl (by kernel_rfl) (by kernel_rfl) (by kernel_rfl) (fun _ _ _ h => h) (Or.inr ⟨by rfl, rfl⟩) hS ?_
                          simp only [Act.put, List.setIfInBounds_toArray, List.set_cons_zero, List.set_cons_succ]
                          refine takeH (i := 29) (v := undef) rfl (by kernel_rfl) (by kernel_rfl) (by kernel_rfl) (fun _ _ _ h => h) (Or.inr ⟨by rfl, rfl⟩) hS ?_
                          simp only [Act.put, List.setIfInBounds_toArray, List.set_cons_zero, List.set_cons_succ]
                          refine takeH (i := 30) (v := undef) rfl (by kernel_rfl) (by kernel_rfl) (by kernel_rfl) (fun _ _ _ h => h) (Or.inr ⟨by rfl, rfl⟩) hS ?_
                          simp only [Act.put, List.setIfInBounds_toArray, List.set_cons_zero, List.set_cons_succ]
                          refine takeH (i := 31) (v := undef) rfl (by kernel_rfl) (by kernel_rfl) (by kernel_rfl) (fun _ _ _ h => h) (Or.inr ⟨by rfl, rfl⟩) hS ?_
                          simp only [Act.put, List.setIfInBounds_toArray, List.set_cons_zero, List.set_cons_succ]
                          refine takeH (i := 32) (v := undef) rfl (by kernel_rfl) (by kernel_rfl) (by kernel_rfl) (fun _ _ _ h => h) (Or.inr ⟨by rfl, rfl⟩) hS ?_
                          simp only [Act.put, List.setIfInBounds_toArray, List.set_cons_zero, List.set_cons_succ]
                          refine takeH (i := 33) (v := undef) rfl (by kernel_rfl) (by kernel_rfl) (by kernel_rfl) (fun _ _ _ h => h) (Or.inr ⟨by rfl, rfl⟩) hS ?_
                          simp only [Act.put, List.setIfInBounds_toArray, List.set_cons_zero, List.set_cons_succ]
                          refine takeH (i := 34) (v := undef) rfl (by kernel_rfl) (by kernel_rfl) (by kernel_rfl) (fun _ _ _ h => h) (Or.inr ⟨by rfl, rfl⟩) hS ?_
                          simp only [Act.put, List.setIfInBounds_toArray, List.set_cons_zero, List.set_cons_succ]
                          refine takeH (i := 35) (v := undef) rfl (by kernel_rfl) (by kernel_rfl) (by kernel_rfl) (fun _ _ _ h => h) (Or.inr ⟨by rfl, rfl⟩) hS ?_
                          simp only [Act.put, List.setIfInBounds_toArray, List.set_cons_zero, List.set_cons_succ]
                          refine takeH (i := 36) (v := undef) rfl (by kernel_rfl) (by kernel_rfl) (by kernel_rfl) (fun _ _ _ h => h) (Or.inr ⟨by rfl, rfl⟩) hS ?_
                          simp only [Act.put, List.setIfInBounds_toArray, List.set_cons_zero, List.set_cons_succ]
                          refine takeH (i := 37) (v := undef) rfl (by kernel_rfl) (by kernel_rfl) (by kernel_rfl) (fun _ _ _ h => h) (Or.inr ⟨by rfl, rfl⟩) hS ?_
                          simp only [Act.put, List.setIfInBounds_toArray, List.set_cons_zero, List.set_cons_succ]
                          refine takeH (i := 38) (v := undef) rfl (by kernel_rfl) (by kernel_rfl) (by kernel_rfl) (fun _ _ _ h => h) (Or.inr ⟨by rfl, rfl⟩) hS ?_
                          simp only [Act.put, List.setIfInBounds_toArray, List.set_cons_zero, List.set_cons_succ]
                          refine takeH (i := 39) (v := undef) rfl (by kernel_rfl) (by kernel_rfl) (by kernel_rfl) (fun _ _ _ h => h) (Or.inr ⟨by rfl, rfl⟩) hS ?_
                          simp only [Act.put, List.setIfInBounds_toArray, List.set_cons_zero, List.set_cons_succ]
                          refine takeH (i := 40) (v := undef) rfl (by kernel_rfl) (by kernel_rfl) (by kernel_rfl) (fun _ _ _ h => h) (Or.inr ⟨by rfl, rfl⟩) hS ?_
                          simp only [Act.put, List.setIfInBounds_toArray, List.set_cons_zero, List.set_cons_succ]
                          refine takeH (i := 41) (v := undef) rfl (by kernel_rfl) (by kernel_rfl) (by kernel_rfl) (fun _ _ _ h => h) (Or.inr ⟨by rfl, rfl⟩) hS ?_
                          simp only [Act.put, List.setIfInBounds_toArray, List.set_cons_zero, List.set_cons_succ]
                          refine takeH (i := 42) (v := undef) rfl (by kernel_rfl) (by kernel_rfl) (by kernel_rfl) (fun _ _ _ h => h) (Or.inr ⟨by rfl, rfl⟩) hS ?_
                          simp only [Act.put, List.setIfInBounds_toArray, List.set_cons_zero, List.set_cons_succ]
                          refine takeH (i := 43) (v := undef) rfl (by kernel_rfl) (by kernel_rfl) (by kernel_rfl) (fun _ _ _ h => h) (Or.inr ⟨by rfl, rfl⟩) hS ?_
                          simp only [Act.put, List.setIfInBounds_toArray, List.set_cons_zero, List.set_cons_succ]
                          refine takeH (i := 44) (v := undef) rfl (by kernel_rfl) (by kernel_rfl) (by kernel_rfl) (fun _ _ _ h => h) (Or.inr ⟨by rfl, rfl⟩) hS ?_
                          simp only [Act.put, List.setIfInBounds_toArray, List.set_cons_zero, List.set_cons_succ]
                          refine takeH (i := 45) (v := undef) rfl (by kernel_rfl) (by kernel_rfl) (by kernel_rfl) (fun _ _ _ h => h) (Or.inr ⟨by rfl, rfl⟩) hS ?_
                          simp only [Act.put, List.setIfInBounds_toArray, List.set_cons_zero, List.set_cons_succ]
                          refine takeH (i := 46) (v := undef) rfl (by kernel_rfl) (by kernel_rfl) (by kernel_rfl) (fun _ _ _ h => h) (Or.inr ⟨by rfl, rfl⟩) hS ?_
                          simp only [Act.put, List.setIfInBounds_toArray, List.set_cons_zero, List.set_cons_succ]
                          refine takeH (i := 47) (v := .bool false) rfl (by kernel_rfl) (by kernel_rfl) (by kernel_rfl) (fun _ _ _ h => h) (Or.inl ⟨by rfl, fun W hW => by go_simp⟩) hS ?_
                          simp only [Act.put, List.setIfInBounds_toArray, List.set_cons_zero, List.set_cons_succ]
                          refine takeH (i := 48) (v := .bool false) rfl (by kernel_rfl) (by kernel_rfl) (by kernel_rfl) (fun _ _ _ h => h) (Or.inl ⟨by rfl, fun W hW => by go_simp⟩) hS ?_
                          simp only [Act.put, List.setIfInBounds_toArray, List.set_cons_zero, List.set_cons_succ]
                          refine wpAnyH_done (by kernel_rfl) ?_ _
                          go_wp2
                          go_roundw
                          case rel => exact ⟨m + 1, by go_num, by omega, HBV.out.trans ((Below.refl _ wv).drew.mono HBV.out.size)⟩
                          case measure => (simp [intOf]; omega)
                      · have HM0 : Hid ((0 : Int) < (m : Int)) := (by omega : (0 : Int) < (m : Int))
                        obtain ⟨km, hkm⟩ : ∃ km, km + 1 = m := ⟨m - 1, by omega⟩
                        have hkm5 : km < y5 := by omega
                        have hkmI : (km : Int) < (y5 : Int) := by omega
                        have hkmY : km < Y.length := by rw [HY5.out]; exact hkm5
                        have HKW : Hid (IntKind.i64.wrap ((m : Int) - 1) = (km : Int)) := (by rw [IntKind.wrap_i64]; omega : IntKind.i64.wrap ((m : Int) - 1) = (km : Int))
                        have HKW2 := HKW.out
                        have hps : cmpN Y[km] y < 0 := by
                          obtain ⟨h1, h2⟩ := HYE.out
                          rw [← h2]
                          exact List.pairwise_iff_getElem.1 HYM.out.1 km m hkmY h1 (by omega)
                        have hcc := HYC.out km hkmY
                        obtain ⟨c, hc⟩ : ∃ c, Y[km]'hkmY = c := ⟨_, rfl⟩
                        rw [hc] at hps hcc
                        have hps2 := rise_parts hps
                        have HK6 : Hid (∀ W, Below wv.heap.size wv W → W.cell? ⟨g, go + km * 13, none⟩ = some (.int .u64 c.hi) ∧ W.cell? ⟨g, go + km * 13 + 1, none⟩ = some (.int .u64 c.lo) ∧ W.cell? ⟨g, go + km * 13 + 2, none⟩ = some (.int .u64 c.id) ∧ W.cell? ⟨g, go + m * 13, none⟩ = some (.int .u64 y.hi) ∧ W.cell? ⟨g, go + m * 13 + 1, none⟩ = some (.int .u64 y.lo) ∧ W.cell? ⟨g, go + m * 13 + 2, none⟩ = some (.int .u64 y.id)) := fun W h => by
                          have e1 : ∀ i u, (spC c (PY km))[i]? = some u → W.cell? ⟨g, go + km * 13 + i, none⟩ = some u := hcc W (HB4.out.trans (h.mono HB4.out.size))
                          have e2 : ∀ i u, (spC y yp)[i]? = some u → W.cell? ⟨g, go + m * 13 + i, none⟩ = some u := HKY.out W (HB4.out.trans (h.mono HB4.out.size))
                          exact ⟨e1 0 _ rfl, e1 1 _ rfl, e1 2 _ rfl, e2 0 _ rfl, e2 1 _ rfl, e2 2 _ rfl⟩
                        have TL := traceLess_any c.hi c.lo y.hi y.lo
                        clear hps hcc hc hkm hm0 hkmY hkm5
                        go_upto_region 32 with fail
                        rcases hps2 with ⟨hne, h2⟩ | ⟨he, h2⟩ | ⟨he, he2, h2⟩
                        · as_aux_lemma =>
                            rw [if_neg hne, decide_eq_true h2] at TL
                            clear hne h2
                            have hS := HK6.out wv.drew ((Below.refl _ _).drew)
                            refine wp_region_held (S := fun U => U.cell? ⟨g, go + km * 13, none⟩ = some (.int .u64 c.hi) ∧ U.cell? ⟨g, go + km * 13 + 1, none⟩ = some (.int .u64 c.lo) ∧ U.cell? ⟨g, go + km * 13 + 2, none⟩ = some (.int .u64 c.id) ∧ U.cell? ⟨g, go + m * 13, none⟩ = some (.int .u64 y.hi) ∧ U.cell? ⟨g, go + m * 13 + 1, none⟩ = some (.int .u64 y.lo) ∧ U.cell? ⟨g, go + m * 13 + 2, none⟩ = some (.int .u64 y.id)) (by kernel_rfl) ?_
                            change wpAnyH _ _ _ _ _ _ _ _ (World.drew _)
                            refine takeH (i := 0) (v := .bool true) rfl (by kernel_rfl) (by kernel_rfl) (by kernel_rfl) (fun _ _ _ h => h) (Or.inl ⟨by rfl, fun W hW => by go_simp⟩) hS ?_
                            simp only [Act.put, List.setIfInBounds_toArray, List.set_cons_zero, List.set_cons_succ]
                            refine takeH (i := 1) (v := .bool false) rfl (by kernel_rfl) (by kernel_rfl) (by kernel_rfl) (fun _ _ _ h => h) (Or.inl ⟨by rfl, fun W hW => by go_simp⟩) hS ?_
                            simp only [Act.put, List.setIfInBounds_toArray, List.set_cons_zero, List.set_cons_succ]
                            refine takeH (i := 2) (v := .bool false) rfl (by kernel_rfl) (by kernel_rfl) (by kernel_rfl) (fun _ _ _ h => h) (Or.inl ⟨by rfl, fun W hW => by go_simp⟩) hS ?_
                            simp only [Act.put, List.setIfInBounds_toArray, List.set_cons_zero, List.set_cons_succ]
                            refine takeH (i := 3) (v := .int .i64 (m : Int)) rfl (by kernel_rfl) (by kernel_rfl) (by kernel_rfl) (fun _ _ _ h => h) (Or.inl ⟨by rfl, fun W hW => by go_simp⟩) hS ?_
                            simp only [Act.put, List.setIfInBounds_toArray, List.set_cons_zero, List.set_cons_succ]
                            refine takeH (i := 4) (v := .bool true) rfl (by kernel_rfl) (by kernel_rfl) (by kernel_rfl) (fun _ _ _ h => h) (Or.inl ⟨by rfl, fun W hW => by go_simp; have := HM0.out; omega⟩) hS ?_
                            simp only [Act.put, List.setIfInBounds_toArray, List.set_cons_zero, List.set_cons_succ]
                            refine takeH (i := 5) (v := .bool true) rfl (by kernel_rfl) (by kernel_rfl) (by kernel_rfl) (fun _ _ _ h => h) (Or.inl ⟨by rfl, fun W hW => by go_simp⟩) hS ?_
                            simp only [Act.put, List.setIfInBounds_toArray, List.set_cons_zero, List.set_cons_succ]
                            refine takeH (i := 6) (v := .slice (some ⟨g, go, none⟩) y5 tc) rfl (by kernel_rfl) (by kernel_rfl) (by kernel_rfl) (fun _ _ _ h => h) (Or.inl ⟨by rfl, fun W hW => by go_simp⟩) hS ?_
                            simp only [Act.put, List.setIfInBounds_toArray, List.set_cons_zero, List.set_cons_succ]
                            refine takeH (i := 7) (v := .int .i64 (m : Int)) rfl (by kernel_rfl) (by kernel_rfl) (by kernel_rfl) (fun _ _ _ h => h) (Or.inl ⟨by rfl, fun W hW => by go_simp⟩) hS ?_
                            simp only [Act.put, List.setIfInBounds_toArray, List.set_cons_zero, List.set_cons_succ]
                            refine takeH (i := 8) (v := .int .i64 (km : Int)) rfl (by kernel_rfl) (by kernel_rfl) (by kernel_rfl) (fun _ _ _ h => h) (Or.inl ⟨by rfl, fun W hW => by go_simp⟩) hS ?_
                            simp only [Act.put, List.setIfInBounds_toArray, List.set_cons_zero, List.set_cons_succ]
                            refine takeH (i := 9) (v := .pointer (some ⟨g, go + km * 13, none⟩)) rfl (by kernel_rfl) (by kernel_rfl) (by kernel_rfl) (fun _ _ _ h => h) (Or.inl ⟨by rfl, fun W hW => by go_simp⟩) hS ?_
                            simp only [Act.put, List.setIfInBounds_toArray, List.set_cons_zero, List.set_cons_succ]
                            refine takeH (i := 10) (v := .pointer (some ⟨g, go + km * 13, none⟩)) rfl (by kernel_rfl) (by kernel_rfl) (by kernel_rfl) (fun _ _ _ h => h) (Or.inl ⟨by rfl, fun W hW => by go_simp⟩) hS ?_
                            simp only [Act.put, List.setIfInBounds_toArray, List.set_cons_zero, List.set_cons_succ]
                            refine takeH (i := 11) (v := .agg #[.int .u64 c.hi, .int .u64 c.lo]) rfl (by kernel_rfl) (by kernel_rfl) (by kernel_rfl) (fun _ _ _ h => h) (Or.inl ⟨by rfl, fun W hW => by obtain ⟨s0, s1, s2, s3, s4, s5⟩ := hW; go_simp⟩) hS ?_
                            simp only [Act.put, List.setIfInBounds_toArray, List.set_cons_zero, List.set_cons_succ]
                            refine takeH (i := 12) (v := .slice (some ⟨g, go, none⟩) y5 tc) rfl (by kernel_rfl) (by kernel_rfl) (by kernel_rfl) (fun _ _ _ h => h) (Or.inl ⟨by rfl, fun W hW => by go_simp⟩) hS ?_
                            simp only [Act.put, List.setIfInBounds_toArray, List.set_cons_zero, List.set_cons_succ]
                            refine takeH (i := 13) (v := .int .i64 (m : Int)) rfl (by kernel_rfl) (by kernel_rfl) (by kernel_rfl) (fun _ _ _ h => h) (Or.inl ⟨by rfl, fun W hW => by go_simp⟩) hS ?_
                            simp only [Act.put, List.setIfInBounds_toArray, List.set_cons_zero, List.set_cons_succ]
                            refine takeH (i := 14) (v := .pointer (some ⟨g, go + m * 13, none⟩)) rfl (by kernel_rfl) (by kernel_rfl) (by kernel_rfl) (fun _ _ _ h => h) (Or.inl ⟨by rfl, fun W hW => by go_simp⟩) hS ?_
                            simp only [Act.put, List.setIfInBounds_toArray, List.set_cons_zero, List.set_cons_succ]
                            refine takeH (i := 15) (v := .pointer (some ⟨g, go + m * 13, none⟩)) rfl (by kernel_rfl) (by kernel_rfl) (by kernel_rfl) (fun _ _ _ h => h) (Or.inl ⟨by rfl, fun W hW => by go_simp⟩) hS ?_
                            simp only [Act.put, List.setIfInBounds_toArray, List.set_cons_zero, List.set_cons_succ]
                            refine takeH (i := 16) (v := .agg #[.int .u64 y.hi, .int .u64 y.lo]) rfl (by kernel_rfl) (by kernel_rfl) (by kernel_rfl) (fun _ _ _ h => h) (Or.inl ⟨by rfl, fun W hW => by obtain ⟨s0, s1, s2, s3, s4, s5⟩ := hW; go_simp⟩) hS ?_
                            simp only [Act.put, List.setIfInBounds_toArray, List.set_cons_zero, List.set_cons_succ]
                            refine onlyH (i := 17) rfl (by kernel_rfl) (fun K hK => ?_)
                            go_simp
                            go_at_call 14
                            (with_reducible refine (TL wv.drew).mono ?_)
                            clear hS
                            rintro e w8 ⟨rfl, hb8'⟩
                            have hb8 : Below wv.heap.size wv w8 := ((Below.refl _ wv).drew).trans hb8'
                            have hS := HK6.out w8 hb8
                            refine hK _ _ ⟨hS, ?_⟩
                            clear hK K
                            have HB8 : Hid (Below wv.heap.size wv w8) := hb8
                            clear hb8 hb8'
                            refine takeH (i := 18) (v := .bool true) rfl (by kernel_rfl) (by kernel_rfl) (by kernel_rfl) (fun _ _ _ h => h) (Or.inl ⟨by rfl, fun W hW => by go_simp⟩) hS ?_
                            simp only [Act.put, List.setIfInBounds_toArray, List.set_cons_zero, List.set_cons_succ]
                            refine takeH (i := 19) (v := undef) rfl (by kernel_rfl) (by kernel_rfl) (by kernel_rfl) (fun _ _ _ h => h) (Or.inr ⟨by rfl, rfl⟩) hS ?_
                            simp only [Act.put, List.setIfInBounds_toArray, List.set_cons_zero, List.set_cons_succ]
                            refine takeH (i := 20) (v := undef) rfl (by kernel_rfl) (by kernel_rfl) (by kernel_rfl) (fun _ _ _ h => h) (Or.inr ⟨by rfl, rfl⟩) hS ?_
                            simp only [Act.put, List.setIfInBounds_toArray, List.set_cons_zero, List.set_cons_succ]
                            refine takeH (i := 21) (v := undef) rfl (by kernel_rfl) (by kernel_rfl) (by kernel_rfl) (fun _ _ _ h => h) (Or.inr ⟨by rfl, rfl⟩) hS ?_
                            simp only [Act.put, List.setIfInBounds_toArray, List.set_cons_zero, List.set_cons_succ]
                            refine takeH (i := 22) (v := undef) rfl (by kernel_rfl) (by kernel_rfl) (by kernel_rfl) (fun _ _ _ h => h) (Or.inr ⟨by rfl, rfl⟩) hS ?_
                            simp only [Act.put, List.setIfInBounds_toArray, List.set_cons_zero, List.set_cons_succ]
                            refine takeH (i := 23) (v := undef) rfl (by kernel_rfl) (by kernel_rfl) (by kernel_rfl) (fun _ _ _ h => h) (Or.inr ⟨by rfl, rfl⟩) hS ?_
                            simp only [Act.put, List.setIfInBounds_toArray, List.set_cons_zero, List.set_cons_succ]
                            refine takeH (i := 24) (v := undef) rfl (by kernel_rfl) (by kernel_rfl) (by kernel_rfl) (fun _ _ _ h => h) (Or.inr ⟨by rfl, rfl⟩) hS ?_
                            simp only [Act.put, List.setIfInBounds_toArray, List.set_cons_zero, List.set_cons_succ]
                            refine takeH (i := 25) (v := undef) rfl (by kernel_rfl) (by kernel_rfl) (by kernel_rfl) (fun _ _ _ h => h) (Or.inr ⟨by rfl, rfl⟩) hS ?_
                            simp only [Act.put, List.setIfInBounds_toArray, List.set_cons_zero, List.set_cons_succ]
                            refine takeH (i := 26) (v := undef) rfl (by kernel_rfl) (by kernel_rfl) (by kernel_rfl) (fun _ _ _ h => h) (Or.inr ⟨by rfl, rfl⟩) hS ?_
                            simp only [Act.put, List.setIfInBounds_toArray, List.set_cons_zero, List.set_cons_succ]
                            refine takeH (i := 27) (v := undef) rfl (by kernel_rfl) (by kernel_rfl) (by kernel_rfl) (fun _ _ _ h => h) (Or.inr ⟨by rfl, rfl⟩) hS ?_
                            simp only [Act.put, List.setIfInBounds_toArray, List.set_cons_zero, List.set_cons_succ]
                            refine takeH (i := 28) (v := undef) rfl (by kernel_rfl) (by kernel_rfl) (by kernel_rfl) (fun _ _ _ h => h) (Or.inr ⟨by rfl, rfl⟩) hS ?_
                            simp only [Act.put, List.setIfInBounds_toArray, List.set_cons_zero, List.set_cons_succ]
                            refine takeH (i := 29) (v := undef) rfl (by kernel_rfl) (by kernel_rfl) (by kernel_rfl) (fun _ _ _ h => h) (Or.inr ⟨by rfl, rfl⟩) hS ?_
                            simp only [Act.put, List.setIfInBounds_toArray, List.set_cons_zero, List.set_cons_succ]
                            refine takeH (i := 30) (v := undef) rfl (by kernel_rfl) (by kernel_rfl) (by kernel_rfl) (fun _ _ _ h => h) (Or.inr ⟨by rfl, rfl⟩) hS ?_
                            simp only [Act.put, List.setIfInBounds_toArray, List.set_cons_zero, List.set_cons_succ]
                            refine takeH (i := 31) (v := undef) rfl (by kernel_rfl) (by kernel_rfl) (by kernel_rfl) (fun _ _ _ h => h) (Or.inr ⟨by rfl, rfl⟩) hS ?_
                            simp only [Act.put, List.setIfInBounds_toArray, List.set_cons_zero, List.set_cons_succ]
                            refine takeH (i := 32) (v := undef) rfl (by kernel_rfl) (by kernel_rfl) (by kernel_rfl) (fun _ _ _ h => h) (Or.inr ⟨by rfl, rfl⟩) hS ?_
                            simp only [Act.put, List.setIfInBounds_toArray, List.set_cons_zero, List.set_cons_succ]
                            refine takeH (i := 33) (v := undef) rfl (by kernel_rfl) (by kernel_rfl) (by kernel_rfl) (fun _ _ _ h => h) (Or.inr ⟨by rfl, rfl⟩) hS ?_
                            simp only [Act.put, List.setIfInBounds_toArray, List.set_cons_zero, List.set_cons_succ]
                            refine takeH (i := 34) (v := undef) rfl (by kernel_rfl) (by kernel_rfl) (by kernel_rfl) (fun _ _ _ h => h) (Or.inr ⟨by rfl, rfl⟩) hS ?_
                            simp only [Act.put, List.setIfInBounds_toArray, List.set_cons_zero, List.set_cons_succ]
                            refine takeH (i := 35) (v := undef) rfl (by kernel_rfl) (by kernel_rfl) (by kernel_rfl) (fun _ _ _ h => h) (Or.inr ⟨by rfl, rfl⟩) hS ?_
                            simp only [Act.put, List.setIfInBounds_toArray, List.set_cons_zero, List.set_cons_succ]
                            refine takeH (i := 36) (v := undef) rfl (by kernel_rfl) (by kernel_rfl) (by kernel_rfl) (fun _ _ _ h => h) (Or.inr ⟨by rfl, rfl⟩) hS ?_
                            simp only [Act.put, List.setIfInBounds_toArray, List.set_cons_zero, List.set_cons_succ]
                            refine takeH (i := 37) (v := undef) rfl (by kernel_rfl) (by kernel_rfl) (by kernel_rfl) (fun _ _ _ h => h) (Or.inr ⟨by rfl, rfl⟩) hS ?_
                            simp only [Act.put, List.setIfInBounds_toArray, List.set_cons_zero, List.set_cons_succ]
                            refine takeH (i := 38) (v := undef) rfl (by kernel_rfl) (by kernel_rfl) (by kernel_rfl) (fun _ _ _ h => h) (Or.inr ⟨by rfl, rfl⟩) hS ?_
                            simp only [Act.put, List.setIfInBounds_toArray, List.set_cons_zero, List.set_cons_succ]
                            refine takeH (i := 39) (v := undef) rfl (by kernel_rfl) (by kernel_rfl) (by kernel_rfl) (fun _ _ _ h => h) (Or.inr ⟨by rfl, rfl⟩) hS ?_
                            simp only [Act.put, List.setIfInBounds_toArray, List.set_cons_zero, List.set_cons_succ]
                            refine takeH (i := 40) (v := undef) rfl (by kernel_rfl) (by kernel_rfl) (by kernel_rfl) (fun _ _ _ h => h) (Or.inr ⟨by rfl, rfl⟩) hS ?_
                            simp only [Act.put, List.setIfInBounds_toArray, List.set_cons_zero, List.set_cons_succ]
                            refine takeH (i := 41) (v := undef) rfl (by kernel_rfl) (by kernel_rfl) (by kernel_rfl) (fun _ _ _ h => h) (Or.inr ⟨by rfl, rfl⟩) hS ?_
                            simp only [Act.put, List.setIfInBounds_toArray, List.set_cons_zero, List.set_cons_succ]
                            refine takeH (i := 42) (v := undef) rfl (by kernel_rfl) (by kernel_rfl) (by kernel_rfl) (fun _ _ _ h => h) (Or.inr ⟨by rfl, rfl⟩) hS ?_
                            simp only [Act.put, List.setIfInBounds_toArray, List.set_cons_zero, List.set_cons_succ]
                            refine takeH (i := 43) (v := undef) rfl (by kernel_rfl) (by kernel_rfl) (by kernel_rfl) (fun _ _ _ h => h) (Or.inr ⟨by rfl, rfl⟩) hS ?_
                            simp only [Act.put, List.setIfInBounds_toArray, List.set_cons_zero, List.set_cons_succ]
                            refine takeH (i := 44) (v := undef) rfl (by kernel_rfl) (by kernel_rfl) (by kernel_rfl) (fun _ _ _ h => h) (Or.inr ⟨by rfl, rfl⟩) hS ?_
                            simp only [Act.put, List.setIfInBounds_toArray, List.set_cons_zero, List.set_cons_succ]
                            refine takeH (i := 45) (v := .bool true) rfl (by kernel_rfl) (by kernel_rfl) (by kernel_rfl) (fun _ _ _ h => h) (Or.inl ⟨by rfl, fun W hW => by go_simp⟩) hS ?_
                            simp only [Act.put, List.setIfInBounds_toArray, List.set_cons_zero, List.set_cons_succ]
                            refine takeH (i := 46) (v := .bool false) rfl (by kernel_rfl) (by kernel_rfl) (by kernel_rfl) (fun _ _ _ h => h) (Or.inl ⟨by rfl, fun W hW => by go_simp⟩) hS ?_
                            simp only [Act.put, List.setIfInBounds_toArray, List.set_cons_zero, List.set_cons_succ]
                            refine takeH (i := 47) (v := .bool false) rfl (by kernel_rfl) (by kernel_rfl) (by kernel_rfl) (fun _ _ _ h => h) (Or.inl ⟨by rfl, fun W hW => by go_simp⟩) hS ?_
                            simp only [Act.put, List.setIfInBounds_toArray, List.set_cons_zero, List.set_cons_succ]
                            refine takeH (i := 48) (v := .bool false) rfl (by kernel_rfl) (by kernel_rfl) (by kernel_rfl) (fun _ _ _ h => h) (Or.inl ⟨by rfl, fun W hW => by go_simp⟩) hS ?_
                            simp only [Act.put, List.setIfInBounds_toArray, List.set_cons_zero, List.set_cons_succ]
                            refine wpAnyH_done (by kernel_rfl) ?_ _
                            have HB9 : Hid (Below w10.heap.size w10 w8) := HBV.out.trans (HB8.out.mono HBV.out.size)
                            go_wp2
                            go_roundw
                            case rel => exact ⟨m + 1, by go_num, by omega, HB9⟩
                            case measure => (simp [intOf]; omega)
                        · as_aux_lemma =>
                            rw [if_pos he, decide_eq_true h2] at TL
                            clear he h2
                            have hS := HK6.out wv.drew ((Below.refl _ _).drew)
                            refine wp_region_held (S := fun U => U.cell? ⟨g, go + km * 13, none⟩ = some (.int .u64 c.hi) ∧ U.cell? ⟨g, go + km * 13 + 1, none⟩ = some (.int .u64 c.lo) ∧ U.cell? ⟨g, go + km * 13 + 2, none⟩ = some (.int .u64 c.id) ∧ U.cell? ⟨g, go + m * 13, none⟩ = some (.int .u64 y.hi) ∧ U.cell? ⟨g, go + m * 13 + 1, none⟩ = some (.int .u64 y.lo) ∧ U.cell? ⟨g, go + m * 13 + 2, none⟩ = some (.int .u64 y.id)) (by kernel_rfl) ?_
                            change wpAnyH _ _ _ _ _ _ _ _ (World.drew _)
                            refine takeH (i := 0) (v := .bool true) rfl (by kernel_rfl) (by kernel_rfl) (by kernel_rfl) (fun _ _ _ h => h) (Or.inl ⟨by rfl, fun W hW => by go_simp⟩) hS ?_
                            simp only [Act.put, List.setIfInBounds_toArray, List.set_cons_zero, List.set_cons_succ]
                            refine takeH (i := 1) (v := .bool false) rfl (by kernel_rfl) (by kernel_rfl) (by kernel_rfl) (fun _ _ _ h => h) (Or.inl ⟨by rfl, fun W hW => by go_simp⟩) hS ?_
                            simp only [Act.put, List.setIfInBounds_toArray, List.set_cons_zero, List.set_cons_succ]
                            refine takeH (i := 2) (v := .bool false) rfl (by kernel_rfl) (by kernel_rfl) (by kernel_rfl) (fun _ _ _ h => h) (Or.inl ⟨by rfl, fun W hW => by go_simp⟩) hS ?_
                            simp only [Act.put, List.setIfInBounds_toArray, List.set_cons_zero, List.set_cons_succ]
                            refine takeH (i := 3) (v := .int .i64 (m : Int)) rfl (by kernel_rfl) (by kernel_rfl) (by kernel_rfl) (fun _ _ _ h => h) (Or.inl ⟨by rfl, fun W hW => by go_simp⟩) hS ?_
                            simp only [Act.put, List.setIfInBounds_toArray, List.set_cons_zero, List.set_cons_succ]
                            refine takeH (i := 4) (v := .bool true) rfl (by kernel_rfl) (by kernel_rfl) (by kernel_rfl) (fun _ _ _ h => h) (Or.inl ⟨by rfl, fun W hW => by go_simp; have := HM0.out; omega⟩) hS ?_
                            simp only [Act.put, List.setIfInBounds_toArray, List.set_cons_zero, List.set_cons_succ]
                            refine takeH (i := 5) (v := .bool true) rfl (by kernel_rfl) (by kernel_rfl) (by kernel_rfl) (fun _ _ _ h => h) (Or.inl ⟨by rfl, fun W hW => by go_simp⟩) hS ?_
                            simp only [Act.put, List.setIfInBounds_toArray, List.set_cons_zero, List.set_cons_succ]
                            refine takeH (i := 6) (v := .slice (some ⟨g, go, none⟩) y5 tc) rfl (by kernel_rfl) (by kernel_rfl) (by kernel_rfl) (fun _ _ _ h => h) (Or.inl ⟨by rfl, fun W hW => by go_simp⟩) hS ?_
                            simp only [Act.put, List.setIfInBounds_toArray, List.set_cons_zero, List.set_cons_succ]
                            refine takeH (i := 7) (v := .int .i64 (m : Int)) rfl (by kernel_rfl) (by kernel_rfl) (by kernel_rfl) (fun _ _ _ h => h) (Or.inl ⟨by rfl, fun W hW => by go_simp⟩) hS ?_
                            simp only [Act.put, List.setIfInBounds_toArray, List.set_cons_zero, List.set_cons_succ]
                            refine takeH (i := 8) (v := .int .i64 (km : Int)) rfl (by kernel_rfl) (by kernel_rfl) (by kernel_rfl) (fun _ _ _ h => h) (Or.inl ⟨by rfl, fun W hW => by go_simp⟩) hS ?_
                            simp only [Act.put, List.setIfInBounds_toArray, List.set_cons_zero, List.set_cons_succ]
                            refine takeH (i := 9) (v := .pointer (some ⟨g, go + km * 13, none⟩)) rfl (by kernel_rfl) (by kernel_rfl) (by kernel_rfl) (fun _ _ _ h => h) (Or.inl ⟨by rfl, fun W hW => by go_simp⟩) hS ?_
                            simp only [Act.put, List.setIfInBounds_toArray, List.set_cons_zero, List.set_cons_succ]
                            refine takeH (i := 10) (v := .pointer (some ⟨g, go + km * 13, none⟩)) rfl (by kernel_rfl) (by kernel_rfl) (by kernel_rfl) (fun _ _ _ h => h) (Or.inl ⟨by rfl, fun W hW => by go_simp⟩) hS ?_
                            simp only [Act.put, List.setIfInBounds_toArray, List.set_cons_zero, List.set_cons_succ]
                            refine takeH (i := 11) (v := .agg #[.int .u64 c.hi, .int .u64 c.lo]) rfl (by kernel_rfl) (by kernel_rfl) (by kernel_rfl) (fun _ _ _ h => h) (Or.inl ⟨by rfl, fun W hW => by obtain ⟨s0, s1, s2, s3, s4, s5⟩ := hW; go_simp⟩) hS ?_
                            simp only [Act.put, List.setIfInBounds_toArray, List.set_cons_zero, List.set_cons_succ]
                            refine takeH (i := 12) (v := .slice (some ⟨g, go, none⟩) y5 tc) rfl (by kernel_rfl) (by kernel_rfl) (by kernel_rfl) (fun _ _ _ h => h) (Or.inl ⟨by rfl, fun W hW => by go_simp⟩) hS ?_
                            simp only [Act.put, List.setIfInBounds_toArray, List.set_cons_zero, List.set_cons_succ]
                            refine takeH (i := 13) (v := .int .i64 (m : Int)) rfl (by kernel_rfl) (by kernel_rfl) (by kernel_rfl) (fun _ _ _ h => h) (Or.inl ⟨by rfl, fun W hW => by go_simp⟩) hS ?_
                            simp only [Act.put, List.setIfInBounds_toArray, List.set_cons_zero, List.set_cons_succ]
                            refine takeH (i := 14) (v := .pointer (some ⟨g, go + m * 13, none⟩)) rfl (by kernel_rfl) (by kernel_rfl) (by kernel_rfl) (fun _ _ _ h => h) (Or.inl ⟨by rfl, fun W hW => by go_simp⟩) hS ?_
                            simp only [Act.put, List.setIfInBounds_toArray, List.set_cons_zero, List.set_cons_succ]
                            refine takeH (i := 15) (v := .pointer (some ⟨g, go + m * 13, none⟩)) rfl (by kernel_rfl) (by kernel_rfl) (by kernel_rfl) (fun _ _ _ h => h) (Or.inl ⟨by rfl, fun W hW => by go_simp⟩) hS ?_
                            simp only [Act.put, List.setIfInBounds_toArray, List.set_cons_zero, List.set_cons_succ]
                            refine takeH (i := 16) (v := .agg #[.int .u64 y.hi, .int .u64 y.lo]) rfl (by kernel_rfl) (by kernel_rfl) (by kernel_rfl) (fun _ _ _ h => h) (Or.inl ⟨by rfl, fun W hW => by obtain ⟨s0, s1, s2, s3, s4, s5⟩ := hW; go_simp⟩) hS ?_
                            simp only [Act.put, List.setIfInBounds_toArray, List.set_cons_zero, List.set_cons_succ]
                            refine onlyH (i := 17) rfl (by kernel_rfl) (fun K hK => ?_)
                            go_simp
                            go_at_call 14
                            (with_reducible refine (TL wv.drew).mono ?_)
                            clear hS
                            rintro e w8 ⟨rfl, hb8'⟩
                            have hb8 : Below wv.heap.size wv w8 := ((Below.refl _ wv).drew).trans hb8'
                            have hS := HK6.out w8 hb8
                            refine hK _ _ ⟨hS, ?_⟩
                            clear hK K
                            have HB8 : Hid (Below wv.heap.size wv w8) := hb8
                            clear hb8 hb8'
                            refine takeH (i := 18) (v := .bool true) rfl (by kernel_rfl) (by kernel_rfl) (by kernel_rfl) (fun _ _ _ h => h) (Or.inl ⟨by rfl, fun W hW => by go_simp⟩) hS ?_
                            simp only [Act.put, List.setIfInBounds_toArray, List.set_cons_zero, List.set_cons_succ]
                            refine takeH (i := 19) (v := undef) rfl (by kernel_rfl) (by kernel_rfl) (by kernel_rfl) (fun _ _ _ h => h) (Or.inr ⟨by rfl, rfl⟩) hS ?_
                            simp only [Act.put, List.setIfInBounds_toArray, List.set_cons_zero, List.set_cons_succ]
                            refine takeH (i := 20) (v := undef) rfl (by kernel_rfl) (by kernel_rfl) (by kernel_rfl) (fun _ _ _ h => h) (Or.inr ⟨by rfl, rfl⟩) hS ?_
                            simp only [Act.put, List.setIfInBounds_toArray, List.set_cons_zero, List.set_cons_succ]
                            refine takeH (i := 21) (v := undef) rfl (by kernel_rfl) (by kernel_rfl) (by kernel_rfl) (fun _ _ _ h => h) (Or.inr ⟨by rfl, rfl⟩) hS ?_
                            simp only [Act.put, List.setIfInBounds_toArray, List.set_cons_zero, List.set_cons_succ]
                            refine takeH (i := 22) (v := undef) rfl (by kernel_rfl) (by kernel_rfl) (by kernel_rfl) (fun _ _ _ h => h) (Or.inr ⟨by rfl, rfl⟩) hS ?_
                            simp only [Act.put, List.setIfInBounds_toArray, List.set_cons_zero, List.set_cons_succ]
                            refine takeH (i := 23) (v := undef) rfl (by kernel_rfl) (by kernel_rfl) (by kernel_rfl) (fun _ _ _ h => h) (Or.inr ⟨by rfl, rfl⟩) hS ?_
                            simp only [Act.put, List.setIfInBounds_toArray, List.set_cons_zero, List.set_cons_succ]
                            refine takeH (i := 24) (v := undef) rfl (by kernel_rfl) (by kernel_rfl) (by kernel_rfl) (fun _ _ _ h => h) (Or.inr ⟨by rfl, rfl⟩) hS ?_
                            simp only [Act.put, List.setIfInBounds_toArray, List.set_cons_zero, List.set_cons_succ]
                            refine takeH (i := 25) (v := undef) rfl (by kernel_rfl) (by kernel_rfl) (by kernel_rfl) (fun _ _ _ h => h) (Or.inr ⟨by rfl, rfl⟩) hS ?_
                            simp only [Act.put, List.setIfInBounds_toArray, List.set_cons_zero, List.set_cons_succ]
                            refine takeH (i := 26) (v := undef) rfl (by kernel_rfl) (by kernel_rfl) (by kernel_rfl) (fun _ _ _ h => h) (Or.inr ⟨by rfl, rfl⟩) hS ?_
                            simp only [Act.put, List.setIfInBounds_toArray, List.set_cons_zero, List.set_cons_succ]
                            refine takeH (i := 27) (v := undef) rfl (by kernel_rfl) (by kernel_rfl) (by kernel_rfl) (fun _ _ _ h => h) (Or.inr ⟨by rfl, rfl⟩) hS ?_
                            simp only [Act.put, List.setIfInBounds_toArray, List.set_cons_zero, List.set_cons_succ]
                            refine takeH (i := 28) (v := undef) rfl (by kernel_rfl) (by kernel_rfl) (by kernel_rfl) (fun _ _ _ h => h) (Or.inr ⟨by rfl, rfl⟩) hS ?_
                            simp only [Act.put, List.setIfInBounds_toArray, List.set_cons_zero, List.set_cons_succ]
                            refine takeH (i := 29) (v := undef) rfl (by kernel_rfl) (by kernel_rfl) (by kernel_rfl) (fun _ _ _ h => h) (Or.inr ⟨by rfl, rfl⟩) hS ?_
                            simp only [Act.put, List.setIfInBounds_toArray, List.set_cons_zero, List.set_cons_succ]
                            refine takeH (i := 30) (v := undef) rfl (by kernel_rfl) (by kernel_rfl) (by kernel_rfl) (fun _ _ _ h => h) (Or.inr ⟨by rfl, rfl⟩) hS ?_
                            simp only [Act.put, List.setIfInBounds_toArray, List.set_cons_zero, List.set_cons_succ]
                            refine takeH (i := 31) (v := undef) rfl (by kernel_rfl) (by kernel_rfl) (by kernel_rfl) (fun _ _ _ h => h) (Or.inr ⟨by rfl, rfl⟩) hS ?_
                            simp only [Act.put, List.setIfInBounds_toArray, List.set_cons_zero, List.set_cons_succ]
                            refine takeH (i := 32) (v := undef) rfl (by kernel_rfl) (by kernel_rfl) (by kernel_rfl) (fun _ _ _ h => h) (Or.inr ⟨by rfl, rfl⟩) hS ?_
                            simp only [Act.put, List.setIfInBounds_toArray, List.set_cons_zero, List.set_cons_succ]
                            refine takeH (i := 33) (v := undef) rfl (by kernel_rfl) (by kernel_rfl) (by kernel_rfl) (fun _ _ _ h => h) (Or.inr ⟨by rfl, rfl⟩) hS ?_
                            simp only [Act.put, List.setIfInBounds_toArray, List.set_cons_zero, List.set_cons_succ]
                            refine takeH (i := 34) (v := undef) rfl (by kernel_rfl) (by kernel_rfl) (by kernel_rfl) (fun _ _ _ h => h) (Or.inr ⟨by rfl, rfl⟩) hS ?_
                            simp only [Act.put, List.setIfInBounds_toArray, List.set_cons_zero, List.set_cons_succ]
                            refine takeH (i := 35) (v := undef) rfl (by kernel_rfl) (by kernel_rfl) (by kernel_rfl) (fun _ _ _ h => h) (Or.inr ⟨by rfl, rfl⟩) hS ?_
                            simp only [Act.put, List.setIfInBounds_toArray, List.set_cons_zero, List.set_cons_succ]
                            refine takeH (i := 36) (v := undef) rfl (by kernel_rfl) (by kernel_rfl) (by kernel_rfl) (fun _ _ _ h => h) (Or.inr ⟨by rfl, rfl⟩) hS ?_
                            simp only [Act.put, List.setIfInBounds_toArray, List.set_cons_zero, List.set_cons_succ]
                            refine takeH (i := 37) (v := undef) rfl (by kernel_rfl) (by kernel_rfl) (by kernel_rfl) (fun _ _ _ h => h) (Or.inr ⟨by rfl, rfl⟩) hS ?_
                            simp only [Act.put, List.setIfInBounds_toArray, List.set_cons_zero, List.set_cons_succ]
                            refine takeH (i := 38) (v := undef) rfl (by kernel_rfl) (by kernel_rfl) (by kernel_rfl) (fun _ _ _ h => h) (Or.inr ⟨by rfl, rfl⟩) hS ?_
                            simp only [Act.put, List.setIfInBounds_toArray, List.set_cons_zero, List.set_cons_succ]
                            refine takeH (i := 39) (v := undef) rfl (by kernel_rfl) (by kernel_rfl) (by kernel_rfl) (fun _ _ _ h => h) (Or.inr ⟨by rfl, rfl⟩) hS ?_
                            simp only [Act.put, List.setIfInBounds_toArray, List.set_cons_zero, List.set_cons_succ]
                            refine takeH (i := 40) (v := undef) rfl (by kernel_rfl) (by kernel_rfl) (by kernel_rfl) (fun _ _ _ h => h) (Or.inr ⟨by rfl, rfl⟩) hS ?_
                            simp only [Act.put, List.setIfInBounds_toArray, List.set_cons_zero, List.set_cons_succ]
                            refine takeH (i := 41) (v := undef) rfl (by kernel_rfl) (by kernel_rfl) (by kernel_rfl) (fun _ _ _ h => h) (Or.inr ⟨by rfl, rfl⟩) hS ?_
                            simp only [Act.put, List.setIfInBounds_toArray, List.set_cons_zero, List.set_cons_succ]
                            refine takeH (i := 42) (v := undef) rfl (by kernel_rfl) (by kernel_rfl) (by kernel_rfl) (fun _ _ _ h => h) (Or.inr ⟨by rfl, rfl⟩) hS ?_
                            simp only [Act.put, List.setIfInBounds_toArray, List.set_cons_zero, List.set_cons_succ]
                            refine takeH (i := 43) (v := undef) rfl (by kernel_rfl) (by kernel_rfl) (by kernel_rfl) (fun _ _ _ h => h) (Or.inr ⟨by rfl, rfl⟩) hS ?_
                            simp only [Act.put, List.setIfInBounds_toArray, List.set_cons_zero, List.set_cons_succ]
                            refine takeH (i := 44) (v := undef) rfl (by kernel_rfl) (by kernel_rfl) (by kernel_rfl) (fun _ _ _ h => h) (Or.inr ⟨by rfl, rfl⟩) hS ?_
                            simp only [Act.put, List.setIfInBounds_toArray, List.set_cons_zero, List.set_cons_succ]
                            refine takeH (i := 45) (v := .bool true) rfl (by kernel_rfl) (by kernel_rfl) (by kernel_rfl) (fun _ _ _ h => h) (Or.inl ⟨by rfl, fun W hW => by go_simp⟩) hS ?_
                            simp only [Act.put, List.setIfInBounds_toArray, List.set_cons_zero, List.set_cons_succ]
                            refine takeH (i := 46) (v := .bool false) rfl (by kernel_rfl) (by kernel_rfl) (by kernel_rfl) (fun _ _ _ h => h) (Or.inl ⟨by rfl, fun W hW => by go_simp⟩) hS ?_
                            simp only [Act.put, List.setIfInBounds_toArray, List.set_cons_zero, List.set_cons_succ]
                            refine takeH (i := 47) (v := .bool false) rfl (by kernel_rfl) (by kernel_rfl) (by kernel_rfl) (fun _ _ _ h => h) (Or.inl ⟨by rfl, fun W hW => by go_simp⟩) hS ?_
                            simp only [Act.put, List.setIfInBounds_toArray, List.set_cons_zero, List.set_cons_succ]
                            refine takeH (i := 48) (v := .bool false) rfl (by kernel_rfl) (by kernel_rfl) (by kernel_rfl) (fun _ _ _ h => h) (Or.inl ⟨by rfl, fun W hW => by go_simp⟩) hS ?_
                            simp only [Act.put, List.setIfInBounds_toArray, List.set_cons_zero, List.set_cons_succ]
                            refine wpAnyH_done (by kernel_rfl) ?_ _
                            have HB9 : Hid (Below w10.heap.size w10 w8) := HBV.out.trans (HB8.out.mono HBV.out.size)
                            go_wp2
                            go_roundw
                            case rel => exact ⟨m + 1, by go_num, by omega, HB9⟩
                            case measure => (simp [intOf]; omega)
                        · as_aux_lemma =>
                            have hdd : decide (c.lo < y.lo) = false := decide_eq_false (by omega)
                            rw [if_pos he, hdd] at TL
                            have HIDS : Hid (c.id < y.id) := h2
                            clear hdd h2
                            rw [he, he2] at HK6 TL
                            have hS := HK6.out wv.drew ((Below.refl _ _).drew)
                            refine wp_region_held (S := fun U => U.cell? ⟨g, go + km * 13, none⟩ = some (.int .u64 y.hi) ∧ U.cell? ⟨g, go + km * 13 + 1, none⟩ = some (.int .u64 y.lo) ∧ U.cell? ⟨g, go + km * 13 + 2, none⟩ = some (.int .u64 c.id) ∧ U.cell? ⟨g, go + m * 13, none⟩ = some (.int .u64 y.hi) ∧ U.cell? ⟨g, go + m * 13 + 1, none⟩ = some (.int .u64 y.lo) ∧ U.cell? ⟨g, go + m * 13 + 2, none⟩ = some (.int .u64 y.id)) (by kernel_rfl) ?_
                            change wpAnyH _ _ _ _ _ _ _ _ (World.drew _)
                            refine takeH (i := 0) (v := .bool true) rfl (by kernel_rfl) (by kernel_rfl) (by kernel_rfl) (fun _ _ _ h => h) (Or.inl ⟨by rfl, fun W hW => by go_simp⟩) hS ?_
                            simp only [Act.put, List.setIfInBounds_toArray, List.set_cons_zero, List.set_cons_succ]
                            refine takeH (i := 1) (v := .bool false) rfl (by kernel_rfl) (by kernel_rfl) (by kernel_rfl) (fun _ _ _ h => h) (Or.inl ⟨by rfl, fun W hW => by go_simp⟩) hS ?_
                            simp only [Act.put, List.setIfInBounds_toArray, List.set_cons_zero, List.set_cons_succ]
                            refine takeH (i := 2) (v := .bool false) rfl (by kernel_rfl) (by kernel_rfl) (by kernel_rfl) (fun _ _ _ h => h) (Or.inl ⟨by rfl, fun W hW => by go_simp⟩) hS ?_
                            simp only [Act.put, List.setIfInBounds_toArray, List.set_cons_zero, List.set_cons_succ]
                            refine takeH (i := 3) (v := .int .i64 (m : Int)) rfl (by kernel_rfl) (by kernel_rfl) (by kernel_rfl) (fun _ _ _ h => h) (Or.inl ⟨by rfl, fun W hW => by go_simp⟩) hS ?_
                            simp only [Act.put, List.setIfInBounds_toArray, List.set_cons_zero, List.set_cons_succ]
                            refine takeH (i := 4) (v := .bool true) rfl (by kernel_rfl) (by kernel_rfl) (by kernel_rfl) (fun _ _ _ h => h) (Or.inl ⟨by rfl, fun W hW => by go_simp; have := HM0.out; omega⟩) hS ?_
                            simp only [Act.put, List.setIfInBounds_toArray, List.set_cons_zero, List.set_cons_succ]
                            refine takeH (i := 5) (v := .bool true) rfl (by kernel_rfl) (by kernel_rfl) (by kernel_rfl) (fun _ _ _ h => h) (Or.inl ⟨by rfl, fun W hW => by go_simp⟩) hS ?_
                            simp only [Act.put, List.setIfInBounds_toArray, List.set_cons_zero, List.set_cons_succ]
                            refine takeH (i := 6) (v := .slice (some ⟨g, go, none⟩) y5 tc) rfl (by kernel_rfl) (by kernel_rfl) (by kernel_rfl) (fun _ _ _ h => h) (Or.inl ⟨by rfl, fun W hW => by go_simp⟩) hS ?_
                            simp only [Act.put, List.setIfInBounds_toArray, List.set_cons_zero, List.set_cons_succ]
                            refine takeH (i := 7) (v := .int .i64 (m : Int)) rfl (by kernel_rfl) (by kernel_rfl) (by kernel_rfl) (fun _ _ _ h => h) (Or.inl ⟨by rfl, fun W hW => by go_simp⟩) hS ?_
                            simp only [Act.put, List.setIfInBounds_toArray, List.set_cons_zero, List.set_cons_succ]
                            refine takeH (i := 8) (v := .int .i64 (km : Int)) rfl (by kernel_rfl) (by kernel_rfl) (by kernel_rfl) (fun _ _ _ h => h) (Or.inl ⟨by rfl, fun W hW => by go_simp⟩) hS ?_
                            simp only [Act.put, List.setIfInBounds_toArray, List.set_cons_zero, List.set_cons_succ]
                            refine takeH (i := 9) (v := .pointer (some ⟨g, go + km * 13, none⟩)) rfl (by kernel_rfl) (by kernel_rfl) (by kernel_rfl) (fun _ _ _ h => h) (Or.inl ⟨by rfl, fun W hW => by go_simp⟩) hS ?_
                            simp only [Act.put, List.setIfInBounds_toArray, List.set_cons_zero, List.set_cons_succ]
                            refine takeH (i := 10) (v := .pointer (some ⟨g, go + km * 13, none⟩)) rfl (by kernel_rfl) (by kernel_rfl) (by kernel_rfl) (fun _ _ _ h => h) (Or.inl ⟨by rfl, fun W hW => by go_simp⟩) hS ?_
                            simp only [Act.put, List.setIfInBounds_toArray, List.set_cons_zero, List.set_cons_succ]
                            refine takeH (i := 11) (v := .agg #[.int .u64 y.hi, .int .u64 y.lo]) rfl (by kernel_rfl) (by kernel_rfl) (by kernel_rfl) (fun _ _ _ h => h) (Or.inl ⟨by rfl, fun W hW => by obtain ⟨s0, s1, s2, s3, s4, s5⟩ := hW; go_simp⟩) hS ?_
                            simp only [Act.put, List.setIfInBounds_toArray, List.set_cons_zero, List.set_cons_succ]
                            refine takeH (i := 12) (v := .slice (some ⟨g, go, none⟩) y5 tc) rfl (by kernel_rfl) (by kernel_rfl) (by kernel_rfl) (fun _ _ _ h => h) (Or.inl ⟨by rfl, fun W hW => by go_simp⟩) hS ?_
                            simp only [Act.put, List.setIfInBounds_toArray, List.set_cons_zero, List.set_cons_succ]
                            refine takeH (i := 13) (v := .int .i64 (m : Int)) rfl (by kernel_rfl) (by kernel_rfl) (by kernel_rfl) (fun _ _ _ h => h) (Or.inl ⟨by rfl, fun W hW => by go_simp⟩) hS ?_
                            simp only [Act.put, List.setIfInBounds_toArray, List.set_cons_zero, List.set_cons_succ]
                            refine takeH (i := 14) (v := .pointer (some ⟨g, go + m * 13, none⟩)) rfl (by kernel_rfl) (by kernel_rfl) (by kernel_rfl) (fun _ _ _ h => h) (Or.inl ⟨by rfl, fun W hW => by go_simp⟩) hS ?_
                            simp only [Act.put, List.setIfInBounds_toArray, List.set_cons_zero, List.set_cons_succ]
                            refine takeH (i := 15) (v := .pointer (some ⟨g, go + m * 13, none⟩)) rfl (by kernel_rfl) (by kernel_rfl) (by kernel_rfl) (fun _ _ _ h => h) (Or.inl ⟨by rfl, fun W hW => by go_simp⟩) hS ?_
                            simp only [Act.put, List.setIfInBounds_toArray, List.set_cons_zero, List.set_cons_succ]
                            refine takeH (i := 16) (v := .agg #[.int .u64 y.hi, .int .u64 y.lo]) rfl (by kernel_rfl) (by kernel_rfl) (by kernel_rfl) (fun _ _ _ h => h) (Or.inl ⟨by rfl, fun W hW => by obtain ⟨s0, s1, s2, s3, s4, s5⟩ := hW; go_simp⟩) hS ?_
                            simp only [Act.put, List.setIfInBounds_toArray, List.set_cons_zero, List.set_cons_succ]
                            refine onlyH (i := 17) rfl (by kernel_rfl) (fun K hK => ?_)
                            go_simp
                            go_at_call 14
                            (with_reducible refine (TL wv.drew).mono ?_)
                            clear hS
                            rintro e w8 ⟨rfl, hb8'⟩
                            have hb8 : Below wv.heap.size wv w8 := ((Below.refl _ wv).drew).trans hb8'
                            have hS := HK6.out w8 hb8
                            refine hK _ _ ⟨hS, ?_⟩
                            clear hK K
                            have HB8 : Hid (Below wv.heap.size wv w8) := hb8
                            clear hb8 hb8'
                            refine takeH (i := 18) (v := .bool false) rfl (by kernel_rfl) (by kernel_rfl) (by kernel_rfl) (fun _ _ _ h => h) (Or.inl ⟨by rfl, fun W hW => by go_simp⟩) hS ?_
                            simp only [Act.put, List.setIfInBounds_toArray, List.set_cons_zero, List.set_cons_succ]
                            refine takeH (i := 19) (v := .slice (some ⟨g, go, none⟩) y5 tc) rfl (by kernel_rfl) (by kernel_rfl) (by kernel_rfl) (fun _ _ _ h => h) (Or.inl ⟨by rfl, fun W hW => by go_simp⟩) hS ?_
                            simp only [Act.put, List.setIfInBounds_toArray, List.set_cons_zero, List.set_cons_succ]
                            refine takeH (i := 20) (v := .int .i64 (m : Int)) rfl (by kernel_rfl) (by kernel_rfl) (by kernel_rfl) (fun _ _ _ h => h) (Or.inl ⟨by rfl, fun W hW => by go_simp⟩) hS ?_
                            simp only [Act.put, List.setIfInBounds_toArray, List.set_cons_zero, List.set_cons_succ]
                            refine takeH (i := 21) (v := .int .i64 (km : Int)) rfl (by kernel_rfl) (by kernel_rfl) (by kernel_rfl) (fun _ _ _ h => h) (Or.inl ⟨by rfl, fun W hW => by go_simp⟩) hS ?_
                            simp only [Act.put, List.setIfInBounds_toArray, List.set_cons_zero, List.set_cons_succ]
                            refine takeH (i := 22) (v := .pointer (some ⟨g, go + km * 13, none⟩)) rfl (by kernel_rfl) (by kernel_rfl) (by kernel_rfl) (fun _ _ _ h => h) (Or.inl ⟨by rfl, fun W hW => by go_simp⟩) hS ?_
                            simp only [Act.put, List.setIfInBounds_toArray, List.set_cons_zero, List.set_cons_succ]
                            refine takeH (i := 23) (v := .pointer (some ⟨g, go + km * 13, none⟩)) rfl (by kernel_rfl) (by kernel_rfl) (by kernel_rfl) (fun _ _ _ h => h) (Or.inl ⟨by rfl, fun W hW => by go_simp⟩) hS ?_
                            simp only [Act.put, List.setIfInBounds_toArray, List.set_cons_zero, List.set_cons_succ]
                            refine takeH (i := 24) (v := .agg #[.int .u64 y.hi, .int .u64 y.lo]) rfl (by kernel_rfl) (by kernel_rfl) (by kernel_rfl) (fun _ _ _ h => h) (Or.inl ⟨by rfl, fun W hW => by obtain ⟨s0, s1, s2, s3, s4, s5⟩ := hW; go_simp⟩) hS ?_
                            simp only [Act.put, List.setIfInBounds_toArray, List.set_cons_zero, List.set_cons_succ]
                            refine takeH (i := 25) (v := .slice (some ⟨g, go, none⟩) y5 tc) rfl (by kernel_rfl) (by kernel_rfl) (by kernel_rfl) (fun _ _ _ h => h) (Or.inl ⟨by rfl, fun W hW => by go_simp⟩) hS ?_
                            simp only [Act.put, List.setIfInBounds_toArray, List.set_cons_zero, List.set_cons_succ]
                            refine takeH (i := 26) (v := .int .i64 (m : Int)) rfl (by kernel_rfl) (by kernel_rfl) (by kernel_rfl) (fun _ _ _ h => h) (Or.inl ⟨by rfl, fun W hW => by go_simp⟩) hS ?_
                            simp only [Act.put, List.setIfInBounds_toArray, List.set_cons_zero, List.set_cons_succ]
                            refine takeH (i := 27) (v := .pointer (some ⟨g, go + m * 13, none⟩)) rfl (by kernel_rfl) (by kernel_rfl) (by kernel_rfl) (fun _ _ _ h => h) (Or.inl ⟨by rfl, fun W hW => by go_simp⟩) hS ?_
                            simp only [Act.put, List.setIfInBounds_toArray, List.set_cons_zero, List.set_cons_succ]
                            refine takeH (i := 28) (v := .pointer (some ⟨g, go + m * 13, none⟩)) rfl (by kernel_rfl) (by kernel_rfl) (by kernel_rfl) (fun _ _ _ h => h) (Or.inl ⟨by rfl, fun W hW => by go_simp⟩) hS ?_
                            simp only [Act.put, List.setIfInBounds_toArray, List.set_cons_zero, List.set_cons_succ]
                            refine takeH (i := 29) (v := .agg #[.int .u64 y.hi, .int .u64 y.lo]) rfl (by kernel_rfl) (by kernel_rfl) (by kernel_rfl) (fun _ _ _ h => h) (Or.inl ⟨by rfl, fun W hW => by obtain ⟨s0, s1, s2, s3, s4, s5⟩ := hW; go_simp⟩) hS ?_
                            simp only [Act.put, List.setIfInBounds_toArray, List.set_cons_zero, List.set_cons_succ]
                            refine takeH (i := 30) (v := .bool true) rfl (by kernel_rfl) (by kernel_rfl) (by kernel_rfl) (fun _ _ _ h => h) (Or.inl ⟨by rfl, fun W hW => by go_simp⟩) hS ?_
                            simp only [Act.put, List.setIfInBounds_toArray, List.set_cons_zero, List.set_cons_succ]
                            refine takeH (i := 31) (v := .bool true) rfl (by kernel_rfl) (by kernel_rfl) (by kernel_rfl) (fun _ _ _ h => h) (Or.inl ⟨by rfl, fun W hW => by go_simp⟩) hS ?_
                            simp only [Act.put, List.setIfInBounds_toArray, List.set_cons_zero, List.set_cons_succ]
                            refine takeH (i := 32) (v := .slice (some ⟨g, go, none⟩) y5 tc) rfl (by kernel_rfl) (by kernel_rfl) (by kernel_rfl) (fun _ _ _ h => h) (Or.inl ⟨by rfl, fun W hW => by go_simp⟩) hS ?_
                            simp only [Act.put, List.setIfInBounds_toArray, List.set_cons_zero, List.set_cons_succ]
                            refine takeH (i := 33) (v := .int .i64 (m : Int)) rfl (by kernel_rfl) (by kernel_rfl) (by kernel_rfl) (fun _ _ _ h => h) (Or.inl ⟨by rfl, fun W hW => by go_simp⟩) hS ?_
                            simp only [Act.put, List.setIfInBounds_toArray, List.set_cons_zero, List.set_cons_succ]
                            refine takeH (i := 34) (v := .int .i64 (km : Int)) rfl (by kernel_rfl) (by kernel_rfl) (by kernel_rfl) (fun _ _ _ h => h) (Or.inl ⟨by rfl, fun W hW => by go_simp⟩) hS ?_
                            simp only [Act.put, List.setIfInBounds_toArray, List.set_cons_zero, List.set_cons_succ]
                            refine takeH (i := 35) (v := .pointer (some ⟨g, go + km * 13, none⟩)) rfl (by kernel_rfl) (by kernel_rfl) (by kernel_rfl) (fun _ _ _ h => h) (Or.inl ⟨by rfl, fun W hW => by go_simp⟩) hS ?_
                            simp only [Act.put, List.setIfInBounds_toArray, List.set_cons_zero, List.set_cons_succ]
                            refine takeH (i := 36) (v := .pointer (some ⟨g, go + km * 13 + 2, none⟩)) rfl (by kernel_rfl) (by kernel_rfl) (by kernel_rfl) (fun _ _ _ h => h) (Or.inl ⟨by rfl, fun W hW => by go_simp⟩) hS ?_
                            simp only [Act.put, List.setIfInBounds_toArray, List.set_cons_zero, List.set_cons_succ]
                            refine takeH (i := 37) (v := .int .u64 c.id) rfl (by kernel_rfl) (by kernel_rfl) (by kernel_rfl) (fun _ _ _ h => h) (Or.inl ⟨by rfl, fun W hW => by obtain ⟨s0, s1, s2, s3, s4, s5⟩ := hW; go_simp⟩) hS ?_
                            simp only [Act.put, List.setIfInBounds_toArray, List.set_cons_zero, List.set_cons_succ]
                            refine takeH (i := 38) (v := .slice (some ⟨g, go, none⟩) y5 tc) rfl (by kernel_rfl) (by kernel_rfl) (by kernel_rfl) (fun _ _ _ h => h) (Or.inl ⟨by rfl, fun W hW => by go_simp⟩) hS ?_
                            simp only [Act.put, List.setIfInBounds_toArray, List.set_cons_zero, List.set_cons_succ]
                            refine takeH (i := 39) (v := .int .i64 (m : Int)) rfl (by kernel_rfl) (by kernel_rfl) (by kernel_rfl) (fun _ _ _ h => h) (Or.inl ⟨by rfl, fun W hW => by go_simp⟩) hS ?_
                            simp only [Act.put, List.setIfInBounds_toArray, List.set_cons_zero, List.set_cons_succ]
                            refine takeH (i := 40) (v := .pointer (some ⟨g, go + m * 13, none⟩)) rfl (by kernel_rfl) (by kernel_rfl) (by kernel_rfl) (fun _ _ _ h => h) (Or.inl ⟨by rfl, fun W hW => by go_simp⟩) hS ?_
                            simp only [Act.put, List.setIfInBounds_toArray, List.set_cons_zero, List.set_cons_succ]
                            refine takeH (i := 41) (v := .pointer (some ⟨g, go + m * 13 + 2, none⟩)) rfl (by kernel_rfl) (by kernel_rfl) (by kernel_rfl) (fun _ _ _ h => h) (Or.inl ⟨by rfl, fun W hW => by go_simp⟩) hS ?_
                            simp only [Act.put, List.setIfInBounds_toArray, List.set_cons_zero, List.set_cons_succ]
                            refine takeH (i := 42) (v := .int .u64 y.id) rfl (by kernel_rfl) (by kernel_rfl) (by kernel_rfl) (fun _ _ _ h => h) (Or.inl ⟨by rfl, fun W hW => by obtain ⟨s0, s1, s2, s3, s4, s5⟩ := hW; go_simp⟩) hS ?_
                            simp only [Act.put, List.setIfInBounds_toArray, List.set_cons_zero, List.set_cons_succ]
                            refine takeH (i := 43) (v := .bool true) rfl (by kernel_rfl) (by kernel_rfl) (by kernel_rfl) (fun _ _ _ h => h) (Or.inl ⟨by rfl, fun W hW => by go_simp; exact HIDS.out⟩) hS ?_
                            simp only [Act.put, List.setIfInBounds_toArray, List.set_cons_zero, List.set_cons_succ]
                            refine takeH (i := 44) (v := .bool true) rfl (by kernel_rfl) (by kernel_rfl) (by kernel_rfl) (fun _ _ _ h => h) (Or.inl ⟨by rfl, fun W hW => by go_simp⟩) hS ?_
                            simp only [Act.put, List.setIfInBounds_toArray, List.set_cons_zero, List.set_cons_succ]
                            refine takeH (i := 45) (v := .bool true) rfl (by kernel_rfl) (by kernel_rfl) (by kernel_rfl) (fun _ _ _ h => h) (Or.inl ⟨by rfl, fun W hW => by go_simp⟩) hS ?_
                            simp only [Act.put, List.setIfInBounds_toArray, List.set_cons_zero, List.set_cons_succ]
                            refine takeH (i := 46) (v := .bool false) rfl (by kernel_rfl) (by kernel_rfl) (by kernel_rfl) (fun _ _ _ h => h) (Or.inl ⟨by rfl, fun W hW => by go_simp⟩) hS ?_
                            simp only [Act.put, List.setIfInBounds_toArray, List.set_cons_zero, List.set_cons_succ]
                            refine takeH (i := 47) (v := .bool false) rfl (by kernel_rfl) (by kernel_rfl) (by kernel_rfl) (fun _ _ _ h => h) (Or.inl ⟨by rfl, fun W hW => by go_simp⟩) hS ?_
                            simp only [Act.put, List.setIfInBounds_toArray, List.set_cons_zero, List.set_cons_succ]
                            refine takeH (i := 48) (v := .bool false) rfl (by kernel_rfl) (by kernel_rfl) (by kernel_rfl) (fun _ _ _ h => h) (Or.inl ⟨by rfl, fun W hW => by go_simp⟩) hS ?_
                            simp only [Act.put, List.setIfInBounds_toArray, List.set_cons_zero, List.set_cons_succ]
                            refine wpAnyH_done (by kernel_rfl) ?_ _
                            have HB9 : Hid (Below w10.heap.size w10 w8) := HBV.out.trans (HB8.out.mono HBV.out.size)
                            go_wp2
                            go_roundw
                            case rel => exact ⟨m + 1, by go_num, by omega, HB9⟩
                            case measure => (simp [intOf]; omega)
              · have hltd : ¬ (m : Int) < (y5 : Int) := by omega
                have HF2 : Hid (Below w.heap.size w wx) := H10.out.1.trans (HB.out.mono H10.out.1.size)
                go_wp2
                go_ret
                exact ⟨rfl, HF2.out⟩
  · have hfn : (f != 0) = true := by simpa using hf0
    have HFN : Hid (f ≠ 0) := hf0
    clear hf0
    go_wp2_with (first
      | (go_at_call 6; (with_reducible refine AL.mono ?_); clear AL; rintro e w1 ⟨rfl, hb1⟩; have H1 : Hid (Below w.heap.size w w1) := hb1; have NW := new9 w1; clear hb1)
      | (go_at_call 7; (with_reducible refine NW.mono ?_); clear NW; rintro e w2 ⟨sa, rfl, hst, hb⟩; have H2 : Hid (ChE w w2 sa (fun k => w1.heap.size ≤ k ∧ k < w2.heap.size) []) := ⟨hst, fun k hk => Nat.le_trans H1.out.size hk.1, H1.out.trans (hb.mono H1.out.size)⟩; have NV := new9 w2; clear hst hb)
      | (go_at_call 7; (with_reducible refine NV.mono ?_); clear NV; rintro e w3 ⟨sb, rfl, hst, hb⟩; have H3 : Hid (ChE w w3 sa (fun k => w1.heap.size ≤ k ∧ k < w2.heap.size) [] ∧ StQ w3 sb (fun k => w2.heap.size ≤ k ∧ k < w3.heap.size) [] ∧ w.heap.size ≤ w2.heap.size) := ⟨H2.out.below hb, hst, H2.out.low.size⟩; have PT := put9 H3.out.1.st ad n cp L P (H3.out.1.args HX.out.1) HX.out.2.1 HX.out.2.2 (HT.out _ H3.out.1.low) hn; clear hst hb H1 H2)
      | (go_at_call 8; (with_reducible refine PT.mono ?_); clear PT; rintro e w4 hp; rcases hp with ⟨hne, rfl, h2, h3⟩ | ⟨he, _⟩; rotate_left; exact absurd (HF.out.symm.trans he) HFN.out; rw [HF.out]; have H4 : Hid (Below w.heap.size w w4) := H3.out.1.low.trans (h3.mono H3.out.1.low.size); have CT := count9 h2; clear hne h2 h3 H3)
      | (go_at_call 9; (with_reducible refine CT.mono ?_); clear CT; rintro e w5 ⟨rfl, hw⟩; obtain rfl := hw.symm))
    go_ret
    exact ⟨rfl, H4.out⟩
end Go.Proofs.YtiflfapdffkcbaaGreatDoor
