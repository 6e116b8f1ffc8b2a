/-
  Merged: NM, IA, IG, NN.
-/
import Derived.Test.YthajamokaabogaaGreatDoorNK
import Derived.Test.YthajamokaabogaaGreatDoorKHq
import Derived.Test.YthajamokaabogaaGreatDoorTVq
import Derived.Test.YthajamokaabogaaGreatDoorGMq
import Derived.Test.YthajamokaabogaaGreatDoorQAq
import Derived.Test.YthajamokaabogaaGreatDoorICq
import Derived.Test.YthajamokaabogaaGreatDoorKG
import Derived.Test.YthajamokaabogaaGreatDoorPLq
namespace Go.Proofs.YthajamokaabogaaGreatDoor
open Go Go.RowKit Go.Maps
set_option maxRecDepth 100000

theorem sameHops_nil (a b : Option Addr) (c d : Nat) (w : World) :
    Calls Tryz.prog 11 #[.slice a 0 c, .slice b 0 d] w fun e w' => e = .returned (.bool true) ∧ Below w.heap.size w w' := by
  go_enter Tryz.func11, Tryz.ntmps11
  go_wp2
  go_loopw [5] (fun y wr => y = .int .i64 0 ∧ wr = w) (fun _ _ => 0)
  case atStart => exact ⟨rfl, rfl⟩
  case round =>
    obtain ⟨rfl, rfl⟩ := hrel
    go_wp2
    go_ret
    exact ⟨rfl, Below.refl _ _⟩
/-- What sameHops asks of a place. -/
def TwoH (ga gb : Nat) (w : World) (i : Nat) (r f gp : Int) (a1 : Option Addr) (n1 c1 : Nat) (a2 : Option Addr) (n2 c2 : Nat) : Prop :=
  ∀ wr, Below w.heap.size w wr → (wr.cell? ⟨ga, i * 4, none⟩ = some (.int .u64 r) ∧ wr.cell? ⟨ga, i * 4 + 1, none⟩ = some (.int .u64 f) ∧ wr.cell? ⟨ga, i * 4 + 2, none⟩ = some (.int .i64 gp) ∧ wr.cell? ⟨ga, i * 4 + 3, none⟩ = some (.slice a1 n1 c1) ∧ wr.cell? ⟨gb, i * 4, none⟩ = some (.int .u64 r) ∧ wr.cell? ⟨gb, i * 4 + 1, none⟩ = some (.int .u64 f) ∧ wr.cell? ⟨gb, i * 4 + 2, none⟩ = some (.int .i64 gp) ∧ wr.cell? ⟨gb, i * 4 + 3, none⟩ = some (.slice a2 n2 c2)) ∧ Calls Tryz.prog 17 #[.slice a1 n1 c1, .slice a2 n2 c2] wr fun e w' => e = .returned (.bool true) ∧ Below wr.heap.size wr w'
set_option maxHeartbeats 4000000 in
theorem sameHops_any (ga gb q ca cb : Nat) (w : World) (hq : q ≤ 1000) (hT : ∀ i, i < q → ∃ r f gp a1 n1 c1 a2 n2 c2, TwoH ga gb w i r f gp a1 n1 c1 a2 n2 c2) :
    Calls Tryz.prog 11 #[.slice (some ⟨ga, 0, none⟩) q ca, .slice (some ⟨gb, 0, none⟩) q cb] w fun e w' => e = .returned (.bool true) ∧ Below w.heap.size w w' := by
  have HT : Hid (∀ i, i < q → ∃ r f gp a1 n1 c1 a2 n2 c2, TwoH ga gb w i r f gp a1 n1 c1 a2 n2 c2) := hT
  clear hT
  go_enter Tryz.func11, Tryz.ntmps11
  go_wp2
  go_loopw [5] (fun z wr => ∃ i : Nat, z = .int .i64 i ∧ i ≤ q ∧ Hid (Below w.heap.size w wr)) (fun z _ => q - (intOf z).toNat)
  case atStart => exact ⟨0, rfl, by omega, Below.refl _ _⟩
  case round =>
    obtain ⟨i, rfl, hiq, HB⟩ := hrel
    by_cases hlt : i < q
    · have hin : (i : Int) < (q : Int) := by omega
      obtain ⟨r, f, gp, a1, n1, c1, a2, n2, c2, hT⟩ := HT.out i hlt
      have HS : Hid (∀ W, Below wr.heap.size wr W → ((W.cell? ⟨ga, i * 4, none⟩ = some (.int .u64 r) ∧ W.cell? ⟨ga, i * 4 + 1, none⟩ = some (.int .u64 f) ∧ W.cell? ⟨ga, i * 4 + 2, none⟩ = some (.int .i64 gp) ∧ W.cell? ⟨ga, i * 4 + 3, none⟩ = some (.slice a1 n1 c1) ∧ W.cell? ⟨gb, i * 4, none⟩ = some (.int .u64 r) ∧ W.cell? ⟨gb, i * 4 + 1, none⟩ = some (.int .u64 f) ∧ W.cell? ⟨gb, i * 4 + 2, none⟩ = some (.int .i64 gp) ∧ W.cell? ⟨gb, i * 4 + 3, none⟩ = some (.slice a2 n2 c2)) ∧ Calls Tryz.prog 17 #[.slice a1 n1 c1, .slice a2 n2 c2] W fun e w' => e = .returned (.bool true) ∧ Below W.heap.size W w') ∧ Below w.heap.size w W) := fun W hb => ⟨hT W (HB.out.trans (hb.mono HB.out.size)), HB.out.trans (hb.mono HB.out.size)⟩
      obtain ⟨⟨⟨x0, x1, x2, x3, y0, y1, y2, y3⟩, _⟩, _⟩ := HS.out wr (Below.refl _ _)
      have SL := fun W hb => (HS.out W hb).1.2
      clear hT
      go_upto_region 6 with fail
      go_region_held3 (fun W => W.cell? ⟨ga, i * 4, none⟩ = some (.int .u64 r) ∧ W.cell? ⟨ga, i * 4 + 1, none⟩ = some (.int .u64 f) ∧ W.cell? ⟨ga, i * 4 + 2, none⟩ = some (.int .i64 gp) ∧ W.cell? ⟨ga, i * 4 + 3, none⟩ = some (.slice a1 n1 c1) ∧ W.cell? ⟨gb, i * 4, none⟩ = some (.int .u64 r) ∧ W.cell? ⟨gb, i * 4 + 1, none⟩ = some (.int .u64 f) ∧ W.cell? ⟨gb, i * 4 + 2, none⟩ = some (.int .i64 gp) ∧ W.cell? ⟨gb, i * 4 + 3, none⟩ = some (.slice a2 n2 c2)) (first | exact HS9 | simp [go_sem, x0, x1, x2, x3, y0, y1, y2, y3])
        (first
          | (go_at_call 17; refine (SL _ ((Below.refl _ _).drew)).mono ?_; rintro e w9 ⟨rfl, hb9⟩; have HB9 : Hid (Below wr.heap.size wr w9) := (Below.refl wr.heap.size wr).drew.trans hb9; have HS9 := (HS.out w9 HB9.out).1.1; clear hb9))
      go_wp2
      go_roundw
      case rel => exact ⟨i + 1, by go_num, by omega, (HS.out w9 HB9.out).2⟩
      case measure => (simp [intOf]; omega)
    · obtain rfl : i = q := by omega
      go_wp2
      go_ret
      exact ⟨rfl, HB.out⟩
/-- Two that are told as chains are the same, place by place. -/
theorem same_chain {Y : List Sp} {C : List Int} {dp : Nat → Nat} {fin : Nat → Nod} {X : List Spot} {K : Nat → List Int} {R : List Int} (h : FoB Y C dp fin X K R) {w : World} {b1 b2 : Nat} {a1 : Option Addr} {q1 c1 : Nat} {H : List Hop} (hq1 : H.length = q1) (h1 : HopsM b1 w (spAt Y) fin (cnK fin K) (.slice a1 q1 c1) H) (r1 : ChnR X Y.length fin (spAt Y) R H) {a2 : Option Addr} {q2 c2 : Nat} {G : List Hop} (hq2 : G.length = q2) (h2 : HopsM b2 w (spAt Y) fin (cnK fin K) (.slice a2 q2 c2) G) (r2 : ChnR X Y.length fin (spAt Y) R G) :
    Calls Tryz.prog 11 #[.slice a1 q1 c1, .slice a2 q2 c2] w fun e w' => e = .returned (.bool true) ∧ Below w.heap.size w w' := by
  have ek := chain_one h r1 r2
  have el : H.length = G.length := by have := congrArg List.length ek; simpa using this
  have hln := r1.hops.len
  have hn1 := h.one.len
  obtain rfl : q1 = q2 := by omega
  by_cases h0 : q1 = 0
  · subst h0
    exact sameHops_nil _ _ _ _ w
  · have o1 := h1.own
    have o2 := h2.own
    rw [hq1] at o1
    rw [hq2] at o2
    obtain ⟨ga, ca, e1, _, R1⟩ := RwG.of_owns o1 hq1 (by omega)
    obtain ⟨gb, cb, e2, _, R2⟩ := RwG.of_owns o2 hq2 (by omega)
    injection e1 with e1 _ e1'
    injection e2 with e2 _ e2'
    subst e1 e2 e1' e2'
    refine sameHops_any ga gb q1 _ _ w (by omega) (fun i hi => ?_)
    have hi1 : i < H.length := by omega
    have hi2 : i < G.length := by omega
    have kk : hopK H[i] = hopK G[i] := by
      have := congrArg (fun l => l[i]?) ek
      simpa [hi1, hi2] using this
    have kx : H[i].1 = G[i].1 := congrArg (fun k => k.1) kk
    have ky : H[i].2.1 = G[i].2.1 := congrArg (fun k => k.2.1) kk
    have kg : H[i].2.2.1 = G[i].2.2.1 := congrArg (fun k => k.2.2) kk
    obtain ⟨la, lc, f1, p1, f2, f3⟩ := h1.legs H[i] (List.getElem_mem hi1)
    obtain ⟨ma, mc, g1, p2, g2, g3⟩ := h2.legs G[i] (List.getElem_mem hi2)
    rw [← kx] at p2
    have eL := p1.one _ p2
    have cellA : ∀ (j : Nat) (u : Value), (hopL fin H[i])[j]? = some u → ∀ wr, Below w.heap.size w wr → wr.cell? ⟨ga, i * 4 + j, none⟩ = some u := fun j u hu wr hb => (R1.below hb).cell (hopL_len fin) i hi1 j hu
    have cellB : ∀ (j : Nat) (u : Value), (hopL fin G[i])[j]? = some u → ∀ wr, Below w.heap.size w wr → wr.cell? ⟨gb, i * 4 + j, none⟩ = some u := fun j u hu wr hb => (R2.below hb).cell (hopL_len fin) i hi2 j hu
    refine ⟨(fin H[i].1).id, (fin H[i].2.1).id, H[i].2.2.1, la, H[i].2.2.2.2.length, lc, ma, H[i].2.2.2.2.length, mc, fun wr hb => ⟨⟨cellA 0 _ rfl wr hb, cellA 1 _ rfl wr hb, cellA 2 _ rfl wr hb, cellA 3 _ (by rw [← f1]; rfl) wr hb, cellB 0 _ (by rw [kx]; rfl) wr hb, cellB 1 _ (by rw [ky]; rfl) wr hb, cellB 2 _ (by rw [kg]; rfl) wr hb, cellB 3 _ (by rw [← eL, ← g1]; rfl) wr hb⟩, ?_⟩⟩
    by_cases hL : H[i].2.2.2.2 = []
    · rw [hL]
      exact sameLegs_nil _ _ _ _ wr
    · obtain ⟨u1, rfl, l1, k1⟩ := f3 hL
      obtain ⟨u2, rfl, l2, k2⟩ := g3 (by rw [eL]; exact hL)
      rw [eL] at k2
      exact sameLegsW_any u1 u2 _ _ _ _ wr (by simp) (by omega) (legsIn_below k1 hb l1) (legsIn_below k2 hb l2)
end Go.Proofs.YthajamokaabogaaGreatDoor

namespace Go.Proofs.YthajamokaabogaaGreatDoor
open Go Go.RowKit
set_option maxRecDepth 100000

/-- A forest that was built of spans, with all that its mathematics ask. -/
structure BuT (X : List Sp) (w : World) (f sb : Nat) (Y : List Sp) (C : List Int) (dp : Nat → Nat) (fin : Nat → Nod) (X' : List Spot) (K : Nat → List Int) (rv : Value) (R : List Int) : Prop where
  at_ : ForestAt w f sb X' K rv R
  fo : FoB Y C dp fin X' K R
  perm : X.Perm Y
  rise : Y.Pairwise (fun a b => a.id < b.id)
  cuts : CutsL (nmOf (zs Y)) Y.length Y.length C
theorem BuT.below {X : List Sp} {w w' : World} {f sb : Nat} {Y : List Sp} {C : List Int} {dp : Nat → Nat} {fin : Nat → Nod} {X' : List Spot} {K : Nat → List Int} {rv : Value} {R : List Int} (h : BuT X w f sb Y C dp fin X' K rv R) (hb : Below w.heap.size w w') : BuT X w' f sb Y C dp fin X' K rv R := ⟨h.at_.below hb, h.fo, h.perm, h.rise, h.cuts⟩
theorem build_one (ad : Option Addr) (n cap : Nat) (X : List Sp) (P : Nat → Pl) (w : World) (hX : SpsAt w ad n X P) (hF : ∀ a ∈ X, a.Fits) (hS : ∀ a ∈ X, a.Small) (hT : Tabs w) (h1 : OneT X) : Calls Tryz.prog 14 #[.slice ad n cap] w fun e w' => ∃ f sb Y C dp fin X' K rv R, e = .returned (.tuple #[.pointer (some ⟨f, 0, none⟩), .int .i64 0]) ∧ Hid (BuT X w' f sb Y C dp fin X' K rv R) ∧ Below w.heap.size w w' := by
  refine (build_total ad n cap X P w hX hF hS hT).mono ?_
  rintro e w' (⟨h1, Y, hp, hr, f, sb, X', K, rv, R, C, dp, fin, rfl, h2, h3, h4, h5, h6⟩ | ⟨h, _⟩)
  · exact ⟨f, sb, Y, C, dp, fin, X', K, rv, R, rfl, ⟨h2, ⟨h5, h4, h2.rise, one_permR h1 hp⟩, hp, hr, h3⟩, h6⟩
  · exact absurd h1 h
theorem build_none (ad : Option Addr) (n cap : Nat) (X : List Sp) (P : Nat → Pl) (w : World) (hX : SpsAt w ad n X P) (hF : ∀ a ∈ X, a.Fits) (hS : ∀ a ∈ X, a.Small) (hT : Tabs w) (h1 : ¬ OneT X) : Calls Tryz.prog 14 #[.slice ad n cap] w fun e w' => e = .returned (.tuple #[.pointer none, .int .i64 101]) ∧ Below w.heap.size w w' := build_no ad n cap X P w hX hF hS hT h1
theorem rBuild_one (ad : Option Addr) (n cap : Nat) (X : List Sp) (P : Nat → Pl) (w : World) (hX : SpsAt w ad n X P) (hF : ∀ a ∈ X, a.Fits) (hS : ∀ a ∈ X, a.Small) (h1 : OneT X) {w0 : World} {f sb : Nat} {Y : List Sp} {C : List Int} {dp : Nat → Nat} {fin : Nat → Nod} {X' : List Spot} {K : Nat → List Int} {rv : Value} {R : List Int} (hB : BuT X w0 f sb Y C dp fin X' K rv R) : Calls Tryz.prog 18 #[.slice ad n cap] w fun e w' => ∃ g, e = .returned (.tuple #[.pointer (some ⟨g, 0, none⟩), .int .i64 0]) ∧ Hid (RFor w' g Y fin) ∧ Below w.heap.size w w' := by
  refine (rBuild_any ad n cap X P w hX hF hS (fun _ => ⟨hB.perm, hB.rise, hB.fo, hB.cuts⟩)).mono ?_
  rintro e w' (⟨g, rfl, h2, h3⟩ | ⟨_, h2, _⟩)
  · exact ⟨g, rfl, h2.out.2, h3⟩
  · exact absurd h1 h2.out
theorem rBuild_none (ad : Option Addr) (n cap : Nat) (X : List Sp) (P : Nat → Pl) (w : World) (hX : SpsAt w ad n X P) (hF : ∀ a ∈ X, a.Fits) (hS : ∀ a ∈ X, a.Small) (h1 : ¬ OneT X) : Calls Tryz.prog 18 #[.slice ad n cap] w fun e w' => e = .returned (.tuple #[.pointer none, .int .i64 101]) ∧ Below w.heap.size w w' := by
  refine (rBuild_any (Y := []) (C := []) (dp := fun _ => 0) (fin := fun _ => zNd) (X' := []) (K := fun _ => []) (R := []) ad n cap X P w hX hF hS (fun h => absurd h h1)).mono ?_
  rintro e w' (⟨g, rfl, h2, h3⟩ | ⟨rfl, _, h2⟩)
  · exact absurd h2.out.1 h1
  · exact ⟨rfl, h2⟩
/-- Who stands within a tree has one above. -/
theorem BuT.up {X : List Sp} {w : World} {f sb : Nat} {Y : List Sp} {C : List Int} {dp : Nat → Nat} {fin : Nat → Nod} {X' : List Spot} {K : Nat → List Int} {rv : Value} {R : List Int} (h : BuT X w f sb Y C dp fin X' K rv R) (k : Nat) (hk : k < X'.length) (ho : X'[k].nd.org = 0) : ∃ j, ∃ hj : j < X'.length, X'[j].nd.id = X'[k].nd.par := by
  have hl := h.fo.fo.len
  have hkY : k < Y.length := by omega
  rw [h.fo.nd k hk] at ho ⊢
  rcases h.fo.two k hkY with ⟨_, e1, _⟩ | ⟨j, hj, _, _, _, _, _, e⟩
  · exact absurd ho ((h.fo.orgZ k hkY).1 e1)
  · exact ⟨j, by omega, by rw [h.fo.nd j (by omega), e]⟩
end Go.Proofs.YthajamokaabogaaGreatDoor

namespace Go.Proofs.YthajamokaabogaaGreatDoor
open Go Go.RowKit
set_option maxRecDepth 100000

theorem but_rz {X : List Sp} {w0 w : World} {f sb : Nat} {Y : List Sp} {C : List Int} {dp : Nat → Nat} {fin : Nat → Nod} {Z : List Spot} {K : Nat → List Int} {rv : Value} {R : List Int} (h : BuT X w0 f sb Y C dp fin Z K rv R) {g : Nat} (hR : RFor w g Y fin) : ∃ sa sc L nb cn V, RZ w g sa sc L nb cn V Z := by
  obtain ⟨sa, sc, L, h1, h2, h3, h4, _⟩ := hR
  have hl := h.fo.fo.len
  have hL : L.length = Z.length := by have e := congrArg List.length h2; rw [List.length_map] at e; omega
  have he : ∀ i (h : i < L.length) (h' : i < Z.length), L[i].1 = Z[i].a ∧ Z[i].a.id = Z[i].nd.id := fun i hi hi' => by
    have hiY : i < Y.length := by omega
    have e1 : L[i].1 = Y[i] := by subst h2; simp
    have e2 := h.fo.fo.each i hiY hi'
    exact ⟨by rw [e1, e2.1], by rw [e2.1, e2.2, h.fo.idY i hiY]⟩
  have ha : ∀ x ∈ L, SpAt w x.1 x.2 ∧ x.1.links.length ≤ 1000 ∧ x.1.attrs.length ≤ 1000 ∧ x.1.events.length ≤ 1000 := fun x hx => ⟨h3 x hx, chk_lens (h.fo.one.chk _ (by rw [← h2]; exact List.mem_map_of_mem hx))⟩
  by_cases h0 : 0 < Z.length
  · obtain ⟨nb, cn, V, v1, v2, v3⟩ := h4 (by omega)
    exact ⟨sa, sc, L, nb, cn, V, h1, hL, he, ha, fun _ => v1, fun _ => by omega, fun i hi hi' => by rw [v3 i hi, (h.fo.fo.each i (by omega) hi').2]⟩
  · exact ⟨sa, sc, L, 0, 0, [], h1, hL, he, ha, fun h => absurd h h0, fun h => absurd h h0, fun i hi => by cases hi⟩
end Go.Proofs.YthajamokaabogaaGreatDoor

namespace Go.Proofs.YthajamokaabogaaGreatDoor
open Go Go.RowKit Go.Maps
set_option maxRecDepth 100000

theorem chain_nilP (W : World) : Calls Tryz.prog 12 #[.pointer none] W fun e W' => e = .returned (.slice none 0 0) ∧ W' = W := by
  go_enter Tryz.func12, Tryz.ntmps12
  go_wp2
  go_ret
  exact ⟨rfl, rfl⟩
set_option maxHeartbeats 2000000 in
theorem madeF_one (ad : Option Addr) (n cap : Nat) (X : List Sp) (P : Nat → Pl) (w : World) (hX : SpsAt w ad n X P) (hF : ∀ a ∈ X, a.Fits) (hS : ∀ a ∈ X, a.Small) (hT : Tabs w) (h1 : OneT X) : Calls Tryz.prog 6 #[.slice ad n cap] w fun e w' => ∃ f g, e = .returned (.tuple #[.pointer (some ⟨f, 0, none⟩), .pointer (some ⟨g, 0, none⟩), .bool true]) ∧ Hid (∃ sb Y C dp fin X' K rv R, BuT X w' f sb Y C dp fin X' K rv R ∧ RFor w' g Y fin) ∧ Below w.heap.size w w' := by
  have B1 := build_one ad n cap X P w hX hF hS hT h1
  have B2 : Hid (∀ W, Below w.heap.size w W → ∀ {f sb : Nat} {Y : List Sp} {C : List Int} {dp : Nat → Nat} {fin : Nat → Nod} {X' : List Spot} {K : Nat → List Int} {rv : Value} {R : List Int}, BuT X W f sb Y C dp fin X' K rv R → Calls Tryz.prog 18 #[.slice ad n cap] W fun e w' => ∃ g, e = .returned (.tuple #[.pointer (some ⟨g, 0, none⟩), .int .i64 0]) ∧ Hid (RFor w' g Y fin) ∧ Below W.heap.size W w') := fun W hb _ _ _ _ _ _ _ _ _ _ hB => rBuild_one ad n cap X P W (hX.below hb) hF hS h1 hB
  clear hX hF hS hT h1
  go_enter Tryz.func6, Tryz.ntmps6
  go_wp2_with (first
    | (go_at_call 14; refine B1.mono ?_; clear B1; rintro e w1 ⟨f, sb, Y, C, dp, fin, X', K, rv, R, rfl, HBT, hb1⟩; have C2 := B2.out w1 hb1 HBT.out; have HB1 : Hid (Below w.heap.size w w1) := hb1; clear hb1 B2)
    | (go_at_call 18; refine C2.mono ?_; clear C2; rintro e w2 ⟨g, rfl, HRF, hb2⟩; have HB2 : Hid (Below w1.heap.size w1 w2) := hb2; clear hb2))
  go_ret3
  exact ⟨f, g, rfl, ⟨sb, Y, C, dp, fin, X', K, rv, R, HBT.out.below HB2.out, HRF.out⟩, HB1.out.trans (HB2.out.mono HB1.out.size)⟩
set_option maxHeartbeats 2000000 in
theorem madeF_none (ad : Option Addr) (n cap : Nat) (X : List Sp) (P : Nat → Pl) (w : World) (hX : SpsAt w ad n X P) (hF : ∀ a ∈ X, a.Fits) (hS : ∀ a ∈ X, a.Small) (hT : Tabs w) (h1 : ¬ OneT X) : Calls Tryz.prog 6 #[.slice ad n cap] w fun e w' => e = .returned (.tuple #[.pointer none, .pointer none, .bool true]) ∧ Below w.heap.size w w' := by
  have B1 := build_none ad n cap X P w hX hF hS hT h1
  have B2 : Hid (∀ W, Below w.heap.size w W → Calls Tryz.prog 18 #[.slice ad n cap] W fun e w' => e = .returned (.tuple #[.pointer none, .int .i64 101]) ∧ Below W.heap.size W w') := fun W hb => rBuild_none ad n cap X P W (hX.below hb) hF hS h1
  clear hX hF hS hT h1
  go_enter Tryz.func6, Tryz.ntmps6
  go_wp2_with (first
    | (go_at_call 14; refine B1.mono ?_; clear B1; rintro e w1 ⟨rfl, hb1⟩; have C2 := B2.out w1 hb1; have HB1 : Hid (Below w.heap.size w w1) := hb1; clear hb1 B2)
    | (go_at_call 18; refine C2.mono ?_; clear C2; rintro e w2 ⟨rfl, hb2⟩; have HB2 : Hid (Below w1.heap.size w1 w2) := hb2; clear hb2))
  go_ret3
  exact ⟨rfl, HB1.out.trans (HB2.out.mono HB1.out.size)⟩
set_option maxHeartbeats 4000000 in
theorem sweepChains_any (ad : Option Addr) (n cap : Nat) (X : List Sp) (P : Nat → Pl) (w : World) (hX : SpsAt w ad n X P) (hF : ∀ a ∈ X, a.Fits) (hS : ∀ a ∈ X, a.Small) (hT : Tabs w) :
    Calls Tryz.prog 4 #[.slice ad n cap] w fun e w' => e = .returned (.bool true) ∧ Below w.heap.size w w' := by
  have SH := aliveW_any w hT
  by_cases h1 : OneT X
  · have MD : Hid (∀ W, Below w.heap.size w W → Calls Tryz.prog 6 #[.slice ad n cap] W fun e w' => ∃ f g, e = .returned (.tuple #[.pointer (some ⟨f, 0, none⟩), .pointer (some ⟨g, 0, none⟩), .bool true]) ∧ Hid (∃ sb Y C dp fin X' K rv R, BuT X w' f sb Y C dp fin X' K rv R ∧ RFor w' g Y fin) ∧ Below W.heap.size W w') := fun W hb => madeF_one ad n cap X P W (hX.below hb) hF hS (hT.below hb) h1
    clear hX hF hS hT h1
    go_enter Tryz.func4, Tryz.ntmps4
    go_upto_region 3 with (first
      | (go_at_call 5; refine SH.mono ?_; clear SH; rintro e w1 ⟨rfl, hb1⟩; have M1 := MD.out w1 hb1; have HB1 : Hid (Below w.heap.size w w1) := hb1; clear hb1 MD)
      | (go_at_call 6; refine M1.mono ?_; clear M1; rintro e w2 ⟨f, g, rfl, HBT, hb2⟩; have HB2 : Hid (Below w.heap.size w w2) := HB1.out.trans (hb2.mono HB1.out.size); clear hb2 HB1))
    obtain ⟨sb, Y, C, dp, fin, X', K, rv, R, hBT, hRF⟩ := HBT.out
    have CH : Calls Tryz.prog 12 #[.pointer (some ⟨f, 0, none⟩)] w2 fun e w3 => ∃ a q c H, e = .returned (.slice a q c) ∧ Hid (H.length = q ∧ HopsM (w2.heap.size + 1) w3 (spAt Y) fin (cnK fin K) (.slice a q c) H ∧ ChnR X' Y.length fin (spAt Y) R H ∧ Below w2.heap.size w2 w3) := by
      refine (chain_any f sb X' K rv R Y C dp fin w2 hBT.at_ hBT.fo).mono ?_
      rintro e w3 ⟨a, c, H, rfl, k1, k2, k3, k4⟩
      exact ⟨a, _, c, H, rfl, rfl, k1, ⟨k2, k3.1, k3.2⟩, k4⟩
    have RC : Hid (∀ w3, Below w2.heap.size w2 w3 → Calls Tryz.prog 13 #[.pointer (some ⟨g, 0, none⟩)] w3 fun e w4 => ∃ a q c G, e = .returned (.slice a q c) ∧ Hid (G.length = q ∧ HopsM w3.heap.size w4 (spAt Y) fin (cnK fin K) (.slice a q c) G ∧ ChnR X' Y.length fin (spAt Y) R G ∧ Below w3.heap.size w3 w4)) := fun w3 hb => by
      obtain ⟨sa, sc, L, nb, cn, V, hZ⟩ := but_rz hBT hRF
      obtain ⟨_, _, _, _, _, _, _, hod⟩ := hRF
      obtain ⟨oa, oc, O, hO⟩ := hod.ord
      rw [← hBT.fo.fo.len] at hO
      refine (rChain_any hBT.fo (fun i hi => (hBT.fo.org hBT.rise hBT.cuts i hi).par.2) (hZ.below hb) (hO.below hb)).mono ?_
      rintro e w4 ⟨a, q, c, G, rfl, k0, k1, k2, k3⟩
      exact ⟨a, q, c, G, rfl, k0, k1, k2, k3⟩
    have HFO : Hid (FoB Y C dp fin X' K R) := hBT.fo
    clear hBT hRF HBT
    go_wp2_with (first
      | (go_at_call 12; refine CH.mono ?_; clear CH; rintro e w3 ⟨a, q, c, H, rfl, HC⟩; have RC3 := RC.out w3 HC.out.2.2.2; clear RC)
      | (go_at_call 13; refine RC3.mono ?_; clear RC3; rintro e w4 ⟨a', q', c', G, rfl, HR⟩; have SM := same_chain HFO.out HC.out.1 (HC.out.2.1.below HR.out.2.2.2) HC.out.2.2.1 HR.out.1 HR.out.2.1 HR.out.2.2.1; have HB4 : Hid (Below w.heap.size w w4) := (HB2.out.trans (HC.out.2.2.2.mono HB2.out.size)).trans (HR.out.2.2.2.mono (Nat.le_trans HB2.out.size HC.out.2.2.2.size)); clear HC HR)
      | (go_at_call 11; refine SM.mono ?_; clear SM; rintro e w5 ⟨rfl, hb5⟩; have HB5 : Hid (Below w.heap.size w w5) := HB4.out.trans (hb5.mono HB4.out.size); clear hb5))
    go_ret
    exact ⟨rfl, HB5.out⟩
  · have MD : Hid (∀ W, Below w.heap.size w W → Calls Tryz.prog 6 #[.slice ad n cap] W fun e w' => e = .returned (.tuple #[.pointer none, .pointer none, .bool true]) ∧ Below W.heap.size W w') := fun W hb => madeF_none ad n cap X P W (hX.below hb) hF hS (hT.below hb) h1
    clear hX hF hS hT h1
    go_enter Tryz.func4, Tryz.ntmps4
    go_wp2_with (first
      | (go_at_call 5; refine SH.mono ?_; clear SH; rintro e w1 ⟨rfl, hb1⟩; have M1 := MD.out w1 hb1; have HB1 : Hid (Below w.heap.size w w1) := hb1; clear hb1 MD)
      | (go_at_call 6; refine M1.mono ?_; clear M1; rintro e w2 ⟨rfl, hb2⟩; have HB2 : Hid (Below w.heap.size w w2) := HB1.out.trans (hb2.mono HB1.out.size); clear hb2 HB1)
      | (go_at_call 12; refine (chain_nilP w2).mono ?_; rintro e w3 ⟨rfl, hw3⟩; subst hw3)
      | (go_at_call 13; refine (rChain_nil _).mono ?_; rintro e w4 ⟨rfl, hw4⟩; subst hw4)
      | (go_at_call 11; refine (sameHops_nil _ _ _ _ _).mono ?_; rintro e w5 ⟨rfl, hb5⟩; have HB5 : Hid (Below w.heap.size w w5) := HB2.out.trans (hb5.mono HB2.out.size); clear hb5))
    go_ret
    exact ⟨rfl, HB5.out⟩
end Go.Proofs.YthajamokaabogaaGreatDoor
