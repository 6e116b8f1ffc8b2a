/-
  Merged: IA, IG, NO, RN, RO.
-/
import Derived.Test.YtobjjdggjgnfcaaGreatDoorTVq
import Derived.Test.YtobjjdggjgnfcaaGreatDoorGMq
import Derived.Test.YtobjjdggjgnfcaaGreatDoorQAq
import Derived.Test.YtobjjdggjgnfcaaGreatDoorICq
import Derived.Test.YtobjjdggjgnfcaaGreatDoorPLq
import Derived.Test.YtobjjdggjgnfcaaGreatDoorRLq
import Derived.Test.YtobjjdggjgnfcaaGreatDoorPMq
namespace Go.Proofs.YtobjjdggjgnfcaaGreatDoor
open Go Go.RowKit
set_option maxRecDepth 100000

structure BuT (X : List Sp) (w : World) (f sb : Nat) (Y : List Sp) (C : List Int) (dp : Nat → Nat) (fin : Nat → Nod) (X' : List Spot) (K : Nat → List Int) (rv : Value) (R : List Int) : Prop where
  at_ : ForestAt w f sb X' K rv R
  fo : FoB Y C dp fin X' K R
  perm : X.Perm Y
  rise : Y.Pairwise (fun a b => a.id < b.id)
  cuts : CutsL (nmOf (zs Y)) Y.length Y.length C
theorem BuT.below {X : List Sp} {w w' : World} {f sb : Nat} {Y : List Sp} {C : List Int} {dp : Nat → Nat} {fin : Nat → Nod} {X' : List Spot} {K : Nat → List Int} {rv : Value} {R : List Int} (h : BuT X w f sb Y C dp fin X' K rv R) (hb : Below w.heap.size w w') : BuT X w' f sb Y C dp fin X' K rv R := ⟨h.at_.below hb, h.fo, h.perm, h.rise, h.cuts⟩
theorem build_one (ad : Option Addr) (n cap : Nat) (X : List Sp) (P : Nat → Pl) (w : World) (hX : SpsAt w ad n X P) (hF : ∀ a ∈ X, a.Fits) (hS : ∀ a ∈ X, a.Small) (hT : Tabs w) (h1 : OneT X) : Calls Tryz.prog 12 #[.slice ad n cap] w fun e w' => ∃ f sb Y C dp fin X' K rv R, e = .returned (.tuple #[.pointer (some ⟨f, 0, none⟩), .int .i64 0]) ∧ Hid (BuT X w' f sb Y C dp fin X' K rv R) ∧ Below w.heap.size w w' := by
  refine (build_total ad n cap X P w hX hF hS hT).mono ?_
  rintro e w' (⟨h1, Y, hp, hr, f, sb, X', K, rv, R, C, dp, fin, rfl, h2, h3, h4, h5, h6⟩ | ⟨h, _⟩)
  · exact ⟨f, sb, Y, C, dp, fin, X', K, rv, R, rfl, ⟨h2, ⟨h5, h4, h2.rise, one_permR h1 hp⟩, hp, hr, h3⟩, h6⟩
  · exact absurd h1 h
theorem build_none (ad : Option Addr) (n cap : Nat) (X : List Sp) (P : Nat → Pl) (w : World) (hX : SpsAt w ad n X P) (hF : ∀ a ∈ X, a.Fits) (hS : ∀ a ∈ X, a.Small) (hT : Tabs w) (h1 : ¬ OneT X) : Calls Tryz.prog 12 #[.slice ad n cap] w fun e w' => e = .returned (.tuple #[.pointer none, .int .i64 101]) ∧ Below w.heap.size w w' := build_no ad n cap X P w hX hF hS hT h1
theorem rBuild_one (ad : Option Addr) (n cap : Nat) (X : List Sp) (P : Nat → Pl) (w : World) (hX : SpsAt w ad n X P) (hF : ∀ a ∈ X, a.Fits) (hS : ∀ a ∈ X, a.Small) (h1 : OneT X) {w0 : World} {f sb : Nat} {Y : List Sp} {C : List Int} {dp : Nat → Nat} {fin : Nat → Nod} {X' : List Spot} {K : Nat → List Int} {rv : Value} {R : List Int} (hB : BuT X w0 f sb Y C dp fin X' K rv R) : Calls Tryz.prog 28 #[.slice ad n cap] w fun e w' => ∃ g, e = .returned (.tuple #[.pointer (some ⟨g, 0, none⟩), .int .i64 0]) ∧ Hid (RFor w' g Y fin) ∧ Below w.heap.size w w' := by
  refine (rBuild_any ad n cap X P w hX hF hS (fun _ => ⟨hB.perm, hB.rise, hB.fo, hB.cuts⟩)).mono ?_
  rintro e w' (⟨g, rfl, h2, h3⟩ | ⟨_, h2, _⟩)
  · exact ⟨g, rfl, h2.out.2, h3⟩
  · exact absurd h1 h2.out
theorem rBuild_none (ad : Option Addr) (n cap : Nat) (X : List Sp) (P : Nat → Pl) (w : World) (hX : SpsAt w ad n X P) (hF : ∀ a ∈ X, a.Fits) (hS : ∀ a ∈ X, a.Small) (h1 : ¬ OneT X) : Calls Tryz.prog 28 #[.slice ad n cap] w fun e w' => e = .returned (.tuple #[.pointer none, .int .i64 101]) ∧ Below w.heap.size w w' := by
  refine (rBuild_any (Y := []) (C := []) (dp := fun _ => 0) (fin := fun _ => zNd) (X' := []) (K := fun _ => []) (R := []) ad n cap X P w hX hF hS (fun h => absurd h h1)).mono ?_
  rintro e w' (⟨g, rfl, h2, h3⟩ | ⟨rfl, _, h2⟩)
  · exact absurd h2.out.1 h1
  · exact ⟨rfl, h2⟩
end Go.Proofs.YtobjjdggjgnfcaaGreatDoor

namespace Go.Proofs.YtobjjdggjgnfcaaGreatDoor
open Go Go.RowKit
set_option maxRecDepth 100000

theorem but_rz {X : List Sp} {w0 w : World} {f sb : Nat} {Y : List Sp} {C : List Int} {dp : Nat → Nat} {fin : Nat → Nod} {Z : List Spot} {K : Nat → List Int} {rv : Value} {R : List Int} (h : BuT X w0 f sb Y C dp fin Z K rv R) {g : Nat} (hR : RFor w g Y fin) : ∃ sa sc L nb cn V, RZ w g sa sc L nb cn V Z := by
  obtain ⟨sa, sc, L, h1, h2, h3, h4, _⟩ := hR
  have hl := h.fo.fo.len
  have hL : L.length = Z.length := by have e := congrArg List.length h2; rw [List.length_map] at e; omega
  have he : ∀ i (h : i < L.length) (h' : i < Z.length), L[i].1 = Z[i].a ∧ Z[i].a.id = Z[i].nd.id := fun i hi hi' => by
    have hiY : i < Y.length := by omega
    have e1 : L[i].1 = Y[i] := by subst h2; simp
    have e2 := h.fo.fo.each i hiY hi'
    exact ⟨by rw [e1, e2.1], by rw [e2.1, e2.2, h.fo.idY i hiY]⟩
  have ha : ∀ x ∈ L, SpAt w x.1 x.2 ∧ x.1.links.length ≤ 1000 ∧ x.1.attrs.length ≤ 1000 ∧ x.1.events.length ≤ 1000 := fun x hx => ⟨h3 x hx, chk_lens (h.fo.one.chk _ (by rw [← h2]; exact List.mem_map_of_mem hx))⟩
  by_cases h0 : 0 < Z.length
  · obtain ⟨nb, cn, V, v1, v2, v3⟩ := h4 (by omega)
    exact ⟨sa, sc, L, nb, cn, V, h1, hL, he, ha, fun _ => v1, fun _ => by omega, fun i hi hi' => by rw [v3 i hi, (h.fo.fo.each i (by omega) hi').2]⟩
  · exact ⟨sa, sc, L, 0, 0, [], h1, hL, he, ha, fun h => absurd h h0, fun h => absurd h h0, fun i hi => by cases hi⟩
end Go.Proofs.YtobjjdggjgnfcaaGreatDoor

namespace Go.Proofs.YtobjjdggjgnfcaaGreatDoor
open Go Go.RowKit Go.Maps
set_option maxRecDepth 100000

set_option maxHeartbeats 2000000 in
theorem madeF_one (ad : Option Addr) (n cap : Nat) (X : List Sp) (P : Nat → Pl) (w : World) (hX : SpsAt w ad n X P) (hF : ∀ a ∈ X, a.Fits) (hS : ∀ a ∈ X, a.Small) (hT : Tabs w) (h1 : OneT X) : Calls Tryz.prog 7 #[.slice ad n cap] w fun e w' => ∃ f g, e = .returned (.tuple #[.pointer (some ⟨f, 0, none⟩), .pointer (some ⟨g, 0, none⟩), .bool true]) ∧ Hid (∃ sb Y C dp fin X' K rv R, BuT X w' f sb Y C dp fin X' K rv R ∧ RFor w' g Y fin) ∧ Below w.heap.size w w' := by
  have B1 := build_one ad n cap X P w hX hF hS hT h1
  have B2 : Hid (∀ W, Below w.heap.size w W → ∀ {f sb : Nat} {Y : List Sp} {C : List Int} {dp : Nat → Nat} {fin : Nat → Nod} {X' : List Spot} {K : Nat → List Int} {rv : Value} {R : List Int}, BuT X W f sb Y C dp fin X' K rv R → Calls Tryz.prog 28 #[.slice ad n cap] W fun e w' => ∃ g, e = .returned (.tuple #[.pointer (some ⟨g, 0, none⟩), .int .i64 0]) ∧ Hid (RFor w' g Y fin) ∧ Below W.heap.size W w') := fun W hb _ _ _ _ _ _ _ _ _ _ hB => rBuild_one ad n cap X P W (hX.below hb) hF hS h1 hB
  clear hX hF hS hT h1
  go_enter Tryz.func7, Tryz.ntmps7
  go_wp2_with (first
    | (go_at_call 12; refine B1.mono ?_; clear B1; rintro e w1 ⟨f, sb, Y, C, dp, fin, X', K, rv, R, rfl, HBT, hb1⟩; have C2 := B2.out w1 hb1 HBT.out; have HB1 : Hid (Below w.heap.size w w1) := hb1; clear hb1 B2)
    | (go_at_call 28; refine C2.mono ?_; clear C2; rintro e w2 ⟨g, rfl, HRF, hb2⟩; have HB2 : Hid (Below w1.heap.size w1 w2) := hb2; clear hb2))
  go_ret3
  exact ⟨f, g, rfl, ⟨sb, Y, C, dp, fin, X', K, rv, R, HBT.out.below HB2.out, HRF.out⟩, HB1.out.trans (HB2.out.mono HB1.out.size)⟩
set_option maxHeartbeats 2000000 in
theorem madeF_none (ad : Option Addr) (n cap : Nat) (X : List Sp) (P : Nat → Pl) (w : World) (hX : SpsAt w ad n X P) (hF : ∀ a ∈ X, a.Fits) (hS : ∀ a ∈ X, a.Small) (hT : Tabs w) (h1 : ¬ OneT X) : Calls Tryz.prog 7 #[.slice ad n cap] w fun e w' => e = .returned (.tuple #[.pointer none, .pointer none, .bool true]) ∧ Below w.heap.size w w' := by
  have B1 := build_none ad n cap X P w hX hF hS hT h1
  have B2 : Hid (∀ W, Below w.heap.size w W → Calls Tryz.prog 28 #[.slice ad n cap] W fun e w' => e = .returned (.tuple #[.pointer none, .int .i64 101]) ∧ Below W.heap.size W w') := fun W hb => rBuild_none ad n cap X P W (hX.below hb) hF hS h1
  clear hX hF hS hT h1
  go_enter Tryz.func7, Tryz.ntmps7
  go_wp2_with (first
    | (go_at_call 12; refine B1.mono ?_; clear B1; rintro e w1 ⟨rfl, hb1⟩; have C2 := B2.out w1 hb1; have HB1 : Hid (Below w.heap.size w w1) := hb1; clear hb1 B2)
    | (go_at_call 28; refine C2.mono ?_; clear C2; rintro e w2 ⟨rfl, hb2⟩; have HB2 : Hid (Below w1.heap.size w1 w2) := hb2; clear hb2))
  go_ret3
  exact ⟨rfl, HB1.out.trans (HB2.out.mono HB1.out.size)⟩
end Go.Proofs.YtobjjdggjgnfcaaGreatDoor

namespace Go.Proofs.YtobjjdggjgnfcaaGreatDoor
open Go Go.RowKit
set_option maxRecDepth 100000

theorem calls_ex {P : Program} {f : FuncId} {args : Array Value} {w : World} {R : Ending → World → Prop} (h : Calls P f args w R) : ∃ e w', R e w' := by
  obtain ⟨e, w', _, hR, _⟩ := h []
  exact ⟨e, w', hR⟩
theorem LieIn.map {α β : Type} {f : α → List Value} {g : β → List Value} {k : α → β} {s : Nat} {W : World} {ad : Option Addr} {l : List α} (h : LieIn f s W ad l) (he : ∀ x ∈ l, f x = g (k x)) : LieIn g s W ad (l.map k) := fun hn => by
  obtain ⟨b, e, hb, hc⟩ := h (fun e => hn (by rw [e]; rfl))
  refine ⟨b, e, hb, fun i hi j v hv => ?_⟩
  have hi' : i < l.length := by simpa using hi
  refine hc i hi' j v ?_
  rw [he _ (List.getElem_mem hi')]
  simpa using hv
theorem LieIn.ofLegs {W : World} {ad : Option Addr} {L : List (Int × Int × Int)} (h : L ≠ [] → ∃ g, ad = some ⟨g, 0, none⟩ ∧ g < W.heap.size ∧ LegsIn W g L) : LieIn legC 3 W ad L := fun hn => by
  obtain ⟨g, e, hg, hl⟩ := h hn
  refine ⟨g, e, hg, fun i hi j v hv => ?_⟩
  obtain ⟨h0, h1, h2⟩ := hl i hi
  unfold legC at hv
  match j, hv with
  | 0, hv => simp at hv; subst hv; exact h0
  | 1, hv => simp at hv; subst hv; exact h1
  | 2, hv => simp at hv; subst hv; exact h2
  | j + 3, hv => simp at hv
theorem askX_below {w w' : World} {pf pg : Option Addr} {id at_ : Int} (h : AskX w pf pg id at_) (hb : Below w.heap.size w w') : AskX w' pf pg id at_ := by
  obtain ⟨L, M, N, er, ow, oe, hl, h1, h2, h3, h4, h5, h6, h7, h8⟩ := h
  have t : ∀ W, Below w'.heap.size w' W → Below w.heap.size w W := fun W hW => hb.trans (hW.mono hb.size)
  exact ⟨L, M, N, er, ow, oe, hl, fun W hW => h1 W (t W hW), fun W hW => h2 W (t W hW), fun W hW => h3 W (t W hW), fun W hW => h4 W (t W hW), fun W hW => h5 W (t W hW), fun W hW => h6 W (t W hW), fun W hW => h7 W (t W hW), fun W hW => h8 W (t W hW)⟩
theorem askX_nil (w : World) (id at_ : Int) : AskX w none none id at_ := by
  refine ⟨[], [], [], 1, 0, 1, ⟨by simp, by simp, by simp⟩, ?_, ?_, ?_, ?_, ?_, ?_, ?_, ?_⟩
  · exact fun W _ => (wPath1 none id W (lacksW_nil id W)).mono fun e w' h => lstP_nil _ _ _ h
  · exact fun W _ => (rPathF_nil id W).mono fun e w' h => lstP_nil _ _ _ h
  · exact fun W _ => wOwner1 none id at_ W (lacksW_nil id W)
  · exact fun W _ => qOwner1 none id at_ W (rPathF_nil id W)
  · exact fun W _ => (wShares1 none id W (lacksW_nil id W)).mono fun e w' h => lstP_nil _ _ _ h
  · exact fun W _ => (qShares1 none id W (rPathF_nil id W)).mono fun e w' h => lstP_nil _ _ _ h
  · exact fun W _ => (wServices1 none id W (lacksW_nil id W)).mono fun e w' h => lstP_nil _ _ _ h
  · exact fun W _ => (qServices1 none id W (qShares1 none id W (rPathF_nil id W))).mono fun e w' h => lstP_nil _ _ _ h
theorem askX_gone {w : World} {f g : Nat} {id at_ : Int} (LA : ∀ W, Below w.heap.size w W → Calls Tryz.prog 36 #[.pointer (some ⟨f, 0, none⟩), .int .u64 id] W fun e W' => e = .returned (.int .i64 111) ∧ Below W.heap.size W W') (GO : GoneR w g id) : AskX w (some ⟨f, 0, none⟩) (some ⟨g, 0, none⟩) id at_ := by
  refine ⟨[], [], [], 111, 0, 111, ⟨by simp, by simp, by simp⟩, ?_, ?_, ?_, ?_, ?_, ?_, ?_, ?_⟩
  · exact fun W hW => (wPath111 _ id W (LA W hW)).mono fun e w' h => lstP_nil _ _ _ h
  · exact fun W hW => (rPathF_no (GO.below hW)).mono fun e w' h => lstP_nil _ _ _ h
  · exact fun W hW => wOwner111 _ id at_ W (LA W hW)
  · exact fun W hW => qOwner111 _ id at_ W (rPathF_no (GO.below hW))
  · exact fun W hW => (wShares111 _ id W (LA W hW)).mono fun e w' h => lstP_nil _ _ _ h
  · exact fun W hW => (qShares111 _ id W (rPathF_no (GO.below hW))).mono fun e w' h => lstP_nil _ _ _ h
  · exact fun W hW => (wServices111 _ id W (LA W hW)).mono fun e w' h => lstP_nil _ _ _ h
  · exact fun W hW => (qServices111 _ id W (qShares111 _ id W (rPathF_no (GO.below hW)))).mono fun e w' h => lstP_nil _ _ _ h
section
variable {Y : List Sp} {C : List Int} {dp : Nat → Nat} {fin : Nat → Nod} {X : List Spot} {K : Nat → List Int} {R : List Int} {w : World} {f sb g : Nat} {rv : Value} {sa : Option Addr} {sc : Nat} {S : List Sq} {nb cn : Nat} {V : List Nod} {qa : Option Addr} {qc : Nat} {O : List Nat}
theorem FoB.ownOne (h : FoB Y C dp fin X K R) {x : Nat} (hx : x < Y.length) {L : List LegN} (hP : PathR fin (cnK fin K) x (fin x).til L) {at_ o e o' e' : Int} (h1 : OwnW (spAt Y) L at_ o e) (h2 : OwnW (spAt Y) L at_ o' e') : o = o' ∧ e = e' := by
  have a1 := h.ownIff hx hP h1
  have a2 := h.ownIff hx hP h2
  rcases h1 with ⟨rfl, l, l1, l2, l3, e1⟩ | ⟨rfl, rfl, hn⟩
  · have e2 := a2.2 l l1 l2 l3
    have e3 : e' = 0 := a2.1.2 (a1.1.1 rfl)
    exact ⟨by rw [e1, e2], e3.symm⟩
  · rcases h2 with ⟨rfl, l, l1, l2, l3, e1⟩ | ⟨rfl, rfl, _⟩
    · exact absurd ⟨l2, l3⟩ (hn l l1)
    · exact ⟨rfl, rfl⟩
def legsQ (Y : List Sp) (L : List (Nat × Int × Int)) : List (Int × Int × Int) := (L.map (legX (spAt Y))).reverse
theorem legsQ_of (h : FoB Y C dp fin X K R) {x : Nat} (hx : x < Y.length) {L : List (Nat × Int × Int)} (hP : PathR fin (cnK fin K) x (fin x).til L) {W : World} {ad : Option Addr} (hl : LieIn (lgX fin) 3 W ad L.reverse) : LieIn legC 3 W ad (legsQ Y L) := by
  unfold legsQ
  rw [← List.map_reverse]
  refine hl.map (fun l hl => ?_)
  unfold lgX legC legX
  rw [h.ids _ (h.bel (hP.bel l (List.mem_reverse.1 hl)) hx).1]
theorem askX_root (hF : ForestAt w f sb X K rv R) (hB : FoB Y C dp fin X K R) (hpar : ∀ i, i < Y.length → (fin i).org ≠ 0 → (fin i).par = 0) (hZ : RZ w g sa sc S nb cn V X) (hO : OrdZ w g qa qc X.length O) (x : Nat) (hx : x < Y.length) (ho : (fin x).org ≠ 0) (at_ : Int) : AskX w (some ⟨f, 0, none⟩) (some ⟨g, 0, none⟩) (fin x).id at_ := by
  have T := hB.senv x hx
  have hl := hB.fo.len
  obtain ⟨_, _, ad0, cap0, L, _, hP, hL2, _⟩ := calls_ex (path_any f sb X K rv R (spAt Y) fin (knK K) (cnK fin K) 1001 x w hF T ho)
  obtain ⟨_, _, L1, ow, oe, _, hP1, hO1, _⟩ := calls_ex (ownerW_any f sb X K rv R (spAt Y) fin (knK K) (cnK fin K) 1001 x at_ w hF T ho)
  obtain ⟨_, _, _, _, _, L2, l, _, hs, _⟩ := calls_ex (services_any f sb X K rv R Y C dp fin w hF hB x hx ho)
  obtain rfl := (hP.one _ hP1).symm
  obtain ⟨hP2, hll, hsv, _, hn1⟩ := hs.out
  obtain rfl := (hP.one _ hP2).symm
  refine ⟨legsQ Y L, (shL L Y.length).map (fun y => ((fin y).id, hungI L y)), l.map (fun s => (s, valS (spAt Y) (hungI L) (shL L Y.length) s)), 0, ow, oe, ⟨?_, ?_, ?_⟩, ?_, ?_, ?_, ?_, ?_, ?_, ?_, ?_⟩
  · unfold legsQ; simpa using hL2
  · have := shL_len L Y.length; have := hB.one.len; simp; omega
  · simp; omega
  · intro W hW
    refine (path_any f sb X K rv R (spAt Y) fin (knK K) (cnK fin K) 1001 x W (hF.below hW) T ho).mono ?_
    rintro e W' ⟨ad, cap, M, rfl, hM, _, hM3, hM4⟩
    obtain rfl := (hP.one _ hM).symm
    refine ⟨ad, cap, by simp [legsQ], LieIn.ofLegs (fun hn => hM3 (fun e => hn (by rw [e]; rfl))), hM4⟩
  · intro W hW
    refine (rPathF_any hB hpar (hZ.below hW) (hO.below hW) x hx ho).mono ?_
    rintro e W' ⟨va, vl, vc, M, rfl, hM, hM4⟩
    obtain rfl := (hP.one _ hM.out.2.1).symm
    exact ⟨va, vc, by simp [legsQ, hM.out.1], legsQ_of hB hx hP hM.out.2.2.1, hM4⟩
  · intro W hW
    refine (ownerW_any f sb X K rv R (spAt Y) fin (knK K) (cnK fin K) 1001 x at_ W (hF.below hW) T ho).mono ?_
    rintro e W' ⟨M, o', e', rfl, hM, hM2, hM4⟩
    obtain rfl := (hP.one _ hM).symm
    obtain ⟨rfl, rfl⟩ := hB.ownOne hx hP hO1 hM2
    exact ⟨rfl, hM4⟩
  · intro W hW
    refine (rOwner_any hB hpar (hZ.below hW) (hO.below hW) x hx ho at_).mono ?_
    rintro e W' ⟨o', e', M, rfl, hM, hM4⟩
    obtain rfl := (hP.one _ hM.out.1).symm
    obtain ⟨rfl, rfl⟩ := hB.ownOne hx hP hO1 hM.out.2
    exact ⟨rfl, hM4⟩
  · intro W hW
    refine (shares_any f sb X K rv R Y C dp fin W (hF.below hW) hB x hx ho).mono ?_
    rintro e W' ⟨ad, n, cap, M, rfl, hM, hM4⟩
    obtain rfl := (hP.one _ hM.out.1).symm
    exact ⟨ad, cap, by simp [hM.out.2.1], hM.out.2.2.map (fun y _ => rfl), hM4⟩
  · intro W hW
    refine (rShares_any hB hpar (hZ.below hW) (hO.below hW) x hx ho).mono ?_
    rintro e W' ⟨ad, n, cap, M, rfl, hM, hM4⟩
    obtain rfl := (hP.one _ hM.out.1).symm
    exact ⟨ad, cap, by simp [hM.out.2.1], hM.out.2.2.map (fun y _ => rfl), hM4⟩
  · intro W hW
    refine (services_any f sb X K rv R Y C dp fin W (hF.below hW) hB x hx ho).mono ?_
    rintro e W' ⟨ad, n, cap, M, m, rfl, hM, hM4⟩
    obtain rfl := (hP.one _ hM.out.1).symm
    obtain rfl := hsv.one hM.out.2.2.1
    exact ⟨ad, cap, by simp [hM.out.2.1], hM.out.2.2.2.1.map (fun y _ => rfl), hM4⟩
  · intro W hW
    refine (rServices_any hB hpar (hZ.below hW) (hO.below hW) x hx ho).mono ?_
    rintro e W' ⟨ad, n, cap, M, m, rfl, hM, hM4⟩
    obtain rfl := (hP.one _ hM.out.1).symm
    obtain rfl := hsv.one hM.out.2.2.1
    exact ⟨ad, cap, by simp [hM.out.2.1], hM.out.2.2.2.1.map (fun y _ => rfl), hM4⟩
theorem askX_any (hF : ForestAt w f sb X K rv R) (hB : FoB Y C dp fin X K R) (hpar : ∀ i, i < Y.length → (fin i).org ≠ 0 → (fin i).par = 0) (hZ : RZ w g sa sc S nb cn V X) (hO : OrdZ w g qa qc X.length O) (id at_ : Int) : AskX w (some ⟨f, 0, none⟩) (some ⟨g, 0, none⟩) id at_ := by
  have hl := hB.fo.len
  by_cases hid : ∃ x, x < Y.length ∧ (fin x).id = id
  · obtain ⟨x, hx, rfl⟩ := hid
    have each := (hB.fo.each x hx (by omega)).2
    by_cases ho : (fin x).org = 0
    · refine askX_gone (fun W hW => lacksW_inner f sb X K rv R W (hF.below hW) x (by omega) (fin x) each ho) (fun W hW => ?_)
      refine (rRoot_inner ho (fun W' hW' => ?_)).mono (fun e w' h => ⟨_, h⟩)
      have ND := rNode_at (hZ.below (hW.trans (hW'.mono hW.size))) x (by omega)
      rwa [each] at ND
    · exact askX_root hF hB hpar hZ hO x hx ho at_
  · have hno : ∀ k (hk : k < X.length), X[k].nd.id ≠ id := fun k hk e => hid ⟨k, by omega, by rw [← (hB.fo.each k (by omega) hk).2]; exact e⟩
    refine askX_gone (fun W hW => lacksW_none f sb X K rv R W (hF.below hW) id hno) (fun W hW => ?_)
    exact (rRoot_none (fun W' hW' => rNode_no (hZ.below (hW.trans (hW'.mono hW.size))) id hno)).mono (fun e w' h => ⟨_, h⟩)
def LegX (w : World) (f g : Nat) (id : Int) : Prop := ∃ L : List (Int × Int × Int), L.length ≤ 2000 ∧ (∀ l ∈ L, 0 ≤ l.2.1 ∧ l.2.1 < l.2.2 ∧ l.2.2 ≤ 4611686018427387904) ∧
  (∀ W, Below w.heap.size w W → Calls Tryz.prog 10 #[.pointer (some ⟨g, 0, none⟩), .int .u64 id] W (LstP legC 3 L 0 W)) ∧
  (∀ l ∈ L, ∀ t, l.2.1 ≤ t → t < l.2.2 → ∀ W, Below w.heap.size w W → Calls Tryz.prog 11 #[.pointer (some ⟨f, 0, none⟩), .int .u64 id, .int .i64 t] W (OneP l.1 0 W))
theorem legX_root (hF : ForestAt w f sb X K rv R) (hB : FoB Y C dp fin X K R) (hpar : ∀ i, i < Y.length → (fin i).org ≠ 0 → (fin i).par = 0) (hZ : RZ w g sa sc S nb cn V X) (hO : OrdZ w g qa qc X.length O) (x : Nat) (hx : x < Y.length) (ho : (fin x).org ≠ 0) : LegX w f g (fin x).id := by
  have T := hB.senv x hx
  obtain ⟨_, _, ad0, cap0, L, _, hP, hL2, _⟩ := calls_ex (path_any f sb X K rv R (spAt Y) fin (knK K) (cnK fin K) 1001 x w hF T ho)
  have hmem : ∀ l ∈ legsQ Y L, ∃ m ∈ L, legX (spAt Y) m = l := fun l hl => by
    unfold legsQ at hl
    exact List.mem_map.1 (List.mem_reverse.1 hl)
  refine ⟨legsQ Y L, by unfold legsQ; simpa using hL2, fun l hl => ?_, fun W hW => ?_, fun l hl t h1 h2 W hW => ?_⟩
  · obtain ⟨m, hm, rfl⟩ := hmem l hl
    exact (hB.legB hx hP hm).2
  · refine (rPathF_any hB hpar (hZ.below hW) (hO.below hW) x hx ho).mono ?_
    rintro e W' ⟨va, vl, vc, M, rfl, hM, hM4⟩
    obtain rfl := (hP.one _ hM.out.2.1).symm
    exact ⟨va, vc, by simp [legsQ, hM.out.1], legsQ_of hB hx hP hM.out.2.2.1, hM4⟩
  · obtain ⟨m, hm, rfl⟩ := hmem l hl
    refine (ownerW_any f sb X K rv R (spAt Y) fin (knK K) (cnK fin K) 1001 x t W (hF.below hW) T ho).mono ?_
    rintro e W' ⟨M, o', e', rfl, hM, hM2, hM4⟩
    obtain rfl := (hP.one _ hM).symm
    have hOw : OwnW (spAt Y) L t (spAt Y m.1).id 0 := Or.inl ⟨rfl, m, hm, h1, h2, rfl⟩
    obtain ⟨rfl, rfl⟩ := hB.ownOne hx hP hM2 hOw
    exact ⟨rfl, hM4⟩
end
end Go.Proofs.YtobjjdggjgnfcaaGreatDoor

namespace Go.Proofs.YtobjjdggjgnfcaaGreatDoor
open Go Go.RowKit
set_option maxRecDepth 100000

set_option maxHeartbeats 8000000 in
theorem sweepPaths_any (ad : Option Addr) (n cap : Nat) (X : List Sp) (P : Nat → Pl) (root at_ : Int) (w : World) (hX : SpsAt w ad n X P) (hF : ∀ a ∈ X, a.Fits) (hS : ∀ a ∈ X, a.Small) (hT : Tabs w) :
    Calls Tryz.prog 3 #[.slice ad n cap, .int .u64 root, .int .i64 at_] w fun e w' => e = .returned (.bool true) ∧ Below w.heap.size w w' := by
  have SH := aliveW_any w hT
  by_cases h1 : OneT X
  · have MD : Hid (∀ W, Below w.heap.size w W → Calls Tryz.prog 7 #[.slice ad n cap] W fun e w' => ∃ f g, e = .returned (.tuple #[.pointer (some ⟨f, 0, none⟩), .pointer (some ⟨g, 0, none⟩), .bool true]) ∧ Hid (∃ sb Y C dp fin X' K rv R, BuT X w' f sb Y C dp fin X' K rv R ∧ RFor w' g Y fin) ∧ Below W.heap.size W w') := fun W hb => madeF_one ad n cap X P W (hX.below hb) hF hS (hT.below hb) h1
    clear hX hF hS hT h1
    go_enter Tryz.func3, Tryz.ntmps3
    go_upto_region 3 with (first
      | (go_at_call 6; refine SH.mono ?_; clear SH; rintro e w1 ⟨rfl, hb1⟩; have M1 := MD.out w1 hb1; have HB1 : Hid (Below w.heap.size w w1) := hb1; clear hb1 MD)
      | (go_at_call 7; refine M1.mono ?_; clear M1; rintro e w2 ⟨f, g, rfl, HBT, hb2⟩; have HB2 : Hid (Below w.heap.size w w2) := HB1.out.trans (hb2.mono HB1.out.size); clear hb2 HB1))
    obtain ⟨sb, Y, C, dp, fin, X', K, rv, R, hBT, hRF⟩ := HBT.out
    obtain ⟨sa, sc, S, nb, cn, V, hZ⟩ := but_rz hBT hRF
    obtain ⟨_, _, _, _, _, _, _, hod⟩ := hRF
    obtain ⟨oa, oc, O, hO⟩ := hod.ord
    rw [← hBT.fo.fo.len] at hO
    have hpar : ∀ i, i < Y.length → (fin i).org ≠ 0 → (fin i).par = 0 := fun i hi => (hBT.fo.org hBT.rise hBT.cuts i hi).par.2
    have AX : Hid (∀ id W, Below w2.heap.size w2 W → Calls Tryz.prog 8 #[.pointer (some ⟨f, 0, none⟩), .pointer (some ⟨g, 0, none⟩), .int .u64 id, .int .i64 at_] W fun e w' => e = .returned (.bool true) ∧ Below W.heap.size W w') := fun id W hb => asked_any _ _ _ _ W (askX_below (askX_any hBT.at_ hBT.fo hpar hZ hO id at_) hb)
    have RT : Hid (∀ W, Below w2.heap.size w2 W → Calls Tryz.prog 9 #[.pointer (some ⟨g, 0, none⟩)] W fun e w' => ∃ va vl vc, e = .returned (.slice va vl vc) ∧ Hid (∃ ids : List Int, ids.length = vl ∧ vl ≤ 1000 ∧ LieIn uL 1 w' va ids ∧ ∀ id ∈ ids, LegX w2 f g id) ∧ Below W.heap.size W w') := fun W hb => by
      refine (rRoots_any (hZ.below hb) (hO.below hb)).mono ?_
      rintro e w' ⟨va, vl, vc, rfl, hr, hb'⟩
      refine ⟨va, vl, vc, rfl, ⟨ordF X' rtP O, hr.out.1, ?_, LieIn.of_owns (f := uL) (fun _ => rfl) hr.out.2 hr.out.1, fun id hid => ?_⟩, hb'⟩
      · have e1 := hr.out.1
        have e2 := ordF_len X' rtP O
        have e3 := hO.len
        have e4 := hBT.fo.fo.len
        have e5 := hBT.fo.one.len
        omega
      · obtain ⟨k, _, hk, hr1, rfl⟩ := ordF_mem.1 hid
        have hkY : k < Y.length := by rw [← hBT.fo.fo.len]; exact hk
        have e := (hBT.fo.fo.each k hkY hk).2
        rw [e] at hr1 ⊢
        exact legX_root hBT.at_ hBT.fo hpar hZ hO k hkY (by simpa [rtP] using hr1)
    clear hBT hZ hod hO hpar HBT
    have AX1 := AX.out root w2 (Below.refl _ _)
    go_wp2_with (first
      | (go_at_call 8; (with_reducible refine AX1.mono ?_); clear AX1; rintro e w3 ⟨rfl, hb3⟩; have HB3 : Hid (Below w2.heap.size w2 w3) := hb3; have RT1 := RT.out w3 hb3; clear hb3 RT)
      | (go_at_call 9; (with_reducible refine RT1.mono ?_); clear RT1; rintro e w4 ⟨va, vl, vc, rfl, HR, hb4⟩; have HB4 : Hid (Below w2.heap.size w2 w4) := HB3.out.trans (hb4.mono HB3.out.size); clear hb4 HB3))
    obtain ⟨ids, hil, hv1, hli, hlg⟩ := HR.out
    have HIL : Hid (ids.length = vl) := hil
    have HLI : Hid (LieIn uL 1 w4 va ids) := hli
    have HLG : Hid (∀ id ∈ ids, LegX w2 f g id) := hlg
    clear hil hli hlg HR
    go_loopw [12] (fun z12 wr => ∃ i : Nat, z12 = .int .i64 i ∧ i ≤ vl ∧ Hid (Below w4.heap.size w4 wr)) (fun z12 _ => vl - (intOf z12).toNat)
    case atStart => exact ⟨0, rfl, by omega, Below.refl _ _⟩
    case round =>
      obtain ⟨i, rfl, hi, HB5⟩ := hrel
      by_cases hlt : i < vl
      · have hin : (i : Int) < (vl : Int) := by omega
        have hii : i < ids.length := by rw [HIL.out]; exact hlt
        obtain ⟨rb, e, hrb, hc⟩ := HLI.out (fun e => by rw [e] at hii; simp at hii)
        subst e
        have HC : Hid (∀ U, Below w4.heap.size w4 U → U.cell? ⟨rb, i, none⟩ = some (.int .u64 ids[i])) := fun U hU => by
          have h0 := hc i hii 0 _ rfl
          rw [Nat.mul_one, Nat.add_zero] at h0
          exact (hU.cell (p := ⟨rb, i, none⟩) hrb).trans h0
        obtain ⟨L, hL1, hLb, hLP, hLO⟩ := HLG.out _ (List.getElem_mem hii)
        have c0 := HC.out wr HB5.out
        have PT := hLP wr (HB4.out.trans (HB5.out.mono HB4.out.size))
        have HLB : Hid (∀ l ∈ L, 0 ≤ l.2.1 ∧ l.2.1 < l.2.2 ∧ l.2.2 ≤ 4611686018427387904) := hLb
        have HLO : Hid (∀ l ∈ L, ∀ t, l.2.1 ≤ t → t < l.2.2 → ∀ W, Below w2.heap.size w2 W → Calls Tryz.prog 11 #[.pointer (some ⟨f, 0, none⟩), .int .u64 ids[i], .int .i64 t] W (OneP l.1 0 W)) := hLO
        clear hLP hLO hLb hc
        generalize ids[i] = id at *
        unfold LstP at PT
        obtain ⟨q, hq⟩ : ∃ q, L.length = q := ⟨_, rfl⟩
        have HQ : Hid (L.length = q) := hq
        rw [hq] at PT hL1
        clear hq
        go_wp2_with (first
          | (go_at_call 10; (with_reducible refine PT.mono ?_); clear PT; rintro e w5 ⟨la, lc, rfl, HLL, hb5⟩; have HB6 : Hid (Below w4.heap.size w4 w5) := HB5.out.trans (hb5.mono HB5.out.size); have AX2 := AX.out id w5 (HB4.out.trans (HB6.out.mono HB4.out.size)); have c5 := HC.out w5 HB6.out; clear hb5 HB5 c0)
          | (go_at_call 8; (with_reducible refine AX2.mono ?_); clear AX2; rintro e w6 ⟨rfl, hb6⟩; have HB7 : Hid (Below w4.heap.size w4 w6) := HB6.out.trans (hb6.mono HB6.out.size); have HLL6 : Hid (LieIn legC 3 w6 la L) := HLL.out.below hb6; clear hb6 HB6 HLL c5))
        go_loopw [15] (fun z15 wq => ∃ k : Nat, z15 = .int .i64 k ∧ k ≤ q ∧ Hid (Below w6.heap.size w6 wq)) (fun z15 _ => q - (intOf z15).toNat)
        case atStart => exact ⟨0, rfl, by omega, Below.refl _ _⟩
        case round =>
          obtain ⟨k, rfl, hk, HK⟩ := hrel
          by_cases hkq : k < q
          · have hkn : (k : Int) < (q : Int) := by omega
            have hkL : k < L.length := by rw [HQ.out]; exact hkq
            obtain ⟨lb, e, hlb, hc⟩ := (HLL6.out.below HK.out) (fun e => by rw [e] at hkL; simp at hkL)
            subst e
            have HBR : Hid (∀ U, Below wr.heap.size wr U → Below w4.heap.size w4 U) := fun U hU => (HB7.out.trans (HK.out.mono HB7.out.size)).trans (hU.mono (Nat.le_trans HB7.out.size HK.out.size))
            have HCS : Hid (∀ U, Below wr.heap.size wr U → (U.cell? ⟨rb, i, none⟩ = some (.int .u64 id) ∧ U.cell? ⟨lb, k * 3 + 1, none⟩ = some (.int .i64 L[k].2.1) ∧ U.cell? ⟨lb, k * 3 + 2, none⟩ = some (.int .i64 L[k].2.2)) ∧ U.cell? ⟨lb, k * 3, none⟩ = some (.int .u64 L[k].1)) := fun U hU => ⟨⟨HC.out U (HBR.out U hU), (hU.cell (p := ⟨lb, k * 3 + 1, none⟩) hlb).trans (hc k hkL 1 _ rfl), (hU.cell (p := ⟨lb, k * 3 + 2, none⟩) hlb).trans (hc k hkL 2 _ rfl)⟩, (hU.cell (p := ⟨lb, k * 3, none⟩) hlb).trans (hc k hkL 0 _ rfl)⟩
            have hbd := HLB.out _ (List.getElem_mem hkL)
            have OW : Hid (∀ t, L[k].2.1 ≤ t → t < L[k].2.2 → ∀ U, Below wr.heap.size wr U → Calls Tryz.prog 11 #[.pointer (some ⟨f, 0, none⟩), .int .u64 id, .int .i64 t] U fun e W' => e = .returned (.tuple #[.int .u64 L[k].1, .int .i64 0]) ∧ Below U.heap.size U W') := fun t h1 h2 U hU => HLO.out _ (List.getElem_mem hkL) t h1 h2 U (HB4.out.trans ((HBR.out U hU).mono HB4.out.size))
            clear hc
            generalize L[k] = l at *
            obtain ⟨ow, fr, tl⟩ := l
            simp only at HCS hbd OW
            have OW1 : Hid (∀ U, Below wr.heap.size wr U → Calls Tryz.prog 11 #[.pointer (some ⟨f, 0, none⟩), .int .u64 id, .int .i64 fr] U fun e W' => e = .returned (.tuple #[.int .u64 ow, .int .i64 0]) ∧ Below U.heap.size U W') := OW.out fr (by omega) (by omega)
            have et : IntKind.i64.wrap (tl - 1) = tl - 1 := by rw [IntWalk.i64_left]; unfold wrap64; omega
            have OW2 : Hid (∀ U, Below wr.heap.size wr U → Calls Tryz.prog 11 #[.pointer (some ⟨f, 0, none⟩), .int .u64 id, .int .i64 (IntKind.i64.wrap (tl - 1))] U fun e W' => e = .returned (.tuple #[.int .u64 ow, .int .i64 0]) ∧ Below U.heap.size U W') := by rw [et]; exact OW.out (tl - 1) (by omega) (by omega)
            obtain ⟨⟨x0, x1, x2⟩, _⟩ := HCS.out wr (Below.refl _ _)
            clear OW hbd et
            go_upto_region 17 with fail
            go_region_held3 (fun U => U.cell? ⟨rb, i, none⟩ = some (.int .u64 id) ∧ U.cell? ⟨lb, k * 3 + 1, none⟩ = some (.int .i64 fr) ∧ U.cell? ⟨lb, k * 3 + 2, none⟩ = some (.int .i64 tl)) (first | exact HS8.1 | exact (HCS.out _ (by repeat' first | exact Below.refl _ _ | assumption | refine Below.drew ?_)).1) (first
              | (go_at_call 11; (with_reducible refine (OW1.out _ (by repeat' first | exact Below.refl _ _ | assumption | refine Below.drew ?_)).mono ?_); clear OW1; rintro e w8 ⟨rfl, hb8⟩; have HB8 : Hid (Below wr.heap.size wr w8) := Below.trans (by repeat' first | exact Below.refl _ _ | assumption | refine Below.drew ?_) hb8; have HS8 := HCS.out w8 HB8.out; clear hb8))
            obtain ⟨⟨y0, y1, y2⟩, _⟩ := HS8
            clear x0 x1 x2
            have HCS8 : Hid (∀ U, Below w8.heap.size w8 U → (U.cell? ⟨rb, i, none⟩ = some (.int .u64 id) ∧ U.cell? ⟨lb, k * 3 + 1, none⟩ = some (.int .i64 fr) ∧ U.cell? ⟨lb, k * 3 + 2, none⟩ = some (.int .i64 tl)) ∧ U.cell? ⟨lb, k * 3, none⟩ = some (.int .u64 ow)) := fun U hU => HCS.out U (HB8.out.trans (hU.mono HB8.out.size))
            have OW3 : Hid (∀ U, Below w8.heap.size w8 U → Calls Tryz.prog 11 #[.pointer (some ⟨f, 0, none⟩), .int .u64 id, .int .i64 (IntKind.i64.wrap (tl - 1))] U fun e W' => e = .returned (.tuple #[.int .u64 ow, .int .i64 0]) ∧ Below U.heap.size U W') := fun U hU => OW2.out U (HB8.out.trans (hU.mono HB8.out.size))
            clear OW2 HCS
            go_upto_region 18 with fail
            go_region_held3 (fun U => U.cell? ⟨rb, i, none⟩ = some (.int .u64 id) ∧ U.cell? ⟨lb, k * 3 + 1, none⟩ = some (.int .i64 fr) ∧ U.cell? ⟨lb, k * 3 + 2, none⟩ = some (.int .i64 tl)) (first | exact HS9.1 | exact (HCS8.out _ (by repeat' first | exact Below.refl _ _ | assumption | refine Below.drew ?_)).1) (first
              | (go_at_call 11; (with_reducible refine (OW3.out _ (by repeat' first | exact Below.refl _ _ | assumption | refine Below.drew ?_)).mono ?_); clear OW3; rintro e w9 ⟨rfl, hb9⟩; have HB9 : Hid (Below w8.heap.size w8 w9) := Below.trans (by repeat' first | exact Below.refl _ _ | assumption | refine Below.drew ?_) hb9; have HS9 := HCS8.out w9 HB9.out; clear hb9))
            obtain ⟨_, z0⟩ := HS9
            have HK9 : Hid (Below w6.heap.size w6 w9) := (HK.out.trans (HB8.out.mono HK.out.size)).trans (HB9.out.mono (Nat.le_trans HK.out.size HB8.out.size))
            clear HCS8 HB8 HB9 y0 y1 y2 HK HBR
            go_wp2
            go_roundw
            case rel => exact ⟨k + 1, by go_num, by omega, HK9⟩
            case measure => (simp [intOf]; omega)
          · obtain rfl : k = q := by omega
            have HB10 : Hid (Below w4.heap.size w4 wr) := HB7.out.trans (HK.out.mono HB7.out.size)
            clear HK HB7 HLL6
            go_wp2
            go_roundw
            case rel => exact ⟨i + 1, by go_num, by omega, HB10⟩
            case measure => (simp [intOf]; omega)
      · obtain rfl : i = vl := by omega
        go_wp2
        go_ret
        exact ⟨rfl, (HB2.out.trans (HB4.out.mono HB2.out.size)).trans (HB5.out.mono (Nat.le_trans HB2.out.size HB4.out.size))⟩
  · have MD : Hid (∀ W, Below w.heap.size w W → Calls Tryz.prog 7 #[.slice ad n cap] W fun e w' => e = .returned (.tuple #[.pointer none, .pointer none, .bool true]) ∧ Below W.heap.size W w') := fun W hb => madeF_none ad n cap X P W (hX.below hb) hF hS (hT.below hb) h1
    have AX : Hid (∀ W, Calls Tryz.prog 8 #[.pointer none, .pointer none, .int .u64 root, .int .i64 at_] W fun e w' => e = .returned (.bool true) ∧ Below W.heap.size W w') := fun W => asked_any _ _ _ _ W (askX_nil W root at_)
    clear hX hF hS hT h1
    go_enter Tryz.func3, Tryz.ntmps3
    go_wp2_with (first
      | (go_at_call 6; refine SH.mono ?_; clear SH; rintro e w1 ⟨rfl, hb1⟩; have M1 := MD.out w1 hb1; have HB1 : Hid (Below w.heap.size w w1) := hb1; clear hb1 MD)
      | (go_at_call 7; refine M1.mono ?_; clear M1; rintro e w2 ⟨rfl, hb2⟩; have HB2 : Hid (Below w.heap.size w w2) := HB1.out.trans (hb2.mono HB1.out.size); have AX1 := AX.out w2; clear hb2 HB1 AX)
      | (go_at_call 8; (with_reducible refine AX1.mono ?_); clear AX1; rintro e w3 ⟨rfl, hb3⟩; have HB3 : Hid (Below w.heap.size w w3) := HB2.out.trans (hb3.mono HB2.out.size); clear hb3 HB2))
    go_ret
    exact ⟨rfl, HB3.out⟩
end Go.Proofs.YtobjjdggjgnfcaaGreatDoor
