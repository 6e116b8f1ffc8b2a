/-
  Merged: ToK, ToL.
-/
import Derived.Test.YtmpmpoclkgofeaaGreatDoorToJ
import Derived.Test.YtmpmpoclkgofeaaGreatDoorPQ
namespace Go.Proofs.YtmpmpoclkgofeaaGreatDoor
open Go Go.RowKit
set_option maxRecDepth 100000

theorem TrI.sps {w wr : World} {ad : Option Addr} {n : Nat} {X : List Sp} {P : Nat → Pl} {hi lo : Int} {ll oc : Nat} {oa : Option Addr} (h : TrI w X P hi lo ll oa oc wr) (hX : SpsAt w ad n X P) (hF : ∀ a ∈ X, a.Fits) (hS : ∀ a ∈ X, a.Small) :
    ∃ Z : List Sp, ∃ Q : Nat → Pl, Z.length = ll ∧ ll ≤ 1000 ∧ SpsAt wr oa ll Z Q ∧ OneT Z ∧ Below w.heap.size w wr := by
  obtain ⟨B, h1, h2, h3, h4, h5, h6⟩ := h
  have hm : ∀ x ∈ B, x.1 ∈ X ∧ chkS x.1 = 0 ∧ SpAt wr x.1 x.2 := fun x hx => by
    obtain ⟨i, hi, e, hc⟩ := h3 x hx
    subst e
    exact ⟨List.getElem_mem hi, hc, (hX.below h6).each i hi⟩
  refine ⟨B.map Prod.fst, fun i => (B.getD i (⟨0, 0, 0, 0, [], ⟨#[]⟩, ⟨#[]⟩, 0, 0, 0, 0, [], []⟩, pl0)).2, by simp [h1], h2, ⟨by simp [h1], fun hp => ?_, fun i hi => ?_⟩, ⟨by simp [h1, h2], ?_, ?_, ?_, ?_, ?_⟩, h6⟩
  · rcases h5.2 with ⟨_, e⟩ | ⟨g, cap, cur, e, _⟩
    · omega
    · obtain ⟨rfl, rfl⟩ : oa = some ⟨g, 0, none⟩ ∧ oc = cap := by injection e with e1 e2 e3; exact ⟨e1, e3⟩
      refine ⟨g, 0, rfl, fun i hi j u hu => ?_⟩
      have hiB : i < B.length := by simpa using hi
      have hj : j < 13 := by
        have := (Array.getElem?_eq_some_iff.1 hu).1
        exact this
      rw [Nat.zero_add, h5.cellAt (i * 13 + j) (by omega), sq_at B i hiB j hj]
      rw [List.getElem_map] at hu
      simp only [List.getD, List.getElem?_eq_getElem hiB, Option.getD_some] at hu
      show (spC B[i].1 B[i].2).toList[j]? = some u
      rw [Array.getElem?_toList]
      exact hu
  · have hiB : i < B.length := by simpa using hi
    rw [List.getElem_map]
    simp only [List.getD, List.getElem?_eq_getElem hiB, Option.getD_some]
    exact (hm _ (List.getElem_mem hiB)).2.2
  · intro a ha
    obtain ⟨x, hx, rfl⟩ := List.mem_map.1 ha
    exact (hm x hx).2.1
  · intro a ha
    obtain ⟨x, hx, rfl⟩ := List.mem_map.1 ha
    exact hF _ (hm x hx).1
  · intro a ha
    obtain ⟨x, hx, rfl⟩ := List.mem_map.1 ha
    exact hS _ (hm x hx).1
  · intro a ha b hb
    obtain ⟨x, hx, rfl⟩ := List.mem_map.1 ha
    obtain ⟨y, hy, rfl⟩ := List.mem_map.1 hb
    have e1 := h4.tr x hx
    have e2 := h4.tr y hy
    exact ⟨e1.1.trans e2.1.symm, e1.2.trans e2.2.symm⟩
  · rw [List.map_map]
    exact h4.ids
theorem buildG (ad : Option Addr) (n cap : Nat) (X : List Sp) (P : Nat → Pl) (w w1 : World) (hb : Below w.heap.size w w1) (hX : SpsAt w1 ad n X P) (hO : OneT X) (hT : Tabs w) :
    Calls Tryz.prog 13 #[.slice ad n cap] w1 fun e w' => ∃ f sb Y X' K rv R C dp fin, e = .returned (.tuple #[.pointer (some ⟨f, 0, none⟩), .int .i64 0]) ∧ ForestAt w' f sb X' K rv R ∧ FoB Y C dp fin X' K R ∧ X'.length = n ∧ Below w.heap.size w w' := by
  refine (build_total ad n cap X P w1 hX hO.fits hO.small (hT.below hb)).mono ?_
  rintro e w' (⟨h1, Y, hp, hr, f, sb, X', K, rv, R, C, dp, fin, rfl, h2, _, h4, h5, h6⟩ | ⟨h1, _⟩)
  · exact ⟨f, sb, Y, X', K, rv, R, C, dp, fin, rfl, h2, ⟨h5, h4, h2.rise, one_perm h1 hp⟩, by rw [h5.len, ← hp.length_eq]; exact hX.len, hb.trans (h6.mono hb.size)⟩
  · exact absurd hO h1
end Go.Proofs.YtmpmpoclkgofeaaGreatDoor

namespace Go.Proofs.YtmpmpoclkgofeaaGreatDoor
open Go Go.RowKit
set_option maxRecDepth 100000

set_option maxHeartbeats 4000000 in
theorem grown_any (ad : Option Addr) (n cap : Nat) (X : List Sp) (P : Nat → Pl) (w : World) (hX : SpsAt w ad n X P) (hF : ∀ a ∈ X, a.Fits) (hS : ∀ a ∈ X, a.Small) (hn : n * 168 ≤ 140737488351232) (hT : Tabs w) :
    Calls Tryz.prog 5 #[.slice ad n cap] w fun e w' => ∃ f sb Y X' K rv R C dp fin sv, e = .returned (.tuple #[.pointer (some ⟨f, 0, none⟩), sv, .bool true]) ∧ ForestAt w' f sb X' K rv R ∧ FoB Y C dp fin X' K R ∧ Below w.heap.size w w' := by
  have TR := trace_any ad n cap X P w hX hS hn
  have BD : Hid (∀ va vl vc w1, (∃ hi lo, TrI w X P hi lo vl va vc w1) → vl ≤ 1000 ∧ Calls Tryz.prog 13 #[.slice va vl vc] w1 fun e w' => ∃ f sb Y X' K rv R C dp fin, e = .returned (.tuple #[.pointer (some ⟨f, 0, none⟩), .int .i64 0]) ∧ ForestAt w' f sb X' K rv R ∧ FoB Y C dp fin X' K R ∧ X'.length = vl ∧ Below w.heap.size w w') := fun va vl vc w1 h => by
    obtain ⟨hi, lo, h⟩ := h
    obtain ⟨Z, Q, _, h2, h3, h4, h5⟩ := h.sps hX hF hS
    exact ⟨h2, buildG va vl vc Z Q w w1 h5 h3 h4 hT⟩
  clear hX hF hS hT
  go_enter Tryz.func5, Tryz.ntmps5
  go_wp2_with (first
    | (go_at_call 16; (with_reducible refine TR.mono ?_); clear TR; rintro e w1 ⟨va, vl, vc, rfl, HI⟩; obtain ⟨hvl, B1⟩ := BD.out va vl vc w1 HI.out; clear HI BD)
    | (go_at_call 13; (with_reducible refine B1.mono ?_); clear B1; rintro e w2 ⟨f, sb, Y, X', K, rv, R, C, dp, fin, rfl, h1, h2, h3, h4⟩; have CT := count_any f sb X' K rv R w2 h1; rw [h3] at CT; have HS : Hid (ForestAt w2 f sb X' K rv R ∧ FoB Y C dp fin X' K R ∧ Below w.heap.size w w2) := ⟨h1, h2, h4⟩; clear h1 h2 h3 h4)
    | (go_at_call 17; refine CT.mono ?_; clear CT; rintro e w3 ⟨rfl, rfl⟩))
  go_returns
  exact ⟨f, sb, Y, X', K, rv, R, C, dp, fin, _, rfl, HS.out.1, HS.out.2.1, HS.out.2.2⟩
end Go.Proofs.YtmpmpoclkgofeaaGreatDoor
