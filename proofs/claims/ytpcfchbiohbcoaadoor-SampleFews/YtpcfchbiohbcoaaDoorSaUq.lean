/-
  Merged: SaU, SaV.
-/
import Derived.Test.YtpcfchbiohbcoaaDoorSaS
import Derived.Shelf.Spec.SlicesInsert
import Derived.Deep.RegionLaw
namespace Go.Proofs.YtpcfchbiohbcoaaDoor
open Go Go.RowKit Go.Lib
set_option maxRecDepth 100000

/-- Three pieces, laid one behind the other. -/
theorem lay3 {L A B Cs : List Value} {i n : Nat} (hA : L.take (i * 2) = A) (hAl : A.length = i * 2) (hB : B.length = 2) (hC : Cs.length = (n - i) * 2) (hi : i ≤ n) (hL : (n + 1) * 2 ≤ L.length) :
    let L1 := L.take (i * 2) ++ B ++ L.drop (i * 2 + 2)
    let L2 := L1.take ((i + 1) * 2) ++ Cs ++ L1.drop ((i + 1) * 2 + Cs.length)
    L1.length = L.length ∧ L2.length = L.length ∧ L2.take ((n + 1) * 2) = A ++ B ++ Cs := by
  intro L1 L2
  have h1 : L1.length = L.length := by simp [L1, hA, hAl, hB]; omega
  have e1 : L1.take ((i + 1) * 2) = A ++ B := by
    simp only [L1, hA]
    rw [List.take_append_of_le_length (by simp [hAl, hB]; omega), List.take_of_length_le (by simp [hAl, hB]; omega)]
  have h2 : L2.length = L.length := by
    simp only [L2, e1, List.length_append, List.length_drop, hAl, hB, hC, h1]
    omega
  refine ⟨h1, h2, ?_⟩
  simp only [L2, e1]
  rw [List.take_append_of_le_length (by simp [hAl, hB, hC]; omega), List.take_of_length_le (by simp [hAl, hB, hC]; omega)]
theorem insF (T : List Tr) (t : Tr) (i : Nat) : (T.take i ++ t :: T.drop i).flatMap trC = (T.take i).flatMap trC ++ trC t ++ (T.drop i).flatMap trC := by
  simp [List.flatMap_append]
theorem trSz : (Tryd.prog.info? 33).map (·.size) = some 2 := by kernel_rfl
set_option maxHeartbeats 4000000 in
theorem insGrow_any (g b n i base : Nat) (cur : Array Value) (T : List Tr) (t : Tr) (w : World) (hg : w.heap[g]? = some (.cells cur 33 (0, 0))) (hl : T.length = n) (hi : i < n) (hn : n ≤ 1000) (_hs : cur.size = n * 2) (ht : cur.toList.take (n * 2) = T.flatMap trC) (hb : Blk w b #[.int .u64 (bvI t.1), .int .u64 (bvI t.2)] 33) (hbase : base ≤ w.heap.size) :
    Calls Tryd.prog 48 #[.slice (some ⟨g, 0, none⟩) n n, .int .i64 i, .slice (some ⟨b, 0, none⟩) 1 1] w fun e w' => ∃ v', e = .returned v' ∧ OwnTr base w' v' (T.take i ++ t :: T.drop i) ∧ v'.ownBlock = some w.heap.size ∧ Below w.heap.size w w' := by
  have hi1 : (i : Int) < (n : Int) := by omega
  have hi0 : (0 : Int) ≤ (i : Int) := by omega
  have hc1 : (n : Int) < (n : Int) + 1 := by omega
  have hw1 : IntKind.i64.wrap ((n : Int) + 1) = (n : Int) + 1 := by simp [IntKind.wrap, IntKind.bits, IntKind.signed]; omega
  obtain ⟨k, hk⟩ : ∃ k, n + 1 - i = k := ⟨_, rfl⟩
  have hw2 : IntKind.i64.wrap ((n : Int) + 1 - (i : Int)) = (k : Int) := by simp [IntKind.wrap, IntKind.bits, IntKind.signed]; omega
  have hne2 : ((i : Int) == (n : Int)) = false := by simp; omega
  obtain ⟨i0, hi0', hz0, hz1, hz2⟩ := info_parts infoTr
  have hcell : ∀ j v, (T.flatMap trC)[j]? = some v → w.cell? ⟨g, j, none⟩ = some v := fun j v hj => by
    have hjl : j < n * 2 := by rw [← hl, ← trF_len]; exact (List.getElem?_eq_some_iff.mp hj).1
    rw [← ht, List.getElem?_take_of_lt hjl] at hj
    simp only [World.cell?, hg]
    simpa using hj
  have hold : (Builtin.firstCells i0.size i (.slice (some ⟨g, 0, none⟩) i n)).run Tryd.prog w.drew = .ok ((T.take i).flatMap trC).toArray w.drew := by
    rw [hz1]
    refine run_firstCells_some (w := w.drew) 2 i ⟨g, 0, none⟩ i n _ (by rw [trF_len, List.length_take]; omega) (fun j v hj => ?_)
    rw [Addr.add_lit, Nat.zero_add]
    refine hcell j v ?_
    rw [← trF_take] at hj
    have hjl : j < i * 2 := by
      have := (List.getElem?_eq_some_iff.mp hj).1
      simp at this
      omega
    rwa [List.getElem?_take_of_lt hjl] at hj
  have AP := run_append_grow_zeros (P := Tryd.prog) w 38 3 38 33 i0 _ .i64 .i64 Tryd.underlying38 Tryd.underlying3 hi0' hz0 (some ⟨g, 0, none⟩) i n _ hold k (by omega) (by omega) (by omega) (by omega) (by rw [hz2]; omega) (growslice_fits_wide (by omega) (by rw [hz2]; omega))
  rw [show i + k = n + 1 by omega] at AP
  obtain ⟨C, hC⟩ : ∃ C, grownCap w (n + 1) n 33 = C := ⟨_, rfl⟩
  have hC1 : n + 1 ≤ C := hC ▸ grownCap_ge w (n + 1) n 33
  have hC2 : C ≤ maxLen := hC ▸ grownCap_le_maxLen w (n + 1) n 33 (by unfold maxLen; omega)
  rw [hC] at AP
  clear hold hC
  obtain ⟨cur2, hcur2⟩ : ∃ cur2, ((T.take i).flatMap trC).toArray ++ Builtin.zeroCells (Value.agg #[Value.int IntKind.u64 0, Value.int IntKind.u64 0]).cells k ++ Builtin.zeroCells (Value.agg #[Value.int IntKind.u64 0, Value.int IntKind.u64 0]).cells (C - (n + 1)) = cur2 := ⟨_, rfl⟩
  have hAl : ((T.take i).flatMap trC).length = i * 2 := by rw [trF_len, List.length_take]; omega
  have hs2 : cur2.size = C * 2 := by
    rw [← hcur2]
    simp [Array.size_append, size_zeroCells, Value.cells, hAl]
    omega
  have hA2 : cur2.toList.take (i * 2) = (T.take i).flatMap trC := by
    rw [← hcur2]
    simp only [Array.toList_append, List.append_assoc]
    rw [List.take_append_of_le_length (by simp [hAl]), List.take_of_length_le (by simp [hAl])]
  rw [hcur2] at AP
  obtain ⟨w2, hw2'⟩ : ∃ w2, w.drew.alloc (.cells cur2 33) = w2 := ⟨_, rfl⟩
  have B2 : Below w.heap.size w w2 := by rw [← hw2']; exact ((Below.refl w.heap.size w).drew).alloc (Nat.le_refl _) _
  have hg2 : w2.heap[w.heap.size]? = some (.cells cur2 33 (0, 0)) := by rw [← hw2']; exact heap_alloc_new w.drew _
  rw [hw2'] at AP
  clear hcur2 hw2'
  have k2 : Blk w2 b #[.int .u64 (bvI t.1), .int .u64 (bvI t.2)] 33 := hb.below B2 hb.lt
  have hgl : g < w.heap.size := lt_of_block hg
  have hbl := hb.lt
  have L3 := lay3 (L := cur2.toList) (B := trC t) (Cs := (T.drop i).flatMap trC) (i := i) (n := n) hA2 hAl rfl (by rw [trF_len, List.length_drop, hl]) (by omega) (by simp [hs2]; omega)
  simp only at L3
  have CP1 := run_copyO (P := Tryd.prog) w2 38 38 3 33 w.heap.size (i * 2) (n + 1 - i) (C - i) ⟨b, 0, none⟩ 1 1 1 2 cur2 33 (trC t) Tryd.underlying38 trSz hg2 (by omega) rfl (fun j v hj => by
    rw [Addr.add_lit, Nat.zero_add]
    match j, hj with
    | 0, hj => exact (k2.cell 0 rfl).trans hj
    | 1, hj => exact (k2.cell 1 rfl).trans hj
    | j + 2, hj => simp [trC] at hj) (by rw [hs2, trC_len]; omega) (trC_one t)
  rw [trC_len, hk] at CP1
  obtain ⟨cur3, hcur3⟩ : ∃ cur3, (cur2.toList.take (i * 2) ++ trC t ++ cur2.toList.drop (i * 2 + 2)).toArray = cur3 := ⟨_, rfl⟩
  obtain ⟨w3, hw3'⟩ : ∃ w3, w2.setRow w.heap.size cur3 = w3 := ⟨_, rfl⟩
  rw [hcur3, hw3'] at CP1
  have hg3 : w3.heap[w.heap.size]? = some (.cells cur3 33 (0, 0)) := by rw [← hw3']; exact setRow_heap w2 w.heap.size _ _ _ _ hg2
  have B3 : Below w.heap.size w w3 := by
    rw [← hw3']
    exact B2.trans ((⟨rfl, rfl, rfl, by simp [World.setRow], fun k hk hn => setRow_other w2 w.heap.size k _ hn⟩ : Upd (fun k => k = w.heap.size) w2 (w2.setRow w.heap.size cur3)).below B2.size (fun k h1 h2 => by omega))
  have hc3 : cur3.toList = cur2.toList.take (i * 2) ++ trC t ++ cur2.toList.drop (i * 2 + 2) := by rw [← hcur3]
  have hs3 : cur3.size = C * 2 := by rw [← Array.length_toList, hc3, L3.1, Array.length_toList, hs2]
  clear hcur3 hw3'
  have CP2 : ∀ q, (Builtin.copy_ #[38, 38] 3 #[.slice (some ⟨w.heap.size, (i + 1) * 2, none⟩) (n + 1 - (i + 1)) (C - (i + 1)), .slice (some ⟨g, i * 2, none⟩) (n - i) (n - i)]).run Tryd.prog (w3.drewN q) = .ok (goInt ((n - i : Nat) : Int)) ((w3.drewN q).setRow w.heap.size (cur3.toList.take ((i + 1) * 2) ++ (T.drop i).flatMap trC ++ cur3.toList.drop ((i + 1) * 2 + ((T.drop i).flatMap trC).length)).toArray) := fun q =>
    run_copyO (P := Tryd.prog) (w3.drewN q) 38 38 3 33 w.heap.size ((i + 1) * 2) (n + 1 - (i + 1)) (C - (i + 1)) ⟨g, i * 2, none⟩ (n - i) (n - i) (n - i) 2 cur3 33 ((T.drop i).flatMap trC) Tryd.underlying38 trSz hg3 (by omega) (by rw [trF_len, List.length_drop, hl]) (fun j v hj => by
      rw [Addr.add_lit]
      rw [← trF_drop, List.getElem?_drop] at hj
      exact (B3.cell (p := ⟨g, i * 2 + j, none⟩) hgl).trans (hcell _ _ hj)) (by rw [hs3, trF_len, List.length_drop, hl]; omega) (trF_one _)
  obtain ⟨cur4, hcur4⟩ : ∃ cur4, (cur3.toList.take ((i + 1) * 2) ++ (T.drop i).flatMap trC ++ cur3.toList.drop ((i + 1) * 2 + ((T.drop i).flatMap trC).length)).toArray = cur4 := ⟨_, rfl⟩
  have hc4 : cur4.toList = cur3.toList.take ((i + 1) * 2) ++ (T.drop i).flatMap trC ++ cur3.toList.drop ((i + 1) * 2 + ((T.drop i).flatMap trC).length) := by rw [← hcur4]
  simp only [hcur4] at CP2
  go_enter Tryd.func48, Tryd.ntmps48
  have hC0 : (n : Int) + 1 ≤ (C : Int) := by omega
  have hw3 : IntKind.i64.wrap ((i : Int) + 1) = (i : Int) + 1 := by simp [IntKind.wrap, IntKind.bits, IntKind.signed]; omega
  have h01 : (0 : Int) ≤ (i : Int) + 1 := by omega
  have hin : i ≤ n := by omega
  have hCne : ¬ C = i + 1 := by omega
  have hCne2 : ¬ C - (i + 1) = 0 := by omega
  go_upto_region 11 with (first
    | (at_builtin; refine wpList_append_run w rfl (.tmp 34) (.tmp 39) 38 3 rfl _ _ rfl rfl _ _ AP ?_; clear AP)
    | (at_builtin; refine wpList_copy_runI w2 rfl (.tmp 43) (.tmp 44) 38 38 rfl _ _ rfl rfl CP1 ?_; clear CP1))
  have HEND : Hid (∀ q, ∃ v', (.returned (.slice (some ⟨w.heap.size, 0, none⟩) (n + 1) C) : Ending) = .returned v' ∧ OwnTr base ((w3.drewN q).setRow w.heap.size cur4) v' (T.take i ++ t :: T.drop i) ∧ v'.ownBlock = some w.heap.size ∧ Below w.heap.size w ((w3.drewN q).setRow w.heap.size cur4)) := fun q => by
    have b3 : Below w.heap.size w (w3.drewN q) := ⟨B3.os, B3.tape, B3.output, B3.size, B3.block⟩
    have hlen : (T.take i ++ t :: T.drop i).length = n + 1 := by simp [hl]; omega
    refine ⟨_, rfl, ?_, rfl, b3.trans ((⟨rfl, rfl, rfl, by simp [World.setRow], fun k hk hn => setRow_other (w3.drewN q) w.heap.size k _ hn⟩ : Upd (fun k => k = w.heap.size) (w3.drewN q) ((w3.drewN q).setRow w.heap.size _)).below b3.size (fun k h1 h2 => by omega))⟩
    unfold OwnTr
    rw [hlen]
    refine ⟨by rw [trF_len, hlen], Or.inr ⟨w.heap.size, C, _, rfl, hbase, setRow_heap (w3.drewN q) w.heap.size _ _ _ _ hg3, hC1, hC2, ?_, ?_⟩⟩
    · rw [← Array.length_toList, hc4, hc3, L3.2.1, Array.length_toList, hs2]
    · rw [hc4, hc3, L3.2.2, insF]
  go_region_law (refine step_copy_runI rfl _ _ 38 38 rfl _ _ (by simp [Act.eval, Act.put]) (by simp [Act.eval, Act.put]; omega) (CP2 _) ?_)
  go_wp2
  go_ret
  all_goals first | exact HEND.out _ | exact HEND.out 1
end Go.Proofs.YtpcfchbiohbcoaaDoor

namespace Go.Proofs.YtpcfchbiohbcoaaDoor
open Go Go.RowKit Go.Lib
set_option maxRecDepth 100000

theorem lay3b {L A B Cs : List Value} {i n : Nat} (hA : L.take (i * 2) = A) (hAl : A.length = i * 2) (hB : B.length = 2) (hC : Cs.length = (n - i) * 2) (hi : i ≤ n) (hL : (n + 1) * 2 ≤ L.length) :
    let L1 := L.take ((i + 1) * 2) ++ Cs ++ L.drop ((i + 1) * 2 + Cs.length)
    let L2 := L1.take (i * 2) ++ B ++ L1.drop (i * 2 + 2)
    L1.length = L.length ∧ L2.length = L.length ∧ L2.take ((n + 1) * 2) = A ++ B ++ Cs := by
  intro L1 L2
  have h1 : L1.length = L.length := by simp [L1, hC]; omega
  have e1 : L1.take (i * 2) = A := by
    simp only [L1, List.append_assoc]
    rw [List.take_append_of_le_length (by simp; omega), List.take_take, Nat.min_eq_left (by omega), hA]
  have hl0 : (L.take ((i + 1) * 2)).length = i * 2 + 2 := by simp; omega
  have e2 : L1.drop (i * 2 + 2) = Cs ++ L.drop ((i + 1) * 2 + Cs.length) := by
    simp only [L1, List.append_assoc]
    rw [← hl0, List.drop_left]
  have h2 : L2.length = L.length := by
    simp only [L2, e1, e2, List.length_append, List.length_drop, hAl, hB, hC]
    omega
  refine ⟨h1, h2, ?_⟩
  simp only [L2, e1, e2]
  rw [← List.append_assoc, List.take_append_of_le_length (by simp [hAl, hB, hC]; omega), List.take_of_length_le (by simp [hAl, hB, hC]; omega)]
theorem shape_blk {w : World} {b : Nat} {c : Array Value} {T : TypeId} (h : w.heap[b]? = some (.cells c T (0, 0))) : w.shape? b = some (T, c.size) := by simp [World.shape?, h]
set_option maxHeartbeats 4000000 in
theorem insRoom_any (g b n c i base : Nat) (cur : Array Value) (T : List Tr) (t : Tr) (w : World) (hg : w.heap[g]? = some (.cells cur 33 (0, 0))) (hl : T.length = n) (hi : i < n) (hn : n ≤ 1000) (hc : n + 1 ≤ c) (hcm : c ≤ maxLen) (hs : cur.size = c * 2) (ht : cur.toList.take (n * 2) = T.flatMap trC) (hb : Blk w b #[.int .u64 (bvI t.1), .int .u64 (bvI t.2)] 33) (hne : b ≠ g) (hbase : base ≤ g) :
    Calls Tryd.prog 48 #[.slice (some ⟨g, 0, none⟩) n c, .int .i64 i, .slice (some ⟨b, 0, none⟩) 1 1] w fun e w' => ∃ v', e = .returned v' ∧ OwnTr base w' v' (T.take i ++ t :: T.drop i) ∧ v'.ownBlock = some g ∧ Upd (fun k => k = g) w w' := by
  have hi1 : (i : Int) < (n : Int) := by omega
  have hi0 : (0 : Int) ≤ (i : Int) := by omega
  have hc1 : (n : Int) + 1 ≤ (c : Int) := by omega
  have hw1 : IntKind.i64.wrap ((n : Int) + 1) = (n : Int) + 1 := by simp [IntKind.wrap, IntKind.bits, IntKind.signed]; omega
  have hw3 : IntKind.i64.wrap ((i : Int) + 1) = (i : Int) + 1 := by simp [IntKind.wrap, IntKind.bits, IntKind.signed]; omega
  have hne2 : ((i : Int) == (n : Int)) = false := by simp; omega
  have h01 : (0 : Int) ≤ (i : Int) + 1 := by omega
  have h02 : (0 : Int) ≤ (n : Int) + 1 := by omega
  have hin : i ≤ n := by omega
  have hb3 : (i : Int) ≤ (n : Int) + 1 := by omega
  have hCne : ¬ c = i + 1 := by omega
  have hCne0 : ¬ c = i := by omega
  have hcell : ∀ j v, (T.flatMap trC)[j]? = some v → w.cell? ⟨g, j, none⟩ = some v := fun j v hj => by
    have hjl : j < n * 2 := by rw [← hl, ← trF_len]; exact (List.getElem?_eq_some_iff.mp hj).1
    rw [← ht, List.getElem?_take_of_lt hjl] at hj
    simp only [World.cell?, hg]
    simpa using hj
  have hA2 : cur.toList.take (i * 2) = (T.take i).flatMap trC := by
    rw [← trF_take, ← ht, List.take_take, Nat.min_eq_left (by omega)]
  have hAl : ((T.take i).flatMap trC).length = i * 2 := by rw [trF_len, List.length_take]; omega
  have hCl : ((T.drop i).flatMap trC).length = (n - i) * 2 := by rw [trF_len, List.length_drop, hl]
  have L3 := lay3b (L := cur.toList) (B := trC t) (Cs := (T.drop i).flatMap trC) (i := i) (n := n) hA2 hAl rfl hCl hin (by simp [hs]; omega)
  simp only at L3
  have hov : ∀ lb cb, (callFunc 62 #[.slice (some ⟨b, 0, none⟩) 1 1, .slice (some ⟨g, (i + 1) * 2, none⟩) lb cb]).run Tryd.prog w = .ok (.value (.bool false)) w := fun lb cb => by
    rw [run_callFunc_extern Tryd.func62 (by kernel_rfl) (by kernel_rfl) (by kernel_rfl) (e := Extern.SlicesOverlaps.overlaps #[38, 38] #[4]) (by kernel_rfl),
      Lib.run_overlaps_apart w 38 4 33 Tryd.underlying38 2 Tryd.sizeOf33 ⟨b, 0, none⟩ ⟨g, (i + 1) * 2, none⟩ 1 1 lb cb hne 33 33 2 cur.size (shape_blk hb) (shape_blk hg) (by omega) (hb.frozen 0) (hb.frozen 2)]
    rfl
  obtain ⟨cur3, hcur3⟩ : ∃ cur3, (cur.toList.take ((i + 1) * 2) ++ (T.drop i).flatMap trC ++ cur.toList.drop ((i + 1) * 2 + ((T.drop i).flatMap trC).length)).toArray = cur3 := ⟨_, rfl⟩
  have hc3 : cur3.toList = cur.toList.take ((i + 1) * 2) ++ (T.drop i).flatMap trC ++ cur.toList.drop ((i + 1) * 2 + ((T.drop i).flatMap trC).length) := by rw [← hcur3]
  have hs3 : cur3.size = c * 2 := by rw [← Array.length_toList, hc3, L3.1, Array.length_toList, hs]
  have CP1 : ∀ q, (Builtin.copy_ #[38, 38] 3 #[.slice (some ⟨g, (i + 1) * 2, none⟩) (n + 1 - (i + 1)) (c - (i + 1)), .slice (some ⟨g, i * 2, none⟩) (n + 1 - i) (c - i)]).run Tryd.prog (w.drewN q) = .ok (goInt ((n - i : Nat) : Int)) ((w.drewN q).setRow g cur3) := fun q => by
    have h := run_copyO (P := Tryd.prog) (w.drewN q) 38 38 3 33 g ((i + 1) * 2) (n + 1 - (i + 1)) (c - (i + 1)) ⟨g, i * 2, none⟩ (n + 1 - i) (c - i) (n - i) 2 cur 33 ((T.drop i).flatMap trC) Tryd.underlying38 trSz hg (by omega) hCl (fun j v hj => by
      rw [Addr.add_lit]
      rw [← trF_drop, List.getElem?_drop] at hj
      exact hcell _ _ hj) (by rw [hs, hCl]; omega) (trF_one _)
    rw [hcur3] at h
    exact h
  have hg3 : ∀ q, ((w.drewN q).setRow g cur3).heap[g]? = some (.cells cur3 33 (0, 0)) := fun q => setRow_heap (w.drewN q) g _ _ _ _ hg
  have U3 : ∀ q, Upd (fun k => k = g) w ((w.drewN q).setRow g cur3) := fun q => ⟨rfl, rfl, rfl, by simp [World.setRow, World.drewN], fun k hk hn => setRow_other (w.drewN q) g k _ hn⟩
  obtain ⟨cur4, hcur4⟩ : ∃ cur4, (cur3.toList.take (i * 2) ++ trC t ++ cur3.toList.drop (i * 2 + 2)).toArray = cur4 := ⟨_, rfl⟩
  have hc4 : cur4.toList = cur3.toList.take (i * 2) ++ trC t ++ cur3.toList.drop (i * 2 + 2) := by rw [← hcur4]
  have CP2 : ∀ q, (Builtin.copy_ #[38, 38] 3 #[.slice (some ⟨g, i * 2, none⟩) (n + 1 - i) (c - i), .slice (some ⟨b, 0, none⟩) 1 1]).run Tryd.prog ((w.drewN q).setRow g cur3) = .ok (goInt ((1 : Nat) : Int)) (((w.drewN q).setRow g cur3).setRow g cur4) := fun q => by
    have k2 : Blk ((w.drewN q).setRow g cur3) b #[.int .u64 (bvI t.1), .int .u64 (bvI t.2)] 33 := hb.upd (U3 q) hne
    have h := run_copyO (P := Tryd.prog) ((w.drewN q).setRow g cur3) 38 38 3 33 g (i * 2) (n + 1 - i) (c - i) ⟨b, 0, none⟩ 1 1 1 2 cur3 33 (trC t) Tryd.underlying38 trSz (hg3 q) (by omega) rfl (fun j v hj => by
      rw [Addr.add_lit, Nat.zero_add]
      match j, hj with
      | 0, hj => exact (k2.cell 0 rfl).trans hj
      | 1, hj => exact (k2.cell 1 rfl).trans hj
      | j + 2, hj => simp [trC] at hj) (by rw [hs3, trC_len]; omega) (trC_one t)
    rw [trC_len, hcur4] at h
    exact h
  have HEND : Hid (∀ q, ∃ v', (.returned (.slice (some ⟨g, 0, none⟩) (n + 1) c) : Ending) = .returned v' ∧ OwnTr base (((w.drewN q).setRow g cur3).setRow g cur4) v' (T.take i ++ t :: T.drop i) ∧ v'.ownBlock = some g ∧ Upd (fun k => k = g) w (((w.drewN q).setRow g cur3).setRow g cur4)) := fun q => by
    have hlen : (T.take i ++ t :: T.drop i).length = n + 1 := by simp [hl]; omega
    refine ⟨_, rfl, ?_, rfl, (U3 q).trans (⟨rfl, rfl, rfl, by simp [World.setRow], fun k hk hn => setRow_other ((w.drewN q).setRow g cur3) g k cur4 hn⟩ : Upd (fun k => k = g) ((w.drewN q).setRow g cur3) (((w.drewN q).setRow g cur3).setRow g cur4)) (fun _ _ h => h)⟩
    unfold OwnTr
    rw [hlen]
    refine ⟨by rw [trF_len, hlen], Or.inr ⟨g, c, cur4, rfl, hbase, setRow_heap _ g _ _ _ _ (hg3 q), hc, hcm, ?_, ?_⟩⟩
    · rw [← Array.length_toList, hc4, hc3, L3.2.1, Array.length_toList, hs]
    · rw [hc4, hc3, L3.2.2, insF]
  clear L3 hc3 hc4 hcur3 hcur4 U3 hg3 hcell hA2
  go_enter Tryd.func48, Tryd.ntmps48
  go_upto_region 15 with (simp only [hov])
  go_region_law (refine step_copy_runI rfl _ _ 38 38 rfl _ _ (by simp [Act.eval, Act.put]) (by simp [Act.eval, Act.put]) (CP1 _) ?_)
  all_goals go_wp2
  all_goals go_ret
  all_goals first | exact HEND.out _ | exact HEND.out 1
end Go.Proofs.YtpcfchbiohbcoaaDoor
