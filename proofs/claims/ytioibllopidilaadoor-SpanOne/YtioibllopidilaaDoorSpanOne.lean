/-
  SpanOne: the row and its card (written by gen_law4.py).
-/
import Derived.Test.YtioibllopidilaaDoorCards
import Derived.Test.YtioibllopidilaaDoorTie
import Derived.Test.YtioibllopidilaaDoorYp
import Derived.Test.YtioibllopidilaaDoorYs
namespace Go.Proofs.YtioibllopidilaaDoor.spanOne
open Go.ChangeShapes Go.WideShapes Go.ChangeAt Go.RowKit Go.Deep Go.Shelf

theorem str_bytes (s : ByteArray) (w : World) : ∃ (w1 : World) (cap : Nat), (convert 9 42 (.string s)).run Tryd.prog w = .ok (.slice (some ⟨w.heap.size, 0, none⟩) s.size cap) w1 ∧ Holds w1 (some ⟨w.heap.size, 0, none⟩) s.size (bytesI s) ∧ Below w.heap.size w w1 := by
  refine ⟨_, _, run_bytes_of_string (P := Tryd.prog) w 9 42 5 s Tryd.underlying9 Tryd.underlying42 Tryd.underlying5, ⟨bytesI_length s, fun j u hj => ⟨_, rfl, ?_⟩⟩, ((Below.refl _ _).drew).alloc (Nat.le_refl _) _⟩
  have hj' : j < s.data.size := by
    by_cases h : j < s.data.size
    · exact h
    · rw [List.getElem?_eq_none (by rw [List.length_map, bytesI_length]; exact Nat.le_of_not_lt h)] at hj; simp at hj
  have hcell : ∀ (X : Array Value) (fz : Nat × Nat), (w.drew.alloc (.cells X 5 fz)).cell? ⟨w.heap.size, j, none⟩ = X[j]? := by
    intro X fz
    have h1 : (w.drew.alloc (.cells X 5 fz)).heap[w.heap.size]? = some (.cells X 5 fz) := heap_alloc_new w.drew _
    unfold World.cell?; rw [h1]; rfl
  rw [Addr.add_lit, Nat.zero_add, hcell, bytesRow_at s _ j hj', ← hj]
  rw [List.getElem?_map, bytesI, List.getElem?_map, Array.getElem?_toList, Array.getElem?_eq_getElem hj']; rfl


set_option maxRecDepth 100000 in
set_option maxHeartbeats 4000000 in
theorem one_bad (s : ByteArray) (w : World) (hT : Tabs w)
    (DE : ∀ w', Below w.heap.size w w' → ∀ g cp, Holds w' (some ⟨g, 0, none⟩) s.size (bytesI s) → Calls Tryd.prog 16 #[.slice (some ⟨g, 0, none⟩) s.size cp] w' fun e w2 => ∃ q, e = .returned (.tuple #[zeroV, .iface 87 (.pointer (some ⟨q, 0, none⟩))]) ∧ Below w'.heap.size w' w2) :
    Calls Tryd.prog 7 #[.string s] w fun e w' => e = .returned (.bool true) ∧ Below w.heap.size w w' := by
  have AW := fun w' (h : Below w.heap.size w w') => awake_any w' (hT.below h)
  have SB := str_bytes s
  have SM := fun w' => same_any spZ spZ pl0 pl0 w' (at0 w' spZ rfl rfl rfl) (at0 w' spZ rfl rfl rfl)
  rw [(good_cmpP.eq spZ spZ).2 rfl] at SM
  have hZ : spV spZ pl0 = .agg #[.int .u64 0, .int .u64 0, .int .u64 0, .int .u64 0, .slice none 0 0, .string ⟨#[]⟩, .string ⟨#[]⟩, .int .i64 0, .int .i64 0, .int .i64 0, .int .i64 0, .slice none 0 0, .slice none 0 0] := rfl
  rw [hZ] at SM
  unfold zeroV at DE
  clear hT hZ
  go_enter Tryd.func7, Tryd.ntmps7
  go_wp2_with (first
    | (go_at_call 8; refine (AW w (Below.refl _ _)).mono ?_; clear AW; rintro e w1 ⟨rfl, bw1⟩; obtain ⟨w2, cp, hcv, hH, b2⟩ := SB w1; have bw2 := bw1.trans (b2.mono bw1.size))
    | (go_at_call 16; refine (DE _ bw2 _ cp hH).mono ?_; clear DE hH hcv; rintro e w3 ⟨q, rfl, b3⟩; have bw3 := bw2.trans (b3.mono bw2.size); have bw4 : Below w.heap.size w (w3.alloc (.cells #[.int .u64 0, .int .u64 0, .int .u64 0, .int .u64 0, .slice none 0 0, .string ⟨#[]⟩, .string ⟨#[]⟩, .int .i64 0, .int .i64 0, .int .i64 0, .int .i64 0, .slice none 0 0, .slice none 0 0] 33)) := bw3.alloc bw3.size _; have Y4 : (w3.alloc (.cells #[.int .u64 0, .int .u64 0, .int .u64 0, .int .u64 0, .slice none 0 0, .string ⟨#[]⟩, .string ⟨#[]⟩, .int .i64 0, .int .i64 0, .int .i64 0, .int .i64 0, .slice none 0 0, .slice none 0 0] 33)).heap[w3.heap.size]? = some (.cells #[.int .u64 0, .int .u64 0, .int .u64 0, .int .u64 0, .slice none 0 0, .string ⟨#[]⟩, .string ⟨#[]⟩, .int .i64 0, .int .i64 0, .int .i64 0, .int .i64 0, .slice none 0 0, .slice none 0 0] 33 (0, 0)) := heap_alloc_new _ _; have y0 := blk_cell Y4 0 rfl; have y1 := blk_cell Y4 1 rfl; have y2 := blk_cell Y4 2 rfl; have y3 := blk_cell Y4 3 rfl; have y4 := blk_cell Y4 4 rfl; have y5 := blk_cell Y4 5 rfl; have y6 := blk_cell Y4 6 rfl; have y7 := blk_cell Y4 7 rfl; have y8 := blk_cell Y4 8 rfl; have y9 := blk_cell Y4 9 rfl; have y10 := blk_cell Y4 10 rfl; have y11 := blk_cell Y4 11 rfl; have y12 := blk_cell Y4 12 rfl)
    | (go_at_call 10; refine (SM _).mono ?_; clear SM; rintro e w5 ⟨rfl, b5⟩; have bw5 := bw4.trans (b5.mono bw4.size)))
  go_ret
  exact ⟨rfl, bw5⟩
set_option maxRecDepth 100000 in
set_option maxHeartbeats 4000000 in
theorem one_ok (s : ByteArray) (w : World) (hT : Tabs w) (a : Sp) (hs : a.Small) (hf : a.Fits) (hc : chkS a = 0) (hK : encS a = bytesI s)
    (DE : ∀ w', Below w.heap.size w w' → ∀ g cp, Holds w' (some ⟨g, 0, none⟩) s.size (bytesI s) → Calls Tryd.prog 16 #[.slice (some ⟨g, 0, none⟩) s.size cp] w' fun e w2 => ∃ p, e = .returned (.tuple #[spV a p, .nilIface]) ∧ SpAt w2 a p ∧ Below w'.heap.size w' w2) :
    Calls Tryd.prog 7 #[.string s] w fun e w' => e = .returned (.bool true) ∧ Below w.heap.size w w' := by
  have AW := fun w' (h : Below w.heap.size w w') => awake_any w' (hT.below h)
  have SB := str_bytes s
  have CK := fun w' (h : Below w.heap.size w w') p (ha : SpAt w' a p) => check_any a p w' ha hs (hT.below h)
  have EN := fun w' (h : Below w.heap.size w w') p (ha : SpAt w' a p) => encode_ok a p w' ha hs hf (hT.below h) hc
  rw [hc] at CK
  rw [hK, bytesI_length] at EN
  have CV : ∀ w' g, Holds w' (some ⟨g, 0, none⟩) s.size (bytesI s) → (convert 42 9 (.slice (some ⟨g, 0, none⟩) s.size s.size)).run Tryd.prog w' = .ok (.string s) w' := fun w' g h => by
    have := conv_holds h s.size
    rwa [strI_bytesI] at this
  have H2 : ∀ w' g, RowAt w' g (bytesI s) → Holds w' (some ⟨g, 0, none⟩) s.size (bytesI s) := fun w' g h => by
    have := h.holds
    rwa [bytesI_length] at this
  have hbe : (s.toList == s.toList) = true := by simp
  clear hT hs hf hc hK
  unfold spV spC at DE CK EN
  go_enter Tryd.func7, Tryd.ntmps7
  go_wp2_with (first
    | (go_at_call 8; refine (AW w (Below.refl _ _)).mono ?_; clear AW; rintro e w1 ⟨rfl, bw1⟩; obtain ⟨w2, cp, hcv, hH, b2⟩ := SB w1; have bw2 := bw1.trans (b2.mono bw1.size))
    | (go_at_call 16; refine (DE _ bw2 _ cp hH).mono ?_; clear DE hH hcv; rintro e w3 ⟨r, rfl, S3, b3⟩; have bw3 := bw2.trans (b3.mono bw2.size); have b4 : Below w3.heap.size w3 (w3.alloc (.cells #[.int .u64 a.hi, .int .u64 a.lo, .int .u64 a.id, .int .u64 a.par, .slice r.la a.links.length r.lc, .string a.svc, .string a.op, .int .i64 a.kind, .int .i64 a.status, .int .i64 a.start, .int .i64 a.fin, .slice r.aa a.attrs.length r.ac, .slice r.ea a.events.length r.ec] 33)) := (Below.refl _ _).alloc (Nat.le_refl _) _; have bw4 := bw3.trans (b4.mono bw3.size); have S4 := S3.below b4; have Y4 : (w3.alloc (.cells #[.int .u64 a.hi, .int .u64 a.lo, .int .u64 a.id, .int .u64 a.par, .slice r.la a.links.length r.lc, .string a.svc, .string a.op, .int .i64 a.kind, .int .i64 a.status, .int .i64 a.start, .int .i64 a.fin, .slice r.aa a.attrs.length r.ac, .slice r.ea a.events.length r.ec] 33)).heap[w3.heap.size]? = some (.cells #[.int .u64 a.hi, .int .u64 a.lo, .int .u64 a.id, .int .u64 a.par, .slice r.la a.links.length r.lc, .string a.svc, .string a.op, .int .i64 a.kind, .int .i64 a.status, .int .i64 a.start, .int .i64 a.fin, .slice r.aa a.attrs.length r.ac, .slice r.ea a.events.length r.ec] 33 (0, 0)) := heap_alloc_new _ _; have y0 := blk_cell Y4 0 rfl; have y1 := blk_cell Y4 1 rfl; have y2 := blk_cell Y4 2 rfl; have y3 := blk_cell Y4 3 rfl; have y4 := blk_cell Y4 4 rfl; have y5 := blk_cell Y4 5 rfl; have y6 := blk_cell Y4 6 rfl; have y7 := blk_cell Y4 7 rfl; have y8 := blk_cell Y4 8 rfl; have y9 := blk_cell Y4 9 rfl; have y10 := blk_cell Y4 10 rfl; have y11 := blk_cell Y4 11 rfl; have y12 := blk_cell Y4 12 rfl)
    | (go_at_call 15; refine (EN _ bw4 _ S4).mono ?_; clear EN; rintro e w5 ⟨g, rfl, R5, hg5, b5⟩; have bw5 := bw4.trans (b5.mono bw4.size); have Y5 := (b5.block _ (lt_of_block Y4)).trans Y4; have S5 := S4.below b5; have h5 := H2 _ _ R5; clear y0 y1 y2 y3 y4 y5 y6 y7 y8 y9 y10 y11 y12; clear Y4 R5 hg5 S4; have y0 := blk_cell Y5 0 rfl; have y1 := blk_cell Y5 1 rfl; have y2 := blk_cell Y5 2 rfl; have y3 := blk_cell Y5 3 rfl; have y4 := blk_cell Y5 4 rfl; have y5 := blk_cell Y5 5 rfl; have y6 := blk_cell Y5 6 rfl; have y7 := blk_cell Y5 7 rfl; have y8 := blk_cell Y5 8 rfl; have y9 := blk_cell Y5 9 rfl; have y10 := blk_cell Y5 10 rfl; have y11 := blk_cell Y5 11 rfl; have y12 := blk_cell Y5 12 rfl)
    | (go_at_call 13; refine (CK _ bw5 _ S5).mono ?_; clear CK; rintro e w6 ⟨rfl, b6⟩; have bw6 := bw5.trans (b6.mono bw5.size); have cv6 := CV _ _ (holds_below h5 b6); clear y0 y1 y2 y3 y4 y5 y6 y7 y8 y9 y10 y11 y12; clear Y5 h5 S5))
  all_goals go_ret
  all_goals exact ⟨rfl, bw6⟩

theorem one_any (s : ByteArray) (w : World) (hs : s.size ≤ 140737488351232) (hT : Tabs w) :
    Calls Tryd.prog 7 #[.string s] w fun e w' => e = .returned (.bool true) ∧ Below w.heap.size w w' := by
  have hl : s.size ≤ 140737488355328 := by omega
  have hb := bytesI_byte s
  have hsm := span_small (bytesI s) (by rw [bytesI_length]; omega) (some 0)
  have hft := span_fits (bytesI s) hb (some 0)
  cases hE : endP (bytesI s) (spanP (bytesI s) (some 0)).2 with
  | none => exact one_bad s w hT fun w' h g cp hH => decode_bad _ _ cp _ w' hH hl hb (hT.below h) hE
  | some t =>
    by_cases hc : chkS (spanP (bytesI s) (some 0)).1 = 0
    · have hst : (spanP (bytesI s) (some 0)).2 = some (bytesI s).length := by
        cases h : (spanP (bytesI s) (some 0)).2 with
        | none => rw [h] at hE; simp [endP] at hE
        | some u =>
          rw [h] at hE
          simp only [endP] at hE
          split at hE
          · rename_i e; rw [e]
          · simp at hE
      have hone := span_one (bytesI s) hb (spanP (bytesI s) (some 0)).1 (bytesI s).length (by rw [← hst]) (chk_good hc)
      rw [List.drop_length, List.append_nil] at hone
      exact one_ok s w hT _ hsm hft hc hone.symm fun w' h g cp hH => decode_ok _ _ cp _ w' hH hl hb (hT.below h) t hE hsm hc
    · exact one_bad s w hT fun w' h g cp hH => decode_chk _ _ cp _ w' hH hl hb (hT.below h) t hE hsm hc

set_option maxRecDepth 100000 in
set_option maxHeartbeats 1000000 in
theorem contract (H : Type) (enc : TypeId × Value → H) (W : World) (base : Nat) (args : Array Value) (ds gs : List (DataW H)) (before : List MemPlace)
    (hval : ∀ (j : Nat) t v, Tryd.f7.params[j]? = some t → args[j]? = some v → Value.okWide Tryd.prog W .any base t v)
    (hW : DataW.Whole enc Tryd.prog Tryd.f7.params.toList Rows.spanOneSpec.vars false W args.toList ds gs before)
    (hsz : (DataW.weightsEach Tryd.prog Tryd.f7.params.toList ds).all (· ≤ reachBytes) = true) (hT : Tabs W) :
    Calls Tryd.prog 7 args W fun e W' => ∃ v, e = .returned v ∧ Rows.spanOneSpec.post enc Tryd.prog Tryd.f7 false true false false W args v W' := by
  have hW' := hW
  obtain ⟨p, q, hA0, hV, rfl, hfz, hnd⟩ := hW
  have hA : DataW.TrodAll enc Tryd.prog W 0 (fun _ => true) true Tryd.f7.params.toList args.toList ds p := hA0
  rw [Tryd.params7] at hA hval hsz
  obtain ⟨v0, vs0, d0, ds0, p0, q0, hargs, rfl, rfl, h0, r0⟩ := trodAll_cons hA
  obtain ⟨rfl, rfl, rfl⟩ := trodAll_nil r0
  obtain rfl : args = #[v0] := by cases args; simp_all
  obtain ⟨rfl, rfl⟩ := trodVars_none hV
  obtain ⟨s0, rfl, rfl, rfl, hs0⟩ := Go.ChangeMaps.open_string Tryd.underlying9 (hval 0 9 v0 rfl rfl) h0
  have z0 := sized_string (j := 0) hsz rfl rfl
  rw [size_list] at z0
  clear hA0
  simp only [List.append_nil] at hW'
  have walk := one_any s0 W (Nat.le_trans z0 (by decide)) hT
  refine walk.mono fun e W' ⟨he, bel⟩ => ?_
  subst he
  exact ⟨_, rfl, _, _, _, [], _, [], hW', trodAll_mk1 (shut_bool Tryd.underlying4 _), (trodAll_cons_mk (Go.ChangeMaps.shut_string Tryd.underlying9 hs0) trodAll_mk0), rfl, bel.frame _, fun h => by cases h⟩

set_option maxRecDepth 100000 in
theorem laid_met (os : Os) : laidMetH Tryd.prog Rows.spanOneRow.laid ((laying (World.holding Tryd.prog os ⟨#[], #[], []⟩)).forCall (fun _ _ => 0) ⟨#[], #[(.string ByteArray.empty : Value)], []⟩).memory :=
  laidMet_of_run' 8 (by kernel_rfl) (by kernel_rfl)
set_option maxRecDepth 100000 in
theorem reads (os : Os) {H : Type} (enc : TypeId × Value → H) : ∃ places, DataW.whole enc Tryd.prog ((laying (World.holding Tryd.prog os ⟨#[], #[], []⟩)).forCall (fun _ _ => 0) ⟨#[], #[(.string ByteArray.empty : Value)], []⟩).memory Tryd.f7.params.toList Rows.spanOneSpec.vars false #[(.string ByteArray.empty : Value)].toList 8 = some ([.lit (.string [])], [], places) :=
  ⟨[], by kernel_rfl⟩

set_option maxRecDepth 100000 in
theorem lifted (os : Os) (started : os.Started) (H : Type) (enc : TypeId × Value → H) (F : Stop.Interp) :
    ReturnsInHanded {} Tryd.checked os 7 .any ((OpenSpec.ofChange Rows.spanOneSpec).preRow enc Tryd.prog Tryd.f7 Rows.spanOneRow.domain false Rows.spanOneRow.laid) (((OpenSpec.ofChange Rows.spanOneSpec).at F).post enc Tryd.prog Tryd.f7 false true false false) := by
  obtain ⟨places, hx⟩ := reads os enc
  refine returnsInHanded_of_row (C := Tryd.checked) (s := OpenSpec.ofChange Rows.spanOneSpec) ownK started (by kernel_rfl) Tryd.func7
    (witness_row_at (enc := enc) (C := Tryd.checked) false (laying (World.holding Tryd.prog os ⟨#[], #[], []⟩)) #[(.string ByteArray.empty : Value)] rfl (by kernel_rfl) (by kernel_rfl) (by kernel_rfl)
      (OpenSpec.preRow_of_cond 8 hx (by kernel_rfl) (fun k hk => by cases hk) (by kernel_rfl) (laid_met os))) ?_
  intro W base args ds gs before hval hW _ _ hsz0 hL _ _
  have hgs : gs = [] := by obtain ⟨p, q, hA0, hV, _⟩ := hW; exact (trodVars_none hV).1
  have hsz : (DataW.weightsEach Tryd.prog Tryd.f7.params.toList ds).all (· ≤ reachBytes) = true := by
    have h1 : (DataW.weightsEach Tryd.prog (Tryd.f7.params.toList ++ []) (ds ++ gs)).all (· ≤ reachBytes) = true := hsz0
    rw [hgs, List.append_nil, List.append_nil] at h1
    exact h1
  exact contract H enc W base args ds gs before hval hW hsz (tables hL)

theorem said : Rows.SpanOneSaid :=
  OpenClaim.holds_of_cond 7 Tryd.f7 rfl rfl rfl rfl rfl rfl rfl ⟨rfl, rfl, rfl, rfl, rfl⟩ rfl rfl rfl rfl rfl (by kernel_rfl) Tryd.func7 (by kernel_rfl)
    (of_decide_eq_true (by kernel_rfl)) (by unfold Func.isWrapper; first | (rw [if_pos (by decide +kernel)]; kernel_rfl) | (rw [if_neg (by decide +kernel)]; exact ⟨rfl, rfl⟩))
    (fun os started H enc _ F => by rw [OpenClaim.pre_eq_preRow]; exact lifted os started H enc F)

theorem plain (f : FuncId) (fn : Func) (hf : Tryd.pinned.checked.prog.funcNamed "spoor/spoorlaw04.SpanOne" = some f) (hfn : Tryd.pinned.checked.prog.funcs[f]? = some fn) :
    false = Tryd.pinned.checked.prog.looks [] ∧ ∀ (j : Nat) t, fn.params[j]? = some t → Tryd.pinned.checked.prog.wantsStandIn t = false := by
  obtain rfl : f = 7 := Option.some.inj ((show Tryd.prog.funcNamed "spoor/spoorlaw04.SpanOne" = some 7 by kernel_rfl).symm.trans hf) |>.symm
  obtain rfl : fn = Tryd.f7 := (Option.some.inj (Tryd.func7.symm.trans hfn)).symm
  refine ⟨by kernel_rfl, fun j t ht => ?_⟩
  rw [Tryd.params7] at ht
  have hm : t = 9 := by simpa using Array.mem_of_getElem? ht
  subst hm
  exact (show Tryd.prog.wantsStandIn 9 = false by kernel_rfl)
end Go.Proofs.YtioibllopidilaaDoor.spanOne
namespace Go.Proofs.YtioibllopidilaaDoor
theorem spanOne_holds : Rows.SpanOneCardSaid :=
  Claim7.holds_tied_plain_at .later [] _ _ _ _ spanOne.said (fun _ h => by cases h) (by kernel_rfl) (fun _ h => by cases h) spanOne_row_tie rfl ⟨rfl, rfl⟩ (by kernel_rfl) rfl spanOne.plain (by kernel_rfl)
#print axioms spanOne_holds
end Go.Proofs.YtioibllopidilaaDoor
