/-
  FZ.
-/
import Derived.Test.YtipkolmkpfpjjaaGreatDoorFY
namespace Go.Proofs.YtipkolmkpfpjjaaGreatDoor
open Go Go.RowKit
set_option maxRecDepth 100000

theorem takeH {P : Program} {Q : Exit → Act → World → Prop} {md : Region.Mode} {S : World → Prop} {l : List Oper} {i : Nat} {oi : Oper} {v : Value} {fuel : Nat} {listed : Array Bool} {a : Act} {w : World} (hi : l[i]? = some oi)
    (hs : Region.noSelect l.toArray = true) (hf : Region.free md l.toArray listed i = true) (hr : (Region.ready md l.toArray listed).contains i = true)
    (hQ : ∀ c a w, Q (.panic c) (a.put oi.dst v) w → Q (.panic c) a w) (hy : YieldsIf P l.toArray S oi v a) (hS : S w)
    (h : wpAnyH P md l.toArray Q S fuel (listed.setIfInBounds i true) (a.put oi.dst v) w) : wpAnyH P md l.toArray Q S (fuel + 1) listed a w :=
  wpAnyH_take (by simpa using hi) hs hf hr hQ hy hS h
theorem onlyH {P : Program} {Q : Exit → Act → World → Prop} {md : Region.Mode} {S : World → Prop} {l : List Oper} {i : Nat} {oi : Oper} {fuel : Nat} {listed : Array Bool} {a : Act} {w : World} (hi : l[i]? = some oi)
    (hr : Region.ready md l.toArray listed = [i])
    (h : ∀ K : Act → World → Prop, (∀ a' w', S w' ∧ wpAnyH P md l.toArray Q S fuel (listed.setIfInBounds i true) a' w' → K a' w') → if Region.wanted oi (yielded l.toArray a.tmps) = true then Oper.wp P oi a w K Q else K (a.put oi.dst undef) w) : wpAnyH P md l.toArray Q S (fuel + 1) listed a w := by
  refine wpAnyH_all hr (by simp) ?_
  intro j hj
  simp at hj
  subst hj
  have hi' : l.toArray[j]? = some oi := by simpa using hi
  unfold wpOp
  simp only [hi']
  have := h (fun a' w' => S w' ∧ wpAnyH P md l.toArray Q S fuel (listed.setIfInBounds j true) a' w') (fun _ _ h => h)
  split
  · rename_i hw; rw [if_pos hw] at this; exact Or.inl this
  · rename_i hw; rw [if_neg hw] at this; exact this
/-- What comes behind the spots are laid. -/
def Rest (w : World) (X : List Sp) (R : Ending → World → Prop) : Prop := ∀ (wr : World) (f sb : Nat) (Z : List Spot), BuR w wr f sb X X.length Z → Calls Tryz.prog 21 #[.slice (some ⟨sb, 0, none⟩) X.length X.length, .func (.func 22) #[] #[]] wr fun e w2 => e = .returned (.tuple #[]) ∧ Calls Tryz.prog 24 #[.pointer (some ⟨f, 0, none⟩)] w2 fun e w3 => e = .returned (.tuple #[]) ∧ Calls Tryz.prog 25 #[.pointer (some ⟨f, 0, none⟩)] w3 fun e w4 => e = .returned (.tuple #[]) ∧ R (.returned (.tuple #[.pointer (some ⟨f, 0, none⟩), .int .i64 0])) w4
set_option maxHeartbeats 8000000 in
theorem build_ok (ad : Option Addr) (n cap : Nat) (X : List Sp) (P : Nat → Pl) (w : World) (hX : SpsAt w ad n X P) (h1 : OneT X) (hT : Tabs w) (R : Ending → World → Prop) (hR : Rest w X R) :
    Calls Tryz.prog 5 #[.slice ad n cap] w R := by
  have OT := oneTrace_ok ad n cap X P w hX h1 hT
  have hl : X.length = n := hX.len
  have hn : n ≤ 1000 := by rw [← hl]; exact h1.len
  have HX : Hid (SpsAt w ad n X P) := hX
  have HO : Hid (OneT X) := h1
  have HL : Hid (X.length = n) := hl
  have HR : Hid (Rest w X R) := hR
  have ST : Hid (∀ w1 w2 : World, Below w.heap.size w w1 → Below w1.heap.size w1 w2 → Blk w2 w1.heap.size (madeCells (Value.agg zSpotL.toArray).cells (n * 21)) 71 → BuR w (w2.alloc (.cells #[.slice (some ⟨w1.heap.size, 0, none⟩) n n, .slice none 0 0] 68)) w2.heap.size w1.heap.size X 0 (List.replicate n zSpot)) := fun w1 w2 hb1 hb2 hB => by
    have hs1 := hb1.size
    rw [made_spots] at hB
    refine ⟨by rw [hl]; exact Blk.new _ _ _, hB.alloc _, by simp [hl], ((hb1.trans (hb2.mono hs1)).alloc (by have := hb2.size; omega) _), ⟨hs1, hB.lt⟩, fun i h1 h2 h3 => by omega⟩
  clear hX h1 hT hl hR
  go_enter Tryz.func5, Tryz.ntmps5
  go_wp2_with (first
    | (go_at_call 19; refine OT.mono ?_; clear OT; rintro e w1 ⟨rfl, hb1⟩)
    | (at_make; refine wpList_mk rfl _ _ 66 rfl 71 (.agg zSpotL.toArray) 21 248 Tryz.underlying66 infoSp n rfl rfl (by omega) (by unfold maxLen; omega) ?_; intro w2 b2 hb2; have S0 := ST.out w1 w2 hb1 hb2 b2; have HS0 : Hid _ := S0; clear S0 b2))
  obtain ⟨f, hf⟩ : ∃ f, w2.heap.size = f := ⟨_, rfl⟩
  obtain ⟨sb, hsb⟩ : ∃ sb, w1.heap.size = sb := ⟨_, rfl⟩
  rw [hf, hsb] at HS0
  (try rw [hf])
  (try rw [hsb])
  clear hb1 hb2 ST
  go_loopw [17] (fun x wr => ∃ (k : Nat) (Z : List Spot), x = .int .i64 k ∧ k ≤ n ∧ BuR w wr f sb X k Z) (fun x _ => n - (intOf x).toNat)
  case atStart => exact ⟨0, _, rfl, by omega, HS0.out⟩
  case round =>
    obtain ⟨k, Z, rfl, hkn, hB⟩ := hrel
    have HB : Hid (BuR w wr f sb X k Z) := hB
    have c0 : wr.cell? ⟨f, 0, none⟩ = some (.slice (some ⟨sb, 0, none⟩) n n) := by have := hB.head.cell 0 rfl; rwa [HL.out] at this
    clear hB
    by_cases hlt : k < n
    · have hkX : k < X.length := by rw [HL.out]; exact hlt
      have hkZ : k < Z.length := by rw [HB.out.len]; exact hkX
      have SX := HX.out.below HB.out.below
      obtain ⟨b1, o1, rfl, _⟩ := SX.lies (by omega)
      have RG : Hid (wr.rangeAt b1 (o1 + k * 13) (spC X[k] (P k)).toList) := SX.range k hkX
      have HAT : Hid (SpAt wr X[k] (P k)) := SX.each k hkX
      have hG : Hid (X[k].links.length ≤ 1000 ∧ X[k].attrs.length ≤ 1000 ∧ X[k].events.length ≤ 1000) := by
        have hG := chk_good (HO.out.chk _ (List.getElem_mem hkX))
        exact ⟨Nat.le_trans hG.links (by omega), Nat.le_trans hG.attrs (by omega), Nat.le_trans hG.events (by omega)⟩
      have STEP : Hid (∀ w2 w5 w6 p', Below wr.heap.size wr w2 → (∀ w7 : World, (∀ j, w2.heap.size ≤ j → j < w5.heap.size → w7.heap[j]? = w5.heap[j]?) → SpAt w7 X[k] p') → Below w2.heap.size w2 w5 → Blk w6 sb (rowS (Z.set k ⟨X[k], p', ndOf X[k], none, 0, 0⟩)) 71 → Upd (fun j => j = sb) w5 w6 → BuR w w6 f sb X (k + 1) (Z.set k ⟨X[k], p', ndOf X[k], none, 0, 0⟩)) := fun w2 w5 w6 p' hb2 hst hb5 hB6 hu6 => by
        have hs2 := hb2.size
        exact HB.out.step hkX (hb2.trans (hb5.mono hs2)) _ ⟨rfl, rfl, rfl, w2.heap.size, w5.heap.size, by have := HB.out.head.lt; omega, Nat.le_refl _, hst⟩ hB6 hu6
      have HROW : Hid (∀ W, Below wr.heap.size wr W → Blk W sb (rowS Z) 71 ∧ W.cell? ⟨f, 0, none⟩ = some (.slice (some ⟨sb, 0, none⟩) n n)) := fun W hb => ⟨HB.out.row.below hb HB.out.row.lt, (hb.cell (p := ⟨f, 0, none⟩) HB.out.head.lt).trans c0⟩
      obtain ⟨a, ha⟩ : ∃ a, X[k]'hkX = a := ⟨_, rfl⟩
      obtain ⟨p, hp⟩ : ∃ p, P k = p := ⟨_, rfl⟩
      rw [ha, hp] at RG HAT
      rw [ha] at hG STEP
      have BOX : Hid (∀ W, Upd (fun j => j = wr.heap.size) (wr.alloc (.cells zSpL.toArray 42)) W → Below wr.heap.size wr W) := fun W hu => ((Below.refl _ wr).alloc (Nat.le_refl _) _).trans (hu.below (by simp) (fun j hj e => by omega))
      have CLN : Hid (∀ W, Below wr.heap.size wr W → Calls Tryz.prog 20 #[spV a p] W fun e w' => ∃ p', e = .returned (spV a p') ∧ (∀ w5, (∀ k, W.heap.size ≤ k → k < w'.heap.size → w5.heap[k]? = w'.heap[k]?) → SpAt w5 a p') ∧ Below W.heap.size W w') := fun W hb => clone_any a p W (SpAt.below HAT.out hb) hG.out.1 hG.out.2.1 hG.out.2.2
      unfold spV at CLN
      clear ha hp SX
      go_wp2_with (first
        | (refine wpList_load_mid rfl 42 _ rfl b1 (o1 + k * 13) rfl (spC a p).toList _ RG.out Tryz.underlying42 rfl (by kernel_rfl) ?_)
        | (refine wpList_stW rfl 42 _ _ rfl wr.heap.size zSpL (spC a p).toList 42 (Blk.new _ _ _) rfl rfl rfl (by kernel_rfl) (spC_one _ _) ?_; intro w3 n3 u3; have hb3 := BOX.out w3 u3; obtain ⟨e0, e1, e2, e3, e4, e5, e6, e7, e8, e9, e10, e11, e12⟩ := sp_cells n3; obtain ⟨_, d0⟩ := HROW.out w3 hb3; have HN3 : Hid (Blk w3 wr.heap.size (spC a p).toList.toArray 42) := n3; have HB3 : Hid (Below wr.heap.size wr w3) := hb3; have CL := CLN.out w3.drew hb3.drew; clear n3 u3 hb3))
      refine wp_region_held (S := fun W => W.cell? ⟨f, 0, none⟩ = some (.slice (some ⟨sb, 0, none⟩) n n) ∧ W.rangeAt wr.heap.size 0 (spC a p).toList) (by kernel_rfl) ?_
      change wpAnyH _ _ _ _ _ _ _ _ (World.drew _)
      have hS0 : w3.drew.cell? ⟨f, 0, none⟩ = some (.slice (some ⟨sb, 0, none⟩) n n) ∧ w3.drew.rangeAt wr.heap.size 0 (spC a p).toList := ⟨d0, fun j v hv => by rw [Nat.zero_add]; exact Blk.cell HN3.out j (by rw [List.getElem?_toArray]; exact hv)⟩
      refine takeH (i := 0) (v := .pointer (some ⟨f, 0, none⟩)) rfl (by kernel_rfl) (by kernel_rfl) (by kernel_rfl) (fun _ _ _ h => h) (Or.inl ⟨by rfl, fun W hW => by go_simp⟩) hS0 ?_
      simp only [Act.put, List.setIfInBounds_toArray, List.set_cons_zero, List.set_cons_succ]
      refine takeH (i := 1) (v := .pointer (some ⟨f, 0, none⟩)) rfl (by kernel_rfl) (by kernel_rfl) (by kernel_rfl) (fun _ _ _ h => h) (Or.inl ⟨by rfl, fun W hW => by go_simp⟩) hS0 ?_
      simp only [Act.put, List.setIfInBounds_toArray, List.set_cons_zero, List.set_cons_succ]
      refine takeH (i := 2) (v := .pointer (some ⟨f, 0, none⟩)) rfl (by kernel_rfl) (by kernel_rfl) (by kernel_rfl) (fun _ _ _ h => h) (Or.inl ⟨by rfl, fun W hW => by go_simp⟩) hS0 ?_
      simp only [Act.put, List.setIfInBounds_toArray, List.set_cons_zero, List.set_cons_succ]
      refine takeH (i := 3) (v := .slice (some ⟨sb, 0, none⟩) n n) rfl (by kernel_rfl) (by kernel_rfl) (by kernel_rfl) (fun _ _ _ h => h) (Or.inl ⟨by rfl, fun W hW => by obtain ⟨hW1, -⟩ := hW; go_simp⟩) hS0 ?_
      simp only [Act.put, List.setIfInBounds_toArray, List.set_cons_zero, List.set_cons_succ]
      refine takeH (i := 4) (v := .int .i64 k) rfl (by kernel_rfl) (by kernel_rfl) (by kernel_rfl) (fun _ _ _ h => h) (Or.inl ⟨by rfl, fun W hW => by go_simp⟩) hS0 ?_
      simp only [Act.put, List.setIfInBounds_toArray, List.set_cons_zero, List.set_cons_succ]
      refine takeH (i := 5) (v := .agg (spC a p).toList.toArray) rfl (by kernel_rfl) (by kernel_rfl) (by kernel_rfl) (fun _ _ _ h => h) (yieldsIf_load_mid (by rfl) 42 _ rfl wr.heap.size 0 rfl _ _ (fun W hW => hW.2) Tryz.underlying42 rfl (by kernel_rfl)) hS0 ?_
      simp only [Act.put, List.setIfInBounds_toArray, List.set_cons_zero, List.set_cons_succ]
      refine takeH (i := 7) (v := .pointer (some ⟨wr.heap.size, 2, none⟩)) rfl (by kernel_rfl) (by kernel_rfl) (by kernel_rfl) (fun _ _ _ h => h) (Or.inl ⟨by rfl, fun W hW => by go_simp⟩) hS0 ?_
      simp only [Act.put, List.setIfInBounds_toArray, List.set_cons_zero, List.set_cons_succ]
      refine takeH (i := 8) (v := .int .u64 a.id) rfl (by kernel_rfl) (by kernel_rfl) (by kernel_rfl) (fun _ _ _ h => h) (Or.inl ⟨by rfl, fun W hW => by have hW2 : W.cell? ⟨wr.heap.size, 2, none⟩ = some (.int .u64 a.id) := hW.2 2 _ rfl; clear hW; go_simp⟩) hS0 ?_
      simp only [Act.put, List.setIfInBounds_toArray, List.set_cons_zero, List.set_cons_succ]
      refine takeH (i := 9) (v := .agg #[.int .u64 a.id, .int .u64 0, .int .i64 0, .int .u64 0, .int .i64 0, .int .i64 0, .int .i64 0]) rfl (by kernel_rfl) (by kernel_rfl) (by kernel_rfl) (fun _ _ _ h => h) (Or.inl ⟨by rfl, fun W hW => by go_simp⟩) hS0 ?_
      simp only [Act.put, List.setIfInBounds_toArray, List.set_cons_zero, List.set_cons_succ]
      refine onlyH (i := 6) rfl (by kernel_rfl) (fun K hK => ?_)
      go_simp
      go_at_call 20
      (with_reducible refine CL.mono ?_)
      clear CL
      rintro e w5 ⟨p', rfl, hst, hb5'⟩
      have hb5 : Below w3.heap.size w3 w5 := ⟨hb5'.os, hb5'.tape, hb5'.output, hb5'.size, hb5'.block⟩
      obtain ⟨r5, d5⟩ := HROW.out w5 (HB3.out.trans (hb5.mono HB3.out.size))
      have n5 : Blk w5 wr.heap.size (spC a p).toList.toArray 42 := Blk.below HN3.out hb5 (Blk.lt HN3.out)
      have hS5 : w5.cell? ⟨f, 0, none⟩ = some (.slice (some ⟨sb, 0, none⟩) n n) ∧ w5.rangeAt wr.heap.size 0 (spC a p).toList := ⟨d5, fun j v hv => by rw [Nat.zero_add]; exact Blk.cell n5 j (by rw [List.getElem?_toArray]; exact hv)⟩
      refine hK _ _ ⟨hS5, ?_⟩
      clear hK K
      have hlt' : (k : Int) < (n : Int) := by omega
      have hz : (0 : Int) ≤ (k : Int) := by omega
      refine takeH (i := 10) (v := .agg (enS ⟨a, p', ndOf a, none, 0, 0⟩).toArray) rfl (by kernel_rfl) (by kernel_rfl) (by kernel_rfl) (fun _ _ _ h => h) (Or.inl ⟨by rfl, fun W hW => by unfold spC; go_simp; rfl⟩) hS5 ?_
      simp only [Act.put, List.setIfInBounds_toArray, List.set_cons_zero, List.set_cons_succ]
      refine takeH (i := 11) (v := .pointer (some ⟨sb, k * 21, none⟩)) rfl (by kernel_rfl) (by kernel_rfl) (by kernel_rfl) (fun _ _ _ h => h) (Or.inl ⟨by rfl, fun W hW => by go_simp⟩) hS5 ?_
      simp only [Act.put, List.setIfInBounds_toArray, List.set_cons_zero, List.set_cons_succ]
      refine onlyH (i := 12) rfl (by kernel_rfl) (fun K hK => ?_)
      refine step_stS (by rfl) _ _ (by rfl) sb k Z ⟨a, p', ndOf a, none, 0, 0⟩ r5 hkZ (by rfl) (by rfl) ?_
      intro w6 b6 u6
      have HB6 : Hid (BuR w w6 f sb X (k + 1) (Z.set k ⟨a, p', ndOf a, none, 0, 0⟩)) := STEP.out w3 w5 w6 p' HB3.out hst hb5 b6 u6
      have hS6 : w6.cell? ⟨f, 0, none⟩ = some (.slice (some ⟨sb, 0, none⟩) n n) ∧ w6.rangeAt wr.heap.size 0 (spC a p).toList := by
        have hsb := HB.out.lo
        have hsl := HB.out.row.lt
        have n6 : Blk w6 wr.heap.size (spC a p).toList.toArray 42 := n5.upd u6 (fun e => by omega)
        refine ⟨?_, fun j v hv => by rw [Nat.zero_add]; exact Blk.cell n6 j (by rw [List.getElem?_toArray]; exact hv)⟩
        have := HB6.out.head.cell 0 rfl
        rwa [HL.out] at this
      refine hK _ _ ⟨hS6, ?_⟩
      clear hK K hS6 b6 u6 hst hb5 hb5' r5 n5 d5 hS5 hS0
      refine wpAnyH_done (by kernel_rfl) ?_ _
      all_goals
        go_wp2
        go_roundw
        case rel => exact ⟨k + 1, _, by simp, by omega, HB6.out⟩
        case measure => simp [intOf]; omega
    · obtain rfl : k = n := by omega
      have RS := HR.out wr f sb Z (by rw [HL.out]; exact HB.out)
      rw [HL.out] at RS
      go_wp2_with (first
        | (go_at_call 21; refine RS.mono ?_; clear RS; rintro e w2 ⟨rfl, r2⟩)
        | (go_at_call 24; refine r2.mono ?_; clear r2; rintro e w3 ⟨rfl, r3⟩)
        | (go_at_call 25; refine r3.mono ?_; clear r3; rintro e w4 ⟨rfl, r4⟩))
      first
        | exact r4
        | (go_ret2; exact r4)
end Go.Proofs.YtipkolmkpfpjjaaGreatDoor
