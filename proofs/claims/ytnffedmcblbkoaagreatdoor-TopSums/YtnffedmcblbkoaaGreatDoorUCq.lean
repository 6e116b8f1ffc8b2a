/-
  Merged: UC, GM, GN, PQ.
-/
import Derived.Test.YtnffedmcblbkoaaGreatDoorYcq
import Derived.Test.YtnffedmcblbkoaaGreatDoorSOq
import Derived.Test.YtnffedmcblbkoaaGreatDoorMwq
import Derived.Test.YtnffedmcblbkoaaGreatDoorGAq
import Derived.Test.YtnffedmcblbkoaaGreatDoorPIq
import Derived.Test.YtnffedmcblbkoaaGreatDoorOXq
namespace Go.Proofs.YtnffedmcblbkoaaGreatDoor
open Go Go.RowKit
set_option maxRecDepth 100000
theorem infoQ : (Tryz.prog.info? 102).map (fun i => (i.zero, i.size, i.bytes)) = some (some (.agg zSpL.toArray), 13, 168) := by kernel_rfl
abbrev Sq := Sp × Pl
def sqL (x : Sq) : List Value := (spC x.1 x.2).toList
theorem sqL_len (x : Sq) : (sqL x).length = 13 := rfl
theorem sqL_one (x : Sq) : ∀ v ∈ sqL x, v.oneCell' = true := by
 intro v hv
 unfold sqL spC at hv
 simp only [List.mem_cons, List.not_mem_nil, or_false] at hv
 rcases hv with rfl | rfl | rfl | rfl | rfl | rfl | rfl | rfl | rfl | rfl | rfl | rfl | rfl
 all_goals rfl
end Go.Proofs.YtnffedmcblbkoaaGreatDoor
namespace Go.Proofs.YtnffedmcblbkoaaGreatDoor
open Go Go.RowKit Go.Maps Go.WideMaps
set_option maxRecDepth 100000
theorem SetAt.put {w : World} {b : Nat} {L : List Int} (h : SetAt w b L) {i : Int} (hi : u64J i) (hl : L.length < 1000000) : ∃ w', (Instr.mapUpdate 170 (.map (some b)) (.int .u64 i) (.agg #[])).run Tryz.prog w = .ok () w' ∧ SetAt w' b (if i ∈ L then L else L ++ [i]) ∧ Upd (fun k => k = b) w w' := by
 obtain ⟨D, h1, h2, h4⟩ := h
 obtain ⟨w', hr, o1, t1⟩ := World.ownsMap.store h1 lawD Tryz.underlying170 (by rw [h4]; unfold maxLen; omega) (key_d i hi) (valR_mk (.agg #[]))
 refine ⟨w', hr, ⟨_, own_tight o1, fun x hx => ?_, ?_⟩, turned_updM t1⟩
 ·by_cases hxi : x = i
  ·subst hxi
   rw [has_put_same (World.ownsMap.isMap h1) (lawD.key (key_d _ hx))]
   by_cases hm : x ∈ L <;> simp [hm]
  ·rw [has_put_other (fun e => hxi (ikey_inj e)), h2 x hx]
   by_cases hm : i ∈ L <;> simp [hm, hxi]
 ·rw [size_put (World.ownsMap.tidy h1 lawD), h2 i hi, h4]
  by_cases hm : i ∈ L <;> simp [hm]
theorem sub_lenI : ∀ (l m : List Int), l.Nodup → (∀ x ∈ l, x ∈ m) → l.length ≤ m.length
 | [], m, _, _ => Nat.zero_le _
 | a :: r, m, hn, h => by
  have ha := h a (by simp)
  have hn' := List.nodup_cons.1 hn
  have h1 := sub_lenI r (m.erase a) hn'.2 (fun x hx => (List.mem_erase_of_ne (fun e : x = a => hn'.1 (by rw [← e]; exact hx))).2 (h x (by simp [hx])))
  rw [List.length_erase_of_mem ha] at h1
  have := List.length_pos_of_mem ha
  simp only [List.length_cons]
  omega
theorem nodup_of_len : ∀ (l S : List Int), S.Nodup → (∀ x ∈ S, x ∈ l) → S.length = l.length → l.Nodup
 | [], _, _, _, _ => List.nodup_nil
 | a :: r, S, hn, h, e => by
  have h1 : (S.erase a).length ≤ r.length := sub_lenI _ _ (hn.erase a) (fun x hx => by
   have hxa : x ≠ a := fun e => by subst e; exact (List.Nodup.not_mem_erase hn) hx
   rcases List.mem_cons.1 (h x (List.mem_of_mem_erase hx)) with h' | h'
   ·exact absurd h' hxa
   ·exact h')
  have ha : a ∈ S := by
   apply Classical.byContradiction
   intro hna
   have := sub_lenI S r hn (fun x hx => by
    rcases List.mem_cons.1 (h x hx) with h' | h'
    ·subst h'; exact absurd hx hna
    ·exact h')
   simp at e
   omega
  have hel := List.length_erase_of_mem ha
  simp at e
  have hr := nodup_of_len r (S.erase a) (hn.erase a) (fun x hx => by
   have hxa : x ≠ a := fun e => by subst e; exact (List.Nodup.not_mem_erase hn) hx
   rcases List.mem_cons.1 (h x (List.mem_of_mem_erase hx)) with h' | h'
   ·exact absurd h' hxa
   ·exact h') (by omega)
  refine List.nodup_cons.2 ⟨fun har => ?_, hr⟩
  have := sub_lenI S r hn (fun x hx => by
   rcases List.mem_cons.1 (h x hx) with h' | h'
   ·subst h'; exact har
   ·exact h')
  omega
def SetOf (w : World) (b : Nat) (L : List Int) : Prop := ∃ S, SetAt w b S ∧ S.Nodup ∧ (∀ x, x ∈ S ↔ x ∈ L) ∧ S.length ≤ L.length
theorem SetOf.upd {S : Nat → Prop} {w w' : World} {b : Nat} {L : List Int} (h : SetOf w b L) (hu : Upd S w w') (hS : ¬ S b) : SetOf w' b L := by
 obtain ⟨T, h1, h2⟩ := h
 exact ⟨T, h1.upd hu hS, h2⟩
theorem SetOf.lt {w : World} {b : Nat} {L : List Int} (h : SetOf w b L) : b < w.heap.size := by
 obtain ⟨D, h1, _⟩ := h
 exact h1.lt
theorem SetOf.put {w : World} {b : Nat} {L : List Int} (h : SetOf w b L) {i : Int} (hi : u64J i) (hl : L.length < 1000000) : ∃ w', (Instr.mapUpdate 170 (.map (some b)) (.int .u64 i) (.agg #[])).run Tryz.prog w = .ok () w' ∧ SetOf w' b (L ++ [i]) ∧ Upd (fun k => k = b) w w' := by
 obtain ⟨S, h1, h2, h3, h4⟩ := h
 obtain ⟨w', r1, r2, r3⟩ := h1.put hi (by omega)
 refine ⟨w', r1, ⟨_, r2, ?_⟩, r3⟩
 by_cases hm : i ∈ S
 ·rw [if_pos hm]
  refine ⟨h2, fun x => ?_, by simp; omega⟩
  rw [List.mem_append, ← h3]
  constructor
  ·exact Or.inl
  ·rintro (h | h)
   ·exact h
   ·simp at h; subst h; exact hm
 ·rw [if_neg hm]
  refine ⟨?_, fun x => by rw [List.mem_append, List.mem_append, h3], by simp; omega⟩
  rw [List.nodup_append]
  exact ⟨h2, by simp, fun a ha b hb e => by simp at hb; subst hb; subst e; exact hm ha⟩
set_option maxHeartbeats 8000000 in
theorem oneTrace_any (ad : Option Addr) (n cap : Nat) (X : List Sp) (P : Nat → Pl) (w : World) (hX : SpsAt w ad n X P) (hF : ∀ a ∈ X, a.Fits) (hS : ∀ a ∈ X, a.Small) (hT : Tabs w) :
  Calls Tryz.prog 51 #[.slice ad n cap] w fun e w' => ∃ b, e = .returned (.bool b) ∧ (b = true ↔ OneT X) ∧ Below w.heap.size w w' := by
 have hl : X.length = n := hX.len
 have HX : Hid (SpsAt w ad n X P) := hX
 have HF : Hid (∀ a ∈ X, a.Fits) := hF
 have HSM : Hid (∀ a ∈ X, a.Small) := hS
 have HT : Hid (Tabs w) := hT
 have HL : Hid (X.length = n) := hl
 have hmm := @run_makeMap Tryz.prog
 have S0 : Hid (SetOf (w.alloc (.map #[] 0)) w.heap.size ((X.map (fun a => a.id)).take 0)) := ⟨[], SetAt.made w, List.nodup_nil, fun x => Iff.rfl, Nat.le_refl _⟩
 clear hX hF hS hT hl
 by_cases hn : n ≤ 1000
 rotate_left
 ·have hn' : (1000 : Int) < (n : Int) := by omega
  go_enter Tryz.func51, Tryz.ntmps51
  go_wp2
  go_ret
  refine ⟨false, rfl, ⟨fun h => by simp at h, fun h => ?_⟩, Below.refl _ _⟩
  have := h.len
  have := HL.out
  omega
 go_enter Tryz.func51, Tryz.ntmps51
 go_wp2
 go_loopw [12] (fun x wr => ∃ k : Nat, x = .int .i64 k ∧ k ≤ n ∧ SetOf wr w.heap.size ((X.map (fun a => a.id)).take k) ∧ Below w.heap.size w wr ∧ (∀ i (h : i < X.length) (h0 : 0 < X.length), i < k → chkS X[i] = 0 ∧ X[i].hi = X[0].hi ∧ X[i].lo = X[0].lo)) (fun x _ => n - (intOf x).toNat)
 case atStart => exact ⟨0, rfl, by omega, S0.out, (Below.refl _ _).alloc (Nat.le_refl _) _, fun i _ _ h => by omega⟩
 case round =>
  obtain ⟨k, rfl, hkn, hset, hb, hdone⟩ := hrel
  have HDONE : Hid (∀ i (h : i < X.length) (h0 : 0 < X.length), i < k → chkS X[i] = 0 ∧ X[i].hi = X[0].hi ∧ X[i].lo = X[0].lo) := hdone
  have HS : Hid (SetOf wr w.heap.size ((X.map (fun a => a.id)).take k)) := hset
  have HB : Hid (Below w.heap.size w wr) := hb
  clear hset hb hdone
  by_cases hlt : k < n
  ·have hkX : k < X.length := by rw [HL.out]; exact hlt
   have h0X : 0 < X.length := by omega
   have SX := HX.out.below HB.out
   obtain ⟨b1, o1, rfl, _⟩ := SX.lies (by omega)
   have RG : Hid (wr.rangeAt b1 (o1 + k * 13) (spC X[k] (P k)).toList) := SX.range k hkX
   have R0 : Hid (wr.rangeAt b1 (o1 + 0 * 13) (spC X[0] (P 0)).toList) := SX.range 0 h0X
   have hmem := List.getElem_mem hkX
   have HAT : Hid (SpAt wr X[k] (P k)) := SX.each k hkX
   have hsm : Hid (X[k].Small) := HSM.out _ hmem
   have hid : Hid (u64J X[k].id) := (HF.out _ hmem).id
   have htk' : (X.map (fun a => a.id)).take (k + 1) = (X.map (fun a => a.id)).take k ++ [X[k].id] := by
    rw [List.take_succ_eq_append_getElem (by simpa using hkX), List.getElem_map]
   have htk : Hid ((X.map (fun a => a.id)).take (k + 1) = (X.map (fun a => a.id)).take k ++ [X[k].id]) := htk'
   clear htk'
   obtain ⟨a, ha⟩ : ∃ a, X[k]'hkX = a := ⟨_, rfl⟩
   obtain ⟨p, hp⟩ : ∃ p, P k = p := ⟨_, rfl⟩
   obtain ⟨a0, ha0⟩ : ∃ a, X[0]'h0X = a := ⟨_, rfl⟩
   rw [ha, hp] at RG HAT
   rw [ha] at hsm hid htk
   rw [ha0] at R0
   have z0 : wr.cell? ⟨b1, o1, none⟩ = some (.int .u64 a0.hi) := by have := R0.out 0 _ rfl; simpa using this
   have z1 : wr.cell? ⟨b1, o1 + 1, none⟩ = some (.int .u64 a0.lo) := by have := R0.out 1 _ rfl; simpa using this
   have NT2 : ∀ W, (binOp .neq 96 (.agg #[.int .u64 a.hi, .int .u64 a.lo]) (.agg #[.int .u64 a0.hi, .int .u64 a0.lo])).run Tryz.prog W = .ok (.bool (!(decide (a.hi = a0.hi ∧ a.lo = a0.lo)))) W := fun W => run_neq_of (eqI_trace 9998 a.hi a.lo a0.hi a0.lo W)
   have hg := guard_trace
   have BOX : Hid (∀ W, Upd (fun j => j = wr.heap.size) (wr.alloc (.cells zSpL.toArray 102)) W → Below w.heap.size w W ∧ Below wr.heap.size wr W ∧ SetOf W w.heap.size ((X.map (fun a => a.id)).take k) ∧ W.cell? ⟨b1, o1, none⟩ = some (.int .u64 a0.hi) ∧ W.cell? ⟨b1, o1 + 1, none⟩ = some (.int .u64 a0.lo)) := fun W hu => by
    have hs := HB.out.size
    have hb' : Below wr.heap.size wr W := ((Below.refl _ wr).alloc (Nat.le_refl _) _).trans (hu.below (by simp) (fun j hj e => by omega))
    have hlt' := SetOf.lt HS.out
    refine ⟨HB.out.trans (hb'.mono hs), hb', SetOf.upd (S := fun _ => False) HS.out (Upd.ofBelow hb' (fun k h1 h2 => by omega)) (fun h => h), (hb'.cell (p := ⟨b1, o1, none⟩) (World.block_lt_of_cell? wr _ z0)).trans z0, (hb'.cell (p := ⟨b1, o1 + 1, none⟩) (World.block_lt_of_cell? wr _ z1)).trans z1⟩
   have CHK : Hid (∀ W, Below wr.heap.size wr W → Below w.heap.size w W → Calls Tryz.prog 81 #[spV a p] W fun e w' => e = .returned (.int .i64 (chkS a)) ∧ Below W.heap.size W w') := fun W hb1 hb2 => check_any a p W (SpAt.below HAT.out hb1) hsm.out (HT.out.below hb2)
   have AFT : Hid (∀ W w5, Blk W wr.heap.size (spC a p).toList.toArray 102 → SetOf W w.heap.size ((X.map (fun a => a.id)).take k) → W.cell? ⟨b1, o1, none⟩ = some (.int .u64 a0.hi) → W.cell? ⟨b1, o1 + 1, none⟩ = some (.int .u64 a0.lo) → Below w.heap.size w W → Below W.heap.size W w5 → w5.cell? ⟨wr.heap.size, 0, none⟩ = some (.int .u64 a.hi) ∧ w5.cell? ⟨wr.heap.size, 1, none⟩ = some (.int .u64 a.lo) ∧ w5.cell? ⟨wr.heap.size, 2, none⟩ = some (.int .u64 a.id) ∧ w5.cell? ⟨b1, o1, none⟩ = some (.int .u64 a0.hi) ∧ w5.cell? ⟨b1, o1 + 1, none⟩ = some (.int .u64 a0.lo) ∧ ∃ w6, (Instr.mapUpdate 170 (.map (some w.heap.size)) (.int .u64 a.id) (.agg #[])).run Tryz.prog w5 = .ok () w6 ∧ SetOf w6 w.heap.size ((X.map (fun a => a.id)).take (k + 1)) ∧ Below w.heap.size w w6) := fun W w5 hB hS y0 y1 hb hb5 => by
    have hB5 := hB.below hb5 hB.lt
    have hS5 : SetOf w5 w.heap.size ((X.map (fun a => a.id)).take k) := SetOf.upd (S := fun _ => False) hS (Upd.ofBelow hb5 (fun k h1 h2 => by omega)) (fun h => h)
    obtain ⟨w6, hr, hS6, hu6⟩ := hS5.put hid.out (by simp; omega)
    refine ⟨hB5.cell 0 rfl, hB5.cell 1 rfl, hB5.cell 2 rfl, (hb5.cell (p := ⟨b1, o1, none⟩) (World.block_lt_of_cell? W _ y0)).trans y0, (hb5.cell (p := ⟨b1, o1 + 1, none⟩) (World.block_lt_of_cell? W _ y1)).trans y1, w6, hr, by rw [htk.out]; exact hS6, ?_⟩
    exact (hb.trans (hb5.mono hb.size)).trans (hu6.below (by have := hb.size; have := hb5.size; omega) (fun j hj e => by omega))
   have HSAY : Hid (∀ c, chkS a = c → (OneT X → c = 0 ∧ a.hi = a0.hi ∧ a.lo = a0.lo) ∧ (c = 0 ∧ a.hi = a0.hi ∧ a.lo = a0.lo → ∀ i (h : i < X.length) (h0 : 0 < X.length), i < k + 1 → chkS X[i] = 0 ∧ X[i].hi = X[0].hi ∧ X[i].lo = X[0].lo)) := fun c hc => by
    subst hc
    refine ⟨fun h => ?_, fun h i hi h0 hik => ?_⟩
    ·rw [← ha, ← ha0]
     exact ⟨h.chk _ hmem, h.tr _ hmem _ (List.getElem_mem h0X)⟩
    ·by_cases e : i < k
     ·exact HDONE.out i hi h0 e
     ·obtain rfl : i = k := by omega
      rw [ha, ha0]
      exact h
   clear ha hp ha0 hmem SX z0 z1
   obtain ⟨ck, hck⟩ : ∃ c, chkS a = c := ⟨_, rfl⟩
   have HCH : Hid (chkS a = ck) := hck
   rw [hck] at CHK
   clear hck
   by_cases hc0 : ck = 0
   ·subst hc0
    by_cases heq : a.hi = a0.hi ∧ a.lo = a0.lo
    ·have hb1 : decide (a.hi = a0.hi ∧ a.lo = a0.lo) = true := by simp [heq]
     have HEQ : Hid (a.hi = a0.hi ∧ a.lo = a0.lo) := heq
     simp only [hb1, Bool.not_true] at NT2
     clear heq hb1
     unfold spV at CHK
     go_wp2_with (first
      | (refine wpList_load_mid rfl 102 _ rfl b1 (o1 + k * 13) rfl (spC a p).toList _ RG.out Tryz.underlying102 rfl (by kernel_rfl) ?_)
      | (refine wpList_stW rfl 102 _ _ rfl wr.heap.size zSpL (spC a p).toList 102 (Blk.new _ _ _) rfl rfl rfl (by kernel_rfl) (spC_one _ _) ?_; intro w2 n2 u2; obtain ⟨hb2, hbw2, hs2, y0, y1⟩ := BOX.out w2 u2; have HN2 : Hid (Blk w2 wr.heap.size (spC a p).toList.toArray 102) := n2; obtain ⟨e0, e1, e2, e3, e4, e5, e6, e7, e8, e9, e10, e11, e12⟩ := sp_cells n2; have CK := CHK.out w2.drew hbw2.drew hb2.drew; have AF := fun w5 h => AFT.out w2 w5 n2 hs2 y0 y1 hb2 h; have HAF : Hid _ := AF; clear n2 u2 AF))
     unfold spC at CK
     have hn0 : 0 < n := by omega
     have hn1 : (0 : Int) < (n : Int) := by omega
     go_region_law (go_simp; go_at_call 81; (with_reducible refine CK.mono ?_); clear CK; rintro e w5 ⟨rfl, hb5⟩; obtain ⟨f0, f1, f2, f3, f4, w6, hr6, hs6, hb6⟩ := HAF.out w5 ⟨hb5.os, hb5.tape, hb5.output, hb5.size, hb5.block⟩; clear HAF hb5)
     all_goals
      go_wp2
      go_roundw
      case rel => exact ⟨k + 1, by simp, by omega, hs6, hb6, (HSAY.out _ HCH.out).2 ⟨rfl, HEQ.out⟩⟩
      case measure => simp [intOf]; omega
    ·have hb1 : decide (a.hi = a0.hi ∧ a.lo = a0.lo) = false := decide_eq_false heq
     have HEQ : Hid (¬ (a.hi = a0.hi ∧ a.lo = a0.lo)) := heq
     simp only [hb1, Bool.not_false] at NT2
     clear heq hb1
     unfold spV at CHK
     go_wp2_with (first
      | (refine wpList_load_mid rfl 102 _ rfl b1 (o1 + k * 13) rfl (spC a p).toList _ RG.out Tryz.underlying102 rfl (by kernel_rfl) ?_)
      | (refine wpList_stW rfl 102 _ _ rfl wr.heap.size zSpL (spC a p).toList 102 (Blk.new _ _ _) rfl rfl rfl (by kernel_rfl) (spC_one _ _) ?_; intro w2 n2 u2; obtain ⟨hb2, hbw2, hs2, y0, y1⟩ := BOX.out w2 u2; have HN2 : Hid (Blk w2 wr.heap.size (spC a p).toList.toArray 102) := n2; obtain ⟨e0, e1, e2, e3, e4, e5, e6, e7, e8, e9, e10, e11, e12⟩ := sp_cells n2; have CK := CHK.out w2.drew hbw2.drew hb2.drew; have AF := fun w5 h => AFT.out w2 w5 n2 hs2 y0 y1 hb2 h; have HAF : Hid _ := AF; clear n2 u2 AF))
     unfold spC at CK
     have hn0 : 0 < n := by omega
     have hn1 : (0 : Int) < (n : Int) := by omega
     go_region_law (go_simp; go_at_call 81; (with_reducible refine CK.mono ?_); clear CK; rintro e w5 ⟨rfl, hb5⟩; obtain ⟨f0, f1, f2, f3, f4, w6, hr6, hs6, hb6⟩ := HAF.out w5 ⟨hb5.os, hb5.tape, hb5.output, hb5.size, hb5.block⟩; have HB5 : Hid (Below w.heap.size w w5) := hb2.drew.trans (hb5.mono hb2.size); clear HAF hb5)
     all_goals
      go_wp2
      go_ret
      refine ⟨false, rfl, ⟨fun h => by simp at h, fun h => ?_⟩, ?_⟩
      ·exact (HEQ.out ((HSAY.out _ HCH.out).1 h).2).elim
      ·exact HB5.out
   ·have hb1 : (ck != 0) = true := by simpa using hc0
    unfold spV at CHK
    go_wp2_with (first
     | (refine wpList_load_mid rfl 102 _ rfl b1 (o1 + k * 13) rfl (spC a p).toList _ RG.out Tryz.underlying102 rfl (by kernel_rfl) ?_)
     | (refine wpList_stW rfl 102 _ _ rfl wr.heap.size zSpL (spC a p).toList 102 (Blk.new _ _ _) rfl rfl rfl (by kernel_rfl) (spC_one _ _) ?_; intro w2 n2 u2; obtain ⟨hb2, hbw2, hs2, y0, y1⟩ := BOX.out w2 u2; have HN2 : Hid (Blk w2 wr.heap.size (spC a p).toList.toArray 102) := n2; obtain ⟨e0, e1, e2, e3, e4, e5, e6, e7, e8, e9, e10, e11, e12⟩ := sp_cells n2; have CK := CHK.out w2.drew hbw2.drew hb2.drew; have AF := fun w5 h => AFT.out w2 w5 n2 hs2 y0 y1 hb2 h; have HAF : Hid _ := AF; clear n2 u2 AF))
    refine wp_region_held (S := fun W => W.rangeAt wr.heap.size 0 (spC a p).toList) (by kernel_rfl) ?_
    change wpAnyH _ _ _ _ _ _ _ _ (World.drew _)
    have hS : w2.drew.rangeAt wr.heap.size 0 (spC a p).toList := fun j v hv => by rw [Nat.zero_add]; exact Blk.cell HN2.out j (by rw [List.getElem?_toArray]; exact hv)
    refine takeH (i := 0) (v := .agg (spC a p).toList.toArray) rfl (by kernel_rfl) (by kernel_rfl) (by kernel_rfl) (fun _ _ _ h => h) (yieldsIf_load_mid (by rfl) 102 _ rfl wr.heap.size 0 rfl _ _ (fun W hW => hW) Tryz.underlying102 rfl (by kernel_rfl)) hS ?_
    simp only [pS]
    refine onlyH (i := 1) rfl (by kernel_rfl) (fun K hK => ?_)
    go_simp
    go_at_call 81
    (with_reducible refine CK.mono ?_)
    clear CK hS
    rintro e w5 ⟨rfl, hb5'⟩
    have hb5 : Below w2.heap.size w2 w5 := ⟨hb5'.os, hb5'.tape, hb5'.output, hb5'.size, hb5'.block⟩
    have n5 : Blk w5 wr.heap.size (spC a p).toList.toArray 102 := Blk.below HN2.out hb5 (Blk.lt HN2.out)
    have hS : w5.rangeAt wr.heap.size 0 (spC a p).toList := fun j v hv => by rw [Nat.zero_add]; exact Blk.cell n5 j (by rw [List.getElem?_toArray]; exact hv)
    refine hK _ _ ⟨hS, ?_⟩
    clear hK K
    have HB5 : Hid (Below w.heap.size w w5) := hb2.trans (hb5.mono hb2.size)
    refine takeH (i := 2) (v := .bool true) rfl (by kernel_rfl) (by kernel_rfl) (by kernel_rfl) (fun _ _ _ h => h) (Or.inl ⟨by rfl, fun W hW => by go_simp⟩) hS ?_
    simp only [pS]
    refine takeH (i := 3) (v := .bool true) rfl (by kernel_rfl) (by kernel_rfl) (by kernel_rfl) (fun _ _ _ h => h) (Or.inl ⟨by rfl, fun W hW => by go_simp⟩) hS ?_
    simp only [pS]
    refine takeH (i := 4) (v := undef) rfl (by kernel_rfl) (by kernel_rfl) (by kernel_rfl) (fun _ _ _ h => h) (Or.inr ⟨by rfl, rfl⟩) hS ?_
    simp only [pS]
    refine takeH (i := 5) (v := undef) rfl (by kernel_rfl) (by kernel_rfl) (by kernel_rfl) (fun _ _ _ h => h) (Or.inr ⟨by rfl, rfl⟩) hS ?_
    simp only [pS]
    refine takeH (i := 6) (v := undef) rfl (by kernel_rfl) (by kernel_rfl) (by kernel_rfl) (fun _ _ _ h => h) (Or.inr ⟨by rfl, rfl⟩) hS ?_
    simp only [pS]
    refine takeH (i := 7) (v := undef) rfl (by kernel_rfl) (by kernel_rfl) (by kernel_rfl) (fun _ _ _ h => h) (Or.inr ⟨by rfl, rfl⟩) hS ?_
    simp only [pS]
    refine takeH (i := 8) (v := undef) rfl (by kernel_rfl) (by kernel_rfl) (by kernel_rfl) (fun _ _ _ h => h) (Or.inr ⟨by rfl, rfl⟩) hS ?_
    simp only [pS]
    refine takeH (i := 9) (v := undef) rfl (by kernel_rfl) (by kernel_rfl) (by kernel_rfl) (fun _ _ _ h => h) (Or.inr ⟨by rfl, rfl⟩) hS ?_
    simp only [pS]
    refine takeH (i := 10) (v := undef) rfl (by kernel_rfl) (by kernel_rfl) (by kernel_rfl) (fun _ _ _ h => h) (Or.inr ⟨by rfl, rfl⟩) hS ?_
    simp only [pS]
    refine takeH (i := 11) (v := .bool true) rfl (by kernel_rfl) (by kernel_rfl) (by kernel_rfl) (fun _ _ _ h => h) (Or.inl ⟨by rfl, fun W hW => by go_simp⟩) hS ?_
    simp only [pS]
    refine wpAnyH_done (by kernel_rfl) ?_ _
    clear hS n5 hb5 hb5'
    go_wp2
    go_ret
    refine ⟨false, rfl, ⟨fun h => by simp at h, fun h => ?_⟩, ?_⟩
    ·exact absurd ((HSAY.out _ HCH.out).1 h).1 hc0
    ·exact HB5.out
  ·obtain rfl : k = n := by omega
   obtain ⟨S, hs1, hs2, hs3, hs4⟩ := HS.out
   have LN := fun r => SetAt.len hs1 r
   rw [List.take_of_length_le (by simp [HL.out])] at hs3 hs4
   have HSS : Hid (S.Nodup ∧ (∀ x, x ∈ S ↔ x ∈ X.map (fun a => a.id)) ∧ S.length ≤ (X.map (fun a => a.id)).length) := ⟨hs2, hs3, hs4⟩
   have HIFF : Hid (S.length = k ↔ OneT X) := by
    have hll : (X.map (fun a => a.id)).length = k := by simp [HL.out]
    refine ⟨fun e => ⟨by rw [HL.out]; omega, fun a ha => ?_, HF.out, HSM.out, fun a ha b hb => ?_, nodup_of_len _ S hs2 (fun x hx => (hs3 x).1 hx) (by omega)⟩, fun h => ?_⟩
    ·obtain ⟨i, hi, rfl⟩ := List.mem_iff_getElem.1 ha
     exact (HDONE.out i hi (by omega) (by rw [← HL.out]; exact hi)).1
    ·obtain ⟨i, hi, rfl⟩ := List.mem_iff_getElem.1 ha
     obtain ⟨j, hj, rfl⟩ := List.mem_iff_getElem.1 hb
     have q1 := (HDONE.out i hi (by omega) (by rw [← HL.out]; exact hi)).2
     have q2 := (HDONE.out j hj (by omega) (by rw [← HL.out]; exact hj)).2
     exact ⟨q1.1.trans q2.1.symm, q1.2.trans q2.2.symm⟩
    ·have := sub_lenI _ S h.ids (fun x hx => (hs3 x).2 hx)
     omega
   obtain ⟨m, hm⟩ : ∃ m, S.length = m := ⟨_, rfl⟩
   rw [hm] at LN HIFF
   clear hs1 hs2 hs3 hs4 hm HSS
   go_wp2
   go_ret
   exact ⟨_, rfl, ⟨fun h => HIFF.out.1 (by simp at h; omega), fun h => by have := HIFF.out.2 h; simp [this]⟩, HB.out⟩
end Go.Proofs.YtnffedmcblbkoaaGreatDoor
namespace Go.Proofs.YtnffedmcblbkoaaGreatDoor
open Go Go.RowKit
set_option maxRecDepth 100000
theorem rising_of (X : List Sp) (h : (X.map (fun a => a.id)).Nodup) : ∃ Y, X.Perm Y ∧ Y.Pairwise (fun a b => a.id < b.id) := by
 refine ⟨X.mergeSort (fun a b => decide (a.id ≤ b.id)), (List.mergeSort_perm _ _).symm, ?_⟩
 have hs := List.pairwise_mergeSort (le := fun a b : Sp => decide (a.id ≤ b.id)) (fun a b c h1 h2 => by simp at *; omega) (fun a b => by simp; omega) X
 have hn : (X.mergeSort (fun a b => decide (a.id ≤ b.id))).Pairwise (fun a b => a.id ≠ b.id) := by
  have := (((List.mergeSort_perm X (fun a b => decide (a.id ≤ b.id))).map (fun a => a.id)).nodup_iff).2 h
  exact List.pairwise_map.1 this
 exact (hs.and hn).imp (fun {a b} h => by
  have h1 := h.1
  have h2 := h.2
  simp at h1
  omega)
theorem build_no (ad : Option Addr) (n cap : Nat) (X : List Sp) (P : Nat → Pl) (w : World) (hX : SpsAt w ad n X P) (hF : ∀ a ∈ X, a.Fits) (hS : ∀ a ∈ X, a.Small) (hT : Tabs w) (hno : ¬ OneT X) :
  Calls Tryz.prog 27 #[.slice ad n cap] w fun e w' => e = .returned (.tuple #[.pointer none, .int .i64 101]) ∧ Below w.heap.size w w' := by
 have OT := oneTrace_any ad n cap X P w hX hF hS hT
 have HNO : Hid (¬ OneT X) := hno
 clear hX hF hS hT hno
 go_enter Tryz.func27, Tryz.ntmps27
 go_wp2_with (go_at_call 51; refine OT.mono ?_; clear OT; rintro e w1 ⟨b, rfl, hb, hbel⟩; obtain rfl : b = false := (by cases b with | false => rfl | true => exact absurd (hb.1 rfl) HNO.out); clear hb)
 go_ret2
 exact ⟨rfl, hbel⟩
theorem build_total (ad : Option Addr) (n cap : Nat) (X : List Sp) (P : Nat → Pl) (w : World) (hX : SpsAt w ad n X P) (hF : ∀ a ∈ X, a.Fits) (hS : ∀ a ∈ X, a.Small) (hT : Tabs w) :
  Calls Tryz.prog 27 #[.slice ad n cap] w fun e w' => (OneT X ∧ ∃ Y, X.Perm Y ∧ Y.Pairwise (fun a b => a.id < b.id) ∧ Built Y w w' e) ∨ (¬ OneT X ∧ e = .returned (.tuple #[.pointer none, .int .i64 101]) ∧ Below w.heap.size w w') := by
 by_cases h : OneT X
 ·obtain ⟨Y, h1, h2⟩ := rising_of X h.ids
  exact (buildR_any ad n cap X Y P w hX h hT h1 h2).mono fun e w' hb => Or.inl ⟨h, Y, h1, h2, hb⟩
 ·exact (build_no ad n cap X P w hX hF hS hT h).mono fun e w' hb => Or.inr ⟨h, hb⟩
theorem one_perm {X Y : List Sp} (h : OneT X) (hp : X.Perm Y) : OneT Y :=
 ⟨by rw [← hp.length_eq]; exact h.len, fun a ha => h.chk a (hp.mem_iff.2 ha), fun a ha => h.fits a (hp.mem_iff.2 ha), fun a ha => h.small a (hp.mem_iff.2 ha), fun a ha b hb => h.tr a (hp.mem_iff.2 ha) b (hp.mem_iff.2 hb), (hp.map _).nodup_iff.1 h.ids⟩
end Go.Proofs.YtnffedmcblbkoaaGreatDoor
