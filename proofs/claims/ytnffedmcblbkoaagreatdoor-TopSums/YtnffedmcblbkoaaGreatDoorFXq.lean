/-
  Merged: FX, FY, FZ.
-/
import Derived.Test.YtnffedmcblbkoaaGreatDoorFJq
import Derived.Test.YtnffedmcblbkoaaGreatDoorSA
namespace Go.Proofs.YtnffedmcblbkoaaGreatDoor
open Go Go.RowKit Go.Maps Go.WideMaps
set_option maxRecDepth 100000
def SetAt (w : World) (b : Nat) (S : List Int) : Prop := ∃ D, ownM w 33 b D ∧ (∀ i, u64J i → Maps.has D (ikey i) = decide (i ∈ S)) ∧ Maps.size D = S.length
theorem SetAt.made (w : World) : SetAt (w.alloc (.map #[] 0)) w.heap.size [] := ⟨.map [], World.ownsMap_made w Tryz.prog 33 valR, fun _ _ => rfl, rfl⟩
theorem SetAt.upd {S : Nat → Prop} {w w' : World} {b : Nat} {L : List Int} (h : SetAt w b L) (hu : Upd S w w') (hS : ¬ S b) : SetAt w' b L := by
 obtain ⟨D, h1, h2⟩ := h
 exact ⟨D, h1.upd hu hS, h2⟩
theorem SetAt.lt {w : World} {b : Nat} {L : List Int} (h : SetAt w b L) : b < w.heap.size := by
 obtain ⟨D, h1, _⟩ := h
 exact World.ownsMap.lt h1
theorem SetAt.add {w : World} {b : Nat} {L : List Int} (h : SetAt w b L) {i : Int} (hi : u64J i) (hn : i ∉ L) (hl : L.length < 1000000) : ∃ w', (Instr.mapUpdate 170 (.map (some b)) (.int .u64 i) (.agg #[])).run Tryz.prog w = .ok () w' ∧ SetAt w' b (L ++ [i]) ∧ Upd (fun k => k = b) w w' := by
 obtain ⟨D, h1, h2, h4⟩ := h
 obtain ⟨w', hr, o1, t1⟩ := World.ownsMap.store h1 lawD Tryz.underlying170 (by rw [h4]; unfold maxLen; omega) (key_d i hi) (valR_mk (.agg #[]))
 refine ⟨w', hr, ⟨_, own_tight o1, fun x hx => ?_, ?_⟩, turned_updM t1⟩
 ·by_cases hxi : x = i
  ·subst hxi
   rw [has_put_same (World.ownsMap.isMap h1) (lawD.key (key_d _ hx))]; simp
  ·rw [has_put_other (fun e => hxi (ikey_inj e)), h2 x hx]; simp [hxi]
 ·rw [size_put (World.ownsMap.tidy h1 lawD), h2 i hi, h4]
  simp [hn]
theorem SetAt.len {w : World} {b : Nat} {L : List Int} (h : SetAt w b L) (r : TypeId) : (Builtin.len_ #[170] r #[.map (some b)]).run Tryz.prog w = .ok (.int .i64 L.length) w := by
 obtain ⟨D, h1, h2, h4⟩ := h
 rw [World.ownsMap.len h1 Tryz.underlying170 r, h4]
structure OneT (X : List Sp) : Prop where
 len : X.length ≤ 1000
 chk : ∀ a ∈ X, chkS a = 0
 fits : ∀ a ∈ X, a.Fits
 small : ∀ a ∈ X, a.Small
 tr : ∀ a ∈ X, ∀ b ∈ X, a.hi = b.hi ∧ a.lo = b.lo
 ids : (X.map (fun a => a.id)).Nodup
theorem SpsAt.range {w : World} {b off n : Nat} {X : List Sp} {P : Nat → Pl} (h : SpsAt w (some ⟨b, off, none⟩) n X P) (k : Nat) (hk : k < X.length) : w.rangeAt b (off + k * 13) (spC X[k] (P k)).toList := fun j v hv => by
 obtain ⟨b', o', he, hc⟩ := h.lies (by rw [← h.len]; omega)
 injection he with he
 injection he with h1 h2
 subst h1; subst h2
 exact hc k hk j v (by rw [Array.getElem?_toList] at hv; exact hv)
theorem sp_cells {w : World} {b : Nat} {a : Sp} {p : Pl} {T : TypeId} (h : Blk w b (spC a p).toList.toArray T) : w.cell? ⟨b, 0, none⟩ = some (.int .u64 a.hi) ∧ w.cell? ⟨b, 1, none⟩ = some (.int .u64 a.lo) ∧ w.cell? ⟨b, 2, none⟩ = some (.int .u64 a.id) ∧ w.cell? ⟨b, 3, none⟩ = some (.int .u64 a.par) ∧ w.cell? ⟨b, 4, none⟩ = some (.slice p.la a.links.length p.lc) ∧ w.cell? ⟨b, 5, none⟩ = some (.string a.svc) ∧ w.cell? ⟨b, 6, none⟩ = some (.string a.op) ∧ w.cell? ⟨b, 7, none⟩ = some (.int .i64 a.kind) ∧ w.cell? ⟨b, 8, none⟩ = some (.int .i64 a.status) ∧ w.cell? ⟨b, 9, none⟩ = some (.int .i64 a.start) ∧ w.cell? ⟨b, 10, none⟩ = some (.int .i64 a.fin) ∧ w.cell? ⟨b, 11, none⟩ = some (.slice p.aa a.attrs.length p.ac) ∧ w.cell? ⟨b, 12, none⟩ = some (.slice p.ea a.events.length p.ec) :=
 ⟨h.cell 0 rfl, h.cell 1 rfl, h.cell 2 rfl, h.cell 3 rfl, h.cell 4 rfl, h.cell 5 rfl, h.cell 6 rfl, h.cell 7 rfl, h.cell 8 rfl, h.cell 9 rfl, h.cell 10 rfl, h.cell 11 rfl, h.cell 12 rfl⟩
set_option maxHeartbeats 8000000 in
theorem oneTrace_ok (ad : Option Addr) (n cap : Nat) (X : List Sp) (P : Nat → Pl) (w : World) (hX : SpsAt w ad n X P) (h1 : OneT X) (hT : Tabs w) :
  Calls Tryz.prog 51 #[.slice ad n cap] w fun e w' => e = .returned (.bool true) ∧ Below w.heap.size w w' := by
 have hl : X.length = n := hX.len
 have hn : n ≤ 1000 := by rw [← hl]; exact h1.len
 have HX : Hid (SpsAt w ad n X P) := hX
 have HO : Hid (OneT X) := h1
 have HT : Hid (Tabs w) := hT
 have HL : Hid (X.length = n) := hl
 have hmm := @run_makeMap Tryz.prog
 have S0 : Hid (SetAt (w.alloc (.map #[] 0)) w.heap.size ((X.map (fun a => a.id)).take 0)) := SetAt.made w
 clear hX h1 hT hl
 go_enter Tryz.func51, Tryz.ntmps51
 go_wp2
 go_loopw [12] (fun x wr => ∃ k : Nat, x = .int .i64 k ∧ k ≤ n ∧ SetAt wr w.heap.size ((X.map (fun a => a.id)).take k) ∧ Below w.heap.size w wr) (fun x _ => n - (intOf x).toNat)
 case atStart => exact ⟨0, rfl, by omega, S0.out, (Below.refl _ _).alloc (Nat.le_refl _) _⟩
 case round =>
  obtain ⟨k, rfl, hkn, hset, hb⟩ := hrel
  have HS : Hid (SetAt wr w.heap.size ((X.map (fun a => a.id)).take k)) := hset
  have HB : Hid (Below w.heap.size w wr) := hb
  have LN := fun r => SetAt.len hset r
  clear hset hb
  by_cases hlt : k < n
  ·have hkX : k < X.length := by rw [HL.out]; exact hlt
   have h0X : 0 < X.length := by omega
   have SX := HX.out.below HB.out
   obtain ⟨b1, o1, rfl, _⟩ := SX.lies (by omega)
   have RG : Hid (wr.rangeAt b1 (o1 + k * 13) (spC X[k] (P k)).toList) := SX.range k hkX
   have R0 : Hid (wr.rangeAt b1 (o1 + 0 * 13) (spC X[0] (P 0)).toList) := SX.range 0 h0X
   have hmem := List.getElem_mem hkX
   have htr := HO.out.tr _ hmem _ (List.getElem_mem h0X)
   have HAT : Hid (SpAt wr X[k] (P k)) := SX.each k hkX
   have hsm : Hid (X[k].Small) := HO.out.small _ hmem
   have hck : Hid (chkS X[k] = 0) := HO.out.chk _ hmem
   have hid : Hid (u64J X[k].id) := (HO.out.fits _ hmem).id
   have hnin : Hid (X[k].id ∉ (X.map (fun a => a.id)).take k) := fun hh => by
    obtain ⟨p, hp, hpe⟩ := List.getElem_of_mem hh
    rw [List.getElem_take] at hpe
    have hpk : p < k := by simp at hp; omega
    have := (List.pairwise_iff_getElem.1 HO.out.ids) p k (by simp; omega) (by simp; omega) hpk
    exact this (by rw [hpe]; simp)
   have htk' : (X.map (fun a => a.id)).take (k + 1) = (X.map (fun a => a.id)).take k ++ [X[k].id] := by
    rw [List.take_succ_eq_append_getElem (by simpa using hkX), List.getElem_map]
   have htk : Hid ((X.map (fun a => a.id)).take (k + 1) = (X.map (fun a => a.id)).take k ++ [X[k].id]) := htk'
   clear htk'
   obtain ⟨a, ha⟩ : ∃ a, X[k]'hkX = a := ⟨_, rfl⟩
   obtain ⟨p, hp⟩ : ∃ p, P k = p := ⟨_, rfl⟩
   obtain ⟨a0, ha0⟩ : ∃ a, X[0]'h0X = a := ⟨_, rfl⟩
   rw [ha, hp] at RG HAT
   rw [ha] at hsm hck hid hnin htk
   rw [ha, ha0] at htr
   rw [ha0] at R0
   have z0 : wr.cell? ⟨b1, o1, none⟩ = some (.int .u64 a.hi) := by rw [htr.1]; have := R0.out 0 _ rfl; simpa using this
   have z1 : wr.cell? ⟨b1, o1 + 1, none⟩ = some (.int .u64 a.lo) := by rw [htr.2]; have := R0.out 1 _ rfl; simpa using this
   have NT2 : ∀ W, (binOp .neq 96 (.agg #[.int .u64 a.hi, .int .u64 a.lo]) (.agg #[.int .u64 a.hi, .int .u64 a.lo])).run Tryz.prog W = .ok (.bool false) W := fun W => by rw [run_neq_of (eqI_trace 9998 a.hi a.lo a.hi a.lo W)]; simp
   have hg := guard_trace
   have BOX : Hid (∀ W, Upd (fun j => j = wr.heap.size) (wr.alloc (.cells zSpL.toArray 102)) W → Below w.heap.size w W ∧ Below wr.heap.size wr W ∧ SetAt W w.heap.size ((X.map (fun a => a.id)).take k) ∧ W.cell? ⟨b1, o1, none⟩ = some (.int .u64 a.hi) ∧ W.cell? ⟨b1, o1 + 1, none⟩ = some (.int .u64 a.lo)) := fun W hu => by
    have hs := HB.out.size
    have hb' : Below wr.heap.size wr W := ((Below.refl _ wr).alloc (Nat.le_refl _) _).trans (hu.below (by simp) (fun j hj e => by omega))
    have hlt' := SetAt.lt HS.out
    refine ⟨HB.out.trans (hb'.mono hs), hb', SetAt.upd (S := fun _ => False) HS.out (Upd.ofBelow hb' (fun k h1 h2 => by omega)) (fun h => h), (hb'.cell (p := ⟨b1, o1, none⟩) (World.block_lt_of_cell? wr _ z0)).trans z0, (hb'.cell (p := ⟨b1, o1 + 1, none⟩) (World.block_lt_of_cell? wr _ z1)).trans z1⟩
   have CHK : Hid (∀ W, Below wr.heap.size wr W → Below w.heap.size w W → Calls Tryz.prog 81 #[spV a p] W fun e w' => e = .returned (.int .i64 0) ∧ Below W.heap.size W w') := fun W hb1 hb2 => by
    have := check_any a p W (SpAt.below HAT.out hb1) hsm.out (HT.out.below hb2)
    rw [hck.out] at this
    exact this
   have AFT : Hid (∀ W w5, Blk W wr.heap.size (spC a p).toList.toArray 102 → SetAt W w.heap.size ((X.map (fun a => a.id)).take k) → W.cell? ⟨b1, o1, none⟩ = some (.int .u64 a.hi) → W.cell? ⟨b1, o1 + 1, none⟩ = some (.int .u64 a.lo) → Below w.heap.size w W → Below W.heap.size W w5 → w5.cell? ⟨wr.heap.size, 0, none⟩ = some (.int .u64 a.hi) ∧ w5.cell? ⟨wr.heap.size, 1, none⟩ = some (.int .u64 a.lo) ∧ w5.cell? ⟨wr.heap.size, 2, none⟩ = some (.int .u64 a.id) ∧ w5.cell? ⟨b1, o1, none⟩ = some (.int .u64 a.hi) ∧ w5.cell? ⟨b1, o1 + 1, none⟩ = some (.int .u64 a.lo) ∧ ∃ w6, (Instr.mapUpdate 170 (.map (some w.heap.size)) (.int .u64 a.id) (.agg #[])).run Tryz.prog w5 = .ok () w6 ∧ SetAt w6 w.heap.size ((X.map (fun a => a.id)).take (k + 1)) ∧ Below w.heap.size w w6) := fun W w5 hB hS y0 y1 hb hb5 => by
    have hB5 := hB.below hb5 hB.lt
    have hS5 : SetAt w5 w.heap.size ((X.map (fun a => a.id)).take k) := SetAt.upd (S := fun _ => False) hS (Upd.ofBelow hb5 (fun k h1 h2 => by omega)) (fun h => h)
    obtain ⟨w6, hr, hS6, hu6⟩ := hS5.add hid.out hnin.out (by simp; omega)
    refine ⟨hB5.cell 0 rfl, hB5.cell 1 rfl, hB5.cell 2 rfl, (hb5.cell (p := ⟨b1, o1, none⟩) (World.block_lt_of_cell? W _ y0)).trans y0, (hb5.cell (p := ⟨b1, o1 + 1, none⟩) (World.block_lt_of_cell? W _ y1)).trans y1, w6, hr, by rw [htk.out]; exact hS6, ?_⟩
    exact (hb.trans (hb5.mono hb.size)).trans (hu6.below (by have := hb.size; have := hb5.size; omega) (fun j hj e => by omega))
   clear ha hp ha0 htr hmem SX LN z0 z1
   unfold spV at CHK
   go_wp2_with (first
    | (refine wpList_load_mid rfl 102 _ rfl b1 (o1 + k * 13) rfl (spC a p).toList _ RG.out Tryz.underlying102 rfl (by kernel_rfl) ?_)
    | (refine wpList_stW rfl 102 _ _ rfl wr.heap.size zSpL (spC a p).toList 102 (Blk.new _ _ _) rfl rfl rfl (by kernel_rfl) (spC_one _ _) ?_; intro w2 n2 u2; obtain ⟨hb2, hbw2, hs2, y0, y1⟩ := BOX.out w2 u2; have HN2 : Hid (Blk w2 wr.heap.size (spC a p).toList.toArray 102) := n2; obtain ⟨e0, e1, e2, e3, e4, e5, e6, e7, e8, e9, e10, e11, e12⟩ := sp_cells n2; have CK := CHK.out w2.drew hbw2.drew hb2.drew; have AF := fun w5 h => AFT.out w2 w5 n2 hs2 y0 y1 hb2 h; have HAF : Hid _ := AF; clear n2 u2 AF))
   unfold spC at CK
   have hn0 : 0 < n := by omega
   have hn1 : (0 : Int) < (n : Int) := by omega
   go_region_law (go_simp; go_at_call 81; (with_reducible refine CK.mono ?_); clear CK; rintro e w5 ⟨rfl, hb5⟩; obtain ⟨f0, f1, f2, f3, f4, w6, hr6, hs6, hb6⟩ := HAF.out w5 ⟨hb5.os, hb5.tape, hb5.output, hb5.size, hb5.block⟩; clear HAF hb5)
   all_goals
    go_wp2
    go_roundw
    case rel => exact ⟨k + 1, by simp, by omega, hs6, hb6⟩
    case measure => simp [intOf]; omega
  ·obtain rfl : k = n := by omega
   have hlen : ((X.map (fun a => a.id)).take k).length = k := by simp [HL.out]
   rw [hlen] at LN
   go_wp2
   go_ret
   exact ⟨rfl, HB.out⟩
end Go.Proofs.YtnffedmcblbkoaaGreatDoor
namespace Go.Proofs.YtnffedmcblbkoaaGreatDoor
open Go Go.RowKit
set_option maxRecDepth 100000
def zSpot : Spot := ⟨⟨0, 0, 0, 0, [], ⟨#[]⟩, ⟨#[]⟩, 0, 0, 0, 0, [], []⟩, ⟨none, 0, none, 0, none, 0⟩, ⟨0, 0, 0, 0, 0, 0, 0⟩, none, 0, 0⟩
theorem zSpot_en : enS zSpot = zSpotL := rfl
theorem infoSp : (Tryz.prog.info? 104).map (fun i => (i.zero, i.size, i.bytes)) = some (some (.agg zSpotL.toArray), 21, 248) := by kernel_rfl
theorem made_spots (n : Nat) : madeCells (Value.agg zSpotL.toArray).cells (n * 21) = rowS (List.replicate n zSpot) := by
 have hsz : (rowS (List.replicate n zSpot)).size = n * 21 := by unfold rowS; rw [List.size_toArray, flatS_len]; simp
 have hm : ∀ t, t < n * 21 → (madeCells (Value.agg zSpotL.toArray).cells (n * 21))[t]? = zSpotL[t % 21]? := fun t ht => by
  have hl : t % 21 < zSpotL.length := by show t % 21 < 21; omega
  have h21 : zSpotL.length = 21 := rfl
  simp [madeCells, Value.cells, ht, hl]
  rw [h21]
  simp [hl]
 apply Array.ext_getElem?
 intro t
 by_cases ht : t < n * 21
 ·rw [hm t ht]
  have e : t = t / 21 * 21 + t % 21 := by omega
  unfold rowS
  rw [List.getElem?_toArray]
  conv => rhs; rw [e]
  rw [flatS_get _ (t / 21) (by simp; omega) (t % 21) (by omega)]
  simp [zSpot_en]
 ·rw [Array.getElem?_eq_none (by simp [madeCells]; omega), Array.getElem?_eq_none (by rw [hsz]; omega)]
theorem step_stS {ops : Array Oper} {o : Oper} {a : Act} {w : World} {K : Act → World → Prop} {Q : Exit → Act → World → Prop} {E : Prop} (hgd : o.guard = none) (x y : Operand) (ho : o.op = .store 104 x y) (b i : Nat) (X : List Spot) (s : Spot) (hB : Blk w b (rowS X) 104) (hiX : i < X.length) (hx : a.eval x = .pointer (some ⟨b, i * 21, none⟩)) (hy : a.eval y = .agg (enS s).toArray)
  (h : ∀ w', Blk w' b (rowS (X.set i s)) 104 → Upd (fun k => k = b) w w' → K (a.put o.dst undef) w') : if Region.wanted o (yielded ops a.tmps) = true then Oper.wp Tryz.prog o a w K Q else E := by
 have hw : Region.wanted o (yielded ops a.tmps) = true := by simp [Region.wanted, hgd]
 rw [if_pos hw]
 refine wp_store_mid 104 x y ho b (i * 21) (enS s).toArray hx hy (by rw [List.size_toArray, enS_len]; exact Blk.there hB (i * 21) 21 (by rw [flatS_len]; omega)) (by rw [List.size_toArray, enS_len]; kernel_rfl) (all_oneCell_toArray (enS_one s)) ?_
 refine h _ ?_ (setCells_upd _ _ _ _)
 have := setCells_blk (enS s) (i * 21) (X.flatMap enS) w hB
 rw [flat_put X i hiX s] at this
 exact this
def ndOf (a : Sp) : Nod := ⟨a.id, 0, 0, 0, 0, 0, 0⟩
structure Laid (w : World) (f : Nat) (a : Sp) (z : Spot) : Prop where
 a_ : z.a = a
 nd : z.nd = ndOf a
 kv : z.kv = .slice none 0 0
 at_ : ∃ lo hi, f < lo ∧ hi ≤ w.heap.size ∧ ∀ W : World, (∀ j, lo ≤ j → j < hi → W.heap[j]? = w.heap[j]?) → SpAt W a z.p
theorem Laid.upd {S : Nat → Prop} {w w' : World} {f : Nat} {a : Sp} {z : Spot} (h : Laid w f a z) (hu : Upd S w w') (hS : ∀ j, f < j → j < w.heap.size → ¬ S j) : Laid w' f a z := by
 obtain ⟨lo, hi, h1, h2, h3⟩ := h.at_
 refine ⟨h.a_, h.nd, h.kv, lo, hi, h1, Nat.le_trans h2 hu.size, fun W hW => h3 W fun j hj1 hj2 => ?_⟩
 rw [hW j hj1 hj2, hu.block j (by omega) (hS j (by omega) (by omega))]
structure BuR (w wr : World) (f sb : Nat) (X : List Sp) (k : Nat) (Z : List Spot) : Prop where
 head : Blk wr f #[.slice (some ⟨sb, 0, none⟩) X.length X.length, .slice none 0 0] 92
 row : Blk wr sb (rowS Z) 104
 len : Z.length = X.length
 below : Below w.heap.size w wr
 lo : w.heap.size ≤ sb ∧ sb < f
 done : ∀ i (h1 : i < Z.length) (h2 : i < X.length), i < k → Laid wr f X[i] Z[i]
theorem BuR.step {w wr w5 w6 : World} {f sb k : Nat} {X : List Sp} {Z : List Spot} (h : BuR w wr f sb X k Z) (hk : k < X.length) (hb : Below wr.heap.size wr w5) (z : Spot) (hz : Laid w5 f X[k] z) (hB : Blk w6 sb (rowS (Z.set k z)) 104) (hu : Upd (fun j => j = sb) w5 w6) : BuR w w6 f sb X (k + 1) (Z.set k z) := by
 have hs := hb.size
 have u5 : Upd (fun _ => False) wr w5 := Upd.ofBelow hb (fun k h1 h2 => by omega)
 have hlo := h.lo
 refine ⟨(h.head.below hb h.head.lt).upd hu (fun e => by omega), hB, by simp [h.len], (h.below.trans (hb.mono h.below.size)).trans (hu.below (by have := h.below.size; omega) (fun j hj e => by omega)), hlo, fun i h1 h2 hi => ?_⟩
 by_cases e : k = i
 ·subst e
  simp only [List.getElem_set_self]
  exact hz.upd hu (fun j h1 h2 e => by omega)
 ·simp only [List.getElem_set_ne e]
  exact ((h.done i (by simpa using h1) h2 (by omega)).upd u5 (fun _ _ _ h => h)).upd hu (fun j h1 h2 e => by omega)
theorem rise_unique : ∀ (X Y : List Sp), X.Perm Y → X.Pairwise (fun a b => a.id < b.id) → Y.Pairwise (fun a b => a.id < b.id) → X = Y
 | [], Y, h, _, _ => by rw [List.nil_perm.1 h]
 | x :: r, [], h, _, _ => absurd h.length_eq (by simp)
 | x :: r, y :: s, h, hx, hy => by
  rw [List.pairwise_cons] at hx hy
  have e : x = y := by
   have h1 : x ∈ y :: s := h.mem_iff.1 (by simp)
   have h2 : y ∈ x :: r := h.mem_iff.2 (by simp)
   rcases List.mem_cons.1 h1 with e | m1
   ·exact e
   ·rcases List.mem_cons.1 h2 with e | m2
    ·exact e.symm
    ·have := hx.1 y m2; have := hy.1 x m1; omega
  subst e
  rw [rise_unique r s (List.Perm.cons_inv h) hx.2 hy.2]
theorem pS : (∀ (a : Act) (k : Nat) (v : Value), a.put (some k) v = { a with tmps := a.tmps.setIfInBounds k v }) ∧ (∀ (a : Act) (v : Value), a.put none v = a) ∧ (∀ (l : List Value) (i : Nat) (v : Value), l.toArray.setIfInBounds i v = (l.set i v).toArray) ∧ (∀ (x v : Value) (l : List Value), (x :: l).set 0 v = v :: l) ∧ ∀ (x v : Value) (l : List Value) (n : Nat), (x :: l).set (n + 1) v = x :: l.set n v := ⟨fun _ _ _ => rfl, fun _ _ => rfl, fun _ _ _ => List.setIfInBounds_toArray .., fun _ _ _ => rfl, fun _ _ _ _ => rfl⟩
theorem takeH {P : Program} {Q : Exit → Act → World → Prop} {md : Region.Mode} {S : World → Prop} {l : List Oper} {i : Nat} {oi : Oper} {v : Value} {fuel : Nat} {listed : Array Bool} {a : Act} {w : World} (hi : l[i]? = some oi)
  (hs : Region.noSelect l.toArray = true) (hf : Region.free md l.toArray listed i = true) (hr : (Region.ready md l.toArray listed).contains i = true)
  (hQ : ∀ c a w, Q (.panic c) (a.put oi.dst v) w → Q (.panic c) a w) (hy : YieldsIf P l.toArray S oi v a) (hS : S w)
  (h : wpAnyH P md l.toArray Q S fuel (listed.setIfInBounds i true) (a.put oi.dst v) w) : wpAnyH P md l.toArray Q S (fuel + 1) listed a w :=
 wpAnyH_take (by simpa using hi) hs hf hr hQ hy hS h
theorem onlyH {P : Program} {Q : Exit → Act → World → Prop} {md : Region.Mode} {S : World → Prop} {l : List Oper} {i : Nat} {oi : Oper} {fuel : Nat} {listed : Array Bool} {a : Act} {w : World} (hi : l[i]? = some oi)
  (hr : Region.ready md l.toArray listed = [i])
  (h : ∀ K : Act → World → Prop, (∀ a' w', S w' ∧ wpAnyH P md l.toArray Q S fuel (listed.setIfInBounds i true) a' w' → K a' w') → if Region.wanted oi (yielded l.toArray a.tmps) = true then Oper.wp P oi a w K Q else K (a.put oi.dst undef) w) : wpAnyH P md l.toArray Q S (fuel + 1) listed a w := by
 refine wpAnyH_all hr (by simp) ?_
 intro j hj
 simp at hj
 subst hj
 have hi' : l.toArray[j]? = some oi := by simpa using hi
 unfold wpOp
 simp only [hi']
 have := h (fun a' w' => S w' ∧ wpAnyH P md l.toArray Q S fuel (listed.setIfInBounds j true) a' w') (fun _ _ h => h)
 split
 ·rename_i hw; rw [if_pos hw] at this; exact Or.inl this
 ·rename_i hw; rw [if_neg hw] at this; exact this
def Rest (w : World) (X : List Sp) (R : Ending → World → Prop) : Prop := ∀ (wr : World) (f sb : Nat) (Z : List Spot), BuR w wr f sb X X.length Z → Calls Tryz.prog 53 #[.slice (some ⟨sb, 0, none⟩) X.length X.length, .func (.func 54) #[] #[]] wr fun e w2 => e = .returned (.tuple #[]) ∧ Calls Tryz.prog 55 #[.pointer (some ⟨f, 0, none⟩)] w2 fun e w3 => e = .returned (.tuple #[]) ∧ Calls Tryz.prog 56 #[.pointer (some ⟨f, 0, none⟩)] w3 fun e w4 => e = .returned (.tuple #[]) ∧ R (.returned (.tuple #[.pointer (some ⟨f, 0, none⟩), .int .i64 0])) w4
set_option maxHeartbeats 8000000 in
theorem build_ok (ad : Option Addr) (n cap : Nat) (X : List Sp) (P : Nat → Pl) (w : World) (hX : SpsAt w ad n X P) (h1 : OneT X) (hT : Tabs w) (R : Ending → World → Prop) (hR : Rest w X R) :
  Calls Tryz.prog 27 #[.slice ad n cap] w R := by
 have OT := oneTrace_ok ad n cap X P w hX h1 hT
 have hl : X.length = n := hX.len
 have hn : n ≤ 1000 := by rw [← hl]; exact h1.len
 have HX : Hid (SpsAt w ad n X P) := hX
 have HO : Hid (OneT X) := h1
 have HL : Hid (X.length = n) := hl
 have HR : Hid (Rest w X R) := hR
 have ST : Hid (∀ w1 w2 : World, Below w.heap.size w w1 → Below w1.heap.size w1 w2 → Blk w2 w1.heap.size (madeCells (Value.agg zSpotL.toArray).cells (n * 21)) 104 → BuR w (w2.alloc (.cells #[.slice (some ⟨w1.heap.size, 0, none⟩) n n, .slice none 0 0] 92)) w2.heap.size w1.heap.size X 0 (List.replicate n zSpot)) := fun w1 w2 hb1 hb2 hB => by
  have hs1 := hb1.size
  rw [made_spots] at hB
  refine ⟨by rw [hl]; exact Blk.new _ _ _, hB.alloc _, by simp [hl], ((hb1.trans (hb2.mono hs1)).alloc (by have := hb2.size; omega) _), ⟨hs1, hB.lt⟩, fun i h1 h2 h3 => by omega⟩
 clear hX h1 hT hl hR
 go_enter Tryz.func27, Tryz.ntmps27
 go_wp2_with (first
  | (go_at_call 51; refine OT.mono ?_; clear OT; rintro e w1 ⟨rfl, hb1⟩)
  | (at_make; refine wpList_mk rfl _ _ 89 rfl 104 (.agg zSpotL.toArray) 21 248 Tryz.underlying89 infoSp n rfl rfl (by omega) (by unfold maxLen; omega) ?_; intro w2 b2 hb2; have S0 := ST.out w1 w2 hb1 hb2 b2; have HS0 : Hid _ := S0; clear S0 b2))
 obtain ⟨f, hf⟩ : ∃ f, w2.heap.size = f := ⟨_, rfl⟩
 obtain ⟨sb, hsb⟩ : ∃ sb, w1.heap.size = sb := ⟨_, rfl⟩
 rw [hf, hsb] at HS0
 (try rw [hf])
 (try rw [hsb])
 clear hb1 hb2 ST
 go_loopw [17] (fun x wr => ∃ (k : Nat) (Z : List Spot), x = .int .i64 k ∧ k ≤ n ∧ BuR w wr f sb X k Z) (fun x _ => n - (intOf x).toNat)
 case atStart => exact ⟨0, _, rfl, by omega, HS0.out⟩
 case round =>
  obtain ⟨k, Z, rfl, hkn, hB⟩ := hrel
  have HB : Hid (BuR w wr f sb X k Z) := hB
  have c0 : wr.cell? ⟨f, 0, none⟩ = some (.slice (some ⟨sb, 0, none⟩) n n) := by have := hB.head.cell 0 rfl; rwa [HL.out] at this
  clear hB
  by_cases hlt : k < n
  ·have hkX : k < X.length := by rw [HL.out]; exact hlt
   have hkZ : k < Z.length := by rw [HB.out.len]; exact hkX
   have SX := HX.out.below HB.out.below
   obtain ⟨b1, o1, rfl, _⟩ := SX.lies (by omega)
   have RG : Hid (wr.rangeAt b1 (o1 + k * 13) (spC X[k] (P k)).toList) := SX.range k hkX
   have HAT : Hid (SpAt wr X[k] (P k)) := SX.each k hkX
   have hG : Hid (X[k].links.length ≤ 1000 ∧ X[k].attrs.length ≤ 1000 ∧ X[k].events.length ≤ 1000) := by
    have hG := chk_good (HO.out.chk _ (List.getElem_mem hkX))
    exact ⟨Nat.le_trans hG.links (by omega), Nat.le_trans hG.attrs (by omega), Nat.le_trans hG.events (by omega)⟩
   have STEP : Hid (∀ w2 w5 w6 p', Below wr.heap.size wr w2 → (∀ w7 : World, (∀ j, w2.heap.size ≤ j → j < w5.heap.size → w7.heap[j]? = w5.heap[j]?) → SpAt w7 X[k] p') → Below w2.heap.size w2 w5 → Blk w6 sb (rowS (Z.set k ⟨X[k], p', ndOf X[k], none, 0, 0⟩)) 104 → Upd (fun j => j = sb) w5 w6 → BuR w w6 f sb X (k + 1) (Z.set k ⟨X[k], p', ndOf X[k], none, 0, 0⟩)) := fun w2 w5 w6 p' hb2 hst hb5 hB6 hu6 => by
    have hs2 := hb2.size
    exact HB.out.step hkX (hb2.trans (hb5.mono hs2)) _ ⟨rfl, rfl, rfl, w2.heap.size, w5.heap.size, by have := HB.out.head.lt; omega, Nat.le_refl _, hst⟩ hB6 hu6
   have HROW : Hid (∀ W, Below wr.heap.size wr W → Blk W sb (rowS Z) 104 ∧ W.cell? ⟨f, 0, none⟩ = some (.slice (some ⟨sb, 0, none⟩) n n)) := fun W hb => ⟨HB.out.row.below hb HB.out.row.lt, (hb.cell (p := ⟨f, 0, none⟩) HB.out.head.lt).trans c0⟩
   obtain ⟨a, ha⟩ : ∃ a, X[k]'hkX = a := ⟨_, rfl⟩
   obtain ⟨p, hp⟩ : ∃ p, P k = p := ⟨_, rfl⟩
   rw [ha, hp] at RG HAT
   rw [ha] at hG STEP
   have BOX : Hid (∀ W, Upd (fun j => j = wr.heap.size) (wr.alloc (.cells zSpL.toArray 102)) W → Below wr.heap.size wr W) := fun W hu => ((Below.refl _ wr).alloc (Nat.le_refl _) _).trans (hu.below (by simp) (fun j hj e => by omega))
   have CLN : Hid (∀ W, Below wr.heap.size wr W → Calls Tryz.prog 52 #[spV a p] W fun e w' => ∃ p', e = .returned (spV a p') ∧ (∀ w5, (∀ k, W.heap.size ≤ k → k < w'.heap.size → w5.heap[k]? = w'.heap[k]?) → SpAt w5 a p') ∧ Below W.heap.size W w') := fun W hb => clone_any a p W (SpAt.below HAT.out hb) hG.out.1 hG.out.2.1 hG.out.2.2
   unfold spV at CLN
   clear ha hp SX
   go_wp2_with (first
    | (refine wpList_load_mid rfl 102 _ rfl b1 (o1 + k * 13) rfl (spC a p).toList _ RG.out Tryz.underlying102 rfl (by kernel_rfl) ?_)
    | (refine wpList_stW rfl 102 _ _ rfl wr.heap.size zSpL (spC a p).toList 102 (Blk.new _ _ _) rfl rfl rfl (by kernel_rfl) (spC_one _ _) ?_; intro w3 n3 u3; have hb3 := BOX.out w3 u3; obtain ⟨e0, e1, e2, e3, e4, e5, e6, e7, e8, e9, e10, e11, e12⟩ := sp_cells n3; obtain ⟨_, d0⟩ := HROW.out w3 hb3; have HN3 : Hid (Blk w3 wr.heap.size (spC a p).toList.toArray 102) := n3; have HB3 : Hid (Below wr.heap.size wr w3) := hb3; have CL := CLN.out w3.drew hb3.drew; clear n3 u3 hb3))
   refine wp_region_held (S := fun W => W.cell? ⟨f, 0, none⟩ = some (.slice (some ⟨sb, 0, none⟩) n n) ∧ W.rangeAt wr.heap.size 0 (spC a p).toList) (by kernel_rfl) ?_
   change wpAnyH _ _ _ _ _ _ _ _ (World.drew _)
   have hS0 : w3.drew.cell? ⟨f, 0, none⟩ = some (.slice (some ⟨sb, 0, none⟩) n n) ∧ w3.drew.rangeAt wr.heap.size 0 (spC a p).toList := ⟨d0, fun j v hv => by rw [Nat.zero_add]; exact Blk.cell HN3.out j (by rw [List.getElem?_toArray]; exact hv)⟩
   refine takeH (i := 0) (v := .pointer (some ⟨f, 0, none⟩)) rfl (by kernel_rfl) (by kernel_rfl) (by kernel_rfl) (fun _ _ _ h => h) (Or.inl ⟨by rfl, fun W hW => by go_simp⟩) hS0 ?_
   simp only [pS]
   refine takeH (i := 1) (v := .pointer (some ⟨f, 0, none⟩)) rfl (by kernel_rfl) (by kernel_rfl) (by kernel_rfl) (fun _ _ _ h => h) (Or.inl ⟨by rfl, fun W hW => by go_simp⟩) hS0 ?_
   simp only [pS]
   refine takeH (i := 2) (v := .pointer (some ⟨f, 0, none⟩)) rfl (by kernel_rfl) (by kernel_rfl) (by kernel_rfl) (fun _ _ _ h => h) (Or.inl ⟨by rfl, fun W hW => by go_simp⟩) hS0 ?_
   simp only [pS]
   refine takeH (i := 3) (v := .slice (some ⟨sb, 0, none⟩) n n) rfl (by kernel_rfl) (by kernel_rfl) (by kernel_rfl) (fun _ _ _ h => h) (Or.inl ⟨by rfl, fun W hW => by obtain ⟨hW1, -⟩ := hW; go_simp⟩) hS0 ?_
   simp only [pS]
   refine takeH (i := 4) (v := .int .i64 k) rfl (by kernel_rfl) (by kernel_rfl) (by kernel_rfl) (fun _ _ _ h => h) (Or.inl ⟨by rfl, fun W hW => by go_simp⟩) hS0 ?_
   simp only [pS]
   refine takeH (i := 5) (v := .agg (spC a p).toList.toArray) rfl (by kernel_rfl) (by kernel_rfl) (by kernel_rfl) (fun _ _ _ h => h) (yieldsIf_load_mid (by rfl) 102 _ rfl wr.heap.size 0 rfl _ _ (fun W hW => hW.2) Tryz.underlying102 rfl (by kernel_rfl)) hS0 ?_
   simp only [pS]
   refine takeH (i := 7) (v := .pointer (some ⟨wr.heap.size, 2, none⟩)) rfl (by kernel_rfl) (by kernel_rfl) (by kernel_rfl) (fun _ _ _ h => h) (Or.inl ⟨by rfl, fun W hW => by go_simp⟩) hS0 ?_
   simp only [pS]
   refine takeH (i := 8) (v := .int .u64 a.id) rfl (by kernel_rfl) (by kernel_rfl) (by kernel_rfl) (fun _ _ _ h => h) (Or.inl ⟨by rfl, fun W hW => by have hW2 : W.cell? ⟨wr.heap.size, 2, none⟩ = some (.int .u64 a.id) := hW.2 2 _ rfl; clear hW; go_simp⟩) hS0 ?_
   simp only [pS]
   refine takeH (i := 9) (v := .agg #[.int .u64 a.id, .int .u64 0, .int .i64 0, .int .u64 0, .int .i64 0, .int .i64 0, .int .i64 0]) rfl (by kernel_rfl) (by kernel_rfl) (by kernel_rfl) (fun _ _ _ h => h) (Or.inl ⟨by rfl, fun W hW => by go_simp⟩) hS0 ?_
   simp only [pS]
   refine onlyH (i := 6) rfl (by kernel_rfl) (fun K hK => ?_)
   go_simp
   go_at_call 52
   (with_reducible refine CL.mono ?_)
   clear CL
   rintro e w5 ⟨p', rfl, hst, hb5'⟩
   have hb5 : Below w3.heap.size w3 w5 := ⟨hb5'.os, hb5'.tape, hb5'.output, hb5'.size, hb5'.block⟩
   obtain ⟨r5, d5⟩ := HROW.out w5 (HB3.out.trans (hb5.mono HB3.out.size))
   have n5 : Blk w5 wr.heap.size (spC a p).toList.toArray 102 := Blk.below HN3.out hb5 (Blk.lt HN3.out)
   have hS5 : w5.cell? ⟨f, 0, none⟩ = some (.slice (some ⟨sb, 0, none⟩) n n) ∧ w5.rangeAt wr.heap.size 0 (spC a p).toList := ⟨d5, fun j v hv => by rw [Nat.zero_add]; exact Blk.cell n5 j (by rw [List.getElem?_toArray]; exact hv)⟩
   refine hK _ _ ⟨hS5, ?_⟩
   clear hK K
   have hlt' : (k : Int) < (n : Int) := by omega
   have hz : (0 : Int) ≤ (k : Int) := by omega
   refine takeH (i := 10) (v := .agg (enS ⟨a, p', ndOf a, none, 0, 0⟩).toArray) rfl (by kernel_rfl) (by kernel_rfl) (by kernel_rfl) (fun _ _ _ h => h) (Or.inl ⟨by rfl, fun W hW => by unfold spC; go_simp; rfl⟩) hS5 ?_
   simp only [pS]
   refine takeH (i := 11) (v := .pointer (some ⟨sb, k * 21, none⟩)) rfl (by kernel_rfl) (by kernel_rfl) (by kernel_rfl) (fun _ _ _ h => h) (Or.inl ⟨by rfl, fun W hW => by go_simp⟩) hS5 ?_
   simp only [pS]
   refine onlyH (i := 12) rfl (by kernel_rfl) (fun K hK => ?_)
   refine step_stS (by rfl) _ _ (by rfl) sb k Z ⟨a, p', ndOf a, none, 0, 0⟩ r5 hkZ (by rfl) (by rfl) ?_
   intro w6 b6 u6
   have HB6 : Hid (BuR w w6 f sb X (k + 1) (Z.set k ⟨a, p', ndOf a, none, 0, 0⟩)) := STEP.out w3 w5 w6 p' HB3.out hst hb5 b6 u6
   have hS6 : w6.cell? ⟨f, 0, none⟩ = some (.slice (some ⟨sb, 0, none⟩) n n) ∧ w6.rangeAt wr.heap.size 0 (spC a p).toList := by
    have hsb := HB.out.lo
    have hsl := HB.out.row.lt
    have n6 : Blk w6 wr.heap.size (spC a p).toList.toArray 102 := n5.upd u6 (fun e => by omega)
    refine ⟨?_, fun j v hv => by rw [Nat.zero_add]; exact Blk.cell n6 j (by rw [List.getElem?_toArray]; exact hv)⟩
    have := HB6.out.head.cell 0 rfl
    rwa [HL.out] at this
   refine hK _ _ ⟨hS6, ?_⟩
   clear hK K hS6 b6 u6 hst hb5 hb5' r5 n5 d5 hS5 hS0
   refine wpAnyH_done (by kernel_rfl) ?_ _
   all_goals
    go_wp2
    go_roundw
    case rel => exact ⟨k + 1, _, by simp, by omega, HB6.out⟩
    case measure => simp [intOf]; omega
  ·obtain rfl : k = n := by omega
   have RS := HR.out wr f sb Z (by rw [HL.out]; exact HB.out)
   rw [HL.out] at RS
   go_wp2_with (first
    | (go_at_call 53; refine RS.mono ?_; clear RS; rintro e w2 ⟨rfl, r2⟩)
    | (go_at_call 55; refine r2.mono ?_; clear r2; rintro e w3 ⟨rfl, r3⟩)
    | (go_at_call 56; refine r3.mono ?_; clear r3; rintro e w4 ⟨rfl, r4⟩))
   first
    | exact r4
    | (go_ret2; exact r4)
end Go.Proofs.YtnffedmcblbkoaaGreatDoor
