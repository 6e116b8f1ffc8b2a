/-
  FX.
-/
import Derived.Test.YtipkolmkpfpjjaaGreatDoorFN
import Derived.Test.YtipkolmkpfpjjaaGreatDoorSA
namespace Go.Proofs.YtipkolmkpfpjjaaGreatDoor
open Go Go.RowKit Go.Maps Go.WideMaps
set_option maxRecDepth 100000

/-- A set of IDs in memory. -/
def SetAt (w : World) (b : Nat) (S : List Int) : Prop := ∃ D, ownM w 35 b D ∧ (∀ i, u64J i → Maps.has D (ikey i) = decide (i ∈ S)) ∧ Maps.size D = S.length
theorem SetAt.made (w : World) : SetAt (w.alloc (.map #[] 0)) w.heap.size [] := ⟨.map [], World.ownsMap_made w Tryz.prog 35 valR, fun _ _ => rfl, rfl⟩
theorem SetAt.upd {S : Nat → Prop} {w w' : World} {b : Nat} {L : List Int} (h : SetAt w b L) (hu : Upd S w w') (hS : ¬ S b) : SetAt w' b L := by
  obtain ⟨D, h1, h2⟩ := h
  exact ⟨D, h1.upd hu hS, h2⟩
theorem SetAt.lt {w : World} {b : Nat} {L : List Int} (h : SetAt w b L) : b < w.heap.size := by
  obtain ⟨D, h1, _⟩ := h
  exact World.ownsMap.lt h1
theorem SetAt.not {w : World} {b c : Nat} {L : List Int} {cs : Array Value} {t : TypeId} (h : SetAt w b L) (hc : Blk w c cs t) : b ≠ c := by
  obtain ⟨D, h1, _⟩ := h
  exact h1.not hc
theorem SetAt.add {w : World} {b : Nat} {L : List Int} (h : SetAt w b L) {i : Int} (hi : u64J i) (hn : i ∉ L) (hl : L.length < 1000000) : ∃ w', (Instr.mapUpdate 91 (.map (some b)) (.int .u64 i) (.agg #[])).run Tryz.prog w = .ok () w' ∧ SetAt w' b (L ++ [i]) ∧ Upd (fun k => k = b) w w' := by
  obtain ⟨D, h1, h2, h4⟩ := h
  obtain ⟨w', hr, o1, t1⟩ := World.ownsMap.store h1 lawD Tryz.underlying91 (by rw [h4]; unfold maxLen; omega) (key_d i hi) (valR_mk (.agg #[]))
  refine ⟨w', hr, ⟨_, own_tight o1, fun x hx => ?_, ?_⟩, turned_updM t1⟩
  · by_cases hxi : x = i
    · subst hxi
      rw [has_put_same (World.ownsMap.isMap h1) (lawD.key (key_d _ hx))]; simp
    · rw [has_put_other (fun e => hxi (ikey_inj e)), h2 x hx]; simp [hxi]
  · rw [size_put (World.ownsMap.tidy h1 lawD), h2 i hi, h4]
    simp [hn]
theorem SetAt.len {w : World} {b : Nat} {L : List Int} (h : SetAt w b L) (r : TypeId) : (Builtin.len_ #[91] r #[.map (some b)]).run Tryz.prog w = .ok (.int .i64 L.length) w := by
  obtain ⟨D, h1, h2, h4⟩ := h
  rw [World.ownsMap.len h1 Tryz.underlying91 r, h4]
/-- Spans of one trace, each of a name of its own. -/
structure OneT (X : List Sp) : Prop where
  len : X.length ≤ 1000
  chk : ∀ a ∈ X, chkS a = 0
  fits : ∀ a ∈ X, a.Fits
  small : ∀ a ∈ X, a.Small
  tr : ∀ a ∈ X, ∀ b ∈ X, a.hi = b.hi ∧ a.lo = b.lo
  ids : (X.map (fun a => a.id)).Nodup
theorem SpsAt.range {w : World} {b off n : Nat} {X : List Sp} {P : Nat → Pl} (h : SpsAt w (some ⟨b, off, none⟩) n X P) (k : Nat) (hk : k < X.length) : w.rangeAt b (off + k * 13) (spC X[k] (P k)).toList := fun j v hv => by
  obtain ⟨b', o', he, hc⟩ := h.lies (by rw [← h.len]; omega)
  injection he with he
  injection he with h1 h2
  subst h1; subst h2
  exact hc k hk j v (by rw [Array.getElem?_toList] at hv; exact hv)
theorem sp_cells {w : World} {b : Nat} {a : Sp} {p : Pl} {T : TypeId} (h : Blk w b (spC a p).toList.toArray T) : w.cell? ⟨b, 0, none⟩ = some (.int .u64 a.hi) ∧ w.cell? ⟨b, 1, none⟩ = some (.int .u64 a.lo) ∧ w.cell? ⟨b, 2, none⟩ = some (.int .u64 a.id) ∧ w.cell? ⟨b, 3, none⟩ = some (.int .u64 a.par) ∧ w.cell? ⟨b, 4, none⟩ = some (.slice p.la a.links.length p.lc) ∧ w.cell? ⟨b, 5, none⟩ = some (.string a.svc) ∧ w.cell? ⟨b, 6, none⟩ = some (.string a.op) ∧ w.cell? ⟨b, 7, none⟩ = some (.int .i64 a.kind) ∧ w.cell? ⟨b, 8, none⟩ = some (.int .i64 a.status) ∧ w.cell? ⟨b, 9, none⟩ = some (.int .i64 a.start) ∧ w.cell? ⟨b, 10, none⟩ = some (.int .i64 a.fin) ∧ w.cell? ⟨b, 11, none⟩ = some (.slice p.aa a.attrs.length p.ac) ∧ w.cell? ⟨b, 12, none⟩ = some (.slice p.ea a.events.length p.ec) :=
  ⟨h.cell 0 rfl, h.cell 1 rfl, h.cell 2 rfl, h.cell 3 rfl, h.cell 4 rfl, h.cell 5 rfl, h.cell 6 rfl, h.cell 7 rfl, h.cell 8 rfl, h.cell 9 rfl, h.cell 10 rfl, h.cell 11 rfl, h.cell 12 rfl⟩
set_option maxHeartbeats 8000000 in
theorem oneTrace_ok (ad : Option Addr) (n cap : Nat) (X : List Sp) (P : Nat → Pl) (w : World) (hX : SpsAt w ad n X P) (h1 : OneT X) (hT : Tabs w) :
    Calls Tryz.prog 19 #[.slice ad n cap] w fun e w' => e = .returned (.bool true) ∧ Below w.heap.size w w' := by
  have hl : X.length = n := hX.len
  have hn : n ≤ 1000 := by rw [← hl]; exact h1.len
  have HX : Hid (SpsAt w ad n X P) := hX
  have HO : Hid (OneT X) := h1
  have HT : Hid (Tabs w) := hT
  have HL : Hid (X.length = n) := hl
  have hmm := @run_makeMap Tryz.prog
  have S0 : Hid (SetAt (w.alloc (.map #[] 0)) w.heap.size ((X.map (fun a => a.id)).take 0)) := SetAt.made w
  clear hX h1 hT hl
  go_enter Tryz.func19, Tryz.ntmps19
  go_wp2
  go_loopw [12] (fun x wr => ∃ k : Nat, x = .int .i64 k ∧ k ≤ n ∧ SetAt wr w.heap.size ((X.map (fun a => a.id)).take k) ∧ Below w.heap.size w wr) (fun x _ => n - (intOf x).toNat)
  case atStart => exact ⟨0, rfl, by omega, S0.out, (Below.refl _ _).alloc (Nat.le_refl _) _⟩
  case round =>
    obtain ⟨k, rfl, hkn, hset, hb⟩ := hrel
    have HS : Hid (SetAt wr w.heap.size ((X.map (fun a => a.id)).take k)) := hset
    have HB : Hid (Below w.heap.size w wr) := hb
    have LN := fun r => SetAt.len hset r
    clear hset hb
    by_cases hlt : k < n
    · have hkX : k < X.length := by rw [HL.out]; exact hlt
      have h0X : 0 < X.length := by omega
      have SX := HX.out.below HB.out
      obtain ⟨b1, o1, rfl, _⟩ := SX.lies (by omega)
      have RG : Hid (wr.rangeAt b1 (o1 + k * 13) (spC X[k] (P k)).toList) := SX.range k hkX
      have R0 : Hid (wr.rangeAt b1 (o1 + 0 * 13) (spC X[0] (P 0)).toList) := SX.range 0 h0X
      have hmem := List.getElem_mem hkX
      have htr := HO.out.tr _ hmem _ (List.getElem_mem h0X)
      have HAT : Hid (SpAt wr X[k] (P k)) := SX.each k hkX
      have hsm : Hid (X[k].Small) := HO.out.small _ hmem
      have hck : Hid (chkS X[k] = 0) := HO.out.chk _ hmem
      have hid : Hid (u64J X[k].id) := (HO.out.fits _ hmem).id
      have hnin : Hid (X[k].id ∉ (X.map (fun a => a.id)).take k) := fun hh => by
        obtain ⟨p, hp, hpe⟩ := List.getElem_of_mem hh
        rw [List.getElem_take] at hpe
        have hpk : p < k := by simp at hp; omega
        have := (List.pairwise_iff_getElem.1 HO.out.ids) p k (by simp; omega) (by simp; omega) hpk
        exact this (by rw [hpe]; simp)
      have htk' : (X.map (fun a => a.id)).take (k + 1) = (X.map (fun a => a.id)).take k ++ [X[k].id] := by
        rw [List.take_succ_eq_append_getElem (by simpa using hkX), List.getElem_map]
      have htk : Hid ((X.map (fun a => a.id)).take (k + 1) = (X.map (fun a => a.id)).take k ++ [X[k].id]) := htk'
      clear htk'
      obtain ⟨a, ha⟩ : ∃ a, X[k]'hkX = a := ⟨_, rfl⟩
      obtain ⟨p, hp⟩ : ∃ p, P k = p := ⟨_, rfl⟩
      obtain ⟨a0, ha0⟩ : ∃ a, X[0]'h0X = a := ⟨_, rfl⟩
      rw [ha, hp] at RG HAT
      rw [ha] at hsm hck hid hnin htk
      rw [ha, ha0] at htr
      rw [ha0] at R0
      have z0 : wr.cell? ⟨b1, o1, none⟩ = some (.int .u64 a.hi) := by rw [htr.1]; have := R0.out 0 _ rfl; simpa using this
      have z1 : wr.cell? ⟨b1, o1 + 1, none⟩ = some (.int .u64 a.lo) := by rw [htr.2]; have := R0.out 1 _ rfl; simpa using this
      have NT2 : ∀ W, (binOp .neq 34 (.agg #[.int .u64 a.hi, .int .u64 a.lo]) (.agg #[.int .u64 a.hi, .int .u64 a.lo])).run Tryz.prog W = .ok (.bool false) W := fun W => by rw [run_neq_of (eqI_trace 9998 a.hi a.lo a.hi a.lo W)]; simp
      have hg := guard_trace
      have BOX : Hid (∀ W, Upd (fun j => j = wr.heap.size) (wr.alloc (.cells zSpL.toArray 42)) W → Below w.heap.size w W ∧ Below wr.heap.size wr W ∧ SetAt W w.heap.size ((X.map (fun a => a.id)).take k) ∧ W.cell? ⟨b1, o1, none⟩ = some (.int .u64 a.hi) ∧ W.cell? ⟨b1, o1 + 1, none⟩ = some (.int .u64 a.lo)) := fun W hu => by
        have hs := HB.out.size
        have hb' : Below wr.heap.size wr W := ((Below.refl _ wr).alloc (Nat.le_refl _) _).trans (hu.below (by simp) (fun j hj e => by omega))
        have hlt' := SetAt.lt HS.out
        refine ⟨HB.out.trans (hb'.mono hs), hb', SetAt.upd (S := fun _ => False) HS.out (Upd.ofBelow hb' (fun k h1 h2 => by omega)) (fun h => h), (hb'.cell (p := ⟨b1, o1, none⟩) (World.block_lt_of_cell? wr _ z0)).trans z0, (hb'.cell (p := ⟨b1, o1 + 1, none⟩) (World.block_lt_of_cell? wr _ z1)).trans z1⟩
      have CHK : Hid (∀ W, Below wr.heap.size wr W → Below w.heap.size w W → Calls Tryz.prog 33 #[spV a p] W fun e w' => e = .returned (.int .i64 0) ∧ Below W.heap.size W w') := fun W hb1 hb2 => by
        have := check_any a p W (SpAt.below HAT.out hb1) hsm.out (HT.out.below hb2)
        rw [hck.out] at this
        exact this
      have AFT : Hid (∀ W w5, Blk W wr.heap.size (spC a p).toList.toArray 42 → SetAt W w.heap.size ((X.map (fun a => a.id)).take k) → W.cell? ⟨b1, o1, none⟩ = some (.int .u64 a.hi) → W.cell? ⟨b1, o1 + 1, none⟩ = some (.int .u64 a.lo) → Below w.heap.size w W → Below W.heap.size W w5 → w5.cell? ⟨wr.heap.size, 0, none⟩ = some (.int .u64 a.hi) ∧ w5.cell? ⟨wr.heap.size, 1, none⟩ = some (.int .u64 a.lo) ∧ w5.cell? ⟨wr.heap.size, 2, none⟩ = some (.int .u64 a.id) ∧ w5.cell? ⟨b1, o1, none⟩ = some (.int .u64 a.hi) ∧ w5.cell? ⟨b1, o1 + 1, none⟩ = some (.int .u64 a.lo) ∧ ∃ w6, (Instr.mapUpdate 91 (.map (some w.heap.size)) (.int .u64 a.id) (.agg #[])).run Tryz.prog w5 = .ok () w6 ∧ SetAt w6 w.heap.size ((X.map (fun a => a.id)).take (k + 1)) ∧ Below w.heap.size w w6) := fun W w5 hB hS y0 y1 hb hb5 => by
        have hB5 := hB.below hb5 hB.lt
        have hS5 : SetAt w5 w.heap.size ((X.map (fun a => a.id)).take k) := SetAt.upd (S := fun _ => False) hS (Upd.ofBelow hb5 (fun k h1 h2 => by omega)) (fun h => h)
        obtain ⟨w6, hr, hS6, hu6⟩ := hS5.add hid.out hnin.out (by simp; omega)
        refine ⟨hB5.cell 0 rfl, hB5.cell 1 rfl, hB5.cell 2 rfl, (hb5.cell (p := ⟨b1, o1, none⟩) (World.block_lt_of_cell? W _ y0)).trans y0, (hb5.cell (p := ⟨b1, o1 + 1, none⟩) (World.block_lt_of_cell? W _ y1)).trans y1, w6, hr, by rw [htk.out]; exact hS6, ?_⟩
        exact (hb.trans (hb5.mono hb.size)).trans (hu6.below (by have := hb.size; have := hb5.size; omega) (fun j hj e => by omega))
      clear ha hp ha0 htr hmem SX LN z0 z1
      unfold spV at CHK
      go_wp2_with (first
        | (refine wpList_load_mid rfl 42 _ rfl b1 (o1 + k * 13) rfl (spC a p).toList _ RG.out Tryz.underlying42 rfl (by kernel_rfl) ?_)
        | (refine wpList_stW rfl 42 _ _ rfl wr.heap.size zSpL (spC a p).toList 42 (Blk.new _ _ _) rfl rfl rfl (by kernel_rfl) (spC_one _ _) ?_; intro w2 n2 u2; obtain ⟨hb2, hbw2, hs2, y0, y1⟩ := BOX.out w2 u2; have HN2 : Hid (Blk w2 wr.heap.size (spC a p).toList.toArray 42) := n2; obtain ⟨e0, e1, e2, e3, e4, e5, e6, e7, e8, e9, e10, e11, e12⟩ := sp_cells n2; have CK := CHK.out w2.drew hbw2.drew hb2.drew; have AF := fun w5 h => AFT.out w2 w5 n2 hs2 y0 y1 hb2 h; have HAF : Hid _ := AF; clear n2 u2 AF))
      unfold spC at CK
      have hn0 : 0 < n := by omega
      have hn1 : (0 : Int) < (n : Int) := by omega
      go_region_law (go_simp; go_at_call 33; (with_reducible refine CK.mono ?_); clear CK; rintro e w5 ⟨rfl, hb5⟩; obtain ⟨f0, f1, f2, f3, f4, w6, hr6, hs6, hb6⟩ := HAF.out w5 ⟨hb5.os, hb5.tape, hb5.output, hb5.size, hb5.block⟩; clear HAF hb5)
      all_goals
        go_wp2
        go_roundw
        case rel => exact ⟨k + 1, by simp, by omega, hs6, hb6⟩
        case measure => simp [intOf]; omega
    · obtain rfl : k = n := by omega
      have hlen : ((X.map (fun a => a.id)).take k).length = k := by simp [HL.out]
      rw [hlen] at LN
      go_wp2
      go_ret
      exact ⟨rfl, HB.out⟩
end Go.Proofs.YtipkolmkpfpjjaaGreatDoor
