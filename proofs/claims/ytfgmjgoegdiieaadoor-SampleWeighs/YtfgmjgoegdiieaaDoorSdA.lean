/-
  SdA.
-/
import Derived.Test.YtfgmjgoegdiieaaDoorQsN
import Derived.Test.YtfgmjgoegdiieaaDoorYcq
import Derived.Test.YtfgmjgoegdiieaaDoorSOq
import Derived.Deep.OwnRows
import Derived.Deep.RegionLaw
namespace Go.Proofs.YtfgmjgoegdiieaaDoor
open Go Go.RowKit
set_option maxRecDepth 100000

theorem takeH {P : Program} {Q : Exit → Act → World → Prop} {md : Region.Mode} {S : World → Prop} {l : List Oper} {i : Nat} {oi : Oper} {v : Value} {fuel : Nat} {listed : Array Bool} {a : Act} {w : World} (hi : l[i]? = some oi)
    (hs : Region.noSelect l.toArray = true) (hf : Region.free md l.toArray listed i = true) (hr : (Region.ready md l.toArray listed).contains i = true)
    (hQ : ∀ c a w, Q (.panic c) (a.put oi.dst v) w → Q (.panic c) a w) (hy : YieldsIf P l.toArray S oi v a) (hS : S w)
    (h : wpAnyH P md l.toArray Q S fuel (listed.setIfInBounds i true) (a.put oi.dst v) w) : wpAnyH P md l.toArray Q S (fuel + 1) listed a w :=
  wpAnyH_take (by simpa using hi) hs hf hr hQ hy hS h
theorem onlyH {P : Program} {Q : Exit → Act → World → Prop} {md : Region.Mode} {S : World → Prop} {l : List Oper} {i : Nat} {oi : Oper} {fuel : Nat} {listed : Array Bool} {a : Act} {w : World} (hi : l[i]? = some oi)
    (hr : Region.ready md l.toArray listed = [i])
    (h : ∀ K : Act → World → Prop, (∀ a' w', S w' ∧ wpAnyH P md l.toArray Q S fuel (listed.setIfInBounds i true) a' w' → K a' w') → if Region.wanted oi (yielded l.toArray a.tmps) = true then Oper.wp P oi a w K Q else K (a.put oi.dst undef) w) : wpAnyH P md l.toArray Q S (fuel + 1) listed a w := by
  refine wpAnyH_all hr (by simp) ?_
  intro j hj
  simp at hj
  subst hj
  have hi' : l.toArray[j]? = some oi := by simpa using hi
  unfold wpOp
  simp only [hi']
  have := h (fun a' w' => S w' ∧ wpAnyH P md l.toArray Q S fuel (listed.setIfInBounds j true) a' w') (fun _ _ h => h)
  split
  · rename_i hw; rw [if_pos hw] at this; exact Or.inl this
  · rename_i hw; rw [if_neg hw] at this; exact this
structure OneT (X : List Sp) : Prop where
  len : X.length ≤ 1000
  chk : ∀ a ∈ X, chkS a = 0
  fits : ∀ a ∈ X, a.Fits
  small : ∀ a ∈ X, a.Small
  tr : ∀ a ∈ X, ∀ b ∈ X, a.hi = b.hi ∧ a.lo = b.lo
  ids : (X.map (fun a => a.id)).Nodup
theorem SpsAt.range {w : World} {b off n : Nat} {X : List Sp} {P : Nat → Pl} (h : SpsAt w (some ⟨b, off, none⟩) n X P) (k : Nat) (hk : k < X.length) : w.rangeAt b (off + k * 13) (spC X[k] (P k)).toList := fun j v hv => by
  obtain ⟨b', o', he, hc⟩ := h.lies (by rw [← h.len]; omega)
  injection he with he
  injection he with h1 h2
  subst h1; subst h2
  exact hc k hk j v (by rw [Array.getElem?_toList] at hv; exact hv)
theorem sp_cells {w : World} {b : Nat} {a : Sp} {p : Pl} {T : TypeId} (h : Blk w b (spC a p).toList.toArray T) : w.cell? ⟨b, 0, none⟩ = some (.int .u64 a.hi) ∧ w.cell? ⟨b, 1, none⟩ = some (.int .u64 a.lo) ∧ w.cell? ⟨b, 2, none⟩ = some (.int .u64 a.id) ∧ w.cell? ⟨b, 3, none⟩ = some (.int .u64 a.par) ∧ w.cell? ⟨b, 4, none⟩ = some (.slice p.la a.links.length p.lc) ∧ w.cell? ⟨b, 5, none⟩ = some (.string a.svc) ∧ w.cell? ⟨b, 6, none⟩ = some (.string a.op) ∧ w.cell? ⟨b, 7, none⟩ = some (.int .i64 a.kind) ∧ w.cell? ⟨b, 8, none⟩ = some (.int .i64 a.status) ∧ w.cell? ⟨b, 9, none⟩ = some (.int .i64 a.start) ∧ w.cell? ⟨b, 10, none⟩ = some (.int .i64 a.fin) ∧ w.cell? ⟨b, 11, none⟩ = some (.slice p.aa a.attrs.length p.ac) ∧ w.cell? ⟨b, 12, none⟩ = some (.slice p.ea a.events.length p.ec) :=
  ⟨h.cell 0 rfl, h.cell 1 rfl, h.cell 2 rfl, h.cell 3 rfl, h.cell 4 rfl, h.cell 5 rfl, h.cell 6 rfl, h.cell 7 rfl, h.cell 8 rfl, h.cell 9 rfl, h.cell 10 rfl, h.cell 11 rfl, h.cell 12 rfl⟩
theorem PermOnU.perm {a b : Nat} {L L' : List Int} (h : qs.PermOn a b L L') (hb : b ≤ L.length) : L'.Perm L :=
  h (fun M => M.Perm L) (List.Perm.refl _) (fun M i j hM hl _ h2 _ h4 => (qs.swap_perm M i j (by omega) (by omega)).trans hM)
/-- The IDs as they are written. -/
def idsK (X : List Sp) (k : Nat) : List Int := (X.map (fun a => a.id)).take k ++ List.replicate (X.length - k) 0
theorem idsK_len (X : List Sp) (k : Nat) (hk : k ≤ X.length) : (idsK X k).length = X.length := by
  unfold idsK
  rw [List.length_append, List.length_take, List.length_map, List.length_replicate]
  omega
theorem idsK_next (X : List Sp) (k : Nat) (hk : k < X.length) : (idsK X k).set k X[k].id = idsK X (k + 1) := by
  unfold idsK
  rw [List.set_append_right _ _ (by rw [List.length_take, List.length_map]; omega), List.length_take, List.length_map, Nat.min_eq_left (by omega), Nat.sub_self, List.take_succ_eq_append_getElem (by simpa using hk), List.getElem_map, List.append_assoc]
  congr 1
  rw [show X.length - k = (X.length - (k + 1)) + 1 by omega, List.replicate_succ]
  rfl
theorem idsK_all (X : List Sp) : idsK X X.length = X.map (fun a => a.id) := by
  unfold idsK
  rw [Nat.sub_self, List.take_of_length_le (by simp)]
  simp
theorem infoSIx : (Tryd.prog.info? 45).map (fun i => (i.zero, i.size, i.bytes)) = some (some (.int .u64 0), 1, 8) := by kernel_rfl
theorem made_ids (n : Nat) (hn : n ≤ 1000) (w : World) : (Instr.makeSlice 46 (.int .i64 n) (.int .i64 n)).run Tryd.prog w = .ok (.slice (some ⟨w.heap.size, 0, none⟩) n n) (w.alloc (.cells (madeCells #[.int .u64 0] n) 45)) :=
  run_make_row' (P := Tryd.prog) 46 45 (.int .u64 0) 8 Tryd.underlying46 infoSIx rfl .i64 .i64 n (by omega) (by omega) w
theorem madeR (z : Value) (n : Nat) : madeCells #[z] n = (List.replicate n z).toArray := by
  apply Array.ext
  · simp [madeCells]
  · intro i h1 h2
    simp [madeCells, Nat.mod_one]
theorem made_idsR (X : List Sp) (w : World) : qs.U64R (w.alloc (.cells (madeCells #[.int .u64 0] X.length) 45)) w.heap.size (idsK X 0) [] := by
  unfold qs.U64R idsK
  rw [madeR]
  have : ((((X.map (fun a : Sp => a.id)).take 0 ++ List.replicate (X.length - 0) 0).map (Value.int .u64)) ++ []).toArray = (List.replicate X.length (Value.int .u64 0)).toArray := by simp
  rw [this]
  exact Blk.new _ _ _
set_option maxHeartbeats 8000000 in
theorem oneTraceP_any (ad : Option Addr) (n cap : Nat) (X : List Sp) (P : Nat → Pl) (w : World) (hX : SpsAt w ad n X P) (hF : ∀ a ∈ X, a.Fits) (hS : ∀ a ∈ X, a.Small) (hT : Tabs w) :
    Calls Tryd.prog 18 #[.slice ad n cap] w fun e w' => ∃ b, e = .returned (.bool b) ∧ (b = true ↔ OneT X) ∧ Below w.heap.size w w' := by
  have hl : X.length = n := hX.len
  have HX : Hid (SpsAt w ad n X P) := hX
  have HF : Hid (∀ a ∈ X, a.Fits) := hF
  have HSM : Hid (∀ a ∈ X, a.Small) := hS
  have HT : Hid (Tabs w) := hT
  have HL : Hid (X.length = n) := hl
  have MK := fun (h : n ≤ 1000) => made_ids n h w
  have S0 : Hid (qs.U64R (w.alloc (.cells (madeCells #[.int .u64 0] n) 45)) w.heap.size (idsK X 0) []) := by
    have := made_idsR X w
    rw [hl] at this
    exact this
  clear hX hF hS hT hl
  by_cases hn : n ≤ 1000
  rotate_left
  · have hn' : (1000 : Int) < (n : Int) := by omega
    clear MK
    go_enter Tryd.func18, Tryd.ntmps18
    go_wp2
    go_ret
    refine ⟨false, rfl, ⟨fun h => by simp at h, fun h => ?_⟩, Below.refl _ _⟩
    have := h.len
    have := HL.out
    omega
  have MK := MK hn
  go_enter Tryd.func18, Tryd.ntmps18
  go_wp2
  go_loopw [14] (fun x wr => ∃ k : Nat, x = .int .i64 k ∧ k ≤ n ∧ qs.U64R wr w.heap.size (idsK X k) [] ∧ Below w.heap.size w wr ∧ (∀ i (h : i < X.length) (h0 : 0 < X.length), i < k → chkS X[i] = 0 ∧ X[i].hi = X[0].hi ∧ X[i].lo = X[0].lo)) (fun x _ => n - (intOf x).toNat)
  case atStart => exact ⟨0, rfl, by omega, S0.out, (Below.refl _ _).alloc (Nat.le_refl _) _, fun i _ _ h => by omega⟩
  case round =>
    obtain ⟨k, rfl, hkn, hset, hb, hdone⟩ := hrel
    have HDONE : Hid (∀ i (h : i < X.length) (h0 : 0 < X.length), i < k → chkS X[i] = 0 ∧ X[i].hi = X[0].hi ∧ X[i].lo = X[0].lo) := hdone
    have HS : Hid (qs.U64R wr w.heap.size (idsK X k) []) := hset
    have HB : Hid (Below w.heap.size w wr) := hb
    clear hset hb hdone
    by_cases hlt : k < n
    · have hkX : k < X.length := by rw [HL.out]; exact hlt
      have h0X : 0 < X.length := by omega
      have SX := HX.out.below HB.out
      obtain ⟨b1, o1, rfl, _⟩ := SX.lies (by omega)
      have RG : Hid (wr.rangeAt b1 (o1 + k * 13) (spC X[k] (P k)).toList) := SX.range k hkX
      have R0 : Hid (wr.rangeAt b1 (o1 + 0 * 13) (spC X[0] (P 0)).toList) := SX.range 0 h0X
      have hmem := List.getElem_mem hkX
      have HAT : Hid (SpAt wr X[k] (P k)) := SX.each k hkX
      have hsm : Hid (X[k].Small) := HSM.out _ hmem
      obtain ⟨a, ha⟩ : ∃ a, X[k]'hkX = a := ⟨_, rfl⟩
      obtain ⟨p, hp⟩ : ∃ p, P k = p := ⟨_, rfl⟩
      obtain ⟨a0, ha0⟩ : ∃ a, X[0]'h0X = a := ⟨_, rfl⟩
      rw [ha, hp] at RG HAT
      rw [ha] at hsm
      rw [ha0] at R0
      have z0 : wr.cell? ⟨b1, o1, none⟩ = some (.int .u64 a0.hi) := by have := R0.out 0 _ rfl; simpa using this
      have z1 : wr.cell? ⟨b1, o1 + 1, none⟩ = some (.int .u64 a0.lo) := by have := R0.out 1 _ rfl; simpa using this
      have NT2 : ∀ W, (binOp .neq 35 (.agg #[.int .u64 a.hi, .int .u64 a.lo]) (.agg #[.int .u64 a0.hi, .int .u64 a0.lo])).run Tryd.prog W = .ok (.bool (!(decide (a.hi = a0.hi ∧ a.lo = a0.lo)))) W := fun W => run_neq_of (eqI_trace 9998 a.hi a.lo a0.hi a0.lo W)
      have hg := guard_trace
      have BOX : Hid (∀ W, Upd (fun j => j = wr.heap.size) (wr.alloc (.cells zSpL.toArray 52)) W → Below w.heap.size w W ∧ Below wr.heap.size wr W ∧ qs.U64R W w.heap.size (idsK X k) [] ∧ W.cell? ⟨b1, o1, none⟩ = some (.int .u64 a0.hi) ∧ W.cell? ⟨b1, o1 + 1, none⟩ = some (.int .u64 a0.lo)) := fun W hu => by
        have hs := HB.out.size
        have hb' : Below wr.heap.size wr W := ((Below.refl _ wr).alloc (Nat.le_refl _) _).trans (hu.below (by simp) (fun j hj e => by omega))
        have hlt' := qs.U64R.lt HS.out
        refine ⟨HB.out.trans (hb'.mono hs), hb', qs.U64R.below HS.out hb', (hb'.cell (p := ⟨b1, o1, none⟩) (World.block_lt_of_cell? wr _ z0)).trans z0, (hb'.cell (p := ⟨b1, o1 + 1, none⟩) (World.block_lt_of_cell? wr _ z1)).trans z1⟩
      have CHK : Hid (∀ W, Below wr.heap.size wr W → Below w.heap.size w W → Calls Tryd.prog 30 #[spV a p] W fun e w' => e = .returned (.int .i64 (chkS a)) ∧ Below W.heap.size W w') := fun W hb1 hb2 => check_any a p W (SpAt.below HAT.out hb1) hsm.out (HT.out.below hb2)
      have AFT : Hid (∀ W w5, Blk W wr.heap.size (spC a p).toList.toArray 52 → qs.U64R W w.heap.size (idsK X k) [] → W.cell? ⟨b1, o1, none⟩ = some (.int .u64 a0.hi) → W.cell? ⟨b1, o1 + 1, none⟩ = some (.int .u64 a0.lo) → Below w.heap.size w W → Below W.heap.size W w5 → w5.cell? ⟨wr.heap.size, 0, none⟩ = some (.int .u64 a.hi) ∧ w5.cell? ⟨wr.heap.size, 1, none⟩ = some (.int .u64 a.lo) ∧ w5.cell? ⟨wr.heap.size, 2, none⟩ = some (.int .u64 a.id) ∧ w5.cell? ⟨b1, o1, none⟩ = some (.int .u64 a0.hi) ∧ w5.cell? ⟨b1, o1 + 1, none⟩ = some (.int .u64 a0.lo) ∧ (∃ v, w5.cell? ⟨w.heap.size, k, none⟩ = some (.int .u64 v)) ∧ w5.frozen? ⟨w.heap.size, k, none⟩ = false ∧ qs.U64R (w5.setCell ⟨w.heap.size, k, none⟩ (.int .u64 a.id)) w.heap.size (idsK X (k + 1)) [] ∧ Below w.heap.size w (w5.setCell ⟨w.heap.size, k, none⟩ (.int .u64 a.id))) := fun W w5 hB hS y0 y1 hb hb5 => by
        have hB5 := hB.below hb5 hB.lt
        have hS5 : qs.U64R w5 w.heap.size (idsK X k) [] := qs.U64R.below hS hb5
        have hlk : k < (idsK X k).length := by rw [idsK_len X k (by omega)]; exact hkX
        have hset := qs.U64R.set hS5 k hlk a.id
        rw [← ha, idsK_next X k hkX, ha] at hset
        exact ⟨hB5.cell 0 rfl, hB5.cell 1 rfl, hB5.cell 2 rfl, (hb5.cell (p := ⟨b1, o1, none⟩) (World.block_lt_of_cell? W _ y0)).trans y0, (hb5.cell (p := ⟨b1, o1 + 1, none⟩) (World.block_lt_of_cell? W _ y1)).trans y1, ⟨_, qs.U64R.cell hS5 k hlk⟩, qs.U64R.frozen hS5 k, hset, (hb.trans (hb5.mono hb.size)).setCell (p := ⟨w.heap.size, k, none⟩) (Nat.le_refl _) _⟩
      have HSAY : Hid (∀ c, chkS a = c → (OneT X → c = 0 ∧ a.hi = a0.hi ∧ a.lo = a0.lo) ∧ (c = 0 ∧ a.hi = a0.hi ∧ a.lo = a0.lo → ∀ i (h : i < X.length) (h0 : 0 < X.length), i < k + 1 → chkS X[i] = 0 ∧ X[i].hi = X[0].hi ∧ X[i].lo = X[0].lo)) := fun c hc => by
        subst hc
        refine ⟨fun h => ?_, fun h i hi h0 hik => ?_⟩
        · rw [← ha, ← ha0]
          exact ⟨h.chk _ hmem, h.tr _ hmem _ (List.getElem_mem h0X)⟩
        · by_cases e : i < k
          · exact HDONE.out i hi h0 e
          · obtain rfl : i = k := by omega
            rw [ha, ha0]
            exact h
      clear ha hp ha0 hmem SX z0 z1
      obtain ⟨ck, hck⟩ : ∃ c, chkS a = c := ⟨_, rfl⟩
      have HCH : Hid (chkS a = ck) := hck
      rw [hck] at CHK
      clear hck
      by_cases hc0 : ck = 0
      · subst hc0
        by_cases heq : a.hi = a0.hi ∧ a.lo = a0.lo
        · have hb1 : decide (a.hi = a0.hi ∧ a.lo = a0.lo) = true := by simp [heq]
          have HEQ : Hid (a.hi = a0.hi ∧ a.lo = a0.lo) := heq
          simp only [hb1, Bool.not_true] at NT2
          clear heq hb1
          unfold spV at CHK
          go_wp2_with (first
            | (refine wpList_load_mid rfl 52 _ rfl b1 (o1 + k * 13) rfl (spC a p).toList _ RG.out Tryd.underlying52 rfl (by kernel_rfl) ?_)
            | (refine wpList_stW rfl 52 _ _ rfl wr.heap.size zSpL (spC a p).toList 52 (Blk.new _ _ _) rfl rfl rfl (by kernel_rfl) (spC_one _ _) ?_; intro w2 n2 u2; obtain ⟨hb2, hbw2, hs2, y0, y1⟩ := BOX.out w2 u2; have HN2 : Hid (Blk w2 wr.heap.size (spC a p).toList.toArray 52) := n2; obtain ⟨e0, e1, e2, e3, e4, e5, e6, e7, e8, e9, e10, e11, e12⟩ := sp_cells n2; have CK := CHK.out w2.drew hbw2.drew hb2.drew; have AF := fun w5 h => AFT.out w2 w5 n2 hs2 y0 y1 hb2 h; have HAF : Hid _ := AF; clear n2 u2 AF))
          unfold spC at CK
          have hn0 : 0 < n := by omega
          have hn1 : (0 : Int) < (n : Int) := by omega
          go_region_law (go_simp; go_at_call 30; (with_reducible refine CK.mono ?_); clear CK; rintro e w5 ⟨rfl, hb5⟩; obtain ⟨f0, f1, f2, f3, f4, ⟨f5, f6⟩, f7, hs6, hb6⟩ := HAF.out w5 ⟨hb5.os, hb5.tape, hb5.output, hb5.size, hb5.block⟩; clear HAF hb5)
          all_goals
            go_wp2
            go_roundw
            case rel => exact ⟨k + 1, by simp, by omega, hs6, hb6, (HSAY.out _ HCH.out).2 ⟨rfl, HEQ.out⟩⟩
            case measure => simp [intOf]; omega
        · have hb1 : decide (a.hi = a0.hi ∧ a.lo = a0.lo) = false := decide_eq_false heq
          have HEQ : Hid (¬ (a.hi = a0.hi ∧ a.lo = a0.lo)) := heq
          simp only [hb1, Bool.not_false] at NT2
          clear heq hb1
          unfold spV at CHK
          go_wp2_with (first
            | (refine wpList_load_mid rfl 52 _ rfl b1 (o1 + k * 13) rfl (spC a p).toList _ RG.out Tryd.underlying52 rfl (by kernel_rfl) ?_)
            | (refine wpList_stW rfl 52 _ _ rfl wr.heap.size zSpL (spC a p).toList 52 (Blk.new _ _ _) rfl rfl rfl (by kernel_rfl) (spC_one _ _) ?_; intro w2 n2 u2; obtain ⟨hb2, hbw2, hs2, y0, y1⟩ := BOX.out w2 u2; have HN2 : Hid (Blk w2 wr.heap.size (spC a p).toList.toArray 52) := n2; obtain ⟨e0, e1, e2, e3, e4, e5, e6, e7, e8, e9, e10, e11, e12⟩ := sp_cells n2; have CK := CHK.out w2.drew hbw2.drew hb2.drew; have AF := fun w5 h => AFT.out w2 w5 n2 hs2 y0 y1 hb2 h; have HAF : Hid _ := AF; clear n2 u2 AF))
          unfold spC at CK
          have hn0 : 0 < n := by omega
          have hn1 : (0 : Int) < (n : Int) := by omega
          go_region_law (go_simp; go_at_call 30; (with_reducible refine CK.mono ?_); clear CK; rintro e w5 ⟨rfl, hb5⟩; obtain ⟨f0, f1, f2, f3, f4, ⟨f5, f6⟩, f7, hs6, hb6⟩ := HAF.out w5 ⟨hb5.os, hb5.tape, hb5.output, hb5.size, hb5.block⟩; have HB5 : Hid (Below w.heap.size w w5) := hb2.drew.trans (hb5.mono hb2.size); clear HAF hb5)
          all_goals
            go_wp2
            go_ret
            refine ⟨false, rfl, ⟨fun h => by simp at h, fun h => ?_⟩, ?_⟩
            · exact (HEQ.out ((HSAY.out _ HCH.out).1 h).2).elim
            · exact HB5.out
      · have hb1 : (ck != 0) = true := by simpa using hc0
        unfold spV at CHK
        go_wp2_with (first
          | (refine wpList_load_mid rfl 52 _ rfl b1 (o1 + k * 13) rfl (spC a p).toList _ RG.out Tryd.underlying52 rfl (by kernel_rfl) ?_)
          | (refine wpList_stW rfl 52 _ _ rfl wr.heap.size zSpL (spC a p).toList 52 (Blk.new _ _ _) rfl rfl rfl (by kernel_rfl) (spC_one _ _) ?_; intro w2 n2 u2; obtain ⟨hb2, hbw2, hs2, y0, y1⟩ := BOX.out w2 u2; have HN2 : Hid (Blk w2 wr.heap.size (spC a p).toList.toArray 52) := n2; obtain ⟨e0, e1, e2, e3, e4, e5, e6, e7, e8, e9, e10, e11, e12⟩ := sp_cells n2; have CK := CHK.out w2.drew hbw2.drew hb2.drew; have AF := fun w5 h => AFT.out w2 w5 n2 hs2 y0 y1 hb2 h; have HAF : Hid _ := AF; clear n2 u2 AF))
        refine wp_region_held (S := fun W => W.rangeAt wr.heap.size 0 (spC a p).toList) (by kernel_rfl) ?_
        change wpAnyH _ _ _ _ _ _ _ _ (World.drew _)
        have hS : w2.drew.rangeAt wr.heap.size 0 (spC a p).toList := fun j v hv => by rw [Nat.zero_add]; exact Blk.cell HN2.out j (by rw [List.getElem?_toArray]; exact hv)
        refine takeH (i := 0) (v := .agg (spC a p).toList.toArray) rfl (by kernel_rfl) (by kernel_rfl) (by kernel_rfl) (fun _ _ _ h => h) (yieldsIf_load_mid (by rfl) 52 _ rfl wr.heap.size 0 rfl _ _ (fun W hW => hW) Tryd.underlying52 rfl (by kernel_rfl)) hS ?_
        simp only [Act.put, List.setIfInBounds_toArray, List.set_cons_zero, List.set_cons_succ]
        refine onlyH (i := 1) rfl (by kernel_rfl) (fun K hK => ?_)
        go_simp
        go_at_call 30
        (with_reducible refine CK.mono ?_)
        clear CK hS
        rintro e w5 ⟨rfl, hb5'⟩
        have hb5 : Below w2.heap.size w2 w5 := ⟨hb5'.os, hb5'.tape, hb5'.output, hb5'.size, hb5'.block⟩
        have n5 : Blk w5 wr.heap.size (spC a p).toList.toArray 52 := Blk.below HN2.out hb5 (Blk.lt HN2.out)
        have hS : w5.rangeAt wr.heap.size 0 (spC a p).toList := fun j v hv => by rw [Nat.zero_add]; exact Blk.cell n5 j (by rw [List.getElem?_toArray]; exact hv)
        refine hK _ _ ⟨hS, ?_⟩
        clear hK K
        have HB5 : Hid (Below w.heap.size w w5) := hb2.trans (hb5.mono hb2.size)
        refine takeH (i := 2) (v := .bool true) rfl (by kernel_rfl) (by kernel_rfl) (by kernel_rfl) (fun _ _ _ h => h) (Or.inl ⟨by rfl, fun W hW => by go_simp⟩) hS ?_
        simp only [Act.put, List.setIfInBounds_toArray, List.set_cons_zero, List.set_cons_succ]
        refine takeH (i := 3) (v := .bool true) rfl (by kernel_rfl) (by kernel_rfl) (by kernel_rfl) (fun _ _ _ h => h) (Or.inl ⟨by rfl, fun W hW => by go_simp⟩) hS ?_
        simp only [Act.put, List.setIfInBounds_toArray, List.set_cons_zero, List.set_cons_succ]
        refine takeH (i := 4) (v := undef) rfl (by kernel_rfl) (by kernel_rfl) (by kernel_rfl) (fun _ _ _ h => h) (Or.inr ⟨by rfl, rfl⟩) hS ?_
        simp only [Act.put, List.setIfInBounds_toArray, List.set_cons_zero, List.set_cons_succ]
        refine takeH (i := 5) (v := undef) rfl (by kernel_rfl) (by kernel_rfl) (by kernel_rfl) (fun _ _ _ h => h) (Or.inr ⟨by rfl, rfl⟩) hS ?_
        simp only [Act.put, List.setIfInBounds_toArray, List.set_cons_zero, List.set_cons_succ]
        refine takeH (i := 6) (v := undef) rfl (by kernel_rfl) (by kernel_rfl) (by kernel_rfl) (fun _ _ _ h => h) (Or.inr ⟨by rfl, rfl⟩) hS ?_
        simp only [Act.put, List.setIfInBounds_toArray, List.set_cons_zero, List.set_cons_succ]
        refine takeH (i := 7) (v := undef) rfl (by kernel_rfl) (by kernel_rfl) (by kernel_rfl) (fun _ _ _ h => h) (Or.inr ⟨by rfl, rfl⟩) hS ?_
        simp only [Act.put, List.setIfInBounds_toArray, List.set_cons_zero, List.set_cons_succ]
        refine takeH (i := 8) (v := undef) rfl (by kernel_rfl) (by kernel_rfl) (by kernel_rfl) (fun _ _ _ h => h) (Or.inr ⟨by rfl, rfl⟩) hS ?_
        simp only [Act.put, List.setIfInBounds_toArray, List.set_cons_zero, List.set_cons_succ]
        refine takeH (i := 9) (v := undef) rfl (by kernel_rfl) (by kernel_rfl) (by kernel_rfl) (fun _ _ _ h => h) (Or.inr ⟨by rfl, rfl⟩) hS ?_
        simp only [Act.put, List.setIfInBounds_toArray, List.set_cons_zero, List.set_cons_succ]
        refine takeH (i := 10) (v := undef) rfl (by kernel_rfl) (by kernel_rfl) (by kernel_rfl) (fun _ _ _ h => h) (Or.inr ⟨by rfl, rfl⟩) hS ?_
        simp only [Act.put, List.setIfInBounds_toArray, List.set_cons_zero, List.set_cons_succ]
        refine takeH (i := 11) (v := .bool true) rfl (by kernel_rfl) (by kernel_rfl) (by kernel_rfl) (fun _ _ _ h => h) (Or.inl ⟨by rfl, fun W hW => by go_simp⟩) hS ?_
        simp only [Act.put, List.setIfInBounds_toArray, List.set_cons_zero, List.set_cons_succ]
        refine wpAnyH_done (by kernel_rfl) ?_ _
        clear hS n5 hb5 hb5'
        go_wp2
        go_ret
        refine ⟨false, rfl, ⟨fun h => by simp at h, fun h => ?_⟩, ?_⟩
        · exact absurd ((HSAY.out _ HCH.out).1 h).1 hc0
        · exact HB5.out
    · obtain rfl : k = n := by omega
      have hU : qs.U64R wr w.heap.size (X.map (fun a => a.id)) [] := by
        have := HS.out
        rw [← HL.out, idsK_all] at this
        exact this
      have ST := qs.sortU_any w.heap.size k k (X.map (fun a => a.id)) [] wr hU (by simp [HL.out]) (by omega)
      have CP : Hid (∀ L' W, qs.PermOn 0 k (X.map (fun a => a.id)) L' → qs.SortedOn 0 k L' → qs.U64R W w.heap.size L' [] → Calls Tryd.prog 32 #[.slice (some ⟨w.heap.size, 0, none⟩) k k] W fun e w' => ∃ m : Nat, e = .returned (.slice (some ⟨w.heap.size, 0, none⟩) m k) ∧ (m = k ↔ (X.map (fun a => a.id)).Nodup) ∧ m ≤ k ∧ Upd (fun j => j = w.heap.size) W w') := fun L' W h1 h2 h3 => by
        have hp := PermOnU.perm h1 (by simp [HL.out])
        refine (qs.compactU_any w.heap.size k k L' [] W h3 (by rw [hp.length_eq]; simp [HL.out]) (Nat.le_refl _) (by omega) h2).mono ?_
        rintro e w' ⟨m, h4, h5, h6, h7⟩
        exact ⟨m, h4, h5.trans hp.nodup_iff, h6, h7⟩
      have HIFF : Hid (∀ m : Nat, (m = k ↔ (X.map (fun a => a.id)).Nodup) → (m = k ↔ OneT X)) := fun m hm => by
        refine ⟨fun e => ⟨by rw [HL.out]; omega, fun a ha => ?_, HF.out, HSM.out, fun a ha b hb => ?_, hm.1 e⟩, fun h => hm.2 h.ids⟩
        · obtain ⟨i, hi, rfl⟩ := List.mem_iff_getElem.1 ha
          exact (HDONE.out i hi (by omega) (by rw [← HL.out]; exact hi)).1
        · obtain ⟨i, hi, rfl⟩ := List.mem_iff_getElem.1 ha
          obtain ⟨j, hj, rfl⟩ := List.mem_iff_getElem.1 hb
          have q1 := (HDONE.out i hi (by omega) (by rw [← HL.out]; exact hi)).2
          have q2 := (HDONE.out j hj (by omega) (by rw [← HL.out]; exact hj)).2
          exact ⟨q1.1.trans q2.1.symm, q1.2.trans q2.2.symm⟩
      clear hU
      go_wp2_with (first
        | (go_at_call 31; (with_reducible refine ST.mono ?_); clear ST; rintro e w1 ⟨rfl, L2, p2, s2, t2⟩; have C1 := CP.out L2 w1 p2 s2 t2.1; have HU1 : Hid (Upd (fun j => j = w.heap.size) wr w1) := t2.2; clear CP p2 s2 t2)
        | (go_at_call 32; (with_reducible refine C1.mono ?_); clear C1; rintro e w2 ⟨m, rfl, hm, hle, hu⟩; have HM : Hid ((m = k ↔ OneT X) ∧ Below w.heap.size w w2) := ⟨HIFF.out m hm, HB.out.trans ((HU1.out.trans hu (fun _ _ h => h)).below HB.out.size (fun j hj e => by omega))⟩; clear hm hle hu HIFF HU1))
      go_ret
      exact ⟨_, rfl, ⟨fun h => HM.out.1.1 (by simp at h; omega), fun h => by have := HM.out.1.2 h; simp [this]⟩, HM.out.2⟩
end Go.Proofs.YtfgmjgoegdiieaaDoor
