/-
  SdB.
-/
import Derived.Test.YtfgmjgoegdiieaaDoorSdA
import Derived.Test.YtfgmjgoegdiieaaDoorSaBq
namespace Go.Proofs.YtfgmjgoegdiieaaDoor
open Go Go.RowKit
set_option maxRecDepth 100000

theorem failedP_any (a : Sp) (p : Pl) (w : World) :
    Calls Tryd.prog 34 #[spV a p] w fun e w' => e = .returned (.bool (decide (a.status = 2))) ∧ Below w.heap.size w w' := by
  have BB : Hid (∀ o, Below w.heap.size w (w.alloc o)) := fun o => (Below.refl _ _).alloc (Nat.le_refl _) _
  unfold spV spC
  go_enter Tryd.func34, Tryd.ntmps34
  go_wp2
  go_ret
  refine ⟨?_, BB.out _⟩
  first
    | rfl
    | (by_cases h : a.status = 2 <;> simp [h])
theorem namedP_any (a : Sp) (p : Pl) (q : Nat) (l : Pol) (w : World) (hq : Blk w q (polC l).toArray 32) :
    Calls Tryd.prog 36 #[spV a p, .pointer (some ⟨q, 0, none⟩)] w fun e w' => e = .returned (.bool (decide (a.svc = l.name))) ∧ Below w.heap.size w w' := by
  have BB : Hid (∀ o, Below w.heap.size w (w.alloc o)) := fun o => (Below.refl _ _).alloc (Nat.le_refl _) _
  have c2 : ∀ o, (w.alloc o).cell? ⟨q, 2, none⟩ = some (.string l.name) := fun o => (hq.alloc o).cell 2 rfl
  clear hq
  unfold spV spC
  go_enter Tryd.func36, Tryd.ntmps36
  go_wp2
  go_ret
  refine ⟨?_, BB.out _⟩
  by_cases h : a.svc = l.name
  · simp [h]
  · have h2 : ¬ a.svc.toList = l.name.toList := fun e => h (bytes_ext _ _ e)
    simp [h, h2]
set_option maxHeartbeats 4000000 in
theorem idxFailP_any (ad : Option Addr) (n cap : Nat) (X : List Sp) (P : Nat → Pl) (w : World) (hX : SpsAt w ad n X P) (hn : n ≤ 1000) :
    Calls Tryd.prog 50 #[.slice ad n cap, .func (.func 34) #[] #[]] w fun e w' => ∃ r : Int, e = .returned (.int .i64 r) ∧ (0 ≤ r ↔ X.any (fun a => decide (a.status = 2)) = true) ∧ Below w.heap.size w w' := by
  have hl : X.length = n := hX.len
  have HX : Hid (SpsAt w ad n X P) := hX
  have HL : Hid (X.length = n) := hl
  obtain ⟨t0, ht0⟩ : ∃ t0 : Bool, X.any (fun a => decide (a.status = 2)) = t0 := ⟨_, rfl⟩
  have HA : Hid (X.any (fun a => decide (a.status = 2)) = t0) := ht0
  rw [ht0]
  clear ht0
  clear hX hl
  go_enter Tryd.func50, Tryd.ntmps50
  go_wp2
  go_loopw [8] (fun z wr => ∃ k : Nat, z = .int .i64 k ∧ k ≤ n ∧ Below w.heap.size w wr ∧ Hid (∀ i (h : i < X.length), i < k → (fun a : Sp => decide (a.status = 2)) X[i] = false)) (fun z _ => n - (intOf z).toNat)
  case atStart => exact ⟨0, rfl, by omega, Below.refl _ _, fun i _ h => by omega⟩
  case round =>
    obtain ⟨k, rfl, hkn, hb, HD⟩ := hrel
    have HB : Hid (Below w.heap.size w wr) := hb
    clear hb
    by_cases hlt : k < n
    · have hkX : k < X.length := by rw [HL.out]; exact hlt
      have SX := HX.out.below HB.out
      obtain ⟨b1, o1, rfl, _⟩ := SX.lies (by omega)
      have RG : Hid (wr.rangeAt b1 (o1 + k * 13) (spC X[k] (P k)).toList) := SX.range k hkX
      obtain ⟨a, ha⟩ : ∃ a, X[k]'hkX = a := ⟨_, rfl⟩
      obtain ⟨p, hp⟩ : ∃ p, P k = p := ⟨_, rfl⟩
      rw [ha, hp] at RG
      have FA := failedP_any a p wr
      obtain ⟨t, ht⟩ : ∃ t : Bool, (fun a : Sp => decide (a.status = 2)) a = t := ⟨_, rfl⟩
      have ht' : (decide (a.status = 2)) = t := ht
      rw [ht'] at FA
      unfold spV at FA
      have HT : Hid ((fun a : Sp => decide (a.status = 2)) (X[k]'hkX) = t) := by
        show (fun a : Sp => decide (a.status = 2)) (X[k]'hkX) = t
        rw [ha]
        exact ht
      clear ha hp SX ht ht'
      rcases t with _ | _
      · go_wp2_with (first
          | (refine wpList_load_mid rfl 52 _ rfl b1 (o1 + k * 13) rfl (spC a p).toList _ RG.out Tryd.underlying52 rfl (by kernel_rfl) ?_)
          | (go_at_call 34; (with_reducible refine FA.mono ?_); clear FA; rintro e w1 ⟨rfl, hb1⟩; have H1 : Hid (Below w.heap.size w w1) := HB.out.trans (hb1.mono HB.out.size); clear hb1))
        go_roundw
        case rel =>
          refine ⟨k + 1, by simp, by omega, H1.out, fun i hi hik => ?_⟩
          by_cases e : i < k
          · exact HD.out i hi e
          · obtain rfl : i = k := by omega
            exact HT.out
        case measure => simp [intOf]; omega
      · go_wp2_with (first
          | (refine wpList_load_mid rfl 52 _ rfl b1 (o1 + k * 13) rfl (spC a p).toList _ RG.out Tryd.underlying52 rfl (by kernel_rfl) ?_)
          | (go_at_call 34; (with_reducible refine FA.mono ?_); clear FA; rintro e w1 ⟨rfl, hb1⟩; have H1 : Hid (Below w.heap.size w w1) := HB.out.trans (hb1.mono HB.out.size); clear hb1))
        go_ret
        exact ⟨_, rfl, ⟨fun _ => by rw [← HA.out]; exact List.any_eq_true.2 ⟨_, List.getElem_mem hkX, HT.out⟩, fun _ => by omega⟩, H1.out⟩
    · obtain rfl : k = n := by omega
      go_wp2
      go_ret
      refine ⟨_, rfl, ⟨fun h => absurd h (by omega), fun h => ?_⟩, HB.out⟩
      rw [← HA.out] at h
      obtain ⟨x, hx, hq⟩ := List.any_eq_true.1 h
      obtain ⟨i, hi, rfl⟩ := List.mem_iff_getElem.1 hx
      have := HD.out i hi (by rw [← HL.out]; exact hi)
      exact absurd (this.symm.trans hq) (by decide)
theorem hasFailP_any (ad : Option Addr) (n cap : Nat) (X : List Sp) (P : Nat → Pl) (w : World) (hX : SpsAt w ad n X P) (hn : n ≤ 1000) :
    Calls Tryd.prog 33 #[.slice ad n cap, .func (.func 34) #[] #[]] w fun e w' => e = .returned (.bool (X.any (fun a => decide (a.status = 2)))) ∧ Below w.heap.size w w' := by
  have FX := idxFailP_any ad n cap X P w hX hn
  clear hX hn
  obtain ⟨t, ht⟩ : ∃ t : Bool, X.any (fun a => decide (a.status = 2)) = t := ⟨_, rfl⟩
  rw [ht] at FX ⊢
  clear ht
  go_enter Tryd.func33, Tryd.ntmps33
  go_wp2_with (go_at_call 50; (with_reducible refine FX.mono ?_); clear FX; rintro e w1 ⟨r, rfl, hr0, hb1⟩; have hr : Hid (0 ≤ r ↔ t = true) := hr0; clear hr0)
  go_ret
  refine ⟨?_, hb1⟩
  have := hr.out
  rcases t with _ | _
  · have h : ¬ 0 ≤ r := fun h => by simpa using this.1 h
    simp [h]
  · have h : 0 ≤ r := this.2 rfl
    simp [h]
set_option maxHeartbeats 4000000 in
theorem idxNameP_any (q : Nat) (l : Pol) (ad : Option Addr) (n cap : Nat) (X : List Sp) (P : Nat → Pl) (w : World) (hX : SpsAt w ad n X P) (hn : n ≤ 1000) (hq : Blk w q (polC l).toArray 32) :
    Calls Tryd.prog 50 #[.slice ad n cap, .func (.func 36) #[] #[.pointer (some ⟨q, 0, none⟩)]] w fun e w' => ∃ r : Int, e = .returned (.int .i64 r) ∧ (0 ≤ r ↔ X.any (fun a => decide (a.svc = l.name)) = true) ∧ Below w.heap.size w w' := by
  have hl : X.length = n := hX.len
  have HX : Hid (SpsAt w ad n X P) := hX
  have HL : Hid (X.length = n) := hl
  obtain ⟨t0, ht0⟩ : ∃ t0 : Bool, X.any (fun a => decide (a.svc = l.name)) = t0 := ⟨_, rfl⟩
  have HA : Hid (X.any (fun a => decide (a.svc = l.name)) = t0) := ht0
  rw [ht0]
  clear ht0
  have HQ : Hid (Blk w q (polC l).toArray 32) := hq
  clear hX hl hq
  go_enter Tryd.func50, Tryd.ntmps50
  go_wp2
  go_loopw [8] (fun z wr => ∃ k : Nat, z = .int .i64 k ∧ k ≤ n ∧ Below w.heap.size w wr ∧ Hid (∀ i (h : i < X.length), i < k → (fun a : Sp => decide (a.svc = l.name)) X[i] = false)) (fun z _ => n - (intOf z).toNat)
  case atStart => exact ⟨0, rfl, by omega, Below.refl _ _, fun i _ h => by omega⟩
  case round =>
    obtain ⟨k, rfl, hkn, hb, HD⟩ := hrel
    have HB : Hid (Below w.heap.size w wr) := hb
    clear hb
    by_cases hlt : k < n
    · have hkX : k < X.length := by rw [HL.out]; exact hlt
      have SX := HX.out.below HB.out
      obtain ⟨b1, o1, rfl, _⟩ := SX.lies (by omega)
      have RG : Hid (wr.rangeAt b1 (o1 + k * 13) (spC X[k] (P k)).toList) := SX.range k hkX
      obtain ⟨a, ha⟩ : ∃ a, X[k]'hkX = a := ⟨_, rfl⟩
      obtain ⟨p, hp⟩ : ∃ p, P k = p := ⟨_, rfl⟩
      rw [ha, hp] at RG
      have FA := namedP_any a p q l wr (HQ.out.below HB.out HQ.out.lt)
      obtain ⟨t, ht⟩ : ∃ t : Bool, (fun a : Sp => decide (a.svc = l.name)) a = t := ⟨_, rfl⟩
      have ht' : (decide (a.svc = l.name)) = t := ht
      rw [ht'] at FA
      unfold spV at FA
      have HT : Hid ((fun a : Sp => decide (a.svc = l.name)) (X[k]'hkX) = t) := by
        show (fun a : Sp => decide (a.svc = l.name)) (X[k]'hkX) = t
        rw [ha]
        exact ht
      clear ha hp SX ht ht'
      rcases t with _ | _
      · go_wp2_with (first
          | (refine wpList_load_mid rfl 52 _ rfl b1 (o1 + k * 13) rfl (spC a p).toList _ RG.out Tryd.underlying52 rfl (by kernel_rfl) ?_)
          | (go_at_call 36; (with_reducible refine FA.mono ?_); clear FA; rintro e w1 ⟨rfl, hb1⟩; have H1 : Hid (Below w.heap.size w w1) := HB.out.trans (hb1.mono HB.out.size); clear hb1))
        go_roundw
        case rel =>
          refine ⟨k + 1, by simp, by omega, H1.out, fun i hi hik => ?_⟩
          by_cases e : i < k
          · exact HD.out i hi e
          · obtain rfl : i = k := by omega
            exact HT.out
        case measure => simp [intOf]; omega
      · go_wp2_with (first
          | (refine wpList_load_mid rfl 52 _ rfl b1 (o1 + k * 13) rfl (spC a p).toList _ RG.out Tryd.underlying52 rfl (by kernel_rfl) ?_)
          | (go_at_call 36; (with_reducible refine FA.mono ?_); clear FA; rintro e w1 ⟨rfl, hb1⟩; have H1 : Hid (Below w.heap.size w w1) := HB.out.trans (hb1.mono HB.out.size); clear hb1))
        go_ret
        exact ⟨_, rfl, ⟨fun _ => by rw [← HA.out]; exact List.any_eq_true.2 ⟨_, List.getElem_mem hkX, HT.out⟩, fun _ => by omega⟩, H1.out⟩
    · obtain rfl : k = n := by omega
      go_wp2
      go_ret
      refine ⟨_, rfl, ⟨fun h => absurd h (by omega), fun h => ?_⟩, HB.out⟩
      rw [← HA.out] at h
      obtain ⟨x, hx, hq⟩ := List.any_eq_true.1 h
      obtain ⟨i, hi, rfl⟩ := List.mem_iff_getElem.1 hx
      have := HD.out i hi (by rw [← HL.out]; exact hi)
      exact absurd (this.symm.trans hq) (by decide)
theorem hasNameP_any (q : Nat) (l : Pol) (ad : Option Addr) (n cap : Nat) (X : List Sp) (P : Nat → Pl) (w : World) (hX : SpsAt w ad n X P) (hn : n ≤ 1000) (hq : Blk w q (polC l).toArray 32) :
    Calls Tryd.prog 33 #[.slice ad n cap, .func (.func 36) #[] #[.pointer (some ⟨q, 0, none⟩)]] w fun e w' => e = .returned (.bool (X.any (fun a => decide (a.svc = l.name)))) ∧ Below w.heap.size w w' := by
  have FX := idxNameP_any q l ad n cap X P w hX hn hq
  clear hX hn hq
  obtain ⟨t, ht⟩ : ∃ t : Bool, X.any (fun a => decide (a.svc = l.name)) = t := ⟨_, rfl⟩
  rw [ht] at FX ⊢
  clear ht
  go_enter Tryd.func33, Tryd.ntmps33
  go_wp2_with (go_at_call 50; (with_reducible refine FX.mono ?_); clear FX; rintro e w1 ⟨r, rfl, hr0, hb1⟩; have hr : Hid (0 ≤ r ↔ t = true) := hr0; clear hr0)
  go_ret
  refine ⟨?_, hb1⟩
  have := hr.out
  rcases t with _ | _
  · have h : ¬ 0 ≤ r := fun h => by simpa using this.1 h
    simp [h]
  · have h : 0 ≤ r := this.2 rfl
    simp [h]
/-- From the least beginning to the greatest end. -/
def startM (X : List Sp) : Int := X.foldl (fun m a => min m a.start) 9223372036854775807
def finM (X : List Sp) : Int := X.foldl (fun m a => max m a.fin) 0
def tookN (X : List Sp) : Int := IntKind.u64.wrap (wrap64 (finM X - startM X))
theorem startM_next (X : List Sp) (k : Nat) (hk : k < X.length) : startM (X.take (k + 1)) = min (startM (X.take k)) X[k].start := by
  unfold startM
  rw [List.take_succ_eq_append_getElem hk, List.foldl_append]
  rfl
theorem finM_next (X : List Sp) (k : Nat) (hk : k < X.length) : finM (X.take (k + 1)) = max (finM (X.take k)) X[k].fin := by
  unfold finM
  rw [List.take_succ_eq_append_getElem hk, List.foldl_append]
  rfl
set_option maxHeartbeats 4000000 in
theorem tookP_any (ad : Option Addr) (n cap : Nat) (X : List Sp) (P : Nat → Pl) (w : World) (hX : SpsAt w ad n X P) (hn : n ≤ 1000) :
    Calls Tryd.prog 35 #[.slice ad n cap] w fun e w' => e = .returned (.int .u64 (tookN X)) ∧ Below w.heap.size w w' := by
  have hl : X.length = n := hX.len
  have HX : Hid (SpsAt w ad n X P) := hX
  have HL : Hid (X.length = n) := hl
  clear hX hl
  go_enter Tryd.func35, Tryd.ntmps35
  go_wp2
  go_loopw [3, 4, 9] (fun z3 z4 z wr => ∃ (k : Nat) (s f : Int), z3 = .int .i64 s ∧ z4 = .int .i64 f ∧ z = .int .i64 k ∧ k ≤ n ∧ Below w.heap.size w wr ∧ Hid (startM (X.take k) = s ∧ finM (X.take k) = f)) (fun _ _ z _ => n - (intOf z).toNat)
  case atStart => exact ⟨0, _, _, rfl, rfl, rfl, by omega, Below.refl _ _, ⟨rfl, rfl⟩⟩
  case round =>
    obtain ⟨k, s, f, rfl, rfl, rfl, hkn, hb, HD⟩ := hrel
    have HB : Hid (Below w.heap.size w wr) := hb
    clear hb
    by_cases hlt : k < n
    · have hkX : k < X.length := by rw [HL.out]; exact hlt
      have SX := HX.out.below HB.out
      obtain ⟨b1, o1, rfl, _⟩ := SX.lies (by omega)
      have RG : Hid (wr.rangeAt b1 (o1 + k * 13) (spC X[k] (P k)).toList) := SX.range k hkX
      have HN : Hid (startM (X.take (k + 1)) = min s (X[k]'hkX).start ∧ finM (X.take (k + 1)) = max f (X[k]'hkX).fin) := by
        have h1 := startM_next X k hkX
        have h2 := finM_next X k hkX
        rw [HD.out.1] at h1
        rw [HD.out.2] at h2
        exact ⟨h1, h2⟩
      obtain ⟨a, ha⟩ : ∃ a, X[k]'hkX = a := ⟨_, rfl⟩
      obtain ⟨p, hp⟩ : ∃ p, P k = p := ⟨_, rfl⟩
      rw [ha, hp] at RG
      rw [ha] at HN
      have BOX : Hid (∀ W, Upd (fun j => j = wr.heap.size) (wr.alloc (.cells zSpL.toArray 52)) W → Below w.heap.size w W) := fun W hu => by
        have hs := HB.out.size
        exact (HB.out.alloc hs _).trans (hu.below (by rw [World.size_alloc]; omega) (fun j hj e => by omega))
      clear ha hp SX HD
      go_wp2_with (first
        | (refine wpList_load_mid rfl 52 _ rfl b1 (o1 + k * 13) rfl (spC a p).toList _ RG.out Tryd.underlying52 rfl (by kernel_rfl) ?_)
        | (refine wpList_stW rfl 52 _ _ rfl wr.heap.size zSpL (spC a p).toList 52 (Blk.new _ _ _) rfl rfl rfl (by kernel_rfl) (spC_one _ _) ?_; intro w2 n2 u2; have hb2 : Hid (Below w.heap.size w w2) := BOX.out w2 u2; obtain ⟨e0, e1, e2, e3, e4, e5, e6, e7, e8, e9, e10, e11, e12⟩ := sp_cells n2; clear n2 u2 e0 e1 e2 e3 e4 e5 e6 e7 e8 e11 e12))
      obtain ⟨w2d, hw2d⟩ : ∃ W, w2.drew = W := ⟨_, rfl⟩
      have f9 : w2.drew.cell? ⟨wr.heap.size, 9, none⟩ = some (.int .i64 a.start) := e9
      have f10 : w2.drew.cell? ⟨wr.heap.size, 10, none⟩ = some (.int .i64 a.fin) := e10
      have H7 : Hid (Below w.heap.size w w2.drew) := hb2.out.drew
      clear hw2d
      go_region_held3 (fun W => W.cell? ⟨wr.heap.size, 9, none⟩ = some (.int .i64 a.start) ∧ W.cell? ⟨wr.heap.size, 10, none⟩ = some (.int .i64 a.fin)) (first | exact ⟨f9, f10⟩ | fail) (first | fail | fail)
      all_goals go_wp2
      all_goals exact ⟨⟨k + 1, _, _, rfl, rfl, by simp, by omega, H7.out, HN.out⟩, by simp [intOf]; omega⟩
    · obtain rfl : k = n := by omega
      have hs := HD.out
      rw [List.take_of_length_le (by rw [HL.out]; exact Nat.le_refl _)] at hs
      have HS : Hid (startM X = s ∧ finM X = f) := hs
      clear hs HD
      go_wp2
      go_ret
      refine ⟨?_, HB.out⟩
      unfold tookN
      rw [HS.out.1, HS.out.2]
      rfl
end Go.Proofs.YtfgmjgoegdiieaaDoor
