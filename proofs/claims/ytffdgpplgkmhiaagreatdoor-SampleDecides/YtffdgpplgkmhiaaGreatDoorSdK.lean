/-
  SdK.
-/
import Derived.Test.YtffdgpplgkmhiaaGreatDoorSdA
import Derived.Test.YtffdgpplgkmhiaaGreatDoorTGq
namespace Go.Proofs.YtffdgpplgkmhiaaGreatDoor
open Go Go.RowKit
set_option maxRecDepth 100000

/-- So far the spans may be those of one trace. -/
structure TrN (X : List Sp) (k : Nat) : Prop where
  chk : ∀ i (h : i < X.length), i < k → chkS X[i] = 0
  tr : ∀ i (h : i < X.length) (h0 : 0 < X.length), i < k → X[i].hi = X[0].hi ∧ X[i].lo = X[0].lo
  ids : ∀ i j (hi : i < X.length) (hj : j < X.length), i < j → j < k → X[i].id ≠ X[j].id
theorem TrN.zero (X : List Sp) : TrN X 0 := ⟨fun _ _ h => by omega, fun _ _ _ h => by omega, fun _ _ _ _ _ h => by omega⟩
theorem TrN.next {X : List Sp} {k : Nat} (h : TrN X k) (hk : k < X.length) (h1 : chkS X[k] = 0) (h2 : X[k].hi = (X[0]'(by omega)).hi ∧ X[k].lo = (X[0]'(by omega)).lo) (h3 : ∀ i (hi : i < X.length), i < k → X[i].id ≠ X[k].id) : TrN X (k + 1) := by
  refine ⟨fun i hi hik => ?_, fun i hi h0 hik => ?_, fun i j hi hj hij hjk => ?_⟩
  · by_cases e : i = k
    · subst e; exact h1
    · exact h.chk i hi (by omega)
  · by_cases e : i = k
    · subst e; exact h2
    · exact h.tr i hi h0 (by omega)
  · by_cases e : j = k
    · subst e; exact h3 i hi hij
    · exact h.ids i j hi hj hij (by omega)
theorem TrN.done {X : List Sp} (h : TrN X X.length) (hl : X.length ≤ 1000) (hF : ∀ a ∈ X, a.Fits) (hS : ∀ a ∈ X, a.Small) : OneT X := by
  refine ⟨hl, fun a ha => ?_, hF, hS, fun a ha b hb => ?_, ?_⟩
  · obtain ⟨i, hi, rfl⟩ := List.mem_iff_getElem.1 ha
    exact h.chk i hi hi
  · obtain ⟨i, hi, rfl⟩ := List.mem_iff_getElem.1 ha
    obtain ⟨j, hj, rfl⟩ := List.mem_iff_getElem.1 hb
    have q1 := h.tr i hi (by omega) hi
    have q2 := h.tr j hj (by omega) hj
    exact ⟨q1.1.trans q2.1.symm, q1.2.trans q2.2.symm⟩
  · unfold List.Nodup
    rw [List.pairwise_iff_getElem]
    intro i j hi hj hij
    rw [List.getElem_map, List.getElem_map]
    exact h.ids i j (by simpa using hi) (by simpa using hj) hij (by simpa using hj)
theorem OneT.apart {X : List Sp} (h : OneT X) {i j : Nat} (hi : i < X.length) (hj : j < X.length) (hij : i < j) : X[i].id ≠ X[j].id := by
  have := h.ids
  unfold List.Nodup at this
  rw [List.pairwise_iff_getElem] at this
  have := this i j (by simpa using hi) (by simpa using hj) hij
  rwa [List.getElem_map, List.getElem_map] at this
theorem run_neqTr {xs ys : Array Value} {b : Bool} {W : World} (h : (Op.equalIn 10000 28 (.agg xs) (.agg ys)).run Tryz.prog W = .ok b W) : (binOp .neq 28 (.agg xs) (.agg ys)).run Tryz.prog W = .ok (.bool (!b)) W := by
  rw [run_neq_struct, h]; rfl
set_option maxHeartbeats 8000000 in
theorem rTrace_any (ad : Option Addr) (n cap : Nat) (X : List Sp) (P : Nat → Pl) (w : World) (hX : SpsAt w ad n X P) (hF : ∀ a ∈ X, a.Fits) (hS : ∀ a ∈ X, a.Small) (hz : n ≤ 140737488355328) :
    Calls Tryz.prog 21 #[.slice ad n cap] w fun e w' => ∃ b, e = .returned (.bool b) ∧ (b = true ↔ OneT X) ∧ Below w.heap.size w w' := by
  have HX : Hid (SpsAt w ad n X P) := hX
  have HF : Hid (∀ a ∈ X, a.Fits) := hF
  have HS : Hid (∀ a ∈ X, a.Small) := hS
  have HL : Hid (X.length = n) := hX.len
  clear hX hF hS
  by_cases hn : n ≤ 1000
  rotate_left
  · have hn' : (1000 : Int) < (n : Int) := by omega
    go_enter Tryz.func21, Tryz.ntmps21
    go_wp2
    go_ret
    refine ⟨false, rfl, ⟨fun h => by simp at h, fun h => ?_⟩, Below.refl _ _⟩
    have := h.len
    have := HL.out
    omega
  go_enter Tryz.func21, Tryz.ntmps21
  go_wp2
  go_loopw [3] (fun z wr => ∃ k : Nat, z = .int .i64 k ∧ k ≤ n ∧ Hid (Below w.heap.size w wr ∧ TrN X k)) (fun z _ => n - (intOf z).toNat)
  case atStart => exact ⟨0, rfl, by omega, Below.refl _ _, TrN.zero X⟩
  case round =>
    obtain ⟨k, rfl, hkn, HD⟩ := hrel
    by_cases hlt : k < n
    · have hkX : k < X.length := by rw [HL.out]; exact hlt
      have h0X : 0 < X.length := by omega
      have hltd : (k : Int) < (n : Int) := by omega
      have hn0 : (0 : Int) < (n : Int) := by omega
      have hn0n : 0 < n := by omega
      have SX := HX.out.below HD.out.1
      obtain ⟨b1, o1, rfl, _⟩ := SX.lies (by omega)
      have RG : Hid (wr.rangeAt b1 (o1 + k * 13) (spC X[k] (P k)).toList) := SX.range k hkX
      have R0 : Hid (wr.rangeAt b1 (o1 + 0 * 13) (spC X[0] (P 0)).toList) := SX.range 0 h0X
      have HAT := SX.each k hkX
      have hsm := HS.out _ (List.getElem_mem hkX)
      obtain ⟨a, ha⟩ : ∃ a, X[k]'hkX = a := ⟨_, rfl⟩
      obtain ⟨p, hp⟩ : ∃ p, P k = p := ⟨_, rfl⟩
      obtain ⟨a0, ha0⟩ : ∃ a, X[0]'h0X = a := ⟨_, rfl⟩
      rw [ha, hp] at RG HAT
      rw [ha] at hsm
      rw [ha0] at R0
      have HA : Hid ((∃ h : k < X.length, X[k] = a) ∧ ∃ h : 0 < X.length, X[0] = a0) := ⟨⟨hkX, ha⟩, h0X, ha0⟩
      have KB : ∀ V, Below wr.heap.size wr V → V.cell? ⟨b1, o1 + k * 13, none⟩ = some (.int .u64 a.hi) ∧ V.cell? ⟨b1, o1 + k * 13 + 1, none⟩ = some (.int .u64 a.lo) ∧ V.cell? ⟨b1, o1 + k * 13 + 2, none⟩ = some (.int .u64 a.id) ∧ V.cell? ⟨b1, o1 + k * 13 + 3, none⟩ = some (.int .u64 a.par) ∧ V.cell? ⟨b1, o1 + k * 13 + 4, none⟩ = some (.slice p.la a.links.length p.lc) ∧ V.cell? ⟨b1, o1 + k * 13 + 5, none⟩ = some (.string a.svc) ∧ V.cell? ⟨b1, o1 + k * 13 + 6, none⟩ = some (.string a.op) ∧ V.cell? ⟨b1, o1 + k * 13 + 7, none⟩ = some (.int .i64 a.kind) ∧ V.cell? ⟨b1, o1 + k * 13 + 8, none⟩ = some (.int .i64 a.status) ∧ V.cell? ⟨b1, o1 + k * 13 + 9, none⟩ = some (.int .i64 a.start) ∧ V.cell? ⟨b1, o1 + k * 13 + 10, none⟩ = some (.int .i64 a.fin) ∧ V.cell? ⟨b1, o1 + k * 13 + 11, none⟩ = some (.slice p.aa a.attrs.length p.ac) ∧ V.cell? ⟨b1, o1 + k * 13 + 12, none⟩ = some (.slice p.ea a.events.length p.ec) ∧ V.cell? ⟨b1, o1, none⟩ = some (.int .u64 a0.hi) ∧ V.cell? ⟨b1, o1 + 1, none⟩ = some (.int .u64 a0.lo) := fun V hV => by
        have hlt1 : b1 < wr.heap.size := World.block_lt_of_cell? (a := ⟨b1, o1 + k * 13, none⟩) wr (by have := RG.out 0 _ rfl; simpa using this)
        have m : ∀ o u, wr.cell? ⟨b1, o, none⟩ = some u → V.cell? ⟨b1, o, none⟩ = some u := fun o u h => (hV.cell (p := ⟨b1, o, none⟩) hlt1).trans h
        refine ⟨m _ _ (by have := RG.out 0 _ rfl; simpa using this), m _ _ (RG.out 1 _ rfl), m _ _ (RG.out 2 _ rfl), m _ _ (RG.out 3 _ rfl), m _ _ (RG.out 4 _ rfl), m _ _ (RG.out 5 _ rfl), m _ _ (RG.out 6 _ rfl), m _ _ (RG.out 7 _ rfl), m _ _ (RG.out 8 _ rfl), m _ _ (RG.out 9 _ rfl), m _ _ (RG.out 10 _ rfl), m _ _ (RG.out 11 _ rfl), m _ _ (RG.out 12 _ rfl), m _ _ (by have := R0.out 0 _ rfl; simpa using this), m _ _ (by have := R0.out 1 _ rfl; simpa using this)⟩
      have CK := rCheck_any a p wr.drew (HAT.below (Below.refl _ _).drew) hsm
      unfold spV spC at CK
      have NT2 : ∀ W, (binOp .neq 28 (.agg #[.int .u64 a.hi, .int .u64 a.lo]) (.agg #[.int .u64 a0.hi, .int .u64 a0.lo])).run Tryz.prog W = .ok (.bool (!(decide (a.hi = a0.hi ∧ a.lo = a0.lo)))) W := fun W => run_neqTr (eqI_trace 9998 a.hi a.lo a0.hi a0.lo W)
      have hg := guard_trace
      have B0 : Below wr.heap.size wr wr.drew := (Below.refl _ _).drew
      obtain ⟨ck, hck⟩ : ∃ c, chkS a = c := ⟨_, rfl⟩
      have HCH : Hid (chkS a = ck) := hck
      rw [hck] at CK
      clear hck ha hp ha0 SX RG R0 HAT hsm
      go_upto_region 6 with fail
      by_cases hc0 : ck = 0
      · subst hc0
        by_cases heq : a.hi = a0.hi ∧ a.lo = a0.lo
        · have HEQ : Hid (a.hi = a0.hi ∧ a.lo = a0.lo) := heq
          have hb1 : decide (a.hi = a0.hi ∧ a.lo = a0.lo) = true := by simp [heq]
          simp only [hb1, Bool.not_true] at NT2
          clear heq hb1
          go_region_held3 (fun V => V.cell? ⟨b1, o1 + k * 13, none⟩ = some (.int .u64 a.hi) ∧ V.cell? ⟨b1, o1 + k * 13 + 1, none⟩ = some (.int .u64 a.lo) ∧ V.cell? ⟨b1, o1 + k * 13 + 2, none⟩ = some (.int .u64 a.id) ∧ V.cell? ⟨b1, o1 + k * 13 + 3, none⟩ = some (.int .u64 a.par) ∧ V.cell? ⟨b1, o1 + k * 13 + 4, none⟩ = some (.slice p.la a.links.length p.lc) ∧ V.cell? ⟨b1, o1 + k * 13 + 5, none⟩ = some (.string a.svc) ∧ V.cell? ⟨b1, o1 + k * 13 + 6, none⟩ = some (.string a.op) ∧ V.cell? ⟨b1, o1 + k * 13 + 7, none⟩ = some (.int .i64 a.kind) ∧ V.cell? ⟨b1, o1 + k * 13 + 8, none⟩ = some (.int .i64 a.status) ∧ V.cell? ⟨b1, o1 + k * 13 + 9, none⟩ = some (.int .i64 a.start) ∧ V.cell? ⟨b1, o1 + k * 13 + 10, none⟩ = some (.int .i64 a.fin) ∧ V.cell? ⟨b1, o1 + k * 13 + 11, none⟩ = some (.slice p.aa a.attrs.length p.ac) ∧ V.cell? ⟨b1, o1 + k * 13 + 12, none⟩ = some (.slice p.ea a.events.length p.ec) ∧ V.cell? ⟨b1, o1, none⟩ = some (.int .u64 a0.hi) ∧ V.cell? ⟨b1, o1 + 1, none⟩ = some (.int .u64 a0.lo)) (first | exact KB _ B0 | exact KB _ B1) (first
            | (go_at_call 43; (with_reducible refine CK.mono ?_); clear CK; rintro e w8 ⟨rfl, hb8⟩; have B1 : Below wr.heap.size wr w8 := B0.trans (hb8.mono B0.size); clear hb8)
            | fail)
          have K8 := KB w8 B1
          have y2 : w8.cell? ⟨b1, o1 + k * 13 + 2, none⟩ = some (.int .u64 a.id) := K8.2.2.1
          have HB8 : Hid (Below w.heap.size w w8) := HD.out.1.trans (B1.mono HD.out.1.size)
          clear KB B0 B1 K8 NT2
          go_wp2
          go_loopw [4] (fun z wx => ∃ i : Nat, z = .int .i64 i ∧ i ≤ k ∧ Hid (Below w8.heap.size w8 wx ∧ ∀ j (hj : j < X.length), j < i → X[j].id ≠ a.id)) (fun z _ => k - (intOf z).toNat)
          case atStart => exact ⟨0, rfl, by omega, Below.refl _ _, fun j hj h => by omega⟩
          case round =>
            obtain ⟨i, rfl, hik, HJ⟩ := hrel
            by_cases hli : i < k
            · have hlid : (i : Int) < (k : Int) := by omega
              have hlin : (i : Int) < (n : Int) := by omega
              have hiX : i < X.length := by rw [HL.out]; omega
              have hS2 : Below w.heap.size w wr := HB8.out.trans (HJ.out.1.mono HB8.out.size)
              have RI := (HX.out.below hS2).range i hiX
              obtain ⟨c, hc⟩ : ∃ c, X[i]'hiX = c := ⟨_, rfl⟩
              rw [hc] at RI
              have HC : Hid (∃ h : i < X.length, X[i] = c) := ⟨hiX, hc⟩
              have KI : wr.drew.cell? ⟨b1, o1 + i * 13 + 2, none⟩ = some (.int .u64 c.id) ∧ wr.drew.cell? ⟨b1, o1 + k * 13 + 2, none⟩ = some (.int .u64 a.id) := ⟨RI 2 _ rfl, (HJ.out.1.cell (p := ⟨b1, o1 + k * 13 + 2, none⟩) (World.block_lt_of_cell? w8 _ y2)).trans y2⟩
              have HJ2 : Hid (Below w8.heap.size w8 wr.drew) := HJ.out.1.drew
              clear RI hc hS2 y2
              go_upto_region 11 with fail
              by_cases hid : c.id = a.id
              · have hidb : (c.id == a.id) = true := by simp [hid]
                have HID : Hid (c.id = a.id) := hid
                clear hid
                go_region_held3 (fun V => V.cell? ⟨b1, o1 + i * 13 + 2, none⟩ = some (.int .u64 c.id) ∧ V.cell? ⟨b1, o1 + k * 13 + 2, none⟩ = some (.int .u64 a.id)) (first | exact KI | fail) (first | fail | fail)
                all_goals go_wp2
                all_goals go_ret
                all_goals refine ⟨false, rfl, ⟨fun h => by simp at h, fun h => ?_⟩, HB8.out.trans (HJ2.out.mono HB8.out.size)⟩
                all_goals exact absurd (by rw [HC.out.2, HA.out.1.2]; exact HID.out) (h.apart HC.out.1 HA.out.1.1 (by omega))
              · have hidb : (c.id == a.id) = false := by simp [hid]
                have HID : Hid (¬ c.id = a.id) := hid
                clear hid
                go_region_held3 (fun V => V.cell? ⟨b1, o1 + i * 13 + 2, none⟩ = some (.int .u64 c.id) ∧ V.cell? ⟨b1, o1 + k * 13 + 2, none⟩ = some (.int .u64 a.id)) (first | exact KI | fail) (first | fail | fail)
                all_goals go_wp2
                all_goals go_roundw
                case rel =>
                  refine ⟨i + 1, by simp, by omega, HJ2.out, fun j hj hji => ?_⟩
                  by_cases e : j < i
                  · exact HJ.out.2 j hj e
                  · obtain rfl : j = i := by omega
                    rw [HC.out.2]
                    exact HID.out
                case measure => (simp [intOf]; omega)
            · obtain rfl : i = k := by omega
              have HT : Hid (Below w.heap.size w wr ∧ TrN X (i + 1)) := by
                refine ⟨HB8.out.trans (HJ.out.1.mono HB8.out.size), HD.out.2.next HA.out.1.1 ?_ ?_ ?_⟩
                · rw [HA.out.1.2]; exact HCH.out
                · rw [HA.out.1.2, HA.out.2.2]; exact HEQ.out
                · rw [HA.out.1.2]; exact HJ.out.2
              clear HJ y2
              go_wp2
              go_roundw
              case rel => exact ⟨i + 1, by simp, by omega, HT⟩
              case measure => (simp [intOf]; omega)
        · have HEQ : Hid (¬ (a.hi = a0.hi ∧ a.lo = a0.lo)) := heq
          have hb1 : decide (a.hi = a0.hi ∧ a.lo = a0.lo) = false := decide_eq_false heq
          simp only [hb1, Bool.not_false] at NT2
          clear heq hb1
          go_region_held3 (fun V => V.cell? ⟨b1, o1 + k * 13, none⟩ = some (.int .u64 a.hi) ∧ V.cell? ⟨b1, o1 + k * 13 + 1, none⟩ = some (.int .u64 a.lo) ∧ V.cell? ⟨b1, o1 + k * 13 + 2, none⟩ = some (.int .u64 a.id) ∧ V.cell? ⟨b1, o1 + k * 13 + 3, none⟩ = some (.int .u64 a.par) ∧ V.cell? ⟨b1, o1 + k * 13 + 4, none⟩ = some (.slice p.la a.links.length p.lc) ∧ V.cell? ⟨b1, o1 + k * 13 + 5, none⟩ = some (.string a.svc) ∧ V.cell? ⟨b1, o1 + k * 13 + 6, none⟩ = some (.string a.op) ∧ V.cell? ⟨b1, o1 + k * 13 + 7, none⟩ = some (.int .i64 a.kind) ∧ V.cell? ⟨b1, o1 + k * 13 + 8, none⟩ = some (.int .i64 a.status) ∧ V.cell? ⟨b1, o1 + k * 13 + 9, none⟩ = some (.int .i64 a.start) ∧ V.cell? ⟨b1, o1 + k * 13 + 10, none⟩ = some (.int .i64 a.fin) ∧ V.cell? ⟨b1, o1 + k * 13 + 11, none⟩ = some (.slice p.aa a.attrs.length p.ac) ∧ V.cell? ⟨b1, o1 + k * 13 + 12, none⟩ = some (.slice p.ea a.events.length p.ec) ∧ V.cell? ⟨b1, o1, none⟩ = some (.int .u64 a0.hi) ∧ V.cell? ⟨b1, o1 + 1, none⟩ = some (.int .u64 a0.lo)) (first | exact KB _ B0 | exact KB _ B1) (first
            | (go_at_call 43; (with_reducible refine CK.mono ?_); clear CK; rintro e w8 ⟨rfl, hb8⟩; have B1 : Below wr.heap.size wr w8 := B0.trans (hb8.mono B0.size); clear hb8)
            | fail)
          have HB8 : Hid (Below w.heap.size w w8) := HD.out.1.trans (B1.mono HD.out.1.size)
          clear KB B0 B1 NT2
          go_wp2
          go_ret
          refine ⟨false, rfl, ⟨fun h => by simp at h, fun h => ?_⟩, HB8.out⟩
          have := h.tr _ (List.getElem_mem HA.out.1.1) _ (List.getElem_mem HA.out.2.1)
          rw [HA.out.1.2, HA.out.2.2] at this
          exact absurd this HEQ.out
      · have hcb : (ck != 0) = true := by simpa using hc0
        have ROW : ∀ V, Below wr.heap.size wr V → V.rangeAt b1 (o1 + k * 13) [.int .u64 a.hi, .int .u64 a.lo, .int .u64 a.id, .int .u64 a.par, .slice p.la a.links.length p.lc, .string a.svc, .string a.op, .int .i64 a.kind, .int .i64 a.status, .int .i64 a.start, .int .i64 a.fin, .slice p.aa a.attrs.length p.ac, .slice p.ea a.events.length p.ec] := fun V hV j u hu => by
          obtain ⟨x0, x1, x2, x3, x4, x5, x6, x7, x8, x9, x10, x11, x12, _⟩ := KB V hV
          match j, hu with
          | 0, hu => exact x0.trans hu
          | 1, hu => exact x1.trans hu
          | 2, hu => exact x2.trans hu
          | 3, hu => exact x3.trans hu
          | 4, hu => exact x4.trans hu
          | 5, hu => exact x5.trans hu
          | 6, hu => exact x6.trans hu
          | 7, hu => exact x7.trans hu
          | 8, hu => exact x8.trans hu
          | 9, hu => exact x9.trans hu
          | 10, hu => exact x10.trans hu
          | 11, hu => exact x11.trans hu
          | 12, hu => exact x12.trans hu
          | j + 13, hu => simp at hu
        refine wp_region_held (S := fun W => W.rangeAt b1 (o1 + k * 13) [.int .u64 a.hi, .int .u64 a.lo, .int .u64 a.id, .int .u64 a.par, .slice p.la a.links.length p.lc, .string a.svc, .string a.op, .int .i64 a.kind, .int .i64 a.status, .int .i64 a.start, .int .i64 a.fin, .slice p.aa a.attrs.length p.ac, .slice p.ea a.events.length p.ec]) (by kernel_rfl) ?_
        change wpAnyH _ _ _ _ _ _ _ _ (World.drew _)
        have hS := ROW _ B0
        refine takeH (i := 0) (v := .slice (some ⟨b1, o1, none⟩) n cap) rfl (by kernel_rfl) (by kernel_rfl) (by kernel_rfl) (fun _ _ _ h => h) (Or.inl ⟨by rfl, fun W hW => by go_simp⟩) hS ?_
        simp only [Act.put, List.setIfInBounds_toArray, List.set_cons_zero, List.set_cons_succ]
        refine takeH (i := 1) (v := .int .i64 k) rfl (by kernel_rfl) (by kernel_rfl) (by kernel_rfl) (fun _ _ _ h => h) (Or.inl ⟨by rfl, fun W hW => by go_simp⟩) hS ?_
        simp only [Act.put, List.setIfInBounds_toArray, List.set_cons_zero, List.set_cons_succ]
        refine takeH (i := 2) (v := .pointer (some ⟨b1, o1 + k * 13, none⟩)) rfl (by kernel_rfl) (by kernel_rfl) (by kernel_rfl) (fun _ _ _ h => h) (Or.inl ⟨by rfl, fun W hW => by go_simp⟩) hS ?_
        simp only [Act.put, List.setIfInBounds_toArray, List.set_cons_zero, List.set_cons_succ]
        refine takeH (i := 3) (v := .agg #[.int .u64 a.hi, .int .u64 a.lo, .int .u64 a.id, .int .u64 a.par, .slice p.la a.links.length p.lc, .string a.svc, .string a.op, .int .i64 a.kind, .int .i64 a.status, .int .i64 a.start, .int .i64 a.fin, .slice p.aa a.attrs.length p.ac, .slice p.ea a.events.length p.ec]) rfl (by kernel_rfl) (by kernel_rfl) (by kernel_rfl) (fun _ _ _ h => h) (yieldsIf_load_mid (by rfl) 36 _ rfl b1 (o1 + k * 13) rfl _ _ (fun W hW => hW) Tryz.underlying36 rfl (by kernel_rfl)) hS ?_
        simp only [Act.put, List.setIfInBounds_toArray, List.set_cons_zero, List.set_cons_succ]
        refine onlyH (i := 4) rfl (by kernel_rfl) (fun K hK => ?_)
        go_simp
        go_at_call 43
        (with_reducible refine CK.mono ?_)
        clear CK hS
        rintro e w8 ⟨rfl, hb8⟩
        have B1 : Below wr.heap.size wr w8 := B0.trans (hb8.mono B0.size)
        have hS := ROW _ B1
        refine hK _ _ ⟨hS, ?_⟩
        clear hK K
        refine takeH (i := 5) (v := .bool true) rfl (by kernel_rfl) (by kernel_rfl) (by kernel_rfl) (fun _ _ _ h => h) (Or.inl ⟨by rfl, fun W hW => by go_simp⟩) hS ?_
        simp only [Act.put, List.setIfInBounds_toArray, List.set_cons_zero, List.set_cons_succ]
        refine takeH (i := 6) (v := .bool true) rfl (by kernel_rfl) (by kernel_rfl) (by kernel_rfl) (fun _ _ _ h => h) (Or.inl ⟨by rfl, fun W hW => by go_simp⟩) hS ?_
        simp only [Act.put, List.setIfInBounds_toArray, List.set_cons_zero, List.set_cons_succ]
        refine takeH (i := 7) (v := undef) rfl (by kernel_rfl) (by kernel_rfl) (by kernel_rfl) (fun _ _ _ h => h) (Or.inr ⟨by rfl, rfl⟩) hS ?_
        simp only [Act.put, List.setIfInBounds_toArray, List.set_cons_zero, List.set_cons_succ]
        refine takeH (i := 8) (v := undef) rfl (by kernel_rfl) (by kernel_rfl) (by kernel_rfl) (fun _ _ _ h => h) (Or.inr ⟨by rfl, rfl⟩) hS ?_
        simp only [Act.put, List.setIfInBounds_toArray, List.set_cons_zero, List.set_cons_succ]
        refine takeH (i := 9) (v := undef) rfl (by kernel_rfl) (by kernel_rfl) (by kernel_rfl) (fun _ _ _ h => h) (Or.inr ⟨by rfl, rfl⟩) hS ?_
        simp only [Act.put, List.setIfInBounds_toArray, List.set_cons_zero, List.set_cons_succ]
        refine takeH (i := 10) (v := undef) rfl (by kernel_rfl) (by kernel_rfl) (by kernel_rfl) (fun _ _ _ h => h) (Or.inr ⟨by rfl, rfl⟩) hS ?_
        simp only [Act.put, List.setIfInBounds_toArray, List.set_cons_zero, List.set_cons_succ]
        refine takeH (i := 11) (v := undef) rfl (by kernel_rfl) (by kernel_rfl) (by kernel_rfl) (fun _ _ _ h => h) (Or.inr ⟨by rfl, rfl⟩) hS ?_
        simp only [Act.put, List.setIfInBounds_toArray, List.set_cons_zero, List.set_cons_succ]
        refine takeH (i := 12) (v := undef) rfl (by kernel_rfl) (by kernel_rfl) (by kernel_rfl) (fun _ _ _ h => h) (Or.inr ⟨by rfl, rfl⟩) hS ?_
        simp only [Act.put, List.setIfInBounds_toArray, List.set_cons_zero, List.set_cons_succ]
        refine takeH (i := 13) (v := undef) rfl (by kernel_rfl) (by kernel_rfl) (by kernel_rfl) (fun _ _ _ h => h) (Or.inr ⟨by rfl, rfl⟩) hS ?_
        simp only [Act.put, List.setIfInBounds_toArray, List.set_cons_zero, List.set_cons_succ]
        refine takeH (i := 14) (v := undef) rfl (by kernel_rfl) (by kernel_rfl) (by kernel_rfl) (fun _ _ _ h => h) (Or.inr ⟨by rfl, rfl⟩) hS ?_
        simp only [Act.put, List.setIfInBounds_toArray, List.set_cons_zero, List.set_cons_succ]
        refine takeH (i := 15) (v := undef) rfl (by kernel_rfl) (by kernel_rfl) (by kernel_rfl) (fun _ _ _ h => h) (Or.inr ⟨by rfl, rfl⟩) hS ?_
        simp only [Act.put, List.setIfInBounds_toArray, List.set_cons_zero, List.set_cons_succ]
        refine takeH (i := 16) (v := undef) rfl (by kernel_rfl) (by kernel_rfl) (by kernel_rfl) (fun _ _ _ h => h) (Or.inr ⟨by rfl, rfl⟩) hS ?_
        simp only [Act.put, List.setIfInBounds_toArray, List.set_cons_zero, List.set_cons_succ]
        refine takeH (i := 17) (v := .bool true) rfl (by kernel_rfl) (by kernel_rfl) (by kernel_rfl) (fun _ _ _ h => h) (Or.inl ⟨by rfl, fun W hW => by go_simp⟩) hS ?_
        simp only [Act.put, List.setIfInBounds_toArray, List.set_cons_zero, List.set_cons_succ]
        refine wpAnyH_done (by kernel_rfl) ?_ _
        have HB8 : Hid (Below w.heap.size w w8) := HD.out.1.trans (B1.mono HD.out.1.size)
        clear hS ROW KB B0 B1 hb8
        go_wp2
        go_ret
        refine ⟨false, rfl, ⟨fun h => by simp at h, fun h => ?_⟩, HB8.out⟩
        have := h.chk _ (List.getElem_mem HA.out.1.1)
        rw [HA.out.1.2, HCH.out] at this
        exact absurd this hc0
    · obtain rfl : k = n := by omega
      have HE : Hid (OneT X ∧ Below w.heap.size w wr) := by
        have h := HD.out.2
        rw [← HL.out] at h
        exact ⟨h.done (by rw [HL.out]; exact hn) HF.out HS.out, HD.out.1⟩
      clear HD
      go_wp2
      go_ret
      exact ⟨true, rfl, ⟨fun _ => HE.out.1, fun _ => rfl⟩, HE.out.2⟩
end Go.Proofs.YtffdgpplgkmhiaaGreatDoor
