/-
  Merged: SdD, SdE.
-/
import Derived.Test.YtfgmjgoegdiieaaDoorSdC
import Derived.Laws.ResultCell
namespace Go.Proofs.YtfgmjgoegdiieaaDoor
open Go Go.RowKit
set_option maxRecDepth 100000

/-- The greatest part. -/
def maxPart (L : List Pol) : Int := L.foldl (fun m p => if p.kind = 4 then max m p.part else m) 0
def sureB (p : Pol) (X : List Sp) : Bool := !decide (p.kind = 4) && holdsB p X
def weightN (L : List Pol) (X : List Sp) : Int := if L.any (fun p => sureB p X) = true then 65536 else 4294967296 / maxPart L
theorem maxPart_next (L : List Pol) (k : Nat) (hk : k < L.length) : maxPart (L.take (k + 1)) = if L[k].kind = 4 then max (maxPart (L.take k)) L[k].part else maxPart (L.take k) := by
  unfold maxPart
  rw [List.take_succ_eq_append_getElem hk, List.foldl_append]
  rfl
theorem maxPart_app (L : List Pol) (p : Pol) : maxPart (L ++ [p]) = if p.kind = 4 then max (maxPart L) p.part else maxPart L := by
  unfold maxPart
  rw [List.foldl_append]
  rfl
/-- What may be: parts lie within a whole. -/
theorem mayP_part {p : Pol} (h : mayP p = true) : 0 ≤ p.part ∧ p.part ≤ 65536 := by
  unfold mayP at h
  repeat' split at h
  all_goals simp at h
  all_goals omega
theorem maxPart_le : ∀ (L : List Pol), (∀ p ∈ L, mayP p = true) → 0 ≤ maxPart L ∧ maxPart L ≤ 65536 := by
  intro L
  unfold maxPart
  have : ∀ (L : List Pol) (m : Int), (∀ p ∈ L, mayP p = true) → 0 ≤ m → m ≤ 65536 → 0 ≤ L.foldl (fun m p => if p.kind = 4 then max m p.part else m) m ∧ L.foldl (fun m p => if p.kind = 4 then max m p.part else m) m ≤ 65536 := by
    intro L
    induction L with
    | nil => exact fun m _ h1 h2 => ⟨h1, h2⟩
    | cons p r ih =>
      intro m h h1 h2
      have hp := mayP_part (h p (by simp))
      rw [List.foldl_cons]
      refine ih _ (fun q hq => h q (by simp [hq])) ?_ ?_
      · by_cases hk : p.kind = 4
        · rw [if_pos hk]; omega
        · rw [if_neg hk]; exact h1
      · by_cases hk : p.kind = 4
        · rw [if_pos hk]; omega
        · rw [if_neg hk]; exact h2
  exact fun h => this L 0 h (by omega) (by omega)
theorem maxPart_ge : ∀ (L : List Pol) (p : Pol), p ∈ L → p.kind = 4 → p.part ≤ maxPart L := by
  have mono : ∀ (L : List Pol) (m : Int), m ≤ L.foldl (fun m p => if p.kind = 4 then max m p.part else m) m := by
    intro L
    induction L with
    | nil => exact fun m => Int.le_refl _
    | cons p r ih =>
      intro m
      rw [List.foldl_cons]
      refine Int.le_trans ?_ (ih _)
      by_cases hk : p.kind = 4
      · rw [if_pos hk]; omega
      · rw [if_neg hk]; exact Int.le_refl _
  have : ∀ (L : List Pol) (m : Int) (p : Pol), p ∈ L → p.kind = 4 → p.part ≤ L.foldl (fun m p => if p.kind = 4 then max m p.part else m) m := by
    intro L
    induction L with
    | nil => exact fun m p hp => by cases hp
    | cons q r ih =>
      intro m p hp hk
      rw [List.foldl_cons]
      rcases List.mem_cons.1 hp with e | e
      · subst e
        rw [if_pos hk]
        exact Int.le_trans (by omega) (mono r _)
      · exact ih _ p e hk
  exact fun L p hp hk => this L 0 p hp hk
set_option maxHeartbeats 8000000 in
theorem weightP_any (la : Option Addr) (n1 c1 : Nat) (L : List Pol) (ad : Option Addr) (n cap : Nat) (X : List Sp) (P : Nat → Pl) (w : World) (hL : PolAt w la n1 L) (hz : n1 ≤ 1000) (hX : SpsAt w ad n X P) (hF : ∀ a ∈ X, a.Fits) (hn : n ≤ 1000) (h0 : 0 < n) (hm : ∀ p ∈ L, mayP p = true) (hw : L.any (fun p => sureB p X) = true ∨ 0 < maxPart L) :
    Calls Tryd.prog 22 #[.slice la n1 c1, .slice ad n cap] w fun e w' => e = .returned (.int .u64 (weightN L X)) ∧ Below w.heap.size w w' := by
  have HL : Hid (PolAt w la n1 L) := hL
  have HX : Hid (SpsAt w ad n X P) := hX
  have HF : Hid (∀ a ∈ X, a.Fits) := hF
  have HM : Hid (∀ p ∈ L, mayP p = true) := hm
  have HW : Hid (L.any (fun p => sureB p X) = true ∨ 0 < maxPart L) := hw
  obtain ⟨wn, hwn⟩ : ∃ v, weightN L X = v := ⟨_, rfl⟩
  have HWN : Hid (weightN L X = wn) := hwn
  rw [hwn]
  clear hL hX hF hm hw hwn
  go_enter Tryd.func22, Tryd.ntmps22
  go_wp2
  go_loopw [5, 10] (fun z5 z wr => ∃ (k : Nat) (m : Int), z5 = .int .i64 m ∧ z = .int .i64 k ∧ k ≤ n1 ∧ Hid (Below w.heap.size w wr) ∧ Hid (maxPart (L.take k) = m ∧ ∀ i (h : i < L.length), i < k → sureB L[i] X = false)) (fun _ z _ => n1 - (intOf z).toNat)
  case atStart => exact ⟨0, _, rfl, rfl, by omega, Below.refl _ _, rfl, fun i _ h => by omega⟩
  case round =>
    obtain ⟨k, m, rfl, rfl, hkn, HB, HD⟩ := hrel
    by_cases hlt : k < n1
    · have hkL : k < L.length := by rw [HL.out.1]; exact hlt
      obtain ⟨b, o, rfl, hbl, hc⟩ := (HL.out.below HB.out).2 (by omega)
      have hci := hc k hkL
      have HN : Hid (maxPart (L.take (k + 1)) = if (L[k]'hkL).kind = 4 then max m (L[k]'hkL).part else m) := by
        have := maxPart_next L k hkL
        rw [HD.out.1] at this
        exact this
      have HHO : Hid (∀ i (h : i < L.length), i < k + 1 → i ≠ k → sureB L[i] X = false) := fun i h h1 h2 => HD.out.2 i h (by omega)
      obtain ⟨y, hy⟩ : ∃ y, L[k]'hkL = y := ⟨_, rfl⟩
      rw [hy] at hci HN
      have HY : Hid (∃ h : k < L.length, L[k] = y) := ⟨hkL, hy⟩
      have BN : Hid (∀ o, Below w.heap.size w (wr.alloc o)) := fun o => HB.out.alloc (HB.out.size) o
      have FA : Hid (∀ o, Calls Tryd.prog 21 #[polV y, .slice ad n cap] (wr.alloc o) fun e w' => e = .returned (.bool (holdsB y X)) ∧ Below (wr.alloc o).heap.size (wr.alloc o) w') := fun o => holdsP_any y ad n cap X P _ (HX.out.below (BN.out o)) HF.out hn h0
      have c0 := hci 0 _ rfl
      have c1 := hci 1 _ rfl
      have c2 := hci 2 _ rfl
      have c3 := hci 3 _ rfl
      rw [Nat.add_zero] at c0
      unfold polV at FA
      clear hc hci hy hbl
      obtain ⟨hb, hhb⟩ : ∃ t, holdsB y X = t := ⟨_, rfl⟩
      have HHB : Hid (holdsB y X = hb) := hhb
      rw [hhb] at FA
      clear hhb
      obtain ⟨kd, hkd⟩ : ∃ t, y.kind = t := ⟨_, rfl⟩
      have HKD : Hid (y.kind = kd) := hkd
      rw [hkd] at c0 FA HN
      clear hkd
      by_cases hk4 : kd = 4
      · subst hk4
        rw [if_pos rfl] at HN
        have HS : Hid (sureB y X = false) := by
          show sureB y X = false
          unfold sureB
          rw [HKD.out]
          simp
        clear FA
        go_wp2
        go_roundw
        case rel =>
          refine ⟨k + 1, _, rfl, by simp, by omega, BN.out _, HN.out, fun i hi hik => ?_⟩
          by_cases e : i = k
          · subst e
            rw [HY.out.2]
            exact HS.out
          · exact HHO.out i hi hik e
        case measure => (simp [intOf]; omega)
      · rw [if_neg hk4] at HN
        have hk4b : (kd == 4) = false := by simpa using hk4
        have HS : Hid (sureB y X = hb) := by
          show sureB y X = hb
          unfold sureB
          rw [HKD.out, HHB.out]
          simp [hk4]
        clear hk4
        rcases hb with _ | _
        · go_wp2_with (go_at_call 21; (with_reducible refine (FA.out _).mono ?_); clear FA; rintro e w1 ⟨rfl, hb1⟩; have H1 : Hid (Below w.heap.size w w1) := (BN.out _).trans (hb1.mono (BN.out _).size); clear hb1)
          go_roundw
          case rel =>
            refine ⟨k + 1, _, rfl, by simp, by omega, H1, HN.out, fun i hi hik => ?_⟩
            by_cases e : i = k
            · subst e
              rw [HY.out.2]
              exact HS.out
            · exact HHO.out i hi hik e
          case measure => (simp [intOf]; omega)
        · go_wp2_with (go_at_call 21; (with_reducible refine (FA.out _).mono ?_); clear FA; rintro e w1 ⟨rfl, hb1⟩; have H1 : Hid (Below w.heap.size w w1) := (BN.out _).trans (hb1.mono (BN.out _).size); clear hb1)
          go_ret
          refine ⟨?_, H1.out⟩
          have : wn = 65536 := by
            rw [← HWN.out]
            unfold weightN
            rw [if_pos (List.any_eq_true.2 ⟨y, by rw [← HY.out.2]; exact List.getElem_mem HY.out.1, HS.out⟩)]
          rw [this]
          rfl
    · obtain rfl : k = n1 := by omega
      have hsu : L.any (fun p => sureB p X) = false := by
        rw [Bool.eq_false_iff]
        intro h
        obtain ⟨y, hy, hq⟩ := List.any_eq_true.1 h
        obtain ⟨i, hi, rfl⟩ := List.mem_iff_getElem.1 hy
        exact absurd ((HD.out.2 i hi (by rw [← HL.out.1]; exact hi)).symm.trans hq) (by decide)
      have hmm : maxPart L = m := by
        have := HD.out.1
        rwa [List.take_of_length_le (by rw [HL.out.1]; exact Nat.le_refl _)] at this
      have hpos : 0 < m := by
        rcases HW.out with h | h
        · rw [hsu] at h; cases h
        · rw [← hmm]; exact h
      have hle := maxPart_le L HM.out
      rw [hmm] at hle
      have hq : wn = 4294967296 / m := by
        rw [← HWN.out]
        unfold weightN
        rw [hsu, if_neg (by simp), hmm]
      have wm : IntKind.u64.wrap m = m := by rw [IntKind.wrap_u64]; omega
      have wq : IntKind.u64.wrap (Int.tdiv 4294967296 m) = 4294967296 / m := by
        have h1 : 0 ≤ 4294967296 / m := Int.ediv_nonneg (by omega) (by omega)
        have h2 : 4294967296 / m ≤ 4294967296 := Int.ediv_le_self m (by omega)
        rw [Int.tdiv_eq_ediv_of_nonneg (by omega), IntKind.wrap_u64]
        omega
      have HQ : Hid (wn = 4294967296 / m ∧ 0 < m) := ⟨hq, hpos⟩
      clear hsu hmm hle hq HW HD hpos
      go_wp2
      · exact absurd HQ.out.2 (by omega)
      · go_ret
        refine ⟨?_, HB.out⟩
        rw [HQ.out.1]
        rfl
theorem byP_any (l : Pol) (q : Nat) (ad : Option Addr) (n cap : Nat) (X : List Sp) (P : Nat → Pl) (w : World) (hX : SpsAt w ad n X P) (hF : ∀ a ∈ X, a.Fits) (hn : n ≤ 1000) (h0 : 0 < n) (hq : Blk w q #[.slice ad n cap] 23) :
    Calls Tryd.prog 20 #[polV l, .pointer (some ⟨q, 0, none⟩)] w fun e w' => e = .returned (.bool (holdsB l X)) ∧ Below w.heap.size w w' := by
  have BB : Hid (∀ o, Below w.heap.size w (w.alloc o)) := fun o => (Below.refl _ _).alloc (Nat.le_refl _) _
  have FX : Hid (∀ o, Calls Tryd.prog 21 #[polV l, .slice ad n cap] (w.alloc o) fun e w' => e = .returned (.bool (holdsB l X)) ∧ Below (w.alloc o).heap.size (w.alloc o) w') := fun o => holdsP_any l ad n cap X P _ (hX.below (BB.out o)) hF hn h0
  have cq : ∀ o, (w.alloc o).cell? ⟨q, 0, none⟩ = some (.slice ad n cap) := fun o => (hq.alloc o).cell 0 rfl
  clear hX hF hq
  obtain ⟨t, ht⟩ : ∃ t, holdsB l X = t := ⟨_, rfl⟩
  rw [ht] at FX ⊢
  clear ht
  unfold polV at FX ⊢
  go_enter Tryd.func20, Tryd.ntmps20
  go_wp2_with (go_at_call 21; (with_reducible refine (FX.out _).mono ?_); clear FX; rintro e w1 ⟨rfl, hb1⟩)
  go_ret
  exact ⟨rfl, (BB.out _).trans (hb1.mono (BB.out _).size)⟩
/-- The first policy that holds. -/
def FirstR (L : List Pol) (X : List Sp) (r : Int) : Prop := (r = -1 ∧ L.any (fun p => holdsB p X) = false) ∨ ∃ i, ∃ h : i < L.length, r = (i : Int) ∧ holdsB L[i] X = true ∧ ∀ j (hj : j < L.length), j < i → holdsB L[j] X = false
theorem FirstR.one {L : List Pol} {X : List Sp} {r s : Int} (h : FirstR L X r) (k : FirstR L X s) : r = s := by
  rcases h with ⟨h1, h2⟩ | ⟨i, hi, h1, h2, h3⟩ <;> rcases k with ⟨k1, k2⟩ | ⟨j, hj, k1, k2, k3⟩
  · rw [h1, k1]
  · rw [List.any_eq_false] at h2
    exact absurd k2 (h2 _ (List.getElem_mem hj))
  · rw [List.any_eq_false] at k2
    exact absurd h2 (k2 _ (List.getElem_mem hi))
  · rw [h1, k1]
    by_cases e : i < j
    · exact absurd (h2.symm.trans (k3 i hi e)) (by decide)
    · by_cases e2 : j < i
      · exact absurd (k2.symm.trans (h3 j hj e2)) (by decide)
      · have : i = j := by omega
        rw [this]
set_option maxHeartbeats 8000000 in
theorem firstP_any (la : Option Addr) (n1 c1 : Nat) (L : List Pol) (q : Nat) (ad : Option Addr) (n cap : Nat) (X : List Sp) (P : Nat → Pl) (w : World) (hL : PolAt w la n1 L) (hz : n1 ≤ 1000) (hX : SpsAt w ad n X P) (hF : ∀ a ∈ X, a.Fits) (hn : n ≤ 1000) (h0 : 0 < n) (hq : Blk w q #[.slice ad n cap] 23) :
    Calls Tryd.prog 19 #[.slice la n1 c1, .func (.func 20) #[] #[.pointer (some ⟨q, 0, none⟩)]] w fun e w' => ∃ r : Int, e = .returned (.int .i64 r) ∧ FirstR L X r ∧ Below w.heap.size w w' := by
  have HL : Hid (PolAt w la n1 L) := hL
  have HX : Hid (SpsAt w ad n X P) := hX
  have HF : Hid (∀ a ∈ X, a.Fits) := hF
  have HQ : Hid (Blk w q #[.slice ad n cap] 23) := hq
  clear hL hX hF hq
  go_enter Tryd.func19, Tryd.ntmps19
  go_wp2
  go_loopw [8] (fun z wr => ∃ k : Nat, z = .int .i64 k ∧ k ≤ n1 ∧ Hid (Below w.heap.size w wr) ∧ Hid (∀ i (h : i < L.length), i < k → holdsB L[i] X = false)) (fun z _ => n1 - (intOf z).toNat)
  case atStart => exact ⟨0, rfl, by omega, Below.refl _ _, fun i _ h => by omega⟩
  case round =>
    obtain ⟨k, rfl, hkn, HB, HD⟩ := hrel
    by_cases hlt : k < n1
    · have hkL : k < L.length := by rw [HL.out.1]; exact hlt
      obtain ⟨b, o, rfl, hbl, hc⟩ := (HL.out.below HB.out).2 (by omega)
      have hci := hc k hkL
      obtain ⟨y, hy⟩ : ∃ y, L[k]'hkL = y := ⟨_, rfl⟩
      rw [hy] at hci
      have HY : Hid (∃ h : k < L.length, L[k] = y) := ⟨hkL, hy⟩
      have FA := byP_any y q ad n cap X P wr (HX.out.below HB.out) HF.out hn h0 (HQ.out.below HB.out HQ.out.lt)
      have c0 := hci 0 _ rfl
      have c1 := hci 1 _ rfl
      have c2 := hci 2 _ rfl
      have c3 := hci 3 _ rfl
      rw [Nat.add_zero] at c0
      unfold polV at FA
      clear hc hci hy hbl
      obtain ⟨hb, hhb⟩ : ∃ t, holdsB y X = t := ⟨_, rfl⟩
      have HHB : Hid (holdsB y X = hb) := hhb
      rw [hhb] at FA
      clear hhb
      rcases hb with _ | _
      · go_wp2_with (go_at_call 20; (with_reducible refine FA.mono ?_); clear FA; rintro e w1 ⟨rfl, hb1⟩; have H1 : Hid (Below w.heap.size w w1) := HB.out.trans (hb1.mono HB.out.size); clear hb1)
        go_roundw
        case rel =>
          refine ⟨k + 1, by simp, by omega, H1, fun i hi hik => ?_⟩
          by_cases e : i < k
          · exact HD.out i hi e
          · obtain rfl : i = k := by omega
            rw [HY.out.2]
            exact HHB.out
        case measure => (simp [intOf]; omega)
      · go_wp2_with (go_at_call 20; (with_reducible refine FA.mono ?_); clear FA; rintro e w1 ⟨rfl, hb1⟩; have H1 : Hid (Below w.heap.size w w1) := HB.out.trans (hb1.mono HB.out.size); clear hb1)
        go_ret
        exact ⟨_, rfl, Or.inr ⟨k, HY.out.1, rfl, by rw [HY.out.2]; exact HHB.out, fun j hj hjk => HD.out j hj hjk⟩, H1.out⟩
    · obtain rfl : k = n1 := by omega
      go_wp2
      go_ret
      refine ⟨_, rfl, Or.inl ⟨rfl, ?_⟩, HB.out⟩
      rw [Bool.eq_false_iff]
      intro h
      obtain ⟨y, hy, hq⟩ := List.any_eq_true.1 h
      obtain ⟨i, hi, rfl⟩ := List.mem_iff_getElem.1 hy
      exact absurd ((HD.out i hi (by rw [← HL.out.1]; exact hi)).symm.trans hq) (by decide)
end Go.Proofs.YtfgmjgoegdiieaaDoor

namespace Go.Proofs.YtfgmjgoegdiieaaDoor
open Go Go.RowKit
set_option maxRecDepth 100000

theorem veSizeD : (Tryd.prog.info? 41).map (·.size) = some 4 := by kernel_rfl
/-- The verdict. -/
def DecR (L : List Pol) (X : List Sp) (k : Bool) (q g e : Int) : Prop :=
  (chkP L ≠ 0 ∧ k = false ∧ q = 0 ∧ g = 0 ∧ e = chkP L) ∨
  (chkP L = 0 ∧ ¬ OneT X ∧ k = false ∧ q = 0 ∧ g = 0 ∧ e = 101) ∨
  (chkP L = 0 ∧ OneT X ∧ (X = [] ∨ FirstR L X (-1)) ∧ k = false ∧ q = -1 ∧ g = 0 ∧ e = 0) ∨
  (chkP L = 0 ∧ OneT X ∧ X ≠ [] ∧ 0 ≤ q ∧ FirstR L X q ∧ k = true ∧ g = weightN L X ∧ e = 0)
theorem DecR.one {L : List Pol} {X : List Sp} {k k' : Bool} {q g e q' g' e' : Int} (h : DecR L X k q g e) (h' : DecR L X k' q' g' e') : k = k' ∧ q = q' ∧ g = g' ∧ e = e' := by
  rcases h with ⟨a1, a2, a3, a4, a5⟩ | ⟨a1, a0, a2, a3, a4, a5⟩ | ⟨a1, a0, a6, a2, a3, a4, a5⟩ | ⟨a1, a0, a6, a7, a8, a2, a3, a4⟩ <;> rcases h' with ⟨b1, b2, b3, b4, b5⟩ | ⟨b1, b0, b2, b3, b4, b5⟩ | ⟨b1, b0, b6, b2, b3, b4, b5⟩ | ⟨b1, b0, b6, b7, b8, b2, b3, b4⟩
  all_goals first
    | exact absurd ‹chkP L = 0› ‹chkP L ≠ 0›
    | exact absurd ‹OneT X› ‹¬ OneT X›
    | exact ⟨a2.trans b2.symm, a3.trans b3.symm, a4.trans b4.symm, a5.trans b5.symm⟩
    | skip
  · rcases a6 with h | h
    · exact absurd h b6
    · have := h.one b8; omega
  · rcases b6 with h | h
    · exact absurd h a6
    · have := h.one a8; omega
  · exact ⟨a2.trans b2.symm, a8.one b8, a3.trans b3.symm, a4.trans b4.symm⟩
/-- What lies behind Decide's own two blocks. -/
structure DeG (w W : World) (la : Option Addr) (n1 : Nat) (L : List Pol) (ad : Option Addr) (n cap : Nat) (X : List Sp) (P : Nat → Pl) : Prop where
  pol : PolAt W la n1 L
  sps : SpsAt W ad n X P
  box : Blk W w.heap.size #[.slice ad n cap] 23
  ver : Blk W (w.heap.size + 1) #[.bool false, .int .i64 0, .int .u64 0, .int .u64 0] 41
  tab : Tabs W
  low : Below w.heap.size w W
theorem DeG.below {w W W' : World} {la : Option Addr} {n1 : Nat} {L : List Pol} {ad : Option Addr} {n cap : Nat} {X : List Sp} {P : Nat → Pl} (h : DeG w W la n1 L ad n cap X P) (hb : Below W.heap.size W W') : DeG w W' la n1 L ad n cap X P :=
  ⟨h.pol.below hb, h.sps.below hb, h.box.below hb h.box.lt, h.ver.below hb h.ver.lt, h.tab.below hb, h.low.trans (hb.mono h.low.size)⟩
theorem DeG.new {w : World} {la : Option Addr} {n1 : Nat} {L : List Pol} {ad : Option Addr} {n : Nat} (cap : Nat) {X : List Sp} {P : Nat → Pl} (hP : PolAt w la n1 L) (hX : SpsAt w ad n X P) (hT : Tabs w) : DeG w ((w.alloc (.cells #[.slice ad n cap] 23)).alloc (.cells #[.bool false, .int .i64 0, .int .u64 0, .int .u64 0] 41)) la n1 L ad n cap X P := by
  have b1 : Below w.heap.size w (w.alloc (.cells #[.slice ad n cap] 23)) := (Below.refl _ _).alloc (Nat.le_refl _) _
  have b2 := b1.alloc b1.size (.cells #[.bool false, .int .i64 0, .int .u64 0, .int .u64 0] 41)
  refine ⟨hP.below b2, hX.below b2, (Blk.new _ _ _).alloc _, ?_, hT.below b2, b2⟩
  have := Blk.new (w.alloc (.cells #[.slice ad n cap] 23)) #[.bool false, .int .i64 0, .int .u64 0, .int .u64 0] 41
  rwa [World.size_alloc] at this
theorem chkP_cases (L : List Pol) : chkP L = 0 ∨ chkP L = 211 := by
  unfold chkP
  split
  · exact Or.inl rfl
  · exact Or.inr rfl
theorem chkP_may {L : List Pol} (h : chkP L = 0) : L.length ≤ 20 ∧ ∀ p ∈ L, mayP p = true := by
  unfold chkP at h
  split at h
  · rename_i h1
    exact ⟨h1.1, fun p hp => List.all_eq_true.1 h1.2 p hp⟩
  · cases h
/-- A kept trace weighs something. -/
theorem first_weighs {L : List Pol} {X : List Sp} {r : Int} (hm : ∀ p ∈ L, mayP p = true) (hX : X ≠ []) (hF : ∀ a ∈ X, a.Fits) (h : FirstR L X r) (hr : 0 ≤ r) : L.any (fun p => sureB p X) = true ∨ 0 < maxPart L := by
  rcases h with ⟨h1, _⟩ | ⟨i, hi, h1, h2, _⟩
  · omega
  · by_cases hk : L[i].kind = 4
    · right
      have h3 := maxPart_ge L _ (List.getElem_mem hi) hk
      have h4 := mayP_part (hm _ (List.getElem_mem hi))
      unfold holdsB at h2
      rw [hk] at h2
      simp only [show ¬ (4 : Int) = 1 by decide, show ¬ (4 : Int) = 2 by decide, show ¬ (4 : Int) = 3 by decide, if_false, if_true, decide_eq_true_eq] at h2
      rw [IntKind.wrap_u64] at h2
      have h5 : 0 ≤ firstMix X := by
        match X, hX with
        | a :: r, _ =>
          show 0 ≤ mix48 a
          unfold mix48
          exact Int.ediv_nonneg (bvI_lo _) (by omega)
      omega
    · left
      exact List.any_eq_true.2 ⟨_, List.getElem_mem hi, by unfold sureB; rw [h2]; simp [hk]⟩
set_option maxHeartbeats 8000000 in
theorem decideP_any (la : Option Addr) (n1 c1 : Nat) (L : List Pol) (ad : Option Addr) (n cap : Nat) (X : List Sp) (P : Nat → Pl) (w : World) (hL : PolAt w la n1 L) (hs : ∀ p ∈ L, p.name.size ≤ 140737488355328) (hz : n1 ≤ 140737488355328) (hX : SpsAt w ad n X P) (hF : ∀ a ∈ X, a.Fits) (hS : ∀ a ∈ X, a.Small) (hT : Tabs w) :
    Calls Tryd.prog 9 #[.slice la n1 c1, .slice ad n cap] w fun e w' => ∃ (k : Bool) (q g er : Int), e = .returned (.tuple #[.agg #[.bool k, .int .i64 q, .int .u64 0, .int .u64 g], .int .i64 er]) ∧ DecR L X k q g er ∧ Below w.heap.size w w' := by
  have E0 := DeG.new cap hL hX hT
  have CK := checkP_any la n1 c1 L _ E0.pol hs hz E0.tab
  have HE0 : Hid (DeG w _ la n1 L ad n cap X P) := E0
  have HF : Hid (∀ a ∈ X, a.Fits) := hF
  have HS : Hid (∀ a ∈ X, a.Small) := hS
  have HLL : Hid (L.length = n1) := hL.1
  have HXL : Hid (X.length = n) := hX.len
  clear hL hX hT hs hF hS E0
  obtain ⟨ck, hck⟩ : ∃ c, chkP L = c := ⟨_, rfl⟩
  have HCK : Hid (chkP L = ck) := hck
  have hcc := chkP_cases L
  rw [hck] at CK hcc
  clear hck
  have hcr : ck = 211 ∨ ck = 0 := by omega
  clear hcc
  rcases hcr with rfl | rfl
  · go_enter Tryd.func9, Tryd.ntmps9
    go_wp2_with (go_at_call 5; (with_reducible refine CK.mono ?_); clear CK; rintro e w1 ⟨rfl, hb1⟩; have E1 := HE0.out.below hb1; have HE1 : Hid (DeG w w1 la n1 L ad n cap X P) := E1; have o0 := E1.ver.cell 0 rfl; have g0 := E1.ver.frozen 0; have o1 := E1.ver.cell 1 rfl; have g1 := E1.ver.frozen 1; have o2 := E1.ver.cell 2 rfl; have g2 := E1.ver.frozen 2; have o3 := E1.ver.cell 3 rfl; have g3 := E1.ver.frozen 3; clear hb1 E1 HE0)
    (try simp only [Exit.inBlock, Exit.then])
    have EE := HE1.out
    have hb0 := EE.low
    have hrow := (((EE.ver.set 0 (.bool false)).set 1 (.int .i64 0)).set 2 (.int .u64 0)).set 3 (.int .u64 0)
    have hld := run_loadVar_row (P := Tryd.prog) _ (w.heap.size + 1) 41 41 #[.bool false, .int .i64 0, .int .u64 0, .int .u64 0] (0, 0) _ hrow Tryd.underlying41 rfl veSizeD
    have hs : w.heap.size ≤ w.heap.size + 1 := by omega
    refine bodyPost_ret (v := .tuple #[.agg #[.bool false, .int .i64 0, .int .u64 0, .int .u64 0], .int .i64 211]) ?_ rfl ⟨_, _, _, _, rfl, Or.inl ⟨by rw [HCK.out]; decide, rfl, rfl, rfl, HCK.out.symm⟩, (((hb0.setCell (p := ⟨w.heap.size + 1, 0, none⟩) hs _).setCell (p := ⟨w.heap.size + 1, 1, none⟩) hs _).setCell (p := ⟨w.heap.size + 1, 2, none⟩) hs _).setCell (p := ⟨w.heap.size + 1, 3, none⟩) hs _⟩
    rw [results_cell_tmp rfl]
    simp [asAddr, Result.andThen, hld]
  · have HM : Hid (L.length ≤ 20 ∧ ∀ p ∈ L, mayP p = true) := chkP_may HCK.out
    by_cases hO : OneT X
    · have HO : Hid (OneT X) := hO
      clear hO
      by_cases hn0 : n = 0
      · have HNX : Hid (X = []) := List.eq_nil_of_length_eq_zero (by rw [HXL.out]; exact hn0)
        have n0b : ((n : Int) == 0) = true := by simp; omega
        clear hn0
        go_enter Tryd.func9, Tryd.ntmps9
        go_wp2_with (first
          | (go_at_call 5; (with_reducible refine CK.mono ?_); clear CK; rintro e w1 ⟨rfl, hb1⟩; have E1 := HE0.out.below hb1; have HE1 : Hid (DeG w w1 la n1 L ad n cap X P) := E1; have k1 := E1.box.cell 0 rfl; have OT := oneTraceP_any ad n cap X P w1 E1.sps HF.out HS.out E1.tab; clear hb1 E1 HE0)
          | (go_at_call 18; (with_reducible refine OT.mono ?_); clear OT; rintro e w2 ⟨t, rfl, ht, hb2⟩; obtain rfl : t = true := ht.2 HO.out; have E2 := HE1.out.below hb2; have HE2 : Hid (DeG w w2 la n1 L ad n cap X P) := E2; have o0 := E2.ver.cell 0 rfl; have g0 := E2.ver.frozen 0; have o1 := E2.ver.cell 1 rfl; have g1 := E2.ver.frozen 1; have o2 := E2.ver.cell 2 rfl; have g2 := E2.ver.frozen 2; have o3 := E2.ver.cell 3 rfl; have g3 := E2.ver.frozen 3; have k2 := E2.box.cell 0 rfl; clear k1; clear hb2 E2 HE1 ht))
        (try simp only [Exit.inBlock, Exit.then])
        have EE := HE2.out
        have hb0 := EE.low
        have hrow := (((EE.ver.set 0 (.bool false)).set 1 (.int .i64 (-1))).set 2 (.int .u64 0)).set 3 (.int .u64 0)
        have hld := run_loadVar_row (P := Tryd.prog) _ (w.heap.size + 1) 41 41 #[.bool false, .int .i64 (-1), .int .u64 0, .int .u64 0] (0, 0) _ hrow Tryd.underlying41 rfl veSizeD
        have hs : w.heap.size ≤ w.heap.size + 1 := by omega
        refine bodyPost_ret (v := .tuple #[.agg #[.bool false, .int .i64 (-1), .int .u64 0, .int .u64 0], .int .i64 0]) ?_ rfl ⟨_, _, _, _, rfl, Or.inr (Or.inr (Or.inl ⟨HCK.out, HO.out, Or.inl HNX.out, rfl, rfl, rfl, rfl⟩)), (((hb0.setCell (p := ⟨w.heap.size + 1, 0, none⟩) hs _).setCell (p := ⟨w.heap.size + 1, 1, none⟩) hs _).setCell (p := ⟨w.heap.size + 1, 2, none⟩) hs _).setCell (p := ⟨w.heap.size + 1, 3, none⟩) hs _⟩
        rw [results_cell_tmp rfl]
        simp [asAddr, Result.andThen, hld]
      · have HN : Hid (0 < n) := by show 0 < n; omega
        have HNX : Hid (X ≠ []) := fun e => by have := HXL.out; rw [e] at this; exact hn0 this.symm
        have n0b : ((n : Int) == 0) = false := by simp; omega
        clear hn0
        obtain ⟨an, han⟩ : ∃ t, L.any (fun p => holdsB p X) = t := ⟨_, rfl⟩
        rcases an with _ | _
        · have HFI : Hid (∀ r, FirstR L X r → r = -1) := fun r hr => hr.one (Or.inl ⟨rfl, han⟩)
          clear han
          go_enter Tryd.func9, Tryd.ntmps9
          go_wp2_with (first
            | (go_at_call 5; (with_reducible refine CK.mono ?_); clear CK; rintro e w1 ⟨rfl, hb1⟩; have E1 := HE0.out.below hb1; have HE1 : Hid (DeG w w1 la n1 L ad n cap X P) := E1; have k1 := E1.box.cell 0 rfl; have OT := oneTraceP_any ad n cap X P w1 E1.sps HF.out HS.out E1.tab; clear hb1 E1 HE0)
            | (go_at_call 18; (with_reducible refine OT.mono ?_); clear OT; rintro e w2 ⟨t, rfl, ht, hb2⟩; obtain rfl : t = true := ht.2 HO.out; have E2 := HE1.out.below hb2; have HE2 : Hid (DeG w w2 la n1 L ad n cap X P) := E2; have k2 := E2.box.cell 0 rfl; clear k1; have FI := firstP_any la n1 c1 L w.heap.size ad n cap X P w2 E2.pol (by have := HM.out.1; have := HLL.out; omega) E2.sps HF.out (by have := HO.out.len; have := HXL.out; omega) HN.out E2.box; clear hb2 E2 HE1 ht)
            | (go_at_call 19; (with_reducible refine FI.mono ?_); clear FI; rintro e w3 ⟨r, rfl, hr, hb3⟩; have hr1 : r = -1 := HFI.out r hr; subst hr1; have HR : Hid (FirstR L X (-1)) := hr; clear hr; have E3 := HE2.out.below hb3; have HE3 : Hid (DeG w w3 la n1 L ad n cap X P) := E3; have o0 := E3.ver.cell 0 rfl; have g0 := E3.ver.frozen 0; have o1 := E3.ver.cell 1 rfl; have g1 := E3.ver.frozen 1; have o2 := E3.ver.cell 2 rfl; have g2 := E3.ver.frozen 2; have o3 := E3.ver.cell 3 rfl; have g3 := E3.ver.frozen 3; clear hb3 E3 HE2 k2))
          (try simp only [Exit.inBlock, Exit.then])
          have EE := HE3.out
          have hb0 := EE.low
          have hrow := (((EE.ver.set 0 (.bool false)).set 1 (.int .i64 (-1))).set 2 (.int .u64 0)).set 3 (.int .u64 0)
          have hld := run_loadVar_row (P := Tryd.prog) _ (w.heap.size + 1) 41 41 #[.bool false, .int .i64 (-1), .int .u64 0, .int .u64 0] (0, 0) _ hrow Tryd.underlying41 rfl veSizeD
          have hs : w.heap.size ≤ w.heap.size + 1 := by omega
          refine bodyPost_ret (v := .tuple #[.agg #[.bool false, .int .i64 (-1), .int .u64 0, .int .u64 0], .int .i64 0]) ?_ rfl ⟨_, _, _, _, rfl, Or.inr (Or.inr (Or.inl ⟨HCK.out, HO.out, Or.inr HR.out, rfl, rfl, rfl, rfl⟩)), (((hb0.setCell (p := ⟨w.heap.size + 1, 0, none⟩) hs _).setCell (p := ⟨w.heap.size + 1, 1, none⟩) hs _).setCell (p := ⟨w.heap.size + 1, 2, none⟩) hs _).setCell (p := ⟨w.heap.size + 1, 3, none⟩) hs _⟩
          rw [results_cell_tmp rfl]
          simp [asAddr, Result.andThen, hld]
        · have HFI : Hid (∀ r, FirstR L X r → ∃ i : Nat, r = (i : Int)) := fun r hr => by
            rcases hr with ⟨_, h⟩ | ⟨i, _, h, _⟩
            · rw [han] at h; cases h
            · exact ⟨i, h⟩
          clear han
          go_enter Tryd.func9, Tryd.ntmps9
          go_wp2_with (first
            | (go_at_call 5; (with_reducible refine CK.mono ?_); clear CK; rintro e w1 ⟨rfl, hb1⟩; have E1 := HE0.out.below hb1; have HE1 : Hid (DeG w w1 la n1 L ad n cap X P) := E1; have k1 := E1.box.cell 0 rfl; have OT := oneTraceP_any ad n cap X P w1 E1.sps HF.out HS.out E1.tab; clear hb1 E1 HE0)
            | (go_at_call 18; (with_reducible refine OT.mono ?_); clear OT; rintro e w2 ⟨t, rfl, ht, hb2⟩; obtain rfl : t = true := ht.2 HO.out; have E2 := HE1.out.below hb2; have HE2 : Hid (DeG w w2 la n1 L ad n cap X P) := E2; have k2 := E2.box.cell 0 rfl; clear k1; have FI := firstP_any la n1 c1 L w.heap.size ad n cap X P w2 E2.pol (by have := HM.out.1; have := HLL.out; omega) E2.sps HF.out (by have := HO.out.len; have := HXL.out; omega) HN.out E2.box; clear hb2 E2 HE1 ht)
            | (go_at_call 19; (with_reducible refine FI.mono ?_); clear FI; rintro e w3 ⟨r, rfl, hr, hb3⟩; have hr1 : ∃ i : Nat, r = (i : Int) := HFI.out r hr; obtain ⟨i, rfl⟩ := hr1; have HR : Hid (FirstR L X (i : Int)) := hr; clear hr; have E3 := HE2.out.below hb3; have HE3 : Hid (DeG w w3 la n1 L ad n cap X P) := E3; have k3 := E3.box.cell 0 rfl; have WE := weightP_any la n1 c1 L ad n cap X P w3 E3.pol (by have := HM.out.1; have := HLL.out; omega) E3.sps HF.out (by have := HO.out.len; have := HXL.out; omega) HN.out HM.out.2 (first_weighs HM.out.2 HNX.out HF.out HR.out (by omega)); clear hb3 E3 HE2 k2)
            | (go_at_call 22; (with_reducible refine WE.mono ?_); clear WE; rintro e w4 ⟨rfl, hb4⟩; have E4 := HE3.out.below hb4; have HE4 : Hid (DeG w w4 la n1 L ad n cap X P) := E4; have o0 := E4.ver.cell 0 rfl; have g0 := E4.ver.frozen 0; have o1 := E4.ver.cell 1 rfl; have g1 := E4.ver.frozen 1; have o2 := E4.ver.cell 2 rfl; have g2 := E4.ver.frozen 2; have o3 := E4.ver.cell 3 rfl; have g3 := E4.ver.frozen 3; clear hb4 E4 HE3 k3))
          (try simp only [Exit.inBlock, Exit.then])
          have EE := HE4.out
          have hb0 := EE.low
          have hrow := (((EE.ver.set 0 (.bool true)).set 1 (.int .i64 (i : Int))).set 2 (.int .u64 0)).set 3 (.int .u64 (weightN L X))
          have hld := run_loadVar_row (P := Tryd.prog) _ (w.heap.size + 1) 41 41 #[.bool true, .int .i64 (i : Int), .int .u64 0, .int .u64 (weightN L X)] (0, 0) _ hrow Tryd.underlying41 rfl veSizeD
          have hs : w.heap.size ≤ w.heap.size + 1 := by omega
          refine bodyPost_ret (v := .tuple #[.agg #[.bool true, .int .i64 (i : Int), .int .u64 0, .int .u64 (weightN L X)], .int .i64 0]) ?_ rfl ⟨_, _, _, _, rfl, Or.inr (Or.inr (Or.inr ⟨HCK.out, HO.out, HNX.out, by omega, HR.out, rfl, rfl, rfl⟩)), (((hb0.setCell (p := ⟨w.heap.size + 1, 0, none⟩) hs _).setCell (p := ⟨w.heap.size + 1, 1, none⟩) hs _).setCell (p := ⟨w.heap.size + 1, 2, none⟩) hs _).setCell (p := ⟨w.heap.size + 1, 3, none⟩) hs _⟩
          rw [results_cell_tmp rfl]
          simp [asAddr, Result.andThen, hld]
    · have HO : Hid (¬ OneT X) := hO
      clear hO
      go_enter Tryd.func9, Tryd.ntmps9
      go_wp2_with (first
        | (go_at_call 5; (with_reducible refine CK.mono ?_); clear CK; rintro e w1 ⟨rfl, hb1⟩; have E1 := HE0.out.below hb1; have HE1 : Hid (DeG w w1 la n1 L ad n cap X P) := E1; have k1 := E1.box.cell 0 rfl; have OT := oneTraceP_any ad n cap X P w1 E1.sps HF.out HS.out E1.tab; clear hb1 E1 HE0)
        | (go_at_call 18; (with_reducible refine OT.mono ?_); clear OT; rintro e w2 ⟨t, rfl, ht, hb2⟩; obtain rfl : t = false := (Bool.eq_false_iff.2 (fun h => HO.out (ht.1 h))); have E2 := HE1.out.below hb2; have HE2 : Hid (DeG w w2 la n1 L ad n cap X P) := E2; have o0 := E2.ver.cell 0 rfl; have g0 := E2.ver.frozen 0; have o1 := E2.ver.cell 1 rfl; have g1 := E2.ver.frozen 1; have o2 := E2.ver.cell 2 rfl; have g2 := E2.ver.frozen 2; have o3 := E2.ver.cell 3 rfl; have g3 := E2.ver.frozen 3; clear k1; clear hb2 E2 HE1 ht))
      (try simp only [Exit.inBlock, Exit.then])
      have EE := HE2.out
      have hb0 := EE.low
      have hrow := (((EE.ver.set 0 (.bool false)).set 1 (.int .i64 0)).set 2 (.int .u64 0)).set 3 (.int .u64 0)
      have hld := run_loadVar_row (P := Tryd.prog) _ (w.heap.size + 1) 41 41 #[.bool false, .int .i64 0, .int .u64 0, .int .u64 0] (0, 0) _ hrow Tryd.underlying41 rfl veSizeD
      have hs : w.heap.size ≤ w.heap.size + 1 := by omega
      refine bodyPost_ret (v := .tuple #[.agg #[.bool false, .int .i64 0, .int .u64 0, .int .u64 0], .int .i64 101]) ?_ rfl ⟨_, _, _, _, rfl, Or.inr (Or.inl ⟨HCK.out, HO.out, rfl, rfl, rfl, rfl⟩), (((hb0.setCell (p := ⟨w.heap.size + 1, 0, none⟩) hs _).setCell (p := ⟨w.heap.size + 1, 1, none⟩) hs _).setCell (p := ⟨w.heap.size + 1, 2, none⟩) hs _).setCell (p := ⟨w.heap.size + 1, 3, none⟩) hs _⟩
      rw [results_cell_tmp rfl]
      simp [asAddr, Result.andThen, hld]
end Go.Proofs.YtfgmjgoegdiieaaDoor
