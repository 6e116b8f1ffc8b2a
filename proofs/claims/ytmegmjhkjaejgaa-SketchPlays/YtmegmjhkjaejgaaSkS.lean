/-
  Layer 13: the laws' own functions: sameBars; sketches that were made.
-/
import Derived.Test.YtmegmjhkjaejgaaSkQ
import Derived.Test.YtmegmjhkjaejgaaSkR
namespace Go.Proofs.Ytmegmjhkjaejgaa.sk
open Go.RowKit
set_option maxRecDepth 100000

/-- Are they one? -/
def sameB (l m : List (Int × Int)) : Bool := decide (l = m)
theorem sameB_eq {l m : List (Int × Int)} (h : l = m) : sameB l m = true := by unfold sameB; simpa using h
theorem sameB_ne {l m : List (Int × Int)} (h : l ≠ m) : sameB l m = false := by unfold sameB; simpa using h
def SameP (l m : List (Int × Int)) (w : World) (e : Ending) (w' : World) : Prop := e = .returned (.bool (sameB l m)) ∧ ∃ n, w' = w.drewN n
theorem drewN_drewN (w : World) (a b : Nat) : (w.drewN a).drewN b = w.drewN (a + b) := by
  induction b with
  | zero => rfl
  | succ b ih => rw [← Nat.add_assoc]; show ((w.drewN a).drewN b).drew = (w.drewN (a + b)).drew; rw [ih]
set_option maxHeartbeats 1000000 in
theorem same_any (ad bd : Option Addr) (n m ca cb : Nat) (a b : List (Int × Int)) (w : World) (hA : InAt w ad n a) (hB : InAt w bd m b) :
    Calls Try.prog 27 #[.slice ad n ca, .slice bd m cb] w (SameP a b w) := by
  have hn := hA.len
  have hm := hB.len
  unfold maxLen at hn hm
  have HLA : Hid (a.length = n) := hA.at_.len
  have HLB : Hid (b.length = m) := hB.at_.len
  by_cases hnm : n = m
  · subst hnm
    have HA : Hid _ := hA
    have HB : Hid _ := hB
    clear hA hB
    go_enter Try.func27, Try.ntmps27
    go_wp2
    go_loopw [5] (fun t wr => ∃ (k q : Nat), t = .int .i64 k ∧ k ≤ n ∧ wr = w.drewN q ∧ Hid (a.take k = b.take k)) (fun t _ => n - (intOf t).toNat)
    case atStart => exact ⟨0, 0, rfl, by omega, rfl, rfl⟩
    case round =>
      obtain ⟨k, q, rfl, hk, hwr, HT⟩ := hrel
      by_cases hlt : k < n
      · have hIA : InAt wr ad n a := by rw [hwr]; exact HA.out.upd ((Upd.refl (fun _ => False) w).drewN q) (fun _ _ h => h)
        have hIB : InAt wr bd n b := by rw [hwr]; exact HB.out.upd ((Upd.refl (fun _ => False) w).drewN q) (fun _ _ h => h)
        obtain ⟨ba, oa, rfl, hca⟩ := hIA.at_.lies (by omega)
        obtain ⟨bb, ob, rfl, hcb⟩ := hIB.at_.lies (by omega)
        have hka : k < a.length := by rw [HLA.out]; exact hlt
        have hkb : k < b.length := by rw [HLB.out]; exact hlt
        obtain ⟨c0, c1⟩ := hca k hka
        obtain ⟨d0, d1⟩ := hcb k hkb
        clear hca hcb hIA hIB
        have HTA : Hid _ := List.take_succ_eq_append_getElem hka
        have HTB : Hid _ := List.take_succ_eq_append_getElem hkb
        have HNE : Hid (a[k] ≠ b[k] → a ≠ b) := fun h e => h (by subst e; rfl)
        have HWR : Hid _ := hwr
        clear hwr
        generalize a[k] = x at *
        generalize b[k] = y at *
        obtain ⟨x1, x2⟩ := x
        obtain ⟨y1, y2⟩ := y
        simp only at c0 c1 d0 d1
        clear hka hkb
        by_cases h1 : x1 = y1
        · subst h1
          by_cases h2 : x2 = y2
          · subst h2
            have HT1 : Hid (a.take (k + 1) = b.take (k + 1)) := by show _ = _; rw [HTA.out, HTB.out, HT.out]
            clear HNE HTA HTB
            go_wp2
            go_quiet (fail)
            go_wp2
            go_roundw
            case rel => exact ⟨k + 1, q + nq, by go_num, by omega, by rw [HWR.out, drewN_drewN], HT1⟩
            case measure => simp [intOf]; omega
          · have hs : sameB a b = false := sameB_ne (HNE.out (fun e => h2 (by injection e)))
            have h2' : (x2 == y2) = false := by simpa using h2
            clear HNE HTA HTB HT h2
            have HE : Hid (∀ nq, SameP a b w (.returned (.bool false)) (wr.drewN nq)) := fun nq => ⟨by rw [hs], q + nq, by rw [HWR.out, drewN_drewN]⟩
            clear hs
            go_wp2
            go_quiet (fail)
            go_wp2
            go_ret
            exact HE.out _
        · have hs : sameB a b = false := sameB_ne (HNE.out (fun e => h1 (by injection e)))
          have h1' : (x1 == y1) = false := by simpa using h1
          clear HNE HTA HTB HT h1
          have HE : Hid (∀ nq, SameP a b w (.returned (.bool false)) (wr.drewN nq)) := fun nq => ⟨by rw [hs], q + nq, by rw [HWR.out, drewN_drewN]⟩
          clear hs
          go_wp2
          go_quiet (fail)
          go_wp2
          go_ret
          exact HE.out _
      · have HE : Hid (SameP a b w (.returned (.bool true)) wr) := by
          have ht := HT.out
          rw [List.take_of_length_le (by rw [HLA.out]; omega), List.take_of_length_le (by rw [HLB.out]; omega)] at ht
          exact ⟨by rw [sameB_eq ht], q, hwr⟩
        clear hwr HT
        go_wp2
        go_ret
        exact HE.out
  · have hne : sameB a b = false := sameB_ne (fun e => hnm (by rw [← HLA.out, ← HLB.out, e]))
    have hne' : ¬ (n : Int) = (m : Int) := by omega
    have hne2 : ((n : Int) == (m : Int)) = false := by simpa using hne'
    have HE : Hid (SameP a b w (.returned (.bool false)) w) := ⟨by rw [hne], 0, rfl⟩
    clear hne hne' hA hB hn hm HLA HLB
    go_enter Try.func27, Try.ntmps27
    go_wp2
    go_ret
    exact HE.out
end Go.Proofs.Ytmegmjhkjaejgaa.sk
