/-
  Layer 13 (sketch): SketchPlays: kept, over.
-/
import Derived.Test.YtmegmjhkjaejgaaLB
namespace Go.Proofs.Ytmegmjhkjaejgaa.sk.pl
open Go Go.RowKit Go.Proofs.Ytmegmjhkjaejgaa.sk
set_option maxRecDepth 100000

def ovB (b : Int × Int) : Int × Int := (b.1, b.2 / 2 + 1)
theorem bin_ov {l : List (Int × Int)} (h : Bin l) : Bin (l.map ovB) := by
  intro b hb
  obtain ⟨x, hx, rfl⟩ := List.mem_map.1 hb
  have := h x hx
  unfold ovB
  exact ⟨this.1, this.2.1, by simp only; omega, by simp only; omega⟩
theorem flat_set : ∀ (L : List (Int × Int)) (i : Nat) (h : i < L.length) (t : Int), (L.flatMap barC).set (i * 2 + 1) (.int .u64 t) = (L.set i (L[i].1, t)).flatMap barC
  | [], i, h, t => absurd h (by simp)
  | b :: L, 0, h, t => by simp [barC]
  | b :: L, i + 1, h, t => by
    have ih := flat_set L i (by simpa using h) t
    rw [List.flatMap_cons, List.set_cons_succ, List.flatMap_cons, List.getElem_cons_succ, ← ih]
    have h2 : (barC b).length = 2 := rfl
    rw [List.set_append_right _ _ (by omega), h2, show (i + 1) * 2 + 1 - 2 = i * 2 + 1 by omega]
theorem LentAt.setK {base : Nat} {w : World} {g n c : Nat} {L : List (Int × Int)} (h : LentAt base w g n c L) (i : Nat) (hi : i < L.length) (t : Int) :
    LentAt base (w.setCell ⟨g, i * 2 + 1, none⟩ (.int .u64 t)) g n c (L.set i (L[i].1, t)) ∧ Upd (fun k => k = g) w (w.setCell ⟨g, i * 2 + 1, none⟩ (.int .u64 t)) := by
  refine ⟨⟨?_, by rw [List.length_set]; exact h.len⟩, upd_one w g _ _⟩
  have hl : (L ++ [((-71 : Int), (0 : Int)), (-72, 0)]).length = n + 2 := by rw [List.length_append, h.len]; rfl
  have h1 := h.own
  unfold OwnBar at h1
  rw [hl] at h1
  have h2 := ownsRow_set h1 (i * 2 + 1) (.int .u64 t)
  rw [flat_set _ i (by simp; omega) t] at h2
  unfold OwnBar
  rw [List.getElem_append_left hi, List.set_append_left _ _ hi] at h2
  rw [List.length_append, List.length_set, h.len]
  exact h2
theorem LentAt.cell {base : Nat} {w : World} {g n c : Nat} {L : List (Int × Int)} (h : LentAt base w g n c L) (i : Nat) (hi : i < L.length) : w.cell? ⟨g, i * 2 + 1, none⟩ = some (.int .u64 L[i].2) ∧ w.frozen? ⟨g, i * 2 + 1, none⟩ = false := by
  obtain ⟨b, off, e, hc⟩ := h.front.lies (by have := h.len; omega)
  simp at e
  obtain ⟨rfl, rfl⟩ := e
  have := (hc i hi).2
  rw [Nat.zero_add] at this
  refine ⟨this, ?_⟩
  rcases h.own.2 with ⟨e, _⟩ | ⟨g', cap, cur, e, _, hh, _⟩
  · cases e
  · injection e with e _ _
    injection e with e
    injection e with e
    subst e
    exact blk_free hh _
theorem LentAt.marks {base : Nat} {w : World} {g n c : Nat} {L : List (Int × Int)} (h : LentAt base w g n c L) : w.cell? ⟨g, n * 2, none⟩ = some (.int .i64 (-71)) ∧ w.cell? ⟨g, n * 2 + 1, none⟩ = some (.int .u64 0) ∧ w.cell? ⟨g, (n + 1) * 2, none⟩ = some (.int .i64 (-72)) ∧ w.cell? ⟨g, (n + 1) * 2 + 1, none⟩ = some (.int .u64 0) := by
  have hl := h.len
  obtain ⟨b, off, e, hc⟩ := h.all.lies (by omega)
  simp at e
  obtain ⟨rfl, rfl⟩ := e
  have h1 := hc n (by simp; omega)
  have h2 := hc (n + 1) (by simp; omega)
  have e1 : (L ++ [((-71 : Int), (0 : Int)), (-72, 0)])[n]'(by simp; omega) = (-71, 0) := by rw [List.getElem_append_right (by omega)]; simp [hl]
  have e2 : (L ++ [((-71 : Int), (0 : Int)), (-72, 0)])[n + 1]'(by simp; omega) = (-72, 0) := by rw [List.getElem_append_right (by omega)]; simp [hl]
  rw [e1, Nat.zero_add] at h1
  rw [e2, Nat.zero_add] at h2
  exact ⟨h1.1, h1.2, h2.1, h2.2⟩
theorem upd_drewQ {S : Nat → Prop} {w w' : World} (h : ∃ n, w' = w.drewN n) : Upd S w w' := by
  obtain ⟨n, rfl⟩ := h
  exact (Upd.refl S w).drewN n
def KeptP (base g n c : Nat) (l : List (Int × Int)) (w : World) (e : Ending) (w' : World) : Prop := e = .returned (.bool true) ∧ Hid (LentAt base w' g n c (l.map ovB)) ∧ Upd (fun k => k = g) w w'
theorem ov_step (l : List (Int × Int)) (i : Nat) (h : i < l.length) : ((l.take i).map ovB ++ l.drop i).set i ((l[i].1), l[i].2 / 2 + 1) = (l.take (i + 1)).map ovB ++ l.drop (i + 1) := by
  have h1 : ((l.take i).map ovB).length = i := by rw [List.length_map, List.length_take]; omega
  rw [List.set_append_right _ _ (by omega), h1, Nat.sub_self, List.drop_eq_getElem_cons h, List.set_cons_zero, List.take_succ_eq_append_getElem h, List.map_append, List.append_assoc]
  rfl
set_option maxHeartbeats 2000000 in
theorem kept_any (base g n c ca : Nat) (ad : Option Addr) (l : List (Int × Int)) (w : World) (hL : LentAt base w g n c l) (hA : InAt w ad n l) (hz : n ≤ 2147483647) : Calls Try.prog 7 #[.slice (some ⟨g, 0, none⟩) n c, .slice ad n ca] w (KeptP base g n c l w) := by
  have SM := same_any (some ⟨g, 0, none⟩) ad n n c ca l l w (hL.inn hA.bin) hA
  have HL : Hid _ := hL
  have HLN : Hid (l.length = n) := hL.len
  have HBN : Hid (Bin l) := hA.bin
  have hcap : ((n + 2 : Nat) : Int) ≤ (c : Int) := by have := hL.cap; omega
  have hw2 : IntKind.i64.wrap ((n : Int) + 2) = ((n + 2 : Nat) : Int) := by rw [IntKind.wrap_i64]; omega
  have hw1 : IntKind.i64.wrap ((n : Int) + 1) = ((n + 1 : Nat) : Int) := by rw [IntKind.wrap_i64]; omega
  have hi0 : (n : Int) < ((n + 2 : Nat) : Int) := by omega
  have hi1 : ((n + 1 : Nat) : Int) < ((n + 2 : Nat) : Int) := by omega
  have HE : Hid (∀ w', LentAt base w' g n c (l.map ovB) → Upd (fun k => k = g) w w' → KeptP base g n c l w (.returned (.bool true)) w') := fun w' h1 h2 => ⟨rfl, h1, h2⟩
  generalize KeptP base g n c l w = R at *
  have hsm : sameB l l = true := by unfold sameB; simp
  unfold SameP at SM
  rw [hsm] at SM
  clear hL hA hsm
  go_enter Try.func7, Try.ntmps7
  go_wp2_with (go_at_call 27; (with_reducible refine SM.mono ?_); clear SM; rintro e w1 ⟨rfl, hq⟩; have HL1 : Hid (LentAt base w1 g n c l) := HL.out.below (below_drewQ hq); have HU1 : Hid (Upd (fun k => k = g) w w1) := upd_drewQ hq; clear HL hq; obtain ⟨m0, m1, m2, m3⟩ := HL1.out.marks)
  clear m0 m1 m2 m3
  go_loopw [9] (fun t wr => ∃ i : Nat, t = .int .i64 i ∧ i ≤ n ∧ Hid (LentAt base wr g n c ((l.take i).map ovB ++ l.drop i)) ∧ Hid (Upd (fun k => k = g) w wr)) (fun t _ => n - (intOf t).toNat)
  case atStart => exact ⟨0, rfl, Nat.zero_le _, HL1, HU1⟩
  case round =>
    obtain ⟨i, rfl, hi, HLi, HUi⟩ := hrel
    clear HL1 HU1
    by_cases hlt : i < n
    · have hlt' : (i : Int) < (n : Int) := by omega
      have hil : i < l.length := by rw [HLN.out]; exact hlt
      have hiL : i < ((l.take i).map ovB ++ l.drop i).length := by simp; omega
      have e1 : ((l.take i).map ovB ++ l.drop i)[i]'hiL = l[i] := by
        have h1 : ((l.take i).map ovB).length = i := by rw [List.length_map, List.length_take]; omega
        rw [List.getElem_append_right (by omega), List.getElem_drop]
        congr 1
        omega
      obtain ⟨q1, q2⟩ := HLi.out.cell i hiL
      have hb := HBN.out l[i] (List.getElem_mem hil)
      have HST : Hid (LentAt base (wr.setCell ⟨g, i * 2 + 1, none⟩ (.int .u64 (l[i].2 / 2 + 1))) g n c ((l.take (i + 1)).map ovB ++ l.drop (i + 1)) ∧ Upd (fun k => k = g) wr (wr.setCell ⟨g, i * 2 + 1, none⟩ (.int .u64 (l[i].2 / 2 + 1)))) := by
        have h := HLi.out.setK i hiL (l[i].2 / 2 + 1)
        rw [e1, ov_step l i hil] at h
        exact h
      rw [e1] at q1
      obtain ⟨tk, htk⟩ : ∃ z, l[i].2 = z := ⟨_, rfl⟩
      rw [htk] at q1 HST hb
      have hd : tk.tdiv 2 = tk / 2 := Int.tdiv_eq_ediv_of_nonneg hb.2.2.1
      have hwr : IntKind.u64.wrap (tk / 2 + 1) = tk / 2 + 1 := by rw [IntKind.wrap_u64]; omega
      have hwd : IntKind.u64.wrap (tk / 2) = tk / 2 := by rw [IntKind.wrap_u64]; omega
      obtain ⟨t2, ht2⟩ : ∃ z, tk / 2 = z := ⟨_, rfl⟩
      rw [ht2] at hd hwr hwd HST
      clear htk hb e1 hil hiL ht2
      go_wp2
      go_roundw
      case rel => exact ⟨i + 1, by go_num, by omega, HST.out.1, HUi.out.trans HST.out.2 (fun _ _ h => h)⟩
      case measure => simp [intOf]; omega
    · obtain rfl : n = i := by omega
      have HF : Hid (LentAt base wr g n c (l.map ovB)) := by
        have h := HLi.out
        rw [List.take_of_length_le (by rw [HLN.out]; exact Nat.le_refl _), List.drop_eq_nil_of_le (by rw [HLN.out]; exact Nat.le_refl _), List.append_nil] at h
        exact h
      clear HLi
      go_wp2
      exact HE.out _ HF.out HUi.out
def OverP (l : List (Int × Int)) (n : Nat) (w : World) (e : Ending) (w' : World) : Prop := ∃ g c, e = .returned (.slice (some ⟨g, 0, none⟩) n c) ∧ Hid (LentAt w.heap.size w' g n c (l.map ovB)) ∧ Below w.heap.size w w'
set_option maxHeartbeats 1000000 in
theorem over_any (ad : Option Addr) (n c : Nat) (l : List (Int × Int)) (w : World) (hA : InAt w ad n l) (hz : n ≤ 2147483647) : Calls Try.prog 8 #[.slice ad n c] w (OverP l n w) := by
  have LE := lent_any ad n c l w hA hz
  have KE : Hid (∀ W base g cc, Below w.heap.size w W → LentAt base W g n cc l → Calls Try.prog 7 #[.slice (some ⟨g, 0, none⟩) n cc, .slice ad n c] W (KeptP base g n cc l W)) := fun W base g cc hb hL => kept_any base g n cc c ad l W hL (hA.below hb) hz
  have HE : Hid (∀ g cc w1 w', w.heap.size ≤ g → Below w.heap.size w w1 → LentAt w.heap.size w' g n cc (l.map ovB) → Upd (fun k => k = g) w1 w' → OverP l n w (.returned (.slice (some ⟨g, 0, none⟩) n cc)) w') := fun g cc w1 w' h0 h1 h2 h3 => ⟨g, cc, rfl, h2, h1.trans (h3.below h1.size (fun k hk e => by omega))⟩
  generalize OverP l n w = R at *
  clear hA
  go_enter Try.func8, Try.ntmps8
  go_wp2_with (first
    | (go_at_call 5; (with_reducible refine LE.mono ?_); clear LE; rintro e w1 ⟨g, cc, rfl, HL, b1⟩; have HB1 : Hid (Below w.heap.size w w1) := b1; clear b1)
    | (go_at_call 7; (with_reducible refine (KE.out _ _ _ _ HB1.out HL.out).mono ?_); clear KE; rintro e w2 ⟨rfl, HL2, u2⟩; have HU2 : Hid _ := u2; clear u2))
  exact HE.out _ _ _ _ HL.out.low.1 HB1.out HL2.out HU2.out
end Go.Proofs.Ytmegmjhkjaejgaa.sk.pl
