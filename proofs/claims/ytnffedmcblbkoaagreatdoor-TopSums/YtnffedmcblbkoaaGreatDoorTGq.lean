/-
  Merged: TG, TH, TI.
-/
import Derived.Test.YtnffedmcblbkoaaGreatDoorTAq
import Derived.BigQuiet
import Derived.Test.YtnffedmcblbkoaaGreatDoorYcq
namespace Go.Proofs.YtnffedmcblbkoaaGreatDoor
open Go Go.RowKit
set_option maxRecDepth 100000
theorem str_leq (t : TypeId) (a b : ByteArray) (W : World) : Sem.run Tryz.prog (binOp .leq t (.string a) (.string b)) W = .ok (.bool (decide (cmpS a b ≤ 0))) W := by
 have e : binOp .leq t (.string a) (.string b) = pure (.bool (Op.bytesLess a.toList b.toList || (a.toList == b.toList))) := by simp [binOp, Op.stringOp]
 rw [e, cmpS_lt, cmpS_eq]
 have h3 := good_cmpS.rng a b
 rcases h3 with h | h | h <;> rw [h] <;> rfl
theorem RlI.grow {α : Type} {c : α → α → Int} {f : α → Bool} {X : List α} {w wr w5 : World} {a : Sp} {p : Pl} {k : Nat} (h : RlI c f X w wr a p k) (hb : Below wr.heap.size wr w5) : RlI c f X w w5 a p k :=
 ⟨h.ok, h.bel.trans (hb.mono (by have := h.bel.size; simp at this; omega))⟩
set_option maxHeartbeats 2000000 in
theorem rAttrs_any (a : Sp) (p : Pl) (w : World) (ha : SpAt w a p) (hs : ∀ x ∈ a.attrs, x.key.size ≤ 140737488355328 ∧ x.text.size ≤ 140737488355328) :
  Calls Tryz.prog 142 #[spV a p] w fun e w' => e = .returned (.bool (attrsB a.attrs)) ∧ Below w.heap.size w w' := by
 obtain ⟨n, hn⟩ : ∃ n, a.attrs.length = n := ⟨_, rfl⟩
 have hsl := ha.sa
 rw [hn] at hsl
 have HX : Hid (AttrsAt w p.aa a.attrs.length a.attrs) := ha.attrs
 have HN : Hid (a.attrs.length = n) := hn
 have HS : Hid (∀ x ∈ a.attrs, x.key.size ≤ 140737488355328 ∧ x.text.size ≤ 140737488355328) := hs
 have HR : Hid (attrsB a.attrs = (decide (n ≤ 32) && (riseB (fun a b : AttrD => cmpS a.key b.key) a.attrs && a.attrs.all attrB))) := by
  show attrsB _ = _
  unfold attrsB
  rw [hn, Bool.and_assoc]
 obtain ⟨R, hR⟩ : ∃ R, attrsB a.attrs = R := ⟨_, rfl⟩
 rw [hR] at HR ⊢
 have HB := fun w' (h : Below (w.heap.size + 1) (w.alloc (.cells (spC a p) 102)) w') => (@box1 w w' a p h)
 have HBX : Hid (∀ w', Below (w.heap.size + 1) (w.alloc (.cells (spC a p) 102)) w' → w'.cell? ⟨w.heap.size, 11, none⟩ = some (.slice p.aa n p.ac)) := fun w' h => by rw [← hn]; exact (HB w' h).2.2.2.2.2.2.2.2.2.2.2.1
 have H0 : Hid (RlI (fun a b : AttrD => cmpS a.key b.key) attrB a.attrs w (w.alloc (.cells (spC a p) 102)) a p 0) := ⟨fun i _ h => by omega, Below.refl _ _⟩
 clear ha hn hR HB hs
 unfold spC at H0
 unfold spV spC
 go_enter Tryz.func142, Tryz.ntmps142
 go_wp2
 go_loopw [3] (fun v wr => ∃ k : Nat, v = .int .i64 k ∧ k ≤ n ∧ Hid (RlI (fun a b : AttrD => cmpS a.key b.key) attrB a.attrs w wr a p k)) (fun v _ => n - (intOf v).toNat)
 case atStart => exact ⟨0, rfl, by omega, H0⟩
 case round =>
  obtain ⟨k, rfl, hk, HI⟩ := hrel
  have c4 := HBX.out wr HI.out.bel
  by_cases hlt : k < n
  ·have hlt' : (k : Int) < (n : Int) := by omega
   have hkX : k < a.attrs.length := by rw [HN.out]; exact hlt
   obtain ⟨b1, o1, hla, hc1⟩ := (HX.out.below HI.out.below).lies (by omega)
   have ck := hc1 k hkX
   have hsx := HS.out a.attrs[k] (List.getElem_mem _)
   rw [hla] at c4
   obtain ⟨x, hx⟩ : ∃ x, a.attrs[k] = x := ⟨_, rfl⟩
   rw [hx] at ck hsx
   obtain ⟨ck0, ck1, ck2, ck3⟩ := ck
   have KY := rKey_any x.key wr hsx.1
   have VL := rValue_any x.kind x.text x.num wr hsx.2
   have N1 : Hid (attrB x = false → R = false) := fun h => by rw [HR.out, list_no1 (fun a b : AttrD => cmpS a.key b.key) attrB a.attrs k hkX (by rw [hx]; exact h), Bool.and_false]
   have N3 : Hid (∀ w5, Below wr.heap.size wr w5 → attrB x = true → (∀ hp : 0 < k, cmpS (a.attrs[k - 1]'(by omega)).key x.key < 0) → Hid (RlI (fun a b : AttrD => cmpS a.key b.key) attrB a.attrs w w5 a p (k + 1))) := fun w5 hb h1 h2 => (HI.out.grow hb).next hkX (by rw [hx]; exact h1) (fun hp => by rw [hx]; exact h2 hp)
   have BE : Hid (∀ w5, Below wr.heap.size wr w5 → Below w.heap.size w w5) := fun w5 hb => HI.out.below.trans (hb.mono HI.out.below.size)
   have HC : Hid (∀ w5, Below wr.heap.size wr w5 → w5.cell? ⟨w.heap.size, 11, none⟩ = some (.slice (some ⟨b1, o1, none⟩) n p.ac) ∧ ∀ i (hi : i < a.attrs.length), w5.cell? ⟨b1, o1 + i * 4, none⟩ = some (.string a.attrs[i].key)) := fun w5 hb => by
    refine ⟨by rw [← hla]; exact HBX.out w5 (HI.out.grow hb).bel, fun i hi => ?_⟩
    have h1 := (hc1 i hi).1
    exact (hb.cell (p := ⟨b1, _, none⟩) (World.block_lt_of_cell? wr _ h1)).trans h1
   clear hc1 hla
   have hAB : attrB x = (keyB x.key && valB x.kind x.text x.num) := rfl
   generalize keyB x.key = kb at KY hAB
   generalize valB x.kind x.text x.num = vb at VL hAB
   have HAB : Hid (attrB x = (kb && vb)) := hAB
   clear hAB
   cases kb with
   | false =>
    have FIN : Hid (R = false) := N1.out (by rw [HAB.out]; rfl)
    clear N1 N3 HC HAB
    go_wp2_with (first
     | (go_at_call 195; refine KY.mono ?_; clear KY; rintro e w4 ⟨rfl, hw4⟩; obtain rfl := hw4.symm; clear hw4)
     | (go_at_call 196; refine VL.mono ?_; clear VL; rintro e w5 ⟨rfl, hb5⟩; have HB5 : Hid (Below wr.heap.size wr w5) := hb5; clear hb5))
    go_quiet (fail)
    go_wp2
    go_ret
    exact ⟨ret_bool FIN.out.symm, (BE.out _ HB5.out).trans ⟨rfl, rfl, rfl, Nat.le_refl _, fun _ _ => rfl⟩⟩
   | true =>
   cases vb with
   | false =>
    have FIN : Hid (R = false) := N1.out (by rw [HAB.out]; rfl)
    clear N1 N3 HC HAB
    go_wp2_with (first
     | (go_at_call 195; refine KY.mono ?_; clear KY; rintro e w4 ⟨rfl, hw4⟩; obtain rfl := hw4.symm; clear hw4)
     | (go_at_call 196; refine VL.mono ?_; clear VL; rintro e w5 ⟨rfl, hb5⟩; have HB5 : Hid (Below wr.heap.size wr w5) := hb5; clear hb5))
    go_quiet (fail)
    go_wp2
    go_ret
    exact ⟨ret_bool FIN.out.symm, (BE.out _ HB5.out).trans ⟨rfl, rfl, rfl, Nat.le_refl _, fun _ _ => rfl⟩⟩
   | true =>
   have hl : Hid (attrB x = true) := HAB.out
   by_cases h5 : k = 0
   ·have FIN : Hid (∀ w5, Below wr.heap.size wr w5 → ∀ q, Hid (RlI (fun a b : AttrD => cmpS a.key b.key) attrB a.attrs w (w5.drewN q) a p (k + 1))) := fun w5 hb q => (N3.out w5 hb hl.out (fun hp => by omega)).out.drew q
    have hk0 : decide (0 < k) = false := decide_eq_false (by omega)
    have hk1 : ¬ 0 < k := by omega
    clear N1 N3 HC HAB hl h5
    go_wp2_with (first
     | (go_at_call 195; refine KY.mono ?_; clear KY; rintro e w4 ⟨rfl, hw4⟩; obtain rfl := hw4.symm; clear hw4)
     | (go_at_call 196; refine VL.mono ?_; clear VL; rintro e w5 ⟨rfl, hb5⟩; have HB5 : Hid (Below wr.heap.size wr w5) := hb5; clear hb5))
    go_quiet (fail)
    go_wp2
    go_roundw
    case rel => exact ⟨k + 1, by go_num, by omega, FIN.out w5 HB5.out nq⟩
    case measure => simp [intOf]; omega
   ·obtain ⟨j, rfl⟩ : ∃ j, k = j + 1 := ⟨k - 1, by omega⟩
    obtain ⟨y, hy⟩ : ∃ y, a.attrs[j]'(by omega) = y := ⟨_, rfl⟩
    have HC2 : Hid (∀ w5, Below wr.heap.size wr w5 → w5.cell? ⟨w.heap.size, 11, none⟩ = some (.slice (some ⟨b1, o1, none⟩) n p.ac) ∧ w5.cell? ⟨b1, o1 + (j + 1) * 4, none⟩ = some (.string x.key) ∧ w5.cell? ⟨b1, o1 + j * 4, none⟩ = some (.string y.key)) := fun w5 hb => by
     obtain ⟨h1, h2⟩ := HC.out w5 hb
     exact ⟨h1, by rw [← hx]; exact h2 (j + 1) hkX, by rw [← hy]; exact h2 j (by omega)⟩
    have hj0 : (0 : Int) < ((j + 1 : Nat) : Int) := by omega
    have hjw : IntKind.i64.wrap (((j + 1 : Nat) : Int) - 1) = (j : Int) := by rw [IntKind.wrap_i64]; omega
    have hjn : (j : Int) < (n : Int) := by omega
    have LE := fun W => str_leq 9 x.key y.key W
    by_cases h6 : cmpS x.key y.key ≤ 0
    ·have FIN : Hid (R = false) := by
      show R = false
      rw [HR.out, list_no2 (fun a b : AttrD => cmpS a.key b.key) attrB a.attrs (j + 1) hkX (by omega) (by simp only [Nat.add_sub_cancel]; rw [hx, hy, good_cmpS.anti x.key y.key]; omega), Bool.and_false]
     have h6' : decide (cmpS x.key y.key ≤ 0) = true := decide_eq_true h6
     rw [h6'] at LE
     clear N1 N3 HC HAB hl h5 h6 h6' hx hy
     go_wp2_with (first
      | (go_at_call 195; refine KY.mono ?_; clear KY; rintro e w4 ⟨rfl, hw4⟩; obtain rfl := hw4.symm; clear hw4)
      | (go_at_call 196; refine VL.mono ?_; clear VL; rintro e w5 ⟨rfl, hb5⟩; have HB5 : Hid (Below wr.heap.size wr w5) := hb5; clear hb5; obtain ⟨d1, d2, d3⟩ := HC2.out _ HB5.out; clear HC2))
     go_quiet (fail)
     go_wp2
     go_ret
     exact ⟨ret_bool FIN.out.symm, (BE.out _ HB5.out).trans ⟨rfl, rfl, rfl, Nat.le_refl _, fun _ _ => rfl⟩⟩
    ·have FIN : Hid (∀ w5, Below wr.heap.size wr w5 → ∀ q, Hid (RlI (fun a b : AttrD => cmpS a.key b.key) attrB a.attrs w (w5.drewN q) a p (j + 1 + 1))) := fun w5 hb q => (N3.out w5 hb hl.out (fun hp => by simp only [Nat.add_sub_cancel]; rw [hy, good_cmpS.anti x.key y.key]; omega)).out.drew q
     have h6' : decide (cmpS x.key y.key ≤ 0) = false := decide_eq_false h6
     rw [h6'] at LE
     clear N1 N3 HC HAB hl h5 h6 h6' hx hy
     go_wp2_with (first
      | (go_at_call 195; refine KY.mono ?_; clear KY; rintro e w4 ⟨rfl, hw4⟩; obtain rfl := hw4.symm; clear hw4)
      | (go_at_call 196; refine VL.mono ?_; clear VL; rintro e w5 ⟨rfl, hb5⟩; have HB5 : Hid (Below wr.heap.size wr w5) := hb5; clear hb5; obtain ⟨d1, d2, d3⟩ := HC2.out _ HB5.out; clear HC2))
     go_quiet (fail)
     go_wp2
     go_roundw
     case rel => exact ⟨j + 1 + 1, by go_num, by omega, FIN.out w5 HB5.out nq⟩
     case measure => simp [intOf]; omega
  ·have hlt' : ¬ (k : Int) < (n : Int) := by omega
   have FIN : Hid (R = decide (n ≤ 32)) := by
    show R = _
    rw [HR.out, list_yes (fun a b : AttrD => cmpS a.key b.key) attrB a.attrs (fun i hi => HI.out.ok i hi (by have := HN.out; omega)), Bool.and_true]
   have BE : Hid (Below w.heap.size w wr) := HI.out.below
   by_cases h16 : n ≤ 32
   ·have h16' : (n : Int) ≤ 32 := by omega
    go_wp2
    go_ret
    exact ⟨ret_bool (by rw [FIN.out, decide_eq_true h16]), BE.out⟩
   ·have h16' : ¬ (n : Int) ≤ 32 := by omega
    go_wp2
    go_ret
    exact ⟨ret_bool (by rw [FIN.out, decide_eq_false h16]), BE.out⟩
theorem cmpE_two (a b : EventD) : cmpE a b = orI (cmpI a.moment b.moment) (cmpS a.name b.name) := by simp [cmpE, orL, orI_zero]
theorem cmpE_lo {x y : EventD} (h : x.moment < y.moment) : ¬ cmpE y x < 0 := by
 rw [cmpE_two]
 unfold orI cmpI
 rw [if_neg (show ¬ y.moment < x.moment by omega), if_pos h]
 simp
theorem cmpE_hi {x y : EventD} (h : y.moment < x.moment) : cmpE y x < 0 := by
 rw [cmpE_two]
 unfold orI cmpI
 rw [if_pos h]
 simp
theorem cmpE_eq {x y : EventD} (h : x.moment = y.moment) : cmpE y x = - cmpS x.name y.name := by
 rw [cmpE_two, (good_cmpI.eq _ _).2 h.symm, good_cmpS.anti x.name y.name]
 rfl
set_option maxHeartbeats 2000000 in
theorem rEvents_any (a : Sp) (p : Pl) (w : World) (ha : SpAt w a p) (hs : ∀ x ∈ a.events, x.name.size ≤ 140737488355328) :
  Calls Tryz.prog 143 #[spV a p] w fun e w' => e = .returned (.bool (eventsB a.events)) ∧ Below w.heap.size w w' := by
 obtain ⟨n, hn⟩ : ∃ n, a.events.length = n := ⟨_, rfl⟩
 have hsl := ha.se
 rw [hn] at hsl
 have HX : Hid (EventsAt w p.ea a.events.length a.events) := ha.events
 have HN : Hid (a.events.length = n) := hn
 have HS : Hid (∀ x ∈ a.events, x.name.size ≤ 140737488355328) := hs
 have HR : Hid (eventsB a.events = (decide (n ≤ 32) && (riseB cmpE a.events && a.events.all eventB))) := by
  show eventsB _ = _
  unfold eventsB
  rw [hn, Bool.and_assoc]
 obtain ⟨R, hR⟩ : ∃ R, eventsB a.events = R := ⟨_, rfl⟩
 rw [hR] at HR ⊢
 have HB := fun w' (h : Below (w.heap.size + 1) (w.alloc (.cells (spC a p) 102)) w') => (@box1 w w' a p h)
 have HBX : Hid (∀ w', Below (w.heap.size + 1) (w.alloc (.cells (spC a p) 102)) w' → w'.cell? ⟨w.heap.size, 12, none⟩ = some (.slice p.ea n p.ec)) := fun w' h => by rw [← hn]; exact (HB w' h).2.2.2.2.2.2.2.2.2.2.2.2
 have H0 : Hid (RlI cmpE eventB a.events w (w.alloc (.cells (spC a p) 102)) a p 0) := ⟨fun i _ h => by omega, Below.refl _ _⟩
 clear ha hn hR HB hs
 unfold spC at H0
 unfold spV spC
 go_enter Tryz.func143, Tryz.ntmps143
 go_wp2
 go_loopw [3] (fun v wr => ∃ k : Nat, v = .int .i64 k ∧ k ≤ n ∧ Hid (RlI cmpE eventB a.events w wr a p k)) (fun v _ => n - (intOf v).toNat)
 case atStart => exact ⟨0, rfl, by omega, H0⟩
 case round =>
  obtain ⟨k, rfl, hk, HI⟩ := hrel
  have c4 := HBX.out wr HI.out.bel
  by_cases hlt : k < n
  ·have hlt' : (k : Int) < (n : Int) := by omega
   have hkX : k < a.events.length := by rw [HN.out]; exact hlt
   obtain ⟨b1, o1, hla, hc1⟩ := (HX.out.below HI.out.below).lies (by omega)
   have ck := hc1 k hkX
   have hsx := HS.out a.events[k] (List.getElem_mem _)
   rw [hla] at c4
   obtain ⟨x, hx⟩ : ∃ x, a.events[k] = x := ⟨_, rfl⟩
   rw [hx] at ck hsx
   obtain ⟨ck0, ck1⟩ := ck
   have B1 : ∀ o : Obj, Below wr.heap.size wr (wr.alloc o) := fun o => (Below.refl _ _).alloc (Nat.le_refl _) o
   have PL := fun W => rPlain_any x.name 100 32 W hsx
   have N1 : Hid (eventB x = false → R = false) := fun h => by rw [HR.out, list_no1 cmpE eventB a.events k hkX (by rw [hx]; exact h), Bool.and_false]
   have N3 : Hid (∀ o : Obj, eventB x = true → (∀ hp : 0 < k, cmpE (a.events[k - 1]'(by omega)) x < 0) → Hid (RlI cmpE eventB a.events w (wr.alloc o) a p (k + 1))) := fun o h1 h2 => (HI.out.grow (B1 o)).next hkX (by rw [hx]; exact h1) (fun hp => by rw [hx]; exact h2 hp)
   have BE : Hid (∀ o : Obj, Below w.heap.size w (wr.alloc o)) := fun o => HI.out.below.trans ((B1 o).mono HI.out.below.size)
   have HC : Hid (∀ o : Obj, (wr.alloc o).cell? ⟨w.heap.size, 12, none⟩ = some (.slice (some ⟨b1, o1, none⟩) n p.ec) ∧ ∀ i (hi : i < a.events.length), (wr.alloc o).cell? ⟨b1, o1 + i * 2, none⟩ = some (.int .i64 a.events[i].moment) ∧ (wr.alloc o).cell? ⟨b1, o1 + i * 2 + 1, none⟩ = some (.string a.events[i].name)) := fun o => by
    refine ⟨by rw [← hla]; exact HBX.out _ (HI.out.grow (B1 o)).bel, fun i hi => ?_⟩
    have h1 := (hc1 i hi).1
    have h2 := (hc1 i hi).2
    exact ⟨((B1 o).cell (p := ⟨b1, _, none⟩) (World.block_lt_of_cell? wr _ h1)).trans h1, ((B1 o).cell (p := ⟨b1, _, none⟩) (World.block_lt_of_cell? wr _ h2)).trans h2⟩
   clear hc1 hla B1
   have hAB : eventB x = (momB x.moment && plainB x.name 100 32) := rfl
   generalize plainB x.name 100 32 = pb at PL hAB
   have HAB : Hid (eventB x = (momB x.moment && pb)) := hAB
   clear hAB
   cases pb with
   | false =>
    have FIN : Hid (R = false) := N1.out (by rw [HAB.out, Bool.and_false])
    clear N1 N3 HC HAB
    go_wp2_with (go_at_call 140; refine (PL _).mono ?_; clear PL; rintro e w4 ⟨rfl, hw4⟩; obtain rfl := hw4.symm; clear hw4)
    go_ret
    exact ⟨ret_bool FIN.out.symm, BE.out _⟩
   | true =>
   by_cases m1 : x.moment < 0
   ·have FIN : Hid (R = false) := N1.out (by rw [HAB.out]; simp [momB]; omega)
    clear N1 N3 HC HAB
    go_wp2_with (go_at_call 140; refine (PL _).mono ?_; clear PL; rintro e w4 ⟨rfl, hw4⟩; obtain rfl := hw4.symm; clear hw4)
    go_ret
    exact ⟨ret_bool FIN.out.symm, BE.out _⟩
   by_cases m2 : 4611686018427387904 < x.moment
   ·have FIN : Hid (R = false) := N1.out (by rw [HAB.out]; simp [momB]; omega)
    clear N1 N3 HC HAB
    go_wp2_with (go_at_call 140; refine (PL _).mono ?_; clear PL; rintro e w4 ⟨rfl, hw4⟩; obtain rfl := hw4.symm; clear hw4)
    go_ret
    exact ⟨ret_bool FIN.out.symm, BE.out _⟩
   have hl : Hid (eventB x = true) := by show eventB x = true; rw [HAB.out]; simp [momB]; omega
   by_cases h5 : k = 0
   ·have FIN : Hid (∀ o q, Hid (RlI cmpE eventB a.events w ((wr.alloc o).drewN q) a p (k + 1))) := fun o q => (N3.out o hl.out (fun hp => by omega)).out.drew q
    have hk0 : decide (0 < k) = false := decide_eq_false (by omega)
    have hk1 : ¬ 0 < k := by omega
    clear N1 N3 HC HAB hl h5
    go_wp2_with (go_at_call 140; refine (PL _).mono ?_; clear PL; rintro e w4 ⟨rfl, hw4⟩; obtain rfl := hw4.symm; clear hw4)
    go_quiet (fail)
    go_wp2
    go_roundw
    case rel => exact ⟨k + 1, by go_num, by omega, FIN.out _ nq⟩
    case measure => simp [intOf]; omega
   ·obtain ⟨j, rfl⟩ : ∃ j, k = j + 1 := ⟨k - 1, by omega⟩
    obtain ⟨y, hy⟩ : ∃ y, a.events[j]'(by omega) = y := ⟨_, rfl⟩
    have D1 := fun o => (HC.out o).1
    have D2 : ∀ o : Obj, (wr.alloc o).cell? ⟨b1, o1 + j * 2, none⟩ = some (.int .i64 y.moment) := fun o => by rw [← hy]; exact ((HC.out o).2 j (by omega)).1
    have D3 : ∀ o : Obj, (wr.alloc o).cell? ⟨b1, o1 + j * 2 + 1, none⟩ = some (.string y.name) := fun o => by rw [← hy]; exact ((HC.out o).2 j (by omega)).2
    have E0 : (wr.alloc (.cells #[.int .i64 x.moment, .string x.name] 182)).cell? ⟨wr.heap.size, 0, none⟩ = some (.int .i64 x.moment) := by simp [go_sem]
    have E1 : (wr.alloc (.cells #[.int .i64 x.moment, .string x.name] 182)).cell? ⟨wr.heap.size, 1, none⟩ = some (.string x.name) := by simp [go_sem]
    have hj0 : (0 : Int) < ((j + 1 : Nat) : Int) := by omega
    have hjw : IntKind.i64.wrap (((j + 1 : Nat) : Int) - 1) = (j : Int) := by rw [IntKind.wrap_i64]; omega
    have hjn : (j : Int) < (n : Int) := by omega
    have LE := fun W => str_leq 9 x.name y.name W
    have NO : Hid (¬ cmpE y x < 0 → R = false) := fun h => by
     rw [HR.out, list_no2 cmpE eventB a.events (j + 1) hkX (by omega) (by simp only [Nat.add_sub_cancel]; rw [hx, hy]; exact h), Bool.and_false]
    have YES : Hid (cmpE y x < 0 → ∀ o q, Hid (RlI cmpE eventB a.events w ((wr.alloc o).drewN q) a p (j + 1 + 1))) := fun h o q => (N3.out o hl.out (fun hp => by simp only [Nat.add_sub_cancel]; rw [hy]; exact h)).out.drew q
    clear N1 N3 HC HAB hl h5 hy hx
    by_cases t1 : x.moment < y.moment
    ·have FIN : Hid (R = false) := NO.out (cmpE_lo t1)
     have t1' : decide (x.moment < y.moment) = true := decide_eq_true t1
     clear NO YES LE
     go_wp2_with (go_at_call 140; refine (PL _).mono ?_; clear PL; rintro e w4 ⟨rfl, hw4⟩; obtain rfl := hw4.symm; clear hw4)
     go_quiet (fail)
     go_wp2
     go_ret
     exact ⟨ret_bool FIN.out.symm, (BE.out _).trans ⟨rfl, rfl, rfl, Nat.le_refl _, fun _ _ => rfl⟩⟩
    have t1' : decide (x.moment < y.moment) = false := decide_eq_false t1
    by_cases t2 : x.moment = y.moment
    ·have t2' : (x.moment == y.moment) = true := by simpa using t2
     have CE := cmpE_eq t2
     by_cases h6 : cmpS x.name y.name ≤ 0
     ·have FIN : Hid (R = false) := NO.out (by rw [CE]; omega)
      have h6' : decide (cmpS x.name y.name ≤ 0) = true := decide_eq_true h6
      rw [h6'] at LE
      clear NO YES h6 h6' CE t2
      go_wp2_with (go_at_call 140; refine (PL _).mono ?_; clear PL; rintro e w4 ⟨rfl, hw4⟩; obtain rfl := hw4.symm; clear hw4)
      go_quiet (fail)
      go_wp2
      go_ret
      exact ⟨ret_bool FIN.out.symm, (BE.out _).trans ⟨rfl, rfl, rfl, Nat.le_refl _, fun _ _ => rfl⟩⟩
     ·have FIN : Hid (∀ o q, Hid (RlI cmpE eventB a.events w ((wr.alloc o).drewN q) a p (j + 1 + 1))) := YES.out (by rw [CE]; omega)
      have h6' : decide (cmpS x.name y.name ≤ 0) = false := decide_eq_false h6
      rw [h6'] at LE
      clear NO YES h6 h6' CE t2
      go_wp2_with (go_at_call 140; refine (PL _).mono ?_; clear PL; rintro e w4 ⟨rfl, hw4⟩; obtain rfl := hw4.symm; clear hw4)
      go_quiet (fail)
      go_wp2
      go_roundw
      case rel => exact ⟨j + 1 + 1, by go_num, by omega, FIN.out _ nq⟩
      case measure => simp [intOf]; omega
    ·have t2' : (x.moment == y.moment) = false := by simpa using t2
     have FIN : Hid (∀ o q, Hid (RlI cmpE eventB a.events w ((wr.alloc o).drewN q) a p (j + 1 + 1))) := YES.out (cmpE_hi (by omega))
     clear NO YES LE t2
     go_wp2_with (go_at_call 140; refine (PL _).mono ?_; clear PL; rintro e w4 ⟨rfl, hw4⟩; obtain rfl := hw4.symm; clear hw4)
     go_quiet (fail)
     go_wp2
     go_roundw
     case rel => exact ⟨j + 1 + 1, by go_num, by omega, FIN.out _ nq⟩
     case measure => simp [intOf]; omega
  ·have hlt' : ¬ (k : Int) < (n : Int) := by omega
   have FIN : Hid (R = decide (n ≤ 32)) := by
    show R = _
    rw [HR.out, list_yes cmpE eventB a.events (fun i hi => HI.out.ok i hi (by have := HN.out; omega)), Bool.and_true]
   have BE : Hid (Below w.heap.size w wr) := HI.out.below
   by_cases h16 : n ≤ 32
   ·have h16' : (n : Int) ≤ 32 := by omega
    go_wp2
    go_ret
    exact ⟨ret_bool (by rw [FIN.out, decide_eq_true h16]), BE.out⟩
   ·have h16' : ¬ (n : Int) ≤ 32 := by omega
    go_wp2
    go_ret
    exact ⟨ret_bool (by rw [FIN.out, decide_eq_false h16]), BE.out⟩
theorem box_row {w w' : World} (a : Sp) (p : Pl) (hb : Below (w.heap.size + 1) (w.alloc (.cells (spC a p) 102)) w') : w'.rangeAt w.heap.size 0 (spC a p).toList := fun j v hv => by
 rw [Nat.zero_add, hb.cell (p := ⟨w.heap.size, j, none⟩) (by show w.heap.size < w.heap.size + 1; omega)]
 exact (Blk.new w (spC a p) 102).cell j (by rw [Array.getElem?_toList] at hv; exact hv)
set_option maxHeartbeats 4000000 in
theorem rCheck_any (a : Sp) (p : Pl) (w : World) (ha : SpAt w a p) (hs : a.Small) :
  Calls Tryz.prog 93 #[spV a p] w fun e w' => e = .returned (.int .i64 (chkS a)) ∧ Below w.heap.size w w' := by
 have B1 : ∀ o : Obj, Below w.heap.size w (w.alloc o) := fun o => (Below.refl _ _).alloc (Nat.le_refl _) o
 have K1 : Hid (Below (w.heap.size + 1) (w.alloc (.cells (spC a p) 102)) (w.alloc (.cells (spC a p) 102))) := Below.refl _ _
 have KB : Hid (∀ w', Below (w.heap.size + 1) (w.alloc (.cells (spC a p) 102)) w' → Below w.heap.size w w') := fun w' h => (B1 _).trans (h.mono (by omega))
 have PS := fun W => rPlain_any a.svc 60 33 W hs.svc
 have PO := fun W => rPlain_any a.op 100 32 W hs.op
 have LK : Hid (∀ w', Below (w.heap.size + 1) (w.alloc (.cells (spC a p) 102)) w' → _) := fun w' (h : Below (w.heap.size + 1) (w.alloc (.cells (spC a p) 102)) w') => rLinks_any a p w' (ha.below (KB.out w' h))
 have AT : Hid (∀ w', Below (w.heap.size + 1) (w.alloc (.cells (spC a p) 102)) w' → _) := fun w' (h : Below (w.heap.size + 1) (w.alloc (.cells (spC a p) 102)) w') => rAttrs_any a p w' (ha.below (KB.out w' h)) hs.attrs
 have EV : Hid (∀ w', Below (w.heap.size + 1) (w.alloc (.cells (spC a p) 102)) w' → _) := fun w' (h : Below (w.heap.size + 1) (w.alloc (.cells (spC a p) 102)) w') => rEvents_any a p w' (ha.below (KB.out w' h)) hs.events
 have RB : Hid (∀ w', Below (w.heap.size + 1) (w.alloc (.cells (spC a p) 102)) w' → w'.rangeAt w.heap.size 0 (spC a p).toList) := fun w' h => box_row a p h
 have BX : Hid (∀ w', Below (w.heap.size + 1) (w.alloc (.cells (spC a p) 102)) w' → _) := fun w' h => @box1 w w' a p h
 have BT : Hid (∀ w' w'', Below (w.heap.size + 1) (w.alloc (.cells (spC a p) 102)) w' → Below w'.heap.size w' w'' → Below (w.heap.size + 1) (w.alloc (.cells (spC a p) 102)) w'') := fun w' w'' h1 h2 => h1.trans (h2.mono (by have := h1.size; simp at this; omega))
 have hc5 := (@box1 w _ a p K1.out).2.2.2.2.2.1
 have hc6 := (@box1 w _ a p K1.out).2.2.2.2.2.2.1
 unfold chkS
 generalize linksB a.id a.links = lb at LK ⊢
 generalize attrsB a.attrs = tb at AT ⊢
 generalize eventsB a.events = vb at EV ⊢
 generalize plainB a.svc 60 33 = sb at PS ⊢
 generalize plainB a.op 100 32 = ob at PO ⊢
 generalize hR : (if (decide (a.hi = 0 ∧ a.lo = 0) || decide (a.id = 0)) = true then (41 : Int) else if (!momB a.start || !momB a.fin || decide (a.fin < a.start)) = true then 42 else if (!sb || !ob) = true then 43 else if (decide (a.kind < 0) || decide (4 < a.kind) || decide (a.status < 0) || decide (2 < a.status)) = true then 44 else if (!lb) = true then 45 else if (!tb) = true then 46 else if (!vb) = true then 47 else 0) = R
 have HR : Hid ((if (decide (a.hi = 0 ∧ a.lo = 0) || decide (a.id = 0)) = true then (41 : Int) else if (!momB a.start || !momB a.fin || decide (a.fin < a.start)) = true then 42 else if (!sb || !ob) = true then 43 else if (decide (a.kind < 0) || decide (4 < a.kind) || decide (a.status < 0) || decide (2 < a.status)) = true then 44 else if (!lb) = true then 45 else if (!tb) = true then 46 else if (!vb) = true then 47 else 0) = R) := hR
 clear ha hs hR
 unfold spV
 go_enter Tryz.func93, Tryz.ntmps93
 go_wp2_with (first
   | (go_at_call 140; refine (PS _).mono ?_; clear PS; rintro e w' ⟨rfl, hw'⟩; obtain rfl := hw'.symm; clear hw')
   | (go_at_call 140; refine (PO _).mono ?_; clear PO; rintro e w' ⟨rfl, hw'⟩; obtain rfl := hw'.symm; clear hw')
   | (refine wpList_load_mid rfl 102 _ rfl w.heap.size 0 rfl (spC a p).toList _ (RB.out _ K1.out) Tryz.underlying102 rfl (by kernel_rfl) ?_)
   | (go_at_call 141; refine (LK.out _ K1.out).mono ?_; clear LK; rintro e w7 ⟨rfl, hbb⟩; have K2 : Hid (Below (w.heap.size + 1) (w.alloc (.cells (spC a p) 102)) w7) := BT.out _ _ K1.out hbb; clear K1 hbb)
   | (refine wpList_load_mid rfl 102 _ rfl w.heap.size 0 rfl (spC a p).toList _ (RB.out _ K2.out) Tryz.underlying102 rfl (by kernel_rfl) ?_)
   | (go_at_call 142; refine (AT.out _ K2.out).mono ?_; clear AT; rintro e w8 ⟨rfl, hbb⟩; have K3 : Hid (Below (w.heap.size + 1) (w.alloc (.cells (spC a p) 102)) w8) := BT.out _ _ K2.out hbb; clear K2 hbb)
   | (refine wpList_load_mid rfl 102 _ rfl w.heap.size 0 rfl (spC a p).toList _ (RB.out _ K3.out) Tryz.underlying102 rfl (by kernel_rfl) ?_)
   | (go_at_call 143; refine (EV.out _ K3.out).mono ?_; clear EV; rintro e w9 ⟨rfl, hbb⟩; have K4 : Hid (Below (w.heap.size + 1) (w.alloc (.cells (spC a p) 102)) w9) := BT.out _ _ K3.out hbb; clear K3 hbb; obtain ⟨d0, d1, d2, d3, d4, d5, d6, d7, d8, d9, d10, d11, d12⟩ := BX.out _ K4.out))
 all_goals
  go_ret
  exact ⟨ret_int (by rw [← HR.out]; first | (simp_all [momB]; done) | (simp_all [momB]; (repeat' split) <;> omega)), KB.out _ K4.out⟩
end Go.Proofs.YtnffedmcblbkoaaGreatDoor
