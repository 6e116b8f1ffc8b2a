/-
  Merged: Zh, Zs.
-/
import Derived.Test.YtnffedmcblbkoaaGreatDoorZvq
import Derived.Test.YtnffedmcblbkoaaGreatDoorWaq
import Derived.Laws.StructEq
namespace Go.Proofs.YtnffedmcblbkoaaGreatDoor
open Go.RowKit
set_option maxRecDepth 100000
theorem all_at {α : Type} {f : α → Bool} {K : List α} {k : Nat} {r : Bool} (h : r = (K.drop k).all f) (hk : k < K.length) : r = (f K[k] && (K.drop (k + 1)).all f) := by
 rw [h, List.drop_eq_getElem_cons hk, List.all_cons]
def linkB (own x : Int) : Bool := !decide (x = 0) && !decide (x = own)
def linksB (own : Int) (X : List Int) : Bool := decide (X.length ≤ 16) && riseB cmpI X && X.all (linkB own)
theorem links_ok (ad : Option Addr) (n c : Nat) (own : Int) (X : List Int) (w : World) (hX : HoldsV w ad n (intsV .u64 X)) (hn : n ≤ 140737488355328) :
  Calls Tryz.prog 123 #[.slice ad n c, .int .u64 own] w fun e w' => e = .returned (.bool (linksB own X)) ∧ Below w.heap.size w w' := by
 have hl : X.length = n := by simpa [intsV] using hX.len
 have RI := rise_links ad n c X w hX hn
 unfold linksB
 by_cases h1 : 16 < n
 ·have h1' : decide (X.length ≤ 16) = false := decide_eq_false (by omega)
  have h1i : (16 : Int) < (n : Int) := by omega
  clear RI
  go_enter Tryz.func123, Tryz.ntmps123
  go_wp2
  go_ret
  exact ⟨by simp [h1'], Below.refl _ _⟩
 have h1' : decide (X.length ≤ 16) = true := decide_eq_true (by omega)
 have h1i : ¬ (16 : Int) < (n : Int) := by omega
 rw [h1']
 generalize riseB cmpI X = rb at RI ⊢
 cases rb with
 | false =>
  clear h1'
  go_enter Tryz.func123, Tryz.ntmps123
  go_wp2_with (go_at_call 182; refine RI.mono ?_; rintro e w' ⟨rfl, hb⟩)
  go_ret
  exact ⟨rfl, hb⟩
 | true =>
  clear h1'
  simp only [Bool.true_and]
  obtain ⟨r, hr⟩ : ∃ r, X.all (linkB own) = r := ⟨_, rfl⟩
  rw [hr]
  go_enter Tryz.func123, Tryz.ntmps123
  go_wp2_with (go_at_call 182; refine RI.mono ?_; rintro e w' ⟨rfl, hb⟩)
  go_loop [17] (fun a => ∃ k : Nat, a = .int .i64 k ∧ k ≤ n ∧ r = (X.drop k).all (linkB own)) (fun a => n - (intOf a).toNat)
  case atStart => exact ⟨0, rfl, by omega, by simp [hr]⟩
  case round =>
   obtain ⟨k, rfl, hk, ho⟩ := hrel
   have HO : Hid (r = (X.drop k).all (linkB own)) := ho
   clear ho hr
   by_cases hlt : k < n
   ·obtain ⟨b1, o1, rfl, hc1⟩ := (hX.below hb).plain (intsV_get (k := .u64) (by omega : k < X.length))
    have hcx := hc1 k _ (intsV_get (k := .u64) (by omega : k < X.length))
    have st := all_at HO.out (by omega)
    obtain ⟨x, hx⟩ : ∃ x, X[k] = x := ⟨_, rfl⟩
    rw [hx] at st hcx
    have HS : Hid (r = (linkB own x && (X.drop (k + 1)).all (linkB own))) := st
    clear st hx HO hc1 hX
    by_cases h3 : x = 0
    ·have FIN : Hid (r = false) := by show r = false; rw [HS.out]; simp [linkB, h3]
     subst h3
     go_wp2
     go_ret
     exact ⟨ret_bool FIN.out.symm, hb⟩
    ·have h3' : (x == 0) = false := by simpa using h3
     by_cases h4 : x = own
     ·have FIN : Hid (r = false) := by show r = false; rw [HS.out]; simp [linkB, h4]
      subst h4
      clear h3
      go_wp2
      go_ret
      exact ⟨ret_bool FIN.out.symm, hb⟩
     ·have h4' : (x == own) = false := by simpa using h4
      have FIN : Hid (r = (X.drop (k + 1)).all (linkB own)) := by show r = _; rw [HS.out]; simp [linkB, h3, h4]
      clear h3 h4 HS
      go_wp2
      go_round
      case rel => exact ⟨k + 1, by go_num, by omega, FIN.out⟩
      case measure => simp [intOf]; omega
   ·have FIN : Hid (r = true) := by show r = true; rw [HO.out, List.drop_of_length_le (by omega)]; rfl
    clear hX
    go_wp2
    go_ret
    exact ⟨ret_bool FIN.out.symm, hb⟩
def attrB (a : AttrD) : Bool := keyB a.key && valB a.kind a.text a.num
def attrsB (X : List AttrD) : Bool := decide (X.length ≤ 32) && riseB (fun a b : AttrD => cmpS a.key b.key) X && X.all attrB
set_option maxHeartbeats 400000 in
theorem attrs_ok (ad : Option Addr) (n c : Nat) (X : List AttrD) (w : World) (hX : AttrsAt w ad n X) (hn : n ≤ 140737488355328) (hT : Tabs w) (hs : ∀ a ∈ X, a.key.size ≤ 140737488355328 ∧ a.text.size ≤ 140737488355328) :
  Calls Tryz.prog 124 #[.slice ad n c] w fun e w' => e = .returned (.bool (attrsB X)) ∧ Below w.heap.size w w' := by
 have hl : X.length = n := hX.len
 have RI := rise_attrs ad n c X w hX hn
 unfold attrsB
 by_cases h1 : 32 < n
 ·have h1' : decide (X.length ≤ 32) = false := decide_eq_false (by omega)
  have h1i : (32 : Int) < (n : Int) := by omega
  clear RI
  go_enter Tryz.func124, Tryz.ntmps124
  go_wp2
  go_ret
  exact ⟨by simp [h1'], Below.refl _ _⟩
 have h1' : decide (X.length ≤ 32) = true := decide_eq_true (by omega)
 have h1i : ¬ (32 : Int) < (n : Int) := by omega
 rw [h1']
 generalize riseB (fun a b : AttrD => cmpS a.key b.key) X = rb at RI ⊢
 cases rb with
 | false =>
  clear h1'
  go_enter Tryz.func124, Tryz.ntmps124
  go_wp2_with (go_at_call 183; refine RI.mono ?_; rintro e w' ⟨rfl, hb⟩)
  go_ret
  exact ⟨rfl, hb⟩
 | true =>
  clear h1'
  simp only [Bool.true_and]
  obtain ⟨r, hr⟩ : ∃ r, X.all attrB = r := ⟨_, rfl⟩
  rw [hr]
  go_enter Tryz.func124, Tryz.ntmps124
  go_wp2_with (go_at_call 183; refine RI.mono ?_; rintro e w' ⟨rfl, hb0⟩)
  go_loopw [15] (fun a wr => ∃ k : Nat, a = .int .i64 k ∧ k ≤ n ∧ r = (X.drop k).all attrB ∧ Below w.heap.size w wr) (fun a _ => n - (intOf a).toNat)
  case atStart => exact ⟨0, rfl, by omega, by simp [hr], hb0⟩
  case round =>
   obtain ⟨k, rfl, hk, ho, hb⟩ := hrel
   have HO : Hid (r = (X.drop k).all attrB) := ho
   clear ho hr hb0
   by_cases hlt : k < n
   ·obtain ⟨b1, o1, rfl, hc1⟩ := (hX.below hb).lies (by omega)
    have ck := hc1 k (by omega)
    have st := all_at HO.out (by omega)
    have hsx := hs X[k] (List.getElem_mem _)
    obtain ⟨x, hx⟩ : ∃ x, X[k] = x := ⟨_, rfl⟩
    rw [hx] at st ck hsx
    obtain ⟨c0, c1, c2, c3⟩ := ck
    have l2 : b1 < wr.heap.size := World.block_lt_of_cell? wr _ c0
    have hsz := hb.size
    have B1 : ∀ o : Obj, Below w.heap.size w (wr.alloc o) := fun o => hb.alloc hsz o
    have KY := fun W => keyOk_any x.key W hsx.1
    have VL := fun o => value_any x.kind x.text x.num (wr.alloc o) hsx.2 (hT.below (B1 o))
    have HS : Hid (r = (attrB x && (X.drop (k + 1)).all attrB)) := st
    clear st hx HO hc1 hX hs hsx
    generalize hkb : keyB x.key = kb at KY
    generalize hvb : valB x.kind x.text x.num = vb at VL
    have HB : Hid (attrB x = (kb && vb)) := by show attrB x = _; unfold attrB; rw [hkb, hvb]
    clear hkb hvb
    cases kb with
    | false =>
     have FIN : Hid (r = false) := by show r = false; rw [HS.out, HB.out]; rfl
     clear VL
     go_wp2_with (go_at_call 185; refine (KY _).mono ?_; rintro e w' ⟨rfl, rfl⟩)
     go_ret
     exact ⟨ret_bool FIN.out.symm, B1 _⟩
    | true =>
     cases vb with
     | false =>
      have FIN : Hid (r = false) := by show r = false; rw [HS.out, HB.out]; rfl
      go_wp2_with (first | (go_at_call 185; refine (KY _).mono ?_; rintro e w' ⟨rfl, rfl⟩) | (go_at_call 186; refine (VL _).mono ?_; rintro e w' ⟨rfl, hb'⟩; have hB := (B1 _).trans (hb'.mono (B1 _).size)))
      go_ret
      exact ⟨ret_bool FIN.out.symm, hB⟩
     | true =>
      have FIN : Hid (r = (X.drop (k + 1)).all attrB) := by show r = _; rw [HS.out, HB.out]; rfl
      go_wp2_with (first | (go_at_call 185; refine (KY _).mono ?_; rintro e w' ⟨rfl, rfl⟩) | (go_at_call 186; refine (VL _).mono ?_; rintro e w' ⟨rfl, hb'⟩; have hB := (B1 _).trans (hb'.mono (B1 _).size)))
      go_roundw
      case rel => exact ⟨k + 1, by go_num, by omega, FIN.out, hB⟩
      case measure => simp [intOf]; omega
   ·have FIN : Hid (r = true) := by show r = true; rw [HO.out, List.drop_of_length_le (by omega)]; rfl
    clear hX
    go_wp2
    go_ret
    exact ⟨ret_bool FIN.out.symm, hb⟩
def eventB (a : EventD) : Bool := momB a.moment && plainB a.name 100 32
def eventsB (X : List EventD) : Bool := decide (X.length ≤ 32) && riseB cmpE X && X.all eventB
set_option maxHeartbeats 400000 in
theorem events_ok (ad : Option Addr) (n c : Nat) (X : List EventD) (w : World) (hX : EventsAt w ad n X) (hn : n ≤ 140737488355328) (hT : Tabs w) (hs : ∀ a ∈ X, a.name.size ≤ 140737488355328) :
  Calls Tryz.prog 125 #[.slice ad n c] w fun e w' => e = .returned (.bool (eventsB X)) ∧ Below w.heap.size w w' := by
 have hl : X.length = n := hX.len
 have RI := rise_events ad n c X w hX hn
 unfold eventsB
 by_cases h1 : 32 < n
 ·have h1' : decide (X.length ≤ 32) = false := decide_eq_false (by omega)
  have h1i : (32 : Int) < (n : Int) := by omega
  clear RI
  go_enter Tryz.func125, Tryz.ntmps125
  go_wp2
  go_ret
  exact ⟨by simp [h1'], Below.refl _ _⟩
 have h1' : decide (X.length ≤ 32) = true := decide_eq_true (by omega)
 have h1i : ¬ (32 : Int) < (n : Int) := by omega
 rw [h1']
 generalize riseB cmpE X = rb at RI ⊢
 cases rb with
 | false =>
  clear h1'
  go_enter Tryz.func125, Tryz.ntmps125
  go_wp2_with (go_at_call 187; refine RI.mono ?_; rintro e w' ⟨rfl, hb⟩)
  go_ret
  exact ⟨rfl, hb⟩
 | true =>
  clear h1'
  simp only [Bool.true_and]
  obtain ⟨r, hr⟩ : ∃ r, X.all eventB = r := ⟨_, rfl⟩
  rw [hr]
  go_enter Tryz.func125, Tryz.ntmps125
  go_wp2_with (go_at_call 187; refine RI.mono ?_; rintro e w' ⟨rfl, hb0⟩)
  go_loopw [15] (fun a wr => ∃ k : Nat, a = .int .i64 k ∧ k ≤ n ∧ r = (X.drop k).all eventB ∧ Below w.heap.size w wr) (fun a _ => n - (intOf a).toNat)
  case atStart => exact ⟨0, rfl, by omega, by simp [hr], hb0⟩
  case round =>
   obtain ⟨k, rfl, hk, ho, hb⟩ := hrel
   have HO : Hid (r = (X.drop k).all eventB) := ho
   clear ho hr hb0
   by_cases hlt : k < n
   ·obtain ⟨b1, o1, rfl, hc1⟩ := (hX.below hb).lies (by omega)
    have ck := hc1 k (by omega)
    have st := all_at HO.out (by omega)
    have hsx := hs X[k] (List.getElem_mem _)
    obtain ⟨x, hx⟩ : ∃ x, X[k] = x := ⟨_, rfl⟩
    rw [hx] at st ck hsx
    obtain ⟨c0, c1⟩ := ck
    have l2 : b1 < wr.heap.size := World.block_lt_of_cell? wr _ c0
    have hsz := hb.size
    have B1 : ∀ o : Obj, Below w.heap.size w (wr.alloc o) := fun o => hb.alloc hsz o
    have KY := fun W => moment_any x.moment W
    have VL := fun o => plain_any x.name 100 32 (wr.alloc o) hsx (hT.below (B1 o))
    have HS : Hid (r = (eventB x && (X.drop (k + 1)).all eventB)) := st
    clear st hx HO hc1 hX hs hsx
    generalize hkb : momB x.moment = kb at KY
    generalize hvb : plainB x.name 100 32 = vb at VL
    have HB : Hid (eventB x = (kb && vb)) := by show eventB x = _; unfold eventB; rw [hkb, hvb]
    clear hkb hvb
    cases kb with
    | false =>
     have FIN : Hid (r = false) := by show r = false; rw [HS.out, HB.out]; rfl
     clear VL
     go_wp2_with (go_at_call 121; refine (KY _).mono ?_; rintro e w' ⟨rfl, rfl⟩)
     go_ret
     exact ⟨ret_bool FIN.out.symm, B1 _⟩
    | true =>
     cases vb with
     | false =>
      have FIN : Hid (r = false) := by show r = false; rw [HS.out, HB.out]; rfl
      go_wp2_with (first | (go_at_call 121; refine (KY _).mono ?_; rintro e w' ⟨rfl, rfl⟩) | (go_at_call 122; refine (VL _).mono ?_; rintro e w' ⟨rfl, hb'⟩; have hB := (B1 _).trans (hb'.mono (B1 _).size)))
      go_ret
      exact ⟨ret_bool FIN.out.symm, hB⟩
     | true =>
      have FIN : Hid (r = (X.drop (k + 1)).all eventB) := by show r = _; rw [HS.out, HB.out]; rfl
      go_wp2_with (first | (go_at_call 121; refine (KY _).mono ?_; rintro e w' ⟨rfl, rfl⟩) | (go_at_call 122; refine (VL _).mono ?_; rintro e w' ⟨rfl, hb'⟩; have hB := (B1 _).trans (hb'.mono (B1 _).size)))
      go_roundw
      case rel => exact ⟨k + 1, by go_num, by omega, FIN.out, hB⟩
      case measure => simp [intOf]; omega
   ·have FIN : Hid (r = true) := by show r = true; rw [HO.out, List.drop_of_length_le (by omega)]; rfl
    clear hX
    go_wp2
    go_ret
    exact ⟨ret_bool FIN.out.symm, hb⟩
theorem eqI_trace (d : Nat) (a b a' b' : Int) (W : World) : (Op.equalIn (d + 2) 96 (.agg #[.int .u64 a, .int .u64 b]) (.agg #[.int .u64 a', .int .u64 b'])).run Tryz.prog W = .ok (decide (a = a' ∧ b = b')) W := by
 have u3 := Tryz.underlying32
 have a3 := Tryz.isAgg32
 have z3 := Tryz.sizeOf32
 have hS : Tryz.prog.underlying 96 = some (.struct (Tryz.prog.fieldsOf 96)) := by kernel_rfl
 have hp : Tryz.prog.stoodInHeld 96 = false := by kernel_rfl
 rw [run_equalIn_agg W (d + 1) 96 _ _ hS hp]
 simp only [Program.fieldsOf, Tryz.underlying96]
 go_simp
 by_cases h1 : a = a' <;> by_cases h2 : b = b' <;> simp [h1, h2]
theorem run_neq_of {T : TypeId} {xs ys : Array Value} {b : Bool} {W : World} (h : (Op.equalIn 10000 T (.agg xs) (.agg ys)).run Tryz.prog W = .ok b W) : (binOp .neq T (.agg xs) (.agg ys)).run Tryz.prog W = .ok (.bool (!b)) W := by
 rw [run_neq_struct, h]; rfl
theorem run_eql_of {T : TypeId} {xs ys : Array Value} {b : Bool} {W : World} (h : (Op.equalIn 10000 T (.agg xs) (.agg ys)).run Tryz.prog W = .ok b W) : (binOp .eql T (.agg xs) (.agg ys)).run Tryz.prog W = .ok (.bool b) W := by
 rw [run_eql_struct, h]; rfl
theorem guard_trace : Tryz.prog.eqGuardType Tryz.prog.depth 96 = false := by kernel_rfl
end Go.Proofs.YtnffedmcblbkoaaGreatDoor
