/-
  Zn.
-/
import Derived.Test.YtpcfchbiohbcoaaDoorZl
import Derived.Deep.RegionHeld3
namespace Go.Proofs.YtpcfchbiohbcoaaDoor
open Go.RowKit
set_option maxRecDepth 100000

def riseB {α : Type} (c : α → α → Int) : List α → Bool
  | [] => true
  | [_] => true
  | a :: b :: r => decide (c a b < 0) && riseB c (b :: r)
theorem rise_step {α : Type} {c : α → α → Int} {x : List α} {j : Nat} {r : Bool} (h : r = riseB c (x.drop j)) (hx : j + 1 < x.length) : r = (decide (c x[j] x[j + 1] < 0) && riseB c (x.drop (j + 1))) := by
  rw [h, List.drop_eq_getElem_cons (by omega : j < x.length), List.drop_eq_getElem_cons hx]
  rfl
theorem rise_end {α : Type} {c : α → α → Int} {x : List α} {j : Nat} {r : Bool} (h : r = riseB c (x.drop j)) (hx : x.length ≤ j + 1) : r = true := by
  rw [h]
  by_cases h0 : j < x.length
  · rw [List.drop_eq_getElem_cons h0, List.drop_of_length_le (by omega)]; rfl
  · rw [List.drop_of_length_le (by omega)]; rfl

set_option maxHeartbeats 400000 in
theorem rise_events (ad : Option Addr) (n c : Nat) (X : List EventD) (w : World) (hX : EventsAt w ad n X) (hn : n ≤ 140737488355328) :
    Calls Tryd.prog 72 #[.slice ad n c, .func (.func 73) #[] #[]] w fun e w' => e = .returned (.bool (riseB cmpE X)) ∧ Below w.heap.size w w' := by
  have hl : X.length = n := hX.len
  obtain ⟨r, hr⟩ : ∃ r, riseB cmpE X = r := ⟨_, rfl⟩
  rw [hr]
  go_enter Tryd.func72, Tryd.ntmps72
  go_wp2
  go_loopw [5] (fun a wr => ∃ j : Nat, a = .int .i64 ((j : Int) + 1) ∧ (j < n ∨ j = 0) ∧ r = riseB cmpE (X.drop j) ∧ Below w.heap.size w wr) (fun a _ => n - (intOf a).toNat)
  case atStart => exact ⟨0, rfl, Or.inr rfl, by simp [hr], Below.refl _ _⟩
  case round =>
    obtain ⟨j, rfl, hjn, ho, hbw⟩ := hrel
    have HO : Hid (r = riseB cmpE (X.drop j)) := ho
    have hX2 := hX.below hbw
    have hsz := hbw.size
    clear ho hr hX
    by_cases hlt : j + 1 < n
    · obtain ⟨b1, o1, rfl, hc1⟩ := hX2.lies (by omega)
      have ck := hc1 j (by omega)
      have dk := hc1 (j + 1) (by omega)
      have st := rise_step HO.out (by omega)
      obtain ⟨x, hx⟩ : ∃ x, X[j] = x := ⟨_, rfl⟩
      obtain ⟨y, hy⟩ : ∃ y, X[j + 1] = y := ⟨_, rfl⟩
      rw [hx, hy] at st
      rw [hx] at ck
      rw [hy] at dk
      obtain ⟨c0, c1⟩ := ck
      obtain ⟨d0, d1⟩ := dk
      have l2 : b1 < wr.heap.size := World.block_lt_of_cell? wr _ c0
      have i1 : (0 : Int) ≤ (j : Int) := by omega
      have i2 : (j : Int) < (n : Int) := by omega
      have i3 : ((j : Int) + 1).toNat = j + 1 := by omega
      have i4 : (0 : Int) ≤ (j : Int) + 1 := by omega
      have i5 : (j : Int) + 1 < (n : Int) := by omega
      have i6 : IntKind.i64.wrap (j : Int) = (j : Int) := by rw [wrap_i64]; omega
      have i7 : IntKind.i64.wrap ((j : Int) + 1 - 1) = (j : Int) := by rw [wrap_i64]; omega
      have HS : Hid (r = (decide (cmpE x y < 0) && riseB cmpE (X.drop (j + 1)))) := st
      have CC := event_any x y
      obtain ⟨q, hq⟩ : ∃ q, cmpE x y = q := ⟨_, rfl⟩
      rw [show cmpE x y = q from hq] at HS
      rw [hq] at CC
      simp only [eventV] at CC
      clear st hx hy HO hc1 hX2 hq hjn
      by_cases hq0 : q < 0
      · have FIN : Hid (r = riseB cmpE (X.drop (j + 1))) := by show r = _; rw [HS.out]; simp [hq0]
        clear HS
        go_wp2
        go_region_held3 (fun w' => w'.cell? ⟨b1, o1 + j * 2, none⟩ = some (.int .i64 x.moment) ∧ w'.cell? ⟨b1, o1 + j * 2 + 1, none⟩ = some (.string x.name) ∧ w'.cell? ⟨b1, o1 + (j + 1) * 2, none⟩ = some (.int .i64 y.moment) ∧ w'.cell? ⟨b1, o1 + (j + 1) * 2 + 1, none⟩ = some (.string y.name)) (first | (simp [go_sem, *]; done) | exact S5) (first | (go_at_call 73; refine (CC _).mono ?_; rintro e w5 ⟨rfl, hb5⟩; have hbq : Below wr.heap.size wr w5 := ⟨hb5.os, hb5.tape, hb5.output, hb5.size, hb5.block⟩; have S5 : w5.cell? ⟨b1, o1 + j * 2, none⟩ = some (.int .i64 x.moment) ∧ w5.cell? ⟨b1, o1 + j * 2 + 1, none⟩ = some (.string x.name) ∧ w5.cell? ⟨b1, o1 + (j + 1) * 2, none⟩ = some (.int .i64 y.moment) ∧ w5.cell? ⟨b1, o1 + (j + 1) * 2 + 1, none⟩ = some (.string y.name) := ⟨(hbq.cell (p := ⟨b1, o1 + j * 2, none⟩) l2).trans c0, (hbq.cell (p := ⟨b1, o1 + j * 2 + 1, none⟩) l2).trans c1, (hbq.cell (p := ⟨b1, o1 + (j + 1) * 2, none⟩) l2).trans d0, (hbq.cell (p := ⟨b1, o1 + (j + 1) * 2 + 1, none⟩) l2).trans d1⟩; clear CC))
        have hB := hbw.trans (hbq.mono hsz)
        go_wp2
        go_roundw
        case rel => exact ⟨j + 1, by go_num, Or.inl (by omega), FIN.out, hB⟩
        case measure => simp [intOf]; omega
      · have FIN : Hid (r = false) := by show r = _; rw [HS.out]; simp [hq0]
        clear HS
        go_wp2
        go_region_held3 (fun w' => w'.cell? ⟨b1, o1 + j * 2, none⟩ = some (.int .i64 x.moment) ∧ w'.cell? ⟨b1, o1 + j * 2 + 1, none⟩ = some (.string x.name) ∧ w'.cell? ⟨b1, o1 + (j + 1) * 2, none⟩ = some (.int .i64 y.moment) ∧ w'.cell? ⟨b1, o1 + (j + 1) * 2 + 1, none⟩ = some (.string y.name)) (first | (simp [go_sem, *]; done) | exact S5) (first | (go_at_call 73; refine (CC _).mono ?_; rintro e w5 ⟨rfl, hb5⟩; have hbq : Below wr.heap.size wr w5 := ⟨hb5.os, hb5.tape, hb5.output, hb5.size, hb5.block⟩; have S5 : w5.cell? ⟨b1, o1 + j * 2, none⟩ = some (.int .i64 x.moment) ∧ w5.cell? ⟨b1, o1 + j * 2 + 1, none⟩ = some (.string x.name) ∧ w5.cell? ⟨b1, o1 + (j + 1) * 2, none⟩ = some (.int .i64 y.moment) ∧ w5.cell? ⟨b1, o1 + (j + 1) * 2 + 1, none⟩ = some (.string y.name) := ⟨(hbq.cell (p := ⟨b1, o1 + j * 2, none⟩) l2).trans c0, (hbq.cell (p := ⟨b1, o1 + j * 2 + 1, none⟩) l2).trans c1, (hbq.cell (p := ⟨b1, o1 + (j + 1) * 2, none⟩) l2).trans d0, (hbq.cell (p := ⟨b1, o1 + (j + 1) * 2 + 1, none⟩) l2).trans d1⟩; clear CC))
        have hB := hbw.trans (hbq.mono hsz)
        go_wp2
        go_ret
        exact ⟨ret_bool FIN.out.symm, hB⟩
    · have FIN : Hid (r = true) := rise_end HO.out (by omega)
      have i5 : ¬ (j : Int) + 1 < (n : Int) := by omega
      go_wp2
      go_ret
      exact ⟨ret_bool FIN.out.symm, hbw⟩

set_option maxHeartbeats 400000 in
theorem rise_attrs (ad : Option Addr) (n c : Nat) (X : List AttrD) (w : World) (hX : AttrsAt w ad n X) (hn : n ≤ 140737488355328) :
    Calls Tryd.prog 68 #[.slice ad n c, .func (.func 69) #[] #[]] w fun e w' => e = .returned (.bool (riseB (fun a b : AttrD => cmpS a.key b.key) X)) ∧ Below w.heap.size w w' := by
  have hl : X.length = n := hX.len
  obtain ⟨r, hr⟩ : ∃ r, riseB (fun a b : AttrD => cmpS a.key b.key) X = r := ⟨_, rfl⟩
  rw [hr]
  go_enter Tryd.func68, Tryd.ntmps68
  go_wp2
  go_loopw [5] (fun a wr => ∃ j : Nat, a = .int .i64 ((j : Int) + 1) ∧ (j < n ∨ j = 0) ∧ r = riseB (fun a b : AttrD => cmpS a.key b.key) (X.drop j) ∧ Below w.heap.size w wr) (fun a _ => n - (intOf a).toNat)
  case atStart => exact ⟨0, rfl, Or.inr rfl, by simp [hr], Below.refl _ _⟩
  case round =>
    obtain ⟨j, rfl, hjn, ho, hbw⟩ := hrel
    have HO : Hid (r = riseB (fun a b : AttrD => cmpS a.key b.key) (X.drop j)) := ho
    have hX2 := hX.below hbw
    have hsz := hbw.size
    clear ho hr hX
    by_cases hlt : j + 1 < n
    · obtain ⟨b1, o1, rfl, hc1⟩ := hX2.lies (by omega)
      have ck := hc1 j (by omega)
      have dk := hc1 (j + 1) (by omega)
      have st := rise_step HO.out (by omega)
      obtain ⟨x, hx⟩ : ∃ x, X[j] = x := ⟨_, rfl⟩
      obtain ⟨y, hy⟩ : ∃ y, X[j + 1] = y := ⟨_, rfl⟩
      rw [hx, hy] at st
      rw [hx] at ck
      rw [hy] at dk
      obtain ⟨c0, c1, c2, c3⟩ := ck
      obtain ⟨d0, d1, d2, d3⟩ := dk
      have l2 : b1 < wr.heap.size := World.block_lt_of_cell? wr _ c0
      have i1 : (0 : Int) ≤ (j : Int) := by omega
      have i2 : (j : Int) < (n : Int) := by omega
      have i3 : ((j : Int) + 1).toNat = j + 1 := by omega
      have i4 : (0 : Int) ≤ (j : Int) + 1 := by omega
      have i5 : (j : Int) + 1 < (n : Int) := by omega
      have i6 : IntKind.i64.wrap (j : Int) = (j : Int) := by rw [wrap_i64]; omega
      have i7 : IntKind.i64.wrap ((j : Int) + 1 - 1) = (j : Int) := by rw [wrap_i64]; omega
      have HS : Hid (r = (decide ((fun a b : AttrD => cmpS a.key b.key) x y < 0) && riseB (fun a b : AttrD => cmpS a.key b.key) (X.drop (j + 1)))) := st
      have CC := key_any x y
      obtain ⟨q, hq⟩ : ∃ q, cmpS x.key y.key = q := ⟨_, rfl⟩
      rw [show (fun a b : AttrD => cmpS a.key b.key) x y = q from hq] at HS
      rw [hq] at CC
      simp only [attrV] at CC
      clear st hx hy HO hc1 hX2 hq hjn
      by_cases hq0 : q < 0
      · have FIN : Hid (r = riseB (fun a b : AttrD => cmpS a.key b.key) (X.drop (j + 1))) := by show r = _; rw [HS.out]; simp [hq0]
        clear HS
        go_wp2
        go_region_held3 (fun w' => w'.cell? ⟨b1, o1 + j * 4, none⟩ = some (.string x.key) ∧ w'.cell? ⟨b1, o1 + j * 4 + 1, none⟩ = some (.int .i64 x.kind) ∧ w'.cell? ⟨b1, o1 + j * 4 + 2, none⟩ = some (.string x.text) ∧ w'.cell? ⟨b1, o1 + j * 4 + 3, none⟩ = some (.int .i64 x.num) ∧ w'.cell? ⟨b1, o1 + (j + 1) * 4, none⟩ = some (.string y.key) ∧ w'.cell? ⟨b1, o1 + (j + 1) * 4 + 1, none⟩ = some (.int .i64 y.kind) ∧ w'.cell? ⟨b1, o1 + (j + 1) * 4 + 2, none⟩ = some (.string y.text) ∧ w'.cell? ⟨b1, o1 + (j + 1) * 4 + 3, none⟩ = some (.int .i64 y.num)) (first | (simp [go_sem, *]; done) | exact S5) (first | (go_at_call 69; refine (CC _).mono ?_; rintro e w5 ⟨rfl, hb5⟩; have hbq : Below wr.heap.size wr w5 := hb5 ▸ (((Below.refl _ _).alloc (Nat.le_refl _) _).alloc (by simp) _).drew; have S5 : w5.cell? ⟨b1, o1 + j * 4, none⟩ = some (.string x.key) ∧ w5.cell? ⟨b1, o1 + j * 4 + 1, none⟩ = some (.int .i64 x.kind) ∧ w5.cell? ⟨b1, o1 + j * 4 + 2, none⟩ = some (.string x.text) ∧ w5.cell? ⟨b1, o1 + j * 4 + 3, none⟩ = some (.int .i64 x.num) ∧ w5.cell? ⟨b1, o1 + (j + 1) * 4, none⟩ = some (.string y.key) ∧ w5.cell? ⟨b1, o1 + (j + 1) * 4 + 1, none⟩ = some (.int .i64 y.kind) ∧ w5.cell? ⟨b1, o1 + (j + 1) * 4 + 2, none⟩ = some (.string y.text) ∧ w5.cell? ⟨b1, o1 + (j + 1) * 4 + 3, none⟩ = some (.int .i64 y.num) := ⟨(hbq.cell (p := ⟨b1, o1 + j * 4, none⟩) l2).trans c0, (hbq.cell (p := ⟨b1, o1 + j * 4 + 1, none⟩) l2).trans c1, (hbq.cell (p := ⟨b1, o1 + j * 4 + 2, none⟩) l2).trans c2, (hbq.cell (p := ⟨b1, o1 + j * 4 + 3, none⟩) l2).trans c3, (hbq.cell (p := ⟨b1, o1 + (j + 1) * 4, none⟩) l2).trans d0, (hbq.cell (p := ⟨b1, o1 + (j + 1) * 4 + 1, none⟩) l2).trans d1, (hbq.cell (p := ⟨b1, o1 + (j + 1) * 4 + 2, none⟩) l2).trans d2, (hbq.cell (p := ⟨b1, o1 + (j + 1) * 4 + 3, none⟩) l2).trans d3⟩; clear CC))
        have hB := hbw.trans (hbq.mono hsz)
        go_wp2
        go_roundw
        case rel => exact ⟨j + 1, by go_num, Or.inl (by omega), FIN.out, by subst hb5; exact hB⟩
        case measure => simp [intOf]; omega
      · have FIN : Hid (r = false) := by show r = _; rw [HS.out]; simp [hq0]
        clear HS
        go_wp2
        go_region_held3 (fun w' => w'.cell? ⟨b1, o1 + j * 4, none⟩ = some (.string x.key) ∧ w'.cell? ⟨b1, o1 + j * 4 + 1, none⟩ = some (.int .i64 x.kind) ∧ w'.cell? ⟨b1, o1 + j * 4 + 2, none⟩ = some (.string x.text) ∧ w'.cell? ⟨b1, o1 + j * 4 + 3, none⟩ = some (.int .i64 x.num) ∧ w'.cell? ⟨b1, o1 + (j + 1) * 4, none⟩ = some (.string y.key) ∧ w'.cell? ⟨b1, o1 + (j + 1) * 4 + 1, none⟩ = some (.int .i64 y.kind) ∧ w'.cell? ⟨b1, o1 + (j + 1) * 4 + 2, none⟩ = some (.string y.text) ∧ w'.cell? ⟨b1, o1 + (j + 1) * 4 + 3, none⟩ = some (.int .i64 y.num)) (first | (simp [go_sem, *]; done) | exact S5) (first | (go_at_call 69; refine (CC _).mono ?_; rintro e w5 ⟨rfl, hb5⟩; have hbq : Below wr.heap.size wr w5 := hb5 ▸ (((Below.refl _ _).alloc (Nat.le_refl _) _).alloc (by simp) _).drew; have S5 : w5.cell? ⟨b1, o1 + j * 4, none⟩ = some (.string x.key) ∧ w5.cell? ⟨b1, o1 + j * 4 + 1, none⟩ = some (.int .i64 x.kind) ∧ w5.cell? ⟨b1, o1 + j * 4 + 2, none⟩ = some (.string x.text) ∧ w5.cell? ⟨b1, o1 + j * 4 + 3, none⟩ = some (.int .i64 x.num) ∧ w5.cell? ⟨b1, o1 + (j + 1) * 4, none⟩ = some (.string y.key) ∧ w5.cell? ⟨b1, o1 + (j + 1) * 4 + 1, none⟩ = some (.int .i64 y.kind) ∧ w5.cell? ⟨b1, o1 + (j + 1) * 4 + 2, none⟩ = some (.string y.text) ∧ w5.cell? ⟨b1, o1 + (j + 1) * 4 + 3, none⟩ = some (.int .i64 y.num) := ⟨(hbq.cell (p := ⟨b1, o1 + j * 4, none⟩) l2).trans c0, (hbq.cell (p := ⟨b1, o1 + j * 4 + 1, none⟩) l2).trans c1, (hbq.cell (p := ⟨b1, o1 + j * 4 + 2, none⟩) l2).trans c2, (hbq.cell (p := ⟨b1, o1 + j * 4 + 3, none⟩) l2).trans c3, (hbq.cell (p := ⟨b1, o1 + (j + 1) * 4, none⟩) l2).trans d0, (hbq.cell (p := ⟨b1, o1 + (j + 1) * 4 + 1, none⟩) l2).trans d1, (hbq.cell (p := ⟨b1, o1 + (j + 1) * 4 + 2, none⟩) l2).trans d2, (hbq.cell (p := ⟨b1, o1 + (j + 1) * 4 + 3, none⟩) l2).trans d3⟩; clear CC))
        have hB := hbw.trans (hbq.mono hsz)
        go_wp2
        go_ret
        exact ⟨ret_bool FIN.out.symm, by subst hb5; exact hB⟩
    · have FIN : Hid (r = true) := rise_end HO.out (by omega)
      have i5 : ¬ (j : Int) + 1 < (n : Int) := by omega
      go_wp2
      go_ret
      exact ⟨ret_bool FIN.out.symm, hbw⟩

set_option maxHeartbeats 400000 in
theorem rise_links (ad : Option Addr) (n c : Nat) (X : List Int) (w : World) (hX : HoldsV w ad n (intsV .u64 X)) (hn : n ≤ 140737488355328) :
    Calls Tryd.prog 66 #[.slice ad n c, .func (.func 67) #[] #[]] w fun e w' => e = .returned (.bool (riseB cmpI X)) ∧ Below w.heap.size w w' := by
  have hl : X.length = n := by simpa [intsV] using hX.len
  obtain ⟨r, hr⟩ : ∃ r, riseB cmpI X = r := ⟨_, rfl⟩
  rw [hr]
  go_enter Tryd.func66, Tryd.ntmps66
  go_wp2
  go_loopw [5] (fun a wr => ∃ j : Nat, a = .int .i64 ((j : Int) + 1) ∧ (j < n ∨ j = 0) ∧ r = riseB cmpI (X.drop j) ∧ Below w.heap.size w wr) (fun a _ => n - (intOf a).toNat)
  case atStart => exact ⟨0, rfl, Or.inr rfl, by simp [hr], Below.refl _ _⟩
  case round =>
    obtain ⟨j, rfl, hjn, ho, hbw⟩ := hrel
    have HO : Hid (r = riseB cmpI (X.drop j)) := ho
    have hX2 := hX.below hbw
    have hsz := hbw.size
    clear ho hr hX
    by_cases hlt : j + 1 < n
    · obtain ⟨b1, o1, rfl, hc1⟩ := hX2.plain (intsV_get (k := .u64) (by omega : j < X.length))
      have ck := hc1 j _ (intsV_get (k := .u64) (by omega : j < X.length))
      have dk := hc1 (j + 1) _ (intsV_get (k := .u64) (by omega : j + 1 < X.length))
      have st := rise_step HO.out (by omega)
      obtain ⟨x, hx⟩ : ∃ x, X[j] = x := ⟨_, rfl⟩
      obtain ⟨y, hy⟩ : ∃ y, X[j + 1] = y := ⟨_, rfl⟩
      rw [hx, hy] at st
      rw [hx] at ck
      rw [hy] at dk
      have c0 := ck
      have d0 := dk
      clear ck dk
      have l2 : b1 < wr.heap.size := World.block_lt_of_cell? wr _ c0
      have i1 : (0 : Int) ≤ (j : Int) := by omega
      have i2 : (j : Int) < (n : Int) := by omega
      have i3 : ((j : Int) + 1).toNat = j + 1 := by omega
      have i4 : (0 : Int) ≤ (j : Int) + 1 := by omega
      have i5 : (j : Int) + 1 < (n : Int) := by omega
      have i6 : IntKind.i64.wrap (j : Int) = (j : Int) := by rw [wrap_i64]; omega
      have i7 : IntKind.i64.wrap ((j : Int) + 1 - 1) = (j : Int) := by rw [wrap_i64]; omega
      have HS : Hid (r = (decide (cmpI x y < 0) && riseB cmpI (X.drop (j + 1)))) := st
      have CC := cmp_id x y
      obtain ⟨q, hq⟩ : ∃ q, cmpI x y = q := ⟨_, rfl⟩
      rw [show cmpI x y = q from hq] at HS
      rw [hq] at CC
      clear st hx hy HO hc1 hX2 hq hjn
      by_cases hq0 : q < 0
      · have FIN : Hid (r = riseB cmpI (X.drop (j + 1))) := by show r = _; rw [HS.out]; simp [hq0]
        clear HS
        go_wp2
        go_region_held3 (fun w' => w'.cell? ⟨b1, o1 + j, none⟩ = some (.int .u64 x) ∧ w'.cell? ⟨b1, o1 + (j + 1), none⟩ = some (.int .u64 y)) (first | (simp [go_sem, *]; done) | exact S5) (first | (go_at_call 67; refine (CC _).mono ?_; rintro e w5 ⟨rfl, hb5⟩; have hbq : Below wr.heap.size wr w5 := hb5 ▸ (Below.refl wr.heap.size wr).drew; have S5 : w5.cell? ⟨b1, o1 + j, none⟩ = some (.int .u64 x) ∧ w5.cell? ⟨b1, o1 + (j + 1), none⟩ = some (.int .u64 y) := ⟨(hbq.cell (p := ⟨b1, o1 + j, none⟩) l2).trans c0, (hbq.cell (p := ⟨b1, o1 + (j + 1), none⟩) l2).trans d0⟩; clear CC))
        have hB := hbw.trans (hbq.mono hsz)
        go_wp2
        go_roundw
        case rel => exact ⟨j + 1, by go_num, Or.inl (by omega), FIN.out, hb5 ▸ hB⟩
        case measure => simp [intOf]; omega
      · have FIN : Hid (r = false) := by show r = _; rw [HS.out]; simp [hq0]
        clear HS
        go_wp2
        go_region_held3 (fun w' => w'.cell? ⟨b1, o1 + j, none⟩ = some (.int .u64 x) ∧ w'.cell? ⟨b1, o1 + (j + 1), none⟩ = some (.int .u64 y)) (first | (simp [go_sem, *]; done) | exact S5) (first | (go_at_call 67; refine (CC _).mono ?_; rintro e w5 ⟨rfl, hb5⟩; have hbq : Below wr.heap.size wr w5 := hb5 ▸ (Below.refl wr.heap.size wr).drew; have S5 : w5.cell? ⟨b1, o1 + j, none⟩ = some (.int .u64 x) ∧ w5.cell? ⟨b1, o1 + (j + 1), none⟩ = some (.int .u64 y) := ⟨(hbq.cell (p := ⟨b1, o1 + j, none⟩) l2).trans c0, (hbq.cell (p := ⟨b1, o1 + (j + 1), none⟩) l2).trans d0⟩; clear CC))
        have hB := hbw.trans (hbq.mono hsz)
        go_wp2
        go_ret
        exact ⟨ret_bool FIN.out.symm, hb5 ▸ hB⟩
    · have FIN : Hid (r = true) := rise_end HO.out (by omega)
      have i5 : ¬ (j : Int) + 1 < (n : Int) := by omega
      go_wp2
      go_ret
      exact ⟨ret_bool FIN.out.symm, hbw⟩
end Go.Proofs.YtpcfchbiohbcoaaDoor
