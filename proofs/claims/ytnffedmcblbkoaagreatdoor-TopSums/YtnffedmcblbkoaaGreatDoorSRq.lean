/-
  Merged: SR, SS.
-/
import Derived.Test.YtnffedmcblbkoaaGreatDoorWaq
import Derived.Handy
import Derived.Deep.RegionHeld3
namespace Go.Proofs.YtnffedmcblbkoaaGreatDoor
open Go.RowKit
set_option maxRecDepth 100000
theorem words_any (x y : Int) (w : World) :
  Calls Tryz.prog 169 #[.int .u64 x, .int .u64 y] w fun e w' => e = .returned (.int .i64 (cmpI x y)) ∧ w' = w := by
 go_enter Tryz.func169, Tryz.ntmps169
 go_wp2
 all_goals (go_ret; refine ⟨?_, rfl⟩; unfold cmpI; (repeat' split) <;> first | rfl | (exfalso; omega))
theorem numbers_any (x y : Int) (w : World) :
  Calls Tryz.prog 170 #[.int .i64 x, .int .i64 y] w fun e w' => e = .returned (.int .i64 (cmpI x y)) ∧ w' = w := by
 go_enter Tryz.func170, Tryz.ntmps170
 go_wp2
 all_goals (go_ret; refine ⟨?_, rfl⟩; unfold cmpI; (repeat' split) <;> first | rfl | (exfalso; omega))
theorem texts_any (x y : ByteArray) (w : World) :
  Calls Tryz.prog 171 #[.string x, .string y] w fun e w' => e = .returned (.int .i64 (cmpS x y)) ∧ w' = w := by
 have h1 := cmpS_lt x y
 have h2 : ∀ W : World, Sem.run Tryz.prog (binOp .gtr 9 (.string x) (.string y)) W = .ok (.bool (!decide (cmpS x y = -1) && !decide (cmpS x y = 0))) W := by
  intro W; rw [binOp_str_gtr, h1, cmpS_eq]; rfl
 have h3 := good_cmpS.rng x y
 generalize cmpS x y = c at h1 h2 h3 ⊢
 rcases h3 with rfl | rfl | rfl
 all_goals
  simp at h1 h2
  go_enter Tryz.func171, Tryz.ntmps171
  go_wp2
  go_ret
  exact ⟨rfl, rfl⟩
theorem first_any (ad : Option Addr) (n cap : Nat) (K : List Int) (w : World) (h : HoldsV w ad n (intsV .i64 K)) (hn : n ≤ 1000000) :
  Calls Tryz.prog 168 #[.slice ad n cap] w fun e w' => e = .returned (.int .i64 (orL K)) ∧ w' = w := by
 have hl : K.length = n := by simpa [intsV] using h.len
 go_enter Tryz.func168, Tryz.ntmps168
 go_wp2
 go_loop [3] (fun a => ∃ k : Nat, a = .int .i64 k ∧ k ≤ n ∧ orL K = orL (K.drop k)) (fun a => n - (intOf a).toNat)
 case atStart => exact ⟨0, rfl, by omega, by simp⟩
 case round =>
  obtain ⟨k, rfl, hk, ho⟩ := hrel
  have HO : Hid (orL K = orL (K.drop k)) := ho
  clear ho
  by_cases hlt : k < n
  ·obtain ⟨b, off, rfl, hc⟩ := h.plain (intsV_get (k := .i64) (by omega : k < K.length))
   have hcx := hc k (.int .i64 K[k]) (intsV_get (by omega))
   have hd : K.drop k = K[k] :: K.drop (k + 1) := List.drop_eq_getElem_cons (by omega)
   obtain ⟨x, hx⟩ : ∃ x, K[k] = x := ⟨_, rfl⟩
   rw [hx] at hcx hd
   have HD : Hid (K.drop k = x :: K.drop (k + 1)) := hd
   clear hd hx hc h
   by_cases h0 : x = 0
   ·subst h0
    go_wp2
    go_round
    case rel => exact ⟨k + 1, by go_num, by omega, by rw [HO.out, HD.out]; simp [orL, orI]⟩
    case measure => simp [intOf]; omega
   ·have h0' : (x != 0) = true := by simpa using h0
    have FIN : Hid (orL K = x) := by show orL K = x; rw [HO.out, HD.out]; simp [orL, orI, h0]
    clear h0
    go_wp2
    go_ret
    exact ⟨ret_int FIN.out.symm, rfl⟩
  ·have FIN : Hid (orL K = 0) := by show orL K = 0; rw [HO.out, List.drop_of_length_le (by omega)]; rfl
   go_wp2
   go_ret
   exact ⟨ret_int FIN.out.symm, rfl⟩
theorem cmpI_len {n m : Nat} : cmpI (n : Int) (m : Int) = if n < m then -1 else if m < n then 1 else 0 := by
 unfold cmpI
 repeat' split
 all_goals first | rfl | omega
theorem lex_end {α : Type} {c : α → α → Int} {x y : List α} {k : Nat} {r : Int} (h : r = lexL c (x.drop k) (y.drop k)) (hx : k ≤ x.length) (hy : k ≤ y.length) (he : ¬ (k < x.length ∧ k < y.length)) : r = cmpI (x.length : Int) (y.length : Int) := by
 rw [cmpI_len]
 by_cases h1 : k < x.length
 ·have h2 : y.length ≤ k := by omega
  rw [lexL_right h h1 h2, if_neg (by omega), if_pos (by omega)]
 ·by_cases h2 : k < y.length
  ·rw [lexL_left h (by omega) h2, if_pos (by omega)]
  ·rw [lexL_both h (by omega) (by omega), if_neg (by omega), if_neg (by omega)]
set_option maxHeartbeats 1000000 in
theorem linksOf_any (ad bd : Option Addr) (n m c d : Nat) (X Y : List Int) (w : World) (hX : HoldsV w ad n (intsV .u64 X)) (hY : HoldsV w bd m (intsV .u64 Y)) (hn : n ≤ 140737488355328) (hm : m ≤ 140737488355328) :
  Calls Tryz.prog 172 #[.slice ad n c, .slice bd m d] w fun e w' => e = .returned (.int .i64 (lexL cmpI X Y)) ∧ Below w.heap.size w w' := by
 have hl : X.length = n := by simpa [intsV] using hX.len
 have hk : Y.length = m := by simpa [intsV] using hY.len
 obtain ⟨r, hr⟩ : ∃ r, lexL cmpI X Y = r := ⟨_, rfl⟩
 rw [hr]
 have HX : Hid _ := hX
 have HY : Hid _ := hY
 have HL : Hid _ := hl
 have HK : Hid _ := hk
 clear hX hY hl hk
 go_enter Tryz.func172, Tryz.ntmps172
 go_wp2
 go_loopw [5] (fun a wr => ∃ k : Nat, a = .int .i64 k ∧ k ≤ n ∧ k ≤ m ∧ r = lexL cmpI (X.drop k) (Y.drop k) ∧ Below w.heap.size w wr) (fun a _ => n - (intOf a).toNat)
 case atStart => exact ⟨0, rfl, by omega, by omega, by simp [hr], Below.refl _ _⟩
 case round =>
  obtain ⟨k, rfl, hkn, hkm, ho, hb⟩ := hrel
  have HO : Hid (r = lexL cmpI (X.drop k) (Y.drop k)) := ho
  have HB : Hid _ := hb
  clear ho hr hb
  have hl := HL.out
  have hk := HK.out
  by_cases hlt : k < n ∧ k < m
  ·obtain ⟨hlt1, hlt2⟩ := hlt
   have hX := HX.out.below HB.out
   have hY := HY.out.below HB.out
   obtain ⟨b1, o1, rfl, hc1⟩ := hX.plain (intsV_get (k := .u64) (by omega : k < X.length))
   have hcx := hc1 k _ (intsV_get (k := .u64) (by omega : k < X.length))
   obtain ⟨b2, o2, rfl, hc2⟩ := hY.plain (intsV_get (k := .u64) (by omega : k < Y.length))
   have hcy := hc2 k _ (intsV_get (k := .u64) (by omega : k < Y.length))
   have st := lexL_drop HO.out (by omega) (by omega)
   obtain ⟨x, hx⟩ : ∃ x, X[k] = x := ⟨_, rfl⟩
   obtain ⟨y, hy⟩ : ∃ y, Y[k] = y := ⟨_, rfl⟩
   rw [hx, hy] at st
   rw [hx] at hcx
   rw [hy] at hcy
   have HS : Hid (r = orI (cmpI x y) (lexL cmpI (X.drop (k + 1)) (Y.drop (k + 1)))) := st
   obtain ⟨q, hq⟩ : ∃ q, cmpI x y = q := ⟨_, rfl⟩
   have CC := words_any x y
   rw [hq] at CC HS
   have j1 : (k : Int) < (n : Int) := by omega
   have j2 : (k : Int) < (m : Int) := by omega
   have d1 : decide ((k : Int) < (n : Int)) = true := by simpa using j1
   clear st hx hy HO hc1 hc2 hX hY hq hl hk
   by_cases h0 : q = 0
   ·subst h0
    go_wp2
    go_region_held3 (fun W => W.cell? ⟨b1, o1 + k, none⟩ = some (.int .u64 x) ∧ W.cell? ⟨b2, o2 + k, none⟩ = some (.int .u64 y)) (exact ⟨hcx, hcy⟩) (first | (go_at_call 169; refine (CC _).mono ?_; rintro e w' ⟨rfl, rfl⟩))
    go_wp2
    go_roundw
    case rel => exact ⟨k + 1, by go_num, by omega, by omega, by rw [HS.out]; simp [orI], HB.out.drew⟩
    case measure => simp [intOf]; omega
   ·have h0' : (q != 0) = true := by simpa using h0
    have FIN : Hid (r = q) := by show r = q; rw [HS.out]; simp [orI, h0]
    clear h0
    go_wp2
    go_region_held3 (fun W => W.cell? ⟨b1, o1 + k, none⟩ = some (.int .u64 x) ∧ W.cell? ⟨b2, o2 + k, none⟩ = some (.int .u64 y)) (exact ⟨hcx, hcy⟩) (first | (go_at_call 169; refine (CC _).mono ?_; rintro e w' ⟨rfl, rfl⟩))
    go_wp2
    go_returns
    exact ⟨ret_int FIN.out.symm, HB.out.drew⟩
  ·have FIN : Hid (r = cmpI (n : Int) (m : Int)) := by
    show r = _
    rw [← hl, ← hk]
    exact lex_end HO.out (by omega) (by omega) (by rw [hl, hk]; exact hlt)
   have NB := numbers_any (n : Int) (m : Int)
   by_cases h1 : k < n
   ·have j1 : (k : Int) < (n : Int) := by omega
    have j2 : ¬ (k : Int) < (m : Int) := by omega
    clear hlt hl hk
    go_wp2_with (go_at_call 170; refine (NB _).mono ?_; rintro e w' ⟨rfl, rfl⟩)
    go_returns
    exact ⟨ret_int FIN.out.symm, HB.out⟩
   ·have j1 : ¬ (k : Int) < (n : Int) := by omega
    clear hlt hl hk
    go_wp2_with (go_at_call 170; refine (NB _).mono ?_; rintro e w' ⟨rfl, rfl⟩)
    go_returns
    exact ⟨ret_int FIN.out.symm, HB.out⟩
theorem cell_blk {w : World} {g : Nat} {cs : Array Value} {t : TypeId} {fz : Nat × Nat} (h : w.heap[g]? = some (.cells cs t fz)) (j : Nat) {u : Value} (hu : cs[j]? = some u) : w.cell? ⟨g, j, none⟩ = some u := by
 simp [World.cell?, h, hu]
theorem first_plain (w : World) (K : List Int) (hl : K.length ≤ 1000000) :
  Calls Tryz.prog 168 #[.slice (some ⟨w.heap.size, 0, none⟩) K.length K.length] ((w.alloc (.cells (K.map (Value.int .i64)).toArray 3)).drew) fun e w' => e = .returned (.int .i64 (orL K)) ∧ w' = (w.alloc (.cells (K.map (Value.int .i64)).toArray 3)).drew := by
 have h := holds_new (w := w.alloc (.cells (K.map (Value.int .i64)).toArray 3)) (K := K) (alloc_at rfl)
 exact first_any _ _ _ K _ ⟨h.len, h.cells⟩ hl
set_option maxHeartbeats 4000000 in
theorem eventsOf_any (ad bd : Option Addr) (n m c d : Nat) (X Y : List EventD) (w : World) (hX : EventsAt w ad n X) (hY : EventsAt w bd m Y) (hn : n ≤ 140737488355328) (hm : m ≤ 140737488355328) :
  Calls Tryz.prog 174 #[.slice ad n c, .slice bd m d] w fun e w' => e = .returned (.int .i64 (lexL cmpE X Y)) ∧ Below w.heap.size w w' := by
 have hl : X.length = n := hX.len
 have hk : Y.length = m := hY.len
 obtain ⟨r, hr⟩ : ∃ r, lexL cmpE X Y = r := ⟨_, rfl⟩
 rw [hr]
 have HX : Hid _ := hX
 have HY : Hid _ := hY
 have HL : Hid _ := hl
 have HK : Hid _ := hk
 clear hX hY hl hk
 go_enter Tryz.func174, Tryz.ntmps174
 go_wp2
 go_loopw [5] (fun a wr => ∃ k : Nat, a = .int .i64 k ∧ k ≤ n ∧ k ≤ m ∧ r = lexL cmpE (X.drop k) (Y.drop k) ∧ Below w.heap.size w wr) (fun a _ => n - (intOf a).toNat)
 case atStart => exact ⟨0, rfl, by omega, by omega, by simp [hr], Below.refl _ _⟩
 case round =>
  obtain ⟨k, rfl, hkn, hkm, ho, hb⟩ := hrel
  have HO : Hid (r = lexL cmpE (X.drop k) (Y.drop k)) := ho
  have HB : Hid _ := hb
  clear ho hr hb
  have hl := HL.out
  have hk := HK.out
  by_cases hlt : k < n ∧ k < m
  ·obtain ⟨hlt1, hlt2⟩ := hlt
   have hX := HX.out.below HB.out
   have hY := HY.out.below HB.out
   obtain ⟨b1, o1, rfl, hc1⟩ := hX.lies (by omega)
   obtain ⟨b2, o2, rfl, hc2⟩ := hY.lies (by omega)
   have hcx := hc1 k (by omega)
   have hcy := hc2 k (by omega)
   have st := lexL_drop HO.out (by omega) (by omega)
   obtain ⟨x, hx⟩ : ∃ x, X[k] = x := ⟨_, rfl⟩
   obtain ⟨y, hy⟩ : ∃ y, Y[k] = y := ⟨_, rfl⟩
   rw [hx, hy] at st
   rw [hx] at hcx
   rw [hy] at hcy
   have HS : Hid (r = orI (cmpE x y) (lexL cmpE (X.drop (k + 1)) (Y.drop (k + 1)))) := st
   have j1 : (k : Int) < (n : Int) := by omega
   have j2 : (k : Int) < (m : Int) := by omega
   have l1 := World.block_lt_of_cell? wr _ hcx.1
   have l2 := World.block_lt_of_cell? wr _ hcy.1
   have KP : ∀ W : World, Below wr.heap.size wr W → W.cell? ⟨b1, o1 + k * 2, none⟩ = some (.int .i64 x.moment) ∧ W.cell? ⟨b1, o1 + k * 2 + 1, none⟩ = some (.string x.name) ∧ W.cell? ⟨b2, o2 + k * 2, none⟩ = some (.int .i64 y.moment) ∧ W.cell? ⟨b2, o2 + k * 2 + 1, none⟩ = some (.string y.name) := fun W hb => ⟨(hb.cell l1).trans hcx.1, (hb.cell (World.block_lt_of_cell? wr _ hcx.2)).trans hcx.2, (hb.cell l2).trans hcy.1, (hb.cell (World.block_lt_of_cell? wr _ hcy.2)).trans hcy.2⟩
   have C1 := numbers_any x.moment y.moment
   have C2 := texts_any x.name y.name
   have FI := first_plain wr [cmpI x.moment y.moment, cmpS x.name y.name] (by simp)
   have hq : orL [cmpI x.moment y.moment, cmpS x.name y.name] = cmpE x y := rfl
   rw [hq] at FI
   obtain ⟨q, hq'⟩ : ∃ q, cmpE x y = q := ⟨_, rfl⟩
   rw [hq'] at FI HS
   simp only [List.map, List.length_cons, List.length_nil, Nat.zero_add, Nat.reduceAdd] at FI
   obtain ⟨e1, e2⟩ := hcx
   obtain ⟨e3, e4⟩ := hcy
   generalize cmpI x.moment y.moment = q1 at *
   generalize cmpS x.name y.name = q2 at *
   clear st hx hy HO hc1 hc2 hX hY hl hk hq hq'
   by_cases h0 : q = 0
   ·subst h0
    go_wp2
    go_region_held3 (fun W => W.cell? ⟨b1, o1 + k * 2, none⟩ = some (.int .i64 x.moment) ∧ W.cell? ⟨b1, o1 + k * 2 + 1, none⟩ = some (.string x.name) ∧ W.cell? ⟨b2, o2 + k * 2, none⟩ = some (.int .i64 y.moment) ∧ W.cell? ⟨b2, o2 + k * 2 + 1, none⟩ = some (.string y.name)) (exact KP _ (by repeat' first | exact Below.refl _ _ | assumption | refine Below.alloc ?_ (by first | exact Nat.le_refl _ | omega | (simp; omega) | (simp; done)) _ | refine Below.drew ?_)) (first
     | (go_at_call 170; refine (C1 _).mono ?_; rintro e w' ⟨rfl, rfl⟩)
     | (go_at_call 171; refine (C2 _).mono ?_; rintro e w' ⟨rfl, rfl⟩)
     | (go_at_call 168; refine FI.mono ?_; rintro e w' ⟨rfl, rfl⟩))
    all_goals
     go_wp2
     go_roundw
     case rel => exact ⟨k + 1, by go_num, by omega, by omega, by rw [HS.out]; simp [orI], (HB.out.alloc HB.out.size _).drew⟩
     case measure => simp [intOf]; omega
   ·have h0' : (q != 0) = true := by simpa using h0
    have FIN : Hid (r = q) := by show r = q; rw [HS.out]; simp [orI, h0]
    clear h0
    go_wp2
    go_region_held3 (fun W => W.cell? ⟨b1, o1 + k * 2, none⟩ = some (.int .i64 x.moment) ∧ W.cell? ⟨b1, o1 + k * 2 + 1, none⟩ = some (.string x.name) ∧ W.cell? ⟨b2, o2 + k * 2, none⟩ = some (.int .i64 y.moment) ∧ W.cell? ⟨b2, o2 + k * 2 + 1, none⟩ = some (.string y.name)) (exact KP _ (by repeat' first | exact Below.refl _ _ | assumption | refine Below.alloc ?_ (by first | exact Nat.le_refl _ | omega | (simp; omega) | (simp; done)) _ | refine Below.drew ?_)) (first
     | (go_at_call 170; refine (C1 _).mono ?_; rintro e w' ⟨rfl, rfl⟩)
     | (go_at_call 171; refine (C2 _).mono ?_; rintro e w' ⟨rfl, rfl⟩)
     | (go_at_call 168; refine FI.mono ?_; rintro e w' ⟨rfl, rfl⟩))
    all_goals
     go_wp2
     go_returns
     exact ⟨ret_int FIN.out.symm, (HB.out.alloc HB.out.size _).drew⟩
  ·have FIN : Hid (r = cmpI (n : Int) (m : Int)) := by
    show r = _
    rw [← hl, ← hk]
    exact lex_end HO.out (by omega) (by omega) (by rw [hl, hk]; exact hlt)
   have NB := numbers_any (n : Int) (m : Int)
   by_cases h1 : k < n
   ·have j1 : (k : Int) < (n : Int) := by omega
    have j2 : ¬ (k : Int) < (m : Int) := by omega
    clear hlt hl hk
    go_wp2_with (go_at_call 170; refine (NB _).mono ?_; rintro e w' ⟨rfl, rfl⟩)
    go_returns
    exact ⟨ret_int FIN.out.symm, HB.out⟩
   ·have j1 : ¬ (k : Int) < (n : Int) := by omega
    clear hlt hl hk
    go_wp2_with (go_at_call 170; refine (NB _).mono ?_; rintro e w' ⟨rfl, rfl⟩)
    go_returns
    exact ⟨ret_int FIN.out.symm, HB.out⟩
set_option maxHeartbeats 4000000 in
theorem attrsOf_any (ad bd : Option Addr) (n m c d : Nat) (X Y : List AttrD) (w : World) (hX : AttrsAt w ad n X) (hY : AttrsAt w bd m Y) (hn : n ≤ 140737488355328) (hm : m ≤ 140737488355328) :
  Calls Tryz.prog 173 #[.slice ad n c, .slice bd m d] w fun e w' => e = .returned (.int .i64 (lexL cmpA X Y)) ∧ Below w.heap.size w w' := by
 have hl : X.length = n := hX.len
 have hk : Y.length = m := hY.len
 obtain ⟨r, hr⟩ : ∃ r, lexL cmpA X Y = r := ⟨_, rfl⟩
 rw [hr]
 have HX : Hid _ := hX
 have HY : Hid _ := hY
 have HL : Hid _ := hl
 have HK : Hid _ := hk
 clear hX hY hl hk
 go_enter Tryz.func173, Tryz.ntmps173
 go_wp2
 go_loopw [5] (fun a wr => ∃ k : Nat, a = .int .i64 k ∧ k ≤ n ∧ k ≤ m ∧ r = lexL cmpA (X.drop k) (Y.drop k) ∧ Below w.heap.size w wr) (fun a _ => n - (intOf a).toNat)
 case atStart => exact ⟨0, rfl, by omega, by omega, by simp [hr], Below.refl _ _⟩
 case round =>
  obtain ⟨k, rfl, hkn, hkm, ho, hb⟩ := hrel
  have HO : Hid (r = lexL cmpA (X.drop k) (Y.drop k)) := ho
  have HB : Hid _ := hb
  clear ho hr hb
  have hl := HL.out
  have hk := HK.out
  by_cases hlt : k < n ∧ k < m
  ·obtain ⟨hlt1, hlt2⟩ := hlt
   have hX := HX.out.below HB.out
   have hY := HY.out.below HB.out
   obtain ⟨b1, o1, rfl, hc1⟩ := hX.lies (by omega)
   obtain ⟨b2, o2, rfl, hc2⟩ := hY.lies (by omega)
   have hcx := hc1 k (by omega)
   have hcy := hc2 k (by omega)
   have st := lexL_drop HO.out (by omega) (by omega)
   obtain ⟨x, hx⟩ : ∃ x, X[k] = x := ⟨_, rfl⟩
   obtain ⟨y, hy⟩ : ∃ y, Y[k] = y := ⟨_, rfl⟩
   rw [hx, hy] at st
   rw [hx] at hcx
   rw [hy] at hcy
   have HS : Hid (r = orI (cmpA x y) (lexL cmpA (X.drop (k + 1)) (Y.drop (k + 1)))) := st
   have j1 : (k : Int) < (n : Int) := by omega
   have j2 : (k : Int) < (m : Int) := by omega
   have l1 := World.block_lt_of_cell? wr _ hcx.1
   have l2 := World.block_lt_of_cell? wr _ hcy.1
   obtain ⟨e1, e2, e3, e4⟩ := hcx
   obtain ⟨f1, f2, f3, f4⟩ := hcy
   have B0 : Below wr.heap.size wr ((wr.alloc (.cells #[.int .i64 x.kind, .string x.text, .int .i64 x.num] 177)).alloc (.cells #[.int .i64 y.kind, .string y.text, .int .i64 y.num] 177)) := ((Below.refl _ _).alloc (Nat.le_refl _) _).alloc (by simp) _
   have x0 : ((wr.alloc (.cells #[.int .i64 x.kind, .string x.text, .int .i64 x.num] 177)).alloc (.cells #[.int .i64 y.kind, .string y.text, .int .i64 y.num] 177)).heap[wr.heap.size]? = some (.cells #[.int .i64 x.kind, .string x.text, .int .i64 x.num] 177 (0, 0)) := (Below.heap_alloc _ _ _ (by simp)).trans (alloc_at rfl)
   have x1 : ((wr.alloc (.cells #[.int .i64 x.kind, .string x.text, .int .i64 x.num] 177)).alloc (.cells #[.int .i64 y.kind, .string y.text, .int .i64 y.num] 177)).heap[wr.heap.size + 1]? = some (.cells #[.int .i64 y.kind, .string y.text, .int .i64 y.num] 177 (0, 0)) := alloc_at (by rw [World.size_alloc])
   have sz : ((wr.alloc (.cells #[.int .i64 x.kind, .string x.text, .int .i64 x.num] 177)).alloc (.cells #[.int .i64 y.kind, .string y.text, .int .i64 y.num] 177)).heap.size = wr.heap.size + 1 + 1 := by rw [World.size_alloc, World.size_alloc]
   have KP : ∀ W : World, Below ((wr.alloc (.cells #[.int .i64 x.kind, .string x.text, .int .i64 x.num] 177)).alloc (.cells #[.int .i64 y.kind, .string y.text, .int .i64 y.num] 177)).heap.size ((wr.alloc (.cells #[.int .i64 x.kind, .string x.text, .int .i64 x.num] 177)).alloc (.cells #[.int .i64 y.kind, .string y.text, .int .i64 y.num] 177)) W → W.cell? ⟨b1, o1 + k * 4, none⟩ = some (.string x.key) ∧ W.cell? ⟨b2, o2 + k * 4, none⟩ = some (.string y.key) ∧ W.cell? ⟨wr.heap.size, 0, none⟩ = some (.int .i64 x.kind) ∧ W.cell? ⟨wr.heap.size, 1, none⟩ = some (.string x.text) ∧ W.cell? ⟨wr.heap.size, 2, none⟩ = some (.int .i64 x.num) ∧ W.cell? ⟨wr.heap.size + 1, 0, none⟩ = some (.int .i64 y.kind) ∧ W.cell? ⟨wr.heap.size + 1, 1, none⟩ = some (.string y.text) ∧ W.cell? ⟨wr.heap.size + 1, 2, none⟩ = some (.int .i64 y.num) := fun W hb => by
    have q0 := (hb.block _ (lt_of_block x0)).trans x0
    have q1 := (hb.block _ (lt_of_block x1)).trans x1
    have bw : Below wr.heap.size wr W := B0.trans (hb.mono B0.size)
    exact ⟨(bw.cell l1).trans e1, (bw.cell l2).trans f1, cell_blk q0 0 rfl, cell_blk q0 1 rfl, cell_blk q0 2 rfl, cell_blk q1 0 rfl, cell_blk q1 1 rfl, cell_blk q1 2 rfl⟩
   have FI := first_plain ((wr.alloc (.cells #[.int .i64 x.kind, .string x.text, .int .i64 x.num] 177)).alloc (.cells #[.int .i64 y.kind, .string y.text, .int .i64 y.num] 177)) [cmpS x.key y.key, cmpI x.kind y.kind, cmpS x.text y.text, cmpI x.num y.num] (by simp)
   have hq : orL [cmpS x.key y.key, cmpI x.kind y.kind, cmpS x.text y.text, cmpI x.num y.num] = cmpA x y := rfl
   rw [hq, sz] at FI
   obtain ⟨q, hq'⟩ : ∃ q, cmpA x y = q := ⟨_, rfl⟩
   rw [hq'] at FI HS
   simp only [List.map, List.length_cons, List.length_nil, Nat.zero_add, Nat.reduceAdd] at FI
   have HB2 : Hid (∀ o, Below w.heap.size w ((((wr.alloc (.cells #[.int .i64 x.kind, .string x.text, .int .i64 x.num] 177)).alloc (.cells #[.int .i64 y.kind, .string y.text, .int .i64 y.num] 177)).alloc o).drew)) := fun o => (((HB.out.alloc HB.out.size _).alloc (by have := HB.out.size; simp; omega) _).alloc (by have := HB.out.size; simp; omega) _).drew
   clear st hx hy HO hc1 hc2 hX hY hl hk hq hq' B0 x0 x1 sz
   by_cases h0 : q = 0
   ·subst h0
    go_wp2
    go_region_held3 (fun W => W.cell? ⟨b1, o1 + k * 4, none⟩ = some (.string x.key) ∧ W.cell? ⟨b2, o2 + k * 4, none⟩ = some (.string y.key) ∧ W.cell? ⟨wr.heap.size, 0, none⟩ = some (.int .i64 x.kind) ∧ W.cell? ⟨wr.heap.size, 1, none⟩ = some (.string x.text) ∧ W.cell? ⟨wr.heap.size, 2, none⟩ = some (.int .i64 x.num) ∧ W.cell? ⟨wr.heap.size + 1, 0, none⟩ = some (.int .i64 y.kind) ∧ W.cell? ⟨wr.heap.size + 1, 1, none⟩ = some (.string y.text) ∧ W.cell? ⟨wr.heap.size + 1, 2, none⟩ = some (.int .i64 y.num)) (exact KP _ (by repeat' first | exact Below.refl _ _ | assumption | refine Below.alloc ?_ (by first | exact Nat.le_refl _ | omega | (simp; omega) | (simp; done)) _ | refine Below.drew ?_)) (first
     | (go_at_call 170; refine (numbers_any _ _ _).mono ?_; rintro e w' ⟨rfl, rfl⟩)
     | (go_at_call 171; refine (texts_any _ _ _).mono ?_; rintro e w' ⟨rfl, rfl⟩)
     | (go_at_call 168; refine FI.mono ?_; rintro e w' ⟨rfl, rfl⟩))
    all_goals
     go_wp2
     go_roundw
     case rel => exact ⟨k + 1, by go_num, by omega, by omega, by rw [HS.out]; simp [orI], HB2.out _⟩
     case measure => simp [intOf]; omega
   ·have h0' : (q != 0) = true := by simpa using h0
    have FIN : Hid (r = q) := by show r = q; rw [HS.out]; simp [orI, h0]
    clear h0
    go_wp2
    go_region_held3 (fun W => W.cell? ⟨b1, o1 + k * 4, none⟩ = some (.string x.key) ∧ W.cell? ⟨b2, o2 + k * 4, none⟩ = some (.string y.key) ∧ W.cell? ⟨wr.heap.size, 0, none⟩ = some (.int .i64 x.kind) ∧ W.cell? ⟨wr.heap.size, 1, none⟩ = some (.string x.text) ∧ W.cell? ⟨wr.heap.size, 2, none⟩ = some (.int .i64 x.num) ∧ W.cell? ⟨wr.heap.size + 1, 0, none⟩ = some (.int .i64 y.kind) ∧ W.cell? ⟨wr.heap.size + 1, 1, none⟩ = some (.string y.text) ∧ W.cell? ⟨wr.heap.size + 1, 2, none⟩ = some (.int .i64 y.num)) (exact KP _ (by repeat' first | exact Below.refl _ _ | assumption | refine Below.alloc ?_ (by first | exact Nat.le_refl _ | omega | (simp; omega) | (simp; done)) _ | refine Below.drew ?_)) (first
     | (go_at_call 170; refine (numbers_any _ _ _).mono ?_; rintro e w' ⟨rfl, rfl⟩)
     | (go_at_call 171; refine (texts_any _ _ _).mono ?_; rintro e w' ⟨rfl, rfl⟩)
     | (go_at_call 168; refine FI.mono ?_; rintro e w' ⟨rfl, rfl⟩))
    all_goals
     go_wp2
     go_returns
     exact ⟨ret_int FIN.out.symm, HB2.out _⟩
  ·have FIN : Hid (r = cmpI (n : Int) (m : Int)) := by
    show r = _
    rw [← hl, ← hk]
    exact lex_end HO.out (by omega) (by omega) (by rw [hl, hk]; exact hlt)
   have NB := numbers_any (n : Int) (m : Int)
   by_cases h1 : k < n
   ·have j1 : (k : Int) < (n : Int) := by omega
    have j2 : ¬ (k : Int) < (m : Int) := by omega
    clear hlt hl hk
    go_wp2_with (go_at_call 170; refine (NB _).mono ?_; rintro e w' ⟨rfl, rfl⟩)
    go_returns
    exact ⟨ret_int FIN.out.symm, HB.out⟩
   ·have j1 : ¬ (k : Int) < (n : Int) := by omega
    clear hlt hl hk
    go_wp2_with (go_at_call 170; refine (NB _).mono ?_; rintro e w' ⟨rfl, rfl⟩)
    go_returns
    exact ⟨ret_int FIN.out.symm, HB.out⟩
end Go.Proofs.YtnffedmcblbkoaaGreatDoor
