/-
  Merged: Wa, Zc, Za, Zf, Zp.
-/
import Derived.Test.YtnffedmcblbkoaaGreatDoorZmq
import Derived.WalkMore
import Derived.Test.YtnffedmcblbkoaaGreatDoorUtf
import Derived.Laws.BytesString
import Derived.Laws.Strings2
import Derived.Lib.IndexBytes
import Derived.Deep.RegionHeld3
import Derived.Shelf.Abstract
import Derived.Laws.StructEq
namespace Go.Proofs.YtnffedmcblbkoaaGreatDoor
open Go.RowKit
set_option maxRecDepth 100000
def strI (K : List Int) : ByteArray := ⟨(K.map (fun n => UInt8.ofNat n.toNat)).toArray⟩
theorem strI_size (K : List Int) : (strI K).size = K.length := by show (K.map _).toArray.size = _; simp
theorem bytesI_get (s : ByteArray) (i : Nat) (h : i < s.size) : bt (bytesI s) i = (s[i].toNat : Int) := by
 have hl : i < (bytesI s).length := by rw [bytesI_length]; exact h
 unfold bt
 rw [List.getD, List.getElem?_eq_getElem hl]
 simp [bytesI]
 rfl
theorem bytesI_out (s : ByteArray) (i : Nat) (h : s.size ≤ i) : bt (bytesI s) i = -1 := by
 unfold bt
 rw [List.getD, List.getElem?_eq_none (by rw [bytesI_length]; exact h)]; rfl
theorem bt_drop (l : List Int) (a i : Nat) : bt (l.drop a) i = bt l (a + i) := by
 unfold bt; rw [List.getD, List.getD, List.getElem?_drop]
theorem ret_bool {b c : Bool} (h : b = c) : Ending.returned (.bool b) = .returned (.bool c) := by rw [h]
theorem nan_id (x : Int) (w : World) :
  Calls Tryz.prog 80 #[.int .u64 x] w fun e w' => e = .returned (.bool false) ∧ w' = w := by
 go_enter Tryz.func80, Tryz.ntmps80
 go_wp2
 go_ret
 exact ⟨by simp, rfl⟩
theorem cmp_id (x y : Int) (w : World) :
  Calls Tryz.prog 49 #[.int .u64 x, .int .u64 y] w fun e w' => e = .returned (.int .i64 (cmpI x y)) ∧ w' = w := by
 go_enter Tryz.func49, Tryz.ntmps49
 go_wp2_with (go_at_call 80; refine (nan_id _ _).mono ?_; rintro e w' ⟨rfl, rfl⟩)
 all_goals (go_ret; refine ⟨?_, rfl⟩; unfold cmpI; (repeat' split) <;> first | rfl | (exfalso; omega))
theorem nan_i64 (x : Int) (w : World) :
  Calls Tryz.prog 149 #[.int .i64 x] w fun e w' => e = .returned (.bool false) ∧ w' = w := by
 go_enter Tryz.func149, Tryz.ntmps149
 go_wp2
 go_ret
 exact ⟨by simp, rfl⟩
theorem cmp_i64 (x y : Int) (w : World) :
  Calls Tryz.prog 102 #[.int .i64 x, .int .i64 y] w fun e w' => e = .returned (.int .i64 (cmpI x y)) ∧ w' = w := by
 go_enter Tryz.func102, Tryz.ntmps102
 go_wp2_with (go_at_call 149; refine (nan_i64 _ _).mono ?_; rintro e w' ⟨rfl, rfl⟩)
 all_goals (go_ret; refine ⟨?_, rfl⟩; unfold cmpI; (repeat' split) <;> first | rfl | (exfalso; omega))
theorem nan_str (x : ByteArray) (w : World) :
  Calls Tryz.prog 213 #[.string x] w fun e w' => e = .returned (.bool false) ∧ w' = w := by
 go_enter Tryz.func213, Tryz.ntmps213
 go_wp2
 go_ret
 exact ⟨by simp, rfl⟩
theorem binOp_str_gtr (t : TypeId) (a b : ByteArray) : binOp .gtr t (.string a) (.string b) = pure (.bool (!Op.bytesLess a.toList b.toList && !(a.toList == b.toList))) := by simp [binOp, Op.stringOp]
theorem cmp_str (x y : ByteArray) (w : World) :
  Calls Tryz.prog 216 #[.string x, .string y] w fun e w' => e = .returned (.int .i64 (cmpS x y)) ∧ w' = w := by
 have h1 := cmpS_lt x y
 have h2 : ∀ W : World, Sem.run Tryz.prog (binOp .gtr 9 (.string x) (.string y)) W = .ok (.bool (!decide (cmpS x y = -1) && !decide (cmpS x y = 0))) W := by
  intro W; rw [binOp_str_gtr, h1, cmpS_eq]; rfl
 have h3 := good_cmpS.rng x y
 generalize cmpS x y = c at h1 h2 h3 ⊢
 rcases h3 with rfl | rfl | rfl
 all_goals
  simp at h1 h2
  go_enter Tryz.func216, Tryz.ntmps216
  go_wp2_with (go_at_call 213; refine (nan_str _ _).mono ?_; rintro e w' ⟨rfl, rfl⟩)
  go_ret
  exact ⟨rfl, rfl⟩
structure HoldsV (w : World) (ad : Option Addr) (n : Nat) (K : List Value) : Prop where
 len : K.length = n
 cells : ∀ j u, K[j]? = some u → ∃ a, ad = some a ∧ w.cell? (a.add j) = some u
theorem HoldsV.nil (w : World) : HoldsV w none 0 [] := ⟨rfl, fun j u h => by simp at h⟩
theorem HoldsV.at {w : World} {ad : Option Addr} {n : Nat} {K : List Value} (h : HoldsV w ad n K) (hp : 0 < n) : ∃ a, ad = some a ∧ ∀ j u, K[j]? = some u → w.cell? (a.add j) = some u := by
 have hl := h.len
 obtain ⟨a, ha, _⟩ := h.cells 0 K[0] (by simp)
 refine ⟨a, ha, fun j u hj => ?_⟩
 obtain ⟨a', ha', hc⟩ := h.cells j u hj
 rw [ha] at ha'; simp at ha'; subst ha'; exact hc
theorem HoldsV.below {w w' : World} {ad : Option Addr} {n : Nat} {K : List Value} (h : HoldsV w ad n K) (hb : Below w.heap.size w w') : HoldsV w' ad n K := by
 refine ⟨h.len, fun j u hj => ?_⟩
 obtain ⟨a, ha, hc⟩ := h.cells j u hj
 exact ⟨a, ha, (hb.cell (World.block_lt_of_cell? w _ hc)).trans hc⟩
def intsV (k : IntKind) (K : List Int) : List Value := K.map (Value.int k)
theorem intsV_get {k : IntKind} {K : List Int} {j : Nat} (h : j < K.length) : (intsV k K)[j]? = some (.int k K[j]) := by simp [intsV, h]
theorem HoldsV.plain {w : World} {ad : Option Addr} {n : Nat} {K : List Value} (h : HoldsV w ad n K) {j : Nat} {u : Value} (hj : K[j]? = some u) : ∃ b off, ad = some ⟨b, off, none⟩ ∧ ∀ i v, K[i]? = some v → w.cell? ⟨b, off + i, none⟩ = some v := by
 have hp : 0 < n := by
  have := h.len
  by_cases h0 : 0 < n
  ·exact h0
  ·rw [List.getElem?_eq_none (by omega)] at hj; simp at hj
 obtain ⟨a, ha, hc⟩ := h.at hp
 obtain ⟨b, off, sp⟩ := a
 have hl0 : 0 < K.length := by have := h.len; omega
 have hcx := hc 0 K[0] (by simp)
 have hsp : sp = none := by
  cases sp with
  | none => rfl
  | some sp => simp [World.cell?, Addr.add] at hcx; split at hcx <;> simp at hcx
 subst hsp
 exact ⟨b, off, ha, fun i v hi => by have := hc i v hi; rwa [Addr.add_lit] at this⟩
theorem or_any (ad : Option Addr) (n cap : Nat) (K : List Int) (w : World) (h : HoldsV w ad n (intsV .i64 K)) (hn : n ≤ 1000000) :
  Calls Tryz.prog 101 #[.slice ad n cap] w fun e w' => e = .returned (.int .i64 (orL K)) ∧ w' = w := by
 have hl : K.length = n := by simpa [intsV] using h.len
 go_enter Tryz.func101, Tryz.ntmps101
 go_wp2
 go_loop [8] (fun a => ∃ k : Nat, a = .int .i64 k ∧ k ≤ n ∧ orL K = orL (K.drop k)) (fun a => n - (intOf a).toNat)
 case atStart => exact ⟨0, rfl, by omega, by simp⟩
 case round =>
  obtain ⟨k, rfl, hk, ho⟩ := hrel
  have HO : Hid (orL K = orL (K.drop k)) := ho
  clear ho
  by_cases hlt : k < n
  ·obtain ⟨b, off, rfl, hc⟩ := h.plain (intsV_get (k := .i64) (by omega : k < K.length))
   have hcx := hc k (.int .i64 K[k]) (intsV_get (by omega))
   have hd : K.drop k = K[k] :: K.drop (k + 1) := List.drop_eq_getElem_cons (by omega)
   obtain ⟨x, hx⟩ : ∃ x, K[k] = x := ⟨_, rfl⟩
   rw [hx] at hcx hd
   have HD : Hid (K.drop k = x :: K.drop (k + 1)) := hd
   clear hd hx hc h
   by_cases h0 : x = 0
   ·subst h0
    go_wp2
    go_round
    case rel => exact ⟨k + 1, by go_num, by omega, by rw [HO.out, HD.out]; simp [orL, orI]⟩
    case measure => simp [intOf]; omega
   ·have h0' : (x != 0) = true := by simpa using h0
    have FIN : Hid (orL K = x) := by show orL K = x; rw [HO.out, HD.out]; simp [orL, orI, h0]
    clear h0
    go_wp2
    go_ret
    exact ⟨ret_int FIN.out.symm, rfl⟩
  ·have FIN : Hid (orL K = 0) := by show orL K = 0; rw [HO.out, List.drop_of_length_le (by omega)]; rfl
   go_wp2
   go_ret
   exact ⟨ret_int FIN.out.symm, rfl⟩
theorem lexL_drop {α : Type} {c : α → α → Int} {x y : List α} {k : Nat} {r : Int} (h : r = lexL c (x.drop k) (y.drop k)) (hx : k < x.length) (hy : k < y.length) : r = orI (c x[k] y[k]) (lexL c (x.drop (k + 1)) (y.drop (k + 1))) := by
 rw [h, List.drop_eq_getElem_cons hx, List.drop_eq_getElem_cons hy]; rfl
theorem lexL_right {α : Type} {c : α → α → Int} {x y : List α} {k : Nat} {r : Int} (h : r = lexL c (x.drop k) (y.drop k)) (hx : k < x.length) (hy : y.length ≤ k) : r = 1 := by
 rw [h, List.drop_eq_getElem_cons hx, List.drop_of_length_le hy]; rfl
theorem lexL_left {α : Type} {c : α → α → Int} {x y : List α} {k : Nat} {r : Int} (h : r = lexL c (x.drop k) (y.drop k)) (hx : x.length ≤ k) (hy : k < y.length) : r = -1 := by
 rw [h, List.drop_eq_getElem_cons hy, List.drop_of_length_le hx]; rfl
theorem lexL_both {α : Type} {c : α → α → Int} {x y : List α} {k : Nat} {r : Int} (h : r = lexL c (x.drop k) (y.drop k)) (hx : x.length ≤ k) (hy : y.length ≤ k) : r = 0 := by
 rw [h, List.drop_of_length_le hx, List.drop_of_length_le hy]; rfl
def attrV (a : AttrD) : Value := .agg #[.string a.key, .int .i64 a.kind, .string a.text, .int .i64 a.num]
def eventV (a : EventD) : Value := .agg #[.int .i64 a.moment, .string a.name]
theorem holds_new {w : World} {K : List Int} {n : Nat} (h : w.heap[n]? = some (.cells (intsV .i64 K).toArray 3 (0, 0))) : HoldsV w (some ⟨n, 0, none⟩) K.length (intsV .i64 K) := by
 refine ⟨by simp [intsV], fun j u hj => ⟨_, rfl, ?_⟩⟩
 rw [Addr.add_lit]
 simp [World.cell?, h, hj]
theorem alloc_at {w : World} {o : Obj} {n : Nat} (h : n = w.heap.size) : (w.alloc o).heap[n]? = some o := by subst h; exact heap_alloc_new w o
theorem or_at (w : World) (n : Nat) (K : List Int) (hs : n = w.heap.size) (hl : K.length ≤ 1000000) :
  Calls Tryz.prog 101 #[.slice (some ⟨n, 0, none⟩) K.length K.length] (w.alloc (.cells (K.map (Value.int .i64)).toArray 3)).drew fun e w' => e = .returned (.int .i64 (orL K)) ∧ w' = (w.alloc (.cells (K.map (Value.int .i64)).toArray 3)).drew :=
 or_any _ _ _ K _ (holds_new (w := (w.alloc (.cells (K.map (Value.int .i64)).toArray 3)).drew) (alloc_at hs)) hl
theorem key_any (a b : AttrD) (w : World) :
  Calls Tryz.prog 184 #[attrV a, attrV b] w fun e w' => e = .returned (.int .i64 (cmpS a.key b.key)) ∧ w' = (w.alloc (.cells #[.string a.key, .int .i64 a.kind, .string a.text, .int .i64 a.num] 179)).alloc (.cells #[.string b.key, .int .i64 b.kind, .string b.text, .int .i64 b.num] 179) := by
 unfold attrV
 go_enter Tryz.func184, Tryz.ntmps184
 go_wp2_with (go_at_call 216; refine (cmp_str _ _ _).mono ?_; rintro e w' ⟨rfl, rfl⟩)
 go_ret
 exact ⟨rfl, rfl⟩
theorem event_any (a b : EventD) (w : World) :
  Calls Tryz.prog 188 #[eventV a, eventV b] w fun e w' => e = .returned (.int .i64 (cmpE a b)) ∧ Below w.heap.size w w' := by
 unfold eventV
 have OR := fun o1 o2 => or_at ((w.alloc o1).alloc o2) (w.heap.size + 1 + 1) [cmpI a.moment b.moment, cmpS a.name b.name] (by simp) (by simp)
 simp only [List.map, List.length] at OR
 go_enter Tryz.func188, Tryz.ntmps188
 go_wp2
 go_region_held3 (fun w' => w'.cell? ⟨w.heap.size, 0, none⟩ = some (.int .i64 a.moment) ∧ w'.cell? ⟨w.heap.size, 1, none⟩ = some (.string a.name) ∧ w'.cell? ⟨w.heap.size + 1, 0, none⟩ = some (.int .i64 b.moment) ∧ w'.cell? ⟨w.heap.size + 1, 1, none⟩ = some (.string b.name)) (simp [go_sem, World.cell?_alloc_past])
  (first
   | (go_at_call 102; refine (cmp_i64 _ _ _).mono ?_; rintro e w' ⟨rfl, rfl⟩)
   | (go_at_call 216; refine (cmp_str _ _ _).mono ?_; rintro e w' ⟨rfl, rfl⟩)
   | (go_at_call 101; refine (OR _ _).mono ?_; rintro e w' ⟨rfl, rfl⟩))
 go_wp2
 go_ret
 exact ⟨rfl, ((((Below.refl _ _).alloc (Nat.le_refl _) _).alloc (by simp) _).alloc (by simp; omega) _).drew⟩
structure AttrsAt (w : World) (ad : Option Addr) (n : Nat) (A : List AttrD) : Prop where
 len : A.length = n
 lies : 0 < n → ∃ b off, ad = some ⟨b, off, none⟩ ∧ ∀ i (_ : i < A.length), w.cell? ⟨b, off + i * 4, none⟩ = some (.string A[i].key) ∧ w.cell? ⟨b, off + i * 4 + 1, none⟩ = some (.int .i64 A[i].kind) ∧ w.cell? ⟨b, off + i * 4 + 2, none⟩ = some (.string A[i].text) ∧ w.cell? ⟨b, off + i * 4 + 3, none⟩ = some (.int .i64 A[i].num)
theorem AttrsAt.below {w w' : World} {ad : Option Addr} {n : Nat} {A : List AttrD} (h : AttrsAt w ad n A) (hb : Below w.heap.size w w') : AttrsAt w' ad n A := by
 refine ⟨h.len, fun hp => ?_⟩
 obtain ⟨b, off, ha, hc⟩ := h.lies hp
 refine ⟨b, off, ha, fun i hi => ?_⟩
 obtain ⟨c0, c1, c2, c3⟩ := hc i hi
 exact ⟨(hb.cell (World.block_lt_of_cell? w _ c0)).trans c0, (hb.cell (World.block_lt_of_cell? w _ c1)).trans c1, (hb.cell (World.block_lt_of_cell? w _ c2)).trans c2, (hb.cell (World.block_lt_of_cell? w _ c3)).trans c3⟩
structure EventsAt (w : World) (ad : Option Addr) (n : Nat) (A : List EventD) : Prop where
 len : A.length = n
 lies : 0 < n → ∃ b off, ad = some ⟨b, off, none⟩ ∧ ∀ i (_ : i < A.length), w.cell? ⟨b, off + i * 2, none⟩ = some (.int .i64 A[i].moment) ∧ w.cell? ⟨b, off + i * 2 + 1, none⟩ = some (.string A[i].name)
theorem EventsAt.below {w w' : World} {ad : Option Addr} {n : Nat} {A : List EventD} (h : EventsAt w ad n A) (hb : Below w.heap.size w w') : EventsAt w' ad n A := by
 refine ⟨h.len, fun hp => ?_⟩
 obtain ⟨b, off, ha, hc⟩ := h.lies hp
 refine ⟨b, off, ha, fun i hi => ?_⟩
 obtain ⟨c0, c1⟩ := hc i hi
 exact ⟨(hb.cell (World.block_lt_of_cell? w _ c0)).trans c0, (hb.cell (World.block_lt_of_cell? w _ c1)).trans c1⟩
structure Pl where
 la : Option Addr
 lc : Nat
 aa : Option Addr
 ac : Nat
 ea : Option Addr
 ec : Nat
def spC (a : Sp) (p : Pl) : Array Value := #[.int .u64 a.hi, .int .u64 a.lo, .int .u64 a.id, .int .u64 a.par, .slice p.la a.links.length p.lc, .string a.svc, .string a.op, .int .i64 a.kind, .int .i64 a.status, .int .i64 a.start, .int .i64 a.fin, .slice p.aa a.attrs.length p.ac, .slice p.ea a.events.length p.ec]
def spV (a : Sp) (p : Pl) : Value := .agg (spC a p)
structure SpAt (w : World) (a : Sp) (p : Pl) : Prop where
 links : HoldsV w p.la a.links.length (intsV .u64 a.links)
 attrs : AttrsAt w p.aa a.attrs.length a.attrs
 events : EventsAt w p.ea a.events.length a.events
 sl : a.links.length ≤ 140737488355328
 sa : a.attrs.length ≤ 140737488355328
 se : a.events.length ≤ 140737488355328
theorem SpAt.below {w w' : World} {a : Sp} {p : Pl} (h : SpAt w a p) (hb : Below w.heap.size w w') : SpAt w' a p :=
 ⟨h.links.below hb, h.attrs.below hb, h.events.below hb, h.sl, h.sa, h.se⟩
end Go.Proofs.YtnffedmcblbkoaaGreatDoor
