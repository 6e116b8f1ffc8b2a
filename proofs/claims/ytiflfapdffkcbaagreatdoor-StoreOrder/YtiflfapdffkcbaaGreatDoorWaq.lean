/-
  Merged: Wa, Zc, Za, Zf, Zp.
-/
import Derived.Test.YtiflfapdffkcbaaGreatDoorWrq
import Derived.Test.YtiflfapdffkcbaaGreatDoorUtf
import Derived.Laws.BytesString
import Derived.Laws.Strings2
import Derived.Lib.IndexBytes
import Derived.Test.YtiflfapdffkcbaaGreatDoorZmq
import Derived.Deep.RegionHeld3
import Derived.Shelf.Abstract
import Derived.Laws.StructEq
namespace Go.Proofs.YtiflfapdffkcbaaGreatDoor
open Go.RowKit
set_option maxRecDepth 100000

/-- Bytes as a string. -/
def strI (K : List Int) : ByteArray := ⟨(K.map (fun n => UInt8.ofNat n.toNat)).toArray⟩
theorem strI_fold (K : List Int) : ∀ s : ByteArray, K.foldl (fun r n => r.push (UInt8.ofNat n.toNat)) s = ⟨s.data ++ (K.map (fun n => UInt8.ofNat n.toNat)).toArray⟩ := by
  induction K with
  | nil => intro s; simp
  | cons x r ih =>
    intro s
    rw [List.foldl_cons, ih]
    simp [ByteArray.push]
theorem strI_size (K : List Int) : (strI K).size = K.length := by show (K.map _).toArray.size = _; simp
theorem own_ne {base : Nat} {w : World} {e : TypeId} {v : Value} {n : Nat} {xs : List Value} (h : w.ownsRow base e 1 v n xs) {R : Nat} {cs : Array Value} {t : TypeId} (hR : w.heap[R]? = some (.cells cs t (0, 0))) (hne : e ≠ t) : v.ownBlock ≠ some R := by
  intro hk
  rcases h.2 with ⟨rfl, _⟩ | ⟨g, cap, cur, rfl, _, hg, _⟩
  · simp [Value.ownBlock] at hk
  · simp [Value.ownBlock] at hk
    subst hk
    rw [hR] at hg
    simp at hg
    exact hne hg.2.symm
theorem bytesI_get (s : ByteArray) (i : Nat) (h : i < s.size) : bt (bytesI s) i = (s[i].toNat : Int) := by
  have hl : i < (bytesI s).length := by rw [bytesI_length]; exact h
  unfold bt
  rw [List.getD, List.getElem?_eq_getElem hl]
  simp [bytesI]
  rfl
theorem bytesI_out (s : ByteArray) (i : Nat) (h : s.size ≤ i) : bt (bytesI s) i = -1 := by
  unfold bt
  rw [List.getD, List.getElem?_eq_none (by rw [bytesI_length]; exact h)]; rfl
theorem bt_drop (l : List Int) (a i : Nat) : bt (l.drop a) i = bt l (a + i) := by
  unfold bt; rw [List.getD, List.getD, List.getElem?_drop]

theorem ret_bool {b c : Bool} (h : b = c) : Ending.returned (.bool b) = .returned (.bool c) := by rw [h]
theorem bytesI_cut (s : ByteArray) (k n : Nat) : bytesI (s.extract k (k + n)) = ((bytesI s).drop k).take n := by
  have h : s.extract k (k + n) = ⟨((s.data.toList.drop k).take n).toArray⟩ := by
    have := ByteArray.extract_mk s.data.toList k (k + n)
    simpa using this
  rw [h]; unfold bytesI
  simp [List.map_take, List.map_drop]

theorem slice_str (s : ByteArray) (k r : Nat) (h : k + r ≤ s.size) (W : World) : (Instr.slice 9 (.string s) (some (.int .i64 k)) (some (.int .i64 ((k : Int) + (r : Int)))) none).run Tryz.prog W = .ok (.string (s.extract k (k + r))) W := by
  have := run_slice_string (P := Tryz.prog) (w := W) 9 s .i64 .i64 (k : Int) ((k : Int) + (r : Int)) Tryz.underlying9 (by omega) (by omega) (by omega)
  rw [this, show ((k : Int)).toNat = k by omega, show ((k : Int) + (r : Int)).toNat = k + r by omega]
theorem ret_str {a b : ByteArray} (h : a = b) : Ending.returned (.string a) = .returned (.string b) := by rw [h]
end Go.Proofs.YtiflfapdffkcbaaGreatDoor

namespace Go.Proofs.YtiflfapdffkcbaaGreatDoor
open Go.RowKit
set_option maxRecDepth 100000

theorem nan_u64 (x : Int) (w : World) :
    Calls Tryz.prog 70 #[.int .u64 x] w fun e w' => e = .returned (.bool false) ∧ w' = w := by
  go_enter Tryz.func70, Tryz.ntmps70
  go_wp2
  go_ret
  exact ⟨by simp, rfl⟩
theorem cmp_u64 (x y : Int) (w : World) :
    Calls Tryz.prog 60 #[.int .u64 x, .int .u64 y] w fun e w' => e = .returned (.int .i64 (cmpI x y)) ∧ w' = w := by
  go_enter Tryz.func60, Tryz.ntmps60
  go_wp2_with (go_at_call 70; refine (nan_u64 _ _).mono ?_; rintro e w' ⟨rfl, rfl⟩)
  all_goals (go_ret; refine ⟨?_, rfl⟩; unfold cmpI; (repeat' split) <;> first | rfl | (exfalso; omega))

theorem nan_id (x : Int) (w : World) :
    Calls Tryz.prog 66 #[.int .u64 x] w fun e w' => e = .returned (.bool false) ∧ w' = w := by
  go_enter Tryz.func66, Tryz.ntmps66
  go_wp2
  go_ret
  exact ⟨by simp, rfl⟩
theorem cmp_id (x y : Int) (w : World) :
    Calls Tryz.prog 51 #[.int .u64 x, .int .u64 y] w fun e w' => e = .returned (.int .i64 (cmpI x y)) ∧ w' = w := by
  go_enter Tryz.func51, Tryz.ntmps51
  go_wp2_with (go_at_call 66; refine (nan_id _ _).mono ?_; rintro e w' ⟨rfl, rfl⟩)
  all_goals (go_ret; refine ⟨?_, rfl⟩; unfold cmpI; (repeat' split) <;> first | rfl | (exfalso; omega))

theorem nan_i64 (x : Int) (w : World) :
    Calls Tryz.prog 98 #[.int .i64 x] w fun e w' => e = .returned (.bool false) ∧ w' = w := by
  go_enter Tryz.func98, Tryz.ntmps98
  go_wp2
  go_ret
  exact ⟨by simp, rfl⟩
theorem cmp_i64 (x y : Int) (w : World) :
    Calls Tryz.prog 69 #[.int .i64 x, .int .i64 y] w fun e w' => e = .returned (.int .i64 (cmpI x y)) ∧ w' = w := by
  go_enter Tryz.func69, Tryz.ntmps69
  go_wp2_with (go_at_call 98; refine (nan_i64 _ _).mono ?_; rintro e w' ⟨rfl, rfl⟩)
  all_goals (go_ret; refine ⟨?_, rfl⟩; unfold cmpI; (repeat' split) <;> first | rfl | (exfalso; omega))

theorem nan_status (x : Int) (w : World) :
    Calls Tryz.prog 99 #[.int .i64 x] w fun e w' => e = .returned (.bool false) ∧ w' = w := by
  go_enter Tryz.func99, Tryz.ntmps99
  go_wp2
  go_ret
  exact ⟨by simp, rfl⟩
theorem cmp_status (x y : Int) (w : World) :
    Calls Tryz.prog 71 #[.int .i64 x, .int .i64 y] w fun e w' => e = .returned (.int .i64 (cmpI x y)) ∧ w' = w := by
  go_enter Tryz.func71, Tryz.ntmps71
  go_wp2_with (go_at_call 99; refine (nan_status _ _).mono ?_; rintro e w' ⟨rfl, rfl⟩)
  all_goals (go_ret; refine ⟨?_, rfl⟩; unfold cmpI; (repeat' split) <;> first | rfl | (exfalso; omega))

theorem nan_kind (x : Int) (w : World) :
    Calls Tryz.prog 100 #[.int .i64 x] w fun e w' => e = .returned (.bool false) ∧ w' = w := by
  go_enter Tryz.func100, Tryz.ntmps100
  go_wp2
  go_ret
  exact ⟨by simp, rfl⟩
theorem cmp_kind (x y : Int) (w : World) :
    Calls Tryz.prog 72 #[.int .i64 x, .int .i64 y] w fun e w' => e = .returned (.int .i64 (cmpI x y)) ∧ w' = w := by
  go_enter Tryz.func72, Tryz.ntmps72
  go_wp2_with (go_at_call 100; refine (nan_kind _ _).mono ?_; rintro e w' ⟨rfl, rfl⟩)
  all_goals (go_ret; refine ⟨?_, rfl⟩; unfold cmpI; (repeat' split) <;> first | rfl | (exfalso; omega))

theorem nan_vkind (x : Int) (w : World) :
    Calls Tryz.prog 111 #[.int .i64 x] w fun e w' => e = .returned (.bool false) ∧ w' = w := by
  go_enter Tryz.func111, Tryz.ntmps111
  go_wp2
  go_ret
  exact ⟨by simp, rfl⟩
theorem cmp_vkind (x y : Int) (w : World) :
    Calls Tryz.prog 101 #[.int .i64 x, .int .i64 y] w fun e w' => e = .returned (.int .i64 (cmpI x y)) ∧ w' = w := by
  go_enter Tryz.func101, Tryz.ntmps101
  go_wp2_with (go_at_call 111; refine (nan_vkind _ _).mono ?_; rintro e w' ⟨rfl, rfl⟩)
  all_goals (go_ret; refine ⟨?_, rfl⟩; unfold cmpI; (repeat' split) <;> first | rfl | (exfalso; omega))

theorem nan_str (x : ByteArray) (w : World) :
    Calls Tryz.prog 96 #[.string x] w fun e w' => e = .returned (.bool false) ∧ w' = w := by
  go_enter Tryz.func96, Tryz.ntmps96
  go_wp2
  go_ret
  exact ⟨by simp, rfl⟩
theorem binOp_str_gtr (t : TypeId) (a b : ByteArray) : binOp .gtr t (.string a) (.string b) = pure (.bool (!Op.bytesLess a.toList b.toList && !(a.toList == b.toList))) := by simp [binOp, Op.stringOp]
theorem cmp_str (x y : ByteArray) (w : World) :
    Calls Tryz.prog 67 #[.string x, .string y] w fun e w' => e = .returned (.int .i64 (cmpS x y)) ∧ w' = w := by
  have h1 := cmpS_lt x y
  have h2 : ∀ W : World, Sem.run Tryz.prog (binOp .gtr 9 (.string x) (.string y)) W = .ok (.bool (!decide (cmpS x y = -1) && !decide (cmpS x y = 0))) W := by
    intro W; rw [binOp_str_gtr, h1, cmpS_eq]; rfl
  have h3 := good_cmpS.rng x y
  generalize cmpS x y = c at h1 h2 h3 ⊢
  rcases h3 with rfl | rfl | rfl
  all_goals
    simp at h1 h2
    go_enter Tryz.func67, Tryz.ntmps67
    go_wp2_with (go_at_call 96; refine (nan_str _ _).mono ?_; rintro e w' ⟨rfl, rfl⟩)
    go_ret
    exact ⟨rfl, rfl⟩

/-- The cells of a slice hold these values. -/
structure HoldsV (w : World) (ad : Option Addr) (n : Nat) (K : List Value) : Prop where
  len : K.length = n
  cells : ∀ j u, K[j]? = some u → ∃ a, ad = some a ∧ w.cell? (a.add j) = some u
theorem HoldsV.nil (w : World) : HoldsV w none 0 [] := ⟨rfl, fun j u h => by simp at h⟩
theorem HoldsV.at {w : World} {ad : Option Addr} {n : Nat} {K : List Value} (h : HoldsV w ad n K) (hp : 0 < n) : ∃ a, ad = some a ∧ ∀ j u, K[j]? = some u → w.cell? (a.add j) = some u := by
  have hl := h.len
  obtain ⟨a, ha, _⟩ := h.cells 0 K[0] (by simp)
  refine ⟨a, ha, fun j u hj => ?_⟩
  obtain ⟨a', ha', hc⟩ := h.cells j u hj
  rw [ha] at ha'; simp at ha'; subst ha'; exact hc
theorem HoldsV.below {w w' : World} {ad : Option Addr} {n : Nat} {K : List Value} (h : HoldsV w ad n K) (hb : Below w.heap.size w w') : HoldsV w' ad n K := by
  refine ⟨h.len, fun j u hj => ?_⟩
  obtain ⟨a, ha, hc⟩ := h.cells j u hj
  exact ⟨a, ha, (hb.cell (World.block_lt_of_cell? w _ hc)).trans hc⟩
def intsV (k : IntKind) (K : List Int) : List Value := K.map (Value.int k)
theorem intsV_get {k : IntKind} {K : List Int} {j : Nat} (h : j < K.length) : (intsV k K)[j]? = some (.int k K[j]) := by simp [intsV, h]

theorem HoldsV.plain {w : World} {ad : Option Addr} {n : Nat} {K : List Value} (h : HoldsV w ad n K) {j : Nat} {u : Value} (hj : K[j]? = some u) : ∃ b off, ad = some ⟨b, off, none⟩ ∧ ∀ i v, K[i]? = some v → w.cell? ⟨b, off + i, none⟩ = some v := by
  have hp : 0 < n := by
    have := h.len
    by_cases h0 : 0 < n
    · exact h0
    · rw [List.getElem?_eq_none (by omega)] at hj; simp at hj
  obtain ⟨a, ha, hc⟩ := h.at hp
  obtain ⟨b, off, sp⟩ := a
  have hl0 : 0 < K.length := by have := h.len; omega
  have hcx := hc 0 K[0] (by simp)
  have hsp : sp = none := by
    cases sp with
    | none => rfl
    | some sp => simp [World.cell?, Addr.add] at hcx; split at hcx <;> simp at hcx
  subst hsp
  exact ⟨b, off, ha, fun i v hi => by have := hc i v hi; rwa [Addr.add_lit] at this⟩

theorem or_any (ad : Option Addr) (n cap : Nat) (K : List Int) (w : World) (h : HoldsV w ad n (intsV .i64 K)) (hn : n ≤ 1000000) :
    Calls Tryz.prog 59 #[.slice ad n cap] w fun e w' => e = .returned (.int .i64 (orL K)) ∧ w' = w := by
  have hl : K.length = n := by simpa [intsV] using h.len
  go_enter Tryz.func59, Tryz.ntmps59
  go_wp2
  go_loop [8] (fun a => ∃ k : Nat, a = .int .i64 k ∧ k ≤ n ∧ orL K = orL (K.drop k)) (fun a => n - (intOf a).toNat)
  case atStart => exact ⟨0, rfl, by omega, by simp⟩
  case round =>
    obtain ⟨k, rfl, hk, ho⟩ := hrel
    have HO : Hid (orL K = orL (K.drop k)) := ho
    clear ho
    by_cases hlt : k < n
    · obtain ⟨b, off, rfl, hc⟩ := h.plain (intsV_get (k := .i64) (by omega : k < K.length))
      have hcx := hc k (.int .i64 K[k]) (intsV_get (by omega))
      have hd : K.drop k = K[k] :: K.drop (k + 1) := List.drop_eq_getElem_cons (by omega)
      obtain ⟨x, hx⟩ : ∃ x, K[k] = x := ⟨_, rfl⟩
      rw [hx] at hcx hd
      have HD : Hid (K.drop k = x :: K.drop (k + 1)) := hd
      clear hd hx hc h
      by_cases h0 : x = 0
      · subst h0
        go_wp2
        go_round
        case rel => exact ⟨k + 1, by go_num, by omega, by rw [HO.out, HD.out]; simp [orL, orI]⟩
        case measure => simp [intOf]; omega
      · have h0' : (x != 0) = true := by simpa using h0
        have FIN : Hid (orL K = x) := by show orL K = x; rw [HO.out, HD.out]; simp [orL, orI, h0]
        clear h0
        go_wp2
        go_ret
        exact ⟨ret_int FIN.out.symm, rfl⟩
    · have FIN : Hid (orL K = 0) := by show orL K = 0; rw [HO.out, List.drop_of_length_le (by omega)]; rfl
      go_wp2
      go_ret
      exact ⟨ret_int FIN.out.symm, rfl⟩

theorem lexL_drop {α : Type} {c : α → α → Int} {x y : List α} {k : Nat} {r : Int} (h : r = lexL c (x.drop k) (y.drop k)) (hx : k < x.length) (hy : k < y.length) : r = orI (c x[k] y[k]) (lexL c (x.drop (k + 1)) (y.drop (k + 1))) := by
  rw [h, List.drop_eq_getElem_cons hx, List.drop_eq_getElem_cons hy]; rfl
theorem lexL_right {α : Type} {c : α → α → Int} {x y : List α} {k : Nat} {r : Int} (h : r = lexL c (x.drop k) (y.drop k)) (hx : k < x.length) (hy : y.length ≤ k) : r = 1 := by
  rw [h, List.drop_eq_getElem_cons hx, List.drop_of_length_le hy]; rfl
theorem lexL_left {α : Type} {c : α → α → Int} {x y : List α} {k : Nat} {r : Int} (h : r = lexL c (x.drop k) (y.drop k)) (hx : x.length ≤ k) (hy : k < y.length) : r = -1 := by
  rw [h, List.drop_eq_getElem_cons hy, List.drop_of_length_le hx]; rfl
theorem lexL_both {α : Type} {c : α → α → Int} {x y : List α} {k : Nat} {r : Int} (h : r = lexL c (x.drop k) (y.drop k)) (hx : x.length ≤ k) (hy : y.length ≤ k) : r = 0 := by
  rw [h, List.drop_of_length_le hx, List.drop_of_length_le hy]; rfl
theorem compare_links (ad bd : Option Addr) (n m c d : Nat) (X Y : List Int) (w : World) (hX : HoldsV w ad n (intsV .u64 X)) (hY : HoldsV w bd m (intsV .u64 Y)) (hn : n ≤ 140737488355328) (hm : m ≤ 140737488355328) :
    Calls Tryz.prog 73 #[.slice ad n c, .slice bd m d] w fun e w' => e = .returned (.int .i64 (lexL cmpI X Y)) ∧ w' = w := by
  have hl : X.length = n := by simpa [intsV] using hX.len
  have hk : Y.length = m := by simpa [intsV] using hY.len
  obtain ⟨r, hr⟩ : ∃ r, lexL cmpI X Y = r := ⟨_, rfl⟩
  rw [hr]
  go_enter Tryz.func73, Tryz.ntmps73
  go_wp2
  go_loop [11] (fun a => ∃ k : Nat, a = .int .i64 k ∧ k ≤ n ∧ k ≤ m ∧ r = lexL cmpI (X.drop k) (Y.drop k)) (fun a => n - (intOf a).toNat)
  case atStart => exact ⟨0, rfl, by omega, by omega, by simp [hr]⟩
  case round =>
    obtain ⟨k, rfl, hkn, hkm, ho⟩ := hrel
    have HO : Hid (r = lexL cmpI (X.drop k) (Y.drop k)) := ho
    clear ho hr
    by_cases hlt : k < n
    · obtain ⟨b1, o1, rfl, hc1⟩ := hX.plain (intsV_get (k := .u64) (by omega : k < X.length))
      have hcx := hc1 k _ (intsV_get (k := .u64) (by omega : k < X.length))
      by_cases hlt2 : k < m
      · obtain ⟨b2, o2, rfl, hc2⟩ := hY.plain (intsV_get (k := .u64) (by omega : k < Y.length))
        have hcy := hc2 k _ (intsV_get (k := .u64) (by omega : k < Y.length))
        have st := lexL_drop HO.out (by omega) (by omega)
        obtain ⟨x, hx⟩ : ∃ x, X[k] = x := ⟨_, rfl⟩
        obtain ⟨y, hy⟩ : ∃ y, Y[k] = y := ⟨_, rfl⟩
        rw [hx, hy] at st
        rw [hx] at hcx
        rw [hy] at hcy
        have HS : Hid (r = orI (cmpI x y) (lexL cmpI (X.drop (k + 1)) (Y.drop (k + 1)))) := st
        obtain ⟨q, hq⟩ : ∃ q, cmpI x y = q := ⟨_, rfl⟩
        have CC := cmp_id x y
        rw [hq] at CC HS
        clear st hx hy HO hc1 hc2 hX hY hq
        by_cases h0 : q = 0
        · subst h0
          go_wp2_with (go_at_call 51; refine (CC _).mono ?_; rintro e w' ⟨rfl, rfl⟩)
          go_round
          case rel => exact ⟨k + 1, by go_num, by omega, by omega, by rw [HS.out]; simp [orI]⟩
          case measure => simp [intOf]; omega
        · have h0' : (q != 0) = true := by simpa using h0
          have FIN : Hid (r = q) := by show r = q; rw [HS.out]; simp [orI, h0]
          clear h0
          go_wp2_with (go_at_call 51; refine (CC _).mono ?_; rintro e w' ⟨rfl, rfl⟩)
          go_ret
          exact ⟨ret_int FIN.out.symm, rfl⟩
      · have FIN : Hid (r = 1) := lexL_right HO.out (by omega) (by omega)
        have hmk : m = k := by omega
        clear hc1 hX hY
        go_wp2
        go_ret
        exact ⟨ret_int FIN.out.symm, rfl⟩
    · have hnk : n = k := by omega
      by_cases hlt2 : k < m
      · have FIN : Hid (r = -1) := lexL_left HO.out (by omega) (by omega)
        go_wp2
        go_ret
        exact ⟨ret_int FIN.out.symm, rfl⟩
      · have FIN : Hid (r = 0) := lexL_both HO.out (by omega) (by omega)
        go_wp2
        go_ret
        exact ⟨ret_int FIN.out.symm, rfl⟩
end Go.Proofs.YtiflfapdffkcbaaGreatDoor

namespace Go.Proofs.YtiflfapdffkcbaaGreatDoor
open Go.RowKit
set_option maxRecDepth 100000

def AttrD.cells (a : AttrD) : Array Value := #[.string a.key, .int .i64 a.kind, .string a.text, .int .i64 a.num]
def attrV (a : AttrD) : Value := .agg #[.string a.key, .int .i64 a.kind, .string a.text, .int .i64 a.num]
def eventV (a : EventD) : Value := .agg #[.int .i64 a.moment, .string a.name]

theorem holds_new {w : World} {K : List Int} {n : Nat} (h : w.heap[n]? = some (.cells (intsV .i64 K).toArray 3 (0, 0))) : HoldsV w (some ⟨n, 0, none⟩) K.length (intsV .i64 K) := by
  refine ⟨by simp [intsV], fun j u hj => ⟨_, rfl, ?_⟩⟩
  rw [Addr.add_lit]
  simp [World.cell?, h, hj]

theorem alloc_at {w : World} {o : Obj} {n : Nat} (h : n = w.heap.size) : (w.alloc o).heap[n]? = some o := by subst h; exact heap_alloc_new w o

theorem or_at (w : World) (n : Nat) (K : List Int) (hs : n = w.heap.size) (hl : K.length ≤ 1000000) :
    Calls Tryz.prog 59 #[.slice (some ⟨n, 0, none⟩) K.length K.length] (w.alloc (.cells (K.map (Value.int .i64)).toArray 3)).drew fun e w' => e = .returned (.int .i64 (orL K)) ∧ w' = (w.alloc (.cells (K.map (Value.int .i64)).toArray 3)).drew :=
  or_any _ _ _ K _ (holds_new (w := (w.alloc (.cells (K.map (Value.int .i64)).toArray 3)).drew) (alloc_at hs)) hl

theorem key_any (a b : AttrD) (w : World) :
    Calls Tryz.prog 53 #[attrV a, attrV b] w fun e w' => e = .returned (.int .i64 (cmpS a.key b.key)) ∧ w' = (w.alloc (.cells #[.string a.key, .int .i64 a.kind, .string a.text, .int .i64 a.num] 83)).alloc (.cells #[.string b.key, .int .i64 b.kind, .string b.text, .int .i64 b.num] 83) := by
  unfold attrV
  go_enter Tryz.func53, Tryz.ntmps53
  go_wp2_with (go_at_call 67; refine (cmp_str _ _ _).mono ?_; rintro e w' ⟨rfl, rfl⟩)
  go_ret
  exact ⟨rfl, rfl⟩

theorem event_any (a b : EventD) (w : World) :
    Calls Tryz.prog 57 #[eventV a, eventV b] w fun e w' => e = .returned (.int .i64 (cmpE a b)) ∧ Below w.heap.size w w' := by
  unfold eventV
  have OR := fun o1 o2 => or_at ((w.alloc o1).alloc o2) (w.heap.size + 1 + 1) [cmpI a.moment b.moment, cmpS a.name b.name] (by simp) (by simp)
  simp only [List.map, List.length] at OR
  go_enter Tryz.func57, Tryz.ntmps57
  go_wp2
  go_region_held3 (fun w' => w'.cell? ⟨w.heap.size, 0, none⟩ = some (.int .i64 a.moment) ∧ w'.cell? ⟨w.heap.size, 1, none⟩ = some (.string a.name) ∧ w'.cell? ⟨w.heap.size + 1, 0, none⟩ = some (.int .i64 b.moment) ∧ w'.cell? ⟨w.heap.size + 1, 1, none⟩ = some (.string b.name)) (simp [go_sem, World.cell?_alloc_past])
    (first
      | (go_at_call 69; refine (cmp_i64 _ _ _).mono ?_; rintro e w' ⟨rfl, rfl⟩)
      | (go_at_call 67; refine (cmp_str _ _ _).mono ?_; rintro e w' ⟨rfl, rfl⟩)
      | (go_at_call 59; refine (OR _ _).mono ?_; rintro e w' ⟨rfl, rfl⟩))
  go_wp2
  go_ret
  exact ⟨rfl, ((((Below.refl _ _).alloc (Nat.le_refl _) _).alloc (by simp) _).alloc (by simp; omega) _).drew⟩

theorem attr_any (a b : AttrD) (w : World) :
    Calls Tryz.prog 75 #[attrV a, attrV b] w fun e w' => e = .returned (.int .i64 (cmpA a b)) ∧ Below w.heap.size w w' := by
  have OR := fun o1 o2 o3 o4 => or_at ((((w.alloc o1).alloc o2).alloc o3).alloc o4) (w.heap.size + 1 + 1 + 1 + 1) [cmpS a.key b.key, cmpI a.kind b.kind, cmpS a.text b.text, cmpI a.num b.num] (by simp) (by simp)
  simp only [List.map, List.length] at OR
  have KA := key_any a b
  unfold attrV at KA ⊢
  go_enter Tryz.func75, Tryz.ntmps75
  go_wp2
  go_region_held3 (fun w' => w'.cell? ⟨w.heap.size, 0, none⟩ = some (.string a.key) ∧ w'.cell? ⟨w.heap.size, 1, none⟩ = some (.int .i64 a.kind) ∧ w'.cell? ⟨w.heap.size, 2, none⟩ = some (.string a.text) ∧ w'.cell? ⟨w.heap.size, 3, none⟩ = some (.int .i64 a.num) ∧ w'.cell? ⟨w.heap.size + 1, 0, none⟩ = some (.string b.key) ∧ w'.cell? ⟨w.heap.size + 1, 1, none⟩ = some (.int .i64 b.kind) ∧ w'.cell? ⟨w.heap.size + 1, 2, none⟩ = some (.string b.text) ∧ w'.cell? ⟨w.heap.size + 1, 3, none⟩ = some (.int .i64 b.num)) (simp [go_sem, World.cell?_alloc_past])
    (first
      | (go_at_call 53; refine (KA _).mono ?_; rintro e w' ⟨rfl, rfl⟩)
      | (go_at_call 101; refine (cmp_vkind _ _ _).mono ?_; rintro e w' ⟨rfl, rfl⟩)
      | (go_at_call 69; refine (cmp_i64 _ _ _).mono ?_; rintro e w' ⟨rfl, rfl⟩)
      | (go_at_call 67; refine (cmp_str _ _ _).mono ?_; rintro e w' ⟨rfl, rfl⟩)
      | (go_at_call 59; refine (OR _ _ _ _).mono ?_; rintro e w' ⟨rfl, rfl⟩))
  go_wp2
  go_ret
  exact ⟨rfl, ((((((Below.refl _ _).alloc (Nat.le_refl _) _).alloc (by simp) _).alloc (by simp; omega) _).alloc (by simp; omega) _).alloc (by simp; omega) _).drew⟩
end Go.Proofs.YtiflfapdffkcbaaGreatDoor

namespace Go.Proofs.YtiflfapdffkcbaaGreatDoor
open Go.RowKit
set_option maxRecDepth 100000

/-- A list of attrs lies here. -/
structure AttrsAt (w : World) (ad : Option Addr) (n : Nat) (A : List AttrD) : Prop where
  len : A.length = n
  lies : 0 < n → ∃ b off, ad = some ⟨b, off, none⟩ ∧ ∀ i (_ : i < A.length), w.cell? ⟨b, off + i * 4, none⟩ = some (.string A[i].key) ∧ w.cell? ⟨b, off + i * 4 + 1, none⟩ = some (.int .i64 A[i].kind) ∧ w.cell? ⟨b, off + i * 4 + 2, none⟩ = some (.string A[i].text) ∧ w.cell? ⟨b, off + i * 4 + 3, none⟩ = some (.int .i64 A[i].num)
theorem AttrsAt.below {w w' : World} {ad : Option Addr} {n : Nat} {A : List AttrD} (h : AttrsAt w ad n A) (hb : Below w.heap.size w w') : AttrsAt w' ad n A := by
  refine ⟨h.len, fun hp => ?_⟩
  obtain ⟨b, off, ha, hc⟩ := h.lies hp
  refine ⟨b, off, ha, fun i hi => ?_⟩
  obtain ⟨c0, c1, c2, c3⟩ := hc i hi
  exact ⟨(hb.cell (World.block_lt_of_cell? w _ c0)).trans c0, (hb.cell (World.block_lt_of_cell? w _ c1)).trans c1, (hb.cell (World.block_lt_of_cell? w _ c2)).trans c2, (hb.cell (World.block_lt_of_cell? w _ c3)).trans c3⟩

theorem compare_attrs (ad bd : Option Addr) (n m c d : Nat) (X Y : List AttrD) (w : World) (hX : AttrsAt w ad n X) (hY : AttrsAt w bd m Y) (hn : n ≤ 140737488355328) (hm : m ≤ 140737488355328) :
    Calls Tryz.prog 74 #[.slice ad n c, .slice bd m d, .func (.func 75) #[] #[]] w fun e w' => e = .returned (.int .i64 (lexL cmpA X Y)) ∧ Below w.heap.size w w' := by
  have hl := hX.len
  have hk := hY.len
  obtain ⟨r, hr⟩ : ∃ r, lexL cmpA X Y = r := ⟨_, rfl⟩
  rw [hr]
  go_enter Tryz.func74, Tryz.ntmps74
  go_wp2
  go_loopw [13] (fun a wr => ∃ k : Nat, a = .int .i64 k ∧ k ≤ n ∧ k ≤ m ∧ r = lexL cmpA (X.drop k) (Y.drop k) ∧ Below w.heap.size w wr) (fun a _ => n - (intOf a).toNat)
  case atStart => exact ⟨0, rfl, by omega, by omega, by simp [hr], Below.refl _ _⟩
  case round =>
    obtain ⟨k, rfl, hkn, hkm, ho, hbw⟩ := hrel
    have HO : Hid (r = lexL cmpA (X.drop k) (Y.drop k)) := ho
    have hX2 := hX.below hbw
    have hY2 := hY.below hbw
    have hsz := hbw.size
    clear ho hr hX hY
    by_cases hlt : k < n
    · obtain ⟨b1, o1, rfl, hc1⟩ := hX2.lies (by omega)
      have ck := hc1 k (by omega)
      by_cases hlt2 : k < m
      · obtain ⟨b2, o2, rfl, hc2⟩ := hY2.lies (by omega)
        have dk := hc2 k (by omega)
        have st := lexL_drop HO.out (by omega) (by omega)
        obtain ⟨x, hx⟩ : ∃ x, X[k] = x := ⟨_, rfl⟩
        obtain ⟨y, hy⟩ : ∃ y, Y[k] = y := ⟨_, rfl⟩
        rw [hx, hy] at st
        rw [hx] at ck
        rw [hy] at dk
        obtain ⟨c0, c1, c2, c3⟩ := ck
        obtain ⟨d0, d1, d2, d3⟩ := dk
        have l1 := World.block_lt_of_cell? wr _ c0
        have l2 := World.block_lt_of_cell? wr _ d0
        have HS : Hid (r = orI (cmpA x y) (lexL cmpA (X.drop (k + 1)) (Y.drop (k + 1)))) := st
        obtain ⟨q, hq⟩ : ∃ q, cmpA x y = q := ⟨_, rfl⟩
        have CC := attr_any x y
        rw [hq] at CC HS
        simp only [attrV] at CC
        clear st hx hy HO hc1 hc2 hX2 hY2 hq
        have e1 : ∀ o : Obj, ∀ j v, wr.cell? ⟨b2, o2 + k * 4 + j, none⟩ = some v → (wr.alloc o).cell? ⟨b2, o2 + k * 4 + j, none⟩ = some v := fun o j v h => (((Below.refl wr.heap.size wr).alloc (Nat.le_refl _) o).cell (p := ⟨b2, o2 + k * 4 + j, none⟩) l2).trans h
        by_cases h0 : q = 0
        · subst h0
          go_wp2_with (go_at_call 75; refine (CC _).mono ?_; rintro e w' ⟨rfl, hb⟩; have hb2 := hbw.trans (((((Below.refl wr.heap.size wr).alloc (Nat.le_refl _) _).alloc (by simp) _).trans (hb.mono (by simp; omega))).mono hsz))
          go_roundw
          case rel => exact ⟨k + 1, by go_num, by omega, by omega, by rw [HS.out]; simp [orI], hb2⟩
          case measure => simp [intOf]; omega
        · have h0' : (q != 0) = true := by simpa using h0
          have FIN : Hid (r = q) := by show r = q; rw [HS.out]; simp [orI, h0]
          clear h0
          go_wp2_with (go_at_call 75; refine (CC _).mono ?_; rintro e w' ⟨rfl, hb⟩; have hb2 := hbw.trans (((((Below.refl wr.heap.size wr).alloc (Nat.le_refl _) _).alloc (by simp) _).trans (hb.mono (by simp; omega))).mono hsz))
          go_ret
          exact ⟨ret_int FIN.out.symm, hb2⟩
      · have FIN : Hid (r = 1) := lexL_right HO.out (by omega) (by omega)
        have hmk : m = k := by omega
        obtain ⟨x, hx⟩ : ∃ x, X[k] = x := ⟨_, rfl⟩
        rw [hx] at ck
        obtain ⟨c0, c1, c2, c3⟩ := ck
        clear hc1 hX2 hY2 hx
        go_wp2
        go_ret
        exact ⟨ret_int FIN.out.symm, hbw.alloc hsz _⟩
    · have hnk : n = k := by omega
      by_cases hlt2 : k < m
      · have FIN : Hid (r = -1) := lexL_left HO.out (by omega) (by omega)
        go_wp2
        go_ret
        exact ⟨ret_int FIN.out.symm, hbw⟩
      · have FIN : Hid (r = 0) := lexL_both HO.out (by omega) (by omega)
        go_wp2
        go_ret
        exact ⟨ret_int FIN.out.symm, hbw⟩

/-- A list of events lies here. -/
structure EventsAt (w : World) (ad : Option Addr) (n : Nat) (A : List EventD) : Prop where
  len : A.length = n
  lies : 0 < n → ∃ b off, ad = some ⟨b, off, none⟩ ∧ ∀ i (_ : i < A.length), w.cell? ⟨b, off + i * 2, none⟩ = some (.int .i64 A[i].moment) ∧ w.cell? ⟨b, off + i * 2 + 1, none⟩ = some (.string A[i].name)
theorem EventsAt.below {w w' : World} {ad : Option Addr} {n : Nat} {A : List EventD} (h : EventsAt w ad n A) (hb : Below w.heap.size w w') : EventsAt w' ad n A := by
  refine ⟨h.len, fun hp => ?_⟩
  obtain ⟨b, off, ha, hc⟩ := h.lies hp
  refine ⟨b, off, ha, fun i hi => ?_⟩
  obtain ⟨c0, c1⟩ := hc i hi
  exact ⟨(hb.cell (World.block_lt_of_cell? w _ c0)).trans c0, (hb.cell (World.block_lt_of_cell? w _ c1)).trans c1⟩

theorem compare_events (ad bd : Option Addr) (n m c d : Nat) (X Y : List EventD) (w : World) (hX : EventsAt w ad n X) (hY : EventsAt w bd m Y) (hn : n ≤ 140737488355328) (hm : m ≤ 140737488355328) :
    Calls Tryz.prog 76 #[.slice ad n c, .slice bd m d, .func (.func 57) #[] #[]] w fun e w' => e = .returned (.int .i64 (lexL cmpE X Y)) ∧ Below w.heap.size w w' := by
  have hl := hX.len
  have hk := hY.len
  obtain ⟨r, hr⟩ : ∃ r, lexL cmpE X Y = r := ⟨_, rfl⟩
  rw [hr]
  go_enter Tryz.func76, Tryz.ntmps76
  go_wp2
  go_loopw [13] (fun a wr => ∃ k : Nat, a = .int .i64 k ∧ k ≤ n ∧ k ≤ m ∧ r = lexL cmpE (X.drop k) (Y.drop k) ∧ Below w.heap.size w wr) (fun a _ => n - (intOf a).toNat)
  case atStart => exact ⟨0, rfl, by omega, by omega, by simp [hr], Below.refl _ _⟩
  case round =>
    obtain ⟨k, rfl, hkn, hkm, ho, hbw⟩ := hrel
    have HO : Hid (r = lexL cmpE (X.drop k) (Y.drop k)) := ho
    have hX2 := hX.below hbw
    have hY2 := hY.below hbw
    have hsz := hbw.size
    clear ho hr hX hY
    by_cases hlt : k < n
    · obtain ⟨b1, o1, rfl, hc1⟩ := hX2.lies (by omega)
      have ck := hc1 k (by omega)
      by_cases hlt2 : k < m
      · obtain ⟨b2, o2, rfl, hc2⟩ := hY2.lies (by omega)
        have dk := hc2 k (by omega)
        have st := lexL_drop HO.out (by omega) (by omega)
        obtain ⟨x, hx⟩ : ∃ x, X[k] = x := ⟨_, rfl⟩
        obtain ⟨y, hy⟩ : ∃ y, Y[k] = y := ⟨_, rfl⟩
        rw [hx, hy] at st
        rw [hx] at ck
        rw [hy] at dk
        obtain ⟨c0, c1⟩ := ck
        obtain ⟨d0, d1⟩ := dk
        have l1 := World.block_lt_of_cell? wr _ c0
        have l2 := World.block_lt_of_cell? wr _ d0
        have HS : Hid (r = orI (cmpE x y) (lexL cmpE (X.drop (k + 1)) (Y.drop (k + 1)))) := st
        obtain ⟨q, hq⟩ : ∃ q, cmpE x y = q := ⟨_, rfl⟩
        have CC := event_any x y
        rw [hq] at CC HS
        simp only [eventV] at CC
        clear st hx hy HO hc1 hc2 hX2 hY2 hq
        have e1 : ∀ o : Obj, ∀ j v, wr.cell? ⟨b2, o2 + k * 2 + j, none⟩ = some v → (wr.alloc o).cell? ⟨b2, o2 + k * 2 + j, none⟩ = some v := fun o j v h => (((Below.refl wr.heap.size wr).alloc (Nat.le_refl _) o).cell (p := ⟨b2, o2 + k * 2 + j, none⟩) l2).trans h
        by_cases h0 : q = 0
        · subst h0
          go_wp2_with (go_at_call 57; refine (CC _).mono ?_; rintro e w' ⟨rfl, hb⟩; have hb2 := hbw.trans (((((Below.refl wr.heap.size wr).alloc (Nat.le_refl _) _).alloc (by simp) _).trans (hb.mono (by simp; omega))).mono hsz))
          go_roundw
          case rel => exact ⟨k + 1, by go_num, by omega, by omega, by rw [HS.out]; simp [orI], hb2⟩
          case measure => simp [intOf]; omega
        · have h0' : (q != 0) = true := by simpa using h0
          have FIN : Hid (r = q) := by show r = q; rw [HS.out]; simp [orI, h0]
          clear h0
          go_wp2_with (go_at_call 57; refine (CC _).mono ?_; rintro e w' ⟨rfl, hb⟩; have hb2 := hbw.trans (((((Below.refl wr.heap.size wr).alloc (Nat.le_refl _) _).alloc (by simp) _).trans (hb.mono (by simp; omega))).mono hsz))
          go_ret
          exact ⟨ret_int FIN.out.symm, hb2⟩
      · have FIN : Hid (r = 1) := lexL_right HO.out (by omega) (by omega)
        have hmk : m = k := by omega
        obtain ⟨x, hx⟩ : ∃ x, X[k] = x := ⟨_, rfl⟩
        rw [hx] at ck
        obtain ⟨c0, c1⟩ := ck
        clear hc1 hX2 hY2 hx
        go_wp2
        go_ret
        exact ⟨ret_int FIN.out.symm, hbw.alloc hsz _⟩
    · have hnk : n = k := by omega
      by_cases hlt2 : k < m
      · have FIN : Hid (r = -1) := lexL_left HO.out (by omega) (by omega)
        go_wp2
        go_ret
        exact ⟨ret_int FIN.out.symm, hbw⟩
      · have FIN : Hid (r = 0) := lexL_both HO.out (by omega) (by omega)
        go_wp2
        go_ret
        exact ⟨ret_int FIN.out.symm, hbw⟩
end Go.Proofs.YtiflfapdffkcbaaGreatDoor

namespace Go.Proofs.YtiflfapdffkcbaaGreatDoor
open Go.RowKit
set_option maxRecDepth 100000

/-- Where a span's lists lie. -/
structure Pl where
  la : Option Addr
  lc : Nat
  aa : Option Addr
  ac : Nat
  ea : Option Addr
  ec : Nat
/-- A span's cells. -/
def spC (a : Sp) (p : Pl) : Array Value := #[.int .u64 a.hi, .int .u64 a.lo, .int .u64 a.id, .int .u64 a.par, .slice p.la a.links.length p.lc, .string a.svc, .string a.op, .int .i64 a.kind, .int .i64 a.status, .int .i64 a.start, .int .i64 a.fin, .slice p.aa a.attrs.length p.ac, .slice p.ea a.events.length p.ec]
def spV (a : Sp) (p : Pl) : Value := .agg (spC a p)
/-- A span's lists lie where it says. -/
structure SpAt (w : World) (a : Sp) (p : Pl) : Prop where
  links : HoldsV w p.la a.links.length (intsV .u64 a.links)
  attrs : AttrsAt w p.aa a.attrs.length a.attrs
  events : EventsAt w p.ea a.events.length a.events
  sl : a.links.length ≤ 140737488355328
  sa : a.attrs.length ≤ 140737488355328
  se : a.events.length ≤ 140737488355328
theorem SpAt.below {w w' : World} {a : Sp} {p : Pl} (h : SpAt w a p) (hb : Below w.heap.size w w') : SpAt w' a p :=
  ⟨h.links.below hb, h.attrs.below hb, h.events.below hb, h.sl, h.sa, h.se⟩

theorem keepT (n : Nat) (a b : Sp) (p q : Pl) {w1 w2 : World} (hb : Below (n + 2) w1 w2)
    (h : w1.cell? ⟨n, 3, none⟩ = some (.int .u64 a.par) ∧ w1.cell? ⟨n, 4, none⟩ = some (.slice p.la a.links.length p.lc) ∧ w1.cell? ⟨n, 5, none⟩ = some (.string a.svc) ∧ w1.cell? ⟨n, 6, none⟩ = some (.string a.op) ∧ w1.cell? ⟨n, 7, none⟩ = some (.int .i64 a.kind) ∧ w1.cell? ⟨n, 8, none⟩ = some (.int .i64 a.status) ∧ w1.cell? ⟨n, 9, none⟩ = some (.int .i64 a.start) ∧ w1.cell? ⟨n, 10, none⟩ = some (.int .i64 a.fin) ∧ w1.cell? ⟨n, 11, none⟩ = some (.slice p.aa a.attrs.length p.ac) ∧ w1.cell? ⟨n, 12, none⟩ = some (.slice p.ea a.events.length p.ec) ∧ w1.cell? ⟨n + 1, 3, none⟩ = some (.int .u64 b.par) ∧ w1.cell? ⟨n + 1, 4, none⟩ = some (.slice q.la b.links.length q.lc) ∧ w1.cell? ⟨n + 1, 5, none⟩ = some (.string b.svc) ∧ w1.cell? ⟨n + 1, 6, none⟩ = some (.string b.op) ∧ w1.cell? ⟨n + 1, 7, none⟩ = some (.int .i64 b.kind) ∧ w1.cell? ⟨n + 1, 8, none⟩ = some (.int .i64 b.status) ∧ w1.cell? ⟨n + 1, 9, none⟩ = some (.int .i64 b.start) ∧ w1.cell? ⟨n + 1, 10, none⟩ = some (.int .i64 b.fin) ∧ w1.cell? ⟨n + 1, 11, none⟩ = some (.slice q.aa b.attrs.length q.ac) ∧ w1.cell? ⟨n + 1, 12, none⟩ = some (.slice q.ea b.events.length q.ec)) :
    w2.cell? ⟨n, 3, none⟩ = some (.int .u64 a.par) ∧ w2.cell? ⟨n, 4, none⟩ = some (.slice p.la a.links.length p.lc) ∧ w2.cell? ⟨n, 5, none⟩ = some (.string a.svc) ∧ w2.cell? ⟨n, 6, none⟩ = some (.string a.op) ∧ w2.cell? ⟨n, 7, none⟩ = some (.int .i64 a.kind) ∧ w2.cell? ⟨n, 8, none⟩ = some (.int .i64 a.status) ∧ w2.cell? ⟨n, 9, none⟩ = some (.int .i64 a.start) ∧ w2.cell? ⟨n, 10, none⟩ = some (.int .i64 a.fin) ∧ w2.cell? ⟨n, 11, none⟩ = some (.slice p.aa a.attrs.length p.ac) ∧ w2.cell? ⟨n, 12, none⟩ = some (.slice p.ea a.events.length p.ec) ∧ w2.cell? ⟨n + 1, 3, none⟩ = some (.int .u64 b.par) ∧ w2.cell? ⟨n + 1, 4, none⟩ = some (.slice q.la b.links.length q.lc) ∧ w2.cell? ⟨n + 1, 5, none⟩ = some (.string b.svc) ∧ w2.cell? ⟨n + 1, 6, none⟩ = some (.string b.op) ∧ w2.cell? ⟨n + 1, 7, none⟩ = some (.int .i64 b.kind) ∧ w2.cell? ⟨n + 1, 8, none⟩ = some (.int .i64 b.status) ∧ w2.cell? ⟨n + 1, 9, none⟩ = some (.int .i64 b.start) ∧ w2.cell? ⟨n + 1, 10, none⟩ = some (.int .i64 b.fin) ∧ w2.cell? ⟨n + 1, 11, none⟩ = some (.slice q.aa b.attrs.length q.ac) ∧ w2.cell? ⟨n + 1, 12, none⟩ = some (.slice q.ea b.events.length q.ec) := by
  have e0 : ∀ j, w2.cell? ⟨n, j, none⟩ = w1.cell? ⟨n, j, none⟩ := fun j => hb.cell (p := ⟨n, j, none⟩) (by show n < n + 2; omega)
  have e1 : ∀ j, w2.cell? ⟨n + 1, j, none⟩ = w1.cell? ⟨n + 1, j, none⟩ := fun j => hb.cell (p := ⟨n + 1, j, none⟩) (by show n + 1 < n + 2; omega)
  simp only [e0, e1]
  exact h

theorem or_plain (w : World) (n : Nat) (K : List Int) (hs : n = w.heap.size) (hl : K.length ≤ 1000000) :
    Calls Tryz.prog 59 #[.slice (some ⟨n, 0, none⟩) K.length K.length] (w.alloc (.cells (K.map (Value.int .i64)).toArray 3)) fun e w' => e = .returned (.int .i64 (orL K)) ∧ w' = w.alloc (.cells (K.map (Value.int .i64)).toArray 3) :=
  or_any _ _ _ K _ (holds_new (w := w.alloc (.cells (K.map (Value.int .i64)).toArray 3)) (alloc_at hs)) hl
theorem hb_two {w : World} {o1 o2 : Obj} {m : Nat} {w' : World} (hb : Below ((w.alloc o1).alloc o2).heap.size ((w.alloc o1).alloc o2) w') (hm : m = w.heap.size + 2) : Below m ((w.alloc o1).alloc o2) w' := by
  subst hm; exact hb.mono (by simp)

set_option maxHeartbeats 2000000 in
theorem tells_any (a b : Sp) (p q : Pl) (w : World) (ha : SpAt w a p) (hb : SpAt w b q) :
    Calls Tryz.prog 61 #[spV a p, spV b q] w fun e w' => e = .returned (.int .i64 (cmpT a b)) ∧ Below w.heap.size w w' := by
  have LK := fun w' (h : Below w.heap.size w w') => compare_links p.la q.la a.links.length b.links.length p.lc q.lc a.links b.links w' (ha.links.below h) (hb.links.below h) ha.sl hb.sl
  have AT := fun w' (h : Below w.heap.size w w') => compare_attrs p.aa q.aa a.attrs.length b.attrs.length p.ac q.ac a.attrs b.attrs w' (ha.attrs.below h) (hb.attrs.below h) ha.sa hb.sa
  have EV := fun w' (h : Below w.heap.size w w') => compare_events p.ea q.ea a.events.length b.events.length p.ec q.ec a.events b.events w' (ha.events.below h) (hb.events.below h) ha.se hb.se
  have OR := fun w' n h => or_plain w' n [cmpI a.fin b.fin, cmpI b.start a.start, cmpI a.status b.status, cmpI a.par b.par, cmpS a.svc b.svc, cmpS a.op b.op, cmpI a.kind b.kind, lexL cmpI a.links b.links, lexL cmpA a.attrs b.attrs, lexL cmpE a.events b.events] h (by simp)
  simp only [List.map, List.length] at OR
  have B2 : ∀ o1 o2 : Obj, Below w.heap.size w (((w.alloc o1).alloc o2).drew) := fun o1 o2 => (((Below.refl _ _).alloc (Nat.le_refl _) _).alloc (by simp) _).drew
  have Z2 : ∀ o1 o2 : Obj, (((w.alloc o1).alloc o2).drew).heap.size = w.heap.size + 2 := fun o1 o2 => by show ((w.alloc o1).alloc o2).heap.size = _; simp
  have S0 : (((w.alloc (.cells (spC a p) 41)).alloc (.cells (spC b q) 41)).drew).cell? ⟨w.heap.size, 3, none⟩ = some (.int .u64 a.par) ∧ (((w.alloc (.cells (spC a p) 41)).alloc (.cells (spC b q) 41)).drew).cell? ⟨w.heap.size, 4, none⟩ = some (.slice p.la a.links.length p.lc) ∧ (((w.alloc (.cells (spC a p) 41)).alloc (.cells (spC b q) 41)).drew).cell? ⟨w.heap.size, 5, none⟩ = some (.string a.svc) ∧ (((w.alloc (.cells (spC a p) 41)).alloc (.cells (spC b q) 41)).drew).cell? ⟨w.heap.size, 6, none⟩ = some (.string a.op) ∧ (((w.alloc (.cells (spC a p) 41)).alloc (.cells (spC b q) 41)).drew).cell? ⟨w.heap.size, 7, none⟩ = some (.int .i64 a.kind) ∧ (((w.alloc (.cells (spC a p) 41)).alloc (.cells (spC b q) 41)).drew).cell? ⟨w.heap.size, 8, none⟩ = some (.int .i64 a.status) ∧ (((w.alloc (.cells (spC a p) 41)).alloc (.cells (spC b q) 41)).drew).cell? ⟨w.heap.size, 9, none⟩ = some (.int .i64 a.start) ∧ (((w.alloc (.cells (spC a p) 41)).alloc (.cells (spC b q) 41)).drew).cell? ⟨w.heap.size, 10, none⟩ = some (.int .i64 a.fin) ∧ (((w.alloc (.cells (spC a p) 41)).alloc (.cells (spC b q) 41)).drew).cell? ⟨w.heap.size, 11, none⟩ = some (.slice p.aa a.attrs.length p.ac) ∧ (((w.alloc (.cells (spC a p) 41)).alloc (.cells (spC b q) 41)).drew).cell? ⟨w.heap.size, 12, none⟩ = some (.slice p.ea a.events.length p.ec) ∧ (((w.alloc (.cells (spC a p) 41)).alloc (.cells (spC b q) 41)).drew).cell? ⟨w.heap.size + 1, 3, none⟩ = some (.int .u64 b.par) ∧ (((w.alloc (.cells (spC a p) 41)).alloc (.cells (spC b q) 41)).drew).cell? ⟨w.heap.size + 1, 4, none⟩ = some (.slice q.la b.links.length q.lc) ∧ (((w.alloc (.cells (spC a p) 41)).alloc (.cells (spC b q) 41)).drew).cell? ⟨w.heap.size + 1, 5, none⟩ = some (.string b.svc) ∧ (((w.alloc (.cells (spC a p) 41)).alloc (.cells (spC b q) 41)).drew).cell? ⟨w.heap.size + 1, 6, none⟩ = some (.string b.op) ∧ (((w.alloc (.cells (spC a p) 41)).alloc (.cells (spC b q) 41)).drew).cell? ⟨w.heap.size + 1, 7, none⟩ = some (.int .i64 b.kind) ∧ (((w.alloc (.cells (spC a p) 41)).alloc (.cells (spC b q) 41)).drew).cell? ⟨w.heap.size + 1, 8, none⟩ = some (.int .i64 b.status) ∧ (((w.alloc (.cells (spC a p) 41)).alloc (.cells (spC b q) 41)).drew).cell? ⟨w.heap.size + 1, 9, none⟩ = some (.int .i64 b.start) ∧ (((w.alloc (.cells (spC a p) 41)).alloc (.cells (spC b q) 41)).drew).cell? ⟨w.heap.size + 1, 10, none⟩ = some (.int .i64 b.fin) ∧ (((w.alloc (.cells (spC a p) 41)).alloc (.cells (spC b q) 41)).drew).cell? ⟨w.heap.size + 1, 11, none⟩ = some (.slice q.aa b.attrs.length q.ac) ∧ (((w.alloc (.cells (spC a p) 41)).alloc (.cells (spC b q) 41)).drew).cell? ⟨w.heap.size + 1, 12, none⟩ = some (.slice q.ea b.events.length q.ec) := by simp [spC, go_sem, World.cell?_alloc_past]
  unfold spC at S0
  unfold spV spC
  go_enter Tryz.func61, Tryz.ntmps61
  go_wp2
  go_region_held3 (fun w' => w'.cell? ⟨w.heap.size, 3, none⟩ = some (.int .u64 a.par) ∧ w'.cell? ⟨w.heap.size, 4, none⟩ = some (.slice p.la a.links.length p.lc) ∧ w'.cell? ⟨w.heap.size, 5, none⟩ = some (.string a.svc) ∧ w'.cell? ⟨w.heap.size, 6, none⟩ = some (.string a.op) ∧ w'.cell? ⟨w.heap.size, 7, none⟩ = some (.int .i64 a.kind) ∧ w'.cell? ⟨w.heap.size, 8, none⟩ = some (.int .i64 a.status) ∧ w'.cell? ⟨w.heap.size, 9, none⟩ = some (.int .i64 a.start) ∧ w'.cell? ⟨w.heap.size, 10, none⟩ = some (.int .i64 a.fin) ∧ w'.cell? ⟨w.heap.size, 11, none⟩ = some (.slice p.aa a.attrs.length p.ac) ∧ w'.cell? ⟨w.heap.size, 12, none⟩ = some (.slice p.ea a.events.length p.ec) ∧ w'.cell? ⟨w.heap.size + 1, 3, none⟩ = some (.int .u64 b.par) ∧ w'.cell? ⟨w.heap.size + 1, 4, none⟩ = some (.slice q.la b.links.length q.lc) ∧ w'.cell? ⟨w.heap.size + 1, 5, none⟩ = some (.string b.svc) ∧ w'.cell? ⟨w.heap.size + 1, 6, none⟩ = some (.string b.op) ∧ w'.cell? ⟨w.heap.size + 1, 7, none⟩ = some (.int .i64 b.kind) ∧ w'.cell? ⟨w.heap.size + 1, 8, none⟩ = some (.int .i64 b.status) ∧ w'.cell? ⟨w.heap.size + 1, 9, none⟩ = some (.int .i64 b.start) ∧ w'.cell? ⟨w.heap.size + 1, 10, none⟩ = some (.int .i64 b.fin) ∧ w'.cell? ⟨w.heap.size + 1, 11, none⟩ = some (.slice q.aa b.attrs.length q.ac) ∧ w'.cell? ⟨w.heap.size + 1, 12, none⟩ = some (.slice q.ea b.events.length q.ec))
    (first | (simp [go_sem, World.cell?_alloc_past]; done) | exact S7 _ | exact S6 | exact S5)
    (first
      | (go_at_call 69; refine (cmp_i64 _ _ _).mono ?_; rintro e w' ⟨rfl, rfl⟩)
      | (go_at_call 67; refine (cmp_str _ _ _).mono ?_; rintro e w' ⟨rfl, rfl⟩)
      | (go_at_call 71; refine (cmp_status _ _ _).mono ?_; rintro e w' ⟨rfl, rfl⟩)
      | (go_at_call 72; refine (cmp_kind _ _ _).mono ?_; rintro e w' ⟨rfl, rfl⟩)
      | (go_at_call 51; refine (cmp_id _ _ _).mono ?_; rintro e w' ⟨rfl, rfl⟩)
      | (go_at_call 73; refine (LK _ (B2 _ _)).mono ?_; rintro e w' ⟨rfl, rfl⟩)
      | (go_at_call 74; refine (AT _ (B2 _ _)).mono ?_; rintro e w5 ⟨rfl, hb5⟩; have S5 := keepT w.heap.size a b p q (hb5.mono (Nat.le_of_eq (Z2 _ _).symm)) S0; have hB5 := (B2 _ _).trans (hb5.mono (Nat.le_trans (Nat.le_add_right _ 2) (Nat.le_of_eq (Z2 _ _).symm))); have hz5 := Nat.le_trans (Nat.le_of_eq (Z2 _ _).symm) hb5.size)
      | (go_at_call 76; refine (EV _ hB5).mono ?_; rintro e w6 ⟨rfl, hb6⟩; have S6 := keepT w.heap.size a b p q (hb6.mono hz5) S5; have hB6 := hB5.trans (hb6.mono hB5.size); have hzL := Nat.le_trans hz5 hb6.size; have S7 := fun o => keepT w.heap.size a b p q ((Below.refl (w.heap.size + 2) w6).alloc hzL o) S6)
      | (go_at_call 59; refine (OR _ _ rfl).mono ?_; rintro e w' ⟨rfl, rfl⟩))
  go_wp2
  go_ret
  exact ⟨rfl, hB6.alloc hB6.size _⟩
end Go.Proofs.YtiflfapdffkcbaaGreatDoor
