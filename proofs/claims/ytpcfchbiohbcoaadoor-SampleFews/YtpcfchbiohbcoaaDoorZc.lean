/-
  Zc.
-/
import Derived.Test.YtpcfchbiohbcoaaDoorZm
import Derived.Test.YtpcfchbiohbcoaaDoorWa
namespace Go.Proofs.YtpcfchbiohbcoaaDoor
open Go.RowKit
set_option maxRecDepth 100000

theorem nan_u64 (x : Int) (w : World) :
    Calls Tryd.prog 64 #[.int .u64 x] w fun e w' => e = .returned (.bool false) ∧ w' = w := by
  go_enter Tryd.func64, Tryd.ntmps64
  go_wp2
  go_ret
  exact ⟨by simp, rfl⟩
theorem cmp_u64 (x y : Int) (w : World) :
    Calls Tryd.prog 50 #[.int .u64 x, .int .u64 y] w fun e w' => e = .returned (.int .i64 (cmpI x y)) ∧ w' = w := by
  go_enter Tryd.func50, Tryd.ntmps50
  go_wp2_with (go_at_call 64; refine (nan_u64 _ _).mono ?_; rintro e w' ⟨rfl, rfl⟩)
  all_goals (go_ret; refine ⟨?_, rfl⟩; unfold cmpI; (repeat' split) <;> first | rfl | (exfalso; omega))

theorem nan_id (x : Int) (w : World) :
    Calls Tryd.prog 86 #[.int .u64 x] w fun e w' => e = .returned (.bool false) ∧ w' = w := by
  go_enter Tryd.func86, Tryd.ntmps86
  go_wp2
  go_ret
  exact ⟨by simp, rfl⟩
theorem cmp_id (x y : Int) (w : World) :
    Calls Tryd.prog 67 #[.int .u64 x, .int .u64 y] w fun e w' => e = .returned (.int .i64 (cmpI x y)) ∧ w' = w := by
  go_enter Tryd.func67, Tryd.ntmps67
  go_wp2_with (go_at_call 86; refine (nan_id _ _).mono ?_; rintro e w' ⟨rfl, rfl⟩)
  all_goals (go_ret; refine ⟨?_, rfl⟩; unfold cmpI; (repeat' split) <;> first | rfl | (exfalso; omega))

theorem nan_i64 (x : Int) (w : World) :
    Calls Tryd.prog 98 #[.int .i64 x] w fun e w' => e = .returned (.bool false) ∧ w' = w := by
  go_enter Tryd.func98, Tryd.ntmps98
  go_wp2
  go_ret
  exact ⟨by simp, rfl⟩
theorem cmp_i64 (x y : Int) (w : World) :
    Calls Tryd.prog 89 #[.int .i64 x, .int .i64 y] w fun e w' => e = .returned (.int .i64 (cmpI x y)) ∧ w' = w := by
  go_enter Tryd.func89, Tryd.ntmps89
  go_wp2_with (go_at_call 98; refine (nan_i64 _ _).mono ?_; rintro e w' ⟨rfl, rfl⟩)
  all_goals (go_ret; refine ⟨?_, rfl⟩; unfold cmpI; (repeat' split) <;> first | rfl | (exfalso; omega))

theorem nan_str (x : ByteArray) (w : World) :
    Calls Tryd.prog 96 #[.string x] w fun e w' => e = .returned (.bool false) ∧ w' = w := by
  go_enter Tryd.func96, Tryd.ntmps96
  go_wp2
  go_ret
  exact ⟨by simp, rfl⟩
theorem binOp_str_gtr (t : TypeId) (a b : ByteArray) : binOp .gtr t (.string a) (.string b) = pure (.bool (!Op.bytesLess a.toList b.toList && !(a.toList == b.toList))) := by simp [binOp, Op.stringOp]
theorem cmp_str (x y : ByteArray) (w : World) :
    Calls Tryd.prog 87 #[.string x, .string y] w fun e w' => e = .returned (.int .i64 (cmpS x y)) ∧ w' = w := by
  have h1 := cmpS_lt x y
  have h2 : ∀ W : World, Sem.run Tryd.prog (binOp .gtr 9 (.string x) (.string y)) W = .ok (.bool (!decide (cmpS x y = -1) && !decide (cmpS x y = 0))) W := by
    intro W; rw [binOp_str_gtr, h1, cmpS_eq]; rfl
  have h3 := good_cmpS.rng x y
  generalize cmpS x y = c at h1 h2 h3 ⊢
  rcases h3 with rfl | rfl | rfl
  all_goals
    simp at h1 h2
    go_enter Tryd.func87, Tryd.ntmps87
    go_wp2_with (go_at_call 96; refine (nan_str _ _).mono ?_; rintro e w' ⟨rfl, rfl⟩)
    go_ret
    exact ⟨rfl, rfl⟩

/-- The cells of a slice hold these values. -/
structure HoldsV (w : World) (ad : Option Addr) (n : Nat) (K : List Value) : Prop where
  len : K.length = n
  cells : ∀ j u, K[j]? = some u → ∃ a, ad = some a ∧ w.cell? (a.add j) = some u
theorem HoldsV.nil (w : World) : HoldsV w none 0 [] := ⟨rfl, fun j u h => by simp at h⟩
theorem HoldsV.at {w : World} {ad : Option Addr} {n : Nat} {K : List Value} (h : HoldsV w ad n K) (hp : 0 < n) : ∃ a, ad = some a ∧ ∀ j u, K[j]? = some u → w.cell? (a.add j) = some u := by
  have hl := h.len
  obtain ⟨a, ha, _⟩ := h.cells 0 K[0] (by simp)
  refine ⟨a, ha, fun j u hj => ?_⟩
  obtain ⟨a', ha', hc⟩ := h.cells j u hj
  rw [ha] at ha'; simp at ha'; subst ha'; exact hc
theorem HoldsV.below {w w' : World} {ad : Option Addr} {n : Nat} {K : List Value} (h : HoldsV w ad n K) (hb : Below w.heap.size w w') : HoldsV w' ad n K := by
  refine ⟨h.len, fun j u hj => ?_⟩
  obtain ⟨a, ha, hc⟩ := h.cells j u hj
  exact ⟨a, ha, (hb.cell (World.block_lt_of_cell? w _ hc)).trans hc⟩
def intsV (k : IntKind) (K : List Int) : List Value := K.map (Value.int k)
theorem intsV_get {k : IntKind} {K : List Int} {j : Nat} (h : j < K.length) : (intsV k K)[j]? = some (.int k K[j]) := by simp [intsV, h]

theorem HoldsV.plain {w : World} {ad : Option Addr} {n : Nat} {K : List Value} (h : HoldsV w ad n K) {j : Nat} {u : Value} (hj : K[j]? = some u) : ∃ b off, ad = some ⟨b, off, none⟩ ∧ ∀ i v, K[i]? = some v → w.cell? ⟨b, off + i, none⟩ = some v := by
  have hp : 0 < n := by
    have := h.len
    by_cases h0 : 0 < n
    · exact h0
    · rw [List.getElem?_eq_none (by omega)] at hj; simp at hj
  obtain ⟨a, ha, hc⟩ := h.at hp
  obtain ⟨b, off, sp⟩ := a
  have hl0 : 0 < K.length := by have := h.len; omega
  have hcx := hc 0 K[0] (by simp)
  have hsp : sp = none := by
    cases sp with
    | none => rfl
    | some sp => simp [World.cell?, Addr.add] at hcx; split at hcx <;> simp at hcx
  subst hsp
  exact ⟨b, off, ha, fun i v hi => by have := hc i v hi; rwa [Addr.add_lit] at this⟩

theorem or_any (ad : Option Addr) (n cap : Nat) (K : List Int) (w : World) (h : HoldsV w ad n (intsV .i64 K)) (hn : n ≤ 1000000) :
    Calls Tryd.prog 49 #[.slice ad n cap] w fun e w' => e = .returned (.int .i64 (orL K)) ∧ w' = w := by
  have hl : K.length = n := by simpa [intsV] using h.len
  go_enter Tryd.func49, Tryd.ntmps49
  go_wp2
  go_loop [8] (fun a => ∃ k : Nat, a = .int .i64 k ∧ k ≤ n ∧ orL K = orL (K.drop k)) (fun a => n - (intOf a).toNat)
  case atStart => exact ⟨0, rfl, by omega, by simp⟩
  case round =>
    obtain ⟨k, rfl, hk, ho⟩ := hrel
    have HO : Hid (orL K = orL (K.drop k)) := ho
    clear ho
    by_cases hlt : k < n
    · obtain ⟨b, off, rfl, hc⟩ := h.plain (intsV_get (k := .i64) (by omega : k < K.length))
      have hcx := hc k (.int .i64 K[k]) (intsV_get (by omega))
      have hd : K.drop k = K[k] :: K.drop (k + 1) := List.drop_eq_getElem_cons (by omega)
      obtain ⟨x, hx⟩ : ∃ x, K[k] = x := ⟨_, rfl⟩
      rw [hx] at hcx hd
      have HD : Hid (K.drop k = x :: K.drop (k + 1)) := hd
      clear hd hx hc h
      by_cases h0 : x = 0
      · subst h0
        go_wp2
        go_round
        case rel => exact ⟨k + 1, by go_num, by omega, by rw [HO.out, HD.out]; simp [orL, orI]⟩
        case measure => simp [intOf]; omega
      · have h0' : (x != 0) = true := by simpa using h0
        have FIN : Hid (orL K = x) := by show orL K = x; rw [HO.out, HD.out]; simp [orL, orI, h0]
        clear h0
        go_wp2
        go_ret
        exact ⟨ret_int FIN.out.symm, rfl⟩
    · have FIN : Hid (orL K = 0) := by show orL K = 0; rw [HO.out, List.drop_of_length_le (by omega)]; rfl
      go_wp2
      go_ret
      exact ⟨ret_int FIN.out.symm, rfl⟩

theorem lexL_drop {α : Type} {c : α → α → Int} {x y : List α} {k : Nat} {r : Int} (h : r = lexL c (x.drop k) (y.drop k)) (hx : k < x.length) (hy : k < y.length) : r = orI (c x[k] y[k]) (lexL c (x.drop (k + 1)) (y.drop (k + 1))) := by
  rw [h, List.drop_eq_getElem_cons hx, List.drop_eq_getElem_cons hy]; rfl
theorem lexL_right {α : Type} {c : α → α → Int} {x y : List α} {k : Nat} {r : Int} (h : r = lexL c (x.drop k) (y.drop k)) (hx : k < x.length) (hy : y.length ≤ k) : r = 1 := by
  rw [h, List.drop_eq_getElem_cons hx, List.drop_of_length_le hy]; rfl
theorem lexL_left {α : Type} {c : α → α → Int} {x y : List α} {k : Nat} {r : Int} (h : r = lexL c (x.drop k) (y.drop k)) (hx : x.length ≤ k) (hy : k < y.length) : r = -1 := by
  rw [h, List.drop_eq_getElem_cons hy, List.drop_of_length_le hx]; rfl
theorem lexL_both {α : Type} {c : α → α → Int} {x y : List α} {k : Nat} {r : Int} (h : r = lexL c (x.drop k) (y.drop k)) (hx : x.length ≤ k) (hy : y.length ≤ k) : r = 0 := by
  rw [h, List.drop_of_length_le hx, List.drop_of_length_le hy]; rfl
end Go.Proofs.YtpcfchbiohbcoaaDoor
