/-
  Contracts: raw, the Writer's calls in one form, layAttrs, layEvents.
-/
import Derived.Test.YtioibllopidilaaDoorRt
import Derived.Test.YtioibllopidilaaDoorZf
namespace Go.Proofs.YtioibllopidilaaDoor
open Go.Shelf Go.RowKit
set_option maxRecDepth 100000

theorem set_block {w : World} {B : Nat} {cs : Array Value} {t : TypeId} {fr : Nat × Nat} (h : w.heap[B]? = some (.cells cs t fr)) (i : Nat) (v : Value) : (w.setCell ⟨B, i, none⟩ v).heap[B]? = some (.cells (cs.setIfInBounds i v) t fr) := by
  have hlt := lt_of_block h
  have h' : w.heap[B] = .cells cs t fr := by simpa [Array.getElem?_eq_getElem hlt] using h
  show (w.heap.modify B _)[B]? = _
  rw [Array.getElem?_eq_getElem (by simpa using hlt), Array.getElem_modify_self, h']
  rfl

def rawA (v : Int) (i k : Nat) : Int := if i < k then v / 256 ^ i % 256 else 0
def rawK (v : Int) (k : Nat) : List Int := [rawA v 7 k, rawA v 6 k, rawA v 5 k, rawA v 4 k, rawA v 3 k, rawA v 2 k, rawA v 1 k, rawA v 0 k]
/-- A number in eight bytes, the highest first. -/
def rawL (v : Int) : List Int := rawK v 8
theorem rawL_len (v : Int) : (rawL v).length = 8 := rfl
theorem rawL_byte (v : Int) : ∀ x ∈ rawL v, 0 ≤ x ∧ x < 256 := by
  intro x hx
  simp only [rawL, rawK, rawA, List.mem_cons, List.not_mem_nil, or_false] at hx
  have h := fun i : Nat => Int.emod_nonneg (v / 256 ^ i) (by decide : (256 : Int) ≠ 0)
  have h2 := fun i : Nat => Int.emod_lt_of_pos (v / 256 ^ i) (by decide : (0 : Int) < 256)
  rcases hx with h | h | h | h | h | h | h | h <;> subst h <;> (split; exact ⟨by apply Int.emod_nonneg; decide, by apply Int.emod_lt_of_pos; decide⟩; omega)

theorem wrap_u8 (x : Int) : IntKind.u8.wrap x = x % 256 := by simp [IntKind.wrap, IntKind.bits, IntKind.signed]

theorem eight {l : List Value} (h : l.length = 8) : ∃ x : Nat → Value, l = [x 7, x 6, x 5, x 4, x 3, x 2, x 1, x 0] := by
  match l, h with
  | [a7, a6, a5, a4, a3, a2, a1, a0], _ => exact ⟨fun i => [a0, a1, a2, a3, a4, a5, a6, a7].getD i a0, rfl⟩
set_option maxHeartbeats 2000000 in
theorem raw_any (v : Int) (h0 : 0 ≤ v) (h1 : v < 18446744073709551616) (w : World) :
    Calls Tryd.prog 30 #[.int .u64 v] w fun e w' => e = .returned (.slice (some ⟨w.heap.size, 0, none⟩) 8 8) ∧ RowAt w' w.heap.size (rawL v) ∧ Below w.heap.size w w' := by
  obtain ⟨i0, hi, hz0, hz1, hz2⟩ := info_parts Tryd.info5
  go_enter Tryd.func30, Tryd.ntmps30
  go_wp2_with (at_make; refine wpList_make_full _ rfl (.const (.int .i64 8)) (.const (.int .i64 8)) 42 rfl w.heap.size 5 i0 (.int .u8 0) 1 Tryd.underlying42 hi hz0 hz1 .i64 .i64 8 8 8 rfl rfl rfl rfl (by rw [hz2]; omega) (by unfold maxLen; omega) (Nat.le_refl _) ?_)
  intro w1 hown hgrow
  obtain ⟨cur, hcur, hcz⟩ : ∃ cur : List Value, w1.heap[w.heap.size]? = some (.cells cur.toArray 5 (0, 0)) ∧ cur.length = 8 := by
    rcases hown.2 with ⟨e, _⟩ | ⟨g, cap', cur, e, _, hg, _, _, hs, _⟩
    · simp at e
    · simp at e
      obtain ⟨rfl, rfl⟩ := e
      exact ⟨cur.toList, by simpa using hg, by simpa using hs⟩
  have hb1 : Below w.heap.size w w1 := (Below.refl _ _).grown hgrow (Nat.le_refl _) (by intro k hk; cases hk)
  obtain ⟨x0, rfl⟩ := eight hcz
  clear hown hgrow hcz
  go_wp2
  go_loopw [8] (fun a wr => ∃ (k : Nat) (x : Nat → Value), a = .int .i64 k ∧ k ≤ 8 ∧ wr.heap[w.heap.size]? = some (.cells #[x 7, x 6, x 5, x 4, x 3, x 2, x 1, x 0] 5 (0, 0)) ∧ (∀ i, i < k → x i = .int .u8 (v / 256 ^ i % 256)) ∧ Below w.heap.size w wr) (fun a _ => 8 - (intOf a).toNat)
  case atStart => exact ⟨0, x0, rfl, by omega, hcur, (fun i hi => by omega), hb1⟩
  case round =>
    obtain ⟨k, x, rfl, hk, hblk, hx, hb⟩ := hrel
    clear hcur hb1
    have HX : Hid (∀ i, i < k → x i = .int .u8 (v / 256 ^ i % 256)) := hx
    clear hx
    have hfr : ∀ j, wr.frozen? ⟨w.heap.size, j, none⟩ = false := fun j => by simp [World.frozen?, hblk]
    have hsb := fun (j : Nat) (u : Value) => set_block hblk j u
    have hbs := fun (j : Nat) (u : Value) => hb.setCell (p := ⟨w.heap.size, j, none⟩) (Nat.le_refl _) u
    have FI : ∀ y : Value, y = .int .u8 (v / 256 ^ k % 256) → ∀ i, i < k + 1 → (fun i => if i = k then y else x i) i = .int .u8 (v / 256 ^ i % 256) := by
      intro y hy i hi
      by_cases e : i = k
      · subst e; simp [hy]
      · simp only [e, if_false]; exact HX.out i (by omega)
    rcases (by omega : k = 8 ∨ k = 0 ∨ k = 1 ∨ k = 2 ∨ k = 3 ∨ k = 4 ∨ k = 5 ∨ k = 6 ∨ k = 7) with rfl | hk7
    · have FIN : RowAt wr w.heap.size (rawL v) := by
        unfold RowAt
        rw [hblk, HX.out 7 (by omega), HX.out 6 (by omega), HX.out 5 (by omega), HX.out 4 (by omega), HX.out 3 (by omega), HX.out 2 (by omega), HX.out 1 (by omega), HX.out 0 (by omega)]
        rfl
      clear hsb hbs FI hfr
      go_wp2
      go_ret
      exact ⟨rfl, FIN, hb⟩
    · rcases hk7 with rfl | rfl | rfl | rfl | rfl | rfl | rfl | rfl
      · have hu : wr.cell? ⟨w.heap.size, 7, none⟩ = some (x 0) := by simp [World.cell?, hblk]
        have f1 := hfr 7
        have S1 := hsb 7 (.int .u8 (v / 256 ^ 0 % 256))
        have S2 := hbs 7 (.int .u8 (v / 256 ^ 0 % 256))
        simp at S1 S2
        clear hsb hbs hfr
        go_wp2
        go_roundw
        case rel => exact ⟨1, fun i => if i = 0 then .int .u8 (v / 256 ^ 0 % 256) else x i, rfl, by omega, by simpa using S1, FI _ rfl, by simpa using S2⟩
        case measure => simp [intOf]
      · have hu : wr.cell? ⟨w.heap.size, 6, none⟩ = some (x 1) := by simp [World.cell?, hblk]
        have f1 := hfr 6
        have S1 := hsb 6 (.int .u8 (v / 256 ^ 1 % 256))
        have S2 := hbs 6 (.int .u8 (v / 256 ^ 1 % 256))
        simp at S1 S2
        clear hsb hbs hfr
        go_wp2
        go_roundw
        case rel => exact ⟨2, fun i => if i = 1 then .int .u8 (v / 256 ^ 1 % 256) else x i, rfl, by omega, by simpa using S1, FI _ rfl, by simpa using S2⟩
        case measure => simp [intOf]
      · have hu : wr.cell? ⟨w.heap.size, 5, none⟩ = some (x 2) := by simp [World.cell?, hblk]
        have f1 := hfr 5
        have S1 := hsb 5 (.int .u8 (v / 256 ^ 2 % 256))
        have S2 := hbs 5 (.int .u8 (v / 256 ^ 2 % 256))
        simp at S1 S2
        clear hsb hbs hfr
        go_wp2
        go_roundw
        case rel => exact ⟨3, fun i => if i = 2 then .int .u8 (v / 256 ^ 2 % 256) else x i, rfl, by omega, by simpa using S1, FI _ rfl, by simpa using S2⟩
        case measure => simp [intOf]
      · have hu : wr.cell? ⟨w.heap.size, 4, none⟩ = some (x 3) := by simp [World.cell?, hblk]
        have f1 := hfr 4
        have S1 := hsb 4 (.int .u8 (v / 256 ^ 3 % 256))
        have S2 := hbs 4 (.int .u8 (v / 256 ^ 3 % 256))
        simp at S1 S2
        clear hsb hbs hfr
        go_wp2
        go_roundw
        case rel => exact ⟨4, fun i => if i = 3 then .int .u8 (v / 256 ^ 3 % 256) else x i, rfl, by omega, by simpa using S1, FI _ rfl, by simpa using S2⟩
        case measure => simp [intOf]
      · have hu : wr.cell? ⟨w.heap.size, 3, none⟩ = some (x 4) := by simp [World.cell?, hblk]
        have f1 := hfr 3
        have S1 := hsb 3 (.int .u8 (v / 256 ^ 4 % 256))
        have S2 := hbs 3 (.int .u8 (v / 256 ^ 4 % 256))
        simp at S1 S2
        clear hsb hbs hfr
        go_wp2
        go_roundw
        case rel => exact ⟨5, fun i => if i = 4 then .int .u8 (v / 256 ^ 4 % 256) else x i, rfl, by omega, by simpa using S1, FI _ rfl, by simpa using S2⟩
        case measure => simp [intOf]
      · have hu : wr.cell? ⟨w.heap.size, 2, none⟩ = some (x 5) := by simp [World.cell?, hblk]
        have f1 := hfr 2
        have S1 := hsb 2 (.int .u8 (v / 256 ^ 5 % 256))
        have S2 := hbs 2 (.int .u8 (v / 256 ^ 5 % 256))
        simp at S1 S2
        clear hsb hbs hfr
        go_wp2
        go_roundw
        case rel => exact ⟨6, fun i => if i = 5 then .int .u8 (v / 256 ^ 5 % 256) else x i, rfl, by omega, by simpa using S1, FI _ rfl, by simpa using S2⟩
        case measure => simp [intOf]
      · have hu : wr.cell? ⟨w.heap.size, 1, none⟩ = some (x 6) := by simp [World.cell?, hblk]
        have f1 := hfr 1
        have S1 := hsb 1 (.int .u8 (v / 256 ^ 6 % 256))
        have S2 := hbs 1 (.int .u8 (v / 256 ^ 6 % 256))
        simp at S1 S2
        clear hsb hbs hfr
        go_wp2
        go_roundw
        case rel => exact ⟨7, fun i => if i = 6 then .int .u8 (v / 256 ^ 6 % 256) else x i, rfl, by omega, by simpa using S1, FI _ rfl, by simpa using S2⟩
        case measure => simp [intOf]
      · have hu : wr.cell? ⟨w.heap.size, 0, none⟩ = some (x 7) := by simp [World.cell?, hblk]
        have f1 := hfr 0
        have S1 := hsb 0 (.int .u8 (v / 72057594037927936))
        have S2 := hbs 0 (.int .u8 (v / 72057594037927936))
        simp at S1 S2
        clear hsb hbs hfr
        go_wp2
        go_roundw
        case rel => exact ⟨8, fun i => if i = 7 then .int .u8 (v / 72057594037927936) else x i, rfl, by omega, by simpa using S1, FI _ (by rw [show (v / 256 ^ 7 % 256 : Int) = v / 72057594037927936 by omega]), by simpa using S2⟩
        case measure => simp [intOf]

/-- What a Writer's call may change: the Writer, and rows of bytes behind it. -/
structure Wch (B : Nat) (w w' : World) : Prop where
  below : Below B w w'
  other : ∀ (k : Nat) (cs : Array Value) (t : TypeId) (fz : Nat × Nat), w.heap[k]? = some (.cells cs t fz) → t ≠ 5 → k ≠ B → w'.heap[k]? = some (.cells cs t fz)
theorem Wch.refl (B : Nat) (w : World) : Wch B w w := ⟨Below.refl _ _, fun _ _ _ _ h _ _ => h⟩
theorem Wch.trans {B : Nat} {a b c : World} (h : Wch B a b) (k : Wch B b c) : Wch B a c :=
  ⟨h.below.trans k.below, fun i cs t fz hi ht hB => k.other i cs t fz (h.other i cs t fz hi ht hB) ht hB⟩
theorem Wch.ofBelow {B : Nat} {w w' : World} (h : Below w.heap.size w w') (hB : B ≤ w.heap.size) : Wch B w w' :=
  ⟨h.mono hB, fun k _ _ _ hk _ _ => (h.block k (lt_of_block hk)).trans hk⟩
/-- A Writer at block B that has laid these bytes, at most c of them. -/
structure WrC (w : World) (B : Nat) (L : List Int) (c : Nat) : Prop where
  row : ∃ v, IsW B w B v L
  cap : L.length ≤ c
theorem WrC.lt {w : World} {B : Nat} {L : List Int} {c : Nat} (h : WrC w B L c) : B < w.heap.size := by
  obtain ⟨v, hv⟩ := h.row; exact lt_of_block hv.block
theorem WrC.below {w w' : World} {B : Nat} {L : List Int} {c : Nat} (h : WrC w B L c) (hb : Below w.heap.size w w') : WrC w' B L c := by
  obtain ⟨v, hv⟩ := h.row; exact ⟨⟨v, hv.below hb⟩, h.cap⟩
theorem wch_of {w w' : World} {B : Nat} {v : Value} {L : List Int} (h : IsW B w B v L) (hu : Upd (fun k => k = B ∨ v.ownBlock = some k) w w') : Wch B w w' := by
  have hlt := lt_of_block h.block
  refine ⟨hu.below (Nat.le_of_lt hlt) (fun k hk hS => ?_), fun k cs t fz hk ht hB => (hu.block k (lt_of_block hk) (fun hS => ?_)).trans hk⟩
  · rcases hS with e | e
    · omega
    · rcases h.own.2 with ⟨e', _⟩ | ⟨g, cap, cur, e', hg, _⟩
      · rw [e'] at e; simp [Value.ownBlock] at e
      · rw [e'] at e; simp [Value.ownBlock] at e; omega
  · rcases hS with e | e
    · exact hB e
    · rcases h.own.2 with ⟨e', _⟩ | ⟨g, cap, cur, e', _, hg, _⟩
      · rw [e'] at e; simp [Value.ownBlock] at e
      · rw [e'] at e; simp [Value.ownBlock] at e
        subst e
        rw [hk] at hg
        simp at hg
        exact ht hg.2.1
theorem wnew_any (w : World) :
    Calls Tryd.prog 28 #[] w fun e w' => e = .returned (.pointer (some ⟨w.heap.size, 0, none⟩)) ∧ WrC w' w.heap.size [] 0 ∧ Below w.heap.size w w' :=
  (newWriter_any w.heap.size w).mono fun _ w' ⟨he, hW, hw⟩ => ⟨he, ⟨⟨_, hW⟩, Nat.le_refl _⟩, by rw [hw]; exact (Below.refl _ _).alloc (Nat.le_refl _) _⟩
theorem wuint_any (B : Nat) (L : List Int) (c : Nat) (u : Int) (h0 : 0 ≤ u) (h1 : u < 18446744073709551616) (w : World) (h : WrC w B L c) (hc : c ≤ 100000) :
    Calls Tryd.prog 31 #[.pointer (some ⟨B, 0, none⟩), .int .u64 u] w fun e w' => e = .returned (.tuple #[]) ∧ WrC w' B (L ++ encN u.toNat) (c + 10) ∧ Wch B w w' := by
  obtain ⟨v, hv⟩ := h.row
  have hcap := h.cap
  obtain ⟨n, rfl⟩ := Int.eq_ofNat_of_zero_le h0
  have hl := encN_len10 n (by omega)
  refine (uint_any B B v L n (by omega) w hv (Nat.le_of_lt h.lt) (by omega)).mono ?_
  rintro e w' ⟨rfl, v', hv', hu, _⟩
  exact ⟨rfl, ⟨⟨v', hv'⟩, by simp; omega⟩, wch_of hv hu⟩
theorem wint_any (B : Nat) (L : List Int) (c : Nat) (x : Int) (h0 : -9223372036854775808 ≤ x) (h1 : x ≤ 9223372036854775807) (w : World) (h : WrC w B L c) (hc : c ≤ 100000) :
    Calls Tryd.prog 54 #[.pointer (some ⟨B, 0, none⟩), .int .i64 x] w fun e w' => e = .returned (.tuple #[]) ∧ WrC w' B (L ++ encN (zigI x).toNat) (c + 10) ∧ Wch B w w' := by
  obtain ⟨v, hv⟩ := h.row
  have hcap := h.cap
  have hz0 := zig_lo x
  have hz1 := zig_hi x h0 h1
  have hl := encN_len10 (zigI x).toNat (by omega)
  refine (int_any B B v L x h0 h1 w hv (Nat.le_of_lt h.lt) (by omega)).mono ?_
  rintro e w' ⟨rfl, v', hv', hu, _⟩
  exact ⟨rfl, ⟨⟨v', hv'⟩, by simp; omega⟩, wch_of hv hu⟩
theorem wtext_any (B : Nat) (L : List Int) (c : Nat) (s : ByteArray) (hs : s.size ≤ 200) (w : World) (h : WrC w B L c) (hc : c ≤ 100000) :
    Calls Tryd.prog 32 #[.pointer (some ⟨B, 0, none⟩), .string s] w fun e w' => e = .returned (.tuple #[]) ∧ WrC w' B (L ++ (encN s.size ++ bytesI s)) (c + 210) ∧ Wch B w w' := by
  obtain ⟨v, hv⟩ := h.row
  have hcap := h.cap
  have hl := encN_len10 s.size (by omega)
  have hl2 := bytesI_length s
  refine (text_any B B v L s (by unfold maxLen; omega) w hv (Nat.le_of_lt h.lt) (by omega)).mono ?_
  rintro e w' ⟨rfl, v', hv', hu, _⟩
  rw [List.append_assoc] at hv'
  exact ⟨rfl, ⟨⟨v', hv'⟩, by simp; omega⟩, wch_of hv hu⟩
theorem wraw8_any (B : Nat) (L : List Int) (c : Nat) (ad : Option Addr) (x : Int) (w : World) (h : WrC w B L c) (hc : c ≤ 100000) (hK : Holds w ad 8 (rawL x)) :
    Calls Tryd.prog 29 #[.pointer (some ⟨B, 0, none⟩), .slice ad 8 8] w fun e w' => e = .returned (.tuple #[]) ∧ WrC w' B (L ++ rawL x) (c + 8) ∧ Wch B w w' := by
  obtain ⟨v, hv⟩ := h.row
  have hcap := h.cap
  refine (wraw_any B B v L ad 8 8 (rawL x) w hv (Nat.le_of_lt h.lt) hK (by omega)).mono ?_
  rintro e w' ⟨rfl, v', hv', hu, _⟩
  exact ⟨rfl, ⟨⟨v', hv'⟩, by simp [rawL_len]; omega⟩, wch_of hv hu⟩
end Go.Proofs.YtioibllopidilaaDoor
