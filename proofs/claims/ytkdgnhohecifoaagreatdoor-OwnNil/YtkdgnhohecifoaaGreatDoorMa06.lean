/-
  Merged by merge.py: Rt, Ze, Zi, Zv.
-/
import Derived.Test.YtkdgnhohecifoaaGreatDoorMa05
import Derived.Test.YtkdgnhohecifoaaGreatDoorMa04
import Derived.Shelf.Unicode.ValidAny
namespace Go.Proofs.YtkdgnhohecifoaaGreatDoor
open Go.Shelf Go.RowKit
set_option maxRecDepth 100000

theorem scan_val : ∀ (l : List Int) (s v v' s' : Nat), (∀ x ∈ l, 0 ≤ x ∧ x < 256) → s ≤ 10 → (s ≤ 9 → v < 128 ^ s) → scanN l s v = .ok v' s' → v' < 18446744073709551616 := by
  intro l
  induction l with
  | nil => intro s v v' s' _ _ _ h; unfold scanN at h; split at h <;> simp at h
  | cons x r ih =>
    intro s v v' s' hl hs hv h
    unfold scanN at h
    have hx := hl x (by simp)
    split at h
    · simp at h
    · rename_i h10
      have hv' := hv (by omega)
      split at h
      · split at h
        · simp at h
        · rename_i hx128 hb
          simp at h
          obtain ⟨rfl, _⟩ := h
          by_cases h8 : s ≤ 8
          · have hp := pow_le8 s h8
            have hm : x.toNat * 128 ^ s ≤ 127 * 128 ^ s := Nat.mul_le_mul_right _ (by omega)
            omega
          · have h9 : s = 9 := by omega
            subst h9
            have hx1 : x ≤ 1 := by
              by_cases hx1 : x ≤ 1
              · exact hx1
              · exact absurd (by simp [badLast]; omega) hb
            have hm : x.toNat * 128 ^ 9 ≤ 1 * 128 ^ 9 := Nat.mul_le_mul_right _ (by omega)
            omega
      · refine ih (s + 1) _ v' s' (fun y hy => hl y (by simp [hy])) (by omega) (fun h9 => ?_) h
        have hm : (x.toNat - 128) * 128 ^ s ≤ 127 * 128 ^ s := Nat.mul_le_mul_right _ (by omega)
        rw [Nat.pow_succ]; omega
end Go.Proofs.YtkdgnhohecifoaaGreatDoor

namespace Go.Proofs.YtkdgnhohecifoaaGreatDoor
open Go.Shelf Go.RowKit
set_option maxRecDepth 100000

theorem set_block {w : World} {B : Nat} {cs : Array Value} {t : TypeId} {fr : Nat × Nat} (h : w.heap[B]? = some (.cells cs t fr)) (i : Nat) (v : Value) : (w.setCell ⟨B, i, none⟩ v).heap[B]? = some (.cells (cs.setIfInBounds i v) t fr) := by
  have hlt := lt_of_block h
  have h' : w.heap[B] = .cells cs t fr := by simpa [Array.getElem?_eq_getElem hlt] using h
  show (w.heap.modify B _)[B]? = _
  rw [Array.getElem?_eq_getElem (by simpa using hlt), Array.getElem_modify_self, h']
  rfl

def rawA (v : Int) (i k : Nat) : Int := if i < k then v / 256 ^ i % 256 else 0
def rawK (v : Int) (k : Nat) : List Int := [rawA v 7 k, rawA v 6 k, rawA v 5 k, rawA v 4 k, rawA v 3 k, rawA v 2 k, rawA v 1 k, rawA v 0 k]
/-- A number in eight bytes, the highest first. -/
def rawL (v : Int) : List Int := rawK v 8
theorem rawL_len (v : Int) : (rawL v).length = 8 := rfl
theorem rawL_byte (v : Int) : ∀ x ∈ rawL v, 0 ≤ x ∧ x < 256 := by
  intro x hx
  simp only [rawL, rawK, rawA, List.mem_cons, List.not_mem_nil, or_false] at hx
  have h := fun i : Nat => Int.emod_nonneg (v / 256 ^ i) (by decide : (256 : Int) ≠ 0)
  have h2 := fun i : Nat => Int.emod_lt_of_pos (v / 256 ^ i) (by decide : (0 : Int) < 256)
  rcases hx with h | h | h | h | h | h | h | h <;> subst h <;> (split; exact ⟨by apply Int.emod_nonneg; decide, by apply Int.emod_lt_of_pos; decide⟩; omega)

theorem wrap_u8 (x : Int) : IntKind.u8.wrap x = x % 256 := by simp [IntKind.wrap, IntKind.bits, IntKind.signed]

theorem eight {l : List Value} (h : l.length = 8) : ∃ x : Nat → Value, l = [x 7, x 6, x 5, x 4, x 3, x 2, x 1, x 0] := by
  match l, h with
  | [a7, a6, a5, a4, a3, a2, a1, a0], _ => exact ⟨fun i => [a0, a1, a2, a3, a4, a5, a6, a7].getD i a0, rfl⟩
/-- What a Writer's call may change: the Writer, and rows of bytes behind it. -/
structure Wch (B : Nat) (w w' : World) : Prop where
  below : Below B w w'
  other : ∀ (k : Nat) (cs : Array Value) (t : TypeId) (fz : Nat × Nat), w.heap[k]? = some (.cells cs t fz) → t ≠ 5 → k ≠ B → w'.heap[k]? = some (.cells cs t fz)
theorem Wch.refl (B : Nat) (w : World) : Wch B w w := ⟨Below.refl _ _, fun _ _ _ _ h _ _ => h⟩
theorem Wch.trans {B : Nat} {a b c : World} (h : Wch B a b) (k : Wch B b c) : Wch B a c :=
  ⟨h.below.trans k.below, fun i cs t fz hi ht hB => k.other i cs t fz (h.other i cs t fz hi ht hB) ht hB⟩
theorem Wch.ofBelow {B : Nat} {w w' : World} (h : Below w.heap.size w w') (hB : B ≤ w.heap.size) : Wch B w w' :=
  ⟨h.mono hB, fun k _ _ _ hk _ _ => (h.block k (lt_of_block hk)).trans hk⟩
end Go.Proofs.YtkdgnhohecifoaaGreatDoor

namespace Go.Proofs.YtkdgnhohecifoaaGreatDoor
open Go.Shelf Go.RowKit
set_option maxRecDepth 100000

def textL (s : ByteArray) : List Int := encN s.size ++ bytesI s
def attrL (a : AttrD) : List Int := textL a.key ++ (encN a.kind.toNat ++ (textL a.text ++ encN (zigI a.num).toNat))
def eventL (a : EventD) : List Int := encN a.moment.toNat ++ textL a.name
def catL {α : Type} (f : α → List Int) : List α → List Int
  | [] => []
  | a :: r => f a ++ catL f r
theorem catL_snoc {α : Type} (f : α → List Int) (X : List α) (k : Nat) (hk : k < X.length) : catL f (X.take (k + 1)) = catL f (X.take k) ++ f X[k] := by
  induction X generalizing k with
  | nil => simp at hk
  | cons a r ih =>
    cases k with
    | zero => simp [catL]
    | succ k =>
      simp only [List.take_succ_cons, catL, List.getElem_cons_succ]
      rw [ih k (by simpa using hk), List.append_assoc]
theorem box_cells {w : World} {g : Nat} {cs : Array Value} {t : TypeId} (h : w.heap[g]? = some (.cells cs t (0, 0))) (j : Nat) {u : Value} (hu : cs[j]? = some u) : w.cell? ⟨g, j, none⟩ = some u := by
  simp [World.cell?, h, hu]

end Go.Proofs.YtkdgnhohecifoaaGreatDoor

namespace Go.Proofs.YtkdgnhohecifoaaGreatDoor
open Go.Shelf Go.RowKit
def lays196_ren : Go.Shelf.Ren := ⟨fun | 196 => 116 | 259 => 148 | n => n, fun | 0 => 0 | 3 => 3 | 4 => 4 | 5 => 5 | 9 => 9 | 12 => 12 | 46 => 134 | 53 => 25 | 119 => 223 | 138 => 225 | 139 => 226 | n => n, fun | 3 => 0 | 4 => 1 | n => n⟩
theorem lays196 : Go.Proofs.Lays.n196 Tryz.prog lays196_ren := {
  mixed := by kernel_rfl
  f196 := Tryz.func116.trans (congrArg some (by kernel_rfl))
  f259 := Tryz.func148.trans (congrArg some (by kernel_rfl))
  t0 := Tryz.underlying0
  a0 := Tryz.isAgg0
  z0 := Tryz.sizeOf0
  v0 := Tryz.zeroValue0
  t3 := Tryz.underlying3
  a3 := Tryz.isAgg3
  z3 := Tryz.sizeOf3
  v3 := Tryz.zeroValue3
  t4 := Tryz.underlying4
  a4 := Tryz.isAgg4
  z4 := Tryz.sizeOf4
  v4 := Tryz.zeroValue4
  t5 := Tryz.underlying5
  a5 := Tryz.isAgg5
  z5 := Tryz.sizeOf5
  v5 := Tryz.zeroValue5
  t9 := Tryz.underlying9
  a9 := Tryz.isAgg9
  z9 := Tryz.sizeOf9
  v9 := Tryz.zeroValue9
  t12 := Tryz.underlying12
  a12 := Tryz.isAgg12
  z12 := Tryz.sizeOf12
  v12 := Tryz.zeroValue12
  t46 := Tryz.underlying134
  a46 := Tryz.isAgg134
  z46 := Tryz.sizeOf134
  v46 := Tryz.zeroValue134
  t53 := Tryz.underlying25
  a53 := Tryz.isAgg25
  z53 := Tryz.sizeOf25
  v53 := Tryz.zeroValue25
  t119 := Tryz.underlying223
  a119 := Tryz.isAgg223
  z119 := Tryz.sizeOf223
  t138 := Tryz.underlying225
  a138 := Tryz.isAgg225
  z138 := Tryz.sizeOf225
  v138 := Tryz.zeroValue225
  t139 := Tryz.underlying226
  a139 := Tryz.isAgg226
  z139 := Tryz.sizeOf226
  v139 := Tryz.zeroValue226
  g3 := by kernel_rfl
  g4 := by kernel_rfl }
theorem valid_any (s : ByteArray) (w : World) (hs : s.size ≤ 9223372036854775807) (hT : Tabs w) :
    Calls Tryz.prog 116 #[.string s] w fun e w' => e = .returned (.bool (Lib.validD s.data.toList)) ∧ Below w.heap.size w w' :=
  Any.utf8_ValidString lays196 s w hs hT
end Go.Proofs.YtkdgnhohecifoaaGreatDoor
