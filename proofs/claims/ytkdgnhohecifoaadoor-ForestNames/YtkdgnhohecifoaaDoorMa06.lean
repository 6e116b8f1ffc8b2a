/-
  Merged by merge.py: Rt, Ze, Zi, Zv.
-/
import Derived.Test.YtkdgnhohecifoaaDoorMa05
import Derived.Test.YtkdgnhohecifoaaDoorMa04
import Derived.Shelf.Unicode.ValidAny
namespace Go.Proofs.YtkdgnhohecifoaaDoor
open Go.Shelf Go.RowKit
set_option maxRecDepth 100000

theorem scan_val : ∀ (l : List Int) (s v v' s' : Nat), (∀ x ∈ l, 0 ≤ x ∧ x < 256) → s ≤ 10 → (s ≤ 9 → v < 128 ^ s) → scanN l s v = .ok v' s' → v' < 18446744073709551616 := by
  intro l
  induction l with
  | nil => intro s v v' s' _ _ _ h; unfold scanN at h; split at h <;> simp at h
  | cons x r ih =>
    intro s v v' s' hl hs hv h
    unfold scanN at h
    have hx := hl x (by simp)
    split at h
    · simp at h
    · rename_i h10
      have hv' := hv (by omega)
      split at h
      · split at h
        · simp at h
        · rename_i hx128 hb
          simp at h
          obtain ⟨rfl, _⟩ := h
          by_cases h8 : s ≤ 8
          · have hp := pow_le8 s h8
            have hm : x.toNat * 128 ^ s ≤ 127 * 128 ^ s := Nat.mul_le_mul_right _ (by omega)
            omega
          · have h9 : s = 9 := by omega
            subst h9
            have hx1 : x ≤ 1 := by
              by_cases hx1 : x ≤ 1
              · exact hx1
              · exact absurd (by simp [badLast]; omega) hb
            have hm : x.toNat * 128 ^ 9 ≤ 1 * 128 ^ 9 := Nat.mul_le_mul_right _ (by omega)
            omega
      · refine ih (s + 1) _ v' s' (fun y hy => hl y (by simp [hy])) (by omega) (fun h9 => ?_) h
        have hm : (x.toNat - 128) * 128 ^ s ≤ 127 * 128 ^ s := Nat.mul_le_mul_right _ (by omega)
        rw [Nat.pow_succ]; omega
end Go.Proofs.YtkdgnhohecifoaaDoor

namespace Go.Proofs.YtkdgnhohecifoaaDoor
open Go.Shelf Go.RowKit
set_option maxRecDepth 100000

theorem set_block {w : World} {B : Nat} {cs : Array Value} {t : TypeId} {fr : Nat × Nat} (h : w.heap[B]? = some (.cells cs t fr)) (i : Nat) (v : Value) : (w.setCell ⟨B, i, none⟩ v).heap[B]? = some (.cells (cs.setIfInBounds i v) t fr) := by
  have hlt := lt_of_block h
  have h' : w.heap[B] = .cells cs t fr := by simpa [Array.getElem?_eq_getElem hlt] using h
  show (w.heap.modify B _)[B]? = _
  rw [Array.getElem?_eq_getElem (by simpa using hlt), Array.getElem_modify_self, h']
  rfl

def rawA (v : Int) (i k : Nat) : Int := if i < k then v / 256 ^ i % 256 else 0
def rawK (v : Int) (k : Nat) : List Int := [rawA v 7 k, rawA v 6 k, rawA v 5 k, rawA v 4 k, rawA v 3 k, rawA v 2 k, rawA v 1 k, rawA v 0 k]
/-- A number in eight bytes, the highest first. -/
def rawL (v : Int) : List Int := rawK v 8
theorem rawL_len (v : Int) : (rawL v).length = 8 := rfl
theorem rawL_byte (v : Int) : ∀ x ∈ rawL v, 0 ≤ x ∧ x < 256 := by
  intro x hx
  simp only [rawL, rawK, rawA, List.mem_cons, List.not_mem_nil, or_false] at hx
  have h := fun i : Nat => Int.emod_nonneg (v / 256 ^ i) (by decide : (256 : Int) ≠ 0)
  have h2 := fun i : Nat => Int.emod_lt_of_pos (v / 256 ^ i) (by decide : (0 : Int) < 256)
  rcases hx with h | h | h | h | h | h | h | h <;> subst h <;> (split; exact ⟨by apply Int.emod_nonneg; decide, by apply Int.emod_lt_of_pos; decide⟩; omega)

theorem wrap_u8 (x : Int) : IntKind.u8.wrap x = x % 256 := by simp [IntKind.wrap, IntKind.bits, IntKind.signed]

theorem eight {l : List Value} (h : l.length = 8) : ∃ x : Nat → Value, l = [x 7, x 6, x 5, x 4, x 3, x 2, x 1, x 0] := by
  match l, h with
  | [a7, a6, a5, a4, a3, a2, a1, a0], _ => exact ⟨fun i => [a0, a1, a2, a3, a4, a5, a6, a7].getD i a0, rfl⟩
/-- What a Writer's call may change: the Writer, and rows of bytes behind it. -/
structure Wch (B : Nat) (w w' : World) : Prop where
  below : Below B w w'
  other : ∀ (k : Nat) (cs : Array Value) (t : TypeId) (fz : Nat × Nat), w.heap[k]? = some (.cells cs t fz) → t ≠ 5 → k ≠ B → w'.heap[k]? = some (.cells cs t fz)
theorem Wch.refl (B : Nat) (w : World) : Wch B w w := ⟨Below.refl _ _, fun _ _ _ _ h _ _ => h⟩
theorem Wch.trans {B : Nat} {a b c : World} (h : Wch B a b) (k : Wch B b c) : Wch B a c :=
  ⟨h.below.trans k.below, fun i cs t fz hi ht hB => k.other i cs t fz (h.other i cs t fz hi ht hB) ht hB⟩
theorem Wch.ofBelow {B : Nat} {w w' : World} (h : Below w.heap.size w w') (hB : B ≤ w.heap.size) : Wch B w w' :=
  ⟨h.mono hB, fun k _ _ _ hk _ _ => (h.block k (lt_of_block hk)).trans hk⟩
end Go.Proofs.YtkdgnhohecifoaaDoor

namespace Go.Proofs.YtkdgnhohecifoaaDoor
open Go.Shelf Go.RowKit
set_option maxRecDepth 100000

def textL (s : ByteArray) : List Int := encN s.size ++ bytesI s
def attrL (a : AttrD) : List Int := textL a.key ++ (encN a.kind.toNat ++ (textL a.text ++ encN (zigI a.num).toNat))
def eventL (a : EventD) : List Int := encN a.moment.toNat ++ textL a.name
def catL {α : Type} (f : α → List Int) : List α → List Int
  | [] => []
  | a :: r => f a ++ catL f r
theorem catL_snoc {α : Type} (f : α → List Int) (X : List α) (k : Nat) (hk : k < X.length) : catL f (X.take (k + 1)) = catL f (X.take k) ++ f X[k] := by
  induction X generalizing k with
  | nil => simp at hk
  | cons a r ih =>
    cases k with
    | zero => simp [catL]
    | succ k =>
      simp only [List.take_succ_cons, catL, List.getElem_cons_succ]
      rw [ih k (by simpa using hk), List.append_assoc]
theorem box_cells {w : World} {g : Nat} {cs : Array Value} {t : TypeId} (h : w.heap[g]? = some (.cells cs t (0, 0))) (j : Nat) {u : Value} (hu : cs[j]? = some u) : w.cell? ⟨g, j, none⟩ = some u := by
  simp [World.cell?, h, hu]

end Go.Proofs.YtkdgnhohecifoaaDoor

namespace Go.Proofs.YtkdgnhohecifoaaDoor
open Go.Shelf Go.RowKit
def lays196_ren : Go.Shelf.Ren := ⟨fun | 196 => 66 | 259 => 83 | n => n, fun | 0 => 0 | 3 => 3 | 4 => 4 | 5 => 5 | 9 => 9 | 12 => 12 | 46 => 92 | 53 => 27 | 119 => 139 | 138 => 141 | 139 => 142 | n => n, fun | 3 => 0 | 4 => 1 | n => n⟩
theorem lays196 : Go.Proofs.Lays.n196 Tryd.prog lays196_ren := {
  mixed := by kernel_rfl
  f196 := Tryd.func66.trans (congrArg some (by kernel_rfl))
  f259 := Tryd.func83.trans (congrArg some (by kernel_rfl))
  t0 := Tryd.underlying0
  a0 := Tryd.isAgg0
  z0 := Tryd.sizeOf0
  v0 := Tryd.zeroValue0
  t3 := Tryd.underlying3
  a3 := Tryd.isAgg3
  z3 := Tryd.sizeOf3
  v3 := Tryd.zeroValue3
  t4 := Tryd.underlying4
  a4 := Tryd.isAgg4
  z4 := Tryd.sizeOf4
  v4 := Tryd.zeroValue4
  t5 := Tryd.underlying5
  a5 := Tryd.isAgg5
  z5 := Tryd.sizeOf5
  v5 := Tryd.zeroValue5
  t9 := Tryd.underlying9
  a9 := Tryd.isAgg9
  z9 := Tryd.sizeOf9
  v9 := Tryd.zeroValue9
  t12 := Tryd.underlying12
  a12 := Tryd.isAgg12
  z12 := Tryd.sizeOf12
  v12 := Tryd.zeroValue12
  t46 := Tryd.underlying92
  a46 := Tryd.isAgg92
  z46 := Tryd.sizeOf92
  v46 := Tryd.zeroValue92
  t53 := Tryd.underlying27
  a53 := Tryd.isAgg27
  z53 := Tryd.sizeOf27
  v53 := Tryd.zeroValue27
  t119 := Tryd.underlying139
  a119 := Tryd.isAgg139
  z119 := Tryd.sizeOf139
  t138 := Tryd.underlying141
  a138 := Tryd.isAgg141
  z138 := Tryd.sizeOf141
  v138 := Tryd.zeroValue141
  t139 := Tryd.underlying142
  a139 := Tryd.isAgg142
  z139 := Tryd.sizeOf142
  v139 := Tryd.zeroValue142
  g3 := by kernel_rfl
  g4 := by kernel_rfl }
theorem valid_any (s : ByteArray) (w : World) (hs : s.size ≤ 9223372036854775807) (hT : Tabs w) :
    Calls Tryd.prog 66 #[.string s] w fun e w' => e = .returned (.bool (Lib.validD s.data.toList)) ∧ Below w.heap.size w w' :=
  Any.utf8_ValidString lays196 s w hs hT
end Go.Proofs.YtkdgnhohecifoaaDoor
