/-
  Memory of bytes: what a slice holds, rows of their own; numbers of 32 bits.
-/
import Derived.Test.YtgoafinbaiepmaaGreatDoorProg
import Derived.Test.YtgoafinbaiepmaaGreatDoorMem
import Derived.Test.YtgoafinbaiepmaaGreatDoorFrCrc
import Derived.Laws.CopyOwn
import Derived.Laws.BitsAllLaws
import Derived.Deep.WholeRow
import Derived.BigQuiet
import Derived.WalkMore
namespace Go.Proofs.YtgoafinbaiepmaaGreatDoor.fr
open Go.RowKit
set_option maxRecDepth 100000
theorem Tryz.info5 : (Tryz.prog.info? 5).map (fun i => (i.zero, i.size, i.bytes)) = some (some (.int .u8 0), 1, 1) := by kernel_rfl

/-- The cells of a slice value hold these bytes. -/
structure Holds (w : World) (ad : Option Addr) (n : Nat) (K : List Int) : Prop where
  len : K.length = n
  cells : ∀ j u, (K.map (Value.int .u8))[j]? = some u → ∃ a, ad = some a ∧ w.cell? (a.add j) = some u

theorem Holds.ofRow {base : Nat} {w : World} {ad : Option Addr} {n cap : Nat} {K : List Int} (h : w.ownsRow base 5 1 (.slice ad n cap) K.length (K.map (Value.int .u8))) : Holds w ad n K := by
  rcases h.2 with ⟨e, hn⟩ | ⟨g, cap', cur, e, _⟩
  · simp at e
    obtain ⟨rfl, rfl, rfl⟩ := e
    have : K = [] := List.eq_nil_of_length_eq_zero hn
    subst this
    exact ⟨rfl, fun j u hj => by simp at hj⟩
  · simp at e
    obtain ⟨rfl, rfl, rfl⟩ := e
    exact ⟨rfl, fun j u hj => ⟨_, rfl, h.cells (g := g) rfl j u hj⟩⟩
theorem Holds.nil (w : World) : Holds w none 0 [] := ⟨rfl, fun j u hj => by simp at hj⟩

theorem u8_one (K : List Int) : ∀ u ∈ K.map (Value.int .u8), u.oneCell' = true := ints_oneCell _ _

theorem copy_src {w : World} {ad : Option Addr} {cs : List Value} (h : ∀ j u, cs[j]? = some u → ∃ a, ad = some a ∧ w.cell? (a.add j) = some u) (hp : 0 < cs.length) : ∃ a, ad = some a ∧ ∀ j u, cs[j]? = some u → w.cell? (a.add j) = some u := by
  obtain ⟨a, ha, _⟩ := h 0 cs[0] (by simp [hp])
  refine ⟨a, ha, fun j u hj => ?_⟩
  obtain ⟨a', ha', hc⟩ := h j u hj
  rw [ha] at ha'
  simp at ha'
  subst ha'
  exact hc
theorem row_shape {base : Nat} {w : World} {e : TypeId} {size n : Nat} {v : Value} {xs : List Value} (h : w.ownsRow base e size v n xs) : ∃ ao l c, v = .slice ao l c := by
  rcases h.2 with ⟨rfl, _⟩ | ⟨g, cap, cur, rfl, _⟩
  · exact ⟨_, _, _, rfl⟩
  · exact ⟨_, _, _, rfl⟩

/-- What is below stays. -/
theorem Holds.mono {w w' : World} {ad : Option Addr} {n : Nat} {K : List Int} (h : Holds w ad n K) (hc : ∀ a v, w.cell? a = some v → ad.map (·.block) = some a.block → w'.cell? a = some v) : Holds w' ad n K := by
  refine ⟨h.len, fun j u hj => ?_⟩
  obtain ⟨a, rfl, h2⟩ := h.cells j u hj
  exact ⟨a, rfl, hc _ _ h2 (by simp [Addr.add]; split <;> rfl)⟩
theorem cell_upd {S : Nat → Prop} {w w' : World} (hu : Upd S w w') {a : Addr} {v : Value} (h : w.cell? a = some v) (hS : ¬ S a.block) : w'.cell? a = some v := by
  have hlt := World.block_lt_of_cell? w a h
  have hb := hu.block a.block hlt hS
  unfold World.cell? at h ⊢
  rw [hb]; exact h
theorem Holds.upd {S : Nat → Prop} {w w' : World} {ad : Option Addr} {n : Nat} {K : List Int} (h : Holds w ad n K) (hu : Upd S w w') (hS : ∀ a, ad = some a → ¬ S a.block) : Holds w' ad n K :=
  h.mono fun a v hc e => cell_upd hu hc (by
    cases ad with
    | none => simp at e
    | some b => simp at e; rw [← e]; exact hS b rfl)
theorem Holds.below {w w' : World} {ad : Option Addr} {n : Nat} {K : List Int} (h : Holds w ad n K) (hb : Below w.heap.size w w') : Holds w' ad n K :=
  h.upd (Upd.ofBelow (S := fun _ => False) hb (fun k hk hk' => by omega)) (fun _ _ h => h)
/-- One byte of them. -/
theorem Holds.at {w : World} {a : Addr} {n : Nat} {K : List Int} (h : Holds w (some a) n K) (j : Nat) (hj : j < K.length) : w.cell? (a.add j) = some (.int .u8 (K.getD j 0)) := by
  obtain ⟨a', e, hc⟩ := h.cells j (.int .u8 (K.getD j 0)) (by simp [List.getD, hj])
  simp at e; subst e; exact hc
theorem Holds.some_of {w : World} {ad : Option Addr} {n : Nat} {K : List Int} (h : Holds w ad n K) (hj : 0 < K.length) : ∃ b o, ad = some ⟨b, o, none⟩ := by
  obtain ⟨a, e, hc⟩ := h.cells 0 (.int .u8 (K.getD 0 0)) (by simp [List.getD, hj])
  obtain ⟨b, o, s⟩ := a
  cases s with
  | none => exact ⟨b, o, e⟩
  | some sp =>
    exfalso
    simp [World.cell?, Addr.add] at hc
    split at hc <;> simp at hc
/-- A part of them. -/
theorem Holds.sub {w : World} {b o n : Nat} {K : List Int} (h : Holds w (some ⟨b, o, none⟩) n K) (i m : Nat) (hm : i + m ≤ n) : Holds w (some ⟨b, o + i, none⟩) m ((K.drop i).take m) := by
  have hl := h.len
  refine ⟨by simp; omega, fun j u hj => ⟨_, rfl, ?_⟩⟩
  have hj2 : j < m := by
    have := (List.getElem?_eq_some_iff.1 hj).1
    simp at this; omega
  have hk := h.at (i + j) (by omega)
  simp [hj2] at hj
  obtain ⟨x, hx, rfl⟩ := hj
  rw [Addr.add_lit] at hk ⊢
  rw [Nat.add_assoc, hk]
  simp [List.getD, hx]

/-- A row of bytes, whole. -/
def RowAt (w : World) (g : Nat) (K : List Int) : Prop := w.heap[g]? = some (.cells (K.map (Value.int .u8)).toArray 5 (0, 0))
theorem RowAt.cell {w : World} {g : Nat} {K : List Int} (h : RowAt w g K) (j : Nat) (hj : j < K.length) : w.cell? ⟨g, j, none⟩ = some (.int .u8 (K.getD j 0)) := by
  unfold RowAt at h
  simp [World.cell?, h, List.getD, hj]
theorem RowAt.upd {w w' : World} {g : Nat} {K : List Int} {S : Nat → Prop} (h : RowAt w g K) (hu : Upd S w w') (hS : ¬ S g) : RowAt w' g K := (hu.block g (lt_of_block h) hS).trans h
theorem RowAt.own {w : World} {g : Nat} {K : List Int} (h : RowAt w g K) (base : Nat) (hb : base ≤ g) (hl : K.length ≤ maxLen) : w.ownsRow base 5 1 (.slice (some ⟨g, 0, none⟩) K.length K.length) K.length (K.map (Value.int .u8)) :=
  ⟨by simp, Or.inr ⟨g, K.length, _, rfl, hb, h, Nat.le_refl _, hl, by simp, by rw [Nat.mul_one, List.take_of_length_le (by simp)]⟩⟩
theorem RowAt.holds {w : World} {g : Nat} {K : List Int} (h : RowAt w g K) : Holds w (some ⟨g, 0, none⟩) K.length K := by
  refine ⟨rfl, fun j u hj => ⟨_, rfl, ?_⟩⟩
  unfold RowAt at h
  rw [Addr.add_lit]
  simp only [World.cell?, Nat.zero_add, h]
  simpa using hj

/-- A string's bytes, as numbers. -/
def bytesI (s : ByteArray) : List Int := s.data.toList.map fun b => (b.toNat : Int)
theorem bytesI_length (s : ByteArray) : (bytesI s).length = s.size := by unfold bytesI; rw [List.length_map, Array.length_toList]; rfl
theorem bytesI_cells (s : ByteArray) : (bytesI s).map (Value.int .u8) = byteCells s := by unfold bytesI byteCells; rw [List.map_map]; rfl

/-- Numbers of 32 bits. -/
theorem xor32 (a b : BitVec 32) : bits .xor .u32 (a.toNat : Int) (b.toNat : Int) = ((a ^^^ b).toNat : Int) := by
  rw [u32_xor_nat _ _ a.isLt b.isLt, BitVec.toNat_xor]
theorem lt32 (a : BitVec 32) : (a.toNat : Int) < 4294967296 := by have := a.isLt; omega
/-- The table's entry of a number. -/
def tabN (i : Nat) : BitVec 32 := tabB (BitVec.ofNat 32 i)
/-- The table, its first k entries made. -/
def tabAt (k : Nat) : Array Value := ((List.range 256).map fun i => Value.int .u32 (if i < k then ((tabN i).toNat : Int) else 0)).toArray
theorem tabAt_size (k : Nat) : (tabAt k).size = 256 := by simp [tabAt]
theorem tabAt_zero : tabAt 0 = Array.replicate 256 (Value.int .u32 0) := by
  apply Array.ext
  · simp [tabAt]
  · intro i h1 h2; simp [tabAt]
theorem tabAt_set (k : Nat) : (tabAt k).setIfInBounds k (.int .u32 ((tabN k).toNat : Int)) = tabAt (k + 1) := by
  apply Array.ext
  · simp [tabAt]
  · intro i h1 h2
    have hi : i < 256 := by simpa [tabAt] using h2
    rw [Array.getElem_setIfInBounds (by simpa using h1)]
    simp only [tabAt]
    by_cases h : k = i
    · subst h; simp
    · rw [if_neg h]; simp
      by_cases h3 : i < k
      · simp [h3, show i < k + 1 by omega]
      · simp [h3, show ¬ i < k + 1 by omega]
theorem tabAt_one (k : Nat) : (tabAt k).all (·.oneCell') = true := by simp [tabAt, Value.oneCell']
theorem tabAt_get (i : Nat) (hi : i < 256) : (tabAt 256)[i]? = some (.int .u32 ((tabN i).toNat : Int)) := by simp [tabAt, hi]
end Go.Proofs.YtgoafinbaiepmaaGreatDoor.fr