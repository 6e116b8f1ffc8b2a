/-
  A family of stops in memory: what their blocks hold, and how they stand to one another.
-/
import Derived.Test.YtmepapbbebddiaaRl
namespace Go.Proofs.Ytmepapbbebddiaa
open Go Go.Conc Go.RowKit Go.Shelf Go.MuLone

/-- What there is to a stop: the one above (while it lives), its row of those under it, how many of them are over; its reason, its budget. -/
structure Nd where
  up : Option Nat
  us : Value
  kids : List Nat
  ug : Nat
  why : Int
  left : Int
abbrev ptrO (o : Option Nat) : Value := .pointer (o.map fun b => ⟨b, 0, none⟩)
abbrev Nd.cells (d : Nd) (lk b : Nat) : Array Value := cells9 lk (ptrO d.up) d.us (d.ug : Int) (.slice none 0 0) 0 d.why d.left (b - 1)
/-- One that is over. -/
abbrev Nd.ended (d : Nd) (why : Int) : Nd := { up := none, us := .slice none 0 0, kids := [], ug := 0, why := why, left := d.left }
/-- The numbers, apart from memory. -/
structure Kin (n₀ : Nat) (S : List Nat) (N : Nat → Nd) (pg : Nat → Option Nat) : Prop where
  nodup : S.Nodup
  low : ∀ b ∈ S, n₀ + 1 ≤ b
  over : ∀ b ∈ S, (N b).why ≠ 0 → (N b).up = none ∧ (N b).kids = [] ∧ (N b).us = .slice none 0 0 ∧ (N b).ug = 0
  gone : ∀ b ∈ S, (N b).ug = ((N b).kids.filter (fun k => decide ((N k).why ≠ 0))).length
  kid : ∀ b ∈ S, ∀ k ∈ (N b).kids, k ∈ S ∧ b < k ∧ pg k = some b
  kidn : ∀ b ∈ S, (N b).kids.Nodup
  up : ∀ x ∈ S, (N x).why = 0 → (N x).up = pg x ∧ ∀ p, pg x = some p → p ∈ S ∧ (N p).why = 0 ∧ x ∈ (N p).kids
  pgl : ∀ x p, pg x = some p → p < x
  pgS : ∀ x p, pg x = some p → x ∈ S
structure Fam (w : World) (n₀ lk : Nat) (S : List Nat) (N : Nat → Nd) (pg : Nat → Option Nat) (q : Int) : Prop where
  kin : Kin n₀ S N pg
  lock : Blk w lk #[.int .i32 q, .int .u32 0] 94
  lkb : n₀ ≤ lk
  base : n₀ ≤ w.heap.size
  stop : ∀ b ∈ S, Blk w b ((N b).cells lk b) 85
  chan : ∀ b ∈ S, ChanAt w (b - 1) (decide ((N b).why ≠ 0))
  row : ∀ b ∈ S, w.ownsRow n₀ 46 1 (N b).us (N b).kids.length ((N b).kids.map ptrV)
  apart : ∀ b ∈ S, ∀ b' ∈ S, b ≠ b' → ∀ g, (N b).us.ownBlock = some g → (N b').us.ownBlock ≠ some g
/-- The family's blocks. -/
def Foot (lk : Nat) (S : List Nat) (N : Nat → Nd) (k : Nat) : Prop := k = lk ∨ k ∈ S ∨ k + 1 ∈ S ∨ ∃ b ∈ S, (N b).us.ownBlock = some k

/-- The kids of those that there are. -/
def kidsOf (S : List Nat) (N : Nat → Nd) (b : Nat) : List Nat := if b ∈ S then (N b).kids else []
/-- A stop and what lives beneath it. -/
def BRof (S : List Nat) (N : Nat → Nd) (D s : Nat) : List Nat := br (kidsOf S N) (fun b => decide ((N b).why = 0)) D s

theorem Fam.lt {w : World} {n₀ lk : Nat} {S : List Nat} {N : Nat → Nd} {pg : Nat → Option Nat} {q : Int} (h : Fam w n₀ lk S N pg q) {b : Nat} (hb : b ∈ S) : b < w.heap.size := (h.stop b hb).lt
theorem Fam.tree {w : World} {n₀ lk : Nat} {S : List Nat} {N : Nat → Nd} {pg : Nat → Option Nat} {q : Int} (h : Fam w n₀ lk S N pg q) : Tree (kidsOf S N) pg w.heap.size := by
  constructor
  · intro b k hk
    unfold kidsOf at hk
    split at hk
    · rename_i hb
      obtain ⟨h1, h2, h3⟩ := h.kin.kid b hb k hk
      exact ⟨h2, h.lt h1, h3⟩
    · cases hk
  · intro b
    unfold kidsOf
    split
    · rename_i hb
      exact h.kin.kidn b hb
    · exact List.nodup_nil
theorem kidsOf_mem {S : List Nat} {N : Nat → Nd} {b : Nat} (hb : b ∈ S) : kidsOf S N b = (N b).kids := by unfold kidsOf; rw [if_pos hb]

theorem RowIs.ofOwn' {W : World} {base : Nat} {e : TypeId} {v : Value} {ids : List Nat} (h : W.ownsRow base e 1 v ids.length (ids.map ptrV)) : RowIs W v (v.ownBlock.getD 0) ids := by
  rcases h.2 with ⟨rfl, h0⟩ | ⟨g, cap, cur, rfl, hb, hh, r⟩
  · exact Or.inl ⟨none, 0, rfl, List.eq_nil_of_length_eq_zero h0⟩
  · refine Or.inr ⟨cap, rfl, ?_⟩
    intro j hj
    have := h.cells (g := g) rfl j (ptrV (ids[j]?.getD 0)) (by simp [hj])
    rwa [Addr.add_lit, Nat.zero_add] at this

/-- branch, of a family. -/
theorem Fam.branch {w : World} {n₀ lk : Nat} {S : List Nat} {N : Nat → Nd} {pg : Nat → Option Nat} {q : Int} (h : Fam w n₀ lk S N pg q) {s : Nat} (hs : s ∈ S) (hn : S.length * 8 ≤ 140737488355328) :
    Calls Try.prog 58 #[ptrV s] w fun e w' => ∃ v, e = .returned v ∧ w'.ownsRow w.heap.size 46 1 v (BRof S N w.heap.size s).length ((BRof S N w.heap.size s).map ptrV) ∧ Below w.heap.size w w' := by
  refine branch_any S (fun b => (N b).us) (fun b => (N b).us.ownBlock.getD 0) (kidsOf S N) (fun b => (N b).why) pg s w h.tree h.kin.pgl hs ?_ ?_ hn
  · intro b hb
    have hB := h.stop b hb
    refine ⟨hB.cell 2 rfl, ?_, ?_, hB.cell 6 rfl⟩
    · rw [kidsOf_mem hb]
      exact RowIs.ofOwn' (h.row b hb)
    · cases ho : (N b).us.ownBlock with
      | none => have := hB.lt; simp; omega
      | some g => exact (ownsRow_base (h.row b hb) ho).2.1
  · intro b hb k hk
    rw [kidsOf_mem hb] at hk
    exact (h.kin.kid b hb k hk).1
theorem Fam.br {w : World} {n₀ lk : Nat} {S : List Nat} {N : Nat → Nd} {pg : Nat → Option Nat} {q : Int} (h : Fam w n₀ lk S N pg q) {s : Nat} (hs : s ∈ S) (hl : (N s).why = 0) :
    (BRof S N w.heap.size s).Nodup ∧ s ∈ BRof S N w.heap.size s ∧ ∀ x, x ∈ BRof S N w.heap.size s → x ∈ S ∧ s ≤ x ∧ (N x).why = 0 ∧ ∃ n, anc pg n x = some s := by
  refine ⟨br_nodup h.tree h.kin.pgl s (h.lt hs), ?_, ?_⟩
  · unfold BRof
    rw [br_eq h.tree (h.lt hs)]; simp
  · intro x hx
    obtain ⟨h1, h2, h3, n, h4⟩ := br_anc h.tree s (h.lt hs) x hx
    have hw : (N x).why = 0 := by
      rcases h3 with rfl | h3
      · exact hl
      · simpa using h3
    refine ⟨?_, h1, hw, n, h4⟩
    have key : ∀ b, b < w.heap.size → b ∈ S → ∀ x ∈ BRof S N w.heap.size b, x ∈ S := by
      refine Tree.induct (p := fun b => b ∈ S → ∀ x ∈ BRof S N w.heap.size b, x ∈ S) w.heap.size fun b hb ih hbS x hx => ?_
      unfold BRof at hx
      rw [br_eq h.tree hb] at hx
      rcases List.mem_cons.1 hx with rfl | hx
      · exact hbS
      · obtain ⟨k, hk, hxk⟩ := List.mem_flatMap.1 hx
        have hk1 := (List.mem_filter.1 hk).1
        obtain ⟨h1, h2, _⟩ := h.tree.up b k hk1
        rw [kidsOf_mem hbS] at hk1
        exact ih k h1 h2 (h.kin.kid b hbS k hk1).1 x hxk
    exact key s (h.lt hs) hs x hx

/-- What is asked of the blocks alone. -/
theorem ownsRow_heap {w w' : World} {base : Nat} {e : TypeId} {size : Nat} {v : Value} {n : Nat} {xs : List Value} (h : w.ownsRow base e size v n xs) (hk : ∀ g, v.ownBlock = some g → w'.heap[g]? = w.heap[g]?) : w'.ownsRow base e size v n xs := by
  obtain ⟨h1, h2⟩ := h
  refine ⟨h1, ?_⟩
  rcases h2 with h2 | ⟨g, cap, cur, rfl, hg, hh, r⟩
  · exact Or.inl h2
  · exact Or.inr ⟨g, cap, cur, rfl, hg, (hk g rfl).trans hh, r⟩
theorem Fam.keep {w w' : World} {n₀ lk : Nat} {S : List Nat} {N : Nat → Nd} {pg : Nat → Option Nat} {q : Int} (h : Fam w n₀ lk S N pg q) (hsz : w.heap.size ≤ w'.heap.size) (hk : ∀ k, Foot lk S N k → w'.heap[k]? = w.heap[k]?) : Fam w' n₀ lk S N pg q where
  kin := h.kin
  lock := h.lock.upd (hk lk (Or.inl rfl))
  lkb := h.lkb
  base := Nat.le_trans h.base hsz
  stop := fun b hb => (h.stop b hb).upd (hk b (Or.inr (Or.inl hb)))
  chan := fun b hb => by
    have hb1 := h.kin.low b hb
    have := h.chan b hb
    unfold ChanAt at this ⊢
    rw [hk (b - 1) (Or.inr (Or.inr (Or.inl (by rw [Nat.sub_add_cancel (by omega)]; exact hb))))]
    exact this
  row := fun b hb => ownsRow_heap (h.row b hb) (fun g hg => hk g (Or.inr (Or.inr (Or.inr ⟨b, hb, hg⟩))))
  apart := h.apart
theorem Foot.range {w : World} {n₀ lk : Nat} {S : List Nat} {N : Nat → Nd} {pg : Nat → Option Nat} {q : Int} (h : Fam w n₀ lk S N pg q) {k : Nat} (hk : Foot lk S N k) : n₀ ≤ k ∧ k < w.heap.size := by
  rcases hk with rfl | hk | hk | ⟨b, hb, hg⟩
  · exact ⟨h.lkb, h.lock.lt⟩
  · have := h.kin.low k hk
    exact ⟨by omega, h.lt hk⟩
  · have := h.kin.low _ hk
    have := h.lt hk
    exact ⟨by omega, by omega⟩
  · have := ownsRow_base (h.row b hb) hg
    exact ⟨this.1, this.2.1⟩
theorem Fam.alloc {w : World} {n₀ lk : Nat} {S : List Nat} {N : Nat → Nd} {pg : Nat → Option Nat} {q : Int} (h : Fam w n₀ lk S N pg q) (o : Obj) : Fam (w.alloc o) n₀ lk S N pg q :=
  h.keep (by simp) (fun k hk => Below.heap_alloc w o k (Foot.range h hk).2)
theorem Fam.heap {w w' : World} {n₀ lk : Nat} {S : List Nat} {N : Nat → Nd} {pg : Nat → Option Nat} {q : Int} (h : Fam w n₀ lk S N pg q) (e : w'.heap = w.heap) : Fam w' n₀ lk S N pg q :=
  h.keep (by rw [e]; exact Nat.le_refl _) (fun k _ => by rw [e])
theorem Fam.upd {w w' : World} {n₀ lk : Nat} {S : List Nat} {N : Nat → Nd} {pg : Nat → Option Nat} {q : Int} (h : Fam w n₀ lk S N pg q) {U : Nat → Prop} (hu : Upd U w w') (hU : ∀ k, Foot lk S N k → ¬ U k) : Fam w' n₀ lk S N pg q :=
  h.keep hu.size (fun k hk => hu.block k (Foot.range h hk).2 (hU k hk))
end Go.Proofs.Ytmepapbbebddiaa
