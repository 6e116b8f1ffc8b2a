/-
  Merged: CU, CV, CX, CY.
-/
import Derived.Test.YtbefeobikjnlpaaGreatDoorCHq
import Derived.Shelf.SlSortCmp.WholeK
import Derived.Shelf.SlSortCmp.NoneTotal
import Derived.Shelf.SlicesE.Clone
import Derived.Shelf.Lay
import Derived.Ground.SlsfProg
import Derived.Ground.SlgnProg
import Derived.Test.YtbefeobikjnlpaaGreatDoorCMq
namespace Go.Proofs.YtbefeobikjnlpaaGreatDoor.sk
open Go Go.Shelf Go.RowKit Go.Lib Go.Sort
set_option maxRecDepth 100000

theorem ltC (x y : Cal) : ltOf cmpC x y = decide (cmpC x y < 0) := by unfold ltOf; rfl
theorem swoC : SWO (ltOf cmpC) where
  irrefl x := by rw [ltC, (good_cmpC.eq x x).2 rfl]; rfl
  trans x y z h1 h2 := by
    rw [ltC] at *
    simp only [decide_eq_true_eq] at *
    have t := good_cmpC.trans x y z (by omega) (by omega)
    rcases Int.lt_or_eq_of_le t with h | h
    · exact h
    · have := (good_cmpC.eq x z).1 h
      subst this
      have := good_cmpC.anti x y
      omega
  ntrans x y z h1 h2 := by
    rw [ltC] at *
    simp only [decide_eq_false_iff_not, Int.not_lt] at *
    have a1 := good_cmpC.anti x y
    have a2 := good_cmpC.anti y z
    have a3 := good_cmpC.anti x z
    have t := good_cmpC.trans z y x (by omega) (by omega)
    omega
theorem flatC_get (l : List Cal) (t : Nat) (ht : t < l.length * 5) : (l.flatMap calL)[t]? = some ((calL l.toArray[t / 5]!)[t % 5]!) := by
  have hi : t / 5 < l.length := by omega
  have e : l.toArray[t / 5]! = l[t / 5] := by simp [hi]
  have := calF_get l (t / 5) hi (t % 5) (by omega)
  rw [show t / 5 * 5 + t % 5 = t by omega] at this
  rw [this, e]
  have hl : t % 5 < (calL l[t / 5]).length := by rw [calL_len]; omega
  simp [hl]
theorem OwnCal.free {base : Nat} {w : World} {g n cap : Nat} {l : List Cal} (h : OwnCal base w (.slice (some ⟨g, 0, none⟩) n cap) l) (j : Nat) : w.frozen? ⟨g, j, none⟩ = false := by
  rcases h.2 with ⟨e, _⟩ | ⟨g', cap', cur, e, _, hh, _⟩
  · simp at e
  · simp at e
    obtain ⟨rfl, _⟩ := e
    exact blk_free hh j
theorem OwnCal.holdsK {base : Nat} {w : World} {g n cap : Nat} {l : List Cal} (h : OwnCal base w (.slice (some ⟨g, 0, none⟩) n cap) l) : HoldsK calL 5 w g 0 l.toArray := by
  intro t ht
  rw [size_flatK] at ht
  have ht' : t < l.length * 5 := by simpa using ht
  rw [get_flatK calL 5 l.toArray t ht]
  refine ⟨?_, h.free _⟩
  have := World.ownsRow.cells h (g := g) rfl t _ (flatC_get l t ht')
  rw [Addr.add_lit] at this
  exact this
theorem upd_sortedC (w : World) (blk off n : Nat) (d : Array Cal) (os : Array Obj) : Upd (fun k => k = blk) w (sortWorldK calL 5 w blk off n d os) := by
  unfold sortWorldK putRowK
  refine ⟨rfl, rfl, rfl, ?_, fun k hk hn => ?_⟩
  · rw [size_grow, size_putRow]; exact Nat.le_add_right _ _
  · show ((putRow id (Sort.ahead w n) blk off (flatK calL 5 d)).heap ++ os)[k]? = _
    rw [Array.getElem?_append_left (by rw [size_putRow]; exact hk)]
    show (w.heap.modify blk _)[k]? = _
    rw [Array.getElem?_modify, if_neg (fun e => hn e.symm)]
theorem perm_inC {d d' : Array Cal} (h : PermIn 0 d.size d d') : d.toList.Perm d'.toList := by
  obtain ⟨h1, _, h3⟩ := h
  have e1 : d.extract 0 d.size = d := by simp
  have e2 : d'.extract 0 d.size = d' := by rw [← h1]; simp
  rw [e1, e2] at h3
  exact h3.symm
theorem sorted_inC {d d' : Array Cal} (hs : d'.size = d.size) (h : SortedIn (ltOf cmpC) 0 d.size d') : SortedC d'.toList := by
  unfold SortedC
  rw [List.pairwise_iff_getElem]
  intro i j hi hj hij
  have := h i j (Nat.zero_le _) hij (by simpa [hs] using hj)
  rw [ltC] at this
  have a : d'[i]! = d'.toList[i] := by simp at hi; simp [hi]
  have b : d'[j]! = d'.toList[j] := by simp at hj; simp [hj]
  rw [a, b] at this
  simp only [decide_eq_false_iff_not, Int.not_lt] at this
  have := good_cmpC.anti d'.toList[i] d'.toList[j]
  omega
end Go.Proofs.YtbefeobikjnlpaaGreatDoor.sk

namespace Go.Proofs.YtbefeobikjnlpaaGreatDoor.sk
open Go Go.RowKit
set_option maxRecDepth 100000

/-- What inOrder tells. -/
def OrdP (l : List Cal) (w : World) (e : Ending) (w' : World) : Prop := ∃ ao n c l', e = .returned (.slice ao n c) ∧ Hid (CalAt w' ao n l' ∧ l.Perm l' ∧ SortedC l') ∧ (n ≤ c ∧ c ≤ maxLen) ∧ Below w.heap.size w w'
end Go.Proofs.YtbefeobikjnlpaaGreatDoor.sk

namespace Go.Proofs.YtbefeobikjnlpaaGreatDoor.sk
open Go Go.RowKit
set_option maxRecDepth 100000

theorem range13C {w : World} {b : Nat} {c : List Value} {T : TypeId} (h : Blk w b c.toArray T) : w.rangeAt b 0 c := fun j v hv => by rw [Nat.zero_add]; exact h.cell j (by rw [List.getElem?_toArray]; exact hv)
def zCal : List Value := [.int .i64 0, .string ⟨#[]⟩, .string ⟨#[]⟩, .bool false, .int .u64 0]
theorem eq_cal (x y : Cal) (W : World) : (binOp .eql 68 (.agg (calL x).toArray) (.agg (calL y).toArray)).run Tryz.prog W = .ok (.bool (decide (x = y))) W := by
  obtain ⟨a, b, c, d, e⟩ := x
  obtain ⟨a', b', c', d', e'⟩ := y
  show (binOp .eql 68 (.agg #[.int .i64 a, .string b, .string c, .bool d, .int .u64 e]) (.agg #[.int .i64 a', .string b', .string c', .bool d', .int .u64 e'])).run Tryz.prog W = _
  rw [run_eqlS (eqI_call 9996 _ _ _ _ _ _ _ _ _ _ W)]
  congr 3
  simp only [Prod.mk.injEq]
/-- The rest of a list lies behind its first one. -/
theorem CalAt.tail {w : World} {b off m : Nat} {y : Cal} {D : List Cal} (h : CalAt w (some ⟨b, off, none⟩) m (y :: D)) : CalAt w (some ⟨b, off + 5, none⟩) (m - 1) D := by
  have hl := h.len
  simp at hl
  refine ⟨by omega, fun hp => ?_, fun a ha => by injection ha with ha; subst ha; exact h.lt ⟨b, off, none⟩ rfl⟩
  obtain ⟨b', off', e, hr⟩ := h.lies (by omega)
  injection e with e
  injection e with e1 e2
  subst e1
  subst e2
  refine ⟨b, off + 5, rfl, fun i hi => ?_⟩
  have := hr (i + 1) (by simp; omega)
  simp only [List.getElem_cons_succ] at this
  rwa [show off + (i + 1) * 5 = off + 5 + i * 5 by omega] at this
theorem CalAt.empty {w : World} {ao : Option Addr} (h : ∀ a, ao = some a → a.block < w.heap.size) : CalAt w ao 0 [] := ⟨rfl, (fun h => by omega), h⟩
theorem CalAt.head {w : World} {ao : Option Addr} {m : Nat} {y : Cal} {D : List Cal} (h : CalAt w ao m (y :: D)) : ∃ b off, ao = some ⟨b, off, none⟩ ∧ w.rangeAt b off (calL y) := by
  have hl := h.len
  simp at hl
  obtain ⟨b, off, e, hr⟩ := h.lies (by omega)
  have := hr 0 (by simp)
  simp at this
  exact ⟨b, off, e, this⟩
/-- A list that is read on: where its rest lies. -/
structure RestAt (base : Nat) (w : World) (v : Value) (D : List Cal) : Prop where
  ex : ∃ ao m c, v = .slice ao m c ∧ CalAt w ao m D ∧ m ≤ c ∧ c ≤ maxLen ∧ ∀ a, ao = some a → a.block < base
theorem RestAt.below {base : Nat} {w w' : World} {v : Value} {D : List Cal} (h : RestAt base w v D) (hb : Below w.heap.size w w') : RestAt base w' v D := by
  obtain ⟨ao, m, c, h1, h2, h3⟩ := h.ex
  exact ⟨ao, m, c, h1, h2.below hb, h3⟩
def slLen : Value → Nat
  | .slice _ n _ => n
  | _ => 0
/-- What without tells. -/
def WoP (A B : List Cal) (w : World) (e : Ending) (w' : World) : Prop := ∃ v, e = .returned v ∧ Hid (OwnCal w.heap.size w' v (woL A B)) ∧ Below w.heap.size w w'
end Go.Proofs.YtbefeobikjnlpaaGreatDoor.sk

namespace Go.Proofs.YtbefeobikjnlpaaGreatDoor.sk
open Go Go.RowKit
set_option maxRecDepth 100000

/-- What Delta tells: what the first list has more often, and what the second one has. -/
def DelP (a b : List Cal) (w : World) (e : Ending) (w' : World) : Prop := ∃ v u A B, e = .returned (.tuple #[v, u]) ∧ Hid (a.Perm A ∧ SortedC A ∧ b.Perm B ∧ SortedC B) ∧ Hid (OwnCal w.heap.size w' v (woL A B)) ∧ Hid (OwnCal w.heap.size w' u (woL B A)) ∧ Below w.heap.size w w'
end Go.Proofs.YtbefeobikjnlpaaGreatDoor.sk
