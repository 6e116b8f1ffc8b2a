/-
  Contracts of layer 6: a row of ends of one's own, sorted.
-/
import Derived.Test.YtakannfkbmnlfaaVf
namespace Go.Proofs.Ytakannfkbmnlfaa
open Go.Shelf Go.RowKit Go.Lib Go.Sort
set_option maxRecDepth 100000

theorem flat_get (l : List (Int × Int × Int)) (t : Nat) (ht : t < l.length * 3) : (l.flatMap enC)[t]? = some ((enC l.toArray[t / 3]!)[t % 3]!) := by
  have hi : t / 3 < l.length := by omega
  obtain ⟨a, b, c⟩ := enC_at l (t / 3) hi
  have e : l.toArray[t / 3]! = l[t / 3] := by simp [hi]
  rw [e]
  have h3 : t % 3 = 0 ∨ t % 3 = 1 ∨ t % 3 = 2 := by omega
  rcases h3 with h | h | h
  · have ht2 : t / 3 * 3 = t := by omega
    rw [ht2] at a; rw [h]; exact a
  · have ht2 : t / 3 * 3 + 1 = t := by omega
    rw [ht2] at b; rw [h]; exact b
  · have ht2 : t / 3 * 3 + 2 = t := by omega
    rw [ht2] at c; rw [h]; exact c
theorem OwnE.holdsK {base : Nat} {w : World} {g n cap : Nat} {l : List (Int × Int × Int)} (h : OwnE base w (.slice (some ⟨g, 0, none⟩) n cap) l) : HoldsK enC 3 w g 0 l.toArray := by
  intro t ht
  rw [size_flatK] at ht
  have ht' : t < l.length * 3 := by simpa using ht
  rw [get_flatK enC 3 l.toArray t ht]
  refine ⟨?_, own_free h rfl _⟩
  have := h.cells (g := g) rfl t _ (flat_get l t ht')
  rw [Addr.add_lit] at this
  exact this
theorem upd_sorted (w : World) (blk off n : Nat) (d : Array (Int × Int × Int)) (os : Array Obj) : Upd (fun k => k = blk) w (sortWorldK enC 3 w blk off n d os) := by
  unfold sortWorldK putRowK
  refine ⟨rfl, rfl, rfl, ?_, fun k hk hn => ?_⟩
  · rw [size_grow, size_putRow]; exact Nat.le_add_right _ _
  · show ((putRow id (Sort.ahead w n) blk off (flatK enC 3 d)).heap ++ os)[k]? = _
    rw [Array.getElem?_append_left (by rw [size_putRow]; exact hk)]
    show (w.heap.modify blk _)[k]? = _
    rw [Array.getElem?_modify, if_neg (fun e => hn e.symm)]
theorem perm_of_in {d d' : Array (Int × Int × Int)} (h : PermIn 0 d.size d d') : d.toList.Perm d'.toList := by
  obtain ⟨h1, _, h3⟩ := h
  have e1 : d.extract 0 d.size = d := by simp
  have e2 : d'.extract 0 d.size = d' := by rw [← h1]; simp
  rw [e1, e2] at h3
  exact h3.symm
theorem sorted_of_in {d d' : Array (Int × Int × Int)} (hs : d'.size = d.size) (h : SortedIn (ltOf cmpE) 0 d.size d') : d'.toList.Pairwise fun e f => e.1 ≤ f.1 := by
  rw [List.pairwise_iff_getElem]
  intro i j hi hj hij
  have := h i j (Nat.zero_le _) hij (by simpa [hs] using hj)
  rw [ltE] at this
  have a : d'[i]! = d'.toList[i] := by simp at hi; simp [hi]
  have b : d'[j]! = d'.toList[j] := by simp at hj; simp [hj]
  rw [a, b] at this
  simp at this
  simpa using this
theorem sort_own (base g n cap : Nat) (l : List (Int × Int × Int)) (w : World) (h : OwnE base w (.slice (some ⟨g, 0, none⟩) n cap) l) (hn : n < 4611686018427387904) :
    Calls Try.prog 38 #[.slice (some ⟨g, 0, none⟩) n cap, .func (.func 39) #[] #[]] w fun e w' => e = .returned (.tuple #[]) ∧ (∃ l' : List (Int × Int × Int), l.Perm l' ∧ l'.Pairwise (fun e f => e.1 ≤ f.1) ∧ EnAt w' (some ⟨g, 0, none⟩) n l') ∧ Upd (fun k => k = g) w w' := by
  have hl := (own_cap h).1
  have hK := h.holdsK
  obtain ⟨_, cs, fz, hb⟩ := own_block h (k := g) rfl
  have hg := lt_of_block hb
  have hz : l.toArray.size = n := by simp [hl]
  have S := sort_any g 0 cap l.toArray w hK hg (by rw [hz]; exact hn)
  rw [hz] at S
  refine S.mono ?_
  rintro e w' ⟨rfl, d', m, os, hp, hs, rfl⟩
  have hp' := hp
  rw [← hz] at hp' hs
  have hd : d'.size = l.toArray.size := hp'.1
  refine ⟨rfl, ⟨d'.toList, by simpa using perm_of_in hp', sorted_of_in hd hs, ?_⟩, upd_sorted w g 0 m d' os⟩
  have hH := holdsK_sortWorldK_c enC 3 w g 0 l.toArray d' m os hK hg hd
  refine ⟨by simp; omega, fun _ => ⟨g, 0, rfl, fun i hi => ?_⟩⟩
  have hi' : i < d'.size := by simpa using hi
  have e : d'[i]! = d'.toList[i] := by simp [hi']
  have c0 := (hH.cell hi' (show 0 < 3 by omega)).1
  have c1 := (hH.cell hi' (show 1 < 3 by omega)).1
  have c2 := (hH.cell hi' (show 2 < 3 by omega)).1
  rw [e] at c0 c1 c2
  exact ⟨c0, c1, c2⟩
end Go.Proofs.Ytakannfkbmnlfaa
