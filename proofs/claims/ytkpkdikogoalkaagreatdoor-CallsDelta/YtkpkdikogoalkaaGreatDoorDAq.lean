/-
  Merged: DA, DB.
-/
import Derived.Test.YtkpkdikogoalkaaGreatDoorCCq
import Derived.Test.YtkpkdikogoalkaaGreatDoorCEq
import Derived.Test.YtkpkdikogoalkaaGreatDoorCKq
import Derived.Test.YtkpkdikogoalkaaGreatDoorCUq
namespace Go.Proofs.YtkpkdikogoalkaaGreatDoor.sk
open Go Go.RowKit
set_option maxRecDepth 100000

/-- A tally in a block, with its bars. -/
structure SumAt (w : World) (tb B n e k : Nat) (f : Nat → Nat) : Prop where
  ex : ∃ ta tn tc, Blk w tb (talL (hi64 n) (lo64 n) (hi64 e) (lo64 e) (hi64 k) (lo64 k) ta tn tc).toArray 39 ∧ SkAt w ta tn f ∧ ∀ a, ta = some a → B ≤ a.block
theorem SumAt.of {w : World} {tb B n e k : Nat} {f : Nat → Nat} {z0 z1 z2 z3 z4 z5 : Int} {ta : Option Addr} {tn tc : Nat} (h0 : (hi64 n : Int) = z0) (h1 : (lo64 n : Int) = z1) (h2 : (hi64 e : Int) = z2) (h3 : (lo64 e : Int) = z3) (h4 : (hi64 k : Int) = z4) (h5 : (lo64 k : Int) = z5)
    (hb : Blk w tb (talL z0 z1 z2 z3 z4 z5 ta tn tc).toArray 39) (hs : SkAt w ta tn f) (hf : ∀ a, ta = some a → B ≤ a.block) : SumAt w tb B n e k f := by
  subst h0 h1 h2 h3 h4 h5
  exact ⟨ta, tn, tc, hb, hs, hf⟩
theorem took_top {x : Cal} (hx : 0 ≤ x.2.2.2.2 ∧ x.2.2.2.2 < 18446744073709551616) : tookN x ≤ top128 := by rw [top128_eq]; unfold tookN; omega
/-- How many calls a list may have. -/
theorem sumK_le {l : List Cal} (hX : ∀ c ∈ l, 0 ≤ c.2.2.2.2 ∧ c.2.2.2.2 < 18446744073709551616) : sumC tookN l ≤ l.length * 18446744073709551616 := sumC_le (fun c hc => by have := hX c hc; unfold tookN; omega)
theorem sum_bd {l : List Cal} (hX : ∀ c ∈ l, 0 ≤ c.2.2.2.2 ∧ c.2.2.2.2 < 18446744073709551616) (hl : l.length ≤ 9000000000000000000) : l.length ≤ top128 ∧ sumC failN l ≤ top128 ∧ sumC tookN l ≤ top128 := by
  have h1 := sumF_le l
  have h2 := sumK_le hX
  rw [top128_eq]
  omega
/-- A list's tally, and one call more. -/
theorem SumAt.more {w : World} {tb B B' : Nat} (hB : B ≤ B') {l : List Cal} {x : Cal} (hX : ∀ c ∈ l ++ [x], 0 ≤ c.2.2.2.2 ∧ c.2.2.2.2 < 18446744073709551616) (hl : l.length < 9000000000000000000) (h : SumAt w tb B' (addT l.length 1) (addT (sumC failN l) (failN x)) (addT (sumC tookN l) (tookN x)) (minF (histF l) (oneC x))) :
    SumAt w tb B (l ++ [x]).length (sumC failN (l ++ [x])) (sumC tookN (l ++ [x])) (histF (l ++ [x])) := by
  have h0 := sum_bd hX (by simp; omega)
  have e1 : addT l.length 1 = (l ++ [x]).length := by
    simp at h0 ⊢
    unfold addT
    omega
  have e2 : addT (sumC failN l) (failN x) = sumC failN (l ++ [x]) := by
    rw [sumC_append, sumC_cons, sumC_nil] at h0 ⊢
    unfold addT
    omega
  have e3 : addT (sumC tookN l) (tookN x) = sumC tookN (l ++ [x]) := by
    have h1 := h0.2.2
    rw [sumC_append, sumC_cons, sumC_nil] at h1 ⊢
    unfold addT
    omega
  rw [e1, e2, e3] at h
  obtain ⟨ta, tn, tc, hb, hs, hf⟩ := h.ex
  refine ⟨ta, tn, tc, hb, hs.congr (fun j => ?_) (fun i hi => ?_), fun a ha => Nat.le_trans hB (hf a ha)⟩
  · refine Nat.le_trans (histF_le _ j) ?_
    rw [topC_eq]
    simp
    omega
  · have e := sumC_append (fun c => oneC c i) l [x]
    have b := histF_le (l ++ [x]) i
    have c := topC_eq
    simp at b
    unfold histF at *
    rw [sumC_cons, sumC_nil] at e
    rw [e] at b ⊢
    simp only [minF]
    omega
/-- The tally of a list's calls, in a block. -/
def SumL (w : World) (tb B : Nat) (l : List Cal) : Prop := SumAt w tb B l.length (sumC failN l) (sumC tookN l) (histF l)
theorem histF_perm {l m : List Cal} (h : l.Perm m) : histF l = histF m := funext fun _ => sumC_perm _ h
theorem SumL.perm {w : World} {tb B : Nat} {l m : List Cal} (h : SumL w tb B l) (p : l.Perm m) : SumL w tb B m := by
  unfold SumL at *
  rw [p.length_eq, sumC_perm failN p, sumC_perm tookN p, histF_perm p] at h
  exact h
theorem SumAt.upd {S : Nat → Prop} {w w' : World} {tb B n e k : Nat} {f : Nat → Nat} (h : SumAt w tb B n e k f) (hu : Upd S w w') (h1 : ¬ S tb) (h2 : ∀ j, B ≤ j → ¬ S j) : SumAt w' tb B n e k f := by
  obtain ⟨ta, tn, tc, hb, hs, hf⟩ := h.ex
  exact ⟨ta, tn, tc, hb.upd hu h1, hs.upd hu (fun a ha => h2 _ (hf a ha)), hf⟩
theorem SumAt.below {w w' : World} {tb B n e k : Nat} {f : Nat → Nat} (h : SumAt w tb B n e k f) (hb : Below w.heap.size w w') : SumAt w' tb B n e k f :=
  h.upd (Upd.ofBelow (S := fun _ => False) hb (fun k hk hk' => by omega)) (fun h => h) (fun _ _ h => h)
theorem SumAt.weak {w : World} {tb B B' n e k : Nat} {f : Nat → Nat} (h : SumAt w tb B n e k f) (hB : B' ≤ B) : SumAt w tb B' n e k f := by
  obtain ⟨ta, tn, tc, hb, hs, hf⟩ := h.ex
  exact ⟨ta, tn, tc, hb, hs, fun a ha => Nat.le_trans hB (hf a ha)⟩
/-- A tally is laid into a new block. -/
theorem SumAt.put {w2 w3 : World} {o : Obj} {B n e k : Nat} {f : Nat → Nat} {z0 z1 z2 z3 z4 z5 : Int} {ta : Option Addr} {tn tc : Nat} (h0 : (hi64 n : Int) = z0) (h1 : (lo64 n : Int) = z1) (h2 : (hi64 e : Int) = z2) (h3 : (lo64 e : Int) = z3) (h4 : (hi64 k : Int) = z4) (h5 : (lo64 k : Int) = z5)
    (hk : SkAt w2 ta tn f ∧ ∀ a, ta = some a → B ≤ a.block) (n9 : Blk w3 w2.heap.size (talL z0 z1 z2 z3 z4 z5 ta tn tc).toArray 39) (u9 : Upd (fun j => j = w2.heap.size) (w2.alloc o) w3) : SumAt w3 w2.heap.size B n e k f ∧ Below w2.heap.size w2 w3 := by
  have hb : Below w2.heap.size w2 (w2.alloc o) := (Below.refl _ _).alloc (Nat.le_refl _) _
  refine ⟨SumAt.of h0 h1 h2 h3 h4 h5 n9 ((hk.1.below hb).upd u9 (fun a ha => ?_)) hk.2, hb.trans (u9.below hb.size (fun j hj h => by omega))⟩
  have := hk.1.at_.lt a ha
  omega
/-- A call is taken from a list's tally. -/
theorem SumL.less {w : World} {tb B : Nat} {x : Cal} {l : List Cal} (hl : l.length < 9000000000000000000) (h : SumAt w tb B ((x :: l).length - 1) (sumC failN (x :: l) - failN x) (sumC tookN (x :: l) - tookN x) (fun i => histF (x :: l) i - oneC x i)) : SumL w tb B l := by
  rw [sumC_cons, sumC_cons, Nat.add_sub_cancel_left, Nat.add_sub_cancel_left, List.length_cons, Nat.add_sub_cancel] at h
  obtain ⟨ta, tn, tc, hb, hs, hf⟩ := h.ex
  refine ⟨ta, tn, tc, hb, hs.congr (fun j => ?_) (fun i hi => ?_), hf⟩
  · refine Nat.le_trans (histF_le _ j) ?_
    rw [topC_eq]
    omega
  · rw [histF_cons]
    omega
/-- The tally of a list's calls. -/
def SumP (l : List Cal) (w : World) (e : Ending) (w' : World) : Prop := ∃ ta tn tc, e = .returned (.tuple #[talV l.length (sumC failN l) (sumC tookN l) ta tn tc, .bool true]) ∧ Hid (SkAt w' ta tn (histF l) ∧ ∀ a, ta = some a → w.heap.size ≤ a.block) ∧ Below w.heap.size w w'
end Go.Proofs.YtkpkdikogoalkaaGreatDoor.sk

namespace Go.Proofs.YtkpkdikogoalkaaGreatDoor.sk
open Go Go.RowKit
set_option maxRecDepth 100000

/-- The cells of a list of calls that is read. -/
theorem CalAt.src {w : World} {ad : Option Addr} {n : Nat} {l : List Cal} (h : CalAt w ad n l) (c : Nat) : Src Tryz.prog 5 22 (.slice ad n c) n (l.flatMap calL) w := by
  by_cases hn : 0 < n
  · obtain ⟨b, off, rfl, hc⟩ := h.lies hn
    refine Src.ofSlice _ Tryz.underlying22 _ n c _ (by rw [calF_len, h.len]) ?_ (calF_one l)
    intro j u hj
    have hjl : j < l.length * 5 := by
      rw [← calF_len]
      exact (List.getElem?_eq_some_iff.mp hj).1
    rw [Addr.add_lit]
    have e : j = j / 5 * 5 + j % 5 := by omega
    have h1 := calF_get l (j / 5) (by omega) (j % 5) (by omega)
    rw [← e, hj] at h1
    have h2 := hc (j / 5) (by omega) (j % 5) u h1.symm
    rw [Nat.add_assoc, ← e] at h2
    exact h2
  · obtain rfl : n = 0 := by omega
    obtain rfl : l = [] := List.eq_nil_of_length_eq_zero h.len
    cases ad with
    | none => exact Src.ofNil _ Tryz.underlying22 c
    | some a => exact Src.ofSlice _ Tryz.underlying22 a 0 c [] rfl (fun j u h => by simp at h) (fun u h => by cases h)
theorem ownFree {base : Nat} {w : World} {e : TypeId} {s g n cap m : Nat} {xs : List Value} (h : w.ownsRow base e s (.slice (some ⟨g, 0, none⟩) n cap) m xs) (j : Nat) : w.frozen? ⟨g, j, none⟩ = false := by
  rcases h.2 with ⟨e, _⟩ | ⟨g', cap', cur, e, _, hh, _⟩
  · cases e
  · injection e with e _ _
    injection e with e
    injection e with e
    subst e
    exact blk_free hh j
/-- A list's copy. -/
theorem wpList_app0 {ops : Array Oper} {rest : List Oper} {o : Oper} {a : Act} {Q : Exit → Act → World → Prop} (w : World) (hgd : o.guard = none) (s x : Operand)
    (ho : o.op = .call { callee := .builtin .append, args := #[s, x], argTypes := #[22, 22] })
    (ad : Option Addr) (n c : Nat) (l : List Cal) (hs : a.eval s = .slice (some ⟨w.heap.size, 0, none⟩) 0 0) (hx : a.eval x = .slice ad n c) (hA : CalAt w ad n l) (hz : n * 56 ≤ 140737488351232)
    (h : ∀ v' w', OwnCal w.heap.size w' v' l → Below w.heap.size w w' → wpList Tryz.prog ops Q rest (a.put o.dst v') w') : wpList Tryz.prog ops Q (o :: rest) a (w.alloc (.cells #[] 32)) := by
  obtain ⟨i0, hi0, hz0, hz1, hz2⟩ := info_parts Tryz.info32
  have hb : Below w.heap.size w (w.alloc (.cells #[] 32)) := (Below.refl _ _).alloc (Nat.le_refl _) _
  have OW : (w.alloc (.cells #[] 32)).ownsRow w.heap.size 32 5 (.slice (some ⟨w.heap.size, 0, none⟩) 0 0) 0 [] := ⟨rfl, Or.inr ⟨w.heap.size, 0, #[], rfl, Nat.le_refl _, heap_alloc_new w _, Nat.le_refl _, Nat.zero_le _, rfl, rfl⟩⟩
  refine wpList_appW _ hgd s x 22 22 ho w.heap.size 32 i0 _ 5 56 Tryz.underlying22 hi0 hz0 hz1 hz2 rfl _ 0 [] hs OW _ n _ hx ((hA.below hb).src c) (by unfold maxLen; omega) (by omega) (by simp) ?_
  intro v1 w1 o1 g1 m1
  refine h v1 w1 ?_ ?_
  · unfold OwnCal
    rw [hA.len]
    simpa using o1
  · exact (((Upd.refl (fun k => w.heap.size ≤ k) w).alloc (.cells #[] 32)).grown g1 (fun k hk e => by
      have : (Value.slice (some ⟨w.heap.size, 0, none⟩) 0 0).ownBlock = some k := e
      simp [Value.ownBlock] at this
      show w.heap.size ≤ k
      omega)).below (Nat.le_refl _) (fun k hk h => by omega)
/-- A row of calls that may be written. -/
structure RowC (base : Nat) (w : World) (ao : Option Addr) (n : Nat) (L : List Cal) : Prop where
  at_ : CalAt w ao n L
  low : ∀ a, ao = some a → a.spot = none ∧ base ≤ a.block
  room : 0 < n → ∃ g, ao = some ⟨g, 0, none⟩ ∧ w.there g 0 (n * 5)
theorem OwnCal.row {base : Nat} {w : World} {ao : Option Addr} {n c : Nat} {L : List Cal} (h : OwnCal base w (.slice ao n c) L) : RowC base w ao n L := by
  have ha := h.at
  refine ⟨ha, fun a e => ?_, fun hn => ?_⟩
  · subst e
    rcases h.2 with ⟨e, _⟩ | ⟨g, cap, cur, e, hg, _⟩
    · simp at e
    · simp at e
      obtain ⟨rfl, _⟩ := e
      exact ⟨rfl, hg⟩
  · have hl := ha.len
    obtain ⟨g, cap, e, _, _, _, hx⟩ := own_some h (by omega)
    simp at e
    obtain ⟨e, -, -⟩ := e
    subst e
    refine ⟨g, rfl, fun j hj => ⟨?_, ownFree h _⟩⟩
    have hjl : j < (L.flatMap calL).length := by rw [calF_len]; omega
    have := hx j (L.flatMap calL)[j] (List.getElem?_eq_getElem hjl)
    rw [Nat.zero_add, this]
    rfl
theorem there_upd {S : Nat → Prop} {w w' : World} {b o n : Nat} (h : w.there b o n) (hu : Upd S w w') (hS : ¬ S b) : w'.there b o n := fun j hj => by
  obtain ⟨h1, h2⟩ := h j hj
  obtain ⟨v, hv⟩ := Option.isSome_iff_exists.1 h1
  have hlt : b < w.heap.size := World.block_lt_of_cell? w _ hv
  have hb := hu.block b hlt hS
  refine ⟨by rw [cell_upd hu hv hS]; rfl, ?_⟩
  simp only [World.frozen?, hb] at h2 ⊢
  exact h2
theorem RowC.upd {S : Nat → Prop} {base : Nat} {w w' : World} {ao : Option Addr} {n : Nat} {L : List Cal} (h : RowC base w ao n L) (hu : Upd S w w') (hS : ∀ a, ao = some a → ¬ S a.block) : RowC base w' ao n L :=
  ⟨h.at_.upd hu hS, h.low, fun hn => by
    obtain ⟨g, e, ht⟩ := h.room hn
    exact ⟨g, e, there_upd ht hu (hS _ e)⟩⟩
theorem RowC.below {base : Nat} {w w' : World} {ao : Option Addr} {n : Nat} {L : List Cal} (h : RowC base w ao n L) (hb : Below w.heap.size w w') : RowC base w' ao n L :=
  h.upd (Upd.ofBelow (S := fun _ => False) hb (fun k hk hk' => by omega)) (fun _ _ h => h)
theorem RowC.range {base : Nat} {w : World} {g n : Nat} {L : List Cal} (h : RowC base w (some ⟨g, 0, none⟩) n L) (i : Nat) (hi : i < L.length) : w.rangeAt g (i * 5) (calL L[i]) := by
  have hl := h.at_.len
  obtain ⟨b, off, e, hr⟩ := h.at_.lies (by omega)
  simp at e
  obtain ⟨rfl, rfl⟩ := e
  have := hr i hi
  rw [Nat.zero_add] at this
  exact this
/-- A call is written into a row. -/
theorem wpList_stC {ops : Array Oper} {rest : List Oper} {op : Oper} {a : Act} {w : World} {Q : Exit → Act → World → Prop} (hgd : op.guard = none) (x y : Operand) (ho : op.op = .store 32 x y) (base g i n : Nat) (L : List Cal) (c : Cal) (hR : RowC base w (some ⟨g, 0, none⟩) n L) (hi : i < L.length) (hx : a.eval x = .pointer (some ⟨g, i * 5, none⟩)) (hy : a.eval y = .agg (calL c).toArray)
    (hK : ∀ w', RowC base w' (some ⟨g, 0, none⟩) n (L.set i c) → Upd (fun k => k = g) w w' → wpList Tryz.prog ops Q rest (a.put op.dst undef) w') : wpList Tryz.prog ops Q (op :: rest) a w := by
  have hln := hR.at_.len
  obtain ⟨g', e, ht⟩ := hR.room (by omega)
  simp at e
  subst e
  have ht5 : w.there g (i * 5) 5 := fun j hj => by
    have := ht (i * 5 + j) (by omega)
    rw [Nat.zero_add] at this
    exact this
  refine wpList_store_mid hgd 32 x y ho g (i * 5) (calL c).toArray hx hy (by rw [List.size_toArray, calL_len]; exact ht5) (by rw [List.size_toArray, calL_len]; kernel_rfl) (all_oneCell_toArray (calL_one c)) ?_
  refine hK _ ?_ (setCells_upd _ _ _ _)
  refine ⟨⟨by rw [List.length_set]; exact hln, fun hn => ⟨g, 0, rfl, fun j hj => ?_⟩, fun b hb => ?_⟩, hR.low, fun hn => ⟨g, rfl, World.there_setCells ht _ _ _⟩⟩
  · rw [List.length_set] at hj
    obtain ⟨b, off, e, hr⟩ := hR.at_.lies (by omega)
    simp at e
    obtain ⟨rfl, rfl⟩ := e
    by_cases hji : j = i
    · subst hji
      rw [List.getElem_set_self, Nat.zero_add]
      exact World.rangeAt_setCells_same w g (j * 5) (calL c) (by rw [calL_len]; exact ht5)
    · rw [List.getElem_set_ne (fun h => hji h.symm)]
      refine World.rangeAt_setCells_apart (hr j hj) g (i * 5) (calL c) (Or.inr ?_)
      rw [calL_len, calL_len]
      omega
  · exact Nat.lt_of_lt_of_le (hR.at_.lt b hb) (setCells_upd _ _ _ _).size
theorem cntC_set (x c : Cal) : ∀ (L : List Cal) (i : Nat) (h : i < L.length), cntC x (L.set i c) + (if L[i] = x then 1 else 0) = cntC x L + (if c = x then 1 else 0)
  | [], i, h => by simp at h
  | d :: L, 0, h => by
    rw [List.set_cons_zero, cntC_cons, cntC_cons, List.getElem_cons_zero]
    omega
  | d :: L, i + 1, h => by
    have := cntC_set x c L i (by simpa using h)
    rw [List.set_cons_succ, cntC_cons, cntC_cons, List.getElem_cons_succ]
    omega
theorem swap_perm (L : List Cal) (j k : Nat) (hj : j < L.length) (hk : k < L.length) : L.Perm ((L.set j L[k]).set k L[j]) := by
  refine cntC_perm.2 fun x => ?_
  have h1 := cntC_set x L[k] L j hj
  have h2 := cntC_set x L[j] (L.set j L[k]) k (by simpa using hk)
  have h3 : (L.set j L[k])[k]'(by simpa using hk) = L[k] := by
    rw [List.getElem_set]
    split <;> rfl
  rw [h3] at h2
  omega
end Go.Proofs.YtkpkdikogoalkaaGreatDoor.sk
