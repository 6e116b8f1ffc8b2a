/-
  RzK.
-/
import Derived.Test.YtiflfapdffkcbaaDoorRzJ
import Derived.Test.YtiflfapdffkcbaaDoorSK
import Derived.Test.YtiflfapdffkcbaaDoorSVq
namespace Go.Proofs.YtiflfapdffkcbaaDoor
open Go Go.RowKit Go.Maps Go.WideMaps
set_option maxRecDepth 100000

/-- A store within a law: all that is its own was laid since. -/
structure ChE (w W : World) (s : Nat) (S : Nat → Prop) (L : List Sp) : Prop where
  st : StQ W s S L
  base : ∀ k, S k → w.heap.size ≤ k
  low : Below w.heap.size w W
theorem ChE.below {w W W' : World} {s : Nat} {S : Nat → Prop} {L : List Sp} (h : ChE w W s S L) (hb : Below W.heap.size W W') : ChE w W' s S L :=
  ⟨h.st.below hb, h.base, h.low.trans (hb.mono h.low.size)⟩
theorem ChE.args {w W : World} {s : Nat} {S : Nat → Prop} {L : List Sp} (h : ChE w W s S L) {ad : Option Addr} {n : Nat} {Y : List Sp} {P : Nat → Pl} (hY : SpsAt w ad n Y P) : ∀ W', Upd S W W' → SpsAt W' ad n Y P := fun W' hu =>
  hY.below (h.low.trans (hu.below h.low.size (fun k hk hs => by have := h.base k hs; omega)))
theorem ChE.put {w W W' : World} {s : Nat} {S : Nat → Prop} {L Y : List Sp} {n : Nat} {e : Ending} (h : ChE w W s S L) (hp : PutP9 W s S L Y n e W') : ∃ S3 L3 v1 v2, e = .returned (.tuple #[v1, v2]) ∧ ChE w W' s S3 L3 := by
  rcases hp with ⟨_, rfl, h2, h3⟩ | ⟨_, r, rfl, h2, _, _, h5⟩
  · exact ⟨S, L, _, _, rfl, h2, h.base, h.low.trans (h3.mono h.low.size)⟩
  · refine ⟨_, _, _, _, rfl, h2, fun k hk => ?_, h.low.trans (h5.below h.low.size (fun k hk hs => by have := h.base k hs; omega))⟩
    rcases hk with q | q
    · exact h.base k q
    · exact Nat.le_trans h.low.size q.1
theorem ChE.putOk {w W W' : World} {s : Nat} {S : Nat → Prop} {L Y : List Sp} (h : ChE w W s S L) (h2 : StQ W' s (fun k => S k ∨ (W.heap.size ≤ k ∧ k < W'.heap.size)) (runP L Y).1) (h5 : Upd S W W') : ChE w W' s (fun k => S k ∨ (W.heap.size ≤ k ∧ k < W'.heap.size)) (runP L Y).1 := by
  refine ⟨h2, fun k hk => ?_, h.low.trans (h5.below h.low.size (fun k hk hs => by have := h.base k hs; omega))⟩
  rcases hk with q | q
  · exact h.base k q
  · exact Nat.le_trans h.low.size q.1
/-- Once more, the same list fits. -/
theorem fits_again {L Y : List Sp} (hL : Names L) (h : fitsL L Y = 0) : fitsL (runP L Y).1 Y = 0 := by
  have hlen := fits_few h
  have hnew : newL (runP L Y).1 Y = [] := by
    have hall : ∀ a ∈ Y, (findL (runP L Y).1 (nmS a)).isSome = true := fun a ha => by
      rw [run_eq]
      obtain ⟨z, hz, ez, _⟩ := fold_dom Y hL a (Or.inr ha)
      unfold findL
      rw [List.find?_isSome]
      exact ⟨z, hz, by rw [ez]; exact decide_eq_true rfl⟩
    have : ∀ (K L : List Sp), (∀ a ∈ K, (findL L (nmS a)).isSome = true) → K.foldl (newLS L) [] = [] := by
      intro K
      induction K with
      | nil => exact fun _ _ => rfl
      | cons a r ih =>
        intro L hk
        rw [List.foldl_cons]
        have h1 : newLS L [] a = [] := by
          unfold newLS
          rw [if_pos (hk a (by simp))]
        rw [h1]
        exact ih L (fun b hb => hk b (by simp [hb]))
    exact this Y _ hall
  unfold fitsL at h ⊢
  cases hf : Y.find? (fun a => decide (chkS a ≠ 0)) with
  | some a =>
    rw [hf] at h
    exact h
  | none =>
    show roomL _ (newL (runP L Y).1 Y) = 0
    rw [hnew]
    unfold roomL
    simp
    omega
theorem fresh_next (cs : List Int) (k : Nat) (hk : k < cs.length) : (cs.take (k + 1)).countP (fun c => decide (c = 0)) = (cs.take k).countP (fun c => decide (c = 0)) + if cs[k] = 0 then 1 else 0 := by
  rw [List.take_succ_eq_append_getElem hk, List.countP_append]
  by_cases h : cs[k] = 0 <;> simp [h]
theorem chC_get (cs : List Int) (k : Nat) (hk : k < cs.length) : (chC cs 0)[k]? = some (.int .i64 cs[k]) := by
  unfold chC
  simp [hk]
end Go.Proofs.YtiflfapdffkcbaaDoor
