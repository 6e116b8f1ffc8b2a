/-
  FrameMakes: the walk.
-/
import Derived.Test.YtkfefebjciolcaaKd
import Derived.Test.YtkfefebjciolcaaRm
import Derived.Test.YtkfefebjciolcaaBc
namespace Go.Proofs.Ytkfefebjciolcaa
open Go Go.RowKit
set_option maxRecDepth 100000

theorem RowAt.front {w : World} {g : Nat} {L : List Int} (h : RowAt w g L) (n : Nat) (hn : n ≤ L.length) : Holds w (some ⟨g, 0, none⟩) n (L.take n) := by
  have h1 := h.holds.sub 0 n (by omega)
  simpa using h1
theorem RowAt.below {w w' : World} {g : Nat} {L : List Int} (h : RowAt w g L) (hb : Below w.heap.size w w') : RowAt w' g L := h.upd (Upd.ofBelow (S := fun _ => False) hb (fun k hk hk' => by omega)) (fun h => h)
theorem lentL_front (K : List Int) : (lentL K).take K.length = K := by unfold lentL; exact List.take_left

/-- What Make answers. -/
def mkL (k : Int) (q : Nat) (K : List Int) : List Int := if 1 ≤ k ∧ k ≤ 9 then (if K.length ≤ 1048576 then makeL k q K else []) else []
def mkE (k : Int) (K : List Int) : Int := if 1 ≤ k ∧ k ≤ 9 then (if K.length ≤ 1048576 then 0 else 22) else 21
theorem mkL_len (k : Int) (q : Nat) (K : List Int) : (mkL k q K).length ≤ 1048600 := by
  unfold mkL
  split
  · split
    · rw [makeL_len]; omega
    · simp
  · simp
theorem own_none (base : Nat) (w : World) : OwnK base w (.slice none 0 0) [] := World.ownsRow_nil _ _ _ _
theorem make_all (k : Int) (q : Nat) (ad : Option Addr) (n cap : Nat) (K : List Int) (w : World) (h : Holds w ad n K) (hK : ByteL K) :
    Calls Try.prog 6 #[.int .i64 k, .int .u64 (q : Int), .slice ad n cap] w fun e w' => ∃ ao l c, e = .returned (.tuple #[.slice ao l c, .int .i64 (mkE k K)]) ∧ OwnK w.heap.size w' (.slice ao l c) (mkL k q K) ∧ Below w.heap.size w w' := by
  have hl := h.len
  unfold mkE mkL
  by_cases hk : 1 ≤ k ∧ k ≤ 9
  · rw [if_pos hk, if_pos hk]
    by_cases hn : K.length ≤ 1048576
    · rw [if_pos hn, if_pos hn]
      refine (make_any k q ad n cap K w hk (by omega) h hK).mono ?_
      rintro e w' ⟨v, rfl, o, b⟩
      obtain ⟨ao, l, c, rfl⟩ := row_shape o
      exact ⟨ao, l, c, rfl, o, b⟩
    · rw [if_neg hn, if_neg hn]
      refine (make_long k q ad n cap w hk (by omega)).mono ?_
      rintro e w' ⟨rfl, rfl⟩
      exact ⟨none, 0, 0, rfl, own_none _ _, Below.refl _ _⟩
  · rw [if_neg hk, if_neg hk]
    refine (make_kind k q ad n cap w hk).mono ?_
    rintro e w' ⟨rfl, rfl⟩
    exact ⟨none, 0, 0, rfl, own_none _ _, Below.refl _ _⟩
theorem refMake_all (k : Int) (q : Nat) (ad : Option Addr) (n cap : Nat) (K : List Int) (w : World) (h : Holds w ad n K) (hK : ByteL K) :
    Calls Try.prog 7 #[.int .i64 k, .int .u64 (q : Int), .slice ad n cap] w fun e w' => ∃ ao l c, e = .returned (.tuple #[.slice ao l c, .int .i64 (mkE k K)]) ∧ OwnK w.heap.size w' (.slice ao l c) (mkL k q K) ∧ Below w.heap.size w w' := by
  have hl := h.len
  unfold mkE mkL
  by_cases hk : 1 ≤ k ∧ k ≤ 9
  · rw [if_pos hk, if_pos hk]
    by_cases hn : K.length ≤ 1048576
    · rw [if_pos hn, if_pos hn]
      refine (refMake_any k q ad n cap K w hk (by omega) h hK).mono ?_
      rintro e w' ⟨v, rfl, o, b⟩
      obtain ⟨ao, l, c, rfl⟩ := row_shape o
      exact ⟨ao, l, c, rfl, o, b⟩
    · rw [if_neg hn, if_neg hn]
      refine (refMake_long k q ad n cap w hk (by omega)).mono ?_
      rintro e w' ⟨rfl, rfl⟩
      exact ⟨none, 0, 0, rfl, own_none _ _, Below.refl _ _⟩
  · rw [if_neg hk, if_neg hk]
    refine (refMake_kind k q ad n cap w hk).mono ?_
    rintro e w' ⟨rfl, rfl⟩
    exact ⟨none, 0, 0, rfl, own_none _ _, Below.refl _ _⟩
theorem ownk_base {base base' : Nat} {w : World} {v : Value} {K : List Int} (h : OwnK base' w v K) (hb : base ≤ base') : OwnK base w v K := by
  obtain ⟨h1, h2⟩ := h
  refine ⟨h1, ?_⟩
  rcases h2 with h | ⟨g, cap, cur, e, h, r⟩
  · exact Or.inl h
  · exact Or.inr ⟨g, cap, cur, e, by omega, r⟩
/-- A list of a call: its block lies between two numbers. -/
structure Lk (base lo hi : Nat) (w : World) (v : Value) (K : List Int) : Prop where
  own : OwnK base w v K
  range : ∀ k, v.ownBlock = some k → lo ≤ k ∧ k < hi
theorem Lk.upd {S : Nat → Prop} {base lo hi : Nat} {w w' : World} {v : Value} {K : List Int} (h : Lk base lo hi w v K) (hu : Upd S w w') (hS : ∀ k, lo ≤ k → k < hi → ¬ S k) : Lk base lo hi w' v K :=
  ⟨h.own.upd hu (fun k hk => hS k (h.range k hk).1 (h.range k hk).2), h.range⟩
theorem Lk.below {base lo hi : Nat} {w w' : World} {v : Value} {K : List Int} (h : Lk base lo hi w v K) (hb : Below w.heap.size w w') : Lk base lo hi w' v K :=
  h.upd (Upd.ofBelow (S := fun _ => False) hb (fun k hk hk' => by omega)) (fun _ _ _ h => h)
theorem OwnK.lk {base base' : Nat} {w : World} {v : Value} {K : List Int} (h : OwnK base' w v K) (hb : base ≤ base') : Lk base base' w.heap.size w v K :=
  ⟨ownk_base h hb, fun _ hk => ⟨(own_lt h hk).2, (own_lt h hk).1⟩⟩
theorem Lk.str {base lo hi : Nat} {w : World} {ao : Option Addr} {l c : Nat} {K : List Int} (h : Lk base lo hi w (.slice ao l c) K) : (convert 23 9 (.slice ao l c)).run Try.prog w = .ok (.string (strI K)) w := conv_holds (Holds.ofRow h.own) c
/-- A list that is kept or that will be: the book's own blocks are no bytes. -/
theorem BookAt.old {base gb : Nat} {w w' : World} {bv wv v : Value} {vs us : List Value} {Ks : List (List Int)} {lo hi : Nat} {L : List Int} (B : BookAt base w gb bv wv vs us Ks) (u : Upd (fun k => k = gb ∨ bv.ownBlock = some k ∨ wv.ownBlock = some k) w w') (h : Lk base lo hi w v L) : Lk base lo hi w' v L :=
  ⟨h.own.upd u (fun k hk e => by
    rcases e with rfl | e | e
    · exact own_not h.own B.block (fun cs h => by simp at h) hk
    · exact own_apart h.own B.lown (by decide) hk e
    · exact own_apart h.own B.wown (by decide) hk e), h.range⟩
theorem BookAt.le_size {base gb : Nat} {w : World} {bv wv : Value} {vs us : List Value} {Ks : List (List Int)} (B : BookAt base w gb bv wv vs us Ks) : base ≤ w.heap.size := by
  have := lt_of_block B.block
  have := B.le
  omega
theorem book_new {base gb : Nat} {w : World} (h : w.heap[gb]? = some (.cells #[.slice none 0 0, .slice none 0 0] 30 (0, 0))) (hb : base ≤ gb) : BookAt base w gb (.slice none 0 0) (.slice none 0 0) [] [] [] :=
  ⟨h, hb, World.ownsRow_nil _ _ _ _, World.ownsRow_nil _ _ _ _, fun k hk => by simp [Value.ownBlock] at hk, rfl, rfl, fun j v K h => by simp at h, fun j v K h => by simp at h, fun i j u v h => by simp at h⟩
theorem cellP {w : World} {f : Nat} {a b c : Value} {t : TypeId} (h : w.heap[f]? = some (.cells #[a, b, c] t (0, 0))) : w.cell? ⟨f, 0, none⟩ = some a ∧ w.cell? ⟨f, 1, none⟩ = some b ∧ w.cell? ⟨f, 2, none⟩ = some c := by
  simp [World.cell?, h]
/-- Five lists, one after the other, are kept; then the book ends. -/
theorem keeps_end (base gb : Nat) (w : World) (B : BookAt base w gb (.slice none 0 0) (.slice none 0 0) [] [] []) : base ≤ w.heap.size := B.le_size
end Go.Proofs.Ytkfefebjciolcaa
