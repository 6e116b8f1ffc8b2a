/-
  Contracts: copied, Bytes, Len, Raw of the Writer.
-/
import Derived.Test.YtioibllopidilaaDoorWr
namespace Go.Proofs.YtioibllopidilaaDoor
open Go.RowKit
set_option maxRecDepth 100000

/-- The cells of a slice value hold these bytes. -/
structure Holds (w : World) (ad : Option Addr) (n : Nat) (K : List Int) : Prop where
  len : K.length = n
  cells : ∀ j u, (K.map (Value.int .u8))[j]? = some u → ∃ a, ad = some a ∧ w.cell? (a.add j) = some u

theorem Holds.ofRow {base : Nat} {w : World} {ad : Option Addr} {n cap : Nat} {K : List Int} (h : w.ownsRow base 5 1 (.slice ad n cap) K.length (K.map (Value.int .u8))) : Holds w ad n K := by
  rcases h.2 with ⟨e, hn⟩ | ⟨g, cap', cur, e, _⟩
  · simp at e
    obtain ⟨rfl, rfl, rfl⟩ := e
    have : K = [] := List.eq_nil_of_length_eq_zero hn
    subst this
    exact ⟨rfl, fun j u hj => by simp at hj⟩
  · simp at e
    obtain ⟨rfl, rfl, rfl⟩ := e
    exact ⟨rfl, fun j u hj => ⟨_, rfl, h.cells (g := g) rfl j u hj⟩⟩

theorem u8_one (K : List Int) : ∀ u ∈ K.map (Value.int .u8), u.oneCell' = true := ints_oneCell _ _

theorem copy_src {w : World} {ad : Option Addr} {cs : List Value} (h : ∀ j u, cs[j]? = some u → ∃ a, ad = some a ∧ w.cell? (a.add j) = some u) (hp : 0 < cs.length) : ∃ a, ad = some a ∧ ∀ j u, cs[j]? = some u → w.cell? (a.add j) = some u := by
  obtain ⟨a, ha, _⟩ := h 0 cs[0] (by simp [hp])
  refine ⟨a, ha, fun j u hj => ?_⟩
  obtain ⟨a', ha', hc⟩ := h j u hj
  rw [ha] at ha'
  simp at ha'
  subst ha'
  exact hc

theorem copied_any (ad : Option Addr) (n cap : Nat) (K : List Int) (w : World) (h : Holds w ad n K) (hn : n ≤ 140737488355328) :
    Calls Tryd.prog 55 #[.slice ad n cap] w fun e w' => e = .returned (.slice (some ⟨w.heap.size, 0, none⟩) n n) ∧ w'.heap[w.heap.size]? = some (.cells (K.map (Value.int .u8)).toArray 5 (0, 0)) ∧ Below w.heap.size w w' := by
  obtain ⟨i0, hi, hz0, hz1, hz2⟩ := info_parts Tryd.info5
  have hsz : (Tryd.prog.info? 5).map (·.size) = some 1 := by rw [hi]; simp [hz1]
  have hlen := h.len
  have hsrc := h.cells
  obtain ⟨cs, hcs⟩ : ∃ cs, cs = K.map (Value.int .u8) := ⟨_, rfl⟩
  have hcl : cs.length = n := by rw [hcs]; simpa using hlen
  have hone : ∀ u ∈ cs, u.oneCell' = true := by rw [hcs]; exact u8_one K
  rw [← hcs] at hsrc
  rw [← hcs]
  clear hcs h
  go_enter Tryd.func55, Tryd.ntmps55
  go_wp2_with (at_make; refine wpList_make_full _ rfl (.tmp 5) (.tmp 5) 42 rfl w.heap.size 5 i0 (.int .u8 0) 1 Tryd.underlying42 hi hz0 hz1 .i64 .i64 (n : Int) (n : Int) n rfl rfl rfl rfl (by rw [hz2]; omega) (by unfold maxLen; omega) (Nat.le_refl _) ?_)
  intro w1 hown hgrow
  obtain ⟨cur, hcur, hcz⟩ : ∃ cur : List Value, w1.heap[w.heap.size]? = some (.cells cur.toArray 5 (0, 0)) ∧ cur.length = n := by
    rcases hown.2 with ⟨e, _⟩ | ⟨g, cap', cur, e, _, hg, _, _, hs, _⟩
    · simp at e
    · simp at e
      obtain ⟨rfl, rfl⟩ := e
      exact ⟨cur.toList, by simpa using hg, by simpa using hs⟩
  have hb1 : Below w.heap.size w w1 := (Below.refl _ _).grown hgrow (Nat.le_refl _) (by intro k hk; cases hk)
  have hsrc1 : ∀ j u, cs[j]? = some u → ∃ a, ad = some a ∧ w1.cell? (a.add j) = some u := by
    intro j u hj
    obtain ⟨a, ha, hc⟩ := hsrc j u hj
    exact ⟨a, ha, hgrow.cell hc (by simp)⟩
  clear hown hgrow hsrc
  go_wp2_with (refine wpList_copy_splice rfl (.tmp 7) (.tmp 8) 42 42 rfl 5 Tryd.underlying42 hsz (some ⟨w.heap.size, 0, none⟩) ad n n n cap (by rfl) (by rfl) w.heap.size 0 cur 5 hcur cs (by rw [hcl]; exact (Nat.min_self n).symm) (fun hp => ⟨rfl, (copy_src hsrc1 hp)⟩) (by omega) hone w.heap.size w hb1 (Nat.le_refl _) ?_)
  intro w2 HG hb2
  go_wp2
  go_ret
  refine ⟨rfl, ?_, hb2⟩
  rw [HG.out]
  simp only [splice, List.take_zero, List.nil_append, Nat.zero_add]
  rw [List.drop_of_length_le (by omega), List.append_nil]

/-- A row of bytes, whole. -/
def RowAt (w : World) (g : Nat) (K : List Int) : Prop := w.heap[g]? = some (.cells (K.map (Value.int .u8)).toArray 5 (0, 0))
theorem RowAt.cell {w : World} {g : Nat} {K : List Int} (h : RowAt w g K) (j : Nat) (hj : j < K.length) : w.cell? ⟨g, j, none⟩ = some (.int .u8 (K.getD j 0)) := by
  unfold RowAt at h
  simp [World.cell?, h, List.getD, hj]
theorem RowAt.upd {w w' : World} {g : Nat} {K : List Int} {S : Nat → Prop} (h : RowAt w g K) (hu : Upd S w w') (hS : ¬ S g) : RowAt w' g K := (hu.block g (lt_of_block h) hS).trans h
theorem RowAt.own {w : World} {g : Nat} {K : List Int} (h : RowAt w g K) (base : Nat) (hb : base ≤ g) (hl : K.length ≤ maxLen) : w.ownsRow base 5 1 (.slice (some ⟨g, 0, none⟩) K.length K.length) K.length (K.map (Value.int .u8)) :=
  ⟨by simp, Or.inr ⟨g, K.length, _, rfl, hb, h, Nat.le_refl _, hl, by simp, by rw [Nat.mul_one, List.take_of_length_le (by simp)]⟩⟩
theorem RowAt.holds {w : World} {g : Nat} {K : List Int} (h : RowAt w g K) : Holds w (some ⟨g, 0, none⟩) K.length K := by
  refine ⟨rfl, fun j u hj => ⟨_, rfl, ?_⟩⟩
  unfold RowAt at h
  rw [Addr.add_lit]
  simp only [World.cell?, Nat.zero_add, h]
  simpa using hj

theorem bytes_any (base B : Nat) (v : Value) (L : List Int) (w : World) (h : IsW base w B v L) (hlen : L.length ≤ 140737488355328) :
    Calls Tryd.prog 35 #[.pointer (some ⟨B, 0, none⟩)] w fun e w' => e = .returned (.slice (some ⟨w.heap.size, 0, none⟩) L.length L.length) ∧ RowAt w' w.heap.size L ∧ Below w.heap.size w w' := by
  have hcell := cell_of_one h.block
  have hfree := free_of_one h.block
  obtain ⟨ao, l, c, rfl⟩ := row_shape h.own
  have hH := Holds.ofRow h.own
  have hl := hH.len
  subst hl
  go_enter Tryd.func35, Tryd.ntmps35
  go_wp2_with (go_at_call 55; refine (copied_any ao L.length c L _ hH hlen).mono ?_; rintro e w' ⟨rfl, hr, hb⟩)
  go_ret
  exact ⟨rfl, hr, hb⟩

/-- A block with a Reader: its bytes K lie in block g, t of them are taken. -/
structure IsR (w : World) (R g : Nat) (K : List Int) (t : Nat) : Prop where
  block : w.heap[R]? = some (.cells #[.slice (some ⟨g, 0, none⟩) K.length K.length, .int .i64 t] 109 (0, 0))
  row : RowAt w g K
  le : t ≤ K.length
  small : K.length ≤ 140737488355328
  byts : ∀ x ∈ K, 0 ≤ x ∧ x < 256
theorem IsR.apart {w : World} {R g : Nat} {K : List Int} {t : Nat} (h : IsR w R g K t) : g ≠ R := by
  intro e; subst e
  have h1 := h.block
  have h2 := h.row
  unfold RowAt at h2
  rw [h1] at h2
  simp at h2
theorem IsR.upd {w w' : World} {R g : Nat} {K : List Int} {t : Nat} {S : Nat → Prop} (h : IsR w R g K t) (hu : Upd S w w') (hR : ¬ S R) (hg : ¬ S g) : IsR w' R g K t :=
  ⟨(hu.block R (lt_of_block h.block) hR).trans h.block, h.row.upd hu hg, h.le, h.small, h.byts⟩

theorem newReader_any (ad : Option Addr) (n cap : Nat) (K : List Int) (w : World) (h : Holds w ad n K) (hn : n ≤ 140737488355328) (hK : ∀ x ∈ K, 0 ≤ x ∧ x < 256) :
    Calls Tryd.prog 36 #[.slice ad n cap] w fun e w' => ∃ R, e = .returned (.pointer (some ⟨R, 0, none⟩)) ∧ w.heap.size < R ∧ IsR w' R w.heap.size K 0 ∧ Below w.heap.size w w' := by
  have hl := h.len
  subst hl
  go_enter Tryd.func36, Tryd.ntmps36
  go_wp2_with (go_at_call 55; refine (copied_any ad K.length cap K _ h hn).mono ?_; rintro e w' ⟨rfl, hr, hb⟩)
  go_ret
  have hlt := lt_of_block hr
  refine ⟨w'.heap.size, rfl, hlt, ⟨?_, ?_, Nat.zero_le _, hn, hK⟩, hb.alloc (by omega) _⟩
  · exact heap_alloc_new w' _
  · exact (Below.heap_alloc w' _ _ hlt).trans hr
end Go.Proofs.YtioibllopidilaaDoor
