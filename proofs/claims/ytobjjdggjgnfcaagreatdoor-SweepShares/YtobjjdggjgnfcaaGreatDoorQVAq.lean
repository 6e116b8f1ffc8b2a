/-
  Merged: QVA, QVh, QVc, QVB, QVC.
-/
import Derived.Test.YtobjjdggjgnfcaaGreatDoorMwq
import Derived.Deep.RegionHeld3
import Derived.Deep.AppendLies
import Derived.Deep.RegionLaw
namespace Go.Proofs.YtobjjdggjgnfcaaGreatDoor.iv
open Go

def wantW (u : Bool) (p q : Bool) : Bool := p && (q == u)
theorem wantW_no (u : Bool) : wantW u false false = false := rfl
theorem run_one (want : Bool → Bool → Bool) (hw : want false false = false) (E : List (Int × Int × Int)) : (runL want (E.take 1)).out = [] := by
  cases E with
  | nil => rfl
  | cons e E =>
    show closeL want ⟨0, 0, 0, []⟩ e.1 = []
    unfold closeL
    rw [show want (decide (0 < (0 : Int))) (decide (0 < (0 : Int))) = false from hw]
    simp
theorem run_at (want : Bool → Bool → Bool) (E : List (Int × Int × Int)) (i : Nat) (hi : i < E.length) : (runL want (E.take (i + 1))).at_ = E[i].1 := by
  rw [List.take_succ_eq_append_getElem hi, runL_snoc]; rfl
theorem run_n0 (want : Bool → Bool → Bool) (E : List (Int × Int × Int)) (i : Nat) (hi : i < E.length) : (runL want (E.take (i + 1))).n0 = if E[i].2.2 = 0 then (runL want (E.take i)).n0 + stepE E[i] else (runL want (E.take i)).n0 := by
  rw [List.take_succ_eq_append_getElem hi, runL_snoc]; rfl
theorem run_n1 (want : Bool → Bool → Bool) (E : List (Int × Int × Int)) (i : Nat) (hi : i < E.length) : (runL want (E.take (i + 1))).n1 = if E[i].2.2 = 1 then (runL want (E.take i)).n1 + stepE E[i] else (runL want (E.take i)).n1 := by
  rw [List.take_succ_eq_append_getElem hi, runL_snoc]; rfl
theorem run_out (want : Bool → Bool → Bool) (E : List (Int × Int × Int)) (i : Nat) (hi : i < E.length) : (runL want (E.take (i + 1))).out = closeL want (runL want (E.take i)) E[i].1 := by
  rw [List.take_succ_eq_append_getElem hi, runL_snoc]; rfl

/-! ## Two lists put together in order -/
abbrev SortE (E : List (Int × Int × Int)) : Prop := E.Pairwise fun e f => e.1 ≤ f.1
structure MrgE (A B : List (Int × Int × Int)) (i k : Nat) (P : List (Int × Int × Int)) : Prop where
  srt : SortE P
  le : ∀ x ∈ P, ∀ y ∈ A.drop i ++ B.drop k, x.1 ≤ y.1
  perm : (P ++ (A.drop i ++ B.drop k)).Perm (A ++ B)
  len : P.length = i + k
theorem sortE_more {P : List (Int × Int × Int)} {c : Int × Int × Int} (h : SortE P) (hl : ∀ x ∈ P, x.1 ≤ c.1) : SortE (P ++ [c]) := by
  refine List.pairwise_append.2 ⟨h, List.pairwise_singleton _ _, fun x hx y hy => ?_⟩
  simp at hy
  subst hy
  exact hl x hx
theorem MrgE.left {A B : List (Int × Int × Int)} {i k : Nat} {P : List (Int × Int × Int)} {c : Int × Int × Int} (h : MrgE A B i k P) (hd : A.drop i = c :: A.drop (i + 1)) (hA : SortE A) (hB : ∀ y ∈ B.drop k, c.1 ≤ y.1) : MrgE A B (i + 1) k (P ++ [c]) := by
  have hs : SortE (c :: A.drop (i + 1)) := by rw [← hd]; exact List.Pairwise.sublist (List.drop_sublist _ _) hA
  have hp := h.perm
  have hl := h.le
  rw [hd] at hp hl
  refine ⟨sortE_more h.srt (fun x hx => hl x hx c (by simp)), fun x hx y hy => ?_, ?_, by have := h.len; simp; omega⟩
  · rcases List.mem_append.1 hx with hx | hx
    · exact hl x hx y (by rw [List.cons_append]; exact List.mem_cons_of_mem _ hy)
    · simp at hx
      subst hx
      rcases List.mem_append.1 hy with hy | hy
      · exact (List.pairwise_cons.1 hs).1 y hy
      · exact hB y hy
  · rw [List.append_assoc]
    exact hp
theorem MrgE.right {A B : List (Int × Int × Int)} {i k : Nat} {P : List (Int × Int × Int)} {d : Int × Int × Int} (h : MrgE A B i k P) (hd : B.drop k = d :: B.drop (k + 1)) (hB : SortE B) (hA : ∀ y ∈ A.drop i, d.1 ≤ y.1) : MrgE A B i (k + 1) (P ++ [d]) := by
  have hs : SortE (d :: B.drop (k + 1)) := by rw [← hd]; exact List.Pairwise.sublist (List.drop_sublist _ _) hB
  have hp := h.perm
  have hl := h.le
  rw [hd] at hp hl
  refine ⟨sortE_more h.srt (fun x hx => hl x hx d (by simp)), fun x hx y hy => ?_, ?_, by have := h.len; simp; omega⟩
  · rcases List.mem_append.1 hx with hx | hx
    · refine hl x hx y ?_
      rcases List.mem_append.1 hy with hy | hy
      · exact List.mem_append_left _ hy
      · exact List.mem_append_right _ (List.mem_cons_of_mem _ hy)
    · simp at hx
      subst hx
      rcases List.mem_append.1 hy with hy | hy
      · exact hA y hy
      · exact (List.pairwise_cons.1 hs).1 y hy
  · rw [List.append_assoc]
    refine List.Perm.trans (List.Perm.append_left _ ?_) hp
    show (d :: (A.drop i ++ B.drop (k + 1))).Perm _
    exact List.perm_middle.symm
theorem sortE_through {c : Int} {d : Int × Int × Int} {L : List (Int × Int × Int)} {n : Nat} (hs : SortE L) (hd : L.drop n = d :: L.drop (n + 1)) (h : c ≤ d.1) : ∀ y ∈ L.drop n, c ≤ y.1 := by
  have hs' : SortE (d :: L.drop (n + 1)) := by rw [← hd]; exact List.Pairwise.sublist (List.drop_sublist _ _) hs
  intro y hy
  rw [hd] at hy
  rcases List.mem_cons.1 hy with rfl | hy
  · exact h
  · exact Int.le_trans h ((List.pairwise_cons.1 hs').1 y hy)
/-! ## The ends of a list, one more -/
theorem cutU_cons (j : Int) (i : Int × Int) (a : List (Int × Int)) : endsL j (i :: a) = if i.2 ≤ i.1 then endsL j a else (i.1, 0, j) :: (i.2, 1, j) :: endsL j a := rfl
theorem cutU_append (j : Int) : ∀ (a b : List (Int × Int)), endsL j (a ++ b) = endsL j a ++ endsL j b
  | [], _ => rfl
  | i :: a, b => by
    rw [List.cons_append, cutU_cons, cutU_cons, cutU_append j a b]
    split <;> rfl
theorem cutU_len (j : Int) : ∀ (a : List (Int × Int)), (endsL j a).length ≤ 2 * a.length
  | [] => Nat.le_refl _
  | i :: a => by
    have := cutU_len j a
    unfold endsL
    split <;> simp <;> omega
theorem cutU_take (j : Int) (A : List (Int × Int)) (i : Nat) (hi : i < A.length) : endsL j (A.take (i + 1)) = endsL j (A.take i) ++ if A[i].2 ≤ A[i].1 then [] else [(A[i].1, 0, j), (A[i].2, 1, j)] := by
  rw [List.take_succ_eq_append_getElem hi, cutU_append]
  rfl
end Go.Proofs.YtobjjdggjgnfcaaGreatDoor.iv

namespace Go.Proofs.YtobjjdggjgnfcaaGreatDoor.iv
open Go.RowKit
set_option maxRecDepth 100000

theorem row_shape {base : Nat} {w : World} {e : TypeId} {size n : Nat} {v : Value} {xs : List Value} (h : w.ownsRow base e size v n xs) : ∃ ao l c, v = .slice ao l c := by
  rcases h.2 with ⟨rfl, _⟩ | ⟨g, cap, cur, rfl, _⟩
  · exact ⟨_, _, _, rfl⟩
  · exact ⟨_, _, _, rfl⟩
theorem cell_upd {S : Nat → Prop} {w w' : World} (hu : Upd S w w') {a : Addr} {v : Value} (h : w.cell? a = some v) (hS : ¬ S a.block) : w'.cell? a = some v := by
  have hlt := World.block_lt_of_cell? w a h
  have hb := hu.block a.block hlt hS
  unfold World.cell? at h ⊢
  rw [hb]; exact h
theorem own_some {base : Nat} {w : World} {e : TypeId} {size : Nat} {v : Value} {n : Nat} {xs : List Value} (h : w.ownsRow base e size v n xs) (hn : 0 < n) : ∃ g cap, v = .slice (some ⟨g, 0, none⟩) n cap ∧ n ≤ cap ∧ cap ≤ maxLen ∧ base ≤ g ∧ ∀ j u, xs[j]? = some u → w.cell? ⟨g, j, none⟩ = some u := by
  have h0 := h
  rcases h.2 with ⟨rfl, h1⟩ | ⟨g, cap, cur, rfl, hb, hg, h1, h2, _⟩
  · omega
  · refine ⟨g, cap, rfl, h1, h2, hb, fun j u hj => ?_⟩
    have := h0.cells (g := g) rfl j u hj
    rw [Addr.add_lit, Nat.zero_add] at this
    exact this
theorem own_cap {base : Nat} {w : World} {e : TypeId} {size : Nat} {ao : Option Addr} {l c : Nat} {n : Nat} {xs : List Value} (h : w.ownsRow base e size (.slice ao l c) n xs) : l = n ∧ n ≤ c ∧ c ≤ maxLen := by
  rcases h.2 with ⟨e, h1⟩ | ⟨g, cap, cur, e, hb, hg, h1, h2, _⟩
  · simp at e; obtain ⟨rfl, rfl, rfl⟩ := e; simp [h1, maxLen]
  · simp at e; obtain ⟨rfl, rfl, rfl⟩ := e; exact ⟨rfl, h1, h2⟩
theorem blk_cell {w : World} {g : Nat} {cs : Array Value} {t : TypeId} {fz : Nat × Nat} (h : w.heap[g]? = some (.cells cs t fz)) (j : Nat) {u : Value} (hu : cs[j]? = some u) : w.cell? ⟨g, j, none⟩ = some u := by
  simp [World.cell?, h, hu]
theorem blk_free {w : World} {g : Nat} {cs : Array Value} {t : TypeId} (h : w.heap[g]? = some (.cells cs t (0, 0))) (j : Nat) : w.frozen? ⟨g, j, none⟩ = false := by
  simp [World.frozen?, h]
theorem set_block {w : World} {B : Nat} {cs : Array Value} {t : TypeId} {fr : Nat × Nat} (h : w.heap[B]? = some (.cells cs t fr)) (i : Nat) (v : Value) : (w.setCell ⟨B, i, none⟩ v).heap[B]? = some (.cells (cs.setIfInBounds i v) t fr) := by
  have hlt := lt_of_block h
  have h' : w.heap[B] = .cells cs t fr := by simpa [Array.getElem?_eq_getElem hlt] using h
  show (w.heap.modify B _)[B]? = _
  rw [Array.getElem?_eq_getElem (by simpa using hlt), Array.getElem_modify_self, h']
  rfl
theorem own_block {base : Nat} {w : World} {e : TypeId} {size : Nat} {v : Value} {n : Nat} {xs : List Value} (h : w.ownsRow base e size v n xs) {k : Nat} (hk : v.ownBlock = some k) : base ≤ k ∧ ∃ cs fz, w.heap[k]? = some (.cells cs e fz) := by
  rcases h.2 with ⟨rfl, _⟩ | ⟨g, cap, cur, rfl, hg, hh, _⟩
  · simp [Value.ownBlock] at hk
  · simp [Value.ownBlock] at hk; subst hk; exact ⟨hg, _, _, hh⟩
theorem own_base {w : World} {b b' : Nat} {e : TypeId} {size : Nat} {v : Value} {n : Nat} {xs : List Value} (h : w.ownsRow b e size v n xs) (hb : b' ≤ b) : w.ownsRow b' e size v n xs := by
  obtain ⟨h1, h2⟩ := h
  refine ⟨h1, ?_⟩
  rcases h2 with h2 | ⟨g, cap, cur, rfl, hg, r⟩
  · exact Or.inl h2
  · exact Or.inr ⟨g, cap, cur, rfl, Nat.le_trans hb hg, r⟩
theorem upd_one (w : World) (b i : Nat) (v : Value) : Upd (fun k => k = b) w (w.setCell ⟨b, i, none⟩ v) := Upd.setCell (S := fun k => k = b) (p := ⟨b, i, none⟩) (Upd.refl _ w) (fun _ => rfl) v
theorem ownsRow_set {w : World} {base : Nat} {e : TypeId} {s g n cap : Nat} {xs : List Value} (h : w.ownsRow base e s (.slice (some ⟨g, 0, none⟩) n cap) n xs) (i : Nat) (v : Value) :
    (w.setCell ⟨g, i, none⟩ v).ownsRow base e s (.slice (some ⟨g, 0, none⟩) n cap) n (xs.set i v) := by
  obtain ⟨h1, h2⟩ := h
  rcases h2 with ⟨h2, _⟩ | ⟨g', cap', cur, y0, y1, y2, y3, y4, y5, y6⟩
  · cases h2
  · injection y0 with z1 z2 z3
    injection z1 with z1
    injection z1 with z1
    subst z1; subst z3
    refine ⟨by simpa using h1, Or.inr ⟨g, cap, cur.setIfInBounds i v, rfl, y1, set_block y2 i v, y3, y4, by simpa using y5, ?_⟩⟩
    rw [← y6]
    rw [Array.toList_setIfInBounds, List.take_set]

theorem Tryz.info46 : (Tryz.prog.info? 46).map (fun i => (i.zero, i.size, i.bytes)) = some (some (.agg #[.int .i64 0, .int .i64 0]), 2, 16) := by kernel_rfl
def ivC (i : Int × Int) : List Value := [.int .i64 i.1, .int .i64 i.2]
def OwnI (base : Nat) (w : World) (v : Value) (l : List (Int × Int)) : Prop := w.ownsRow base 46 2 v l.length (l.flatMap ivC)
theorem ivC_len (l : List (Int × Int)) : (l.flatMap ivC).length = l.length * 2 := by
  induction l with
  | nil => rfl
  | cons i l ih => rw [List.flatMap_cons, List.length_append, ih]; simp [ivC]; omega
theorem ivC_at (l : List (Int × Int)) : ∀ i (hi : i < l.length), (l.flatMap ivC)[i * 2]? = some (.int .i64 l[i].1) ∧ (l.flatMap ivC)[i * 2 + 1]? = some (.int .i64 l[i].2) := by
  induction l with
  | nil => intro i hi; simp at hi
  | cons p r ih =>
    intro i hi
    rw [List.flatMap_cons]
    cases i with
    | zero => exact ⟨rfl, rfl⟩
    | succ i =>
      have h2 : (ivC p).length = 2 := rfl
      rw [List.getElem?_append_right (by omega), List.getElem?_append_right (by omega), h2, show (i + 1) * 2 - 2 = i * 2 by omega, show (i + 1) * 2 + 1 - 2 = i * 2 + 1 by omega]
      exact ih i (by simpa using hi)
structure IvAt (w : World) (ad : Option Addr) (n : Nat) (l : List (Int × Int)) : Prop where
  len : l.length = n
  lies : 0 < n → ∃ b off, ad = some ⟨b, off, none⟩ ∧ ∀ i (_ : i < l.length), w.cell? ⟨b, off + i * 2, none⟩ = some (.int .i64 l[i].1) ∧ w.cell? ⟨b, off + i * 2 + 1, none⟩ = some (.int .i64 l[i].2)
theorem IvAt.upd {S : Nat → Prop} {w w' : World} {ad : Option Addr} {n : Nat} {l : List (Int × Int)} (h : IvAt w ad n l) (hu : Upd S w w') (hS : ∀ a, ad = some a → ¬ S a.block) : IvAt w' ad n l := by
  refine ⟨h.len, fun hp => ?_⟩
  obtain ⟨b, off, ha, hc⟩ := h.lies hp
  refine ⟨b, off, ha, fun i hi => ?_⟩
  obtain ⟨c0, c1⟩ := hc i hi
  exact ⟨cell_upd hu c0 (hS ⟨b, off, none⟩ ha), cell_upd hu c1 (hS ⟨b, off, none⟩ ha)⟩
theorem IvAt.below {w w' : World} {ad : Option Addr} {n : Nat} {l : List (Int × Int)} (h : IvAt w ad n l) (hb : Below w.heap.size w w') : IvAt w' ad n l :=
  h.upd (Upd.ofBelow (S := fun _ => False) hb (fun k hk hk' => by omega)) (fun _ _ h => h)
theorem OwnI.at {base : Nat} {w : World} {ao : Option Addr} {n c : Nat} {l : List (Int × Int)} (h : OwnI base w (.slice ao n c) l) : IvAt w ao n l := by
  have hc := own_cap h
  refine ⟨hc.1.symm, fun hp => ?_⟩
  obtain ⟨g, cap, e, _, _, _, hx⟩ := own_some h (by omega)
  simp at e
  refine ⟨g, 0, e.1, fun i hi => ?_⟩
  obtain ⟨a, b⟩ := ivC_at l i hi
  rw [Nat.zero_add]
  exact ⟨hx _ _ a, hx _ _ b⟩
end Go.Proofs.YtobjjdggjgnfcaaGreatDoor.iv

namespace Go.Proofs.YtobjjdggjgnfcaaGreatDoor.iv
open Go.RowKit
set_option maxRecDepth 100000

theorem own_free {base : Nat} {w : World} {e : TypeId} {size : Nat} {v : Value} {n : Nat} {xs : List Value} (h : w.ownsRow base e size v n xs) {k : Nat} (hk : v.ownBlock = some k) (j : Nat) : w.frozen? ⟨k, j, none⟩ = false := by
  rcases h.2 with ⟨rfl, _⟩ | ⟨g, cap, cur, rfl, hg, hh, _⟩
  · simp [Value.ownBlock] at hk
  · simp [Value.ownBlock] at hk; subst hk; exact blk_free hh j
theorem wrap_i64_in (v : Int) (h0 : -9223372036854775808 ≤ v) (h1 : v ≤ 9223372036854775807) : IntKind.i64.wrap v = v := by
  rw [IntKind.wrap_i64]; omega
end Go.Proofs.YtobjjdggjgnfcaaGreatDoor.iv

namespace Go.Proofs.YtobjjdggjgnfcaaGreatDoor.iv
open Go.RowKit
set_option maxRecDepth 100000

theorem Tryz.info257 : (Tryz.prog.info? 257).map (fun i => (i.zero, i.size, i.bytes)) = some (some (.agg #[.int .i64 0, .int .i64 0, .int .i64 0]), 3, 24) := by kernel_rfl

def cuC (e : Int × Int × Int) : List Value := [.int .i64 e.1, .int .i64 (stepE e), .int .i64 e.2.2]
def OwnU (base : Nat) (w : World) (v : Value) (l : List (Int × Int × Int)) : Prop := w.ownsRow base 257 3 v l.length (l.flatMap cuC)
theorem cuC_at (l : List (Int × Int × Int)) : ∀ i (hi : i < l.length), (l.flatMap cuC)[i * 3]? = some (.int .i64 l[i].1) ∧ (l.flatMap cuC)[i * 3 + 1]? = some (.int .i64 (stepE l[i])) ∧ (l.flatMap cuC)[i * 3 + 2]? = some (.int .i64 l[i].2.2) := by
  induction l with
  | nil => intro i hi; simp at hi
  | cons p r ih =>
    intro i hi
    rw [List.flatMap_cons]
    cases i with
    | zero => exact ⟨rfl, rfl, rfl⟩
    | succ i =>
      have h2 : (cuC p).length = 3 := rfl
      rw [List.getElem?_append_right (by omega), List.getElem?_append_right (by omega), List.getElem?_append_right (by omega), h2, show (i + 1) * 3 - 3 = i * 3 by omega, show (i + 1) * 3 + 1 - 3 = i * 3 + 1 by omega, show (i + 1) * 3 + 2 - 3 = i * 3 + 2 by omega]
      exact ih i (by simpa using hi)
structure CuAt (w : World) (ad : Option Addr) (n : Nat) (l : List (Int × Int × Int)) : Prop where
  len : l.length = n
  lies : 0 < n → ∃ b off, ad = some ⟨b, off, none⟩ ∧ ∀ i (_ : i < l.length), w.cell? ⟨b, off + i * 3, none⟩ = some (.int .i64 l[i].1) ∧ w.cell? ⟨b, off + i * 3 + 1, none⟩ = some (.int .i64 (stepE l[i])) ∧ w.cell? ⟨b, off + i * 3 + 2, none⟩ = some (.int .i64 l[i].2.2)
theorem CuAt.upd {S : Nat → Prop} {w w' : World} {ad : Option Addr} {n : Nat} {l : List (Int × Int × Int)} (h : CuAt w ad n l) (hu : Upd S w w') (hS : ∀ a, ad = some a → ¬ S a.block) : CuAt w' ad n l := by
  refine ⟨h.len, fun hp => ?_⟩
  obtain ⟨b, off, ha, hc⟩ := h.lies hp
  refine ⟨b, off, ha, fun i hi => ?_⟩
  obtain ⟨c0, c1, c2⟩ := hc i hi
  exact ⟨cell_upd hu c0 (hS ⟨b, off, none⟩ ha), cell_upd hu c1 (hS ⟨b, off, none⟩ ha), cell_upd hu c2 (hS ⟨b, off, none⟩ ha)⟩
theorem CuAt.below {w w' : World} {ad : Option Addr} {n : Nat} {l : List (Int × Int × Int)} (h : CuAt w ad n l) (hb : Below w.heap.size w w') : CuAt w' ad n l :=
  h.upd (Upd.ofBelow (S := fun _ => False) hb (fun k hk hk' => by omega)) (fun _ _ h => h)
theorem OwnU.at {base : Nat} {w : World} {ao : Option Addr} {n c : Nat} {l : List (Int × Int × Int)} (h : OwnU base w (.slice ao n c) l) : CuAt w ao n l := by
  have hc := own_cap h
  refine ⟨hc.1.symm, fun hp => ?_⟩
  obtain ⟨g, cap, e, _, _, _, hx⟩ := own_some h (by omega)
  simp at e
  refine ⟨g, 0, e.1, fun i hi => ?_⟩
  obtain ⟨a, b, c⟩ := cuC_at l i hi
  rw [Nat.zero_add]
  exact ⟨hx _ _ a, hx _ _ b, hx _ _ c⟩
theorem OwnU.nil (base : Nat) (w : World) : OwnU base w (.slice none 0 0) [] := World.ownsRow_nil w base _ 3
theorem OwnU.len {base : Nat} {w : World} {ao : Option Addr} {n c : Nat} {l : List (Int × Int × Int)} (h : OwnU base w (.slice ao n c) l) : n = l.length := (own_cap h).1
theorem OwnU.below {base : Nat} {w w' : World} {v : Value} {l : List (Int × Int × Int)} (h : OwnU base w v l) (hb : Below w.heap.size w w') : OwnU base w' v l :=
  ownsRow_upd h (Upd.ofBelow (S := fun _ => False) hb (fun k hk hk' => by omega)) (fun _ _ h => h)
theorem OwnU.alloc {base : Nat} {w : World} {v : Value} {l : List (Int × Int × Int)} (h : OwnU base w v l) (o : Obj) : OwnU base (w.alloc o) v l :=
  ownsRow_upd h ((Upd.refl (fun _ => False) w).alloc o) (fun _ _ h => h)

theorem rEmp_any (f t : Int) (w : World) :
    Calls Tryz.prog 92 #[.agg #[.int .i64 f, .int .i64 t]] w fun e w' => e = .returned (.bool (decide (t ≤ f))) ∧ w' = w.alloc (.cells #[.int .i64 f, .int .i64 t] 46) := by
  go_enter Tryz.func92, Tryz.ntmps92
  go_wp2
  go_ret
  exact ⟨rfl, rfl⟩
theorem below_own {base : Nat} {w0 w w' : World} {e : TypeId} {s n : Nat} {v : Value} {xs : List Value} (hb : Below base w0 w) (ho : w.ownsRow base e s v n xs) (hbase : base ≤ w.heap.size) (hg : w.grownBy w' v.ownBlock) : Below base w0 w' := by
  refine hb.trans ⟨hg.os, hg.tape, hg.output, hg.size, fun k hk => hg.block k (by omega) (fun e => ?_)⟩
  obtain ⟨h1, _⟩ := own_block ho e.symm
  omega
set_option maxHeartbeats 2000000 in
theorem cuts_any (w0 : World) (ad : Option Addr) (n ca : Nat) (A : List (Int × Int)) (j : Int) (hA : IvAt w0 ad n A) (hn : n ≤ 274877906944) (v : Value) (E0 : List (Int × Int × Int)) (w : World) (hb0 : Below w0.heap.size w0 w) (ho : OwnU w0.heap.size w v E0) (hE : E0.length ≤ 1099511627776) :
    Calls Tryz.prog 175 #[v, .slice ad n ca, .int .i64 j] w fun e w' => ∃ v', e = .returned v' ∧ OwnU w0.heap.size w' v' (E0 ++ endsL j A) ∧ Below w0.heap.size w0 w' := by
  obtain ⟨i0, hi, hz0, hz1, hz2⟩ := info_parts Tryz.info257
  have HO : Hid (OwnU w0.heap.size w v E0) := ho
  have HB0 : Hid (Below w0.heap.size w0 w) := hb0
  have hAl := hA.len
  have HA : Hid (IvAt w0 ad n A) := hA
  obtain ⟨a0, l0, c0, hv0⟩ := row_shape ho
  subst hv0
  clear ho hb0 hA
  go_enter Tryz.func175, Tryz.ntmps175
  go_wp2
  go_loopw [0, 7] (fun a b wr => ∃ (i : Nat), b = .int .i64 i ∧ i ≤ n ∧ Hid (OwnU w0.heap.size wr a (E0 ++ endsL j (A.take i))) ∧ Hid (Below w0.heap.size w0 wr)) (fun _ b _ => n - (intOf b).toNat)
  case atStart => exact ⟨0, rfl, by omega, (show OwnU _ _ _ (E0 ++ endsL j []) by rw [show endsL j [] = [] from rfl, List.append_nil]; exact HO.out), HB0⟩
  case round =>
    obtain ⟨i, rfl, hin, HM, HB⟩ := hrel
    obtain ⟨ao, L, cp, hsh⟩ := row_shape HM.out
    subst hsh
    by_cases hlt : i < n
    · have hlt' : (i : Int) < (n : Int) := by omega
      obtain ⟨b, off, had, hc⟩ := (HA.out.below HB.out).lies (by omega)
      obtain ⟨k0, k1⟩ := hc i (by omega)
      have ht := cutU_take j A i (by omega)
      have hbd := cutU_len j (A.take i)
      have hbd2 : (A.take i).length = i := by rw [List.length_take]; omega
      generalize A[i]'(by omega) = x at k0 k1 ht
      obtain ⟨x1, x2⟩ := x
      simp only at k0 k1
      have HT : Hid _ := ht
      have hLl := HM.out.len
      rw [List.length_append] at hLl
      have hL3 : L + 2 ≤ 5629499534213 := by omega
      obtain ⟨w2, hw2⟩ : ∃ W, wr.alloc (.cells #[.int .i64 x1, .int .i64 x2] 46) = W := ⟨_, rfl⟩
      have hbw : Below wr.heap.size wr w2 := by rw [← hw2]; exact (Below.refl _ _).alloc (Nat.le_refl _) _
      have E := rEmp_any x1 x2 wr
      rw [hw2] at E
      have o2 : OwnU w0.heap.size w2 (.slice ao L cp) (E0 ++ endsL j (A.take i)) := HM.out.below hbw
      have HB2 : Hid (Below w0.heap.size w0 w2) := HB.out.trans (hbw.mono HB.out.size)
      have k0' := k0
      have k1' := k1
      subst had
      have d0 : w2.cell? ⟨b, off + i * 2, none⟩ = some (.int .i64 x1) := (cell_upd (Upd.ofBelow (S := fun _ => False) hbw (fun k hk hk' => by omega)) k0 (fun h => h))
      have d1 : w2.cell? ⟨b, off + i * 2 + 1, none⟩ = some (.int .i64 x2) := (cell_upd (Upd.ofBelow (S := fun _ => False) hbw (fun k hk hk' => by omega)) k1 (fun h => h))
      have HLL : Hid (L = (E0 ++ endsL j (A.take i)).length) := HM.out.len
      clear ht hc hbd hbd2 hLl hw2 k0' k1'
      by_cases he : x2 ≤ x1
      · have he' : decide (x2 ≤ x1) = true := decide_eq_true he
        have HO2 : Hid _ := o2
        clear o2
        go_wp2_with (go_at_call 92; (with_reducible refine E.mono ?_); clear E; rintro e w3 ⟨rfl, hw3⟩; obtain rfl := hw3.symm; clear hw3)
        go_roundw
        case rel =>
          refine ⟨i + 1, by go_num, by omega, ?_, HB2⟩
          have ht := HT.out
          show OwnU _ _ _ _
          rw [ht, if_pos he, List.append_nil]
          exact HO2.out
        case measure => simp [intOf]; omega
      · have he' : decide (x2 ≤ x1) = false := decide_eq_false he
        have ow : w2.ownsRow w0.heap.size 257 3 (.slice ao L cp) L ((E0 ++ endsL j (A.take i)).flatMap cuC) := by
          have := o2
          unfold OwnU at this
          rw [← HLL.out] at this
          exact this
        have HOW : Hid (w2.ownsRow w0.heap.size 257 3 (.slice ao L cp) L ((E0 ++ endsL j (A.take i)).flatMap cuC)) := ow
        have bw2 := HB2.out.size
        obtain ⟨o, ho⟩ : ∃ o : Obj, o = .cells #[.int .i64 x1, .int .i64 1, .int .i64 j, .int .i64 x2, .int .i64 (-1), .int .i64 j] 257 := ⟨_, rfl⟩
        have hc6 : ∀ q u, ([.int .i64 x1, .int .i64 1, .int .i64 j, .int .i64 x2, .int .i64 (-1), .int .i64 j] : List Value)[q]? = some u → ((w2.alloc (.cells #[.int .i64 x1, .int .i64 1, .int .i64 j, .int .i64 x2, .int .i64 (-1), .int .i64 j] 257)).drew).cell? ((⟨w2.heap.size, 0, none⟩ : Addr).add q) = some u := World.news_of_block (cs := #[.int .i64 x1, .int .i64 1, .int .i64 j, .int .i64 x2, .int .i64 (-1), .int .i64 j]) (t := 257) (fr := (0, 0)) (heap_alloc_new w2 _)
        have hc3 : L + 2 ≤ maxLen := by unfold maxLen; omega
        have hc4 : (L + 2) * 24 ≤ 140737488355328 := by omega
        have hc5 : w0.heap.size ≤ ((w2.alloc (.cells #[.int .i64 x1, .int .i64 1, .int .i64 j, .int .i64 x2, .int .i64 (-1), .int .i64 j] 257)).drew).heap.size := by show w0.heap.size ≤ (w2.alloc _).heap.size; simp; omega
        have hbn : Below w2.heap.size w2 (w2.alloc (.cells #[.int .i64 x1, .int .i64 1, .int .i64 j, .int .i64 x2, .int .i64 (-1), .int .i64 j] 257)) := (Below.refl _ _).alloc (Nat.le_refl _) _
        have f0 : (w2.alloc (.cells #[.int .i64 x1, .int .i64 1, .int .i64 j, .int .i64 x2, .int .i64 (-1), .int .i64 j] 257)).cell? ⟨b, off + i * 2, none⟩ = some (.int .i64 x1) := (cell_upd (Upd.ofBelow (S := fun _ => False) hbn (fun k hk hk' => by omega)) d0 (fun h => h))
        have f1 : (w2.alloc (.cells #[.int .i64 x1, .int .i64 1, .int .i64 j, .int .i64 x2, .int .i64 (-1), .int .i64 j] 257)).cell? ⟨b, off + i * 2 + 1, none⟩ = some (.int .i64 x2) := (cell_upd (Upd.ofBelow (S := fun _ => False) hbn (fun k hk hk' => by omega)) d1 (fun h => h))
        have HFIN : Hid (∀ gg cap w3, w3.ownsRow w0.heap.size 257 3 (.slice (some ⟨gg, 0, none⟩) (L + 2) cap) (L + 2) ((E0 ++ endsL j (A.take i)).flatMap cuC ++ [.int .i64 x1, .int .i64 1, .int .i64 j, .int .i64 x2, .int .i64 (-1), .int .i64 j]) → ((w2.alloc (.cells #[.int .i64 x1, .int .i64 1, .int .i64 j, .int .i64 x2, .int .i64 (-1), .int .i64 j] 257)).drew).grownBy w3 (Value.slice ao L cp).ownBlock → Hid (OwnU w0.heap.size w3 (.slice (some ⟨gg, 0, none⟩) (L + 2) cap) (E0 ++ endsL j (A.take (i + 1)))) ∧ Hid (Below w0.heap.size w0 w3)) := by
          intro gg cap w3 o3 g3
          refine ⟨?_, ?_⟩
          · show OwnU _ _ _ _
            have ht := HT.out
            rw [ht, if_neg he, ← List.append_assoc]
            unfold OwnU
            rw [List.length_append, ← HLL.out, List.flatMap_append]
            exact o3
          · exact below_own ((HB2.out.alloc HB2.out.size _).drew) ((HOW.out.alloc _).drew) hc5 g3
        clear o ho hbn o2 ow
        go_wp2_with (go_at_call 92; (with_reducible refine E.mono ?_); clear E; rintro e w3 ⟨rfl, hw3⟩; obtain rfl := hw3.symm; clear hw3)
        go_region_law ((refine step_append_lies _ (by rfl) _ _ _ (by rfl) w0.heap.size 257 i0 _ 3 24 Tryz.underlying252 hi hz0 hz1 hz2 rfl (by omega) (.slice ao L cp) L ((E0 ++ endsL j (A.take i)).flatMap cuC) (by rfl) ((HOW.out.alloc _).drew) ⟨w2.heap.size, 0, none⟩ 2 2 [.int .i64 x1, .int .i64 1, .int .i64 j, .int .i64 x2, .int .i64 (-1), .int .i64 j] (by rfl) (by rfl) hc6 (by simp [Value.oneCell']) (by omega) hc3 hc4 hc5 (w2.heap.size + 1) (by simp) ?_; intro gg cap w3 o3 g3 at3 lt3; obtain ⟨HO3, HB3⟩ := HFIN.out gg cap w3 o3 g3; clear o3 g3 at3 lt3))
        all_goals go_wp2
        all_goals go_roundw
        all_goals first
          | exact ⟨i + 1, by go_num, by omega, HO3, HB3⟩
          | (simp [intOf]; omega)
    · have hlt' : ¬ (i : Int) < (n : Int) := by omega
      have HT : Hid (A.take i = A) := List.take_of_length_le (by omega)
      go_wp2
      go_ret
      exact ⟨_, rfl, (by have := HM.out; rw [HT.out] at this; exact this), HB.out⟩
end Go.Proofs.YtobjjdggjgnfcaaGreatDoor.iv

namespace Go.Proofs.YtobjjdggjgnfcaaGreatDoor.iv
open Go.RowKit
set_option maxRecDepth 100000

theorem wpList_appU {ops : Array Oper} {rest : List Oper} {o : Oper} {a : Act} {Q : Exit → Act → World → Prop} (w : World) (hgd : o.guard = none) (s x : Operand)
    (ho : o.op = .call { callee := .builtin .append, args := #[s, x], argTypes := #[252, 252] })
    (base : Nat) (v : Value) (L : List (Int × Int × Int)) (e : Int × Int × Int) (y : Int) (hy : stepE e = y) (hv : a.eval s = v) (hown : OwnU base w v L) (hx : a.eval x = .slice (some ⟨w.heap.size, 0, none⟩) 1 1) (hlen : L.length ≤ 5629499534213) (hbase : base ≤ w.heap.size)
    (h : ∀ v' w', OwnU base w' v' (L ++ [e]) → Upd (fun k => base ≤ k) w w' → wpList Tryz.prog ops Q rest (a.put o.dst v') w') : wpList Tryz.prog ops Q (o :: rest) a (w.alloc (.cells #[.int .i64 e.1, .int .i64 y, .int .i64 e.2.2] 257)) := by
  subst hy
  obtain ⟨i0, hi0, hz0, hz1, hz2⟩ := info_parts Tryz.info257
  have ho' : OwnU base (w.alloc (.cells #[.int .i64 e.1, .int .i64 (stepE e), .int .i64 e.2.2] 257)) v L := hown.alloc _
  have hs : Src Tryz.prog 3 252 (.slice (some ⟨w.heap.size, 0, none⟩) 1 1) 1 (cuC e) (w.alloc (.cells #[.int .i64 e.1, .int .i64 (stepE e), .int .i64 e.2.2] 257)) := by
    refine Src.ofSlice _ Tryz.underlying252 ⟨w.heap.size, 0, none⟩ 1 1 _ rfl ?_ ?_
    · intro j u hj
      rw [Addr.add_lit, Nat.zero_add]
      exact blk_cell (heap_alloc_new w (.cells #[.int .i64 e.1, .int .i64 (stepE e), .int .i64 e.2.2] 257)) j (by simpa [cuC] using hj)
    · intro u hu
      simp [cuC] at hu
      rcases hu with rfl | rfl | rfl <;> rfl
  refine wpList_appW _ hgd s x 252 252 ho base 257 i0 _ 3 24 Tryz.underlying252 hi0 hz0 hz1 hz2 rfl v L.length (L.flatMap cuC) hv ho' _ 1 (cuC e) hx hs (by unfold maxLen; omega) (by omega) (by rw [World.size_alloc]; omega) ?_
  intro v' w' o8 g8 m8
  refine h v' w' ?_ ⟨g8.os, g8.tape, g8.output, by have := g8.size; rw [World.size_alloc] at this; omega, fun k hk hn => (g8.block k (by rw [World.size_alloc]; omega) (fun e => hn (own_block hown e.symm).1)).trans (Below.heap_alloc w _ k hk)⟩
  unfold OwnU
  rw [List.length_append, List.flatMap_append]
  simpa using o8

theorem CuAt.take {w : World} {ad : Option Addr} {n h : Nat} {l : List (Int × Int × Int)} (H : CuAt w ad n l) (hh : h ≤ n) : CuAt w ad h (l.take h) := by
  refine ⟨by rw [List.length_take, H.len]; omega, fun hp => ?_⟩
  obtain ⟨b, off, ha, hc⟩ := H.lies (by omega)
  refine ⟨b, off, ha, fun i hi => ?_⟩
  rw [List.length_take, H.len] at hi
  simp only [List.getElem_take]
  exact hc i (by rw [H.len]; omega)
theorem CuAt.drop {w : World} {b off n h : Nat} {l : List (Int × Int × Int)} (H : CuAt w (some ⟨b, off, none⟩) n l) (hh : h ≤ n) : CuAt w (some ⟨b, off + h * 3, none⟩) (n - h) (l.drop h) := by
  refine ⟨by rw [List.length_drop, H.len], fun hp => ?_⟩
  obtain ⟨b', off', ha, hc⟩ := H.lies (by omega)
  injection ha with ha
  injection ha with h1 h2
  subst h1
  subst h2
  refine ⟨b, off + h * 3, rfl, fun i hi => ?_⟩
  rw [List.length_drop, H.len] at hi
  simp only [List.getElem_drop]
  have := hc (h + i) (by rw [H.len]; omega)
  rw [show off + (h + i) * 3 = off + h * 3 + i * 3 by omega] at this
  exact this

def OrdU (E : List (Int × Int × Int)) (w : World) (e : Ending) (w' : World) : Prop :=
  ∃ ad n c E', e = .returned (.slice ad n c) ∧ Hid (CuAt w' ad n E' ∧ E.Perm E' ∧ SortE E') ∧ n ≤ c ∧ c ≤ maxLen ∧ Below w.heap.size w w'
theorem rSorted_small (ad : Option Addr) (n c : Nat) (E : List (Int × Int × Int)) (w : World) (hA : CuAt w ad n E) (hn : n < 2) (hc : n ≤ c) (hm : c ≤ maxLen) : Calls Tryz.prog 176 #[.slice ad n c] w (OrdU E w) := by
  have HA : Hid (CuAt w ad n E) := hA
  have HS : Hid (SortE E) := by
    have hl := hA.len
    rcases E with _ | ⟨x, _ | ⟨y, l⟩⟩
    · exact List.Pairwise.nil
    · exact List.pairwise_singleton _ _
    · simp at hl; omega
  have hn' : (n : Int) < 2 := by omega
  clear hA
  unfold OrdU
  go_enter Tryz.func176, Tryz.ntmps176
  go_wp2
  go_ret
  exact ⟨ad, n, c, E, rfl, ⟨HA.out, List.Perm.refl _, HS.out⟩, hc, hm, Below.refl _ _⟩
set_option maxHeartbeats 8000000 in
theorem rSorted_of (b off n c h : Nat) (l : List (Int × Int × Int)) (w : World) (hn : 2 ≤ n) (hh : h = n / 2) (hc : n ≤ c) (hm : c ≤ maxLen) (hz : n ≤ 1099511627776) (hl : l.length = n)
    (SA : ∀ W, Below w.heap.size w W → Calls Tryz.prog 176 #[.slice (some ⟨b, off, none⟩) h c] W (OrdU (l.take h) W)) (SB : ∀ W, Below w.heap.size w W → Calls Tryz.prog 176 #[.slice (some ⟨b, off + h * 3, none⟩) (n - h) (c - h)] W (OrdU (l.drop h) W)) :
    Calls Tryz.prog 176 #[.slice (some ⟨b, off, none⟩) n c] w (OrdU l w) := by
  have HSA : Hid (∀ W, Below w.heap.size w W → Calls Tryz.prog 176 #[.slice (some ⟨b, off, none⟩) h c] W (OrdU (l.take h) W)) := SA
  have HSB : Hid (∀ W, Below w.heap.size w W → Calls Tryz.prog 176 #[.slice (some ⟨b, off + h * 3, none⟩) (n - h) (c - h)] W (OrdU (l.drop h) W)) := SB
  have HLL : Hid (l.length = n) := hl
  unfold maxLen at hm
  have hn' : ¬ (n : Int) < 2 := by omega
  have hq : (n : Int).tdiv 2 = (h : Int) := by rw [Int.tdiv_eq_ediv_of_nonneg (by omega)]; omega
  have hhn : h ≤ n := by omega
  have hch : ¬ c = h := by omega
  clear SA SB hl hh
  go_enter Tryz.func176, Tryz.ntmps176
  go_wp2_with (first
    | (go_at_call 176; (with_reducible refine (HSA.out _ (Below.refl _ _)).mono ?_); clear HSA; rintro e w1 ⟨xx, n1, m1, A, rfl, H1, k1, k1', b1⟩; have HB1 : Hid (Below w.heap.size w w1) := b1; clear b1)
    | (go_at_call 176; (with_reducible refine (HSB.out _ HB1.out).mono ?_); clear HSB; rintro e w2 ⟨yy, n2, m2, B, rfl, H2, k2, k2', b2⟩; have HB2 : Hid (Below w.heap.size w w2) := HB1.out.trans (b2.mono HB1.out.size); have HX2 : Hid (CuAt w2 xx n1 A) := CuAt.below H1.out.1 b2; clear b2))
  have HY2 : Hid (CuAt w2 yy n2 B) := H2.out.1
  have HSR : Hid (SortE A ∧ SortE B) := ⟨H1.out.2.2, H2.out.2.2⟩
  have HPL : Hid (l.Perm (A ++ B)) := by
    have h1 := List.Perm.append H1.out.2.1 H2.out.2.1
    rw [List.take_append_drop] at h1
    exact h1
  have hn12 : n1 + n2 ≤ 1099511627776 := by have h1 := HX2.out.len; have h2 := HY2.out.len; have h3 := HPL.out.length_eq; rw [List.length_append] at h3; have h4 := HLL.out; omega
  unfold maxLen at k1' k2'
  clear H1 H2 HB1 hq hn' hch hhn hc hm
  go_loopw [5, 6, 7] (fun tv ti tj wr => ∃ (i k : Nat) (P : List (Int × Int × Int)), ti = .int .i64 i ∧ tj = .int .i64 k ∧ i ≤ n1 ∧ k ≤ n2 ∧ Hid (OwnU w2.heap.size wr tv P) ∧ Hid (MrgE A B i k P) ∧ Hid (Below w2.heap.size w2 wr)) (fun _ ti tj _ => (n1 - (intOf ti).toNat) + (n2 - (intOf tj).toNat))
  case atStart => exact ⟨0, 0, [], rfl, rfl, Nat.zero_le _, Nat.zero_le _, OwnU.nil _ _, ⟨List.Pairwise.nil, (fun x hx => by cases hx), List.Perm.refl _, rfl⟩, Below.refl _ _⟩
  case round =>
    obtain ⟨i, k, P, rfl, rfl, hi, hk, HP, HG, HW⟩ := hrel
    obtain ⟨pa, pl, pc, hps⟩ := row_shape HP.out
    subst hps
    have HXl : Hid (A.length = n1) := HX2.out.len
    have HYl : Hid (B.length = n2) := HY2.out.len
    have HPn : Hid (P.length ≤ 1099511627776) := by have := HG.out.len; show _ ≤ _; omega
    by_cases h1 : i < n1
    · have hiA : i < A.length := by rw [HXl.out]; exact h1
      have HDA : Hid (A.drop i = A[i] :: A.drop (i + 1)) := List.drop_eq_getElem_cons hiA
      obtain ⟨xb, xo, rfl, hrx⟩ := (HX2.out.below HW.out).lies (by omega)
      obtain ⟨a0, a1, a2⟩ := hrx i hiA
      obtain ⟨⟨e0, e1, e2⟩, ec⟩ : ∃ c, A[i] = c := ⟨_, rfl⟩
      rw [ec] at HDA a0 a1 a2
      obtain ⟨sa, hsa⟩ : ∃ s, stepE (e0, e1, e2) = s := ⟨_, rfl⟩
      rw [hsa] at a1
      simp only at a0 a1 a2
      have HSA : Hid (stepE (e0, e1, e2) = sa) := hsa
      clear ec hrx hsa
      have h1' : (i : Int) < (n1 : Int) := by omega
      have h1d : decide ((i : Int) < (n1 : Int)) = true := decide_eq_true h1'
      by_cases h2 : k < n2
      · have hkB : k < B.length := by rw [HYl.out]; exact h2
        have HDB : Hid (B.drop k = B[k] :: B.drop (k + 1)) := List.drop_eq_getElem_cons hkB
        obtain ⟨yb, yo, rfl, hry⟩ := (HY2.out.below HW.out).lies (by omega)
        obtain ⟨b0, b1, b2⟩ := hry k hkB
        obtain ⟨⟨f0, f1, f2⟩, ed⟩ : ∃ d, B[k] = d := ⟨_, rfl⟩
        rw [ed] at HDB b0 b1 b2
        obtain ⟨sb, hsb⟩ : ∃ s, stepE (f0, f1, f2) = s := ⟨_, rfl⟩
        rw [hsb] at b1
        simp only at b0 b1 b2
        have HSB : Hid (stepE (f0, f1, f2) = sb) := hsb
        clear ed hry hsb
        have h2' : (k : Int) < (n2 : Int) := by omega
        have hkb : ((k : Int) == (n2 : Int)) = false := by simp; omega
        by_cases hl : e0 ≤ f0
        · have hld : decide (e0 ≤ f0) = true := decide_eq_true hl
          go_wp2
          go_quiet (fail)
          obtain ⟨w5, hw5⟩ : ∃ V, wr.drewN nq = V := ⟨_, rfl⟩
          have HB5 : Hid (Below wr.heap.size wr w5) := by rw [← hw5]; exact ⟨rfl, rfl, rfl, Nat.le_refl _, fun _ _ => rfl⟩
          have g0 : w5.cell? ⟨xb, xo + i * 3, none⟩ = some (.int .i64 e0) := by rw [← hw5]; exact a0
          have g1 : w5.cell? ⟨xb, xo + i * 3 + 1, none⟩ = some (.int .i64 sa) := by rw [← hw5]; exact a1
          have g2 : w5.cell? ⟨xb, xo + i * 3 + 2, none⟩ = some (.int .i64 e2) := by rw [← hw5]; exact a2
          rw [hw5]
          clear hw5 a0 a1 a2 b0 b1 b2
          have HBW5 : Hid (Below w2.heap.size w2 w5) := HW.out.trans (HB5.out.mono HW.out.size)
          have HP5 : Hid (OwnU w2.heap.size w5 (.slice pa pl pc) P) := HP.out.below HB5.out
          go_wp2_with (at_builtin; refine wpList_appU w5 rfl _ _ rfl w2.heap.size (.slice pa pl pc) P (e0, e1, e2) sa HSA.out rfl HP5.out rfl (by have := HPn.out; omega) HBW5.out.size ?_; intro v8 w8 o8 u8; obtain ⟨a8, l8, c8, rfl⟩ := row_shape o8; have HO8 : Hid (OwnU w2.heap.size w8 (.slice a8 l8 c8) (P ++ [(e0, e1, e2)])) := o8; have HU8 : Hid (Upd (fun k => w2.heap.size ≤ k) w5 w8) := u8; clear o8 u8)
          go_roundw
          case rel =>
            exact ⟨i + 1, k, P ++ [(e0, e1, e2)], by go_num, by go_num, by omega, by omega, HO8, MrgE.left HG.out HDA.out HSR.out.1 (sortE_through HSR.out.2 HDB.out hl), HBW5.out.trans (HU8.out.below HBW5.out.size (fun j hj e => by omega))⟩
          case measure => simp [intOf]; omega
        · have hld : decide (e0 ≤ f0) = false := decide_eq_false hl
          go_wp2
          go_quiet (fail)
          obtain ⟨w5, hw5⟩ : ∃ V, wr.drewN nq = V := ⟨_, rfl⟩
          have HB5 : Hid (Below wr.heap.size wr w5) := by rw [← hw5]; exact ⟨rfl, rfl, rfl, Nat.le_refl _, fun _ _ => rfl⟩
          have g0 : w5.cell? ⟨yb, yo + k * 3, none⟩ = some (.int .i64 f0) := by rw [← hw5]; exact b0
          have g1 : w5.cell? ⟨yb, yo + k * 3 + 1, none⟩ = some (.int .i64 sb) := by rw [← hw5]; exact b1
          have g2 : w5.cell? ⟨yb, yo + k * 3 + 2, none⟩ = some (.int .i64 f2) := by rw [← hw5]; exact b2
          rw [hw5]
          clear hw5 a0 a1 a2 b0 b1 b2
          have HBW5 : Hid (Below w2.heap.size w2 w5) := HW.out.trans (HB5.out.mono HW.out.size)
          have HP5 : Hid (OwnU w2.heap.size w5 (.slice pa pl pc) P) := HP.out.below HB5.out
          go_wp2_with (at_builtin; refine wpList_appU w5 rfl _ _ rfl w2.heap.size (.slice pa pl pc) P (f0, f1, f2) sb HSB.out rfl HP5.out rfl (by have := HPn.out; omega) HBW5.out.size ?_; intro v8 w8 o8 u8; obtain ⟨a8, l8, c8, rfl⟩ := row_shape o8; have HO8 : Hid (OwnU w2.heap.size w8 (.slice a8 l8 c8) (P ++ [(f0, f1, f2)])) := o8; have HU8 : Hid (Upd (fun k => w2.heap.size ≤ k) w5 w8) := u8; clear o8 u8)
          go_roundw
          case rel =>
            exact ⟨i, k + 1, P ++ [(f0, f1, f2)], by go_num, by go_num, by omega, by omega, HO8, MrgE.right HG.out HDB.out HSR.out.2 (sortE_through HSR.out.1 HDA.out (by show f0 ≤ e0; omega)), HBW5.out.trans (HU8.out.below HBW5.out.size (fun j hj e => by omega))⟩
          case measure => simp [intOf]; omega
      · have HDB : Hid (B.drop k = []) := List.drop_eq_nil_of_le (by rw [HYl.out]; omega)
        have h2' : ¬ (k : Int) < (n2 : Int) := by omega
        have hkb : ((k : Int) == (n2 : Int)) = true := by simp; omega
        go_wp2
        go_quiet (fail)
        obtain ⟨w5, hw5⟩ : ∃ V, wr.drewN nq = V := ⟨_, rfl⟩
        have HB5 : Hid (Below wr.heap.size wr w5) := by rw [← hw5]; exact ⟨rfl, rfl, rfl, Nat.le_refl _, fun _ _ => rfl⟩
        have g0 : w5.cell? ⟨xb, xo + i * 3, none⟩ = some (.int .i64 e0) := by rw [← hw5]; exact a0
        have g1 : w5.cell? ⟨xb, xo + i * 3 + 1, none⟩ = some (.int .i64 sa) := by rw [← hw5]; exact a1
        have g2 : w5.cell? ⟨xb, xo + i * 3 + 2, none⟩ = some (.int .i64 e2) := by rw [← hw5]; exact a2
        rw [hw5]
        clear hw5 a0 a1 a2
        have HBW5 : Hid (Below w2.heap.size w2 w5) := HW.out.trans (HB5.out.mono HW.out.size)
        have HP5 : Hid (OwnU w2.heap.size w5 (.slice pa pl pc) P) := HP.out.below HB5.out
        go_wp2_with (at_builtin; refine wpList_appU w5 rfl _ _ rfl w2.heap.size (.slice pa pl pc) P (e0, e1, e2) sa HSA.out rfl HP5.out rfl (by have := HPn.out; omega) HBW5.out.size ?_; intro v8 w8 o8 u8; obtain ⟨a8, l8, c8, rfl⟩ := row_shape o8; have HO8 : Hid (OwnU w2.heap.size w8 (.slice a8 l8 c8) (P ++ [(e0, e1, e2)])) := o8; have HU8 : Hid (Upd (fun k => w2.heap.size ≤ k) w5 w8) := u8; clear o8 u8)
        go_roundw
        case rel =>
          exact ⟨i + 1, k, P ++ [(e0, e1, e2)], by go_num, by go_num, by omega, by omega, HO8, MrgE.left HG.out HDA.out HSR.out.1 (by rw [HDB.out]; exact fun y hy => by cases hy), HBW5.out.trans (HU8.out.below HBW5.out.size (fun j hj e => by omega))⟩
        case measure => simp [intOf]; omega
    · have HDA : Hid (A.drop i = []) := List.drop_eq_nil_of_le (by rw [HXl.out]; omega)
      have h1' : ¬ (i : Int) < (n1 : Int) := by omega
      have h1d : decide ((i : Int) < (n1 : Int)) = false := decide_eq_false h1'
      by_cases h2 : k < n2
      · have hkB : k < B.length := by rw [HYl.out]; exact h2
        have HDB : Hid (B.drop k = B[k] :: B.drop (k + 1)) := List.drop_eq_getElem_cons hkB
        obtain ⟨yb, yo, rfl, hry⟩ := (HY2.out.below HW.out).lies (by omega)
        obtain ⟨b0, b1, b2⟩ := hry k hkB
        obtain ⟨⟨f0, f1, f2⟩, ed⟩ : ∃ d, B[k] = d := ⟨_, rfl⟩
        rw [ed] at HDB b0 b1 b2
        obtain ⟨sb, hsb⟩ : ∃ s, stepE (f0, f1, f2) = s := ⟨_, rfl⟩
        rw [hsb] at b1
        simp only at b0 b1 b2
        have HSB : Hid (stepE (f0, f1, f2) = sb) := hsb
        clear ed hry hsb
        have h2' : (k : Int) < (n2 : Int) := by omega
        have hkb : ((k : Int) == (n2 : Int)) = false := by simp; omega
        go_wp2
        go_quiet (fail)
        obtain ⟨w5, hw5⟩ : ∃ V, wr.drewN nq = V := ⟨_, rfl⟩
        have HB5 : Hid (Below wr.heap.size wr w5) := by rw [← hw5]; exact ⟨rfl, rfl, rfl, Nat.le_refl _, fun _ _ => rfl⟩
        have g0 : w5.cell? ⟨yb, yo + k * 3, none⟩ = some (.int .i64 f0) := by rw [← hw5]; exact b0
        have g1 : w5.cell? ⟨yb, yo + k * 3 + 1, none⟩ = some (.int .i64 sb) := by rw [← hw5]; exact b1
        have g2 : w5.cell? ⟨yb, yo + k * 3 + 2, none⟩ = some (.int .i64 f2) := by rw [← hw5]; exact b2
        rw [hw5]
        clear hw5 b0 b1 b2
        have HBW5 : Hid (Below w2.heap.size w2 w5) := HW.out.trans (HB5.out.mono HW.out.size)
        have HP5 : Hid (OwnU w2.heap.size w5 (.slice pa pl pc) P) := HP.out.below HB5.out
        go_wp2_with (at_builtin; refine wpList_appU w5 rfl _ _ rfl w2.heap.size (.slice pa pl pc) P (f0, f1, f2) sb HSB.out rfl HP5.out rfl (by have := HPn.out; omega) HBW5.out.size ?_; intro v8 w8 o8 u8; obtain ⟨a8, l8, c8, rfl⟩ := row_shape o8; have HO8 : Hid (OwnU w2.heap.size w8 (.slice a8 l8 c8) (P ++ [(f0, f1, f2)])) := o8; have HU8 : Hid (Upd (fun k => w2.heap.size ≤ k) w5 w8) := u8; clear o8 u8)
        go_roundw
        case rel =>
          exact ⟨i, k + 1, P ++ [(f0, f1, f2)], by go_num, by go_num, by omega, by omega, HO8, MrgE.right HG.out HDB.out HSR.out.2 (by rw [HDA.out]; exact fun y hy => by cases hy), HBW5.out.trans (HU8.out.below HBW5.out.size (fun j hj e => by omega))⟩
        case measure => simp [intOf]; omega
      · have HDB : Hid (B.drop k = []) := List.drop_eq_nil_of_le (by rw [HYl.out]; omega)
        have h2' : ¬ (k : Int) < (n2 : Int) := by omega
        have HEP : Hid (l.Perm P) := by
          have h := HG.out.perm
          rw [HDA.out, HDB.out, List.append_nil, List.append_nil] at h
          exact HPL.out.trans h.symm
        go_wp2
        go_ret
        have hcap := own_cap HP.out
        exact ⟨pa, pl, pc, P, rfl, ⟨OwnU.at HP.out, HEP.out, HG.out.srt⟩, by omega, hcap.2.2, HB2.out.trans (HW.out.mono HB2.out.size)⟩
theorem rSorted_any : ∀ (N n : Nat), n ≤ N → ∀ (ad : Option Addr) (c : Nat) (E : List (Int × Int × Int)) (w : World), CuAt w ad n E → n ≤ 1099511627776 → n ≤ c → c ≤ maxLen → Calls Tryz.prog 176 #[.slice ad n c] w (OrdU E w)
  | 0, n, hN, ad, c, E, w, hA, _, hc, hm => rSorted_small ad n c E w hA (by omega) hc hm
  | N + 1, n, hN, ad, c, E, w, hA, hz, hc, hm => by
    by_cases h2 : n < 2
    · exact rSorted_small ad n c E w hA h2 hc hm
    · obtain ⟨b, off, rfl, _⟩ := hA.lies (by omega)
      refine rSorted_of b off n c (n / 2) E w (by omega) rfl hc hm hz hA.len (fun W hW => ?_) (fun W hW => ?_)
      · exact rSorted_any N (n / 2) (by omega) _ _ _ W ((hA.below hW).take (by omega)) (by omega) (by omega) hm
      · exact rSorted_any N (n - n / 2) (by omega) _ _ _ W ((hA.below hW).drop (by omega)) (by omega) (by omega) (by omega)
end Go.Proofs.YtobjjdggjgnfcaaGreatDoor.iv
