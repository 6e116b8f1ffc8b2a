/-
  Arguments of layer 13: lists of puts, of numbers are opened.
-/
import Derived.Test.YtmegmjhkjaejgaaRows
import Derived.Test.YtmegmjhkjaejgaaSkP
import Derived.ProofKit
import Derived.OpenShut
import Derived.SizedLaws
import Derived.Deep.DeepHandedRow
import Derived.Deep.Slices
import Derived.Carry
import Derived.LaidLaws
namespace Go.Proofs.Ytmegmjhkjaejgaa.sk
open Go.ChangeShapes Go.WideShapes Go.ChangeAt Go.RowKit Go.Deep
theorem ownK : ownKnob Try.prog.godebug = none := by kernel_rfl
theorem laidOutK : laidOutB Try.prog = true := by kernel_rfl
theorem cellsU64 : Try.prog.cellsOf 29 = 1 := by kernel_rfl
theorem bytesU64 : Try.prog.bytesOf 29 = 8 := by kernel_rfl
theorem cellsInt : Try.prog.cellsOf 3 = 1 := by kernel_rfl
theorem bytesInt : Try.prog.bytesOf 3 = 8 := by kernel_rfl

/-- Puts lie here: a value, so many times. -/
structure PutAt (w : World) (ad : Option Addr) (n : Nat) (l : List (Nat × Nat)) : Prop where
  len : l.length = n
  lies : 0 < n → ∃ b off, ad = some ⟨b, off, none⟩ ∧ ∀ i (_ : i < l.length), w.cell? ⟨b, off + i * 2, none⟩ = some (.int .u64 (l[i].1 : Int)) ∧ w.cell? ⟨b, off + i * 2 + 1, none⟩ = some (.int .u64 (l[i].2 : Int))
  bin : ∀ p ∈ l, p.1 < 18446744073709551616 ∧ p.2 < 18446744073709551616
  size : n * 16 ≤ 140737488351232
theorem PutAt.upd {S : Nat → Prop} {w w' : World} {ad : Option Addr} {n : Nat} {l : List (Nat × Nat)} (h : PutAt w ad n l) (hu : Upd S w w') (hS : ∀ a, ad = some a → ¬ S a.block) : PutAt w' ad n l := by
  refine ⟨h.len, fun hp => ?_, h.bin, h.size⟩
  obtain ⟨b, off, ha, hc⟩ := h.lies hp
  refine ⟨b, off, ha, fun i hi => ?_⟩
  obtain ⟨c0, c1⟩ := hc i hi
  exact ⟨cell_upd hu c0 (hS ⟨b, off, none⟩ ha), cell_upd hu c1 (hS ⟨b, off, none⟩ ha)⟩
theorem PutAt.below {w w' : World} {ad : Option Addr} {n : Nat} {l : List (Nat × Nat)} (h : PutAt w ad n l) (hb : Below w.heap.size w w') : PutAt w' ad n l :=
  h.upd (Upd.ofBelow (S := fun _ => False) hb (fun k hk hk' => by omega)) (fun _ _ h => h)
/-- Numbers lie here. -/
structure NumAt (k : IntKind) (w : World) (ad : Option Addr) (n : Nat) (l : List Int) : Prop where
  len : l.length = n
  lies : 0 < n → ∃ b off, ad = some ⟨b, off, none⟩ ∧ ∀ i (_ : i < l.length), w.cell? ⟨b, off + i, none⟩ = some (.int k l[i])
  bin : ∀ p ∈ l, (Lit.int k p).wf = true
  size : n * 8 ≤ 140737488351232
theorem NumAt.upd {k : IntKind} {S : Nat → Prop} {w w' : World} {ad : Option Addr} {n : Nat} {l : List Int} (h : NumAt k w ad n l) (hu : Upd S w w') (hS : ∀ a, ad = some a → ¬ S a.block) : NumAt k w' ad n l := by
  refine ⟨h.len, fun hp => ?_, h.bin, h.size⟩
  obtain ⟨b, off, ha, hc⟩ := h.lies hp
  exact ⟨b, off, ha, fun i hi => cell_upd hu (hc i hi) (hS ⟨b, off, none⟩ ha)⟩
theorem NumAt.below {k : IntKind} {w w' : World} {ad : Option Addr} {n : Nat} {l : List Int} (h : NumAt k w ad n l) (hb : Below w.heap.size w w') : NumAt k w' ad n l :=
  h.upd (Upd.ofBelow (S := fun _ => False) hb (fun k hk hk' => by omega)) (fun _ _ h => h)
section
variable {H : Type} {enc : TypeId × Value → H} {W : World} {base : Nat} {spare : Nat → Bool} {held : Bool}
/-- All that it holds is within reach. -/
def Reach {H : Type} (t : TypeId) (d : DataW H) : Prop := ∀ n ∈ d.weights Try.prog t, n ≤ 140737488351232
theorem Reach.len {H : Type} {t e : TypeId} {el sp : List (DataW H)} (hu : Try.prog.underlying t = some (.slice e)) (h : Reach t (.slice el sp)) : (el.length + sp.length) * Try.prog.bytesOf e ≤ 140737488351232 :=
  h _ (by simp [DataW.weights, hu])
theorem reach_of {H : Type} {ts : List TypeId} {ds : List (DataW H)} {j : Nat} {t : TypeId} {d : DataW H} (hsz : (DataW.weightsEach Try.prog ts ds).all (· ≤ reachBytes) = true) (ht : ts[j]? = some t) (hd : ds[j]? = some d) : Reach t d := by
  intro n hn
  have := List.all_eq_true.1 hsz n (DataW.weights_mem_each ht hd n hn)
  exact of_decide_eq_true this
theorem nums_open {k : IntKind} {t e : TypeId} (ht : Try.prog.underlying t = some (.slice e)) (he : Try.prog.underlying e = some (.int k)) (hc : Try.prog.cellsOf e = 1) (hby : Try.prog.bytesOf e = 8) {n : Nat} {v : Value} {d : DataW H} {pl : List MemPlace} (h : DataW.trod enc Try.prog W base spare held n t [v] = some (d, pl)) (hr : Reach t d) :
    ∃ (ad : Option Addr) (len cap : Nat) (M : List Int), v = .slice ad len cap ∧ NumAt k W ad len M ∧ len ≤ cap ∧ ∀ a, ad = some a → 0 < len → a.block < W.heap.size := by
  rcases open_slice1 ht hc h with ⟨hcs, hx⟩ | ⟨a, len, cap, m, n, V, D, Pl, hcs, hb, hl, hm, hmm, hx, hel⟩
  · simp at hcs
    subst hcs
    exact ⟨none, 0, 0, [], rfl, ⟨rfl, (fun h => by omega), (fun _ h => by cases h), by omega⟩, Nat.le_refl _, fun a h => by cases h⟩
  · simp at hcs
    subst hcs
    simp only [Prod.mk.injEq] at hx
    rw [hx.1] at hr
    have hln := hr.len ht
    rw [hby] at hln
    simp at hln
    have hlm : len ≤ m := by rw [hmm]; split <;> omega
    obtain ⟨b, off, spot⟩ := a
    have cell : ∀ i, i < len → ∃ x : Int, W.cell? ((⟨b, off, spot⟩ : Addr).add i) = some (.int k x) ∧ (Lit.int k x).wf = true := by
      intro i hi
      obtain ⟨h1, h2⟩ := hel i (by omega)
      obtain ⟨x, e1, _, w1⟩ := DataW.trod_int he h2
      simp at e1
      rw [e1] at h1
      exact ⟨x, h1, w1⟩
    have hspot : 0 < len → spot = none := fun hp => by
      cases spot with
      | none => rfl
      | some sp =>
        exfalso
        obtain ⟨x, hx0, _⟩ := cell 0 hp
        simp [World.cell?, Addr.add] at hx0
        split at hx0 <;> simp at hx0
    have each : ∀ i, i < len → ∃ x : Int, W.cell? ⟨b, off + i, none⟩ = some (.int k x) ∧ (Lit.int k x).wf = true := by
      intro i hi
      obtain ⟨x, h1, h2⟩ := cell i hi
      have hs := hspot (by omega)
      subst hs
      rw [Addr.add_lit] at h1
      exact ⟨x, h1, h2⟩
    obtain ⟨X, hX⟩ := choose_lt each
    refine ⟨some ⟨b, off, spot⟩, len, cap, (List.range len).map X, rfl, ⟨by simp, fun hp => ?_, ?_, by omega⟩, hl, ?_⟩
    · have hs := hspot hp
      subst hs
      refine ⟨b, off, rfl, fun i hi => ?_⟩
      have hi' : i < len := by simpa using hi
      simp
      exact (hX i hi').1
    · intro x hx
      simp at hx
      obtain ⟨i, hi, rfl⟩ := hx
      exact (hX i hi).2
    · intro a ha hp
      injection ha with ha
      subst ha
      have hs := hspot hp
      subst hs
      exact World.block_lt_of_cell? W _ (hX 0 hp).1
end
end Go.Proofs.Ytmegmjhkjaejgaa.sk
