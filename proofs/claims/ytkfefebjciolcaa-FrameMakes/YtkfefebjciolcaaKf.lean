/-
  Arguments: a parcel is opened.
-/
import Derived.Test.YtkfefebjciolcaaOb
namespace Go.Proofs.Ytkfefebjciolcaa
open Go.ChangeShapes Go.WideShapes Go.ChangeAt Go.RowKit Go.Deep
theorem cellsPar : Try.prog.cellsOf 25 = 3 := by kernel_rfl
theorem cellsInt : Try.prog.cellsOf 3 = 1 := by kernel_rfl
theorem cellsU64 : Try.prog.cellsOf 22 = 1 := by kernel_rfl
theorem cellsBy : Try.prog.cellsOf 23 = 1 := by kernel_rfl
section
variable {H : Type} {enc : TypeId × Value → H} {W : World} {base : Nat} {spare : Nat → Bool} {held : Bool}
/-- All that it holds is within reach. -/
def Reach {H : Type} (t : TypeId) (d : DataW H) : Prop := ∀ n ∈ d.weights Try.prog t, n ≤ 140737488351232
theorem Reach.field {H : Type} {t : TypeId} {fs : Array Field} {parts : List (DataW H)} (hu : Try.prog.underlying t = some (.struct fs)) (h : Reach t (.agg parts)) (j : Nat) {ty : TypeId} {d : DataW H} (ht : (fs.toList.map (·.type))[j]? = some ty) (hd : parts[j]? = some d) : Reach ty d := by
  intro n hn
  refine h n ?_
  simp only [DataW.weights, hu]
  exact DataW.weights_mem_each ht hd n hn
theorem Reach.len {H : Type} {t e : TypeId} {el sp : List (DataW H)} (hu : Try.prog.underlying t = some (.slice e)) (h : Reach t (.slice el sp)) : (el.length + sp.length) * Try.prog.bytesOf e ≤ 140737488351232 :=
  h _ (by simp [DataW.weights, hu])
theorem reach_of {H : Type} {ts : List TypeId} {ds : List (DataW H)} {j : Nat} {t : TypeId} {d : DataW H} (hsz : (DataW.weightsEach Try.prog ts ds).all (· ≤ reachBytes) = true) (ht : ts[j]? = some t) (hd : ds[j]? = some d) : Reach t d := by
  intro n hn
  have := List.all_eq_true.1 hsz n (DataW.weights_mem_each ht hd n hn)
  exact of_decide_eq_true this
set_option maxRecDepth 100000 in
theorem parcel_size {n : Nat} {cs : List Value} {d : DataW H} {pl : List MemPlace} (h : DataW.trod enc Try.prog W base spare held n 25 cs = some (d, pl)) (hr : Reach 25 d) :
    ∃ (k : Int) (q : Nat) (ap : Option Addr) (np cp : Nat) (P : List Int), cs = [.int .i64 k, .int .u64 (q : Int), .slice ap np cp] ∧ Holds W ap np P ∧ ByteL P ∧ np ≤ 140737488351232 := by
  obtain ⟨xs, m, rfl, hx, hl, hxl, hf⟩ := DataW.trod_struct Try.underlying25 h
  rw [cellsPar] at hl
  match cs, hl with
  | [c0, c1, c2], _ =>
    match xs, hxl with
    | [x0, x1, x2], _ =>
      have h0 := hf 0 _ rfl
      have h1 := hf 1 _ rfl
      have h2 := hf 2 _ rfl
      simp [cellsInt, cellsU64, cellsBy] at h0 h1 h2
      obtain ⟨k, e0, _, w0⟩ := DataW.trod_int Try.underlying3 h0
      obtain ⟨q, e1, _, w1⟩ := DataW.trod_int Try.underlying22 h1
      obtain ⟨ap, np, cp, P, e2, hP, hPb, hc, hm, hd⟩ := open_bytes h2
      simp at e0 e1
      subst e0 e1 e2
      have hq := bounds_u64 w1
      refine ⟨k, q.toNat, ap, np, cp, P, by rw [Int.toNat_of_nonneg hq.1], hP, hPb, ?_⟩
      rcases hd with ⟨rfl, _⟩ | ⟨el, sp, e, rfl⟩
      · omega
      · have hx' : d = .agg [x0.1, x1.1, x2.1] := by simpa using congrArg Prod.fst hx
        rw [hx'] at hr
        have r2 := hr.field Try.underlying25 2 (ty := 23) (d := x2.1) rfl rfl
        rw [e] at r2
        have := r2.len Try.underlying23
        rw [bytes8] at this
        omega
end
end Go.Proofs.Ytkfefebjciolcaa
