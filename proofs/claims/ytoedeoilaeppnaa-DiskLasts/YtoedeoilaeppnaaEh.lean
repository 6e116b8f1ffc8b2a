/-
  Layer 7 (disk): DiskLasts' arguments.
-/
import Derived.Test.YtoedeoilaeppnaaRows
import Derived.Test.YtoedeoilaeppnaaEe
import Derived.ProofKit
import Derived.OpenShut
import Derived.SizedLaws
import Derived.Deep.DeepHandedRow
import Derived.Deep.Slices
import Derived.Carry
import Derived.LaidLaws
namespace Go.Proofs.Ytoedeoilaeppnaa
open Go.ChangeShapes Go.WideShapes Go.ChangeAt Go.RowKit Go.Deep
theorem ownK : ownKnob Try.prog.godebug = none := by kernel_rfl
theorem laidOutK : laidOutB Try.prog = true := by kernel_rfl
theorem cells_int : Try.prog.cellsOf 3 = 1 := by kernel_rfl
theorem cells_str : Try.prog.cellsOf 9 = 1 := by kernel_rfl
theorem cells_ints : Try.prog.cellsOf 23 = 1 := by kernel_rfl
theorem cells_act : Try.prog.cellsOf 30 = 3 := by kernel_rfl
theorem cells_keep : Try.prog.cellsOf 25 = 2 := by kernel_rfl
theorem bytes_act : Try.prog.bytesOf 30 = 32 := by kernel_rfl
theorem bytes_int : Try.prog.bytesOf 3 = 8 := by kernel_rfl
theorem weightsAll_mem {H : Type} {P : Program} {e : TypeId} : ∀ {l : List (DataW H)} {d : DataW H}, d ∈ l → ∀ n ∈ d.weights P e, n ∈ DataW.weightsAll P e l
  | d' :: r, d, hd, n, hn => by
    simp only [DataW.weightsAll, List.mem_append]
    rcases List.mem_cons.1 hd with rfl | h
    · exact Or.inl hn
    · exact Or.inr (weightsAll_mem h n hn)
/-- All that it holds is within reach. -/
def Reach {H : Type} (t : TypeId) (d : DataW H) : Prop := ∀ n ∈ d.weights Try.prog t, n ≤ 140737488351232
theorem Reach.field {H : Type} {t : TypeId} {fs : Array Field} {parts : List (DataW H)} (hu : Try.prog.underlying t = some (.struct fs)) (h : Reach t (.agg parts)) (j : Nat) {ty : TypeId} {d : DataW H} (ht : (fs.toList.map (·.type))[j]? = some ty) (hd : parts[j]? = some d) : Reach ty d := by
  intro n hn
  refine h n ?_
  simp only [DataW.weights, hu]
  exact DataW.weights_mem_each ht hd n hn
theorem Reach.elem {H : Type} {t e : TypeId} {el sp : List (DataW H)} (hu : Try.prog.underlying t = some (.slice e)) (h : Reach t (.slice el sp)) {d : DataW H} (hd : d ∈ el) : Reach e d := by
  intro n hn
  refine h n ?_
  simp only [DataW.weights, hu, List.mem_cons, List.mem_append]
  exact Or.inr (Or.inl (weightsAll_mem hd n hn))
theorem Reach.len {H : Type} {t e : TypeId} {el sp : List (DataW H)} (hu : Try.prog.underlying t = some (.slice e)) (h : Reach t (.slice el sp)) : (el.length + sp.length) * Try.prog.bytesOf e ≤ 140737488351232 :=
  h _ (by simp [DataW.weights, hu])
theorem Reach.str {H : Type} {t : TypeId} {s : List UInt8} (h : Reach (H := H) t (.lit (.string s))) : s.length ≤ 140737488351232 :=
  h _ (by simp [DataW.weights])
theorem reach_of {H : Type} {ts : List TypeId} {ds : List (DataW H)} {j : Nat} {t : TypeId} {d : DataW H} (hsz : (DataW.weightsEach Try.prog ts ds).all (· ≤ reachBytes) = true) (ht : ts[j]? = some t) (hd : ds[j]? = some d) : Reach t d := by
  intro n hn
  have := List.all_eq_true.1 hsz n (DataW.weights_mem_each ht hd n hn)
  exact of_decide_eq_true this
theorem size_list (s : ByteArray) : s.data.toList.length = s.size := by rw [Array.length_toList]; rfl
theorem spot_none {w : World} {b off : Nat} {sp : Option Nat} {u : Value} (h : w.cell? (⟨b, off, sp⟩ : Addr) = some u) : sp = none := by
  cases sp with
  | none => rfl
  | some s => simp [World.cell?] at h; split at h <;> simp at h
theorem cell_lt {w : World} {b off : Nat} {u : Value} (h : w.cell? (⟨b, off, none⟩ : Addr) = some u) : b < w.heap.size := World.block_lt_of_cell? w _ h
section
variable {H : Type} {enc : TypeId × Value → H} {W : World} {base : Nat} {spare : Nat → Bool} {held : Bool}
set_option maxRecDepth 100000 in
theorem act_open {n : Nat} {cs : List Value} {x : DataW H × List MemPlace} (h : DataW.trod enc Try.prog W base spare held n 30 cs = some x) (hr : Reach 30 x.1) :
    ∃ a : Ac, cs = [.int .i64 a.f, .int .i64 a.k, .string a.s] ∧ (-9223372036854775808 ≤ a.f ∧ a.f ≤ 9223372036854775807) ∧ (-9223372036854775808 ≤ a.k ∧ a.k ≤ 9223372036854775807) ∧ a.s.size ≤ 140737488355328 := by
  obtain ⟨xs, m, rfl, rfl, hl, hxl, hf⟩ := DataW.trod_struct Try.underlying30 h
  rw [cells_act] at hl
  match cs, hl with
  | [c0, c1, c2], _ =>
    match xs, hxl with
    | [x0, x1, x2], _ =>
      have h0 := hf 0 _ rfl
      have h1 := hf 1 _ rfl
      have h2 := hf 2 _ rfl
      simp [cells_int, cells_str] at h0 h1 h2
      have r2 := hr.field Try.underlying30 2 rfl rfl
      obtain ⟨a, e0, _, w0⟩ := DataW.trod_int Try.underlying3 h0
      obtain ⟨b, e1, _, w1⟩ := DataW.trod_int Try.underlying3 h1
      obtain ⟨s, e2, rfl, w2⟩ := DataW.trod_string Try.underlying9 h2
      simp at e0 e1 e2
      subst e0 e1 e2
      have hs := r2.str
      rw [size_list] at hs
      exact ⟨⟨a, b, s⟩, rfl, bounds_i64 w0, bounds_i64 w1, by simp only; omega⟩
set_option maxHeartbeats 1000000 in
theorem acts_open {n : Nat} {v : Value} {x : DataW H × List MemPlace} (h : DataW.trod enc Try.prog W base spare held n 22 [v] = some x) (hr : Reach 22 x.1) :
    ∃ (ad : Option Addr) (len cap : Nat) (A : List Ac), v = .slice ad len cap ∧ AcAt W.heap.size W ad len A ∧ len ≤ cap ∧ len ≤ 140737488355328 := by
  rcases open_slice Try.underlying22 h with ⟨hcs, hx⟩ | ⟨a, len, cap, m, n, D, Pl, hcs, hb, hl, hm, hmm, hx, hel⟩
  · simp at hcs
    subst hcs
    exact ⟨none, 0, 0, [], rfl, ⟨rfl, fun h => by omega, fun _ h => by cases h⟩, Nat.le_refl _, by omega⟩
  · simp at hcs
    subst hcs hx
    have hln := hr.len Try.underlying22
    rw [bytes_act] at hln
    simp at hln
    have hlm : len ≤ m := by rw [hmm]; split <;> omega
    rw [cells_act] at hel
    obtain ⟨b, off, sp⟩ := a
    have each : ∀ i, i < len → ∃ y : Ac, W.cells? base ((⟨b, off, sp⟩ : Addr).add (i * 3)) 3 = some [.int .i64 y.f, .int .i64 y.k, .string y.s] ∧ (-9223372036854775808 ≤ y.f ∧ y.f ≤ 9223372036854775807) ∧ (-9223372036854775808 ≤ y.k ∧ y.k ≤ 9223372036854775807) ∧ y.s.size ≤ 140737488355328 := by
      intro i hi
      obtain ⟨cs', h1, h2⟩ := hel i (by omega)
      have hri : Reach 30 (D i) := hr.elem Try.underlying22 (List.mem_map.2 ⟨i, List.mem_range.2 hi, rfl⟩)
      obtain ⟨y, rfl, h3⟩ := act_open h2 hri
      exact ⟨y, h1, h3⟩
    have : Inhabited Ac := ⟨⟨0, 0, ⟨#[]⟩⟩⟩
    obtain ⟨Y, hY⟩ := choose_lt each
    refine ⟨some ⟨b, off, sp⟩, len, cap, (List.range len).map Y, rfl, ⟨by simp, fun hp => ?_, ?_⟩, hl, by omega⟩
    · have hc0 := (World.cells?_some (hY 0 hp).1).2.2 0 (by omega)
      have hsp : sp = none := by
        refine spot_none (w := W) (b := b) (off := off) (u := .int .i64 (Y 0).f) ?_
        simpa [Addr.add] using hc0
      subst hsp
      have hlt : b < W.heap.size := by
        rw [Addr.add_lit, Addr.add_lit] at hc0
        exact cell_lt hc0
      refine ⟨b, off, rfl, hlt, fun i x hx => ?_⟩
      have hi : i < len := by have := (List.getElem?_eq_some_iff.1 hx).1; simpa using this
      obtain rfl : Y i = x := by simpa [hi] using hx
      have hc := (World.cells?_some (hY i hi).1).2.2
      have g0 := hc 0 (by omega)
      have g1 := hc 1 (by omega)
      have g2 := hc 2 (by omega)
      rw [Addr.add_lit, Addr.add_lit] at g0 g1 g2
      exact ⟨g0, g1, g2⟩
    · intro x hx
      simp at hx
      obtain ⟨i, hi, rfl⟩ := hx
      exact (hY i hi).2
theorem ints_open {n : Nat} {v : Value} {x : DataW H × List MemPlace} (h : DataW.trod enc Try.prog W base spare held n 23 [v] = some x) (hr : Reach 23 x.1) :
    ∃ (ad : Option Addr) (len cap : Nat) (K : List Int), v = .slice ad len cap ∧ HoldI W.heap.size W ad len K ∧ len ≤ cap ∧ len ≤ 140737488355328 := by
  rcases open_slice1 Try.underlying23 cells_int h with ⟨hcs, hx⟩ | ⟨a, len, cap, m, n, V, D, Pl, hcs, hb, hl, hm, hmm, hx, hel⟩
  · simp at hcs
    subst hcs
    exact ⟨none, 0, 0, [], rfl, ⟨rfl, fun j x hx => by simp at hx, fun _ h => by cases h⟩, Nat.le_refl _, by omega⟩
  · simp at hcs
    subst hcs hx
    have hln := hr.len Try.underlying23
    rw [bytes_int] at hln
    simp at hln
    have hlm : len ≤ m := by rw [hmm]; split <;> omega
    obtain ⟨b, off, sp⟩ := a
    have each : ∀ i, i < len → ∃ y : Int, W.cell? ((⟨b, off, sp⟩ : Addr).add i) = some (.int .i64 y) ∧ y ≤ 9223372036854775807 := by
      intro i hi
      obtain ⟨h1, h2⟩ := hel i (by omega)
      obtain ⟨y, e1, _, w1⟩ := DataW.trod_int Try.underlying3 h2
      simp at e1
      rw [e1] at h1
      exact ⟨y, h1, (bounds_i64 w1).2⟩
    obtain ⟨Y, hY⟩ := choose_lt each
    refine ⟨some ⟨b, off, sp⟩, len, cap, (List.range len).map Y, rfl, ⟨by simp, fun j x hx => ?_, ?_⟩, hl, by omega⟩
    · have hj : j < len := by have := (List.getElem?_eq_some_iff.1 hx).1; simpa using this
      obtain rfl : Y j = x := by simpa [hj] using hx
      have hc := (hY j hj).1
      have hc0 := (hY 0 (by omega)).1
      have hsp : sp = none := spot_none (w := W) (b := b) (off := off) (by simpa [Addr.add] using hc0)
      subst hsp
      rw [Addr.add_lit] at hc
      exact ⟨b, off, rfl, hc, cell_lt hc⟩
    · intro x hx
      simp at hx
      obtain ⟨i, hi, rfl⟩ := hx
      exact (hY i hi).2
set_option maxRecDepth 100000 in
theorem keep_open {n : Nat} {cs : List Value} {x : DataW H × List MemPlace} (h : DataW.trod enc Try.prog W base spare held n 25 cs = some x) (hr : Reach 25 x.1) :
    ∃ (kn : Int) (ad : Option Addr) (len cap : Nat) (K : List Int), cs = [.int .i64 kn, .slice ad len cap] ∧ (-9223372036854775808 ≤ kn ∧ kn ≤ 9223372036854775807) ∧ HoldI W.heap.size W ad len K ∧ len ≤ cap ∧ len ≤ 140737488355328 := by
  obtain ⟨xs, m, rfl, rfl, hl, hxl, hf⟩ := DataW.trod_struct Try.underlying25 h
  rw [cells_keep] at hl
  match cs, hl with
  | [c0, c1], _ =>
    match xs, hxl with
    | [x0, x1], _ =>
      have h0 := hf 0 _ rfl
      have h1 := hf 1 _ rfl
      simp [cells_int, cells_ints] at h0 h1
      have r1 := hr.field Try.underlying25 1 rfl rfl
      obtain ⟨a, e0, _, w0⟩ := DataW.trod_int Try.underlying3 h0
      obtain ⟨ad, len, cap, K, rfl, hK, hc, hb⟩ := ints_open h1 r1
      simp at e0
      subst e0
      exact ⟨a, ad, len, cap, K, rfl, bounds_i64 w0, hK, hc, hb⟩
end
end Go.Proofs.Ytoedeoilaeppnaa
