/-
  SaX.
-/
import Derived.Test.YtdodempnkkkbmaaDoorSaT
import Derived.Test.YtdodempnkkkbmaaDoorSaO
namespace Go.Proofs.YtdodempnkkkbmaaDoor
open Go Go.ChangeShapes Go.WideShapes Go.ChangeAt Go.RowKit Go.Deep
set_option maxRecDepth 100000

theorem cells_polX : Tryd.prog.cellsOf 41 = 4 := by kernel_rfl
theorem cells_pkX : Tryd.prog.cellsOf 39 = 1 := by kernel_rfl
theorem cells_u64X : Tryd.prog.cellsOf 30 = 1 := by kernel_rfl
theorem cells_strX : Tryd.prog.cellsOf 9 = 1 := by kernel_rfl
theorem cells_intX : Tryd.prog.cellsOf 3 = 1 := by kernel_rfl
theorem cells_trX : Tryd.prog.cellsOf 32 = 2 := by kernel_rfl
theorem bytes_polX : Tryd.prog.bytesOf 41 = 40 := by kernel_rfl
theorem spot_none {w : World} {b off : Nat} {sp : Option Nat} {u : Value} (h : w.cell? (⟨b, off, sp⟩ : Addr) = some u) : sp = none := by
  cases sp with
  | none => rfl
  | some s => simp [World.cell?] at h; split at h <;> simp at h
theorem weightsAll_mem {H : Type} {P : Program} {e : TypeId} : ∀ {l : List (DataW H)} {d : DataW H}, d ∈ l → ∀ n ∈ d.weights P e, n ∈ DataW.weightsAll P e l
  | d' :: r, d, hd, n, hn => by
    simp only [DataW.weightsAll, List.mem_append]
    rcases List.mem_cons.1 hd with rfl | h
    · exact Or.inl hn
    · exact Or.inr (weightsAll_mem h n hn)
/-- All that it holds is within reach. -/
def Reach {H : Type} (t : TypeId) (d : DataW H) : Prop := ∀ n ∈ d.weights Tryd.prog t, n ≤ 140737488351232
theorem Reach.field {H : Type} {t : TypeId} {fs : Array Field} {parts : List (DataW H)} (hu : Tryd.prog.underlying t = some (.struct fs)) (h : Reach t (.agg parts)) (j : Nat) {ty : TypeId} {d : DataW H} (ht : (fs.toList.map (·.type))[j]? = some ty) (hd : parts[j]? = some d) : Reach ty d := by
  intro n hn
  refine h n ?_
  simp only [DataW.weights, hu]
  exact DataW.weights_mem_each ht hd n hn
theorem Reach.elem {H : Type} {t e : TypeId} {el sp : List (DataW H)} (hu : Tryd.prog.underlying t = some (.slice e)) (h : Reach t (.slice el sp)) {d : DataW H} (hd : d ∈ el) : Reach e d := by
  intro n hn
  refine h n ?_
  simp only [DataW.weights, hu, List.mem_cons, List.mem_append]
  exact Or.inr (Or.inl (weightsAll_mem hd n hn))
theorem Reach.len {H : Type} {t e : TypeId} {el sp : List (DataW H)} (hu : Tryd.prog.underlying t = some (.slice e)) (h : Reach t (.slice el sp)) : (el.length + sp.length) * Tryd.prog.bytesOf e ≤ 140737488351232 :=
  h _ (by simp [DataW.weights, hu])
theorem Reach.str {H : Type} {t : TypeId} {s : List UInt8} (h : Reach (H := H) t (.lit (.string s))) : s.length ≤ 140737488351232 :=
  h _ (by simp [DataW.weights])
theorem reach_of {H : Type} {ts : List TypeId} {ds : List (DataW H)} {j : Nat} {t : TypeId} {d : DataW H} (hsz : (DataW.weightsEach Tryd.prog ts ds).all (· ≤ reachBytes) = true) (ht : ts[j]? = some t) (hd : ds[j]? = some d) : Reach t d := by
  intro n hn
  have := List.all_eq_true.1 hsz n (DataW.weights_mem_each ht hd n hn)
  exact of_decide_eq_true this
theorem size_list (s : ByteArray) : s.data.toList.length = s.size := by rw [Array.length_toList]; rfl
section
variable {H : Type} {enc : TypeId × Value → H} {W : World} {base : Nat} {spare : Nat → Bool} {held : Bool}
theorem trace_open {n : Nat} {cs : List Value} {x : DataW H × List MemPlace} (h : DataW.trod enc Tryd.prog W base spare held n 32 cs = some x) :
    ∃ hi lo : BitVec 64, cs = [.int .u64 (bvI hi), .int .u64 (bvI lo)] := by
  obtain ⟨xs, m, rfl, rfl, hl, hxl, hf⟩ := DataW.trod_struct Tryd.underlying32 h
  rw [cells_trX] at hl
  match cs, hl with
  | [c0, c1], _ =>
    match xs, hxl with
    | [x0, x1], _ =>
      have h0 := hf 0 _ rfl
      have h1 := hf 1 _ rfl
      simp [cells_u64X] at h0 h1
      obtain ⟨a, e0, _, w0⟩ := DataW.trod_int Tryd.underlying30 h0
      obtain ⟨b, e1, _, w1⟩ := DataW.trod_int Tryd.underlying30 h1
      simp at e0 e1
      subst e0 e1
      have b0 := bounds_u64 w0
      have b1 := bounds_u64 w1
      exact ⟨BitVec.ofInt 64 a, BitVec.ofInt 64 b, by rw [bvI_of a b0.1 (by omega), bvI_of b b1.1 (by omega)]⟩
theorem pol_open {n : Nat} {cs : List Value} {x : DataW H × List MemPlace} (h : DataW.trod enc Tryd.prog W base spare held n 41 cs = some x) (hr : Reach 41 x.1) :
    ∃ a : Pol, cs = polC a ∧ a.name.size ≤ 140737488355328 := by
  obtain ⟨xs, m, rfl, rfl, hl, hxl, hf⟩ := DataW.trod_struct Tryd.underlying41 h
  rw [cells_polX] at hl
  match cs, hl with
  | [c0, c1, c2, c3], _ =>
    match xs, hxl with
    | [x0, x1, x2, x3], _ =>
      have h0 := hf 0 _ rfl
      have h1 := hf 1 _ rfl
      have h2 := hf 2 _ rfl
      have h3 := hf 3 _ rfl
      simp [cells_pkX, cells_u64X, cells_strX, cells_intX] at h0 h1 h2 h3
      have r2 := hr.field Tryd.underlying41 2 rfl rfl
      obtain ⟨k, e0, _, _⟩ := DataW.trod_int Tryd.underlying39 h0
      obtain ⟨nn, e1, _, _⟩ := DataW.trod_int Tryd.underlying30 h1
      obtain ⟨s, e2, d2, _⟩ := DataW.trod_string Tryd.underlying9 h2
      obtain ⟨q, e3, _, _⟩ := DataW.trod_int Tryd.underlying3 h3
      simp at e0 e1 e2 e3
      subst e0 e1 e2 e3
      rw [d2] at r2
      have s2 := r2.str
      rw [size_list] at s2
      exact ⟨⟨k, nn, s, q⟩, rfl, by simp only; omega⟩
theorem pols_open {n : Nat} {v : Value} {x : DataW H × List MemPlace} (h : DataW.trod enc Tryd.prog W base spare held n 42 [v] = some x) (hr : Reach 42 x.1) :
    ∃ (ad : Option Addr) (cap : Nat) (X : List Pol), v = .slice ad X.length cap ∧ PolAt W ad X.length X ∧ (∀ y ∈ X, y.name.size ≤ 140737488355328) ∧ X.length * 40 ≤ 140737488351232 ∧ X.length ≤ cap := by
  rcases open_slice Tryd.underlying42 h with ⟨hcs, hx⟩ | ⟨a, len, cap, m, n, D, Pl, hcs, hb, hl, hm, hmm, hx, hel⟩
  · simp at hcs
    subst hcs
    exact ⟨none, 0, [], rfl, ⟨rfl, fun hp => by simp at hp⟩, (fun x hx => by cases hx), by simp, by simp⟩
  · simp at hcs
    subst hcs hx
    have hln := hr.len Tryd.underlying42
    rw [bytes_polX] at hln
    simp at hln
    have hlm : len ≤ m := by rw [hmm]; split <;> omega
    rw [cells_polX] at hel
    have each : ∀ i, i < len → ∃ y : Pol, W.cells? base (a.add (i * 4)) 4 = some (polC y) ∧ y.name.size ≤ 140737488355328 := by
      intro i hi
      obtain ⟨cs', h1, h2⟩ := hel i (by omega)
      have hri : Reach 41 (D i) := hr.elem Tryd.underlying42 (List.mem_map.2 ⟨i, List.mem_range.2 hi, rfl⟩)
      obtain ⟨y, rfl, h3⟩ := pol_open h2 hri
      exact ⟨y, h1, h3⟩
    have : Inhabited Pol := ⟨⟨0, 0, ByteArray.empty, 0⟩⟩
    obtain ⟨Y, hY⟩ := choose_lt each
    have hlen : ((List.range len).map Y).length = len := by simp
    refine ⟨some a, cap, (List.range len).map Y, by rw [hlen], ?_, ?_, by rw [hlen]; omega, by rw [hlen]; omega⟩
    · refine ⟨rfl, fun hp => ?_⟩
      rw [hlen] at hp
      obtain ⟨b, off, sp⟩ := a
      have hc0 := (World.cells?_some (hY 0 hp).1).2.2 0 (by omega)
      have hsp : sp = none := by
        refine spot_none (w := W) (b := b) (off := off) (u := (polC (Y 0))[0]'(by simp [polC])) ?_
        simpa [Addr.add, polC] using hc0
      subst hsp
      have hlt : b < W.heap.size := by
        rw [Addr.add_lit, Addr.add_lit] at hc0
        exact World.block_lt_of_cell? W _ hc0
      refine ⟨b, off, rfl, hlt, fun i hi j v hv => ?_⟩
      rw [hlen] at hi
      have hc := (World.cells?_some (hY i hi).1).2.2
      have e : ((List.range len).map Y)[i]'(by rw [hlen]; exact hi) = Y i := by simp
      rw [e] at hv
      have g := hc j (polC_lt hv)
      rw [Addr.add_lit, Addr.add_lit] at g
      exact g.trans hv
    · intro y hy
      simp at hy
      obtain ⟨i, hi, rfl⟩ := hy
      exact (hY i hi).2
end
end Go.Proofs.YtdodempnkkkbmaaDoor
