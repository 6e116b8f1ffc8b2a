/-
  Merged by merge.py: XJ, XK, XL, XM, XO.
-/
import Derived.Test.YthcghpbkadlliabGreatDoorRows
import Derived.Test.YthcghpbkadlliabGreatDoorMa36
import Derived.ProofKit
import Derived.OpenShut
import Derived.SizedLaws
import Derived.Deep.DeepHandedRow
import Derived.Deep.Slices
import Derived.Lib.LaidU8T
import Derived.Carry
import Derived.LaidLaws
namespace Go.Proofs.YthcghpbkadlliabGreatDoor
open Go.ChangeShapes Go.WideShapes Go.ChangeAt Go.RowKit Go.Deep Go.Shelf
theorem ownK : ownKnob Tryz.prog.godebug = none := by kernel_rfl
theorem laidOutK : laidOutB Tryz.prog = true := by kernel_rfl
theorem cells_id : Tryz.prog.cellsOf 34 = 1 := by kernel_rfl
theorem cells_u64 : Tryz.prog.cellsOf 31 = 1 := by kernel_rfl
theorem cells_i64 : Tryz.prog.cellsOf 2 = 1 := by kernel_rfl
theorem cells_str : Tryz.prog.cellsOf 9 = 1 := by kernel_rfl
theorem cells_kind : Tryz.prog.cellsOf 36 = 1 := by kernel_rfl
theorem cells_status : Tryz.prog.cellsOf 37 = 1 := by kernel_rfl
theorem cells_vkind : Tryz.prog.cellsOf 52 = 1 := by kernel_rfl
theorem cells_links : Tryz.prog.cellsOf 35 = 1 := by kernel_rfl
theorem cells_attrs : Tryz.prog.cellsOf 38 = 1 := by kernel_rfl
theorem cells_events : Tryz.prog.cellsOf 39 = 1 := by kernel_rfl
theorem cells_trace : Tryz.prog.cellsOf 33 = 2 := by kernel_rfl
theorem cells_value : Tryz.prog.cellsOf 54 = 3 := by kernel_rfl
theorem cells_attr : Tryz.prog.cellsOf 56 = 4 := by kernel_rfl
theorem cells_event : Tryz.prog.cellsOf 58 = 2 := by kernel_rfl
theorem cells_span : Tryz.prog.cellsOf 41 = 13 := by kernel_rfl
theorem bytes_id : Tryz.prog.bytesOf 34 = 8 := by kernel_rfl
theorem bytes_attr : Tryz.prog.bytesOf 56 = 48 := by kernel_rfl
theorem bytes_event : Tryz.prog.bytesOf 58 = 24 := by kernel_rfl

def u8ren : Ren := ⟨fun n => n, fun | 5 => 5 | 119 => 192 | 138 => 194 | 139 => 195 | n => n, fun | 3 => 1 | 4 => 2 | n => n⟩
theorem u8types : U8Types Tryz.prog u8ren := ⟨Tryz.underlying5, Tryz.underlying192, Tryz.underlying194, Tryz.underlying195⟩
theorem u8extra : U8Extra Tryz.prog u8ren := ⟨by kernel_rfl, by kernel_rfl, by kernel_rfl, by kernel_rfl, by kernel_rfl, by kernel_rfl, by kernel_rfl⟩
set_option maxRecDepth 100000 in
theorem first_eq : Rows.laid_unicode_utf8_first = Lib.firstData := by kernel_rfl
set_option maxRecDepth 100000 in
theorem accept_eq : (Rows.laid_unicode_utf8_acceptRanges : DataW Unit) = Lib.acceptData := by kernel_rfl
theorem tables {W : World} (h : laidMet Tryz.prog [("unicode/utf8.acceptRanges", Rows.laid_unicode_utf8_acceptRanges), ("unicode/utf8.first", Rows.laid_unicode_utf8_first)] W) : Tabs W := by
  have h1 := Lib.laidMet.reads h (.head _)
  have h2 := Lib.laidMet.reads h (.tail _ (.head _))
  rw [accept_eq] at h1
  rw [first_eq] at h2
  exact utf8Tabs_of_readsT u8types u8extra h2 h1
theorem et : Tryz.prog.globalNamed "errors.errorType" = some 0 := by kernel_rfl
theorem rt : (Tryz.prog.cutTypes.find? (·.1 == "internal/reflectlite.rtype")).map (·.2) = some 179 := by kernel_rfl
theorem tsize : Tryz.prog.types.size = 336 - 100 := by kernel_rfl
theorem oneRow : ((List.range (336 - 100)).filter fun t => Tryz.prog.rowNamed t [101, 114, 114, 111, 114]) = [26] := by kernel_rfl
theorem handle {W : World} (h : handlesMet Tryz.prog [("errors.errorType", Rows.laid_errors_errorType)] W) : ErrT W := by
  obtain ⟨name, u, ty, e1, e2, e3, e4, e5⟩ := h _ (List.mem_singleton.2 rfl)
  have en : name = [101, 114, 114, 111, 114] := (Option.some.inj e1).symm
  subst en
  obtain rfl := Option.some.inj (rt.symm.trans e2)
  have hm : ty ∈ (List.range (336 - 100)).filter fun t => Tryz.prog.rowNamed t [101, 114, 114, 111, 114] := List.mem_filter.2 ⟨List.mem_range.2 (by rw [← tsize]; exact e3), e4⟩
  rw [oneRow] at hm
  obtain rfl := List.mem_singleton.1 hm
  have hh : typeHandle Tryz.prog 26 = .pointer (some ⟨4, 26, none⟩) := by kernel_rfl
  rw [hh] at e5
  have := World.var?_cell et e5 0
  unfold ErrT
  simpa using this
/-! A world for the witness: the settled one, the two tables holding what their initialisers lay. -/
def layFirst : Obj → Obj
  | .cells _ t frozen => .cells (Go.Pinned.utf8FirstZ.map fun (n : Nat) => Value.int .u8 (n : Int)).toArray t frozen
  | o => o
def layAccept : Obj → Obj
  | .cells _ t frozen => .cells #[.int .u8 128, .int .u8 191, .int .u8 160, .int .u8 191, .int .u8 128, .int .u8 159, .int .u8 144, .int .u8 191, .int .u8 128, .int .u8 143, .int .u8 0, .int .u8 0, .int .u8 0, .int .u8 0, .int .u8 0, .int .u8 0, .int .u8 0, .int .u8 0, .int .u8 0, .int .u8 0, .int .u8 0, .int .u8 0, .int .u8 0, .int .u8 0, .int .u8 0, .int .u8 0, .int .u8 0, .int .u8 0, .int .u8 0, .int .u8 0, .int .u8 0, .int .u8 0] t frozen
  | o => o
def layErr : Obj → Obj
  | .cells _ t frozen => .cells #[.iface 179 (.agg #[.pointer (some ⟨4, 26, none⟩)])] t frozen
  | o => o
def laying (w : World) : World := { w with heap := ((w.heap.modify 1 layFirst).modify 2 layAccept).modify 0 layErr }

theorem weightsAll_mem {H : Type} {P : Program} {e : TypeId} : ∀ {l : List (DataW H)} {d : DataW H}, d ∈ l → ∀ n ∈ d.weights P e, n ∈ DataW.weightsAll P e l
  | d' :: r, d, hd, n, hn => by
    simp only [DataW.weightsAll, List.mem_append]
    rcases List.mem_cons.1 hd with rfl | h
    · exact Or.inl hn
    · exact Or.inr (weightsAll_mem h n hn)
/-- All that it holds is within reach. -/
def Reach {H : Type} (t : TypeId) (d : DataW H) : Prop := ∀ n ∈ d.weights Tryz.prog t, n ≤ 140737488351232
theorem Reach.field {H : Type} {t : TypeId} {fs : Array Field} {parts : List (DataW H)} (hu : Tryz.prog.underlying t = some (.struct fs)) (h : Reach t (.agg parts)) (j : Nat) {ty : TypeId} {d : DataW H} (ht : (fs.toList.map (·.type))[j]? = some ty) (hd : parts[j]? = some d) : Reach ty d := by
  intro n hn
  refine h n ?_
  simp only [DataW.weights, hu]
  exact DataW.weights_mem_each ht hd n hn
theorem Reach.elem {H : Type} {t e : TypeId} {el sp : List (DataW H)} (hu : Tryz.prog.underlying t = some (.slice e)) (h : Reach t (.slice el sp)) {d : DataW H} (hd : d ∈ el) : Reach e d := by
  intro n hn
  refine h n ?_
  simp only [DataW.weights, hu, List.mem_cons, List.mem_append]
  exact Or.inr (Or.inl (weightsAll_mem hd n hn))
theorem Reach.len {H : Type} {t e : TypeId} {el sp : List (DataW H)} (hu : Tryz.prog.underlying t = some (.slice e)) (h : Reach t (.slice el sp)) : (el.length + sp.length) * Tryz.prog.bytesOf e ≤ 140737488351232 :=
  h _ (by simp [DataW.weights, hu])
theorem Reach.str {H : Type} {t : TypeId} {s : List UInt8} (h : Reach (H := H) t (.lit (.string s))) : s.length ≤ 140737488351232 :=
  h _ (by simp [DataW.weights])
theorem reach_of {H : Type} {ts : List TypeId} {ds : List (DataW H)} {j : Nat} {t : TypeId} {d : DataW H} (hsz : (DataW.weightsEach Tryz.prog ts ds).all (· ≤ reachBytes) = true) (ht : ts[j]? = some t) (hd : ds[j]? = some d) : Reach t d := by
  intro n hn
  have := List.all_eq_true.1 hsz n (DataW.weights_mem_each ht hd n hn)
  exact of_decide_eq_true this
theorem size_list (s : ByteArray) : s.data.toList.length = s.size := by rw [Array.length_toList]; rfl

section
variable {H : Type} {enc : TypeId × Value → H} {W : World} {base : Nat} {spare : Nat → Bool} {held : Bool}
set_option maxRecDepth 100000 in
theorem links_open {n : Nat} {v : Value} {x : DataW H × List MemPlace} (h : DataW.trod enc Tryz.prog W base spare held n 35 [v] = some x) (hr : Reach 35 x.1) :
    ∃ (ad : Option Addr) (cap : Nat) (X : List Int), v = .slice ad X.length cap ∧ HoldsV W ad X.length (intsV .u64 X) ∧ (∀ y ∈ X, 0 ≤ y ∧ y < 18446744073709551616) ∧ X.length ≤ 140737488355328 := by
  rcases open_slice1 Tryz.underlying35 cells_id h with ⟨hcs, hx⟩ | ⟨a, len, cap, m, n, V, D, Pl, hcs, hb, hl, hm, hmm, hx, hel⟩
  · simp at hcs
    subst hcs
    exact ⟨none, 0, [], rfl, HoldsV.nil W, (fun x hx => by cases hx), by simp⟩
  · simp at hcs
    subst hcs hx
    have hln := hr.len Tryz.underlying35
    rw [bytes_id] at hln
    simp at hln
    have hlm : len ≤ m := by rw [hmm]; split <;> omega
    have each : ∀ i, i < len → ∃ y : Int, W.cell? (a.add i) = some (.int .u64 y) ∧ 0 ≤ y ∧ y < 18446744073709551616 := by
      intro i hi
      obtain ⟨h1, h2⟩ := hel i (by omega)
      obtain ⟨y, e1, _, w1⟩ := DataW.trod_int Tryz.underlying34 h2
      simp at e1
      rw [e1] at h1
      have := bounds_u64 w1
      exact ⟨y, h1, this.1, by omega⟩
    obtain ⟨Y, hY⟩ := choose_lt each
    have hlen : ((List.range len).map Y).length = len := by simp
    refine ⟨some a, cap, (List.range len).map Y, by rw [hlen], ?_, ?_, by rw [hlen]; omega⟩
    · rw [hlen]
      refine ⟨by simp [intsV], fun j u hj => ⟨a, rfl, ?_⟩⟩
      have hj2 : j < len := by have := (List.getElem?_eq_some_iff.1 hj).1; simpa [intsV] using this
      rw [(hY j hj2).1]
      simp [intsV, hj2] at hj
      rw [hj]
    · intro y hy
      simp at hy
      obtain ⟨i, hi, rfl⟩ := hy
      exact (hY i hi).2
theorem spot_none {w : World} {b off : Nat} {sp : Option Nat} {u : Value} (h : w.cell? (⟨b, off, sp⟩ : Addr) = some u) : sp = none := by
  cases sp with
  | none => rfl
  | some s => simp [World.cell?] at h; split at h <;> simp at h

set_option maxRecDepth 100000 in
theorem attr_open {n : Nat} {cs : List Value} {x : DataW H × List MemPlace} (h : DataW.trod enc Tryz.prog W base spare held n 56 cs = some x) (hr : Reach 56 x.1) :
    ∃ a : AttrD, cs = attrC a ∧ (a.key.size ≤ 140737488355328 ∧ a.text.size ≤ 140737488355328) ∧ (-9223372036854775808 ≤ a.num ∧ a.num ≤ 9223372036854775807) := by
  obtain ⟨xs, m, rfl, rfl, hl, hxl, hf⟩ := DataW.trod_struct Tryz.underlying56 h
  rw [cells_attr] at hl
  match cs, hl with
  | [c0, c1, c2, c3], _ =>
    match xs, hxl with
    | [x0, x1], _ =>
      have h0 := hf 0 _ rfl
      have h1 := hf 1 _ rfl
      simp [cells_str, cells_value] at h0 h1
      have r0 := hr.field Tryz.underlying56 0 rfl rfl
      have r1 := hr.field Tryz.underlying56 1 rfl rfl
      obtain ⟨k, e0, d0, _⟩ := DataW.trod_string Tryz.underlying9 h0
      simp at e0
      obtain ⟨ys, m1, rfl, hx1, hl1, hyl, hg⟩ := DataW.trod_struct Tryz.underlying54 h1
      match ys, hyl with
      | [y0, y1, y2], _ =>
        have g0 := hg 0 _ rfl
        have g1 := hg 1 _ rfl
        have g2 := hg 2 _ rfl
        simp [cells_vkind, cells_str, cells_i64] at g0 g1 g2
        obtain ⟨kd, e1, _, _⟩ := DataW.trod_int Tryz.underlying52 g0
        obtain ⟨s, e2, d2, _⟩ := DataW.trod_string Tryz.underlying9 g1
        obtain ⟨nu, e3, _, w3⟩ := DataW.trod_int Tryz.underlying2 g2
        simp at e1 e2 e3
        subst e0 e1 e2 e3
        have b := bounds_i64 w3
        rw [d0] at r0
        have s0 := r0.str
        rw [hx1] at r1
        have r11 := r1.field Tryz.underlying54 1 rfl rfl
        rw [d2] at r11
        have s1 := r11.str
        rw [size_list] at s0 s1
        exact ⟨⟨k, kd, s, nu⟩, rfl, ⟨by simp only; omega, by simp only; omega⟩, b.1, b.2⟩
set_option maxRecDepth 100000 in
theorem event_open {n : Nat} {cs : List Value} {x : DataW H × List MemPlace} (h : DataW.trod enc Tryz.prog W base spare held n 58 cs = some x) (hr : Reach 58 x.1) :
    ∃ a : EventD, cs = eventC a ∧ a.name.size ≤ 140737488355328 := by
  obtain ⟨xs, m, rfl, rfl, hl, hxl, hf⟩ := DataW.trod_struct Tryz.underlying58 h
  rw [cells_event] at hl
  match cs, hl with
  | [c0, c1], _ =>
    match xs, hxl with
    | [x0, x1], _ =>
      have h0 := hf 0 _ rfl
      have h1 := hf 1 _ rfl
      simp [cells_str, cells_i64] at h0 h1
      have r1 := hr.field Tryz.underlying58 1 rfl rfl
      obtain ⟨m0, e0, _, _⟩ := DataW.trod_int Tryz.underlying2 h0
      obtain ⟨k, e1, d1, _⟩ := DataW.trod_string Tryz.underlying9 h1
      simp at e0 e1
      subst e0 e1
      rw [d1] at r1
      have s1 := r1.str
      rw [size_list] at s1
      exact ⟨⟨m0, k⟩, rfl, by simp only; omega⟩

set_option maxRecDepth 100000 in
theorem attrs_open {n : Nat} {v : Value} {x : DataW H × List MemPlace} (h : DataW.trod enc Tryz.prog W base spare held n 38 [v] = some x) (hr : Reach 38 x.1) :
    ∃ (ad : Option Addr) (cap : Nat) (X : List AttrD), v = .slice ad X.length cap ∧ AttrsAt W ad X.length X ∧ (∀ y ∈ X, (y.key.size ≤ 140737488355328 ∧ y.text.size ≤ 140737488355328) ∧ (-9223372036854775808 ≤ y.num ∧ y.num ≤ 9223372036854775807)) ∧ X.length ≤ 140737488355328 := by
  rcases open_slice Tryz.underlying38 h with ⟨hcs, hx⟩ | ⟨a, len, cap, m, n, D, Pl, hcs, hb, hl, hm, hmm, hx, hel⟩
  · simp at hcs
    subst hcs
    exact ⟨none, 0, [], rfl, ⟨rfl, fun hp => by simp at hp⟩, (fun x hx => by cases hx), by simp⟩
  · simp at hcs
    subst hcs hx
    have hln := hr.len Tryz.underlying38
    rw [bytes_attr] at hln
    simp at hln
    have hlm : len ≤ m := by rw [hmm]; split <;> omega
    rw [cells_attr] at hel
    have each : ∀ i, i < len → ∃ y : AttrD, W.cells? base (a.add (i * 4)) 4 = some (attrC y) ∧ (y.key.size ≤ 140737488355328 ∧ y.text.size ≤ 140737488355328) ∧ (-9223372036854775808 ≤ y.num ∧ y.num ≤ 9223372036854775807) := by
      intro i hi
      obtain ⟨cs', h1, h2⟩ := hel i (by omega)
      have hri : Reach 56 (D i) := hr.elem Tryz.underlying38 (List.mem_map.2 ⟨i, List.mem_range.2 hi, rfl⟩)
      obtain ⟨y, rfl, h3⟩ := attr_open h2 hri
      exact ⟨y, h1, h3⟩
    have : Inhabited AttrD := ⟨⟨ByteArray.empty, 0, ByteArray.empty, 0⟩⟩
    obtain ⟨Y, hY⟩ := choose_lt each
    have hlen : ((List.range len).map Y).length = len := by simp
    refine ⟨some a, cap, (List.range len).map Y, by rw [hlen], ?_, ?_, by rw [hlen]; omega⟩
    · refine ⟨rfl, fun hp => ?_⟩
      rw [hlen] at hp
      obtain ⟨b, off, sp⟩ := a
      have hc0 := (World.cells?_some (hY 0 hp).1).2.2 0 (by omega)
      have hsp : sp = none := by
        refine spot_none (w := W) (b := b) (off := off) (u := (attrC (Y 0))[0]'(by simp [attrC])) ?_
        simpa [Addr.add, attrC] using hc0
      subst hsp
      refine ⟨b, off, rfl, fun i hi => ?_⟩
      rw [hlen] at hi
      have hc := (World.cells?_some (hY i hi).1).2.2
      have e : ((List.range len).map Y)[i]'(by rw [hlen]; exact hi) = Y i := by simp
      rw [e]
      have g0 := hc 0 (by omega)
      have g1 := hc 1 (by omega)
      have g2 := hc 2 (by omega)
      have g3 := hc 3 (by omega)
      rw [Addr.add_lit, Addr.add_lit] at g0 g1 g2 g3
      exact ⟨g0, g1, g2, g3⟩
    · intro y hy
      simp at hy
      obtain ⟨i, hi, rfl⟩ := hy
      exact (hY i hi).2

set_option maxRecDepth 100000 in
theorem events_open {n : Nat} {v : Value} {x : DataW H × List MemPlace} (h : DataW.trod enc Tryz.prog W base spare held n 39 [v] = some x) (hr : Reach 39 x.1) :
    ∃ (ad : Option Addr) (cap : Nat) (X : List EventD), v = .slice ad X.length cap ∧ EventsAt W ad X.length X ∧ (∀ y ∈ X, y.name.size ≤ 140737488355328) ∧ X.length ≤ 140737488355328 := by
  rcases open_slice Tryz.underlying39 h with ⟨hcs, hx⟩ | ⟨a, len, cap, m, n, D, Pl, hcs, hb, hl, hm, hmm, hx, hel⟩
  · simp at hcs
    subst hcs
    exact ⟨none, 0, [], rfl, ⟨rfl, fun hp => by simp at hp⟩, (fun x hx => by cases hx), by simp⟩
  · simp at hcs
    subst hcs hx
    have hln := hr.len Tryz.underlying39
    rw [bytes_event] at hln
    simp at hln
    have hlm : len ≤ m := by rw [hmm]; split <;> omega
    rw [cells_event] at hel
    have each : ∀ i, i < len → ∃ y : EventD, W.cells? base (a.add (i * 2)) 2 = some (eventC y) ∧ y.name.size ≤ 140737488355328 := by
      intro i hi
      obtain ⟨cs', h1, h2⟩ := hel i (by omega)
      have hri : Reach 58 (D i) := hr.elem Tryz.underlying39 (List.mem_map.2 ⟨i, List.mem_range.2 hi, rfl⟩)
      obtain ⟨y, rfl, h3⟩ := event_open h2 hri
      exact ⟨y, h1, h3⟩
    have : Inhabited EventD := ⟨⟨0, ByteArray.empty⟩⟩
    obtain ⟨Y, hY⟩ := choose_lt each
    have hlen : ((List.range len).map Y).length = len := by simp
    refine ⟨some a, cap, (List.range len).map Y, by rw [hlen], ?_, ?_, by rw [hlen]; omega⟩
    · refine ⟨rfl, fun hp => ?_⟩
      rw [hlen] at hp
      obtain ⟨b, off, sp⟩ := a
      have hc0 := (World.cells?_some (hY 0 hp).1).2.2 0 (by omega)
      have hsp : sp = none := by
        refine spot_none (w := W) (b := b) (off := off) (u := (eventC (Y 0))[0]'(by simp [eventC])) ?_
        simpa [Addr.add, eventC] using hc0
      subst hsp
      refine ⟨b, off, rfl, fun i hi => ?_⟩
      rw [hlen] at hi
      have hc := (World.cells?_some (hY i hi).1).2.2
      have e : ((List.range len).map Y)[i]'(by rw [hlen]; exact hi) = Y i := by simp
      rw [e]
      have g0 := hc 0 (by omega)
      have g1 := hc 1 (by omega)
      rw [Addr.add_lit, Addr.add_lit] at g0 g1
      exact ⟨g0, g1⟩
    · intro y hy
      simp at hy
      obtain ⟨i, hi, rfl⟩ := hy
      exact (hY i hi).2

set_option maxRecDepth 100000 in
set_option maxHeartbeats 1000000 in
theorem span_open {n : Nat} {cs : List Value} {x : DataW H × List MemPlace} (h : DataW.trod enc Tryz.prog W base spare held n 41 cs = some x) (hr : Reach 41 x.1) :
    ∃ (a : Sp) (p : Pl), cs = (spC a p).toList ∧ SpAt W a p ∧ a.Small ∧ a.Fits := by
  obtain ⟨xs, m, rfl, rfl, hl, hxl, hf⟩ := DataW.trod_struct Tryz.underlying41 h
  rw [cells_span] at hl
  match cs, hl with
  | [c0, c1, c2, c3, c4, c5, c6, c7, c8, c9, c10, c11, c12], _ =>
    match xs, hxl with
    | [x0, x1, x2, x3, x4, x5, x6, x7, x8, x9, x10, x11], _ =>
      have h0 := hf 0 _ rfl
      have h1 := hf 1 _ rfl
      have h2 := hf 2 _ rfl
      have h3 := hf 3 _ rfl
      have h4 := hf 4 _ rfl
      have h5 := hf 5 _ rfl
      have h6 := hf 6 _ rfl
      have h7 := hf 7 _ rfl
      have h8 := hf 8 _ rfl
      have h9 := hf 9 _ rfl
      have h10 := hf 10 _ rfl
      have h11 := hf 11 _ rfl
      simp [cells_str, cells_i64, cells_trace, cells_id, cells_links, cells_kind, cells_status, cells_attrs, cells_events] at h0 h1 h2 h3 h4 h5 h6 h7 h8 h9 h10 h11
      have r3 := hr.field Tryz.underlying41 3 rfl rfl
      have r4 := hr.field Tryz.underlying41 4 rfl rfl
      have r5 := hr.field Tryz.underlying41 5 rfl rfl
      have r10 := hr.field Tryz.underlying41 10 rfl rfl
      have r11 := hr.field Tryz.underlying41 11 rfl rfl
      obtain ⟨ys, m1, rfl, hx0, hl0, hyl, hg⟩ := DataW.trod_struct Tryz.underlying33 h0
      match ys, hyl with
      | [y0, y1], _ =>
        have g0 := hg 0 _ rfl
        have g1 := hg 1 _ rfl
        simp [cells_u64] at g0 g1
        obtain ⟨hi, e0, _, w0⟩ := DataW.trod_int Tryz.underlying31 g0
        obtain ⟨lo, e1, _, w1⟩ := DataW.trod_int Tryz.underlying31 g1
        obtain ⟨id, e2, _, w2⟩ := DataW.trod_int Tryz.underlying34 h1
        obtain ⟨par, e3, _, w3⟩ := DataW.trod_int Tryz.underlying34 h2
        obtain ⟨la, lc, X, e4, HX, FX, LX⟩ := links_open h3 r3
        obtain ⟨svc, e5, d5, _⟩ := DataW.trod_string Tryz.underlying9 h4
        obtain ⟨op, e6, d6, _⟩ := DataW.trod_string Tryz.underlying9 h5
        obtain ⟨kd, e7, _, _⟩ := DataW.trod_int Tryz.underlying36 h6
        obtain ⟨st, e8, _, _⟩ := DataW.trod_int Tryz.underlying37 h7
        obtain ⟨s0, e9, _, _⟩ := DataW.trod_int Tryz.underlying2 h8
        obtain ⟨f0, e10, _, _⟩ := DataW.trod_int Tryz.underlying2 h9
        obtain ⟨aa, ac, A, e11, HA, FA, LA⟩ := attrs_open h10 r10
        obtain ⟨ea, ec, E, e12, HE, FE, LE⟩ := events_open h11 r11
        simp at e0 e1 e2 e3 e5 e6 e7 e8 e9 e10
        subst e0 e1 e2 e3 e4 e5 e6 e7 e8 e9 e10 e11 e12
        have b0 := bounds_u64 w0
        have b1 := bounds_u64 w1
        have b2 := bounds_u64 w2
        have b3 := bounds_u64 w3
        rw [d5] at r4
        rw [d6] at r5
        have z4 := r4.str
        have z5 := r5.str
        rw [size_list] at z4 z5
        exact ⟨⟨hi, lo, id, par, X, svc, op, kd, st, s0, f0, A, E⟩, ⟨la, lc, aa, ac, ea, ec⟩, rfl, ⟨HX, HA, HE, LX, LA, LE⟩, ⟨by simp only; omega, by simp only; omega, fun x hx => (FA x hx).1, FE⟩,
          ⟨⟨b0.1, by simp only; omega⟩, ⟨b1.1, by simp only; omega⟩, ⟨b2.1, by simp only; omega⟩, ⟨b3.1, by simp only; omega⟩, FX, fun x hx => (FA x hx).2⟩⟩
end
end Go.Proofs.YthcghpbkadlliabGreatDoor

namespace Go.Proofs.YthcghpbkadlliabGreatDoor
open Go.Shelf Go.RowKit
set_option maxRecDepth 100000

end Go.Proofs.YthcghpbkadlliabGreatDoor

namespace Go.Proofs.YthcghpbkadlliabGreatDoor
open Go.Shelf Go.RowKit
set_option maxRecDepth 100000

theorem iter_sized {K : List Int} {b : Nat} : ∀ (n : Nat) (acc : List Sp) (s : Dst) (L : List Sp) (s' : Dst), Inv K b s → iterF (fun _ => spanC1) n acc K s = .ok (L, s') → (∀ a ∈ acc, a.Sized) → ∀ a ∈ L, a.Sized := by
  intro n
  induction n with
  | zero => intro acc s L s' _ h ha; simp [iterF] at h; rw [← h.1]; exact ha
  | succ n ih =>
    intro acc s L s' hI h ha
    obtain ⟨v, s1, h1, h2⟩ := bind_ok h
    obtain ⟨u, s0, h3, h4⟩ := step_ok h1
    have hv : v = u ∧ s1 = s0 := by
      split at h4
      · simp at h4; exact ⟨h4.1.symm, h4.2.symm⟩
      · simp at h4
    obtain ⟨rfl, rfl⟩ := hv
    refine ih _ s1 L s' (sound_span K b s v s1 hI h3).1 h2 ?_
    intro a hm; simp at hm; rcases hm with hm | rfl
    · exact ha a hm
    · exact span_fit hI h3
theorem dec_sized {K : List Int} (hK : ∀ x ∈ K, 0 ≤ x ∧ x < 256) {l : List Sp} (h : decB K = .ok l) : ∀ a ∈ l, a.Sized := by
  unfold decB at h
  split at h
  · simp at h
  rename_i g1
  split at h
  · simp at h
  rename_i g2
  have hl3 : 3 ≤ K.length := by
    have := congrArg List.length (Classical.not_not.mp g2)
    simp [headL] at this
    omega
  split at h
  · simp at h
  rename_i l' s ht
  have hll : l' = l := by
    split at h
    · simp at h
    split at h
    · simp at h
    split at h
    · simp at h
    · simpa using h
  subst hll
  obtain ⟨L1, s1, r1, h1⟩ := bind_ok ht
  obtain ⟨L2, s2, r2, h2⟩ := bind_ok h1
  have tr := top_read hK hl3 (by omega) r1 r2
  obtain ⟨n, t, u1, u2⟩ := bind_ok h2
  exact iter_sized n [] t l' s (sound_count 500 53 K _ s2 n t tr.1 u1).1 u2 (by simp)
theorem flat_sp : ∀ (A : List (Sp × Pl)) (i : Nat) (hi : i < A.length) (j : Nat) (u : Value), (spC A[i].1 A[i].2)[j]? = some u → (A.flatMap spCL)[i * 13 + j]? = some u := by
  intro A
  induction A with
  | nil => intro i hi; simp at hi
  | cons p r ih =>
    intro i hi j u hj
    have h13 : (spCL p).length = 13 := rfl
    have hjl : j < 13 := by have := (Array.getElem?_eq_some_iff.1 hj).1; simpa [spC] using this
    rw [List.flatMap_cons]
    cases i with
    | zero =>
      simp only [List.getElem_cons_zero] at hj
      rw [Nat.zero_mul, Nat.zero_add, List.getElem?_append_left (by omega)]
      unfold spCL
      rw [← Array.getElem?_toList] at hj
      exact hj
    | succ i =>
      simp only [List.getElem_cons_succ] at hj
      rw [List.getElem?_append_right (by omega), h13, show (i + 1) * 13 + j - 13 = i * 13 + j by omega]
      exact ih i (by simpa using hi) j u hj
theorem DecOk.sps {base : Nat} {l : List Sp} {ao : Option Addr} {n cp : Nat} {w : World} (h : DecOk base l (.slice ao n cp) w) : n = l.length ∧ n ≤ 500 ∧ ∃ P, SpsAt w ao l.length l P := by
  obtain ⟨A, rfl, h2, h3, h4⟩ := h
  have hn := own_len h3
  refine ⟨by simpa using hn, by omega, fun i => (A[i]?.map Prod.snd).getD ⟨none, 0, none, 0, none, 0⟩, ⟨rfl, fun hp => ?_, fun i hi => ?_⟩⟩
  · obtain ⟨g, cap, ev, _, _, _, hcl⟩ := own_some2 h3 (by simpa using hp)
    simp only [Value.slice.injEq] at ev
    refine ⟨g, 0, ev.1, fun i hi j u hu => ?_⟩
    have hi' : i < A.length := by simpa using hi
    rw [Nat.zero_add]
    refine hcl _ _ (flat_sp A i hi' j u ?_)
    simpa [hi'] using hu
  · have hi' : i < A.length := by simpa using hi
    have := (h4 A[i] (List.getElem_mem hi')).at
    simpa [hi'] using this
theorem as_new (p a no : Nat) (w : World) (hF : IsF w p a no) (hE : ErrT w) :
    Calls Tryz.prog 41 #[.iface 95 (.pointer (some ⟨p, 0, none⟩)), .iface 97 (.pointer (some ⟨w.heap.size, 0, none⟩))] (w.alloc (.cells #[.pointer none] 95)) fun e w' => e = .returned (.bool true) ∧ w'.cell? ⟨w.heap.size, 0, none⟩ = some (.pointer (some ⟨p, 0, none⟩)) ∧ IsF w' p a no ∧ Below w.heap.size w w' := by
  have hb0 : Below w.heap.size w (w.alloc (.cells #[.pointer none] 95)) := (Below.refl _ _).alloc (Nat.le_refl _) _
  refine (as_hit ⟨p, 0, none⟩ ⟨w.heap.size, 0, none⟩ (.pointer none) (w.alloc (.cells #[.pointer none] 95)) (hE.below hb0) (by simp [go_sem]) (by simp [go_sem])).mono ?_
  rintro e w' ⟨rfl, o1, o2, o3, o4, rfl⟩
  have hb : Below w.heap.size w (((((w.alloc (.cells #[.pointer none] 95)).alloc o1).alloc o2).alloc o3).alloc o4) := ((((((Below.refl _ _).alloc (Nat.le_refl _) _).alloc (by (try simp); (try omega)) _).alloc (by (try simp); (try omega)) _).alloc (by (try simp); (try omega)) _).alloc (by (try simp); (try omega)) _)
  have hb' := hb.setCell (p := ⟨w.heap.size, 0, none⟩) (Nat.le_refl _) (.pointer (some ⟨p, 0, none⟩))
  refine ⟨rfl, ?_, (hb'.block p (lt_of_block hF)).trans hF, hb'⟩
  simp [go_sem]
/-! Bytes that were handed in. -/
open Go.ChangeShapes Go.WideShapes Go.ChangeAt Go.Deep
theorem cells8 : Tryz.prog.cellsOf 5 = 1 := by kernel_rfl
theorem bytes8 : Tryz.prog.bytesOf 5 = 1 := by kernel_rfl

section
variable {H : Type} {enc : TypeId × Value → H} {W : World} {base : Nat} {spare : Nat → Bool} {held : Bool}
/-- A list of bytes that was handed in. -/
theorem open_bytes {n : Nat} {v : Value} {d : DataW H} {pl : List MemPlace} (h : DataW.trod enc Tryz.prog W base spare held n 24 [v] = some (d, pl)) :
    ∃ (ad : Option Addr) (len cap : Nat) (K : List Int), v = .slice ad len cap ∧ Holds W ad len K ∧ (∀ x ∈ K, 0 ≤ x ∧ x < 256) ∧ len ≤ cap ∧ cap ≤ maxLen ∧ ((len = 0 ∧ d = .nil) ∨ ∃ el sp, d = .slice el sp ∧ el.length = len) := by
  rcases open_slice1 Tryz.underlying24 cells8 h with ⟨hcs, hx⟩ | ⟨a, len, cap, m, n, V, D, Pl, hcs, hb, hl, hm, hmm, hx, hel⟩
  · simp at hcs
    subst hcs
    simp at hx
    exact ⟨none, 0, 0, [], rfl, ⟨rfl, fun j u hj => by simp at hj⟩, (fun x hx => by cases hx), Nat.le_refl _, by simp [maxLen], Or.inl ⟨rfl, hx.1⟩⟩
  · simp at hcs
    subst hcs
    simp only [Prod.mk.injEq] at hx
    have hlm : len ≤ m := by rw [hmm]; split <;> omega
    have each : ∀ i, i < len → ∃ x : Int, W.cell? (a.add i) = some (.int .u8 x) ∧ 0 ≤ x ∧ x < 256 := by
      intro i hi
      obtain ⟨h1, h2⟩ := hel i (by omega)
      obtain ⟨x, e1, _, w1⟩ := DataW.trod_int Tryz.underlying5 h2
      simp at e1
      rw [e1] at h1
      have := bounds_u8 w1
      exact ⟨x, h1, this.1, by omega⟩
    obtain ⟨X, hX⟩ := choose_lt each
    refine ⟨some a, len, cap, (List.range len).map X, rfl, ⟨by simp, fun j u hj => ?_⟩, ?_, hl, hm, Or.inr ⟨_, _, hx.1, by simp⟩⟩
    · have hj2 : j < len := by have := (List.getElem?_eq_some_iff.1 hj).1; simpa using this
      refine ⟨a, rfl, ?_⟩
      rw [(hX j hj2).1]
      simp [hj2] at hj
      rw [hj]
    · intro x hx
      simp at hx
      obtain ⟨i, hi, rfl⟩ := hx
      exact (hX i hi).2
end
theorem bytes_size {H : Type} {ts : List TypeId} {ds : List (DataW H)} {j : Nat} {d : DataW H} {len : Nat} (hsz : (DataW.weightsEach Tryz.prog ts ds).all (· ≤ reachBytes) = true) (ht : ts[j]? = some 24) (hd : ds[j]? = some d)
    (h : (len = 0 ∧ d = .nil) ∨ ∃ el sp, d = .slice el sp ∧ el.length = len) : len ≤ 140737488351232 := by
  rcases h with ⟨rfl, _⟩ | ⟨el, sp, rfl, rfl⟩
  · omega
  · have := sized_slice hsz ht hd Tryz.underlying24
    rw [bytes8] at this
    simp only [reachBytes] at this
    omega
end Go.Proofs.YthcghpbkadlliabGreatDoor

namespace Go.Proofs.YthcghpbkadlliabGreatDoor
open Go.Shelf Go.RowKit
set_option maxRecDepth 100000

/-- What is encoded at all. -/
def EncOk (X : List Sp) : Prop := X.length ≤ 500 ∧ (∀ a ∈ X, chkS a = 0) ∧ (encB X).length ≤ 65536
theorem first_bad : ∀ X : List Sp, (∀ a ∈ X, chkS a = 0) ∨ ∃ (i : Nat) (hi : i < X.length), (∀ j (hj : j < i), chkS (X[j]'(by omega)) = 0) ∧ chkS X[i] ≠ 0
  | [] => Or.inl (by simp)
  | a :: r => by
    by_cases h : chkS a = 0
    · rcases first_bad r with h1 | ⟨i, hi, h1, h2⟩
      · exact Or.inl (fun x hx => (List.mem_cons.1 hx).elim (fun e => e ▸ h) (h1 x))
      · refine Or.inr ⟨i + 1, by simpa using hi, fun j hj => ?_, by simpa using h2⟩
        cases j with
        | zero => simpa using h
        | succ j => simpa using h1 j (by omega)
    · exact Or.inr ⟨0, by simp, fun j hj => by omega, by simpa using h⟩
/-- What is not encoded: a fault, and nothing. -/
theorem encode_no (ad : Option Addr) (cp : Nat) (X : List Sp) (P : Nat → Pl) (w : World) (hX : SpsAt w ad X.length X P) (hS : ∀ a ∈ X, a.Small) (hF : ∀ a ∈ X, a.Fits) (hT : Tabs w) (hE : ErrT w) (hn : ¬ EncOk X) :
    Calls Tryz.prog 5 #[.slice ad X.length cp] w fun e w' => ∃ p, e = .returned (.tuple #[.slice none 0 0, .iface 95 (.pointer (some ⟨p, 0, none⟩))]) ∧ Below w.heap.size w w' := by
  by_cases h1 : X.length ≤ 500
  · rcases first_bad X with h2 | ⟨i, hi, h2, h3⟩
    · have h3 : 65536 < (encB X).length := by
        by_cases h : (encB X).length ≤ 65536
        · exact (hn ⟨h1, h2, h⟩).elim
        · omega
      refine (encode_up ad X.length cp 0 51 w hE (fun w1 b1 => (laid_rest ad cp X P w1 (hX.below b1) hS (hT.below b1) h1 hF h2).mono ?_)).mono ?_
      · rintro e w' ⟨h4, h5⟩; rw [if_pos h3] at h4; exact ⟨h4, h5⟩
      · rintro e w' ⟨p, h4, _, h5⟩; exact ⟨p, h4, h5⟩
    · refine (encode_up ad X.length cp i (chkS X[i]) w hE (fun w1 b1 => laid_bad ad cp X P i w1 (hX.below b1) hS (hT.below b1) h1 hi h2 h3)).mono ?_
      rintro e w' ⟨p, h4, _, h5⟩; exact ⟨p, h4, h5⟩
  · refine (encode_up ad X.length cp 500 53 w hE (fun w1 b1 => laid_many ad X.length cp w1 (by omega))).mono ?_
    rintro e w' ⟨p, h4, _, h5⟩; exact ⟨p, h4, h5⟩
theorem EncOk.byt {X : List Sp} (h : EncOk X) (hF : ∀ a ∈ X, a.Fits) : ∀ x ∈ encB X, 0 ≤ x ∧ x < 256 := enc_byt X (fun a ha => (span_can (hF a ha) (h.2.1 a ha)).1)
theorem EncOk.back {X : List Sp} (h : EncOk X) (hF : ∀ a ∈ X, a.Fits) : decB (encB X) = .ok X :=
  dec_back X h.1 (fun a ha => ⟨(span_can (hF a ha) (h.2.1 a ha)).1, (span_can (hF a ha) (h.2.1 a ha)).2, h.2.1 a ha⟩) h.2.2 (h.byt hF)

/-! Spans that were handed in. -/
open Go.ChangeShapes Go.WideShapes Go.ChangeAt Go.Deep
theorem bytes_span : Tryz.prog.bytesOf 41 = 168 := by kernel_rfl
section
variable {H : Type} {enc : TypeId × Value → H} {W : World} {base : Nat} {spare : Nat → Bool} {held : Bool}
set_option maxHeartbeats 1000000 in
theorem spans_open {n : Nat} {v : Value} {x : DataW H × List MemPlace} (h : DataW.trod enc Tryz.prog W base spare held n 22 [v] = some x) (hr : Reach 22 x.1) :
    ∃ (ad : Option Addr) (cap : Nat) (X : List Sp) (P : Nat → Pl), v = .slice ad X.length cap ∧ SpsAt W ad X.length X P ∧ (∀ a ∈ X, a.Small) ∧ (∀ a ∈ X, a.Fits) ∧ X.length ≤ 140737488355328 ∧ X.length ≤ cap := by
  rcases open_slice Tryz.underlying22 h with ⟨hcs, hx⟩ | ⟨a, len, cap, m, n, D, PL, hcs, hb, hl, hm, hmm, hx, hel⟩
  · simp at hcs
    subst hcs
    exact ⟨none, 0, [], fun _ => ⟨none, 0, none, 0, none, 0⟩, rfl, ⟨rfl, fun hp => by simp at hp, fun i hi => by simp at hi⟩, (fun x hx => by cases hx), (fun x hx => by cases hx), by simp, by simp⟩
  · simp at hcs
    subst hcs hx
    have hln := hr.len Tryz.underlying22
    rw [bytes_span] at hln
    simp at hln
    have hlm : len ≤ m := by rw [hmm]; split <;> omega
    rw [cells_span] at hel
    have each : ∀ i, i < len → ∃ y : Sp × Pl, W.cells? base (a.add (i * 13)) 13 = some (spC y.1 y.2).toList ∧ SpAt W y.1 y.2 ∧ y.1.Small ∧ y.1.Fits := by
      intro i hi
      obtain ⟨cs', h1, h2⟩ := hel i (by omega)
      have hri : Reach 41 (D i) := hr.elem Tryz.underlying22 (List.mem_map.2 ⟨i, List.mem_range.2 hi, rfl⟩)
      obtain ⟨y, p, rfl, h3⟩ := span_open h2 hri
      exact ⟨(y, p), h1, h3⟩
    have : Inhabited (Sp × Pl) := ⟨⟨oneSp, ⟨none, 0, none, 0, none, 0⟩⟩⟩
    obtain ⟨Y, hY⟩ := choose_lt each
    have hlen : ((List.range len).map (fun i => (Y i).1)).length = len := by simp
    refine ⟨some a, cap, (List.range len).map (fun i => (Y i).1), fun i => (Y i).2, by rw [hlen], ?_, ?_, ?_, by rw [hlen]; omega, by rw [hlen]; exact hl⟩
    · refine ⟨rfl, fun hp => ?_, fun i hi => ?_⟩
      · rw [hlen] at hp
        obtain ⟨b, off, sp⟩ := a
        have hc0 := (World.cells?_some (hY 0 hp).1).2.2 0 (by omega)
        have hsp : sp = none := by
          refine spot_none (w := W) (b := b) (off := off) (u := (spC (Y 0).1 (Y 0).2)[0]'(by simp [spC])) ?_
          simpa [Addr.add, spC] using hc0
        subst hsp
        refine ⟨b, off, rfl, fun i hi j u hu => ?_⟩
        rw [hlen] at hi
        have e : ((List.range len).map (fun i => (Y i).1))[i]'(by rw [hlen]; exact hi) = (Y i).1 := by simp
        rw [e] at hu
        have hj : j < 13 := by have := (Array.getElem?_eq_some_iff.1 hu).1; simpa [spC] using this
        have hc := (World.cells?_some (hY i hi).1).2.2 j (by omega)
        rw [Addr.add_lit, Addr.add_lit] at hc
        rw [hc, ← hu]
        simp [spC] at hj ⊢
      · rw [hlen] at hi
        have e : ((List.range len).map (fun i => (Y i).1))[i]'(by rw [hlen]; exact hi) = (Y i).1 := by simp
        rw [e]
        exact (hY i hi).2.1
    · intro y hy
      simp at hy
      obtain ⟨i, hi, rfl⟩ := hy
      exact (hY i hi).2.2.1
    · intro y hy
      simp at hy
      obtain ⟨i, hi, rfl⟩ := hy
      exact (hY i hi).2.2.2
end
end Go.Proofs.YthcghpbkadlliabGreatDoor

namespace Go.Proofs.YthcghpbkadlliabGreatDoor
open Go.Shelf Go.RowKit
set_option maxRecDepth 100000
def pickI (c n : Int) : Int := (if c < 0 then -(c + 1) else c) % n
theorem pick_lo (c n : Int) (h : 0 < n) : 0 ≤ pickI c n := Int.emod_nonneg _ (by omega)
theorem pick_hi (c n : Int) (h : 0 < n) : pickI c n < n := Int.emod_lt_of_pos _ h
theorem pick_any (c n : Int) (h0 : -9223372036854775808 ≤ c) (h1 : c ≤ 9223372036854775807) (hn : 0 < n) (hn' : n ≤ 9223372036854775807) (w : World) :
    Calls Tryz.prog 6 #[.int .i64 c, .int .i64 n] w fun e w' => e = .returned (.int .i64 (pickI c n)) ∧ w' = w := by
  by_cases h : c < 0
  · have e : pickI c n = -(c + 1) % n := by unfold pickI; rw [if_pos h]
    go_enter Tryz.func6, Tryz.ntmps6
    go_wp2
    go_ret
    exact ⟨ret_int (by rw [e, ← Int.neg_tmod]; exact Int.tmod_eq_emod_of_nonneg (by omega)), rfl⟩
  · have e : pickI c n = c % n := by unfold pickI; rw [if_neg h]
    go_enter Tryz.func6, Tryz.ntmps6
    go_wp2
    go_ret
    exact ⟨ret_int (by first | rfl | exact e.symm), rfl⟩
theorem SpsAt.take {w : World} {ad : Option Addr} {X : List Sp} {P : Nat → Pl} (h : SpsAt w ad X.length X P) (m : Nat) (hm : m ≤ X.length) : SpsAt w ad (X.take m).length (X.take m) P := by
  refine ⟨rfl, fun hp => ?_, fun i hi => ?_⟩
  · have hp2 : 0 < X.length := by simp at hp; omega
    obtain ⟨b, off, ha, hc⟩ := h.lies hp2
    refine ⟨b, off, ha, fun i hi j u hu => hc i (by simp at hi; omega) j u (by simpa using hu)⟩
  · have := h.each i (by simp at hi; omega)
    simpa using this
set_option maxHeartbeats 2000000 in
theorem longer_ok (ad : Option Addr) (cp : Nat) (X : List Sp) (P : Nat → Pl) (z : Int) (k : Nat) (w : World) (hX : SpsAt w ad X.length X P) (hS : ∀ a ∈ X, a.Small) (hF : ∀ a ∈ X, a.Fits) (hT : Tabs w) (ho : EncOk X) (hcp : X.length ≤ cp)
    (h0 : -9223372036854775808 ≤ z) (h1 : z ≤ 9223372036854775807) (hz : pickI z X.length = k) (hk : k < X.length) :
    Calls Tryz.prog 3 #[.slice ad X.length cp, .int .i64 z] w fun e w' => e = .returned (.bool true) ∧ Below w.heap.size w w' := by
  have S := shown_any w hT
  have EN := fun W (b : Below w.heap.size w W) => encode_ok ad cp X P W (hX.below b) hS (hT.below b) ho.1 hF ho.2.1 ho.2.2
  have hlt := enc_longer X k hk
  have hkk : (X.take k).length = k := by simp; omega
  have EK := fun W (b : Below w.heap.size w W) => encode_ok ad cp (X.take k) P W ((hX.take k (by omega)).below b) (fun a ha => hS a (List.mem_of_mem_take ha)) (hT.below b) (by rw [hkk]; have := ho.1; omega) (fun a ha => hF a (List.mem_of_mem_take ha)) (fun a ha => ho.2.1 a (List.mem_of_mem_take ha)) (by have := ho.2.2; omega)
  rw [hkk] at EK
  have PK := fun W => pick_any z X.length h0 h1 (by omega) (by have := ho.1; omega) W
  rw [hz] at PK
  have k5 : ¬ ((X.length : Int) = 0) := by omega
  have k6 : ((encB (X.take k)).length : Int) < ((encB X).length : Int) := by omega
  have k7 : decide (((encB (X.take k)).length : Int) < ((encB X).length : Int)) = true := decide_eq_true k6
  clear ho hS hF hT hX hz hlt hkk
  generalize encB (X.take k) = L at *
  generalize encB X = K at *
  generalize K.length = kl at *
  generalize L.length = ll at *
  generalize X.length = ln at *
  go_enter Tryz.func3, Tryz.ntmps3
  go_wp2_with (first
    | (go_at_call 4; refine S.mono ?_; clear S; rintro e w1 ⟨rfl, b1⟩)
    | (go_at_call 5; refine (EN _ b1).mono ?_; clear EN; rintro e w2 ⟨q, rfl, r2, hq, b2⟩; have B2 := b1.trans (b2.mono b1.size))
    | (go_at_call 6; refine (PK _).mono ?_; clear PK; rintro e w3 ⟨rfl, hw⟩; obtain rfl := hw.symm)
    | (go_at_call 5; refine (EK _ B2).mono ?_; clear EK; rintro e w4 ⟨q4, rfl, r4, hq4, b4⟩; have B4 := B2.trans (b4.mono B2.size))
  )
  go_ret
  exact ⟨rfl, B4⟩
set_option maxHeartbeats 2000000 in
theorem longer_none (ad : Option Addr) (cp : Nat) (P : Nat → Pl) (z : Int) (w : World) (hX : SpsAt w ad 0 [] P) (hT : Tabs w) (ho : EncOk []) :
    Calls Tryz.prog 3 #[.slice ad 0 cp, .int .i64 z] w fun e w' => e = .returned (.bool true) ∧ Below w.heap.size w w' := by
  have S := shown_any w hT
  have EN := fun W (b : Below w.heap.size w W) => encode_ok ad cp [] P W (hX.below b) (by simp) (hT.below b) ho.1 (by simp) (by simp) ho.2.2
  rw [List.length_nil] at EN
  clear ho hT hX
  generalize encB [] = K at *
  generalize K.length = kl at *
  go_enter Tryz.func3, Tryz.ntmps3
  go_wp2_with (first
    | (go_at_call 4; refine S.mono ?_; clear S; rintro e w1 ⟨rfl, b1⟩)
    | (go_at_call 5; refine (EN _ b1).mono ?_; clear EN; rintro e w2 ⟨q, rfl, r2, hq, b2⟩; have B2 := b1.trans (b2.mono b1.size))
  )
  go_ret
  exact ⟨rfl, B2⟩
set_option maxHeartbeats 2000000 in
theorem longer_no (ad : Option Addr) (cp : Nat) (X : List Sp) (P : Nat → Pl) (z : Int) (w : World) (hX : SpsAt w ad X.length X P) (hS : ∀ a ∈ X, a.Small) (hF : ∀ a ∈ X, a.Fits) (hT : Tabs w) (hE : ErrT w) (ho : ¬ EncOk X) :
    Calls Tryz.prog 3 #[.slice ad X.length cp, .int .i64 z] w fun e w' => e = .returned (.bool true) ∧ Below w.heap.size w w' := by
  have S := shown_any w hT
  have EN := fun W (b : Below w.heap.size w W) => encode_no ad cp X P W (hX.below b) hS hF (hT.below b) (hE.below b) ho
  clear ho hS hF hT hX hE
  generalize X.length = ln at *
  go_enter Tryz.func3, Tryz.ntmps3
  go_wp2_with (first
    | (go_at_call 4; refine S.mono ?_; clear S; rintro e w1 ⟨rfl, b1⟩)
    | (go_at_call 5; refine (EN _ b1).mono ?_; clear EN; rintro e w2 ⟨p, rfl, b2⟩; have B2 := b1.trans (b2.mono b1.size))
  )
  go_ret
  exact ⟨rfl, B2⟩
theorem longer_any (ad : Option Addr) (cp : Nat) (X : List Sp) (P : Nat → Pl) (z : Int) (w : World) (hX : SpsAt w ad X.length X P) (hS : ∀ a ∈ X, a.Small) (hF : ∀ a ∈ X, a.Fits) (hT : Tabs w) (hE : ErrT w) (hcp : X.length ≤ cp)
    (h0 : -9223372036854775808 ≤ z) (h1 : z ≤ 9223372036854775807) :
    Calls Tryz.prog 3 #[.slice ad X.length cp, .int .i64 z] w fun e w' => e = .returned (.bool true) ∧ Below w.heap.size w w' := by
  by_cases ho : EncOk X
  · rcases Nat.eq_zero_or_pos X.length with h | hp
    · obtain rfl : X = [] := List.eq_nil_of_length_eq_zero h
      exact longer_none ad cp P z w hX hT ho
    · have p0 := pick_lo z X.length (by omega)
      have p1 := pick_hi z X.length (by omega)
      obtain ⟨k, hz⟩ : ∃ k : Nat, pickI z X.length = k := ⟨(pickI z X.length).toNat, by omega⟩
      exact longer_ok ad cp X P z k w hX hS hF hT ho hcp h0 h1 hz (by omega)
  · exact longer_no ad cp X P z w hX hS hF hT hE ho
end Go.Proofs.YthcghpbkadlliabGreatDoor
