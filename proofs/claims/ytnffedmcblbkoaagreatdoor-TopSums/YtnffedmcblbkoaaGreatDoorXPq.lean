/-
  Merged: XP, XQ.
-/
import Derived.Test.YtnffedmcblbkoaaGreatDoorRows
import Derived.Test.YtnffedmcblbkoaaGreatDoorSOq
import Derived.Test.YtnffedmcblbkoaaGreatDoorZjq
import Derived.ProofKit
import Derived.OpenShut
import Derived.SizedLaws
import Derived.Deep.DeepHandedRow
import Derived.Deep.Slices
import Derived.Lib.LaidU8T
import Derived.Carry
import Derived.LaidLaws
namespace Go.Proofs.YtnffedmcblbkoaaGreatDoor
open Go.ChangeShapes Go.WideShapes Go.ChangeAt Go.RowKit Go.Deep Go.Shelf
theorem ownK : ownKnob Tryz.prog.godebug = none := by kernel_rfl
theorem laidOutK : laidOutB Tryz.prog = true := by kernel_rfl
theorem cells_id : Tryz.prog.cellsOf 33 = 1 := by kernel_rfl
theorem cells_u64 : Tryz.prog.cellsOf 32 = 1 := by kernel_rfl
theorem cells_i64 : Tryz.prog.cellsOf 2 = 1 := by kernel_rfl
theorem cells_str : Tryz.prog.cellsOf 9 = 1 := by kernel_rfl
theorem cells_kind : Tryz.prog.cellsOf 97 = 1 := by kernel_rfl
theorem cells_status : Tryz.prog.cellsOf 98 = 1 := by kernel_rfl
theorem cells_vkind : Tryz.prog.cellsOf 175 = 1 := by kernel_rfl
theorem cells_links : Tryz.prog.cellsOf 30 = 1 := by kernel_rfl
theorem cells_attrs : Tryz.prog.cellsOf 99 = 1 := by kernel_rfl
theorem cells_events : Tryz.prog.cellsOf 100 = 1 := by kernel_rfl
theorem cells_trace : Tryz.prog.cellsOf 96 = 2 := by kernel_rfl
theorem cells_value : Tryz.prog.cellsOf 177 = 3 := by kernel_rfl
theorem cells_attr : Tryz.prog.cellsOf 179 = 4 := by kernel_rfl
theorem cells_event : Tryz.prog.cellsOf 182 = 2 := by kernel_rfl
theorem cells_span : Tryz.prog.cellsOf 102 = 13 := by kernel_rfl
theorem bytes_id : Tryz.prog.bytesOf 33 = 8 := by kernel_rfl
theorem bytes_attr : Tryz.prog.bytesOf 179 = 48 := by kernel_rfl
theorem bytes_event : Tryz.prog.bytesOf 182 = 24 := by kernel_rfl
def u8ren : Ren := ⟨fun n => n, fun | 5 => 5 | 119 => 294 | 138 => 296 | 139 => 297 | n => n, fun | 3 => 0 | 4 => 1 | n => n⟩
theorem u8types : U8Types Tryz.prog u8ren := ⟨Tryz.underlying5, Tryz.underlying294, Tryz.underlying296, Tryz.underlying297⟩
theorem u8extra : U8Extra Tryz.prog u8ren := ⟨by kernel_rfl, by kernel_rfl, by kernel_rfl, by kernel_rfl, by kernel_rfl, by kernel_rfl, by kernel_rfl⟩
set_option maxRecDepth 100000 in
theorem first_eq : Rows.laid_unicode_utf8_first = Lib.firstData := by kernel_rfl
set_option maxRecDepth 100000 in
theorem accept_eq : (Rows.laid_unicode_utf8_acceptRanges : DataW Unit) = Lib.acceptData := by kernel_rfl
theorem tables {W : World} (h : laidMet Tryz.prog [("unicode/utf8.acceptRanges", Rows.laid_unicode_utf8_acceptRanges), ("unicode/utf8.first", Rows.laid_unicode_utf8_first)] W) : Tabs W := by
 have h1 := Lib.laidMet.reads h (.head _)
 have h2 := Lib.laidMet.reads h (.tail _ (.head _))
 rw [accept_eq] at h1
 rw [first_eq] at h2
 exact utf8Tabs_of_readsT u8types u8extra h2 h1
/-! A world for the witness: the settled one, the two tables holding what their initialisers lay. -/
def layFirst : Obj → Obj
 | .cells _ t frozen => .cells (Go.Pinned.utf8FirstZ.map fun (n : Nat) => Value.int .u8 (n : Int)).toArray t frozen
 | o => o
def layAccept : Obj → Obj
 | .cells _ t frozen => .cells #[.int .u8 128, .int .u8 191, .int .u8 160, .int .u8 191, .int .u8 128, .int .u8 159, .int .u8 144, .int .u8 191, .int .u8 128, .int .u8 143, .int .u8 0, .int .u8 0, .int .u8 0, .int .u8 0, .int .u8 0, .int .u8 0, .int .u8 0, .int .u8 0, .int .u8 0, .int .u8 0, .int .u8 0, .int .u8 0, .int .u8 0, .int .u8 0, .int .u8 0, .int .u8 0, .int .u8 0, .int .u8 0, .int .u8 0, .int .u8 0, .int .u8 0, .int .u8 0] t frozen
 | o => o
def laying (w : World) : World := { w with heap := ((w.heap.modify 0 layFirst).modify 1 layAccept) }
theorem weightsAll_mem {H : Type} {P : Program} {e : TypeId} : ∀ {l : List (DataW H)} {d : DataW H}, d ∈ l → ∀ n ∈ d.weights P e, n ∈ DataW.weightsAll P e l
 | d' :: r, d, hd, n, hn => by
  simp only [DataW.weightsAll, List.mem_append]
  rcases List.mem_cons.1 hd with rfl | h
  ·exact Or.inl hn
  ·exact Or.inr (weightsAll_mem h n hn)
def Reach {H : Type} (t : TypeId) (d : DataW H) : Prop := ∀ n ∈ d.weights Tryz.prog t, n ≤ 140737488351232
theorem Reach.field {H : Type} {t : TypeId} {fs : Array Field} {parts : List (DataW H)} (hu : Tryz.prog.underlying t = some (.struct fs)) (h : Reach t (.agg parts)) (j : Nat) {ty : TypeId} {d : DataW H} (ht : (fs.toList.map (·.type))[j]? = some ty) (hd : parts[j]? = some d) : Reach ty d := by
 intro n hn
 refine h n ?_
 simp only [DataW.weights, hu]
 exact DataW.weights_mem_each ht hd n hn
theorem Reach.elem {H : Type} {t e : TypeId} {el sp : List (DataW H)} (hu : Tryz.prog.underlying t = some (.slice e)) (h : Reach t (.slice el sp)) {d : DataW H} (hd : d ∈ el) : Reach e d := by
 intro n hn
 refine h n ?_
 simp only [DataW.weights, hu, List.mem_cons, List.mem_append]
 exact Or.inr (Or.inl (weightsAll_mem hd n hn))
theorem Reach.len {H : Type} {t e : TypeId} {el sp : List (DataW H)} (hu : Tryz.prog.underlying t = some (.slice e)) (h : Reach t (.slice el sp)) : (el.length + sp.length) * Tryz.prog.bytesOf e ≤ 140737488351232 :=
 h _ (by simp [DataW.weights, hu])
theorem Reach.str {H : Type} {t : TypeId} {s : List UInt8} (h : Reach (H := H) t (.lit (.string s))) : s.length ≤ 140737488351232 :=
 h _ (by simp [DataW.weights])
theorem reach_of {H : Type} {ts : List TypeId} {ds : List (DataW H)} {j : Nat} {t : TypeId} {d : DataW H} (hsz : (DataW.weightsEach Tryz.prog ts ds).all (· ≤ reachBytes) = true) (ht : ts[j]? = some t) (hd : ds[j]? = some d) : Reach t d := by
 intro n hn
 have := List.all_eq_true.1 hsz n (DataW.weights_mem_each ht hd n hn)
 exact of_decide_eq_true this
theorem size_list (s : ByteArray) : s.data.toList.length = s.size := by rw [Array.length_toList]; rfl
section
variable {H : Type} {enc : TypeId × Value → H} {W : World} {base : Nat} {spare : Nat → Bool} {held : Bool}
set_option maxRecDepth 100000 in
theorem links_open {n : Nat} {v : Value} {x : DataW H × List MemPlace} (h : DataW.trod enc Tryz.prog W base spare held n 30 [v] = some x) (hr : Reach 30 x.1) :
  ∃ (ad : Option Addr) (cap : Nat) (X : List Int), v = .slice ad X.length cap ∧ HoldsV W ad X.length (intsV .u64 X) ∧ (∀ y ∈ X, 0 ≤ y ∧ y < 18446744073709551616) ∧ X.length ≤ 140737488355328 := by
 rcases open_slice1 Tryz.underlying30 cells_id h with ⟨hcs, hx⟩ | ⟨a, len, cap, m, n, V, D, Pl, hcs, hb, hl, hm, hmm, hx, hel⟩
 ·simp at hcs
  subst hcs
  exact ⟨none, 0, [], rfl, HoldsV.nil W, (fun x hx => by cases hx), by simp⟩
 ·simp at hcs
  subst hcs hx
  have hln := hr.len Tryz.underlying30
  rw [bytes_id] at hln
  simp at hln
  have hlm : len ≤ m := by rw [hmm]; split <;> omega
  have each : ∀ i, i < len → ∃ y : Int, W.cell? (a.add i) = some (.int .u64 y) ∧ 0 ≤ y ∧ y < 18446744073709551616 := by
   intro i hi
   obtain ⟨h1, h2⟩ := hel i (by omega)
   obtain ⟨y, e1, _, w1⟩ := DataW.trod_int Tryz.underlying33 h2
   simp at e1
   rw [e1] at h1
   have := bounds_u64 w1
   exact ⟨y, h1, this.1, by omega⟩
  obtain ⟨Y, hY⟩ := choose_lt each
  have hlen : ((List.range len).map Y).length = len := by simp
  refine ⟨some a, cap, (List.range len).map Y, by rw [hlen], ?_, ?_, by rw [hlen]; omega⟩
  ·rw [hlen]
   refine ⟨by simp [intsV], fun j u hj => ⟨a, rfl, ?_⟩⟩
   have hj2 : j < len := by have := (List.getElem?_eq_some_iff.1 hj).1; simpa [intsV] using this
   rw [(hY j hj2).1]
   simp [intsV, hj2] at hj
   rw [hj]
  ·intro y hy
   simp at hy
   obtain ⟨i, hi, rfl⟩ := hy
   exact (hY i hi).2
theorem spot_none {w : World} {b off : Nat} {sp : Option Nat} {u : Value} (h : w.cell? (⟨b, off, sp⟩ : Addr) = some u) : sp = none := by
 cases sp with
 | none => rfl
 | some s => simp [World.cell?] at h; split at h <;> simp at h
set_option maxRecDepth 100000 in
theorem attr_open {n : Nat} {cs : List Value} {x : DataW H × List MemPlace} (h : DataW.trod enc Tryz.prog W base spare held n 179 cs = some x) (hr : Reach 179 x.1) :
  ∃ a : AttrD, cs = attrC a ∧ (a.key.size ≤ 140737488355328 ∧ a.text.size ≤ 140737488355328) ∧ (-9223372036854775808 ≤ a.num ∧ a.num ≤ 9223372036854775807) := by
 obtain ⟨xs, m, rfl, rfl, hl, hxl, hf⟩ := DataW.trod_struct Tryz.underlying179 h
 rw [cells_attr] at hl
 match cs, hl with
 | [c0, c1, c2, c3], _ =>
  match xs, hxl with
  | [x0, x1], _ =>
   have h0 := hf 0 _ rfl
   have h1 := hf 1 _ rfl
   simp [cells_str, cells_value] at h0 h1
   have r0 := hr.field Tryz.underlying179 0 rfl rfl
   have r1 := hr.field Tryz.underlying179 1 rfl rfl
   obtain ⟨k, e0, d0, _⟩ := DataW.trod_string Tryz.underlying9 h0
   simp at e0
   obtain ⟨ys, m1, rfl, hx1, hl1, hyl, hg⟩ := DataW.trod_struct Tryz.underlying177 h1
   match ys, hyl with
   | [y0, y1, y2], _ =>
    have g0 := hg 0 _ rfl
    have g1 := hg 1 _ rfl
    have g2 := hg 2 _ rfl
    simp [cells_vkind, cells_str, cells_i64] at g0 g1 g2
    obtain ⟨kd, e1, _, _⟩ := DataW.trod_int Tryz.underlying175 g0
    obtain ⟨s, e2, d2, _⟩ := DataW.trod_string Tryz.underlying9 g1
    obtain ⟨nu, e3, _, w3⟩ := DataW.trod_int Tryz.underlying2 g2
    simp at e1 e2 e3
    subst e0 e1 e2 e3
    have b := bounds_i64 w3
    rw [d0] at r0
    have s0 := r0.str
    rw [hx1] at r1
    have r11 := r1.field Tryz.underlying177 1 rfl rfl
    rw [d2] at r11
    have s1 := r11.str
    rw [size_list] at s0 s1
    exact ⟨⟨k, kd, s, nu⟩, rfl, ⟨by simp only; omega, by simp only; omega⟩, b.1, b.2⟩
set_option maxRecDepth 100000 in
theorem event_open {n : Nat} {cs : List Value} {x : DataW H × List MemPlace} (h : DataW.trod enc Tryz.prog W base spare held n 182 cs = some x) (hr : Reach 182 x.1) :
  ∃ a : EventD, cs = eventC a ∧ a.name.size ≤ 140737488355328 := by
 obtain ⟨xs, m, rfl, rfl, hl, hxl, hf⟩ := DataW.trod_struct Tryz.underlying182 h
 rw [cells_event] at hl
 match cs, hl with
 | [c0, c1], _ =>
  match xs, hxl with
  | [x0, x1], _ =>
   have h0 := hf 0 _ rfl
   have h1 := hf 1 _ rfl
   simp [cells_str, cells_i64] at h0 h1
   have r1 := hr.field Tryz.underlying182 1 rfl rfl
   obtain ⟨m0, e0, _, _⟩ := DataW.trod_int Tryz.underlying2 h0
   obtain ⟨k, e1, d1, _⟩ := DataW.trod_string Tryz.underlying9 h1
   simp at e0 e1
   subst e0 e1
   rw [d1] at r1
   have s1 := r1.str
   rw [size_list] at s1
   exact ⟨⟨m0, k⟩, rfl, by simp only; omega⟩
set_option maxRecDepth 100000 in
theorem attrs_open {n : Nat} {v : Value} {x : DataW H × List MemPlace} (h : DataW.trod enc Tryz.prog W base spare held n 99 [v] = some x) (hr : Reach 99 x.1) :
  ∃ (ad : Option Addr) (cap : Nat) (X : List AttrD), v = .slice ad X.length cap ∧ AttrsAt W ad X.length X ∧ (∀ y ∈ X, (y.key.size ≤ 140737488355328 ∧ y.text.size ≤ 140737488355328) ∧ (-9223372036854775808 ≤ y.num ∧ y.num ≤ 9223372036854775807)) ∧ X.length ≤ 140737488355328 := by
 rcases open_slice Tryz.underlying99 h with ⟨hcs, hx⟩ | ⟨a, len, cap, m, n, D, Pl, hcs, hb, hl, hm, hmm, hx, hel⟩
 ·simp at hcs
  subst hcs
  exact ⟨none, 0, [], rfl, ⟨rfl, fun hp => by simp at hp⟩, (fun x hx => by cases hx), by simp⟩
 ·simp at hcs
  subst hcs hx
  have hln := hr.len Tryz.underlying99
  rw [bytes_attr] at hln
  simp at hln
  have hlm : len ≤ m := by rw [hmm]; split <;> omega
  rw [cells_attr] at hel
  have each : ∀ i, i < len → ∃ y : AttrD, W.cells? base (a.add (i * 4)) 4 = some (attrC y) ∧ (y.key.size ≤ 140737488355328 ∧ y.text.size ≤ 140737488355328) ∧ (-9223372036854775808 ≤ y.num ∧ y.num ≤ 9223372036854775807) := by
   intro i hi
   obtain ⟨cs', h1, h2⟩ := hel i (by omega)
   have hri : Reach 179 (D i) := hr.elem Tryz.underlying99 (List.mem_map.2 ⟨i, List.mem_range.2 hi, rfl⟩)
   obtain ⟨y, rfl, h3⟩ := attr_open h2 hri
   exact ⟨y, h1, h3⟩
  have : Inhabited AttrD := ⟨⟨ByteArray.empty, 0, ByteArray.empty, 0⟩⟩
  obtain ⟨Y, hY⟩ := choose_lt each
  have hlen : ((List.range len).map Y).length = len := by simp
  refine ⟨some a, cap, (List.range len).map Y, by rw [hlen], ?_, ?_, by rw [hlen]; omega⟩
  ·refine ⟨rfl, fun hp => ?_⟩
   rw [hlen] at hp
   obtain ⟨b, off, sp⟩ := a
   have hc0 := (World.cells?_some (hY 0 hp).1).2.2 0 (by omega)
   have hsp : sp = none := by
    refine spot_none (w := W) (b := b) (off := off) (u := (attrC (Y 0))[0]'(by simp [attrC])) ?_
    simpa [Addr.add, attrC] using hc0
   subst hsp
   refine ⟨b, off, rfl, fun i hi => ?_⟩
   rw [hlen] at hi
   have hc := (World.cells?_some (hY i hi).1).2.2
   have e : ((List.range len).map Y)[i]'(by rw [hlen]; exact hi) = Y i := by simp
   rw [e]
   have g0 := hc 0 (by omega)
   have g1 := hc 1 (by omega)
   have g2 := hc 2 (by omega)
   have g3 := hc 3 (by omega)
   rw [Addr.add_lit, Addr.add_lit] at g0 g1 g2 g3
   exact ⟨g0, g1, g2, g3⟩
  ·intro y hy
   simp at hy
   obtain ⟨i, hi, rfl⟩ := hy
   exact (hY i hi).2
set_option maxRecDepth 100000 in
theorem events_open {n : Nat} {v : Value} {x : DataW H × List MemPlace} (h : DataW.trod enc Tryz.prog W base spare held n 100 [v] = some x) (hr : Reach 100 x.1) :
  ∃ (ad : Option Addr) (cap : Nat) (X : List EventD), v = .slice ad X.length cap ∧ EventsAt W ad X.length X ∧ (∀ y ∈ X, y.name.size ≤ 140737488355328) ∧ X.length ≤ 140737488355328 := by
 rcases open_slice Tryz.underlying100 h with ⟨hcs, hx⟩ | ⟨a, len, cap, m, n, D, Pl, hcs, hb, hl, hm, hmm, hx, hel⟩
 ·simp at hcs
  subst hcs
  exact ⟨none, 0, [], rfl, ⟨rfl, fun hp => by simp at hp⟩, (fun x hx => by cases hx), by simp⟩
 ·simp at hcs
  subst hcs hx
  have hln := hr.len Tryz.underlying100
  rw [bytes_event] at hln
  simp at hln
  have hlm : len ≤ m := by rw [hmm]; split <;> omega
  rw [cells_event] at hel
  have each : ∀ i, i < len → ∃ y : EventD, W.cells? base (a.add (i * 2)) 2 = some (eventC y) ∧ y.name.size ≤ 140737488355328 := by
   intro i hi
   obtain ⟨cs', h1, h2⟩ := hel i (by omega)
   have hri : Reach 182 (D i) := hr.elem Tryz.underlying100 (List.mem_map.2 ⟨i, List.mem_range.2 hi, rfl⟩)
   obtain ⟨y, rfl, h3⟩ := event_open h2 hri
   exact ⟨y, h1, h3⟩
  have : Inhabited EventD := ⟨⟨0, ByteArray.empty⟩⟩
  obtain ⟨Y, hY⟩ := choose_lt each
  have hlen : ((List.range len).map Y).length = len := by simp
  refine ⟨some a, cap, (List.range len).map Y, by rw [hlen], ?_, ?_, by rw [hlen]; omega⟩
  ·refine ⟨rfl, fun hp => ?_⟩
   rw [hlen] at hp
   obtain ⟨b, off, sp⟩ := a
   have hc0 := (World.cells?_some (hY 0 hp).1).2.2 0 (by omega)
   have hsp : sp = none := by
    refine spot_none (w := W) (b := b) (off := off) (u := (eventC (Y 0))[0]'(by simp [eventC])) ?_
    simpa [Addr.add, eventC] using hc0
   subst hsp
   refine ⟨b, off, rfl, fun i hi => ?_⟩
   rw [hlen] at hi
   have hc := (World.cells?_some (hY i hi).1).2.2
   have e : ((List.range len).map Y)[i]'(by rw [hlen]; exact hi) = Y i := by simp
   rw [e]
   have g0 := hc 0 (by omega)
   have g1 := hc 1 (by omega)
   rw [Addr.add_lit, Addr.add_lit] at g0 g1
   exact ⟨g0, g1⟩
  ·intro y hy
   simp at hy
   obtain ⟨i, hi, rfl⟩ := hy
   exact (hY i hi).2
set_option maxRecDepth 100000 in
set_option maxHeartbeats 1000000 in
theorem span_open {n : Nat} {cs : List Value} {x : DataW H × List MemPlace} (h : DataW.trod enc Tryz.prog W base spare held n 102 cs = some x) (hr : Reach 102 x.1) :
  ∃ (a : Sp) (p : Pl), cs = (spC a p).toList ∧ SpAt W a p ∧ a.Small ∧ a.Fits := by
 obtain ⟨xs, m, rfl, rfl, hl, hxl, hf⟩ := DataW.trod_struct Tryz.underlying102 h
 rw [cells_span] at hl
 match cs, hl with
 | [c0, c1, c2, c3, c4, c5, c6, c7, c8, c9, c10, c11, c12], _ =>
  match xs, hxl with
  | [x0, x1, x2, x3, x4, x5, x6, x7, x8, x9, x10, x11], _ =>
   have h0 := hf 0 _ rfl
   have h1 := hf 1 _ rfl
   have h2 := hf 2 _ rfl
   have h3 := hf 3 _ rfl
   have h4 := hf 4 _ rfl
   have h5 := hf 5 _ rfl
   have h6 := hf 6 _ rfl
   have h7 := hf 7 _ rfl
   have h8 := hf 8 _ rfl
   have h9 := hf 9 _ rfl
   have h10 := hf 10 _ rfl
   have h11 := hf 11 _ rfl
   simp [cells_str, cells_i64, cells_trace, cells_id, cells_links, cells_kind, cells_status, cells_attrs, cells_events] at h0 h1 h2 h3 h4 h5 h6 h7 h8 h9 h10 h11
   have r3 := hr.field Tryz.underlying102 3 rfl rfl
   have r4 := hr.field Tryz.underlying102 4 rfl rfl
   have r5 := hr.field Tryz.underlying102 5 rfl rfl
   have r10 := hr.field Tryz.underlying102 10 rfl rfl
   have r11 := hr.field Tryz.underlying102 11 rfl rfl
   obtain ⟨ys, m1, rfl, hx0, hl0, hyl, hg⟩ := DataW.trod_struct Tryz.underlying96 h0
   match ys, hyl with
   | [y0, y1], _ =>
    have g0 := hg 0 _ rfl
    have g1 := hg 1 _ rfl
    simp [cells_u64] at g0 g1
    obtain ⟨hi, e0, _, w0⟩ := DataW.trod_int Tryz.underlying32 g0
    obtain ⟨lo, e1, _, w1⟩ := DataW.trod_int Tryz.underlying32 g1
    obtain ⟨id, e2, _, w2⟩ := DataW.trod_int Tryz.underlying33 h1
    obtain ⟨par, e3, _, w3⟩ := DataW.trod_int Tryz.underlying33 h2
    obtain ⟨la, lc, X, e4, HX, FX, LX⟩ := links_open h3 r3
    obtain ⟨svc, e5, d5, _⟩ := DataW.trod_string Tryz.underlying9 h4
    obtain ⟨op, e6, d6, _⟩ := DataW.trod_string Tryz.underlying9 h5
    obtain ⟨kd, e7, _, _⟩ := DataW.trod_int Tryz.underlying97 h6
    obtain ⟨st, e8, _, _⟩ := DataW.trod_int Tryz.underlying98 h7
    obtain ⟨s0, e9, _, _⟩ := DataW.trod_int Tryz.underlying2 h8
    obtain ⟨f0, e10, _, _⟩ := DataW.trod_int Tryz.underlying2 h9
    obtain ⟨aa, ac, A, e11, HA, FA, LA⟩ := attrs_open h10 r10
    obtain ⟨ea, ec, E, e12, HE, FE, LE⟩ := events_open h11 r11
    simp at e0 e1 e2 e3 e5 e6 e7 e8 e9 e10
    subst e0 e1 e2 e3 e4 e5 e6 e7 e8 e9 e10 e11 e12
    have b0 := bounds_u64 w0
    have b1 := bounds_u64 w1
    have b2 := bounds_u64 w2
    have b3 := bounds_u64 w3
    rw [d5] at r4
    rw [d6] at r5
    have z4 := r4.str
    have z5 := r5.str
    rw [size_list] at z4 z5
    exact ⟨⟨hi, lo, id, par, X, svc, op, kd, st, s0, f0, A, E⟩, ⟨la, lc, aa, ac, ea, ec⟩, rfl, ⟨HX, HA, HE, LX, LA, LE⟩, ⟨by simp only; omega, by simp only; omega, fun x hx => (FA x hx).1, FE⟩,
     ⟨⟨b0.1, by simp only; omega⟩, ⟨b1.1, by simp only; omega⟩, ⟨b2.1, by simp only; omega⟩, ⟨b3.1, by simp only; omega⟩, FX, fun x hx => (FA x hx).2⟩⟩
end
open Go.ChangeShapes Go.WideShapes Go.ChangeAt Go.Deep
theorem bytes_span : Tryz.prog.bytesOf 102 = 168 := by kernel_rfl
section
variable {H : Type} {enc : TypeId × Value → H} {W : World} {base : Nat} {spare : Nat → Bool} {held : Bool}
set_option maxHeartbeats 1000000 in
theorem spans_open {n : Nat} {v : Value} {x : DataW H × List MemPlace} (h : DataW.trod enc Tryz.prog W base spare held n 22 [v] = some x) (hr : Reach 22 x.1) :
  ∃ (ad : Option Addr) (cap : Nat) (X : List Sp) (P : Nat → Pl), v = .slice ad X.length cap ∧ SpsAt W ad X.length X P ∧ (∀ a ∈ X, a.Small) ∧ (∀ a ∈ X, a.Fits) ∧ X.length ≤ 140737488355328 ∧ X.length ≤ cap := by
 rcases open_slice Tryz.underlying22 h with ⟨hcs, hx⟩ | ⟨a, len, cap, m, n, D, PL, hcs, hb, hl, hm, hmm, hx, hel⟩
 ·simp at hcs
  subst hcs
  exact ⟨none, 0, [], fun _ => ⟨none, 0, none, 0, none, 0⟩, rfl, ⟨rfl, fun hp => by simp at hp, fun i hi => by simp at hi⟩, (fun x hx => by cases hx), (fun x hx => by cases hx), by simp, by simp⟩
 ·simp at hcs
  subst hcs hx
  have hln := hr.len Tryz.underlying22
  rw [bytes_span] at hln
  simp at hln
  have hlm : len ≤ m := by rw [hmm]; split <;> omega
  rw [cells_span] at hel
  have each : ∀ i, i < len → ∃ y : Sp × Pl, W.cells? base (a.add (i * 13)) 13 = some (spC y.1 y.2).toList ∧ SpAt W y.1 y.2 ∧ y.1.Small ∧ y.1.Fits := by
   intro i hi
   obtain ⟨cs', h1, h2⟩ := hel i (by omega)
   have hri : Reach 102 (D i) := hr.elem Tryz.underlying22 (List.mem_map.2 ⟨i, List.mem_range.2 hi, rfl⟩)
   obtain ⟨y, p, rfl, h3⟩ := span_open h2 hri
   exact ⟨(y, p), h1, h3⟩
  have : Inhabited (Sp × Pl) := ⟨⟨⟨0, 0, 0, 0, [], ⟨#[]⟩, ⟨#[]⟩, 0, 0, 0, 0, [], []⟩, ⟨none, 0, none, 0, none, 0⟩⟩⟩
  obtain ⟨Y, hY⟩ := choose_lt each
  have hlen : ((List.range len).map (fun i => (Y i).1)).length = len := by simp
  refine ⟨some a, cap, (List.range len).map (fun i => (Y i).1), fun i => (Y i).2, by rw [hlen], ?_, ?_, ?_, by rw [hlen]; omega, by rw [hlen]; exact hl⟩
  ·refine ⟨rfl, fun hp => ?_, fun i hi => ?_⟩
   ·rw [hlen] at hp
    obtain ⟨b, off, sp⟩ := a
    have hc0 := (World.cells?_some (hY 0 hp).1).2.2 0 (by omega)
    have hsp : sp = none := by
     refine spot_none (w := W) (b := b) (off := off) (u := (spC (Y 0).1 (Y 0).2)[0]'(by simp [spC])) ?_
     simpa [Addr.add, spC] using hc0
    subst hsp
    refine ⟨b, off, rfl, fun i hi j u hu => ?_⟩
    rw [hlen] at hi
    have e : ((List.range len).map (fun i => (Y i).1))[i]'(by rw [hlen]; exact hi) = (Y i).1 := by simp
    rw [e] at hu
    have hj : j < 13 := by have := (Array.getElem?_eq_some_iff.1 hu).1; simpa [spC] using this
    have hc := (World.cells?_some (hY i hi).1).2.2 j (by omega)
    rw [Addr.add_lit, Addr.add_lit] at hc
    rw [hc, ← hu]
    simp [spC] at hj ⊢
   ·rw [hlen] at hi
    have e : ((List.range len).map (fun i => (Y i).1))[i]'(by rw [hlen]; exact hi) = (Y i).1 := by simp
    rw [e]
    exact (hY i hi).2.1
  ·intro y hy
   simp at hy
   obtain ⟨i, hi, rfl⟩ := hy
   exact (hY i hi).2.2.1
  ·intro y hy
   simp at hy
   obtain ⟨i, hi, rfl⟩ := hy
   exact (hY i hi).2.2.2
end
end Go.Proofs.YtnffedmcblbkoaaGreatDoor
namespace Go.Proofs.YtnffedmcblbkoaaGreatDoor
open Go Go.ChangeShapes Go.WideShapes Go.ChangeAt Go.RowKit Go.Deep
set_option maxRecDepth 100000
section
variable {H : Type} {enc : TypeId × Value → H} {W : World} {base : Nat} {spare : Nat → Bool} {held : Bool}
theorem spans_long {n : Nat} {ad : Option Addr} {len cap : Nat} {x : DataW H × List MemPlace} (h : DataW.trod enc Tryz.prog W base spare held n 22 [.slice ad len cap] = some x) (hr : Reach 22 x.1) : len * 168 ≤ 140737488351232 := by
 rcases open_slice Tryz.underlying22 h with ⟨hcs, hx⟩ | ⟨a, len', cap', m, n, D, PL, hcs, hb, hl, hm, hmm, hx, hel⟩
 ·simp at hcs
  omega
 ·simp at hcs
  obtain ⟨_, rfl, rfl⟩ := hcs
  subst hx
  have hln := hr.len Tryz.underlying22
  rw [bytes_span] at hln
  simp at hln
  have hlm : len ≤ m := by rw [hmm]; split <;> omega
  omega
end
end Go.Proofs.YtnffedmcblbkoaaGreatDoor
