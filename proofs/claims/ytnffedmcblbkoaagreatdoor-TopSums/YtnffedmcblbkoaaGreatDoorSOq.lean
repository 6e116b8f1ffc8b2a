/-
  Merged: SO, FA.
-/
import Derived.Test.YtnffedmcblbkoaaGreatDoorWaq
import Derived.Deep.MidRow
namespace Go.Proofs.YtnffedmcblbkoaaGreatDoor
open Go.RowKit
set_option maxRecDepth 100000
structure SpsAt (w : World) (ad : Option Addr) (n : Nat) (X : List Sp) (P : Nat → Pl) : Prop where
 len : X.length = n
 lies : 0 < n → ∃ b off, ad = some ⟨b, off, none⟩ ∧ ∀ i (_ : i < X.length) (j : Nat) (u : Value), (spC X[i] (P i))[j]? = some u → w.cell? ⟨b, off + i * 13 + j, none⟩ = some u
 each : ∀ i (_ : i < X.length), SpAt w X[i] (P i)
theorem SpsAt.below {w w' : World} {ad : Option Addr} {n : Nat} {X : List Sp} {P : Nat → Pl} (h : SpsAt w ad n X P) (hb : Below w.heap.size w w') : SpsAt w' ad n X P := by
 refine ⟨h.len, fun hp => ?_, fun i hi => (h.each i hi).below hb⟩
 obtain ⟨b, off, ha, hc⟩ := h.lies hp
 refine ⟨b, off, ha, fun i hi j u hu => ?_⟩
 have h1 := hc i hi j u hu
 exact (hb.cell (p := ⟨b, _, none⟩) (World.block_lt_of_cell? w _ h1)).trans h1
end Go.Proofs.YtnffedmcblbkoaaGreatDoor
namespace Go.Proofs.YtnffedmcblbkoaaGreatDoor
open Go Go.RowKit
set_option maxRecDepth 100000
def Blk (w : World) (b : Nat) (c : Array Value) (T : TypeId) : Prop := w.heap[b]? = some (.cells c T (0, 0))
theorem Blk.lt {w : World} {b : Nat} {c : Array Value} {T : TypeId} (h : Blk w b c T) : b < w.heap.size := by
 have := h
 unfold Blk at this
 exact (Array.getElem?_eq_some_iff.1 this).1
theorem Blk.cell {w : World} {b : Nat} {c : Array Value} {T : TypeId} (h : Blk w b c T) (k : Nat) {v : Value} (hv : c[k]? = some v) : w.cell? ⟨b, k, none⟩ = some v := by
 unfold Blk at h
 simp [World.cell?, h, hv]
theorem Blk.frozen {w : World} {b : Nat} {c : Array Value} {T : TypeId} (h : Blk w b c T) (k : Nat) : w.frozen? ⟨b, k, none⟩ = false := by
 unfold Blk at h
 simp [World.frozen?, h]
theorem Blk.set {w : World} {b : Nat} {c : Array Value} {T : TypeId} (h : Blk w b c T) (k : Nat) (v : Value) : Blk (w.setCell ⟨b, k, none⟩ v) b (c.setIfInBounds k v) T := by
 unfold Blk at h ⊢
 simp [World.setCell, Array.getElem?_modify, h]
theorem Blk.other {w : World} {b : Nat} {c : Array Value} {T : TypeId} (h : Blk w b c T) (a : Addr) (v : Value) (hne : b ≠ a.block) : Blk (w.setCell a v) b c T := by
 unfold Blk at h ⊢
 rw [Below.heap_setCell w a v b hne]
 exact h
theorem Blk.alloc {w : World} {b : Nat} {c : Array Value} {T : TypeId} (h : Blk w b c T) (o : Obj) : Blk (w.alloc o) b c T := by
 have := h.lt
 unfold Blk at h ⊢
 rw [Below.heap_alloc w o b this]
 exact h
theorem Blk.new (w : World) (c : Array Value) (T : TypeId) : Blk (w.alloc (.cells c T)) w.heap.size c T := by
 exact heap_alloc_new w _
theorem Blk.below {w w' : World} {b B : Nat} {c : Array Value} {T : TypeId} (h : Blk w b c T) (hb : Below B w w') (hB : b < B) : Blk w' b c T := by
 unfold Blk at h ⊢
 rw [hb.block b hB]; exact h
theorem Blk.upd {S : Nat → Prop} {w w' : World} {b : Nat} {c : Array Value} {T : TypeId} (h : Blk w b c T) (hu : Upd S w w') (hS : ¬ S b) : Blk w' b c T := by
 have := h.lt
 unfold Blk at h ⊢
 rw [hu.block b this hS]; exact h
structure Nod where
 id : Int
 par : Int
 org : Int
 tree : Int
 dep : Int
 fr : Int
 til : Int
def ndV (d : Nod) : Value := .agg #[.int .u64 d.id, .int .u64 d.par, .int .i64 d.org, .int .u64 d.tree, .int .i64 d.dep, .int .i64 d.fr, .int .i64 d.til]
structure Spot where
 a : Sp
 p : Pl
 nd : Nod
 ka : Option Addr
 kn : Nat
 kc : Nat
def Spot.kv (x : Spot) : Value := .slice x.ka x.kn x.kc
def enS (x : Spot) : List Value := [.int .u64 x.a.hi, .int .u64 x.a.lo, .int .u64 x.a.id, .int .u64 x.a.par, .slice x.p.la x.a.links.length x.p.lc, .string x.a.svc, .string x.a.op, .int .i64 x.a.kind, .int .i64 x.a.status, .int .i64 x.a.start, .int .i64 x.a.fin, .slice x.p.aa x.a.attrs.length x.p.ac, .slice x.p.ea x.a.events.length x.p.ec, .int .u64 x.nd.id, .int .u64 x.nd.par, .int .i64 x.nd.org, .int .u64 x.nd.tree, .int .i64 x.nd.dep, .int .i64 x.nd.fr, .int .i64 x.nd.til, .slice x.ka x.kn x.kc]
theorem enS_len (x : Spot) : (enS x).length = 21 := rfl
def rowS (X : List Spot) : Array Value := (X.flatMap enS).toArray
theorem flatS_len (X : List Spot) : (X.flatMap enS).length = X.length * 21 := by
 induction X with
 | nil => rfl
 | cons x r ih => rw [List.flatMap_cons, List.length_append, ih, enS_len, List.length_cons]; omega
theorem flatS_get : ∀ (X : List Spot) (i : Nat) (h : i < X.length) (j : Nat), j < 21 → (X.flatMap enS)[i * 21 + j]? = (enS X[i])[j]?
 | [], i, h, j, _ => absurd h (by simp)
 | x :: r, 0, h, j, hj => by
  rw [List.flatMap_cons, List.getElem?_append_left (by rw [enS_len]; omega)]
  simp
 | x :: r, i + 1, h, j, hj => by
  rw [List.flatMap_cons, List.getElem?_append_right (by rw [enS_len]; omega), enS_len, show (i + 1) * 21 + j - 21 = i * 21 + j by omega]
  exact flatS_get r i (by simpa using h) j hj
theorem flatS_set : ∀ (X : List Spot) (i : Nat) (h : i < X.length) (j : Nat) (v : Value) (y : Spot), j < 21 → enS y = (enS X[i]).set j v → (X.flatMap enS).set (i * 21 + j) v = (X.set i y).flatMap enS
 | [], i, h, j, v, y, _, _ => absurd h (by simp)
 | x :: r, 0, h, j, v, y, hj, hy => by
  rw [List.flatMap_cons, List.set_append_left _ _ (by rw [enS_len]; omega), List.set_cons_zero, List.flatMap_cons, hy]
  simp
 | x :: r, i + 1, h, j, v, y, hj, hy => by
  rw [List.flatMap_cons, List.set_append_right _ _ (by rw [enS_len]; omega), enS_len, show (i + 1) * 21 + j - 21 = i * 21 + j by omega, List.set_cons_succ, List.flatMap_cons]
  rw [flatS_set r i (by simpa using h) j v y hj hy]
theorem Blk.spot {w : World} {b : Nat} {X : List Spot} (h : Blk w b (rowS X) 104) (i : Nat) (hi : i < X.length) (j : Nat) (hj : j < 21) {v : Value} (hv : (enS X[i])[j]? = some v) : w.cell? ⟨b, i * 21 + j, none⟩ = some v := by
 refine h.cell _ ?_
 unfold rowS
 rw [List.getElem?_toArray, flatS_get X i hi j hj, hv]
theorem Blk.setS {w : World} {b : Nat} {X : List Spot} (h : Blk w b (rowS X) 104) (i : Nat) (hi : i < X.length) (j : Nat) (hj : j < 21) (v : Value) (y : Spot) (hy : enS y = (enS X[i]).set j v) : Blk (w.setCell ⟨b, i * 21 + j, none⟩ v) b (rowS (X.set i y)) 104 := by
 have := h.set (i * 21 + j) v
 unfold rowS at this ⊢
 rw [List.setIfInBounds_toArray, flatS_set X i hi j v y hj hy] at this
 exact this
theorem Blk.range {w : World} {b : Nat} {X : List Spot} (h : Blk w b (rowS X) 104) (i : Nat) (hi : i < X.length) : w.rangeAt b (i * 21) (enS X[i]) := fun j v hv => by
 have hj : j < 21 := by
  have := (List.getElem?_eq_some_iff.1 hv).1
  rwa [enS_len] at this
 exact h.spot i hi j hj hv
theorem wpList_spot {ops : Array Oper} {rest : List Oper} {op : Oper} {a : Act} {w : World} {Q : Exit → Act → World → Prop} (hgd : op.guard = none) (x : Operand) (ho : op.op = .load 104 x) (b o : Nat) (s : Spot) (hc : w.rangeAt b o (enS s)) (hx : a.eval x = .pointer (some ⟨b, o, none⟩))
  (h : wpList Tryz.prog ops Q rest (a.put op.dst (.agg (enS s).toArray)) w) : wpList Tryz.prog ops Q (op :: rest) a w :=
 wpList_load_mid hgd 104 x ho b o hx (enS s) _ hc Tryz.underlying104 rfl (by kernel_rfl) h
theorem wpList_spotG {ops : Array Oper} {rest : List Oper} {op : Oper} {a : Act} {w : World} {Q : Exit → Act → World → Prop} (x : Operand) (ho : op.op = .load 104 x) (b o : Nat) (s : Spot) (hc : w.rangeAt b o (enS s)) (hx : a.eval x = .pointer (some ⟨b, o, none⟩)) (hw : Region.wanted op (yielded ops a.tmps) = true)
  (h : wpList Tryz.prog ops Q rest (a.put op.dst (.agg (enS s).toArray)) w) : wpList Tryz.prog ops Q (op :: rest) a w :=
 BigFrame.wpList_want hw fun _ hK => wp_load_mid 104 x ho b o hx (enS s) _ hc Tryz.underlying104 rfl (by kernel_rfl) (hK _ _ h)
structure SpotAt (w : World) (b o : Nat) (x : Spot) : Prop where
 c0 : w.cell? ⟨b, o, none⟩ = some (.int .u64 x.a.hi)
 c1 : w.cell? ⟨b, o + 1, none⟩ = some (.int .u64 x.a.lo)
 c2 : w.cell? ⟨b, o + 2, none⟩ = some (.int .u64 x.a.id)
 c3 : w.cell? ⟨b, o + 3, none⟩ = some (.int .u64 x.a.par)
 c4 : w.cell? ⟨b, o + 4, none⟩ = some (.slice x.p.la x.a.links.length x.p.lc)
 c5 : w.cell? ⟨b, o + 5, none⟩ = some (.string x.a.svc)
 c6 : w.cell? ⟨b, o + 6, none⟩ = some (.string x.a.op)
 c7 : w.cell? ⟨b, o + 7, none⟩ = some (.int .i64 x.a.kind)
 c8 : w.cell? ⟨b, o + 8, none⟩ = some (.int .i64 x.a.status)
 c9 : w.cell? ⟨b, o + 9, none⟩ = some (.int .i64 x.a.start)
 c10 : w.cell? ⟨b, o + 10, none⟩ = some (.int .i64 x.a.fin)
 c11 : w.cell? ⟨b, o + 11, none⟩ = some (.slice x.p.aa x.a.attrs.length x.p.ac)
 c12 : w.cell? ⟨b, o + 12, none⟩ = some (.slice x.p.ea x.a.events.length x.p.ec)
 c13 : w.cell? ⟨b, o + 13, none⟩ = some (.int .u64 x.nd.id)
 c14 : w.cell? ⟨b, o + 14, none⟩ = some (.int .u64 x.nd.par)
 c15 : w.cell? ⟨b, o + 15, none⟩ = some (.int .i64 x.nd.org)
 c16 : w.cell? ⟨b, o + 16, none⟩ = some (.int .u64 x.nd.tree)
 c17 : w.cell? ⟨b, o + 17, none⟩ = some (.int .i64 x.nd.dep)
 c18 : w.cell? ⟨b, o + 18, none⟩ = some (.int .i64 x.nd.fr)
 c19 : w.cell? ⟨b, o + 19, none⟩ = some (.int .i64 x.nd.til)
 c20 : w.cell? ⟨b, o + 20, none⟩ = some x.kv
theorem Blk.spots {w : World} {b : Nat} {X : List Spot} (h : Blk w b (rowS X) 104) (i : Nat) (hi : i < X.length) : SpotAt w b (i * 21) X[i] :=
 ⟨h.spot i hi 0 (by omega) rfl, h.spot i hi 1 (by omega) rfl, h.spot i hi 2 (by omega) rfl, h.spot i hi 3 (by omega) rfl, h.spot i hi 4 (by omega) rfl, h.spot i hi 5 (by omega) rfl, h.spot i hi 6 (by omega) rfl, h.spot i hi 7 (by omega) rfl, h.spot i hi 8 (by omega) rfl, h.spot i hi 9 (by omega) rfl, h.spot i hi 10 (by omega) rfl, h.spot i hi 11 (by omega) rfl, h.spot i hi 12 (by omega) rfl, h.spot i hi 13 (by omega) rfl, h.spot i hi 14 (by omega) rfl, h.spot i hi 15 (by omega) rfl, h.spot i hi 16 (by omega) rfl, h.spot i hi 17 (by omega) rfl, h.spot i hi 18 (by omega) rfl, h.spot i hi 19 (by omega) rfl, h.spot i hi 20 (by omega) rfl⟩
end Go.Proofs.YtnffedmcblbkoaaGreatDoor
