/-
  Merged by merge.py: SO, FA, FB, Wh, We.
-/
import Derived.Test.YtkdgnhohecifoaaGreatDoorMa04
import Derived.Deep.MidRow
import Derived.Shelf.Spec.DecodeRune
namespace Go.Proofs.YtkdgnhohecifoaaGreatDoor
open Go.RowKit
set_option maxRecDepth 100000

/-- A list of spans, thirteen cells each. -/
structure SpsAt (w : World) (ad : Option Addr) (n : Nat) (X : List Sp) (P : Nat → Pl) : Prop where
  len : X.length = n
  lies : 0 < n → ∃ b off, ad = some ⟨b, off, none⟩ ∧ ∀ i (_ : i < X.length) (j : Nat) (u : Value), (spC X[i] (P i))[j]? = some u → w.cell? ⟨b, off + i * 13 + j, none⟩ = some u
  each : ∀ i (_ : i < X.length), SpAt w X[i] (P i)
theorem SpsAt.below {w w' : World} {ad : Option Addr} {n : Nat} {X : List Sp} {P : Nat → Pl} (h : SpsAt w ad n X P) (hb : Below w.heap.size w w') : SpsAt w' ad n X P := by
  refine ⟨h.len, fun hp => ?_, fun i hi => (h.each i hi).below hb⟩
  obtain ⟨b, off, ha, hc⟩ := h.lies hp
  refine ⟨b, off, ha, fun i hi j u hu => ?_⟩
  have h1 := hc i hi j u hu
  exact (hb.cell (p := ⟨b, _, none⟩) (World.block_lt_of_cell? w _ h1)).trans h1
end Go.Proofs.YtkdgnhohecifoaaGreatDoor

namespace Go.Proofs.YtkdgnhohecifoaaGreatDoor
open Go Go.RowKit
set_option maxRecDepth 100000

/-- A block of cells, as a whole. -/
def Blk (w : World) (b : Nat) (c : Array Value) (T : TypeId) : Prop := w.heap[b]? = some (.cells c T (0, 0))
theorem Blk.lt {w : World} {b : Nat} {c : Array Value} {T : TypeId} (h : Blk w b c T) : b < w.heap.size := by
  have := h
  unfold Blk at this
  exact (Array.getElem?_eq_some_iff.1 this).1
theorem Blk.cell {w : World} {b : Nat} {c : Array Value} {T : TypeId} (h : Blk w b c T) (k : Nat) {v : Value} (hv : c[k]? = some v) : w.cell? ⟨b, k, none⟩ = some v := by
  unfold Blk at h
  simp [World.cell?, h, hv]
theorem Blk.frozen {w : World} {b : Nat} {c : Array Value} {T : TypeId} (h : Blk w b c T) (k : Nat) : w.frozen? ⟨b, k, none⟩ = false := by
  unfold Blk at h
  simp [World.frozen?, h]
theorem Blk.set {w : World} {b : Nat} {c : Array Value} {T : TypeId} (h : Blk w b c T) (k : Nat) (v : Value) : Blk (w.setCell ⟨b, k, none⟩ v) b (c.setIfInBounds k v) T := by
  unfold Blk at h ⊢
  simp [World.setCell, Array.getElem?_modify, h]
theorem Blk.other {w : World} {b : Nat} {c : Array Value} {T : TypeId} (h : Blk w b c T) (a : Addr) (v : Value) (hne : b ≠ a.block) : Blk (w.setCell a v) b c T := by
  unfold Blk at h ⊢
  rw [Below.heap_setCell w a v b hne]
  exact h
theorem Blk.alloc {w : World} {b : Nat} {c : Array Value} {T : TypeId} (h : Blk w b c T) (o : Obj) : Blk (w.alloc o) b c T := by
  have := h.lt
  unfold Blk at h ⊢
  rw [Below.heap_alloc w o b this]
  exact h
theorem Blk.new (w : World) (c : Array Value) (T : TypeId) : Blk (w.alloc (.cells c T)) w.heap.size c T := by
  exact heap_alloc_new w _
theorem Blk.below {w w' : World} {b B : Nat} {c : Array Value} {T : TypeId} (h : Blk w b c T) (hb : Below B w w') (hB : b < B) : Blk w' b c T := by
  unfold Blk at h ⊢
  rw [hb.block b hB]; exact h
theorem Blk.upd {S : Nat → Prop} {w w' : World} {b : Nat} {c : Array Value} {T : TypeId} (h : Blk w b c T) (hu : Upd S w w') (hS : ¬ S b) : Blk w' b c T := by
  have := h.lt
  unfold Blk at h ⊢
  rw [hu.block b this hS]; exact h

/-- Where a span stands. -/
structure Nod where
  id : Int
  par : Int
  org : Int
  tree : Int
  dep : Int
  fr : Int
  til : Int
def ndC (d : Nod) : List Value := [.int .u64 d.id, .int .u64 d.par, .int .i64 d.org, .int .u64 d.tree, .int .i64 d.dep, .int .i64 d.fr, .int .i64 d.til]
def ndV (d : Nod) : Value := .agg #[.int .u64 d.id, .int .u64 d.par, .int .i64 d.org, .int .u64 d.tree, .int .i64 d.dep, .int .i64 d.fr, .int .i64 d.til]
/-- A spot: a span, where its lists lie, its node, its children's row. -/
structure Spot where
  a : Sp
  p : Pl
  nd : Nod
  ka : Option Addr
  kn : Nat
  kc : Nat
def Spot.kv (x : Spot) : Value := .slice x.ka x.kn x.kc
def enS (x : Spot) : List Value := [.int .u64 x.a.hi, .int .u64 x.a.lo, .int .u64 x.a.id, .int .u64 x.a.par, .slice x.p.la x.a.links.length x.p.lc, .string x.a.svc, .string x.a.op, .int .i64 x.a.kind, .int .i64 x.a.status, .int .i64 x.a.start, .int .i64 x.a.fin, .slice x.p.aa x.a.attrs.length x.p.ac, .slice x.p.ea x.a.events.length x.p.ec, .int .u64 x.nd.id, .int .u64 x.nd.par, .int .i64 x.nd.org, .int .u64 x.nd.tree, .int .i64 x.nd.dep, .int .i64 x.nd.fr, .int .i64 x.nd.til, .slice x.ka x.kn x.kc]
theorem enS_len (x : Spot) : (enS x).length = 21 := rfl
def rowS (X : List Spot) : Array Value := (X.flatMap enS).toArray
theorem flatS_len (X : List Spot) : (X.flatMap enS).length = X.length * 21 := by
  induction X with
  | nil => rfl
  | cons x r ih => rw [List.flatMap_cons, List.length_append, ih, enS_len, List.length_cons]; omega
theorem flatS_get : ∀ (X : List Spot) (i : Nat) (h : i < X.length) (j : Nat), j < 21 → (X.flatMap enS)[i * 21 + j]? = (enS X[i])[j]?
  | [], i, h, j, _ => absurd h (by simp)
  | x :: r, 0, h, j, hj => by
    rw [List.flatMap_cons, List.getElem?_append_left (by rw [enS_len]; omega)]
    simp
  | x :: r, i + 1, h, j, hj => by
    rw [List.flatMap_cons, List.getElem?_append_right (by rw [enS_len]; omega), enS_len, show (i + 1) * 21 + j - 21 = i * 21 + j by omega]
    exact flatS_get r i (by simpa using h) j hj
theorem flatS_set : ∀ (X : List Spot) (i : Nat) (h : i < X.length) (j : Nat) (v : Value) (y : Spot), j < 21 → enS y = (enS X[i]).set j v → (X.flatMap enS).set (i * 21 + j) v = (X.set i y).flatMap enS
  | [], i, h, j, v, y, _, _ => absurd h (by simp)
  | x :: r, 0, h, j, v, y, hj, hy => by
    rw [List.flatMap_cons, List.set_append_left _ _ (by rw [enS_len]; omega), List.set_cons_zero, List.flatMap_cons, hy]
    simp
  | x :: r, i + 1, h, j, v, y, hj, hy => by
    rw [List.flatMap_cons, List.set_append_right _ _ (by rw [enS_len]; omega), enS_len, show (i + 1) * 21 + j - 21 = i * 21 + j by omega, List.set_cons_succ, List.flatMap_cons]
    rw [flatS_set r i (by simpa using h) j v y hj hy]
theorem Blk.spot {w : World} {b : Nat} {X : List Spot} (h : Blk w b (rowS X) 98) (i : Nat) (hi : i < X.length) (j : Nat) (hj : j < 21) {v : Value} (hv : (enS X[i])[j]? = some v) : w.cell? ⟨b, i * 21 + j, none⟩ = some v := by
  refine h.cell _ ?_
  unfold rowS
  rw [List.getElem?_toArray, flatS_get X i hi j hj, hv]
theorem Blk.setS {w : World} {b : Nat} {X : List Spot} (h : Blk w b (rowS X) 98) (i : Nat) (hi : i < X.length) (j : Nat) (hj : j < 21) (v : Value) (y : Spot) (hy : enS y = (enS X[i]).set j v) : Blk (w.setCell ⟨b, i * 21 + j, none⟩ v) b (rowS (X.set i y)) 98 := by
  have := h.set (i * 21 + j) v
  unfold rowS at this ⊢
  rw [List.setIfInBounds_toArray, flatS_set X i hi j v y hj hy] at this
  exact this
theorem Blk.range {w : World} {b : Nat} {X : List Spot} (h : Blk w b (rowS X) 98) (i : Nat) (hi : i < X.length) : w.rangeAt b (i * 21) (enS X[i]) := fun j v hv => by
  have hj : j < 21 := by
    have := (List.getElem?_eq_some_iff.1 hv).1
    rwa [enS_len] at this
  exact h.spot i hi j hj hv
theorem spot_load (w : World) (b o : Nat) (x : Spot) (h : w.rangeAt b o (enS x)) : (Instr.loadAt 98 (.pointer (some ⟨b, o, none⟩))).run Tryz.prog w = .ok (.agg (enS x).toArray) w :=
  run_loadAt_mid w b o 98 (enS x) _ h Tryz.underlying98 rfl (by kernel_rfl)
theorem wpList_spot {ops : Array Oper} {rest : List Oper} {op : Oper} {a : Act} {w : World} {Q : Exit → Act → World → Prop} (hgd : op.guard = none) (x : Operand) (ho : op.op = .load 98 x) (b o : Nat) (s : Spot) (hc : w.rangeAt b o (enS s)) (hx : a.eval x = .pointer (some ⟨b, o, none⟩))
    (h : wpList Tryz.prog ops Q rest (a.put op.dst (.agg (enS s).toArray)) w) : wpList Tryz.prog ops Q (op :: rest) a w :=
  wpList_load_mid hgd 98 x ho b o hx (enS s) _ hc Tryz.underlying98 rfl (by kernel_rfl) h
theorem wpList_spotG {ops : Array Oper} {rest : List Oper} {op : Oper} {a : Act} {w : World} {Q : Exit → Act → World → Prop} (x : Operand) (ho : op.op = .load 98 x) (b o : Nat) (s : Spot) (hc : w.rangeAt b o (enS s)) (hx : a.eval x = .pointer (some ⟨b, o, none⟩)) (hw : Region.wanted op (yielded ops a.tmps) = true)
    (h : wpList Tryz.prog ops Q rest (a.put op.dst (.agg (enS s).toArray)) w) : wpList Tryz.prog ops Q (op :: rest) a w :=
  BigFrame.wpList_want hw fun _ hK => wp_load_mid 98 x ho b o hx (enS s) _ hc Tryz.underlying98 rfl (by kernel_rfl) (hK _ _ h)
/-- A spot's cells at once. -/
structure SpotAt (w : World) (b o : Nat) (x : Spot) : Prop where
  c0 : w.cell? ⟨b, o, none⟩ = some (.int .u64 x.a.hi)
  c1 : w.cell? ⟨b, o + 1, none⟩ = some (.int .u64 x.a.lo)
  c2 : w.cell? ⟨b, o + 2, none⟩ = some (.int .u64 x.a.id)
  c3 : w.cell? ⟨b, o + 3, none⟩ = some (.int .u64 x.a.par)
  c4 : w.cell? ⟨b, o + 4, none⟩ = some (.slice x.p.la x.a.links.length x.p.lc)
  c5 : w.cell? ⟨b, o + 5, none⟩ = some (.string x.a.svc)
  c6 : w.cell? ⟨b, o + 6, none⟩ = some (.string x.a.op)
  c7 : w.cell? ⟨b, o + 7, none⟩ = some (.int .i64 x.a.kind)
  c8 : w.cell? ⟨b, o + 8, none⟩ = some (.int .i64 x.a.status)
  c9 : w.cell? ⟨b, o + 9, none⟩ = some (.int .i64 x.a.start)
  c10 : w.cell? ⟨b, o + 10, none⟩ = some (.int .i64 x.a.fin)
  c11 : w.cell? ⟨b, o + 11, none⟩ = some (.slice x.p.aa x.a.attrs.length x.p.ac)
  c12 : w.cell? ⟨b, o + 12, none⟩ = some (.slice x.p.ea x.a.events.length x.p.ec)
  c13 : w.cell? ⟨b, o + 13, none⟩ = some (.int .u64 x.nd.id)
  c14 : w.cell? ⟨b, o + 14, none⟩ = some (.int .u64 x.nd.par)
  c15 : w.cell? ⟨b, o + 15, none⟩ = some (.int .i64 x.nd.org)
  c16 : w.cell? ⟨b, o + 16, none⟩ = some (.int .u64 x.nd.tree)
  c17 : w.cell? ⟨b, o + 17, none⟩ = some (.int .i64 x.nd.dep)
  c18 : w.cell? ⟨b, o + 18, none⟩ = some (.int .i64 x.nd.fr)
  c19 : w.cell? ⟨b, o + 19, none⟩ = some (.int .i64 x.nd.til)
  c20 : w.cell? ⟨b, o + 20, none⟩ = some x.kv
theorem Blk.spots {w : World} {b : Nat} {X : List Spot} (h : Blk w b (rowS X) 98) (i : Nat) (hi : i < X.length) : SpotAt w b (i * 21) X[i] :=
  ⟨h.spot i hi 0 (by omega) rfl, h.spot i hi 1 (by omega) rfl, h.spot i hi 2 (by omega) rfl, h.spot i hi 3 (by omega) rfl, h.spot i hi 4 (by omega) rfl, h.spot i hi 5 (by omega) rfl, h.spot i hi 6 (by omega) rfl, h.spot i hi 7 (by omega) rfl, h.spot i hi 8 (by omega) rfl, h.spot i hi 9 (by omega) rfl, h.spot i hi 10 (by omega) rfl, h.spot i hi 11 (by omega) rfl, h.spot i hi 12 (by omega) rfl, h.spot i hi 13 (by omega) rfl, h.spot i hi 14 (by omega) rfl, h.spot i hi 15 (by omega) rfl, h.spot i hi 16 (by omega) rfl, h.spot i hi 17 (by omega) rfl, h.spot i hi 18 (by omega) rfl, h.spot i hi 19 (by omega) rfl, h.spot i hi 20 (by omega) rfl⟩
end Go.Proofs.YtkdgnhohecifoaaGreatDoor

namespace Go.Proofs.YtkdgnhohecifoaaGreatDoor
open Go Go.RowKit
set_option maxRecDepth 100000

theorem findCmp_any (x : Spot) (id : Int) (W : World) :
    Calls Tryz.prog 70 #[.agg (enS x).toArray, .int .u64 id] W fun e w' => e = .returned (.int .i64 (cmpI x.nd.id id)) ∧ w' = W.alloc (.cells (enS x).toArray 98) := by
  have C := fun W' => cmp_id x.nd.id id W'
  generalize cmpI x.nd.id id = r at C ⊢
  unfold enS
  go_enter Tryz.func70, Tryz.ntmps70
  go_wp2_with (go_at_call 31; refine (C _).mono ?_; rintro e w' ⟨rfl, rfl⟩)
  go_ret
  exact ⟨rfl, rfl⟩
/-- Spots stand by rising IDs. -/
def RiseS (X : List Spot) : Prop := ∀ i j (hi : i < X.length) (hj : j < X.length), i < j → X[i].nd.id < X[j].nd.id
/-- Where a span's spot is. -/
def FindR (X : List Spot) (id : Int) (v : Value) : Prop :=
  (∃ k, ∃ h : k < X.length, X[k].nd.id = id ∧ v = .tuple #[.int .i64 k, .bool true]) ∨ ((∀ i (h : i < X.length), X[i].nd.id ≠ id) ∧ ∃ k : Nat, v = .tuple #[.int .i64 k, .bool false])
set_option maxHeartbeats 4000000 in
theorem search_any (sb n : Nat) (X : List Spot) (id : Int) (w : World) (hB : Blk w sb (rowS X) 98) (hn : X.length = n) (hs : RiseS X) (hl : n ≤ 1000000) :
    Calls Tryz.prog 69 #[.slice (some ⟨sb, 0, none⟩) n n, .int .u64 id, .func (.func 70) #[] #[]] w fun e w' => (∃ v, e = .returned v ∧ FindR X id v) ∧ Below w.heap.size w w' := by
  have HX : Hid _ := hn
  have HS : Hid _ := hs
  have HB : Hid _ := hB
  clear hn hs hB
  go_enter Tryz.func69, Tryz.ntmps69
  go_wp2
  go_loopw [9, 10] (fun x y wr => ∃ i j : Nat, x = .int .i64 i ∧ y = .int .i64 j ∧ i ≤ j ∧ j ≤ n ∧ (∀ k (h : k < X.length), k < i → X[k].nd.id < id) ∧ (∀ k (h : k < X.length), j ≤ k → id ≤ X[k].nd.id) ∧ Below w.heap.size w wr) (fun x y _ => (intOf y).toNat - (intOf x).toNat)
  case atStart => exact ⟨0, n, rfl, rfl, by omega, by omega, fun k _ h => by omega, fun k h1 h2 => by have := HX.out; omega, Below.refl _ _⟩
  case round =>
    obtain ⟨i, j, rfl, rfl, hij, hjn, h1, h2, hb⟩ := hrel
    have H1 : Hid _ := h1
    have H2 : Hid _ := h2
    have HBB : Hid _ := hb
    clear h1 h2 hb
    by_cases hlt : i < j
    · have hmX : (i + j) / 2 < X.length := by rw [HX.out]; omega
      have sp := Blk.range (Blk.below HB.out HBB.out (Blk.lt HB.out)) ((i + j) / 2) hmX
      have FC := fun W => findCmp_any (X[(i + j) / 2]'hmX) id W
      obtain ⟨x, hx⟩ : ∃ x, X[(i + j) / 2]'hmX = x := ⟨_, rfl⟩
      rw [hx] at sp FC
      have HHX : Hid _ := hx
      clear hx
      have LD : Hid _ := sp
      clear sp
      have ec : cmpI x.nd.id id = if x.nd.id < id then -1 else if id < x.nd.id then 1 else 0 := rfl
      by_cases hc : x.nd.id < id
      · rw [if_pos hc] at ec
        rw [ec] at FC
        clear ec
        go_wp2_with (first | (refine wpList_spot rfl _ rfl sb _ x LD.out rfl ?_) | (refine wpList_spotG _ rfl sb _ x LD.out rfl rfl ?_) | (go_at_call 70; refine (FC _).mono ?_; rintro e w' ⟨rfl, rfl⟩))
        go_roundw
        case rel =>
          refine ⟨(i + j) / 2 + 1, j, by simp, rfl, by omega, hjn, fun k hk hki => ?_, H2.out, HBB.out.alloc HBB.out.size _⟩
          have e2 : X[(i + j) / 2]'(by have := HX.out; omega) = x := HHX.out
          by_cases hk2 : k = (i + j) / 2
          · subst hk2; rw [e2]; exact hc
          · have := HS.out k ((i + j) / 2) hk (by have := HX.out; omega) (by omega)
            rw [e2] at this
            omega
        case measure => simp [intOf]; omega
      · have ec2 : cmpI x.nd.id id = (if id < x.nd.id then 1 else 0) := by rw [ec, if_neg hc]
        have hge : (if id < x.nd.id then (1 : Int) else 0) ≥ 0 := by split <;> omega
        rw [ec2] at FC
        clear ec ec2
        generalize (if id < x.nd.id then (1 : Int) else 0) = r at FC hge
        go_wp2_with (first | (refine wpList_spot rfl _ rfl sb _ x LD.out rfl ?_) | (refine wpList_spotG _ rfl sb _ x LD.out rfl rfl ?_) | (go_at_call 70; refine (FC _).mono ?_; rintro e w' ⟨rfl, rfl⟩))
        go_roundw
        case rel =>
          refine ⟨i, (i + j) / 2, rfl, by simp, by omega, by omega, H1.out, fun k hk hki => ?_, HBB.out.alloc HBB.out.size _⟩
          have e2 : X[(i + j) / 2]'(by have := HX.out; omega) = x := HHX.out
          by_cases hk2 : k = (i + j) / 2
          · subst hk2; rw [e2]; omega
          · have := HS.out ((i + j) / 2) k (by have := HX.out; omega) hk (by omega)
            rw [e2] at this
            omega
        case measure => simp [intOf]; omega
    · obtain rfl : i = j := by omega
      by_cases hin : i < n
      · have hmX : i < X.length := by rw [HX.out]; omega
        have sp := Blk.range (Blk.below HB.out HBB.out (Blk.lt HB.out)) i hmX
        have FC := fun W => findCmp_any (X[i]'hmX) id W
        obtain ⟨x, hx⟩ : ∃ x, X[i]'hmX = x := ⟨_, rfl⟩
        rw [hx] at sp FC
        have HHX : Hid (X[i]'hmX = x) := hx
        have hle : id ≤ x.nd.id := by rw [← hx]; exact H2.out i hmX (by omega)
        clear hx
        have LD : Hid _ := sp
        clear sp
        have ec : cmpI x.nd.id id = if x.nd.id < id then -1 else if id < x.nd.id then 1 else 0 := rfl
        rw [if_neg (show ¬ x.nd.id < id by omega)] at ec
        rw [ec] at FC
        clear ec
        by_cases heq : id < x.nd.id
        · rw [if_pos heq] at FC
          go_wp2_with (first | (refine wpList_spot rfl _ rfl sb _ x LD.out rfl ?_) | (refine wpList_spotG _ rfl sb _ x LD.out rfl rfl ?_) | (go_at_call 70; refine (FC _).mono ?_; rintro e w' ⟨rfl, rfl⟩))
          go_ret2
          refine ⟨⟨_, rfl, Or.inr ⟨fun k hk => ?_, i, rfl⟩⟩, HBB.out.alloc HBB.out.size _⟩
          by_cases hki : k < i
          · have := H1.out k hk hki; omega
          · by_cases hk2 : k = i
            · subst hk2; rw [HHX.out]; omega
            · have := HS.out i k hmX hk (by omega)
              rw [HHX.out] at this
              omega
        · rw [if_neg heq] at FC
          go_wp2_with (first | (refine wpList_spot rfl _ rfl sb _ x LD.out rfl ?_) | (refine wpList_spotG _ rfl sb _ x LD.out rfl rfl ?_) | (go_at_call 70; refine (FC _).mono ?_; rintro e w' ⟨rfl, rfl⟩))
          go_ret2
          exact ⟨⟨_, rfl, Or.inl ⟨i, hmX, by rw [HHX.out]; omega, rfl⟩⟩, HBB.out.alloc HBB.out.size _⟩
      · go_wp2
        go_ret2
        refine ⟨⟨_, rfl, Or.inr ⟨fun k hk => ?_, i, rfl⟩⟩, HBB.out⟩
        have := H1.out k hk (by have := HX.out; omega)
        omega
theorem find_any (f sb n : Nat) (X : List Spot) (id : Int) (w : World) (hf : w.cell? ⟨f, 0, none⟩ = some (.slice (some ⟨sb, 0, none⟩) n n)) (hB : Blk w sb (rowS X) 98) (hn : X.length = n) (hs : RiseS X) (hl : n ≤ 1000000) :
    Calls Tryz.prog 43 #[.pointer (some ⟨f, 0, none⟩), .int .u64 id] w fun e w' => (∃ v, e = .returned v ∧ FindR X id v) ∧ Below w.heap.size w w' := by
  have SE := search_any sb n X id w hB hn hs hl
  clear hB hn hs hl
  go_enter Tryz.func43, Tryz.ntmps43
  go_wp2_with (go_at_call 69; refine SE.mono ?_; rintro e w' ⟨⟨v, rfl, hv⟩, hb⟩; rcases hv with ⟨k, hk, h1, rfl⟩ | ⟨h1, k, rfl⟩)
  · go_ret2
    exact ⟨⟨_, rfl, Or.inl ⟨k, hk, h1, rfl⟩⟩, hb⟩
  · go_ret2
    exact ⟨⟨_, rfl, Or.inr ⟨h1, k, rfl⟩⟩, hb⟩
end Go.Proofs.YtkdgnhohecifoaaGreatDoor

namespace Go.Proofs.YtkdgnhohecifoaaGreatDoor
open Go.Shelf Go.RowKit
end Go.Proofs.YtkdgnhohecifoaaGreatDoor

namespace Go.Proofs.YtkdgnhohecifoaaGreatDoor
open Go.Shelf Go.RowKit
set_option maxRecDepth 100000

/-- The two tables of the decoder. -/
def Tabs (w : World) : Prop := Lib.Utf8Tabs 0 1 w
theorem Tabs.lt {w : World} (h : Tabs w) : 0 < w.heap.size ∧ 1 < w.heap.size :=
  ⟨World.block_lt_of_cell? w ⟨0, 0, none⟩ (h.1 0 (by omega)), World.block_lt_of_cell? w ⟨1, 2 * 0, none⟩ (h.2 0 (by omega)).1⟩
theorem Tabs.upd {S : Nat → Prop} {w w' : World} (h : Tabs w) (hu : Upd S w w') (h1 : ¬ S 0) (h2 : ¬ S 1) : Tabs w' := by
  have hl := h.lt
  have e1 := fun (o : Nat) => World.cell?_of_block (w := w) (w' := w') (a := ⟨0, o, none⟩) (hu.block _ hl.1 h1)
  have e2 := fun (o : Nat) => World.cell?_of_block (w := w) (w' := w') (a := ⟨1, o, none⟩) (hu.block _ hl.2 h2)
  exact ⟨fun c hc => (e1 c).trans (h.1 c hc), fun i hi => ⟨(e2 _).trans (h.2 i hi).1, (e2 _).trans (h.2 i hi).2⟩⟩
theorem Tabs.below {w w' : World} (h : Tabs w) (hb : Below w.heap.size w w') : Tabs w' :=
  h.upd (Upd.ofBelow (S := fun _ => False) hb (fun k hk hk' => by omega)) (fun h => h) (fun h => h)

theorem strI_get (K : List Int) (j : Nat) (hj : j < K.length) (hb : ∀ x ∈ K, 0 ≤ x ∧ x < 256) : (((strI K).get! j).toNat : Int) = K.getD j 0 := by
  have hm := hb K[j] (List.getElem_mem hj)
  have e : (strI K).get! j = UInt8.ofNat (K[j]).toNat := by
    show (K.map (fun n => UInt8.ofNat n.toNat)).toArray[j]! = _
    simp [hj]
  rw [e, List.getD, List.getElem?_eq_getElem hj]
  simp
  omega
theorem bt_getD (K : List Int) (j : Nat) (hj : j < K.length) : bt K j = K.getD j 0 := by
  unfold bt; rw [List.getD, List.getD, List.getElem?_eq_getElem hj]; rfl
theorem bt_none (K : List Int) (j : Nat) (hj : K.length ≤ j) : bt K j = -1 := by
  unfold bt; rw [List.getD, List.getElem?_eq_none hj]; rfl

/-- What Go's decoder tells of bytes, in the document's words. -/
theorem decode_rune (K : List Int) (h0 : 0 < K.length) (hb : ∀ x ∈ K, 0 ≤ x ∧ x < 256) :
    (runeL K = 0 → Lib.decodeGo (strI K) = (65533, 1)) ∧ (0 < runeL K → (Lib.decodeGo (strI K)).2 = runeL K ∧ ((Lib.decodeGo (strI K)).1 = 65533 → 1 < runeL K)) := by
  have hs := strI_size K
  have hd : Lib.decodeGo (strI K) = Lib.decodeN K.length ((strI K).get! 0).toNat ((strI K).get! 1).toNat ((strI K).get! 2).toNat ((strI K).get! 3).toNat := by
    simp only [Lib.decodeGo]
    rw [if_neg (by omega), Lib.decode_at, hs]; rfl
  rw [hd]
  have e0 : bt K 0 = (((strI K).get! 0).toNat : Int) := by rw [bt_getD K 0 h0, strI_get K 0 h0 hb]
  have ei : ∀ i, bt K i = if i < K.length then (((strI K).get! i).toNat : Int) else -1 := by
    intro i
    split
    · rename_i h; rw [bt_getD K i h, strI_get K i h hb]
    · rename_i h; exact bt_none K i (by omega)
  have := dec_rune K.length ((strI K).get! 0).toNat ((strI K).get! 1).toNat ((strI K).get! 2).toNat ((strI K).get! 3).toNat h0 (UInt8.toNat_lt _) (UInt8.toNat_lt _) (UInt8.toNat_lt _) (UInt8.toNat_lt _) (bt K 1) (bt K 2) (bt K 3) (ei 1) (ei 2) (ei 3)
  rw [← e0] at this
  exact this

end Go.Proofs.YtkdgnhohecifoaaGreatDoor
