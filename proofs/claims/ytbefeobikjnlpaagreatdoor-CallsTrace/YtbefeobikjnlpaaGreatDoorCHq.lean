/-
  Merged: CH, CJ.
-/
import Derived.Test.YtbefeobikjnlpaaGreatDoorCMq
import Derived.Test.YtbefeobikjnlpaaGreatDoorSkHq
import Derived.Test.YtbefeobikjnlpaaGreatDoorYcq
import Derived.Test.YtbefeobikjnlpaaGreatDoorMwq
import Derived.OwnWalk
namespace Go.Proofs.YtbefeobikjnlpaaGreatDoor.sk
open Go.RowKit
set_option maxRecDepth 100000

theorem takeC {P : Program} {Q : Exit → Act → World → Prop} {md : Region.Mode} {S : World → Prop} {l : List Oper} {i : Nat} {oi : Oper} {v : Value} {fuel : Nat} {listed : Array Bool} {a : Act} {w : World} (hi : l[i]? = some oi)
    (hs : Region.noSelect l.toArray = true) (hf : Region.free md l.toArray listed i = true) (hr : (Region.ready md l.toArray listed).contains i = true)
    (hQ : ∀ c a w, Q (.panic c) (a.put oi.dst v) w → Q (.panic c) a w) (hy : YieldsIf P l.toArray S oi v a) (hS : S w)
    (h : wpAnyH P md l.toArray Q S fuel (listed.setIfInBounds i true) (a.put oi.dst v) w) : wpAnyH P md l.toArray Q S (fuel + 1) listed a w :=
  wpAnyH_take (by simpa using hi) hs hf hr hQ hy hS h
theorem onlyC {P : Program} {Q : Exit → Act → World → Prop} {md : Region.Mode} {S : World → Prop} {l : List Oper} {i : Nat} {oi : Oper} {fuel : Nat} {listed : Array Bool} {a : Act} {w : World} (hi : l[i]? = some oi)
    (hr : Region.ready md l.toArray listed = [i])
    (h : ∀ K : Act → World → Prop, (∀ a' w', S w' ∧ wpAnyH P md l.toArray Q S fuel (listed.setIfInBounds i true) a' w' → K a' w') → if Region.wanted oi (yielded l.toArray a.tmps) = true then Oper.wp P oi a w K Q else K (a.put oi.dst undef) w) : wpAnyH P md l.toArray Q S (fuel + 1) listed a w := by
  refine wpAnyH_all hr (by simp) ?_
  intro j hj
  simp at hj
  subst hj
  have hi' : l.toArray[j]? = some oi := by simpa using hi
  unfold wpOp
  simp only [hi']
  have := h (fun a' w' => S w' ∧ wpAnyH P md l.toArray Q S fuel (listed.setIfInBounds j true) a' w') (fun _ _ h => h)
  split
  · rename_i hw; rw [if_pos hw] at this; exact Or.inl this
  · rename_i hw; rw [if_neg hw] at this; exact this
/-- Two may come next. -/
theorem twoC {P : Program} {Q : Exit → Act → World → Prop} {md : Region.Mode} {S : World → Prop} {l : List Oper} {i j : Nat} {oi oj : Oper} {fuel : Nat} {listed : Array Bool} {a : Act} {w : World} (hi : l[i]? = some oi) (hj : l[j]? = some oj)
    (hr : Region.ready md l.toArray listed = [i, j])
    (h : ∀ K : Act → World → Prop, (∀ a' w', S w' ∧ wpAnyH P md l.toArray Q S fuel (listed.setIfInBounds i true) a' w' → K a' w') → if Region.wanted oi (yielded l.toArray a.tmps) = true then Oper.wp P oi a w K Q else K (a.put oi.dst undef) w)
    (h' : ∀ K : Act → World → Prop, (∀ a' w', S w' ∧ wpAnyH P md l.toArray Q S fuel (listed.setIfInBounds j true) a' w' → K a' w') → if Region.wanted oj (yielded l.toArray a.tmps) = true then Oper.wp P oj a w K Q else K (a.put oj.dst undef) w) : wpAnyH P md l.toArray Q S (fuel + 1) listed a w := by
  refine wpAnyH_all hr (by simp) ?_
  intro k hk
  simp at hk
  rcases hk with rfl | rfl
  · have hi' : l.toArray[k]? = some oi := by simpa using hi
    unfold wpOp
    simp only [hi']
    have := h (fun a' w' => S w' ∧ wpAnyH P md l.toArray Q S fuel (listed.setIfInBounds k true) a' w') (fun _ _ h => h)
    split
    · rename_i hw; rw [if_pos hw] at this; exact Or.inl this
    · rename_i hw; rw [if_neg hw] at this; exact this
  · have hj' : l.toArray[k]? = some oj := by simpa using hj
    unfold wpOp
    simp only [hj']
    have := h' (fun a' w' => S w' ∧ wpAnyH P md l.toArray Q S fuel (listed.setIfInBounds k true) a' w') (fun _ _ h => h)
    split
    · rename_i hw; rw [if_pos hw] at this; exact Or.inl this
    · rename_i hw; rw [if_neg hw] at this; exact this
/-- A struct takes a block's place, at a step of a drawn region. -/
theorem step_stW {ops : Array Oper} {o : Oper} {a : Act} {w : World} {K : Act → World → Prop} {Q : Exit → Act → World → Prop} {E : Prop} (hgd : o.guard = none) (ty : TypeId) (x y : Operand) (ho : o.op = .store ty x y) (b : Nat) (l cs : List Value) (e : TypeId) (hB : Blk w b l.toArray e) (hx : a.eval x = .pointer (some ⟨b, 0, none⟩)) (hy : a.eval y = .agg cs.toArray) (hl : l.length = cs.length)
    (hi : (Tryz.prog.info? ty).map (·.size) = some cs.length) (h1 : ∀ v ∈ cs, v.oneCell' = true)
    (h : ∀ w', Blk w' b cs.toArray e → Upd (fun k => k = b) w w' → K (a.put o.dst undef) w') : if Region.wanted o (yielded ops a.tmps) = true then Oper.wp Tryz.prog o a w K Q else E := by
  have hw : Region.wanted o (yielded ops a.tmps) = true := by simp [Region.wanted, hgd]
  rw [if_pos hw]
  refine wp_store_mid ty x y ho b 0 cs.toArray hx hy (by simpa using Blk.there hB 0 cs.length (by omega)) (by simpa using hi) (all_oneCell_toArray h1) ?_
  refine h _ ?_ (setCells_upd _ _ _ _)
  have := setCells_blk cs 0 l w hB
  rw [putL_eq cs l 0 (by omega)] at this
  simp only [List.take_zero, List.nil_append, Nat.zero_add, ← hl, List.drop_length, List.append_nil] at this
  exact this

/-- A tally's cells. -/
def talL (x0 x1 x2 x3 x4 x5 : Int) (ao : Option Addr) (L cp : Nat) : List Value := [.int .u64 x0, .int .u64 x1, .int .u64 x2, .int .u64 x3, .int .u64 x4, .int .u64 x5, .slice ao L cp]
theorem talL_one {x0 x1 x2 x3 x4 x5 : Int} {ao : Option Addr} {L cp : Nat} : ∀ v ∈ talL x0 x1 x2 x3 x4 x5 ao L cp, v.oneCell' = true := by
  intro v hv
  simp [talL] at hv
  rcases hv with rfl | rfl | rfl | rfl | rfl | rfl | rfl <;> rfl
/-- A tally's value: three numbers of 128 bits, and where its bars lie. -/
def talV (c e k : Nat) (ao : Option Addr) (L cp : Nat) : Value := .agg (talL (hi64 c) (lo64 c) (hi64 e) (lo64 e) (hi64 k) (lo64 k) ao L cp).toArray
/-- What a call that makes a sketch tells, with word of whose it is. -/
def SkQ (f : Nat → Nat) (w : World) (e : Ending) (w' : World) : Prop := ∃ ao L c, e = .returned (.tuple #[.slice ao L c, .int .i64 0]) ∧ Hid (SkAt w' ao L f) ∧ Below w.heap.size w w' ∧ Hid (OwnBar w.heap.size w' (.slice ao L c) (barsF f))
theorem MadeP.skQ {f : Nat → Nat} {err : Int} {w w' : World} {e : Ending} (h : MadeP (some f) err w e w') {g : Nat → Nat} (hf : ∀ j, f j ≤ topC) (hg : ∀ j, g j ≤ topC) (eq : ∀ i, i < 1920 → f i = g i) : SkQ g w e w' := by
  obtain ⟨hb, v, rfl, ho⟩ := h
  obtain ⟨ao, c, rfl, hI, hba⟩ := InAt.own ho hf
  have e1 := barsF_congr eq
  rw [e1] at ho hI
  rw [e1]
  exact ⟨ao, _, c, rfl, ⟨rfl, hI, hg⟩, hb, ho⟩
theorem merge_skQ (ao bo : Option Addr) (L M ca cb : Nat) (f g : Nat → Nat) (w : World) (h : SkAt w ao L f) (k : SkAt w bo M g) :
    Calls Tryz.prog 37 #[.slice ao L ca, .slice bo M cb] w (SkQ (minF f g) w) := by
  refine (merge_ok ao bo L M ca cb (barsF f) (barsF g) w h.at_ k.at_ (barsF_chk f) (barsF_chk g)).mono fun e w' hm => ?_
  refine hm.skQ (fun j => Nat.min_le_right _ _) (minF_le f g) fun i hi => ?_
  unfold mergeF minF
  rw [barsF_cnt f hi, barsF_cnt g hi]
theorem own_fresh {base : Nat} {w : World} {ao : Option Addr} {L c : Nat} {l : List (Int × Int)} (h : OwnBar base w (.slice ao L c) l) : ∀ a, ao = some a → base ≤ a.block := by
  intro a ha
  subst ha
  rcases h.2 with ⟨e, _⟩ | ⟨g, cap, cur, e, hg, _⟩
  · simp at e
  · simp at e
    obtain ⟨rfl, _⟩ := e
    exact hg
theorem OwnBar.upd {S : Nat → Prop} {base : Nat} {w w' : World} {v : Value} {l : List (Int × Int)} (h : OwnBar base w v l) (hu : Upd S w w') (hS : ∀ k, base ≤ k → ¬ S k) : OwnBar base w' v l := ownsRow_upd h hu (fun k hk => hS k (own_block h hk).1)
theorem OwnBar.below {base : Nat} {w w' : World} {v : Value} {l : List (Int × Int)} (h : OwnBar base w v l) (hb : Below w.heap.size w w') : OwnBar base w' v l := ownsRow_upd h (Upd.ofBelow (S := fun _ => False) hb (fun k hk hk' => by omega)) (fun _ _ h => h)
/-- What a call that makes a tally tells. -/
def TalP (c e k : Nat) (f : Nat → Nat) (w : World) (x : Ending) (w' : World) : Prop := ∃ ao L cp, x = .returned (.tuple #[talV c e k ao L cp, .int .i64 0]) ∧ Hid (SkAt w' ao L f) ∧ Below w.heap.size w w' ∧ Hid (OwnBar w.heap.size w' (.slice ao L cp) (barsF f))
theorem blk_loadT {w : World} {b : Nat} {x0 x1 x2 x3 x4 x5 : Int} {ao : Option Addr} {L cp : Nat} (h : Blk w b (talL x0 x1 x2 x3 x4 x5 ao L cp).toArray 43) : (loadVar 43 ⟨b, 0, none⟩).run Tryz.prog w = .ok (.agg (talL x0 x1 x2 x3 x4 x5 ao L cp).toArray) w :=
  run_loadVar_mid w b 0 43 _ _ (fun j v hv => by rw [Nat.zero_add]; exact h.cell j (by rw [List.getElem?_toArray]; exact hv)) Tryz.underlying43 rfl (by kernel_rfl)
/-- The two blocks of a call over two tallies. -/
structure Tal2 (w : World) (b : Nat) (x0 x1 x2 x3 x4 x5 : Int) (ao : Option Addr) (L ca : Nat) (y0 y1 y2 y3 y4 y5 : Int) (bo : Option Addr) (M cb : Nat) : Prop where
  one : Blk w b (talL x0 x1 x2 x3 x4 x5 ao L ca).toArray 43
  two : Blk w (b + 1) (talL y0 y1 y2 y3 y4 y5 bo M cb).toArray 43
theorem Tal2.below {w w' : World} {b : Nat} {x0 x1 x2 x3 x4 x5 : Int} {ao : Option Addr} {L ca : Nat} {y0 y1 y2 y3 y4 y5 : Int} {bo : Option Addr} {M cb : Nat} (h : Tal2 w b x0 x1 x2 x3 x4 x5 ao L ca y0 y1 y2 y3 y4 y5 bo M cb) (hb : Below w.heap.size w w') : Tal2 w' b x0 x1 x2 x3 x4 x5 ao L ca y0 y1 y2 y3 y4 y5 bo M cb :=
  ⟨h.one.below hb h.one.lt, h.two.below hb h.two.lt⟩
theorem Tal2.upd {S : Nat → Prop} {w w' : World} {b : Nat} {x0 x1 x2 x3 x4 x5 : Int} {ao : Option Addr} {L ca : Nat} {y0 y1 y2 y3 y4 y5 : Int} {bo : Option Addr} {M cb : Nat} (h : Tal2 w b x0 x1 x2 x3 x4 x5 ao L ca y0 y1 y2 y3 y4 y5 bo M cb) (hu : Upd S w w') (h1 : ¬ S b) (h2 : ¬ S (b + 1)) : Tal2 w' b x0 x1 x2 x3 x4 x5 ao L ca y0 y1 y2 y3 y4 y5 bo M cb :=
  ⟨h.one.upd hu h1, h.two.upd hu h2⟩
theorem Tal2.cells {w : World} {b : Nat} {x0 x1 x2 x3 x4 x5 : Int} {ao : Option Addr} {L ca : Nat} {y0 y1 y2 y3 y4 y5 : Int} {bo : Option Addr} {M cb : Nat} (h : Tal2 w b x0 x1 x2 x3 x4 x5 ao L ca y0 y1 y2 y3 y4 y5 bo M cb) : w.cell? ⟨b, 0, none⟩ = some (.int .u64 x0) ∧ w.cell? ⟨b, 1, none⟩ = some (.int .u64 x1) ∧ w.cell? ⟨b, 2, none⟩ = some (.int .u64 x2) ∧ w.cell? ⟨b, 3, none⟩ = some (.int .u64 x3) ∧ w.cell? ⟨b, 4, none⟩ = some (.int .u64 x4) ∧ w.cell? ⟨b, 5, none⟩ = some (.int .u64 x5) ∧ w.cell? ⟨b + 1, 0, none⟩ = some (.int .u64 y0) ∧ w.cell? ⟨b + 1, 1, none⟩ = some (.int .u64 y1) ∧ w.cell? ⟨b + 1, 2, none⟩ = some (.int .u64 y2) ∧ w.cell? ⟨b + 1, 3, none⟩ = some (.int .u64 y3) ∧ w.cell? ⟨b + 1, 4, none⟩ = some (.int .u64 y4) ∧ w.cell? ⟨b + 1, 5, none⟩ = some (.int .u64 y5) :=
  ⟨h.one.cell 0 rfl, h.one.cell 1 rfl, h.one.cell 2 rfl, h.one.cell 3 rfl, h.one.cell 4 rfl, h.one.cell 5 rfl, h.two.cell 0 rfl, h.two.cell 1 rfl, h.two.cell 2 rfl, h.two.cell 3 rfl, h.two.cell 4 rfl, h.two.cell 5 rfl⟩
/-- With the result's block. -/
structure Tal3 (w : World) (b : Nat) (x0 x1 x2 x3 x4 x5 : Int) (ao : Option Addr) (L ca : Nat) (y0 y1 y2 y3 y4 y5 : Int) (bo : Option Addr) (M cb : Nat) : Prop where
  two : Tal2 w b x0 x1 x2 x3 x4 x5 ao L ca y0 y1 y2 y3 y4 y5 bo M cb
  res : Blk w (b + 1 + 1) (talL 0 0 0 0 0 0 none 0 0).toArray 43
theorem Tal3.new (w : World) (x0 x1 x2 x3 x4 x5 : Int) (ao : Option Addr) (L ca : Nat) (y0 y1 y2 y3 y4 y5 : Int) (bo : Option Addr) (M cb : Nat) : Tal3 (((w.alloc (.cells (talL x0 x1 x2 x3 x4 x5 ao L ca).toArray 43)).alloc (.cells (talL y0 y1 y2 y3 y4 y5 bo M cb).toArray 43)).alloc (.cells (talL 0 0 0 0 0 0 none 0 0).toArray 43)) w.heap.size x0 x1 x2 x3 x4 x5 ao L ca y0 y1 y2 y3 y4 y5 bo M cb := by
  have h1 : (w.alloc (.cells (talL x0 x1 x2 x3 x4 x5 ao L ca).toArray 43)).heap.size = w.heap.size + 1 := by simp
  refine ⟨⟨((Blk.new _ _ _).alloc _).alloc _, Blk.alloc ?_ _⟩, ?_⟩
  · have := Blk.new (w.alloc (.cells (talL x0 x1 x2 x3 x4 x5 ao L ca).toArray 43)) (talL y0 y1 y2 y3 y4 y5 bo M cb).toArray 43
    rw [h1] at this
    exact this
  · have := Blk.new ((w.alloc (.cells (talL x0 x1 x2 x3 x4 x5 ao L ca).toArray 43)).alloc (.cells (talL y0 y1 y2 y3 y4 y5 bo M cb).toArray 43)) (talL 0 0 0 0 0 0 none 0 0).toArray 43
    rw [World.size_alloc, h1] at this
    exact this
theorem Tal3.below {w w' : World} {b : Nat} {x0 x1 x2 x3 x4 x5 : Int} {ao : Option Addr} {L ca : Nat} {y0 y1 y2 y3 y4 y5 : Int} {bo : Option Addr} {M cb : Nat} (h : Tal3 w b x0 x1 x2 x3 x4 x5 ao L ca y0 y1 y2 y3 y4 y5 bo M cb) (hb : Below w.heap.size w w') : Tal3 w' b x0 x1 x2 x3 x4 x5 ao L ca y0 y1 y2 y3 y4 y5 bo M cb :=
  ⟨h.two.below hb, h.res.below hb h.res.lt⟩
theorem range_bel {w w' : World} {b o : Nat} {v0 : Value} {cs : List Value} (h : w.rangeAt b o (v0 :: cs)) (hb : Below w.heap.size w w') : w'.rangeAt b o (v0 :: cs) := by
  have h0 : w.cell? ⟨b, o, none⟩ = some v0 := h 0 v0 rfl
  have hlt := World.block_lt_of_cell? w _ h0
  intro j v hv
  exact (hb.cell (p := ⟨b, o + j, none⟩) hlt).trans (h j v hv)
theorem range_lt {w : World} {b o : Nat} {v0 : Value} {cs : List Value} (h : w.rangeAt b o (v0 :: cs)) : b < w.heap.size := by
  have h0 : w.cell? ⟨b, o, none⟩ = some v0 := h 0 v0 rfl
  exact World.block_lt_of_cell? w _ h0
theorem range_updS {S : Nat → Prop} {w w' : World} {b o : Nat} {cs : List Value} (h : w.rangeAt b o cs) (hu : Upd S w w') (hS : ¬ S b) : w'.rangeAt b o cs := fun j v hv => cell_upd hu (h j v hv) hS
/-- Two cells of a block. -/
theorem range2 {w : World} {b : Nat} {c : List Value} {T : TypeId} (h : Blk w b c.toArray T) (o : Nat) {u v : Value} (hu : c[o]? = some u) (hv : c[o + 1]? = some v) : w.rangeAt b o [u, v] := by
  intro j x hx
  match j, hx with
  | 0, hx => simp at hx; subst hx; exact h.cell o (by simpa using hu)
  | 1, hx => simp at hx; subst hx; exact h.cell (o + 1) (by simpa using hv)
end Go.Proofs.YtbefeobikjnlpaaGreatDoor.sk

namespace Go.Proofs.YtbefeobikjnlpaaGreatDoor.sk
open Go.RowKit
set_option maxRecDepth 100000

/-- Calls in a row of one's own. -/
def OwnCal (base : Nat) (w : World) (v : Value) (l : List Cal) : Prop := w.ownsRow base 68 5 v l.length (l.flatMap calL)
theorem Tryz.info68 : (Tryz.prog.info? 68).map (fun i => (i.zero, i.size, i.bytes)) = some (some (.agg #[.int .i64 0, .string ⟨#[]⟩, .string ⟨#[]⟩, .bool false, .int .u64 0]), 5, 56) := by kernel_rfl
theorem OwnCal.nil (base : Nat) (w : World) : OwnCal base w (.slice none 0 0) [] := World.ownsRow_nil w base 68 5
theorem OwnCal.below {base : Nat} {w w' : World} {v : Value} {l : List Cal} (h : OwnCal base w v l) (hb : Below w.heap.size w w') : OwnCal base w' v l := ownsRow_upd h (Upd.ofBelow (S := fun _ => False) hb (fun k hk hk' => by omega)) (fun _ _ h => h)
theorem OwnCal.upd {S : Nat → Prop} {base : Nat} {w w' : World} {v : Value} {l : List Cal} (h : OwnCal base w v l) (hu : Upd S w w') (hS : ∀ k, base ≤ k → ¬ S k) : OwnCal base w' v l := ownsRow_upd h hu (fun k hk => hS k (own_block h hk).1)
theorem calF_get : ∀ (l : List Cal) (i : Nat) (h : i < l.length) (j : Nat), j < 5 → (l.flatMap calL)[i * 5 + j]? = (calL l[i])[j]?
  | [], i, h, j, _ => absurd h (by simp)
  | x :: r, 0, h, j, hj => by
    rw [List.flatMap_cons, List.getElem?_append_left (by rw [calL_len]; omega)]
    simp
  | x :: r, i + 1, h, j, hj => by
    rw [List.flatMap_cons, List.getElem?_append_right (by rw [calL_len]; omega), calL_len, show (i + 1) * 5 + j - 5 = i * 5 + j by omega]
    exact calF_get r i (by simpa using h) j hj
/-- Calls lie here. -/
structure CalAt (w : World) (ad : Option Addr) (n : Nat) (l : List Cal) : Prop where
  len : l.length = n
  lies : 0 < n → ∃ b off, ad = some ⟨b, off, none⟩ ∧ ∀ i (_ : i < l.length), w.rangeAt b (off + i * 5) (calL l[i])
  lt : ∀ a, ad = some a → a.block < w.heap.size
theorem range_upd {S : Nat → Prop} {w w' : World} {b o : Nat} {cs : List Value} (h : w.rangeAt b o cs) (hu : Upd S w w') (hS : ¬ S b) : w'.rangeAt b o cs := fun j v hv => cell_upd hu (h j v hv) hS
theorem CalAt.upd {S : Nat → Prop} {w w' : World} {ad : Option Addr} {n : Nat} {l : List Cal} (h : CalAt w ad n l) (hu : Upd S w w') (hS : ∀ a, ad = some a → ¬ S a.block) : CalAt w' ad n l := by
  refine ⟨h.len, fun hp => ?_, fun a ha => Nat.lt_of_lt_of_le (h.lt a ha) hu.size⟩
  obtain ⟨b, off, ha, hc⟩ := h.lies hp
  exact ⟨b, off, ha, fun i hi => range_upd (hc i hi) hu (hS ⟨b, off, none⟩ ha)⟩
theorem CalAt.below {w w' : World} {ad : Option Addr} {n : Nat} {l : List Cal} (h : CalAt w ad n l) (hb : Below w.heap.size w w') : CalAt w' ad n l :=
  h.upd (Upd.ofBelow (S := fun _ => False) hb (fun k hk hk' => by omega)) (fun _ _ h => h)
theorem OwnCal.at {base : Nat} {w : World} {ao : Option Addr} {n c : Nat} {l : List Cal} (h : OwnCal base w (.slice ao n c) l) : CalAt w ao n l := by
  have hc := own_cap h
  refine ⟨hc.1.symm, fun hp => ?_, ?_⟩
  · obtain ⟨g, cap, e, _, _, _, hx⟩ := own_some h (by omega)
    simp at e
    refine ⟨g, 0, e.1, fun i hi j v hv => ?_⟩
    have hj : j < 5 := by
      rcases Nat.lt_or_ge j 5 with h1 | h1
      · exact h1
      · rw [List.getElem?_eq_none (by rw [calL_len]; omega)] at hv; simp at hv
    rw [Nat.zero_add]
    exact hx _ _ (by rw [calF_get l i hi j hj]; exact hv)
  · rintro a rfl
    rcases h.2 with ⟨e, _⟩ | ⟨g, cap, cur, e, hg, hh, _⟩
    · simp at e
    · simp at e
      obtain ⟨rfl, _⟩ := e
      exact lt_of_block hh
theorem src_cal {P : Program} {tx e : TypeId} (hu : P.underlying tx = some (.slice e)) (w : World) (c : Cal) (t : TypeId) : Src P 5 tx (.slice (some ⟨w.heap.size, 0, none⟩) 1 1) 1 (calL c) (w.alloc (.cells (calL c).toArray t)) := by
  refine Src.ofSlice _ hu ⟨w.heap.size, 0, none⟩ 1 1 _ rfl ?_ ?_
  · intro j u hj
    match j, hj with
    | 0, hj => simp [calL] at hj; subst hj; simp [Addr.add, calL]
    | 1, hj => simp [calL] at hj; subst hj; simp [Addr.add, calL]
    | 2, hj => simp [calL] at hj; subst hj; simp [Addr.add, calL]
    | 3, hj => simp [calL] at hj; subst hj; simp [Addr.add, calL]
    | 4, hj => simp [calL] at hj; subst hj; simp [Addr.add, calL]
    | j + 5, hj => simp [calL] at hj
  · exact calL_one c
/-- A call is appended. -/
theorem wpList_appC {ops : Array Oper} {rest : List Oper} {o : Oper} {a : Act} {Q : Exit → Act → World → Prop} (w : World) (hgd : o.guard = none) (s x : Operand)
    (ho : o.op = .call { callee := .builtin .append, args := #[s, x], argTypes := #[31, 31] })
    (base : Nat) (v : Value) (L : List Cal) (c : Cal) (hv : a.eval s = v) (hown : OwnCal base w v L) (hx : a.eval x = .slice (some ⟨w.heap.size, 0, none⟩) 1 1) (hlen : L.length ≤ 2513169434917) (hbase : base ≤ w.heap.size)
    (h : ∀ v' w', OwnCal base w' v' (L ++ [c]) → Upd (fun k => base ≤ k) w w' → wpList Tryz.prog ops Q rest (a.put o.dst v') w') : wpList Tryz.prog ops Q (o :: rest) a (w.alloc (.cells (calL c).toArray 68)) := by
  obtain ⟨i0, hi0, hz0, hz1, hz2⟩ := info_parts Tryz.info68
  have ho' : OwnCal base (w.alloc (.cells (calL c).toArray 68)) v L := hown.below ((Below.refl _ _).alloc (Nat.le_refl _) _)
  refine wpList_appW _ hgd s x 31 31 ho base 68 i0 _ 5 56 Tryz.underlying31 hi0 hz0 hz1 hz2 rfl v L.length (L.flatMap calL) hv ho' _ 1 (calL c) hx (src_cal Tryz.underlying31 w c _) (by unfold maxLen; omega) (by omega) (by rw [World.size_alloc]; omega) ?_
  intro v' w' o8 g8 m8
  refine h v' w' ?_ ⟨g8.os, g8.tape, g8.output, by have := g8.size; rw [World.size_alloc] at this; omega, fun k hk hn => (g8.block k (by rw [World.size_alloc]; omega) (fun e => hn (own_block hown e.symm).1)).trans (Below.heap_alloc w _ k hk)⟩
  unfold OwnCal
  rw [List.length_append, List.flatMap_append]
  simpa using o8
end Go.Proofs.YtbefeobikjnlpaaGreatDoor.sk
