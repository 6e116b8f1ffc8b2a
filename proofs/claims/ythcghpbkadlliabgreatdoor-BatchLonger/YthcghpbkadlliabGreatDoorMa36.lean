/-
  Merged by merge.py: XH, XI.
-/
import Derived.Test.YthcghpbkadlliabGreatDoorMa35
import Derived.Deep.QuietTactic
import Derived.Handy
namespace Go.Proofs.YthcghpbkadlliabGreatDoor
open Go.Shelf Go.RowKit
set_option maxRecDepth 100000

/-- A world behind another one, whose blocks it has. -/
structure Beh (w : World) where
  W : World
  b : Below w.heap.size w W
theorem wp_region_beh {P : Program} {id : Nat} {Q : Exit → Act → World → Prop} {a : Act} {w : World} {l : List Oper} (hm : P.follows .mixedOrders = true) (hB : Region.lexB .any l.toArray = true)
    (h : wpQuiet P l.toArray (fun w' => ∃ p : Beh w, w' = p.W) (fun a' => ∀ w', (∃ p : Beh w, w' = p.W) → Q .normal a' w') l a) : (Code.region id l.toArray true).wp P Q a w :=
  wp_region_quiet (C := fun w' => ∃ p : Beh w, w' = p.W) hm hB ⟨⟨w.drew, (Below.refl _ _).drew⟩, rfl⟩ (by simpa using h)
theorem sameSpan_self (a : Sp) (p q : Pl) (w : World) (ha : SpAt w a p) (hb : SpAt w a q) :
    Calls Tryz.prog 9 #[spV a p, spV a q] w fun e w' => e = .returned (.bool true) ∧ Below w.heap.size w w' := by
  obtain ⟨hL, hA, hE, sl, sa, se⟩ := ha
  obtain ⟨hL', hA', hE', sl', sa', se'⟩ := hb
  exact same_eq a.hi a.lo a.id a.par a.svc a.op a.kind a.status a.start a.fin p.la p.lc p.aa p.ac p.ea p.ec q.la q.lc q.aa q.ac q.ea q.ec a.links a.links a.attrs a.attrs a.events a.events _ _ _ rfl rfl rfl rfl rfl rfl sl sa se w hL hL' hA hA' hE hE' true ⟨fun _ => ⟨rfl, rfl, rfl⟩, fun _ => rfl⟩
end Go.Proofs.YthcghpbkadlliabGreatDoor

namespace Go.Proofs.YthcghpbkadlliabGreatDoor
open Go.Shelf Go.RowKit
set_option maxRecDepth 100000

def oneSp : Sp := ⟨0, 7, 1, 0, [], ⟨#[97]⟩, ⟨#[98]⟩, 0, 0, 5, 9, [], []⟩
def onePl : Pl := ⟨none, 0, none, 0, none, 0⟩
def oneL : List Int := [83, 66, 1, 2, 1, 97, 1, 98, 1, 0, 0, 0, 0, 0, 0, 0, 0, 0, 0, 0, 0, 0, 0, 0, 7, 1, 0, 0, 0, 0, 0, 0, 0, 0, 1, 0, 0, 0, 0, 0, 0, 0, 0, 0, 1, 0, 10, 4, 0, 0, 0]
theorem enc_oneL : encB [oneSp] = oneL := by decide +kernel
theorem chk_oneSp : chkS oneSp = 0 := by decide +kernel
theorem fits_oneSp : oneSp.Fits := ⟨by decide, by decide, by decide, by decide, (fun _ h => by cases h), (fun _ h => by cases h)⟩
theorem small_oneSp : oneSp.Small := ⟨by decide, by decide, (fun _ h => by cases h), (fun _ h => by cases h)⟩
theorem byt_oneL : ∀ x ∈ oneL, 0 ≤ x ∧ x < 256 := by decide
theorem dec_oneL : decB oneL = .ok [oneSp] := by
  have h := dec_back [oneSp] (by decide) (fun a ha => by cases List.mem_singleton.mp ha; exact ⟨(span_can fits_oneSp chk_oneSp).1, (span_can fits_oneSp chk_oneSp).2, chk_oneSp⟩) (by rw [enc_oneL]; decide) (by rw [enc_oneL]; exact byt_oneL)
  rw [enc_oneL] at h
  exact h
theorem at_oneSp (w : World) : SpAt w oneSp onePl := ⟨⟨rfl, (fun j u hj => by cases hj)⟩, ⟨rfl, (fun h => by cases h)⟩, ⟨rfl, (fun h => by cases h)⟩, by decide, by decide, by decide⟩
theorem own_some2 {base : Nat} {w : World} {e : TypeId} {size : Nat} {v : Value} {n : Nat} {xs : List Value} (h : w.ownsRow base e size v n xs) (hn : 0 < n) : ∃ g cap, v = .slice (some ⟨g, 0, none⟩) n cap ∧ n ≤ cap ∧ cap ≤ maxLen ∧ base ≤ g ∧ ∀ j u, xs[j]? = some u → w.cell? ⟨g, j, none⟩ = some u := by
  have h0 := h
  rcases h.2 with ⟨rfl, h1⟩ | ⟨g, cap, cur, rfl, hb, hg, h1, h2, _⟩
  · omega
  · refine ⟨g, cap, rfl, h1, h2, hb, fun j u hj => ?_⟩
    have := h0.cells (g := g) rfl j u hj
    rw [Addr.add_lit, Nat.zero_add] at this
    exact this
theorem one_any (w : World) : Calls Tryz.prog 7 #[] w fun e w' => e = .returned (spV oneSp onePl) ∧ w' = w.alloc (.cells (spC oneSp onePl) 41) := by
  go_enter Tryz.func7, Tryz.ntmps7
  go_wp2
  go_returns
  exact ⟨rfl, rfl⟩
theorem sps_one {w : World} {g : Nat} (h : w.heap[g]? = some (.cells (spC oneSp onePl) 41 (0, 0))) : SpsAt w (some ⟨g, 0, none⟩) 1 [oneSp] (fun _ => onePl) := by
  refine ⟨rfl, fun _ => ⟨g, 0, rfl, fun i hi j u hu => ?_⟩, fun i hi => ?_⟩
  · have : i = 0 := by simp at hi; omega
    subst this
    simp only [Nat.zero_mul, Nat.add_zero, Nat.zero_add]
    exact blk_cell h j hu
  · have : i = 0 := by simp at hi; omega
    subst this
    exact at_oneSp w
set_option maxHeartbeats 2000000 in
theorem shown_any (w : World) (hT : Tabs w) :
    Calls Tryz.prog 4 #[] w fun e w' => e = .returned (.bool true) ∧ Below w.heap.size w w' := by
  have E1 : Calls Tryz.prog 5 #[.slice (some ⟨w.heap.size + 1, 0, none⟩) 1 1] ((w.alloc (.cells (spC oneSp onePl) 41)).alloc (.cells (spC oneSp onePl) 41)) fun e w' => ∃ q, e = .returned (.tuple #[.slice (some ⟨q, 0, none⟩) 51 51, .nilIface]) ∧ RowAt w' q oneL ∧ w.heap.size + 2 ≤ q ∧ Below w.heap.size w w' := by
    have b2 : Below w.heap.size w ((w.alloc (.cells (spC oneSp onePl) 41)).alloc (.cells (spC oneSp onePl) 41)) := ((Below.refl _ _).alloc (Nat.le_refl _) _).alloc (by simp) _
    have X2 : ((w.alloc (.cells (spC oneSp onePl) 41)).alloc (.cells (spC oneSp onePl) 41)).heap[w.heap.size + 1]? = some (.cells (spC oneSp onePl) 41 (0, 0)) := by
      have := heap_alloc_new (w.alloc (.cells (spC oneSp onePl) 41)) (.cells (spC oneSp onePl) 41)
      simpa using this
    have := encode_ok (some ⟨w.heap.size + 1, 0, none⟩) 1 [oneSp] (fun _ => onePl) _ (sps_one X2) (fun a ha => by cases List.mem_singleton.mp ha; exact small_oneSp) (hT.below b2) (by decide) (fun a ha => by cases List.mem_singleton.mp ha; exact fits_oneSp) (fun a ha => by cases List.mem_singleton.mp ha; exact chk_oneSp) (by rw [enc_oneL]; decide)
    rw [enc_oneL] at this
    refine this.mono ?_
    rintro e w' ⟨q, rfl, r, hq, b⟩
    exact ⟨q, rfl, r, by simpa using hq, b2.trans (b.mono (by simp <;> omega))⟩
  unfold spC at E1
  have cv : ∀ (W : World) (q : Nat), RowAt W q oneL → (convert 24 9 (.slice (some ⟨q, 0, none⟩) 51 51)).run Tryz.prog W = .ok (.string (strI oneL)) W := fun W q h => conv_holds (n := 51) h.holds 51
  have D1 : ∀ (W : World) (q : Nat), RowAt W q oneL → Below w.heap.size w W → Calls Tryz.prog 8 #[.slice (some ⟨q, 0, none⟩) 51 51] W fun e w' => ∃ v, e = .returned (.tuple #[v, .nilIface]) ∧ DecOk W.heap.size [oneSp] v w' ∧ Below W.heap.size W w' := fun W q h b => decode_ok (some ⟨q, 0, none⟩) 51 51 oneL [oneSp] W h.holds byt_oneL (by decide) (hT.below b) dec_oneL
  have ss : strI oneL = ⟨#[83, 66, 1, 2, 1, 97, 1, 98, 1, 0, 0, 0, 0, 0, 0, 0, 0, 0, 0, 0, 0, 0, 0, 0, 7, 1, 0, 0, 0, 0, 0, 0, 0, 0, 1, 0, 0, 0, 0, 0, 0, 0, 0, 0, 1, 0, 10, 4, 0, 0, 0]⟩ := by rfl
  rw [ss] at cv
  clear hT ss
  go_enter Tryz.func4, Tryz.ntmps4
  go_wp2_with (first
    | (go_at_call 7; refine (one_any _).mono ?_; rintro e w1 ⟨rfl, rfl⟩; unfold spV spC)
    | (go_at_call 5; refine E1.mono ?_; clear E1; rintro e w2 ⟨q, rfl, r2, hq, b2⟩)
    | (go_at_call 8; refine (D1 _ _ r2 b2).mono ?_; clear D1; rintro e w3 ⟨v3, rfl, d3, b3⟩; obtain ⟨A, hA1, hA2, hA3, hA4⟩ := d3; obtain ⟨ao, l, cp, rfl⟩ := row_shape hA3; obtain ⟨x, rfl⟩ : ∃ x, A = [x] := (by have := congrArg List.length hA1; simp at this; obtain ⟨x, hx⟩ := List.length_eq_one_iff.mp this; exact ⟨x, hx⟩); simp only [List.map_cons, List.map_nil, List.cons.injEq, and_true] at hA1; obtain rfl : l = 1 := own_len hA3; have r3 := (b3.block _ (lt_of_block r2)).trans r2))
  obtain ⟨x1, px⟩ := x
  simp only at hA1
  subst hA1
  obtain ⟨g, cap, ev, q1, q2, q3, hcl⟩ := own_some2 hA3 (by simp)
  simp only [Value.slice.injEq] at ev
  obtain ⟨rfl, ev1, rfl⟩ := ev
  clear q1 q2 q3 ev1
  have hO := (hA4 (oneSp, px) (by simp)).at
  have S2 : ∀ z : Beh w3, Calls Tryz.prog 9 #[.agg #[.int .u64 oneSp.hi, .int .u64 oneSp.lo, .int .u64 oneSp.id, .int .u64 oneSp.par, .slice px.la oneSp.links.length px.lc, .string oneSp.svc, .string oneSp.op, .int .i64 oneSp.kind, .int .i64 oneSp.status, .int .i64 oneSp.start, .int .i64 oneSp.fin, .slice px.aa oneSp.attrs.length px.ac, .slice px.ea oneSp.events.length px.ec], .agg #[.int .u64 oneSp.hi, .int .u64 oneSp.lo, .int .u64 oneSp.id, .int .u64 oneSp.par, .slice onePl.la oneSp.links.length onePl.lc, .string oneSp.svc, .string oneSp.op, .int .i64 oneSp.kind, .int .i64 oneSp.status, .int .i64 oneSp.start, .int .i64 oneSp.fin, .slice onePl.aa oneSp.attrs.length onePl.ac, .slice onePl.ea oneSp.events.length onePl.ec]] z.W fun e w' => e = .returned (.bool true) ∧ ∃ z' : Beh w3, w' = z'.W := fun z => (sameSpan_self oneSp px onePl z.W (hO.below z.b) (at_oneSp _)).mono fun _ w' ⟨h, h'⟩ => ⟨h, ⟨w', z.b.trans (h'.mono z.b.size)⟩, rfl⟩
  have O2 : ∀ z : Beh w3, Calls Tryz.prog 7 #[] z.W fun e w' => e = .returned (.agg #[.int .u64 oneSp.hi, .int .u64 oneSp.lo, .int .u64 oneSp.id, .int .u64 oneSp.par, .slice onePl.la oneSp.links.length onePl.lc, .string oneSp.svc, .string oneSp.op, .int .i64 oneSp.kind, .int .i64 oneSp.status, .int .i64 oneSp.start, .int .i64 oneSp.fin, .slice onePl.aa oneSp.attrs.length onePl.ac, .slice onePl.ea oneSp.events.length onePl.ec]) ∧ ∃ z' : Beh w3, w' = z'.W := fun z => (one_any z.W).mono fun _ w' ⟨h, h'⟩ => ⟨h, ⟨w', h' ▸ z.b.alloc z.b.size _⟩, rfl⟩
  have e0 : ∀ z : Beh w3, z.W.cell? ⟨g, 0, none⟩ = some (.int .u64 oneSp.hi) := fun z => (z.b.cell (World.block_lt_of_cell? _ _ (hcl 0 _ rfl))).trans (hcl 0 _ rfl)
  have e1 : ∀ z : Beh w3, z.W.cell? ⟨g, 1, none⟩ = some (.int .u64 oneSp.lo) := fun z => (z.b.cell (World.block_lt_of_cell? _ _ (hcl 1 _ rfl))).trans (hcl 1 _ rfl)
  have e2 : ∀ z : Beh w3, z.W.cell? ⟨g, 2, none⟩ = some (.int .u64 oneSp.id) := fun z => (z.b.cell (World.block_lt_of_cell? _ _ (hcl 2 _ rfl))).trans (hcl 2 _ rfl)
  have e3 : ∀ z : Beh w3, z.W.cell? ⟨g, 3, none⟩ = some (.int .u64 oneSp.par) := fun z => (z.b.cell (World.block_lt_of_cell? _ _ (hcl 3 _ rfl))).trans (hcl 3 _ rfl)
  have e4 : ∀ z : Beh w3, z.W.cell? ⟨g, 4, none⟩ = some (.slice px.la oneSp.links.length px.lc) := fun z => (z.b.cell (World.block_lt_of_cell? _ _ (hcl 4 _ rfl))).trans (hcl 4 _ rfl)
  have e5 : ∀ z : Beh w3, z.W.cell? ⟨g, 5, none⟩ = some (.string oneSp.svc) := fun z => (z.b.cell (World.block_lt_of_cell? _ _ (hcl 5 _ rfl))).trans (hcl 5 _ rfl)
  have e6 : ∀ z : Beh w3, z.W.cell? ⟨g, 6, none⟩ = some (.string oneSp.op) := fun z => (z.b.cell (World.block_lt_of_cell? _ _ (hcl 6 _ rfl))).trans (hcl 6 _ rfl)
  have e7 : ∀ z : Beh w3, z.W.cell? ⟨g, 7, none⟩ = some (.int .i64 oneSp.kind) := fun z => (z.b.cell (World.block_lt_of_cell? _ _ (hcl 7 _ rfl))).trans (hcl 7 _ rfl)
  have e8 : ∀ z : Beh w3, z.W.cell? ⟨g, 8, none⟩ = some (.int .i64 oneSp.status) := fun z => (z.b.cell (World.block_lt_of_cell? _ _ (hcl 8 _ rfl))).trans (hcl 8 _ rfl)
  have e9 : ∀ z : Beh w3, z.W.cell? ⟨g, 9, none⟩ = some (.int .i64 oneSp.start) := fun z => (z.b.cell (World.block_lt_of_cell? _ _ (hcl 9 _ rfl))).trans (hcl 9 _ rfl)
  have e10 : ∀ z : Beh w3, z.W.cell? ⟨g, 10, none⟩ = some (.int .i64 oneSp.fin) := fun z => (z.b.cell (World.block_lt_of_cell? _ _ (hcl 10 _ rfl))).trans (hcl 10 _ rfl)
  have e11 : ∀ z : Beh w3, z.W.cell? ⟨g, 11, none⟩ = some (.slice px.aa oneSp.attrs.length px.ac) := fun z => (z.b.cell (World.block_lt_of_cell? _ _ (hcl 11 _ rfl))).trans (hcl 11 _ rfl)
  have e12 : ∀ z : Beh w3, z.W.cell? ⟨g, 12, none⟩ = some (.slice px.ea oneSp.events.length px.ec) := fun z => (z.b.cell (World.block_lt_of_cell? _ _ (hcl 12 _ rfl))).trans (hcl 12 _ rfl)
  have HCV : Hid _ := cv
  have HR : Hid _ := r3
  have HB2 : Hid _ := b2
  have HB3 : Hid _ := b3
  clear hA3 hA4 hcl hO cv r3 r2 hA2 hq b2 b3
  generalize oneSp = aa at *
  generalize onePl = pp at *
  haveI nb : Nonempty (Beh w3) := ⟨⟨w3, Below.refl _ _⟩⟩
  refine wp_region_beh (by kernel_rfl) (by kernel_rfl) ?_
  repeat (quiet_step (first | (go_at_call 9; exact S2 _) | (go_at_call 7; exact O2 _)))
  refine wpQuiet_nil ?_
  intro w4 hw'
  obtain ⟨z4, hz4⟩ := hw'
  have B4 := z4.b
  rw [← hz4] at B4
  clear hz4
  try simp only
  clear S2 O2 e0 e1 e2 e3 e4 e5 e6 e7 e8 e9 e10 e11 e12
  have cv4 := HCV.out w4 q ((B4.block _ (lt_of_block HR.out)).trans HR.out)
  go_wp2
  go_ret
  have c1 := HB2.out.trans (HB3.out.mono HB2.out.size)
  exact ⟨rfl, c1.trans (B4.mono c1.size)⟩
end Go.Proofs.YthcghpbkadlliabGreatDoor
