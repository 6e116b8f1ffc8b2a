/-
  Merged: SdF, SdG.
-/
import Derived.Test.YtfgmjgoegdiieaaDoorSdDq
import Derived.Test.YtfgmjgoegdiieaaDoorTJq
import Derived.Test.YtfgmjgoegdiieaaDoorSaO
namespace Go.Proofs.YtfgmjgoegdiieaaDoor
open Go Go.RowKit
set_option maxRecDepth 100000

/-- A span whose lists lie in blocks of their own, apart from a row's. -/
def KeptSp (W : World) (v : Value) (x : Sq) : Prop := ∃ lo hi, hi ≤ W.heap.size ∧ (∀ g, v.ownBlock = some g → ¬ (lo ≤ g ∧ g < hi)) ∧ ∀ w5 : World, (∀ k, lo ≤ k → k < hi → w5.heap[k]? = W.heap[k]?) → SpAt w5 x.1 x.2
theorem KeptSp.at {W : World} {v : Value} {x : Sq} (h : KeptSp W v x) : SpAt W x.1 x.2 := by
  obtain ⟨lo, hi, _, _, h3⟩ := h
  exact h3 W (fun _ _ _ => rfl)
theorem KeptSp.grown {W W' : World} {v v' : Value} {x : Sq} (h : KeptSp W v x) (hu : Upd (fun k => v.ownBlock = some k) W W') (hm : Moved W v v') : KeptSp W' v' x := by
  obtain ⟨lo, hi, h1, h2, h3⟩ := h
  refine ⟨lo, hi, Nat.le_trans h1 hu.size, fun g hg hl => ?_, fun w5 h5 => h3 w5 (fun k k1 k2 => (h5 k k1 k2).trans (hu.block k (by omega) (fun e => h2 k e ⟨k1, k2⟩)))⟩
  rcases hm with e | ⟨k, e, hk⟩
  · rw [e] at hg
    exact h2 g hg hl
  · rw [e] at hg
    injection hg with hg
    omega
theorem KeptSp.below {W W' : World} {v : Value} {x : Sq} (h : KeptSp W v x) (hb : Below W.heap.size W W') : KeptSp W' v x :=
  h.grown (Upd.ofBelow hb (fun k h1 h2 => by omega)) (Moved.refl _ _)
/-- A row of spans of one's own. -/
structure OwnSq (base : Nat) (w : World) (v : Value) (L : List Sq) : Prop where
  row : w.ownsRow base 52 13 v L.length (L.flatMap sqL)
  kept : ∀ x ∈ L, KeptSp w v x
theorem OwnSq.below {base : Nat} {w w' : World} {v : Value} {L : List Sq} (h : OwnSq base w v L) (hb : Below w.heap.size w w') : OwnSq base w' v L :=
  ⟨ownsRow_upd h.row (Upd.ofBelow (S := fun _ => False) hb (fun k hk hk' => by omega)) (fun _ _ h => h), fun x hx => (h.kept x hx).below hb⟩
theorem OwnSq.nil (base : Nat) (w : World) : OwnSq base w (.slice none 0 0) [] := ⟨World.ownsRow_nil w base _ 13, fun x hx => by cases hx⟩
theorem OwnSq.block {base : Nat} {w : World} {v : Value} {L : List Sq} (h : OwnSq base w v L) {k : Nat} (hk : v.ownBlock = some k) : base ≤ k ∧ k < w.heap.size := by
  obtain ⟨h1, cs, fz, h2⟩ := own_block h.row hk
  exact ⟨h1, lt_of_block h2⟩
/-- It is a list of spans. -/
theorem OwnSq.sps {base : Nat} {w : World} {v : Value} {L : List Sq} (h : OwnSq base w v L) : ∃ ad c, v = .slice ad L.length c ∧ L.length ≤ c ∧ ∀ X : List Sp, L.map (·.1) = X → SpsAt w ad L.length X (fun i => (L.map (·.2)).getD i plQ) := by
  have hat : ∀ X : List Sp, L.map (·.1) = X → ∀ i (hi : i < X.length), SpAt w X[i] ((L.map (·.2)).getD i plQ) := fun X hX i hi => by
    subst hX
    have hiL : i < L.length := by simpa using hi
    have := (h.kept L[i] (List.getElem_mem hiL)).at
    rw [List.getElem_map, List.getD_eq_getElem?_getD, List.getElem?_eq_getElem (by simpa using hiL), List.getElem_map]
    exact this
  rcases h.row.2 with ⟨rfl, h0⟩ | ⟨g, cap, cur, rfl, hb, hh, hnc, hcm, hcs, ht⟩
  · refine ⟨none, 0, by rw [h0], by omega, fun X hX => ⟨by rw [← hX]; simp, fun hp => by omega, hat X hX⟩⟩
  · refine ⟨_, cap, rfl, hnc, fun X hX => ⟨by rw [← hX]; simp, fun hp => ⟨g, 0, rfl, fun i hi j u hu => ?_⟩, hat X hX⟩⟩
    have hiL : i < L.length := by rw [← hX] at hi; simpa using hi
    have hj : j < 13 := (Array.getElem?_eq_some_iff.mp hu).1
    have e1 : (L.flatMap sqL)[i * 13 + j]? = some u := by
      rw [sqF_get L i hiL j hj]
      unfold sqL
      rw [Array.getElem?_toList]
      have e2 : X[i] = L[i].1 := by subst hX; simp
      have e3 : (L.map (·.2)).getD i plQ = L[i].2 := by rw [List.getD_eq_getElem?_getD, List.getElem?_eq_getElem (by simpa using hiL), List.getElem_map]; rfl
      rw [e2, e3] at hu
      exact hu
    have := h.row.cells (g := g) rfl (i * 13 + j) u e1
    rw [Addr.add_lit] at this
    simpa using this
theorem infoSp13 : (Tryd.prog.info? 52).map (fun i => (i.zero, i.size, i.bytes)) = some (some (.agg zSpL.toArray), 13, 168) := by kernel_rfl
/-- One more. -/
theorem wpList_appS {ops : Array Oper} {rest : List Oper} {o : Oper} {a : Act} {Q : Exit → Act → World → Prop} (w : World) (hgd : o.guard = none) (s x : Operand)
    (ho : o.op = .call { callee := .builtin .append, args := #[s, x], argTypes := #[23, 23] })
    (base : Nat) (v : Value) (L : List Sq) (y : Sq) (cs : Array Value) (hcs : cs = spC y.1 y.2) (b : Nat) (hb : b = w.heap.size) (hv : a.eval s = v) (hown : OwnSq base w v L) (hky : KeptSp w v y) (hx : a.eval x = .slice (some ⟨b, 0, none⟩) 1 1) (hlen : L.length ≤ 2147483647) (hbase : base ≤ w.heap.size)
    (h : ∀ v' w', OwnSq base w' v' (L ++ [y]) → Upd (fun k => v.ownBlock = some k) w w' → wpList Tryd.prog ops Q rest (a.put o.dst v') w') : wpList Tryd.prog ops Q (o :: rest) a (w.alloc (.cells cs 52)) := by
  subst hb
  subst hcs
  obtain ⟨i0, hi0, hz0, hz1, hz2⟩ := info_parts infoSp13
  have hbw : Below w.heap.size w (w.alloc (.cells (spC y.1 y.2) 52)) := (Below.refl _ _).alloc (Nat.le_refl _) _
  have hown' := hown.below hbw
  have hky' := hky.below hbw
  have hs : Src Tryd.prog 13 23 (.slice (some ⟨w.heap.size, 0, none⟩) 1 1) 1 (sqL y) (w.alloc (.cells (spC y.1 y.2) 52)) := by
    refine Src.ofSlice _ Tryd.underlying23 ⟨w.heap.size, 0, none⟩ 1 1 _ rfl ?_ (sqL_one y)
    intro j u hj
    rw [Addr.add_lit, Nat.zero_add]
    refine (Blk.new w (spC y.1 y.2) 52).cell j ?_
    unfold sqL at hj
    rwa [Array.getElem?_toList] at hj
  refine wpList_appW _ hgd s x 23 23 ho base 52 i0 _ 13 168 Tryd.underlying23 hi0 hz0 hz1 hz2 rfl v L.length _ hv hown'.row _ 1 _ hx hs (by unfold maxLen; omega) (by omega) (by simp; omega) ?_
  intro v1 w1 o1 g1 m1
  have e : L.flatMap sqL ++ sqL y = (L ++ [y]).flatMap sqL := by simp
  rw [e] at o1
  have hu1 : Upd (fun k => v.ownBlock = some k) (w.alloc (.cells (spC y.1 y.2) 52)) w1 := (Upd.refl _ _).grown g1 (fun k hk e => e)
  have hu : Upd (fun k => v.ownBlock = some k) w w1 := (Upd.ofBelow hbw (fun k h1 h2 => by omega)).trans hu1 (fun _ _ h => h)
  refine h v1 w1 ⟨by rw [List.length_append]; exact o1, fun z hz => ?_⟩ hu
  rcases List.mem_append.1 hz with hz | hz
  · exact (hown'.kept z hz).grown hu1 m1
  · simp at hz
    subst hz
    exact hky'.grown hu1 m1
/-- How much a list of spans may have. -/
def WeightOk (X : List Sp) : Prop := X.length ≤ 2147483647 ∧ ∀ a ∈ X, a.links.length ≤ 2147483647 ∧ a.attrs.length ≤ 2147483647 ∧ a.events.length ≤ 2147483647
set_option maxHeartbeats 8000000 in
theorem lawWeight_any (ad : Option Addr) (n cap : Nat) (X : List Sp) (P : Nat → Pl) (w : World) (hX : SpsAt w ad n X P) (hn : n ≤ 140737488355328) :
    Calls Tryd.prog 6 #[.slice ad n cap] w fun e w' => ∃ r : Nat, e = .returned (.int .i64 r) ∧ (r ≤ 2147483647 → WeightOk X) ∧ Below w.heap.size w w' := by
  have HX : Hid (SpsAt w ad n X P) := hX
  have HL : Hid (X.length = n) := hX.len
  clear hX
  go_enter Tryd.func6, Tryd.ntmps6
  go_wp2
  go_loopw [3, 4] (fun z3 z4 wr => ∃ m k : Nat, z3 = .int .i64 m ∧ z4 = .int .i64 k ∧ k ≤ n ∧ m ≤ 562949953421312 ∧ Hid (Below w.heap.size w wr) ∧ Hid (k ≤ m ∧ ∀ i (h : i < X.length), i < k → X[i].links.length ≤ m ∧ X[i].attrs.length ≤ m ∧ X[i].events.length ≤ m)) (fun _ z _ => n - (intOf z).toNat)
  case atStart => exact ⟨0, 0, rfl, rfl, by omega, by omega, Below.refl _ _, by omega, fun i _ h => by omega⟩
  case round =>
    obtain ⟨m, k, rfl, rfl, hkn, hm, HB, HD⟩ := hrel
    by_cases hlt : k < n
    · have hltn : decide (k < n) = true := decide_eq_true hlt
      have hltd : decide ((k : Int) < (n : Int)) = true := decide_eq_true (by omega)
      by_cases hmb : m ≤ 2147483647
      · have hmn : decide (m ≤ 2147483647) = true := decide_eq_true hmb
        have hmd : decide ((m : Int) ≤ 2147483647) = true := decide_eq_true (by omega)
        have hkX : k < X.length := by rw [HL.out]; exact hlt
        have SX := HX.out.below HB.out
        obtain ⟨b1, o1, rfl, _⟩ := SX.lies (by omega)
        have RG : Hid (wr.rangeAt b1 (o1 + k * 13) (spC X[k] (P k)).toList) := SX.range k hkX
        have HAT := SX.each k hkX
        obtain ⟨a, ha⟩ : ∃ a, X[k]'hkX = a := ⟨_, rfl⟩
        obtain ⟨p, hp⟩ : ∃ p, P k = p := ⟨_, rfl⟩
        rw [ha, hp] at RG HAT
        have HA : Hid (∃ h : k < X.length, X[k] = a) := ⟨hkX, ha⟩
        have z4 : wr.cell? ⟨b1, o1 + k * 13 + 4, none⟩ = some (.slice p.la a.links.length p.lc) := RG.out 4 _ rfl
        have z11 : wr.cell? ⟨b1, o1 + k * 13 + 11, none⟩ = some (.slice p.aa a.attrs.length p.ac) := RG.out 11 _ rfl
        have z12 : wr.cell? ⟨b1, o1 + k * 13 + 12, none⟩ = some (.slice p.ea a.events.length p.ec) := RG.out 12 _ rfl
        obtain ⟨l1, hl1⟩ : ∃ l, a.links.length = l := ⟨_, rfl⟩
        obtain ⟨l2, hl2⟩ : ∃ l, a.attrs.length = l := ⟨_, rfl⟩
        obtain ⟨l3, hl3⟩ : ∃ l, a.events.length = l := ⟨_, rfl⟩
        have b1' := HAT.sl
        have b2' := HAT.sa
        have b3' := HAT.se
        have HLL : Hid (a.links.length = l1 ∧ a.attrs.length = l2 ∧ a.events.length = l3) := ⟨hl1, hl2, hl3⟩
        rw [hl1] at z4 b1'
        rw [hl2] at z11 b2'
        rw [hl3] at z12 b3'
        obtain ⟨s1, hs1⟩ : ∃ s, m + 1 = s := ⟨_, rfl⟩
        obtain ⟨s2, hs2⟩ : ∃ s, s1 + l1 = s := ⟨_, rfl⟩
        obtain ⟨s3, hs3⟩ : ∃ s, s2 + l2 = s := ⟨_, rfl⟩
        obtain ⟨s4, hs4⟩ : ∃ s, s3 + l3 = s := ⟨_, rfl⟩
        have w1 : IntKind.i64.wrap ((m : Int) + 1) = (s1 : Int) := by rw [IntKind.wrap_i64]; omega
        have w2 : IntKind.i64.wrap ((s1 : Int) + (l1 : Int)) = (s2 : Int) := by rw [IntKind.wrap_i64]; omega
        have w3 : IntKind.i64.wrap ((s2 : Int) + (l2 : Int)) = (s3 : Int) := by rw [IntKind.wrap_i64]; omega
        have w4 : IntKind.i64.wrap ((s3 : Int) + (l3 : Int)) = (s4 : Int) := by rw [IntKind.wrap_i64]; omega
        have HS : Hid (m + 1 ≤ s4 ∧ l1 ≤ s4 ∧ l2 ≤ s4 ∧ l3 ≤ s4 ∧ s4 ≤ 562949953421312) := by
          show m + 1 ≤ s4 ∧ l1 ≤ s4 ∧ l2 ≤ s4 ∧ l3 ≤ s4 ∧ s4 ≤ 562949953421312
          omega
        have KB : wr.drew.cell? ⟨b1, o1 + k * 13 + 4, none⟩ = some (.slice p.la l1 p.lc) ∧ wr.drew.cell? ⟨b1, o1 + k * 13 + 11, none⟩ = some (.slice p.aa l2 p.ac) ∧ wr.drew.cell? ⟨b1, o1 + k * 13 + 12, none⟩ = some (.slice p.ea l3 p.ec) := ⟨z4, z11, z12⟩
        clear hs1 hs2 hs3 hs4 hl1 hl2 hl3 ha hp SX RG HAT b1' b2' b3' z4 z11 z12
        go_upto_region 5 with fail
        go_region_held3 (fun W => W.cell? ⟨b1, o1 + k * 13 + 4, none⟩ = some (.slice p.la l1 p.lc) ∧ W.cell? ⟨b1, o1 + k * 13 + 11, none⟩ = some (.slice p.aa l2 p.ac) ∧ W.cell? ⟨b1, o1 + k * 13 + 12, none⟩ = some (.slice p.ea l3 p.ec)) (first | exact KB | fail) (first | fail | fail)
        all_goals go_wp2
        all_goals go_roundw
        case rel =>
          refine ⟨s4, k + 1, rfl, by simp, by omega, HS.out.2.2.2.2, HB.out.drew, by have := HS.out.1; have := HD.out.1; omega, fun i hi hik => ?_⟩
          by_cases e : i < k
          · have := HD.out.2 i hi e
            have := HS.out.1
            omega
          · obtain rfl : i = k := by omega
            rw [HA.out.2, HLL.out.1, HLL.out.2.1, HLL.out.2.2]
            exact ⟨HS.out.2.1, HS.out.2.2.1, HS.out.2.2.2.1⟩
        case measure => (simp [intOf]; omega)
      · have hmn : decide (m ≤ 2147483647) = false := decide_eq_false hmb
        have hmd : decide ((m : Int) ≤ 2147483647) = false := decide_eq_false (by omega)
        go_wp2
        go_ret
        exact ⟨m, rfl, fun h => absurd h hmb, HB.out⟩
    · have hltn : decide (k < n) = false := decide_eq_false hlt
      have hltd : decide ((k : Int) < (n : Int)) = false := decide_eq_false (by omega)
      have HK : Hid (k = n) := by show k = n; omega
      go_wp2
      go_ret
      refine ⟨m, rfl, fun h => ⟨by rw [HL.out, ← HK.out]; have := HD.out.1; omega, fun a ha => ?_⟩, HB.out⟩
      obtain ⟨i, hi, rfl⟩ := List.mem_iff_getElem.1 ha
      have := HD.out.2 i hi (by rw [HK.out, ← HL.out]; exact hi)
      omega
end Go.Proofs.YtfgmjgoegdiieaaDoor

namespace Go.Proofs.YtfgmjgoegdiieaaDoor
open Go Go.RowKit
set_option maxRecDepth 100000

/-- A span under another trace's name. -/
def renS (hi lo : Int) (a : Sp) : Sp := { a with hi := hi, lo := lo }
theorem renS_row (hi lo : Int) (a : Sp) (p : Pl) : spC (renS hi lo a) p = #[.int .u64 hi, .int .u64 lo, .int .u64 a.id, .int .u64 a.par, .slice p.la a.links.length p.lc, .string a.svc, .string a.op, .int .i64 a.kind, .int .i64 a.status, .int .i64 a.start, .int .i64 a.fin, .slice p.aa a.attrs.length p.ac, .slice p.ea a.events.length p.ec] := rfl
/-- Where a round stands. -/
structure RenI (w wr : World) (hi lo : Int) (X : List Sp) (v : Value) (k : Nat) (L : List Sq) : Prop where
  own : OwnSq (w.heap.size + 1) wr v L
  same : L.map (·.1) = (X.take k).map (renS hi lo)
  low : Below w.heap.size w wr
  size : w.heap.size + 1 ≤ wr.heap.size
  box : Blk wr w.heap.size #[.int .u64 hi, .int .u64 lo] 35
theorem RenI.len {w wr : World} {hi lo : Int} {X : List Sp} {v : Value} {k : Nat} {L : List Sq} (h : RenI w wr hi lo X v k L) (hk : k ≤ X.length) : L.length = k := by
  have := congrArg List.length h.same
  simp at this
  omega
theorem size_setCell2 (w : World) (p q : Addr) (u v : Value) : w.heap.size = ((w.setCell p u).setCell q v).heap.size := by
  simp
theorem ren_step {w wr w1 w2 : World} {hi lo : Int} {X : List Sp} {v : Value} {k : Nat} {L : List Sq} {a : Sp} {p' : Pl} (HI : RenI w wr hi lo X v k L) (hst : ∀ w5 : World, (∀ j, wr.heap.size ≤ j → j < w1.heap.size → w5.heap[j]? = w1.heap[j]?) → SpAt w5 a p') (hb1 : Below wr.heap.size wr w1) (n2 : Blk w2 w1.heap.size (spC a p').toList.toArray 52) (u2 : Upd (fun j => j = w1.heap.size) (w1.alloc (.cells zSpL.toArray 52)) w2) :
    ∀ w3, w3 = (w2.setCell ⟨w1.heap.size, 0, none⟩ (.int .u64 hi)).setCell ⟨w1.heap.size, 1, none⟩ (.int .u64 lo) → OwnSq (w.heap.size + 1) w3 v L ∧ KeptSp w3 v (renS hi lo a, p') ∧ Below wr.heap.size wr w3 ∧ w3.rangeAt w1.heap.size 0 [.int .u64 hi, .int .u64 lo, .int .u64 a.id, .int .u64 a.par, .slice p'.la a.links.length p'.lc, .string a.svc, .string a.op, .int .i64 a.kind, .int .i64 a.status, .int .i64 a.start, .int .i64 a.fin, .slice p'.aa a.attrs.length p'.ac, .slice p'.ea a.events.length p'.ec] ∧ Blk w3 w.heap.size #[.int .u64 hi, .int .u64 lo] 35 := by
  intro w3 e3
  have s1 := hb1.size
  have u3 : Upd (fun j => j = w1.heap.size) w1 w3 := by
    rw [e3]
    exact ((((Upd.refl (fun j => j = w1.heap.size) w1).alloc (.cells zSpL.toArray 52)).trans u2 (fun _ _ h => h)).setCell (p := ⟨w1.heap.size, 0, none⟩) (fun _ => rfl) _).setCell (p := ⟨w1.heap.size, 1, none⟩) (fun _ => rfl) _
  have b3 : Below wr.heap.size wr w3 := hb1.trans (u3.below s1 (fun j hj e => by omega))
  have n3 : Blk w3 w1.heap.size #[.int .u64 hi, .int .u64 lo, .int .u64 a.id, .int .u64 a.par, .slice p'.la a.links.length p'.lc, .string a.svc, .string a.op, .int .i64 a.kind, .int .i64 a.status, .int .i64 a.start, .int .i64 a.fin, .slice p'.aa a.attrs.length p'.ac, .slice p'.ea a.events.length p'.ec] 52 := by
    have := (n2.set 0 (.int .u64 hi)).set 1 (.int .u64 lo)
    rw [e3]
    exact this
  refine ⟨HI.own.below b3, ⟨wr.heap.size, w1.heap.size, u3.size, fun g hg hl => ?_, fun w5 h5 => ?_⟩, b3, fun j u hj => ?_, HI.box.below b3 HI.box.lt⟩
  · have := (HI.own.block hg).2
    omega
  · have := hst w5 (fun j h1 h2 => (h5 j h1 h2).trans (u3.block j h2 (fun e => by omega)))
    exact ⟨this.links, this.attrs, this.events, this.sl, this.sa, this.se⟩
  · rw [Nat.zero_add]
    exact n3.cell j (by rw [List.getElem?_toArray]; exact hj)
set_option maxHeartbeats 8000000 in
theorem renamed_any (ad : Option Addr) (n cap : Nat) (X : List Sp) (P : Nat → Pl) (hi lo : Int) (w : World) (hX : SpsAt w ad n X P) (hW : WeightOk X) :
    Calls Tryd.prog 8 #[.slice ad n cap, .agg #[.int .u64 hi, .int .u64 lo]] w fun e w' => ∃ ad' c' P', e = .returned (.slice ad' n c') ∧ SpsAt w' ad' n (X.map (renS hi lo)) P' ∧ Below w.heap.size w w' := by
  have HX : Hid (SpsAt w ad n X P) := hX
  have HL : Hid (X.length = n) := hX.len
  have HW : Hid (WeightOk X) := hW
  have hnb : n ≤ 2147483647 := by rw [← hX.len]; exact hW.1
  have I0 : Hid (RenI w (w.alloc (.cells #[.int .u64 hi, .int .u64 lo] 35)) hi lo X (.slice none 0 0) 0 []) :=
    ⟨OwnSq.nil _ _, rfl, (Below.refl _ _).alloc (Nat.le_refl _) _, by rw [World.size_alloc]; exact Nat.le_refl _, Blk.new _ _ _⟩
  clear hX hW
  go_enter Tryd.func8, Tryd.ntmps8
  go_wp2
  go_loopw [5, 6] (fun z5 z6 wr => ∃ (k : Nat) (L : List Sq), z6 = .int .i64 k ∧ k ≤ n ∧ Hid (RenI w wr hi lo X z5 k L)) (fun _ z _ => n - (intOf z).toNat)
  case atStart => exact ⟨0, [], rfl, by omega, I0⟩
  case round =>
    obtain ⟨k, L, rfl, hkn, HI⟩ := hrel
    clear I0
    by_cases hlt : k < n
    · obtain ⟨av, cv, hv0, _, _⟩ := HI.out.own.sps
      subst hv0
      have hltd : (k : Int) < (n : Int) := by omega
      have hkX : k < X.length := by rw [HL.out]; exact hlt
      have SX := HX.out.below HI.out.low
      obtain ⟨b1, o1, rfl, _⟩ := SX.lies (by omega)
      have RG : Hid (wr.rangeAt b1 (o1 + k * 13) (spC X[k] (P k)).toList) := SX.range k hkX
      have HAT := SX.each k hkX
      have hwa := HW.out.2 _ (List.getElem_mem hkX)
      have HNX : Hid ((X.take (k + 1)).map (renS hi lo) = (X.take k).map (renS hi lo) ++ [renS hi lo (X[k]'hkX)]) := by
        show (X.take (k + 1)).map (renS hi lo) = (X.take k).map (renS hi lo) ++ [renS hi lo (X[k]'hkX)]
        rw [List.take_succ_eq_append_getElem hkX, List.map_append]
        rfl
      have hLk := HI.out.len (by omega)
      obtain ⟨a, ha⟩ : ∃ a, X[k]'hkX = a := ⟨_, rfl⟩
      obtain ⟨p, hp⟩ : ∃ p, P k = p := ⟨_, rfl⟩
      rw [ha, hp] at RG HAT
      rw [ha] at hwa HNX
      have CL := rCloneL_any a p wr HAT hwa.1 hwa.2.1 hwa.2.2
      unfold spV at CL
      have HLK : Hid (L.length = k) := hLk
      clear ha hp SX HAT hwa hLk
      have HLB : Hid (L.length ≤ 2147483647) := by show L.length ≤ 2147483647; rw [HLK.out]; omega
      have BX : Hid (∀ w1 w2 : World, Below wr.heap.size wr w1 → Upd (fun j => j = w1.heap.size) (w1.alloc (.cells zSpL.toArray 52)) w2 → ∀ i u, #[Value.int .u64 hi, Value.int .u64 lo][i]? = some u → w2.cell? ⟨w.heap.size, i, none⟩ = some u) := fun w1 w2 h1 h2 i u hu => by
        have hs := h1.size
        have hlt := HI.out.box.lt
        have hb : Below wr.heap.size wr w2 := (h1.alloc hs _).trans (h2.below (by rw [World.size_alloc]; omega) (fun j hj e => by omega))
        exact (HI.out.box.below hb hlt).cell i hu
      have HSZ : Hid (∀ w3 : World, Below wr.heap.size wr w3 → w.heap.size + 1 ≤ w3.heap.size) := fun w3 h3 => Nat.le_trans HI.out.size h3.size
      have HNE : Hid (∀ (v' : Value) (w3 w4 : World) (p' : Pl), Below wr.heap.size wr w3 → Blk w3 w.heap.size #[.int .u64 hi, .int .u64 lo] 35 → OwnSq (w.heap.size + 1) w4 v' (L ++ [((renS hi lo a, p') : Sq)]) → Upd (fun q => (Value.slice av L.length cv).ownBlock = some q) w3 w4 → RenI w w4 hi lo X v' (k + 1) (L ++ [((renS hi lo a, p') : Sq)])) := fun v' w3 w4 p' h3 hx ho hu => by
        have hs3 := h3.size
        have hso := HI.out.size
        have hblk : ∀ q, (Value.slice av L.length cv).ownBlock = some q → w.heap.size + 1 ≤ q := fun q hq => (HI.out.own.block hq).1
        refine ⟨ho, ?_, (HI.out.low.trans (h3.mono HI.out.low.size)).trans (hu.below (by omega) (fun j hj e => by have := hblk j e; omega)), by have := hu.size; omega, hx.upd hu (fun e => by have := hblk _ e; omega)⟩
        rw [HNX.out, List.map_append, HI.out.same]
        rfl
      go_wp2_with (first
        | (refine wpList_load_mid rfl 52 _ rfl b1 (o1 + k * 13) rfl (spC a p).toList _ RG.out Tryd.underlying52 rfl (by kernel_rfl) ?_)
        | (go_at_call 17; (with_reducible refine CL.mono ?_); clear CL; rintro e w1 ⟨p', rfl, hst, hb1⟩; have HST : Hid (∀ w5 : World, (∀ j, wr.heap.size ≤ j → j < w1.heap.size → w5.heap[j]? = w1.heap[j]?) → SpAt w5 a p') := hst; have HB1 : Hid (Below wr.heap.size wr w1) := hb1; clear hst hb1)
        | (refine wpList_stW rfl 52 _ _ rfl w1.heap.size zSpL (spC a p').toList 52 (Blk.new _ _ _) rfl rfl rfl (by kernel_rfl) (spC_one _ _) ?_; intro w2 n2 u2; have e0 := n2.cell 0 rfl; have f0 := n2.frozen 0; have e1 := n2.cell 1 rfl; have f1 := n2.frozen 1; have R3 := ren_step HI.out HST.out HB1.out n2 u2 _ rfl; obtain ⟨hown, hkep, hb3, hrg, hbx⟩ := R3; have c0 : w2.cell? ⟨w.heap.size, 0, none⟩ = some (.int .u64 hi) := BX.out w1 w2 HB1.out u2 0 _ rfl; have c1 : w2.cell? ⟨w.heap.size, 1, none⟩ = some (.int .u64 lo) := BX.out w1 w2 HB1.out u2 1 _ rfl; clear n2 u2)
        | (refine wpList_load_mid rfl 52 _ rfl w1.heap.size 0 rfl [.int .u64 hi, .int .u64 lo, .int .u64 a.id, .int .u64 a.par, .slice p'.la a.links.length p'.lc, .string a.svc, .string a.op, .int .i64 a.kind, .int .i64 a.status, .int .i64 a.start, .int .i64 a.fin, .slice p'.aa a.attrs.length p'.ac, .slice p'.ea a.events.length p'.ec] _ hrg Tryd.underlying52 rfl (by kernel_rfl) ?_)
        | (at_builtin; refine wpList_appS ((w2.setCell ⟨w1.heap.size, 0, none⟩ (.int .u64 hi)).setCell ⟨w1.heap.size, 1, none⟩ (.int .u64 lo)) rfl (.tmp 21) (.tmp 23) rfl (w.heap.size + 1) (.slice av L.length cv) L (renS hi lo a, p') _ rfl w2.heap.size (size_setCell2 w2 _ _ _ _) rfl hown hkep rfl HLB.out (HSZ.out _ hb3) ?_; intro v' w4 ho4 hu4; have HO : Hid _ := ho4; clear ho4))
      go_roundw
      case rel => exact ⟨k + 1, _, by simp, by omega, HNE.out _ _ _ _ hb3 hbx HO.out hu4⟩
      case measure => (simp [intOf]; omega)
    · obtain rfl : k = n := by omega
      obtain ⟨ad', c', hv, _, hs⟩ := HI.out.own.sps
      have hLk := HI.out.len (by rw [HL.out]; exact Nat.le_refl _)
      have hsm := HI.out.same
      rw [List.take_of_length_le (by rw [HL.out]; exact Nat.le_refl _)] at hsm
      have hS := hs _ hsm
      rw [hLk] at hv hS
      have HE : Hid (SpsAt wr ad' k (X.map (renS hi lo)) (fun i => (L.map (·.2)).getD i plQ) ∧ Below w.heap.size w wr) := ⟨hS, HI.out.low⟩
      subst hv
      clear hs hLk hsm hS HI
      go_wp2
      go_ret
      exact ⟨_, _, _, rfl, HE.out.1, HE.out.2⟩
end Go.Proofs.YtfgmjgoegdiieaaDoor
