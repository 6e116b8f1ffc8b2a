/-
  RzH.
-/
import Derived.Test.YtiflfapdffkcbaaGreatDoorRzG
namespace Go.Proofs.YtiflfapdffkcbaaGreatDoor
open Go Go.RowKit Go.Maps Go.WideMaps Go.Shelf
set_option maxRecDepth 100000

theorem wpListIn_appW {F : Fence} {fn : Nat} {P : Program} (w : World) {ops : Array Oper} {rest : List Oper} {o : Oper} {a : Act} {Q : Exit → Act → World → Prop} (hgd : o.guard = none) (s x : Operand) (t tx : TypeId)
    (ho : o.op = .call { callee := .builtin .append, args := #[s, x], argTypes := #[t, tx] })
    (base : Nat) (e : TypeId) (i : TypeInfo) (z : Value) (size bytes : Nat) (ht : P.underlying t = some (.slice e)) (hi : P.info? e = some i) (hz : i.zero = some z) (hsize : i.size = size) (hby : i.bytes = bytes) (hzs : z.cells.size = size)
    (v : Value) (n : Nat) (xs : List Value) (hv : a.eval s = v) (hown : w.ownsRow base e size v n xs) (y : Value) (m : Nat) (news : List Value) (hx : a.eval x = y) (hs : Src P size tx y m news w)
    (h63 : n + m ≤ maxLen) (hbytes : (n + m + (n + m) / 4 + 192) * bytes ≤ 281474976710656) (hbase : base ≤ w.heap.size)
    (h : ∀ v' w', w'.ownsRow base e size v' (n + m) (xs ++ news) → w.grownBy w' v.ownBlock → Moved w v v' → wpListIn F fn P ops Q rest (a.put o.dst v') w') : wpListIn F fn P ops Q (o :: rest) a w := by
  subst hby
  refine wpListIn_plain hgd fun K hK => ?_
  obtain ⟨v', w', hr, h2, h3, h4⟩ := run_appW (P := P) w base t tx o.type e i z size ht hi hz hsize hzs v n xs hown y m news hs h63 hbytes hbase
  unfold Oper.wpIn
  refine ⟨?_, ?_⟩
  · simp [Oper.about, ho, resolve, Target.leads, Sem.run_pure]
  · rw [Oper.semAt_plain F _ _ (by rw [ho]; intro c hc'; cases hc')]
    simp only [execOp, ho, resolve, invoke, builtin, Sem.run_bind, Sem.run_pure, Result.andThen_ok, List.map_toArray, List.map_cons, List.map_nil, hv, hx, hr]
    exact hK _ _ (h v' w' h2 h3 h4)
/-- A span whose lists lie in blocks of their own, apart from a row's. -/
def KeptF (base : Nat) (W : World) (v : Value) (x : Sq) : Prop := ∃ lo hi, base ≤ lo ∧ hi ≤ W.heap.size ∧ (∀ g, v.ownBlock = some g → ¬ (lo ≤ g ∧ g < hi)) ∧ ∀ w5 : World, (∀ k, lo ≤ k → k < hi → w5.heap[k]? = W.heap[k]?) → SpAt w5 x.1 x.2
theorem KeptF.at {base : Nat} {W : World} {v : Value} {x : Sq} (h : KeptF base W v x) : SpAt W x.1 x.2 := by
  obtain ⟨lo, hi, _, _, _, h3⟩ := h
  exact h3 W (fun _ _ _ => rfl)
theorem KeptF.grown {base : Nat} {W W' : World} {v v' : Value} {x : Sq} (h : KeptF base W v x) (hu : Upd (fun k => v.ownBlock = some k) W W') (hm : Moved W v v') : KeptF base W' v' x := by
  obtain ⟨lo, hi, h0, h1, h2, h3⟩ := h
  refine ⟨lo, hi, h0, Nat.le_trans h1 hu.size, fun g hg hl => ?_, fun w5 h5 => h3 w5 (fun k k1 k2 => (h5 k k1 k2).trans (hu.block k (by omega) (fun e => h2 k e ⟨k1, k2⟩)))⟩
  rcases hm with e | ⟨k, e, hk⟩
  · rw [e] at hg
    exact h2 g hg hl
  · rw [e] at hg
    injection hg with hg
    omega
theorem KeptF.below {base : Nat} {W W' : World} {v : Value} {x : Sq} (h : KeptF base W v x) (hb : Below W.heap.size W W') : KeptF base W' v x :=
  h.grown (Upd.ofBelow hb (fun k h1 h2 => by omega)) (Moved.refl _ _)
/-- A row of spans of one's own. -/
structure OwnSF (base : Nat) (w : World) (v : Value) (L : List Sq) : Prop where
  row : w.ownsRow base 41 13 v L.length (L.flatMap sqL)
  kept : ∀ x ∈ L, KeptF base w v x
theorem OwnSF.below {base : Nat} {w w' : World} {v : Value} {L : List Sq} (h : OwnSF base w v L) (hb : Below w.heap.size w w') : OwnSF base w' v L :=
  ⟨ownsRow_upd h.row (Upd.ofBelow (S := fun _ => False) hb (fun k hk hk' => by omega)) (fun _ _ h => h), fun x hx => (h.kept x hx).below hb⟩
theorem OwnSF.nil (base : Nat) (w : World) : OwnSF base w (.slice none 0 0) [] := ⟨World.ownsRow_nil w base _ 13, fun x hx => by cases hx⟩
theorem OwnSF.own {base : Nat} {w : World} {v : Value} {L : List Sq} (h : OwnSF base w v L) : OwnSq base w v L :=
  ⟨h.row, fun x hx => by
    obtain ⟨lo, hi, _, h1, h2, h3⟩ := h.kept x hx
    exact ⟨lo, hi, h1, h2, h3⟩⟩
theorem OwnSF.put {base : Nat} {w : World} {v : Value} {L : List Sq} (h : OwnSF base w v L) {l : Nat} {o : Obj} (o' : Obj) (hl : l < base) (_ : w.heap[l]? = some o) : OwnSF base (w.putObj l o') v L := by
  have hu : Upd (fun k => k = l) w (w.putObj l o') := ⟨rfl, rfl, rfl, by rw [World.putObj_size]; exact Nat.le_refl _, fun k _ hn => World.putObj_heap_other (fun e => hn (by omega))⟩
  refine ⟨ownsRow_upd h.row hu (fun k hk e => by have := (own_block h.row hk).1; omega), fun x hx => ?_⟩
  obtain ⟨lo, hi, h0, h1, h2, h3⟩ := h.kept x hx
  exact ⟨lo, hi, h0, Nat.le_trans h1 hu.size, h2, fun w5 h5 => h3 w5 (fun k k1 k2 => (h5 k k1 k2).trans (hu.block k (by omega) (fun e => by omega)))⟩
theorem wpListIn_appS {F : Fence} {fn : Nat} {ops : Array Oper} {rest : List Oper} {o : Oper} {a : Act} {Q : Exit → Act → World → Prop} (w : World) (hgd : o.guard = none) (s x : Operand)
    (ho : o.op = .call { callee := .builtin .append, args := #[s, x], argTypes := #[22, 22] })
    (base : Nat) (v : Value) (L : List Sq) (y : Sq) (cs : Array Value) (hcs : cs = spC y.1 y.2) (b : Nat) (hb : b = w.heap.size) (hv : a.eval s = v) (hown : OwnSF base w v L) (hky : KeptF base w v y) (hx : a.eval x = .slice (some ⟨b, 0, none⟩) 1 1) (hlen : L.length ≤ 2147483647) (hbase : base ≤ w.heap.size)
    (h : ∀ v' w', OwnSF base w' v' (L ++ [y]) → Upd (fun k => v.ownBlock = some k) w w' → wpListIn F fn Tryz.prog ops Q rest (a.put o.dst v') w') : wpListIn F fn Tryz.prog ops Q (o :: rest) a (w.alloc (.cells cs 41)) := by
  subst hb
  subst hcs
  obtain ⟨i0, hi0, hz0, hz1, hz2⟩ := info_parts infoSp13
  have hbw : Below w.heap.size w (w.alloc (.cells (spC y.1 y.2) 41)) := (Below.refl _ _).alloc (Nat.le_refl _) _
  have hown' := hown.below hbw
  have hky' := hky.below hbw
  have hs : Src Tryz.prog 13 22 (.slice (some ⟨w.heap.size, 0, none⟩) 1 1) 1 (sqL y) (w.alloc (.cells (spC y.1 y.2) 41)) := by
    refine Src.ofSlice _ Tryz.underlying22 ⟨w.heap.size, 0, none⟩ 1 1 _ rfl ?_ (sqL_one y)
    intro j u hj
    rw [Addr.add_lit, Nat.zero_add]
    refine (Blk.new w (spC y.1 y.2) 41).cell j ?_
    unfold sqL at hj
    rwa [Array.getElem?_toList] at hj
  refine wpListIn_appW _ hgd s x 22 22 ho base 41 i0 _ 13 168 Tryz.underlying22 hi0 hz0 hz1 hz2 rfl v L.length _ hv hown'.row _ 1 _ hx hs (by unfold maxLen; omega) (by omega) (by simp; omega) ?_
  intro v1 w1 o1 g1 m1
  have e : L.flatMap sqL ++ sqL y = (L ++ [y]).flatMap sqL := by simp
  rw [e] at o1
  have hu1 : Upd (fun k => v.ownBlock = some k) (w.alloc (.cells (spC y.1 y.2) 41)) w1 := (Upd.refl _ _).grown g1 (fun k hk e => e)
  have hu : Upd (fun k => v.ownBlock = some k) w w1 := (Upd.ofBelow hbw (fun k h1 h2 => by omega)).trans hu1 (fun _ _ h => h)
  refine h v1 w1 ⟨by rw [List.length_append]; exact o1, fun z hz => ?_⟩ hu
  rcases List.mem_append.1 hz with hz | hz
  · exact (hown'.kept z hz).grown hu1 m1
  · simp at hz
    subst hz
    exact hky'.grown hu1 m1
end Go.Proofs.YtiflfapdffkcbaaGreatDoor
