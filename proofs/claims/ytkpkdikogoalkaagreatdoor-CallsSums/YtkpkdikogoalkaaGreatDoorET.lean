/-
  ET.
-/
import Derived.Test.YtkpkdikogoalkaaGreatDoorERq
import Derived.Test.YtkpkdikogoalkaaGreatDoorSlAq
namespace Go.Proofs.YtkpkdikogoalkaaGreatDoor.sk
open Go Go.RowKit
set_option maxRecDepth 100000

theorem tal_one (x0 x1 x2 x3 x4 x5 : Int) (ao : Option Addr) (L cp : Nat) : ∀ v ∈ ([.int .u64 x0, .int .u64 x1, .int .u64 x2, .int .u64 x3, .int .u64 x4, .int .u64 x5, .slice ao L cp] : List Value), v.oneCell' = true := talL_one
theorem wrap_lo (x : Int) : 0 ≤ IntKind.u64.wrap x := by rw [IntKind.wrap_u64]; omega
theorem wrap_hi (x : Int) : IntKind.u64.wrap x ≤ 18446744073709551615 := by rw [IntKind.wrap_u64]; omega
theorem bin_set {L : List (Int × Int)} (h : Bin L) (i : Nat) (hi : i < L.length) {t : Int} (h0 : 0 ≤ t) (h1 : t ≤ 18446744073709551615) : Bin (L.set i (L[i].1, t)) := by
  intro b hb
  rcases List.mem_or_eq_of_mem_set hb with h2 | h2
  · exact h b h2
  · subst h2
    have := h L[i] (List.getElem_mem hi)
    exact ⟨this.1, this.2.1, h0, h1⟩
theorem bin_take {L : List (Int × Int)} (h : Bin L) (n : Nat) : Bin (L.take n) := fun b hb => h b (List.mem_of_mem_take hb)
theorem lent_takeB {a L : List (Int × Int)} {n : Nat} (hl : L.length = n + 3) (ha : a.length = n) (h : ∀ i (h : i < L.length), (∃ h' : i < a.length, L[i] = a[i]) ∨ (a.length ≤ i ∧ L[i] = markB i)) : L.take n = a := by
  refine List.ext_getElem (by rw [List.length_take]; omega) fun i h1 h2 => ?_
  rw [List.getElem_take]
  rcases h i (by omega) with ⟨_, e⟩ | ⟨e, _⟩
  · exact e
  · omega
theorem bin_lent {a L : List (Int × Int)} (h : ∀ i (h : i < L.length), (∃ h' : i < a.length, L[i] = a[i]) ∨ (a.length ≤ i ∧ L[i] = markB i)) (hb : Bin a) (hl : L.length ≤ 9000000000000000000) : Bin L := by
  intro b hbm
  obtain ⟨i, hi, rfl⟩ := List.getElem_of_mem hbm
  rcases h i hi with ⟨h', e⟩ | ⟨_, e⟩
  · rw [e]; exact hb _ (List.getElem_mem h')
  · rw [e]
    unfold markB
    exact ⟨by simp only; omega, by simp only; omega, by simp only; omega, by simp only; omega⟩
/-- A call and two tallies as arguments. -/
structure QS (w W : World) (C A B : List Value) (aa ba : Option Addr) (na nb : Nat) (la lb : List (Int × Int)) : Prop where
  xc : Blk W w.heap.size C.toArray 32
  xa : Blk W (w.heap.size + 1) A.toArray 39
  xb : Blk W (w.heap.size + 1 + 1) B.toArray 39
  ia : InAt W aa na la
  ib : InAt W ba nb lb
  low : Below w.heap.size w W
theorem QS.below {w W W' : World} {C A B : List Value} {aa ba : Option Addr} {na nb : Nat} {la lb : List (Int × Int)} (h : QS w W C A B aa ba na nb la lb) (hb : Below W.heap.size W W') : QS w W' C A B aa ba na nb la lb :=
  ⟨h.xc.below hb h.xc.lt, h.xa.below hb h.xa.lt, h.xb.below hb h.xb.lt, h.ia.below hb, h.ib.below hb, h.low.trans (hb.mono h.low.size)⟩
theorem QS.new {w : World} {C A B : List Value} {aa ba : Option Addr} {na nb : Nat} {la lb : List (Int × Int)} (hA : InAt w aa na la) (hB : InAt w ba nb lb) : QS w (((w.alloc (.cells C.toArray 32)).alloc (.cells A.toArray 39)).alloc (.cells B.toArray 39)) C A B aa ba na nb la lb := by
  have h1 : (w.alloc (.cells C.toArray 32)).heap.size = w.heap.size + 1 := by simp
  have hb : Below w.heap.size w (((w.alloc (.cells C.toArray 32)).alloc (.cells A.toArray 39)).alloc (.cells B.toArray 39)) := ((((Below.refl _ _).alloc (Nat.le_refl _) _).alloc (by simp) _).alloc (by simp; omega) _)
  refine ⟨((Blk.new _ _ _).alloc _).alloc _, Blk.alloc ?_ _, ?_, hA.below hb, hB.below hb, hb⟩
  · have := Blk.new (w.alloc (.cells C.toArray 32)) A.toArray 39
    rw [h1] at this
    exact this
  · have := Blk.new ((w.alloc (.cells C.toArray 32)).alloc (.cells A.toArray 39)) B.toArray 39
    rw [World.size_alloc, h1] at this
    exact this
/-- A tally that is lent. -/
structure QX (W : World) (b g : Nat) (X : List Value) (m : Nat) (L : List (Int × Int)) : Prop where
  x : Blk W b X.toArray 39
  r : RowB 0 W g m L
theorem QX.below {W W' : World} {b g : Nat} {X : List Value} {m : Nat} {L : List (Int × Int)} (h : QX W b g X m L) (hb : Below W.heap.size W W') : QX W' b g X m L := ⟨h.x.below hb h.x.lt, h.r.below hb⟩
theorem rowB_in {W : World} {g m n : Nat} {L l : List (Int × Int)} (h : RowB 0 W g m L) (k : L.take n = l ∧ Bin l ∧ n ≤ m ∧ n ≤ maxLen) : InAt W (some ⟨g, 0, none⟩) n l := by
  have h1 := h.front n k.2.2.1
  rw [k.1] at h1
  exact ⟨h1, fun a ha => by injection ha with ha; subst ha; exact h.lt, k.2.2.2, k.2.1⟩
theorem QX.inx {W : World} {b g : Nat} {X : List Value} {m n : Nat} {L l : List (Int × Int)} (h : QX W b g X m L) (k : L.take n = l ∧ Bin l ∧ n ≤ m ∧ n ≤ maxLen) : InAt W (some ⟨g, 0, none⟩) n l := rowB_in h.r k
/-- A tally that came out. -/
structure TU (W : World) (b : Nat) (Z : List Value) (ao : Option Addr) (L : Nat) (f : Nat → Nat) : Prop where
  blk : Blk W b Z.toArray 39
  sk : SkAt W ao L f
theorem TU.below {W W' : World} {b : Nat} {Z : List Value} {ao : Option Addr} {L : Nat} {f : Nat → Nat} (h : TU W b Z ao L f) (hb : Below W.heap.size W W') : TU W' b Z ao L f := ⟨h.blk.below hb h.blk.lt, h.sk.below hb⟩
/-- A tally of the law's own. -/
structure QO (W : World) (b : Nat) (Z : List Value) (ao : Option Addr) (n : Nat) (l : List (Int × Int)) : Prop where
  blk : Blk W b Z.toArray 39
  inn : InAt W ao n l
theorem QO.below {W W' : World} {b : Nat} {Z : List Value} {ao : Option Addr} {n : Nat} {l : List (Int × Int)} (h : QO W b Z ao n l) (hb : Below W.heap.size W W') : QO W' b Z ao n l := ⟨h.blk.below hb h.blk.lt, h.inn.below hb⟩
theorem inOwn {base : Nat} {W : World} {ao : Option Addr} {n c : Nat} {l : List (Int × Int)} (h : OwnBar base W (.slice ao n c) l) (hb : Bin l) (hn : n ≤ maxLen) : InAt W ao n l :=
  ⟨h.at, fun a ha => by
    subst ha
    rcases h.2 with ⟨e, _⟩ | ⟨g, cap, cur, e, _, hh, _⟩
    · simp at e
    · simp at e
      obtain ⟨rfl, _⟩ := e
      exact lt_of_block hh, hn, hb⟩
/-- All that CallsSums holds behind its first half. -/
structure SS (w W : World) (C A B : List Value) (aa ba : Option Addr) (na nb : Nat) (la lb : List (Int × Int)) (bx by_ gx gy : Nat) (X Y : List Value) (ma mb : Nat) (LX LY : List (Int × Int)) (b1 b2 b3 b4 b5 b6 : Nat) (Z1 Z2 Z3 Z4 Z5 Z6 : List Value) (lo : Nat) (vs : List Value) : Prop where
  qs : QS w W C A B aa ba na nb la lb
  x : Blk W bx X.toArray 39
  y : Blk W by_ Y.toArray 39
  rx : RowB 0 W gx ma LX
  ry : RowB 0 W gy mb LY
  r1 : Blk W b1 Z1.toArray 39
  r2 : Blk W b2 Z2.toArray 39
  r3 : Blk W b3 Z3.toArray 39
  r4 : Blk W b4 Z4.toArray 39
  r5 : Blk W b5 Z5.toArray 39
  r6 : Blk W b6 Z6.toArray 39
  ch : ChainB W lo W.heap.size vs
section
variable {w W W' : World} {C A B : List Value} {aa ba : Option Addr} {na nb : Nat} {la lb : List (Int × Int)} {bx by_ gx gy : Nat} {X Y : List Value} {ma mb : Nat} {LX LX' LY : List (Int × Int)} {b1 b2 b3 b4 b5 b6 : Nat} {Z1 Z2 Z3 Z4 Z5 Z6 : List Value} {lo : Nat} {vs : List Value}
theorem SS.below (h : SS w W C A B aa ba na nb la lb bx by_ gx gy X Y ma mb LX LY b1 b2 b3 b4 b5 b6 Z1 Z2 Z3 Z4 Z5 Z6 lo vs) (hb : Below W.heap.size W W') : SS w W' C A B aa ba na nb la lb bx by_ gx gy X Y ma mb LX LY b1 b2 b3 b4 b5 b6 Z1 Z2 Z3 Z4 Z5 Z6 lo vs :=
  ⟨h.qs.below hb, h.x.below hb h.x.lt, h.y.below hb h.y.lt, h.rx.below hb, h.ry.below hb, h.r1.below hb h.r1.lt, h.r2.below hb h.r2.lt, h.r3.below hb h.r3.lt, h.r4.below hb h.r4.lt, h.r5.below hb h.r5.lt, h.r6.below hb h.r6.lt, h.ch.below hb⟩
theorem SS.turn (h : SS w W C A B aa ba na nb la lb bx by_ gx gy X Y ma mb LX LY b1 b2 b3 b4 b5 b6 Z1 Z2 Z3 Z4 Z5 Z6 lo vs) (hr : RowB 0 W' gx ma LX') (hu : Upd (fun k => k = gx) W W')
    (hg : gx ≠ w.heap.size ∧ gx ≠ w.heap.size + 1 ∧ gx ≠ w.heap.size + 1 + 1 ∧ gx ≠ bx ∧ gx ≠ by_ ∧ gx ≠ gy ∧ gx < lo ∧ w.heap.size ≤ gx ∧ (∀ a, aa = some a → a.block < w.heap.size) ∧ (∀ a, ba = some a → a.block < w.heap.size) ∧ lo ≤ b1 ∧ lo ≤ b2 ∧ lo ≤ b3 ∧ lo ≤ b4 ∧ lo ≤ b5 ∧ lo ≤ b6) : SS w W' C A B aa ba na nb la lb bx by_ gx gy X Y ma mb LX' LY b1 b2 b3 b4 b5 b6 Z1 Z2 Z3 Z4 Z5 Z6 lo vs := by
  obtain ⟨g1, g2, g3, g4, g5, g6, g7, g8, g9, g10, g11, g12, g13, g14, g15, g16⟩ := hg
  exact ⟨⟨h.qs.xc.upd hu (fun e => g1 e.symm), h.qs.xa.upd hu (fun e => g2 e.symm), h.qs.xb.upd hu (fun e => g3 e.symm), h.qs.ia.upd hu (fun a ha e => by have := g9 a ha; omega), h.qs.ib.upd hu (fun a ha e => by have := g10 a ha; omega), h.qs.low.trans (hu.below h.qs.low.size (fun k hk e => by omega))⟩, h.x.upd hu (fun e => g4 e.symm), h.y.upd hu (fun e => g5 e.symm), hr, h.ry.upd hu (fun e => g6 e.symm), h.r1.upd hu (by omega), h.r2.upd hu (by omega), h.r3.upd hu (by omega), h.r4.upd hu (by omega), h.r5.upd hu (by omega), h.r6.upd hu (by omega), (ChainB.upd hu h.ch (fun k hk e => by omega)).hi hu.size⟩
theorem SS.inx (h : SS w W C A B aa ba na nb la lb bx by_ gx gy X Y ma mb LX LY b1 b2 b3 b4 b5 b6 Z1 Z2 Z3 Z4 Z5 Z6 lo vs) (hb : Bin LX) (hn : na + 3 = ma ∧ nb + 3 = mb ∧ na ≤ maxLen ∧ nb ≤ maxLen) : InAt W (some ⟨gx, 0, none⟩) na (LX.take na) := rowB_in h.rx ⟨rfl, bin_take hb na, by omega, hn.2.2.1⟩
theorem SS.iny (h : SS w W C A B aa ba na nb la lb bx by_ gx gy X Y ma mb LX LY b1 b2 b3 b4 b5 b6 Z1 Z2 Z3 Z4 Z5 Z6 lo vs) (k : LY.take nb = lb ∧ Bin lb ∧ nb ≤ mb ∧ nb ≤ maxLen) : InAt W (some ⟨gy, 0, none⟩) nb lb := rowB_in h.ry k
end
theorem BarAt.src {w : World} {ad : Option Addr} {n : Nat} {l : List (Int × Int)} (h : BarAt w ad n l) (c : Nat) : Src Tryz.prog 2 37 (.slice ad n c) n (l.flatMap barC) w := by
  by_cases hn : 0 < n
  · obtain ⟨b, off, rfl, hc⟩ := h.lies hn
    refine Src.ofSlice _ Tryz.underlying37 _ n c _ (by rw [barC_len, h.len]) ?_ (barC_one l)
    exact fun j u hj => BarAt.cells h _ rfl j u hj
  · obtain rfl : n = 0 := by omega
    obtain rfl : l = [] := List.eq_nil_of_length_eq_zero h.len
    cases ad with
    | none => exact Src.ofNil _ Tryz.underlying37 c
    | some a => exact Src.ofSlice _ Tryz.underlying37 a 0 c [] rfl (fun j u h => by simp at h) (fun u h => by cases h)
/-- A list's copy, at a step of a drawn region. -/
theorem step_app0B {ops : Array Oper} {o : Oper} {a : Act} {w : World} {K : Act → World → Prop} {Q : Exit → Act → World → Prop} {E : Prop} (hgd : o.guard = none) (s x : Operand)
    (ho : o.op = .call { callee := .builtin .append, args := #[s, x], argTypes := #[37, 37] }) (base sb : Nat) (ad : Option Addr) (n c : Nat) (l : List (Int × Int)) (hs : a.eval s = .slice (some ⟨sb, 0, none⟩) 0 0) (hx : a.eval x = .slice ad n c)
    (hO : OwnBar base w (.slice (some ⟨sb, 0, none⟩) 0 0) []) (hA : BarAt w ad n l) (hz : n * 16 ≤ 140737488351232) (hbase : base ≤ w.heap.size)
    (h : ∀ v' w', OwnBar base w' v' l → Upd (fun k => k = sb) w w' → (∀ k, v'.ownBlock = some k → k = sb ∨ w.heap.size ≤ k) → K (a.put o.dst v') w') : if Region.wanted o (yielded ops a.tmps) = true then Oper.wp Tryz.prog o a w K Q else E := by
  obtain ⟨i0, hi0, hz0, hz1, hz2⟩ := info_parts Tryz.info50
  refine step_appB w hgd s x 37 37 ho base 50 i0 _ 2 16 Tryz.underlying37 hi0 hz0 hz1 hz2 rfl _ 0 [] hs hO _ n _ hx (hA.src c) (by unfold maxLen; omega) (by omega) hbase ?_
  intro v1 w1 o1 g1 m1
  refine h v1 w1 ?_ ((Upd.refl _ w).grown g1 (fun k hk e => ?_)) (fun k hk => ?_)
  · unfold OwnBar
    rw [hA.len]
    simpa using o1
  · have : (Value.slice (some ⟨sb, 0, none⟩) 0 0).ownBlock = some k := e
    simp [Value.ownBlock] at this
    exact this.symm
  · rcases m1 with e | ⟨k', e, hk'⟩
    · rw [e] at hk
      simp [Value.ownBlock] at hk
      exact Or.inl hk.symm
    · rw [e] at hk
      injection hk with hk
      subst hk
      exact Or.inr hk'
def LentZ (x0 x1 x2 x3 x4 x5 : Int) (a : List (Int × Int)) (n m : Nat) (w : World) (e : Ending) (w' : World) : Prop := ∃ g L, e = .returned (.tuple #[.agg #[.int .u64 x0, .int .u64 x1, .int .u64 x2, .int .u64 x3, .int .u64 x4, .int .u64 x5, .slice (some ⟨g, 0, none⟩) n m], .slice (some ⟨g, 0, none⟩) m m]) ∧ Hid (RowB 0 w' g m L) ∧ Hid (w.heap.size ≤ g ∧ ∀ i (h : i < L.length), (∃ h' : i < a.length, L[i] = a[i]) ∨ (a.length ≤ i ∧ L[i] = markB i)) ∧ Below w.heap.size w w'
theorem LentT.lit {x0 x1 x2 x3 x4 x5 : Int} {a : List (Int × Int)} {n m : Nat} {w w' : World} {e : Ending} (h : LentT x0 x1 x2 x3 x4 x5 a n m w e w') : LentZ x0 x1 x2 x3 x4 x5 a n m w e w' := by
  obtain ⟨g, L, e1, h1, h2, h3⟩ := h
  exact ⟨g, L, e1, h1.out.weak (Nat.zero_le _), ⟨h1.out.low, h2.out⟩, h3⟩
set_option maxHeartbeats 32000000 in
theorem callsSums_any (c : Cal) (hx : 0 ≤ c.2.2.2.2 ∧ c.2.2.2.2 < 18446744073709551616) (c1 e1 k1 c2 e2 k2 : Nat) (c1b : c1 ≤ top128) (e1b : e1 ≤ top128) (k1b : k1 ≤ top128) (c2b : c2 ≤ top128) (e2b : e2 ≤ top128) (k2b : k2 ≤ top128) (aa ba : Option Addr) (na nb pa pb : Nat) (la lb : List (Int × Int)) (w : World) (hT : Tabs w) (hA : InAt w aa na la) (hB : InAt w ba nb lb)
    (za : na * 16 ≤ 140737488351232) (zb : nb * 16 ≤ 140737488351232) (nla : aa = none → na = 0 ∧ pa = 0) (nlb : ba = none → nb = 0 ∧ pb = 0) :
    Calls Tryz.prog 4 #[.agg (calL c).toArray, talV c1 e1 k1 aa na pa, talV c2 e2 k2 ba nb pb] w fun x w' => x = .returned (.bool true) ∧ Below w.heap.size w w' := by
  obtain ⟨ma, hma⟩ : ∃ z, na + 3 = z := ⟨_, rfl⟩
  obtain ⟨mb, hmb⟩ : ∃ z, nb + 3 = z := ⟨_, rfl⟩
  have HN3 : Hid (na + 3 = ma ∧ nb + 3 = mb ∧ na ≤ maxLen ∧ nb ≤ maxLen) := ⟨hma, hmb, hA.len, hB.len⟩
  have HAL : Hid (la.length = na ∧ lb.length = nb ∧ Bin la ∧ Bin lb) := ⟨hA.at_.len, hB.at_.len, hA.bin, hB.bin⟩
  have HAB : Hid ((∀ a, aa = some a → a.block < w.heap.size) ∧ (∀ a, ba = some a → a.block < w.heap.size)) := ⟨hA.lt, hB.lt⟩
  have SH := shown_any (((w.alloc (.cells (calL c).toArray 32)).alloc (.cells (talL (hi64 c1) (lo64 c1) (hi64 e1) (lo64 e1) (hi64 k1) (lo64 k1) aa na pa).toArray 39)).alloc (.cells (talL (hi64 c2) (lo64 c2) (hi64 e2) (lo64 e2) (hi64 k2) (lo64 k2) ba nb pb).toArray 39)) (hT.below (((((Below.refl _ _).alloc (Nat.le_refl _) _).alloc (by simp) _).alloc (by simp; omega) _)))
  have F : Hid (QS w _ (calL c) (talL (hi64 c1) (lo64 c1) (hi64 e1) (lo64 e1) (hi64 k1) (lo64 k1) aa na pa) (talL (hi64 c2) (lo64 c2) (hi64 e2) (lo64 e2) (hi64 k2) (lo64 k2) ba nb pb) aa ba na nb la lb) := QS.new hA hB
  have LA : Hid (∀ W, QS w W (calL c) (talL (hi64 c1) (lo64 c1) (hi64 e1) (lo64 e1) (hi64 k1) (lo64 k1) aa na pa) (talL (hi64 c2) (lo64 c2) (hi64 e2) (lo64 e2) (hi64 k2) (lo64 k2) ba nb pb) aa ba na nb la lb → Calls Tryz.prog 12 #[.agg (talL (hi64 c1) (lo64 c1) (hi64 e1) (lo64 e1) (hi64 k1) (lo64 k1) aa na pa).toArray] W (LentZ (hi64 c1) (lo64 c1) (hi64 e1) (lo64 e1) (hi64 k1) (lo64 k1) la na ma W)) := fun W h => (lentT_any _ _ _ _ _ _ aa na ma pa la W h.ia nla za hma).mono fun _ _ h => LentT.lit h
  have LB : Hid (∀ W, QS w W (calL c) (talL (hi64 c1) (lo64 c1) (hi64 e1) (lo64 e1) (hi64 k1) (lo64 k1) aa na pa) (talL (hi64 c2) (lo64 c2) (hi64 e2) (lo64 e2) (hi64 k2) (lo64 k2) ba nb pb) aa ba na nb la lb → Calls Tryz.prog 12 #[.agg (talL (hi64 c2) (lo64 c2) (hi64 e2) (lo64 e2) (hi64 k2) (lo64 k2) ba nb pb).toArray] W (LentZ (hi64 c2) (lo64 c2) (hi64 e2) (lo64 e2) (hi64 k2) (lo64 k2) lb nb mb W)) := fun W h => (lentT_any _ _ _ _ _ _ ba nb mb pb lb W h.ib nlb zb hmb).mono fun _ _ h => LentT.lit h
  have UP : Hid _ := plus_uni lb c1 e1 k1 c2 e2 k2 c1b e1b k1b c2b e2b k2b
  have UM : Hid _ := minus_uni lb c1 e1 k1 c2 e2 k2 c1b e1b k1b
  obtain ⟨o0, o1, o2, o3, o4, o5, FO, on1, or1, os1⟩ := one_uni c hx
  have ON : Hid _ := on1
  have OR : Hid _ := or1
  have OS : Hid _ := os1
  clear on1 or1 os1
  have CP : Hid (∀ W, Calls Tryz.prog 20 #[.agg #[.int .u64 (hi64 k1 : Int), .int .u64 (lo64 k1 : Int)]] W fun e w' => e = .returned (.int .u64 (capN k1 : Int)) ∧ Below W.heap.size W w') := fun W => ccap_any k1 W
  have CR : Hid (∀ W, Calls Tryz.prog 21 #[.agg #[.int .u64 (hi64 k1 : Int), .int .u64 (lo64 k1 : Int)]] W fun e w' => e = .returned (.int .u64 (capN k1 : Int)) ∧ Below W.heap.size W w') := fun W => rCap k1 W
  unfold TV6 at UP UM
  unfold talV
  generalize (capN k1 : Int) = cpk at *
  generalize (hi64 c1 : Int) = a0 at *
  generalize (lo64 c1 : Int) = a1 at *
  generalize (hi64 e1 : Int) = a2 at *
  generalize (lo64 e1 : Int) = a3 at *
  generalize (hi64 k1 : Int) = a4 at *
  generalize (lo64 k1 : Int) = a5 at *
  generalize (hi64 c2 : Int) = b0 at *
  generalize (lo64 c2 : Int) = b1 at *
  generalize (hi64 e2 : Int) = b2 at *
  generalize (lo64 e2 : Int) = b3 at *
  generalize (hi64 k2 : Int) = b4 at *
  generalize (lo64 k2 : Int) = b5 at *
  obtain ⟨p0, p1, p2, p3, p4, p5, FP, ep, pl1, pr1, ps1⟩ := UP.out la
  obtain ⟨m0, m1, m2, m3, m4, m5, FM, em, ml1, mr1, ms1⟩ := UM.out la
  have PL : Hid _ := pl1
  have PR : Hid _ := pr1
  have PS : Hid _ := ps1
  have ML : Hid _ := ml1
  have MR : Hid _ := mr1
  have MS : Hid _ := ms1
  clear pl1 pr1 ps1 ml1 mr1 ms1 hT hA hB nla nlb hx hma hmb c1b e1b k1b c2b e2b k2b
  simp only [talL] at SH F LA LB ⊢
  go_enter Tryz.func4, Tryz.ntmps4
  go_wp2_with (first
    | (go_at_call 5; (with_reducible refine (SH).mono ?_); clear SH; rintro x w1 ⟨rfl, bq⟩; have F1 : Hid _ := QS.below F.out bq; clear F; have F := F1; clear F1; clear bq)
    | (go_at_call 12; (with_reducible refine (LA.out _ F.out).mono ?_); rintro x w2 ⟨gx, LX, rfl, HRX, HIX, bq⟩; have HSZ1 : Hid (w.heap.size + 1 + 1 < w1.heap.size) := F.out.xb.lt; have F1 : Hid _ := QS.below F.out bq; clear F; have F := F1; clear F1; clear bq)
    | (go_at_call 12; (refine (LB.out _ (QS.below F.out ((Below.refl _ _).alloc (Nat.le_refl _) _))).mono ?_); rintro x w3 ⟨gy, LY, rfl, HRY, HIY, bq⟩; have HSZ2 : Hid (w2.heap.size < w3.heap.size) := Nat.lt_of_lt_of_le (show w2.heap.size < (World.alloc w2 _).heap.size by simp) bq.size; have MM : Below w2.heap.size w2 w3 := ((Below.refl _ _).alloc (Nat.le_refl _) _).trans (bq.mono (by simp)); have F1 : Hid _ := QS.below F.out MM; clear F; have F := F1; clear F1; have X : Hid _ := QX.mk (Blk.below (Blk.new _ _ _) bq (by simp)) (RowB.below HRX.out MM); clear MM; clear bq)
    | (refine wpList_load_mid rfl 32 _ rfl w.heap.size 0 rfl (calL c) _ (range13C F.out.xc) Tryz.underlying32 rfl (by kernel_rfl) ?_)
    | (refine wpList_load_mid rfl 32 _ rfl w.heap.size 0 rfl (calL c) _ (range13C (Blk.alloc F.out.xc _)) Tryz.underlying32 rfl (by kernel_rfl) ?_)
    | (refine wpList_load_mid rfl 39 _ rfl (w.heap.size + 1) 0 rfl [.int .u64 a0, .int .u64 a1, .int .u64 a2, .int .u64 a3, .int .u64 a4, .int .u64 a5, .slice aa na pa] _ (range13C F.out.xa) Tryz.underlying39 rfl (by kernel_rfl) ?_)
    | (refine wpList_load_mid rfl 39 _ rfl (w.heap.size + 1) 0 rfl [.int .u64 a0, .int .u64 a1, .int .u64 a2, .int .u64 a3, .int .u64 a4, .int .u64 a5, .slice aa na pa] _ (range13C (Blk.alloc F.out.xa _)) Tryz.underlying39 rfl (by kernel_rfl) ?_)
    | (refine wpList_load_mid rfl 39 _ rfl (w.heap.size + 1 + 1) 0 rfl [.int .u64 b0, .int .u64 b1, .int .u64 b2, .int .u64 b3, .int .u64 b4, .int .u64 b5, .slice ba nb pb] _ (range13C F.out.xb) Tryz.underlying39 rfl (by kernel_rfl) ?_)
    | (refine wpList_load_mid rfl 39 _ rfl (w.heap.size + 1 + 1) 0 rfl [.int .u64 b0, .int .u64 b1, .int .u64 b2, .int .u64 b3, .int .u64 b4, .int .u64 b5, .slice ba nb pb] _ (range13C (Blk.alloc F.out.xb _)) Tryz.underlying39 rfl (by kernel_rfl) ?_))
  obtain ⟨lo, hlo⟩ : ∃ z, w3.heap.size = z := ⟨_, rfl⟩
  have HCH : Hid (ChainB w3 lo w3.heap.size []) := Nat.le_of_eq hlo.symm
  have HG : Hid (gx < w2.heap.size ∧ w2.heap.size ≤ gy ∧ gx < lo ∧ gy < lo ∧ w.heap.size + 1 + 1 < gx ∧ w2.heap.size < lo ∧ w3.heap.size = lo) := ⟨HRX.out.lt, by have h1 := HIY.out.1; rw [World.size_alloc] at h1; omega, by have := X.out.r.lt; omega, by have := HRY.out.lt; omega, Nat.lt_of_lt_of_le HSZ1.out HIX.out.1, by have := HSZ2.out; omega, hlo⟩
  have HLO : Hid (w.heap.size ≤ lo) := by have := HG.out; show w.heap.size ≤ lo; omega
  have HX : Hid (LX.take na = la ∧ Bin la ∧ na ≤ ma ∧ na ≤ maxLen) := ⟨lent_takeB (by have := HRX.out.len; have := HN3.out; omega) HAL.out.1 HIX.out.2, HAL.out.2.2.1, by have := HN3.out; omega, HN3.out.2.2.1⟩
  have HY : Hid (LY.take nb = lb ∧ Bin lb ∧ nb ≤ mb ∧ nb ≤ maxLen) := ⟨lent_takeB (by have := HRY.out.len; have := HN3.out; omega) HAL.out.2.1 HIY.out.2, HAL.out.2.2.2, by have := HN3.out; omega, HN3.out.2.2.2⟩
  have HBX : Hid (Bin LX) := bin_lent HIX.out.2 HAL.out.2.2.1 (by rw [HRX.out.len]; have := HN3.out; omega)
  have KA : Hid (∀ W, RowB 0 W gx ma LX → InAt W aa na la → Calls Tryz.prog 22 #[.slice (some ⟨gx, 0, none⟩) ma ma, .slice aa na pa] W fun e w' => e = .returned (.bool true) ∧ Below W.heap.size W w') := fun W h1 h2 => stayB_any _ _ _ _ _ _ LX la W h1.all h2.at_ (by have := HN3.out; omega) HIX.out.2
  have KB : Hid (∀ W, RowB 0 W gy mb LY → InAt W ba nb lb → Calls Tryz.prog 22 #[.slice (some ⟨gy, 0, none⟩) mb mb, .slice ba nb pb] W fun e w' => e = .returned (.bool true) ∧ Below W.heap.size W w') := fun W h1 h2 => stayB_any _ _ _ _ _ _ LY lb W h1.all h2.at_ (by have := HN3.out; omega) HIY.out.2
  have hx3 : (na : Int) ≤ (ma : Int) := by have := HN3.out; omega
  clear HSZ1 HSZ2 HRX HIX HIY HAL hlo
  go_wp2_with (first
    | (go_at_call 13; (refine (ON.out _).mono ?_); rintro x w4 ⟨oOne, nOne, pOne, rfl, SOne, OOne, bq⟩; have MM : Below w3.heap.size w3 w4 := ((Below.refl _ _).alloc (Nat.le_refl _) _).trans (bq.mono (by simp)); have C1 : Hid _ := ChainB.more (ChainB.below HCH.out ((Below.refl _ _).alloc (Nat.le_refl _) _)) bq OOne.out; clear HCH; have HCH := C1; clear C1; have HLw4 : Hid (lo ≤ w4.heap.size) := ChainB.le HCH.out; have F1 : Hid _ := QS.below F.out MM; clear F; have F := F1; clear F1; have F1 : Hid _ := QX.below X.out MM; clear X; have X := F1; clear F1; have Y : Hid _ := QX.mk (Blk.below (Blk.new _ _ _) bq (by simp)) (RowB.below HRY.out MM); clear MM; clear bq)
    | (go_at_call 13; (refine (ON.out _).mono ?_); rintro x w5 ⟨oTwo, nTwo, pTwo, rfl, STwo, OTwo, bq⟩; have MM : Below w4.heap.size w4 w5 := ((Below.refl _ _).alloc (Nat.le_refl _) _).trans (bq.mono (by simp)); have C1 : Hid _ := ChainB.more (ChainB.below HCH.out ((Below.refl _ _).alloc (Nat.le_refl _) _)) bq OTwo.out; clear HCH; have HCH := C1; clear C1; have HLw5 : Hid (lo ≤ w5.heap.size) := ChainB.le HCH.out; have F1 : Hid _ := QS.below F.out MM; clear F; have F := F1; clear F1; have F1 : Hid _ := QX.below X.out MM; clear X; have X := F1; clear F1; have F1 : Hid _ := QX.below Y.out MM; clear Y; have Y := F1; clear F1; have One : Hid _ := TU.mk (Blk.below (Blk.new _ _ _) bq (by simp)) (SkAt.below SOne.out MM); clear MM; clear bq)
    | (go_at_call 14; (refine (PL.out _ _ _ _ _ _ _ (QX.inx (QX.below X.out ((Below.refl _ _).alloc (Nat.le_refl _) _)) HX.out) (QX.inx (QX.below Y.out ((Below.refl _ _).alloc (Nat.le_refl _) _)) HY.out)).mono ?_); rintro x w6 ⟨oSa, nSa, pSa, rfl, SSa, OSa, bq⟩; have MM : Below w5.heap.size w5 w6 := ((Below.refl _ _).alloc (Nat.le_refl _) _).trans (bq.mono (by simp)); have C1 : Hid _ := ChainB.more (ChainB.below HCH.out ((Below.refl _ _).alloc (Nat.le_refl _) _)) bq OSa.out; clear HCH; have HCH := C1; clear C1; have HLw6 : Hid (lo ≤ w6.heap.size) := ChainB.le HCH.out; have F1 : Hid _ := QS.below F.out MM; clear F; have F := F1; clear F1; have F1 : Hid _ := QX.below X.out MM; clear X; have X := F1; clear F1; have F1 : Hid _ := QX.below Y.out MM; clear Y; have Y := F1; clear F1; have F1 : Hid _ := TU.below One.out MM; clear One; have One := F1; clear F1; have Two : Hid _ := TU.mk (Blk.below (Blk.new _ _ _) bq (by simp)) (SkAt.below STwo.out MM); clear MM; clear bq)
    | (go_at_call 15; (refine (ML.out _ _ _ _ _ _ _ (QX.inx (QX.below X.out ((Below.refl _ _).alloc (Nat.le_refl _) _)) HX.out) (QX.inx (QX.below Y.out ((Below.refl _ _).alloc (Nat.le_refl _) _)) HY.out)).mono ?_); rintro x w7 ⟨oDa, nDa, pDa, rfl, SDa, ODa, bq⟩; have MM : Below w6.heap.size w6 w7 := ((Below.refl _ _).alloc (Nat.le_refl _) _).trans (bq.mono (by simp)); have C1 : Hid _ := ChainB.more (ChainB.below HCH.out ((Below.refl _ _).alloc (Nat.le_refl _) _)) bq ODa.out; clear HCH; have HCH := C1; clear C1; have HLw7 : Hid (lo ≤ w7.heap.size) := ChainB.le HCH.out; have F1 : Hid _ := QS.below F.out MM; clear F; have F := F1; clear F1; have F1 : Hid _ := QX.below X.out MM; clear X; have X := F1; clear F1; have F1 : Hid _ := QX.below Y.out MM; clear Y; have Y := F1; clear F1; have F1 : Hid _ := TU.below One.out MM; clear One; have One := F1; clear F1; have F1 : Hid _ := TU.below Two.out MM; clear Two; have Two := F1; clear F1; have Sa : Hid _ := TU.mk (Blk.below (Blk.new _ _ _) bq (by simp)) (SkAt.below SSa.out MM); clear MM; clear bq)
    | (go_at_call 14; (refine (PL.out _ _ _ _ _ _ _ (QX.inx (QX.below X.out ((Below.refl _ _).alloc (Nat.le_refl _) _)) HX.out) (QX.inx (QX.below Y.out ((Below.refl _ _).alloc (Nat.le_refl _) _)) HY.out)).mono ?_); rintro x w8 ⟨oSb, nSb, pSb, rfl, SSb, OSb, bq⟩; have MM : Below w7.heap.size w7 w8 := ((Below.refl _ _).alloc (Nat.le_refl _) _).trans (bq.mono (by simp)); have C1 : Hid _ := ChainB.more (ChainB.below HCH.out ((Below.refl _ _).alloc (Nat.le_refl _) _)) bq OSb.out; clear HCH; have HCH := C1; clear C1; have HLw8 : Hid (lo ≤ w8.heap.size) := ChainB.le HCH.out; have F1 : Hid _ := QS.below F.out MM; clear F; have F := F1; clear F1; have F1 : Hid _ := QX.below X.out MM; clear X; have X := F1; clear F1; have F1 : Hid _ := QX.below Y.out MM; clear Y; have Y := F1; clear F1; have F1 : Hid _ := TU.below One.out MM; clear One; have One := F1; clear F1; have F1 : Hid _ := TU.below Two.out MM; clear Two; have Two := F1; clear F1; have F1 : Hid _ := TU.below Sa.out MM; clear Sa; have Sa := F1; clear F1; have Da : Hid _ := TU.mk (Blk.below (Blk.new _ _ _) bq (by simp)) (SkAt.below SDa.out MM); clear MM; clear bq)
    | (go_at_call 15; (refine (ML.out _ _ _ _ _ _ _ (QX.inx (QX.below X.out ((Below.refl _ _).alloc (Nat.le_refl _) _)) HX.out) (QX.inx (QX.below Y.out ((Below.refl _ _).alloc (Nat.le_refl _) _)) HY.out)).mono ?_); rintro x w9 ⟨oDb, nDb, pDb, rfl, SDb, ODb, bq⟩; have MM : Below w8.heap.size w8 w9 := ((Below.refl _ _).alloc (Nat.le_refl _) _).trans (bq.mono (by simp)); have C1 : Hid _ := ChainB.more (ChainB.below HCH.out ((Below.refl _ _).alloc (Nat.le_refl _) _)) bq ODb.out; clear HCH; have HCH := C1; clear C1; have HLw9 : Hid (lo ≤ w9.heap.size) := ChainB.le HCH.out; have F1 : Hid _ := QS.below F.out MM; clear F; have F := F1; clear F1; have F1 : Hid _ := QX.below X.out MM; clear X; have X := F1; clear F1; have F1 : Hid _ := QX.below Y.out MM; clear Y; have Y := F1; clear F1; have F1 : Hid _ := TU.below One.out MM; clear One; have One := F1; clear F1; have F1 : Hid _ := TU.below Two.out MM; clear Two; have Two := F1; clear F1; have F1 : Hid _ := TU.below Sa.out MM; clear Sa; have Sa := F1; clear F1; have F1 : Hid _ := TU.below Da.out MM; clear Da; have Da := F1; clear F1; have Sb : Hid _ := TU.mk (Blk.below (Blk.new _ _ _) bq (by simp)) (SkAt.below SSb.out MM); clear MM; clear bq)
    | (go_at_call 16; (refine (PR.out _ _ _ _ _ _ _ (QS.below F.out ((Below.refl _ _).alloc (Nat.le_refl _) _)).ia (QS.below F.out ((Below.refl _ _).alloc (Nat.le_refl _) _)).ib).mono ?_); rintro x w10 ⟨oSr, nSr, pSr, rfl, SSr, OSr, bq⟩; have MM : Below w9.heap.size w9 w10 := ((Below.refl _ _).alloc (Nat.le_refl _) _).trans (bq.mono (by simp)); have C1 : Hid _ := ChainB.below HCH.out MM; clear HCH; have HCH := C1; clear C1; have F1 : Hid _ := QS.below F.out MM; clear F; have F := F1; clear F1; have F1 : Hid _ := QX.below X.out MM; clear X; have X := F1; clear F1; have F1 : Hid _ := QX.below Y.out MM; clear Y; have Y := F1; clear F1; have F1 : Hid _ := TU.below One.out MM; clear One; have One := F1; clear F1; have F1 : Hid _ := TU.below Two.out MM; clear Two; have Two := F1; clear F1; have F1 : Hid _ := TU.below Sa.out MM; clear Sa; have Sa := F1; clear F1; have F1 : Hid _ := TU.below Da.out MM; clear Da; have Da := F1; clear F1; have F1 : Hid _ := TU.below Sb.out MM; clear Sb; have Sb := F1; clear F1; have Db : Hid _ := TU.mk (Blk.below (Blk.new _ _ _) bq (by simp)) (SkAt.below SDb.out MM); clear MM; clear bq)
    | (go_at_call 17; (refine (MR.out _ _ _ _ _ _ _ (QS.below F.out ((Below.refl _ _).alloc (Nat.le_refl _) _)).ia (QS.below F.out ((Below.refl _ _).alloc (Nat.le_refl _) _)).ib).mono ?_); rintro x w11 ⟨oDr, nDr, pDr, rfl, SDr, ODr, bq⟩; have MM : Below w10.heap.size w10 w11 := ((Below.refl _ _).alloc (Nat.le_refl _) _).trans (bq.mono (by simp)); have C1 : Hid _ := ChainB.below HCH.out MM; clear HCH; have HCH := C1; clear C1; have F1 : Hid _ := QS.below F.out MM; clear F; have F := F1; clear F1; have F1 : Hid _ := QX.below X.out MM; clear X; have X := F1; clear F1; have F1 : Hid _ := QX.below Y.out MM; clear Y; have Y := F1; clear F1; have F1 : Hid _ := TU.below One.out MM; clear One; have One := F1; clear F1; have F1 : Hid _ := TU.below Two.out MM; clear Two; have Two := F1; clear F1; have F1 : Hid _ := TU.below Sa.out MM; clear Sa; have Sa := F1; clear F1; have F1 : Hid _ := TU.below Da.out MM; clear Da; have Da := F1; clear F1; have F1 : Hid _ := TU.below Sb.out MM; clear Sb; have Sb := F1; clear F1; have F1 : Hid _ := TU.below Db.out MM; clear Db; have Db := F1; clear F1; have Sr : Hid _ := TU.mk (Blk.below (Blk.new _ _ _) bq (by simp)) (SkAt.below SSr.out MM); clear MM; clear bq)
    | (go_at_call 18; (refine (OR.out _).mono ?_); rintro x w12 ⟨oRn, nRn, pRn, rfl, SRn, ORn, bq⟩; have MM : Below w11.heap.size w11 w12 := ((Below.refl _ _).alloc (Nat.le_refl _) _).trans (bq.mono (by simp)); have C1 : Hid _ := ChainB.below HCH.out MM; clear HCH; have HCH := C1; clear C1; have F1 : Hid _ := QS.below F.out MM; clear F; have F := F1; clear F1; have F1 : Hid _ := QX.below X.out MM; clear X; have X := F1; clear F1; have F1 : Hid _ := QX.below Y.out MM; clear Y; have Y := F1; clear F1; have F1 : Hid _ := TU.below One.out MM; clear One; have One := F1; clear F1; have F1 : Hid _ := TU.below Two.out MM; clear Two; have Two := F1; clear F1; have F1 : Hid _ := TU.below Sa.out MM; clear Sa; have Sa := F1; clear F1; have F1 : Hid _ := TU.below Da.out MM; clear Da; have Da := F1; clear F1; have F1 : Hid _ := TU.below Sb.out MM; clear Sb; have Sb := F1; clear F1; have F1 : Hid _ := TU.below Db.out MM; clear Db; have Db := F1; clear F1; have F1 : Hid _ := TU.below Sr.out MM; clear Sr; have Sr := F1; clear F1; have Dr : Hid _ := TU.mk (Blk.below (Blk.new _ _ _) bq (by simp)) (SkAt.below SDr.out MM); clear MM; clear bq)
    | (go_at_call 19; (refine (OS.out _ _ _ _ _ _ _ (TU.below One.out ((Below.refl _ _).alloc (Nat.le_refl _) _)).sk (TU.mk (Blk.new _ _ _) (SkAt.below SRn.out ((Below.refl _ _).alloc (Nat.le_refl _) _))).sk).mono ?_); rintro x w13 ⟨rfl, bq⟩; have MM : Below w12.heap.size w12 w13 := ((Below.refl _ _).alloc (Nat.le_refl _) _).trans (bq.mono (by simp)); have C1 : Hid _ := ChainB.below HCH.out MM; clear HCH; have HCH := C1; clear C1; have F1 : Hid _ := QS.below F.out MM; clear F; have F := F1; clear F1; have F1 : Hid _ := QX.below X.out MM; clear X; have X := F1; clear F1; have F1 : Hid _ := QX.below Y.out MM; clear Y; have Y := F1; clear F1; have F1 : Hid _ := TU.below One.out MM; clear One; have One := F1; clear F1; have F1 : Hid _ := TU.below Two.out MM; clear Two; have Two := F1; clear F1; have F1 : Hid _ := TU.below Sa.out MM; clear Sa; have Sa := F1; clear F1; have F1 : Hid _ := TU.below Da.out MM; clear Da; have Da := F1; clear F1; have F1 : Hid _ := TU.below Sb.out MM; clear Sb; have Sb := F1; clear F1; have F1 : Hid _ := TU.below Db.out MM; clear Db; have Db := F1; clear F1; have F1 : Hid _ := TU.below Sr.out MM; clear Sr; have Sr := F1; clear F1; have F1 : Hid _ := TU.below Dr.out MM; clear Dr; have Dr := F1; clear F1; have Rn : Hid _ := TU.mk (Blk.below (Blk.new _ _ _) bq (by simp)) (SkAt.below SRn.out MM); clear MM; clear bq)
    | (go_at_call 19; (with_reducible refine (OS.out _ _ _ _ _ _ _ Two.out.sk Rn.out.sk).mono ?_); rintro x w14 ⟨rfl, bq⟩; have C1 : Hid _ := ChainB.below HCH.out bq; clear HCH; have HCH := C1; clear C1; have F1 : Hid _ := QS.below F.out bq; clear F; have F := F1; clear F1; have F1 : Hid _ := QX.below X.out bq; clear X; have X := F1; clear F1; have F1 : Hid _ := QX.below Y.out bq; clear Y; have Y := F1; clear F1; have F1 : Hid _ := TU.below One.out bq; clear One; have One := F1; clear F1; have F1 : Hid _ := TU.below Two.out bq; clear Two; have Two := F1; clear F1; have F1 : Hid _ := TU.below Sa.out bq; clear Sa; have Sa := F1; clear F1; have F1 : Hid _ := TU.below Da.out bq; clear Da; have Da := F1; clear F1; have F1 : Hid _ := TU.below Sb.out bq; clear Sb; have Sb := F1; clear F1; have F1 : Hid _ := TU.below Db.out bq; clear Db; have Db := F1; clear F1; have F1 : Hid _ := TU.below Sr.out bq; clear Sr; have Sr := F1; clear F1; have F1 : Hid _ := TU.below Dr.out bq; clear Dr; have Dr := F1; clear F1; have F1 : Hid _ := TU.below Rn.out bq; clear Rn; have Rn := F1; clear F1; clear bq)
    | (go_at_call 19; (with_reducible refine (PS.out _ _ _ _ _ _ _ Sa.out.sk Sr.out.sk).mono ?_); rintro x w15 ⟨rfl, bq⟩; have C1 : Hid _ := ChainB.below HCH.out bq; clear HCH; have HCH := C1; clear C1; have F1 : Hid _ := QS.below F.out bq; clear F; have F := F1; clear F1; have F1 : Hid _ := QX.below X.out bq; clear X; have X := F1; clear F1; have F1 : Hid _ := QX.below Y.out bq; clear Y; have Y := F1; clear F1; have F1 : Hid _ := TU.below One.out bq; clear One; have One := F1; clear F1; have F1 : Hid _ := TU.below Two.out bq; clear Two; have Two := F1; clear F1; have F1 : Hid _ := TU.below Sa.out bq; clear Sa; have Sa := F1; clear F1; have F1 : Hid _ := TU.below Da.out bq; clear Da; have Da := F1; clear F1; have F1 : Hid _ := TU.below Sb.out bq; clear Sb; have Sb := F1; clear F1; have F1 : Hid _ := TU.below Db.out bq; clear Db; have Db := F1; clear F1; have F1 : Hid _ := TU.below Sr.out bq; clear Sr; have Sr := F1; clear F1; have F1 : Hid _ := TU.below Dr.out bq; clear Dr; have Dr := F1; clear F1; have F1 : Hid _ := TU.below Rn.out bq; clear Rn; have Rn := F1; clear F1; clear bq)
    | (go_at_call 19; (with_reducible refine (MS.out _ _ _ _ _ _ _ Da.out.sk Dr.out.sk).mono ?_); rintro x w16 ⟨rfl, bq⟩; have C1 : Hid _ := ChainB.below HCH.out bq; clear HCH; have HCH := C1; clear C1; have F1 : Hid _ := QS.below F.out bq; clear F; have F := F1; clear F1; have F1 : Hid _ := QX.below X.out bq; clear X; have X := F1; clear F1; have F1 : Hid _ := QX.below Y.out bq; clear Y; have Y := F1; clear F1; have F1 : Hid _ := TU.below One.out bq; clear One; have One := F1; clear F1; have F1 : Hid _ := TU.below Two.out bq; clear Two; have Two := F1; clear F1; have F1 : Hid _ := TU.below Sa.out bq; clear Sa; have Sa := F1; clear F1; have F1 : Hid _ := TU.below Da.out bq; clear Da; have Da := F1; clear F1; have F1 : Hid _ := TU.below Sb.out bq; clear Sb; have Sb := F1; clear F1; have F1 : Hid _ := TU.below Db.out bq; clear Db; have Db := F1; clear F1; have F1 : Hid _ := TU.below Sr.out bq; clear Sr; have Sr := F1; clear F1; have F1 : Hid _ := TU.below Dr.out bq; clear Dr; have Dr := F1; clear F1; have F1 : Hid _ := TU.below Rn.out bq; clear Rn; have Rn := F1; clear F1; clear bq)
    | (go_at_call 19; (with_reducible refine (PS.out _ _ _ _ _ _ _ Sb.out.sk Sr.out.sk).mono ?_); rintro x w17 ⟨rfl, bq⟩; have C1 : Hid _ := ChainB.below HCH.out bq; clear HCH; have HCH := C1; clear C1; have F1 : Hid _ := QS.below F.out bq; clear F; have F := F1; clear F1; have F1 : Hid _ := QX.below X.out bq; clear X; have X := F1; clear F1; have F1 : Hid _ := QX.below Y.out bq; clear Y; have Y := F1; clear F1; have F1 : Hid _ := TU.below One.out bq; clear One; have One := F1; clear F1; have F1 : Hid _ := TU.below Two.out bq; clear Two; have Two := F1; clear F1; have F1 : Hid _ := TU.below Sa.out bq; clear Sa; have Sa := F1; clear F1; have F1 : Hid _ := TU.below Da.out bq; clear Da; have Da := F1; clear F1; have F1 : Hid _ := TU.below Sb.out bq; clear Sb; have Sb := F1; clear F1; have F1 : Hid _ := TU.below Db.out bq; clear Db; have Db := F1; clear F1; have F1 : Hid _ := TU.below Sr.out bq; clear Sr; have Sr := F1; clear F1; have F1 : Hid _ := TU.below Dr.out bq; clear Dr; have Dr := F1; clear F1; have F1 : Hid _ := TU.below Rn.out bq; clear Rn; have Rn := F1; clear F1; clear bq)
    | (go_at_call 19; (with_reducible refine (MS.out _ _ _ _ _ _ _ Db.out.sk Dr.out.sk).mono ?_); rintro x w18 ⟨rfl, bq⟩; have C1 : Hid _ := ChainB.below HCH.out bq; clear HCH; have HCH := C1; clear C1; have F1 : Hid _ := QS.below F.out bq; clear F; have F := F1; clear F1; have F1 : Hid _ := QX.below X.out bq; clear X; have X := F1; clear F1; have F1 : Hid _ := QX.below Y.out bq; clear Y; have Y := F1; clear F1; have F1 : Hid _ := TU.below One.out bq; clear One; have One := F1; clear F1; have F1 : Hid _ := TU.below Two.out bq; clear Two; have Two := F1; clear F1; have F1 : Hid _ := TU.below Sa.out bq; clear Sa; have Sa := F1; clear F1; have F1 : Hid _ := TU.below Da.out bq; clear Da; have Da := F1; clear F1; have F1 : Hid _ := TU.below Sb.out bq; clear Sb; have Sb := F1; clear F1; have F1 : Hid _ := TU.below Db.out bq; clear Db; have Db := F1; clear F1; have F1 : Hid _ := TU.below Sr.out bq; clear Sr; have Sr := F1; clear F1; have F1 : Hid _ := TU.below Dr.out bq; clear Dr; have Dr := F1; clear F1; have F1 : Hid _ := TU.below Rn.out bq; clear Rn; have Rn := F1; clear F1; clear bq)
    | (refine wpList_load_mid rfl 32 _ rfl w.heap.size 0 rfl (calL c) _ (range13C F.out.xc) Tryz.underlying32 rfl (by kernel_rfl) ?_)
    | (refine wpList_load_mid rfl 32 _ rfl w.heap.size 0 rfl (calL c) _ (range13C (Blk.alloc F.out.xc _)) Tryz.underlying32 rfl (by kernel_rfl) ?_)
    | (refine wpList_load_mid rfl 39 _ rfl (w.heap.size + 1) 0 rfl [.int .u64 a0, .int .u64 a1, .int .u64 a2, .int .u64 a3, .int .u64 a4, .int .u64 a5, .slice aa na pa] _ (range13C F.out.xa) Tryz.underlying39 rfl (by kernel_rfl) ?_)
    | (refine wpList_load_mid rfl 39 _ rfl (w.heap.size + 1) 0 rfl [.int .u64 a0, .int .u64 a1, .int .u64 a2, .int .u64 a3, .int .u64 a4, .int .u64 a5, .slice aa na pa] _ (range13C (Blk.alloc F.out.xa _)) Tryz.underlying39 rfl (by kernel_rfl) ?_)
    | (refine wpList_load_mid rfl 39 _ rfl (w.heap.size + 1 + 1) 0 rfl [.int .u64 b0, .int .u64 b1, .int .u64 b2, .int .u64 b3, .int .u64 b4, .int .u64 b5, .slice ba nb pb] _ (range13C F.out.xb) Tryz.underlying39 rfl (by kernel_rfl) ?_)
    | (refine wpList_load_mid rfl 39 _ rfl (w.heap.size + 1 + 1) 0 rfl [.int .u64 b0, .int .u64 b1, .int .u64 b2, .int .u64 b3, .int .u64 b4, .int .u64 b5, .slice ba nb pb] _ (range13C (Blk.alloc F.out.xb _)) Tryz.underlying39 rfl (by kernel_rfl) ?_)
    | (refine wpList_load_mid rfl 39 _ rfl w2.heap.size 0 rfl [.int .u64 a0, .int .u64 a1, .int .u64 a2, .int .u64 a3, .int .u64 a4, .int .u64 a5, .slice (some ⟨gx, 0, none⟩) na ma] _ (range13C X.out.x) Tryz.underlying39 rfl (by kernel_rfl) ?_)
    | (refine wpList_load_mid rfl 39 _ rfl w2.heap.size 0 rfl [.int .u64 a0, .int .u64 a1, .int .u64 a2, .int .u64 a3, .int .u64 a4, .int .u64 a5, .slice (some ⟨gx, 0, none⟩) na ma] _ (range13C (Blk.alloc X.out.x _)) Tryz.underlying39 rfl (by kernel_rfl) ?_)
    | (refine wpList_load_mid rfl 39 _ rfl w3.heap.size 0 rfl [.int .u64 b0, .int .u64 b1, .int .u64 b2, .int .u64 b3, .int .u64 b4, .int .u64 b5, .slice (some ⟨gy, 0, none⟩) nb mb] _ (range13C Y.out.x) Tryz.underlying39 rfl (by kernel_rfl) ?_)
    | (refine wpList_load_mid rfl 39 _ rfl w3.heap.size 0 rfl [.int .u64 b0, .int .u64 b1, .int .u64 b2, .int .u64 b3, .int .u64 b4, .int .u64 b5, .slice (some ⟨gy, 0, none⟩) nb mb] _ (range13C (Blk.alloc Y.out.x _)) Tryz.underlying39 rfl (by kernel_rfl) ?_)
    | (refine wpList_load_mid rfl 39 _ rfl w4.heap.size 0 rfl [.int .u64 o0, .int .u64 o1, .int .u64 o2, .int .u64 o3, .int .u64 o4, .int .u64 o5, .slice oOne nOne pOne] _ (range13C One.out.blk) Tryz.underlying39 rfl (by kernel_rfl) ?_)
    | (refine wpList_load_mid rfl 39 _ rfl w4.heap.size 0 rfl [.int .u64 o0, .int .u64 o1, .int .u64 o2, .int .u64 o3, .int .u64 o4, .int .u64 o5, .slice oOne nOne pOne] _ (range13C (Blk.alloc One.out.blk _)) Tryz.underlying39 rfl (by kernel_rfl) ?_)
    | (refine wpList_load_mid rfl 39 _ rfl w5.heap.size 0 rfl [.int .u64 o0, .int .u64 o1, .int .u64 o2, .int .u64 o3, .int .u64 o4, .int .u64 o5, .slice oTwo nTwo pTwo] _ (range13C Two.out.blk) Tryz.underlying39 rfl (by kernel_rfl) ?_)
    | (refine wpList_load_mid rfl 39 _ rfl w5.heap.size 0 rfl [.int .u64 o0, .int .u64 o1, .int .u64 o2, .int .u64 o3, .int .u64 o4, .int .u64 o5, .slice oTwo nTwo pTwo] _ (range13C (Blk.alloc Two.out.blk _)) Tryz.underlying39 rfl (by kernel_rfl) ?_)
    | (refine wpList_load_mid rfl 39 _ rfl w6.heap.size 0 rfl [.int .u64 p0, .int .u64 p1, .int .u64 p2, .int .u64 p3, .int .u64 p4, .int .u64 p5, .slice oSa nSa pSa] _ (range13C Sa.out.blk) Tryz.underlying39 rfl (by kernel_rfl) ?_)
    | (refine wpList_load_mid rfl 39 _ rfl w6.heap.size 0 rfl [.int .u64 p0, .int .u64 p1, .int .u64 p2, .int .u64 p3, .int .u64 p4, .int .u64 p5, .slice oSa nSa pSa] _ (range13C (Blk.alloc Sa.out.blk _)) Tryz.underlying39 rfl (by kernel_rfl) ?_)
    | (refine wpList_load_mid rfl 39 _ rfl w7.heap.size 0 rfl [.int .u64 m0, .int .u64 m1, .int .u64 m2, .int .u64 m3, .int .u64 m4, .int .u64 m5, .slice oDa nDa pDa] _ (range13C Da.out.blk) Tryz.underlying39 rfl (by kernel_rfl) ?_)
    | (refine wpList_load_mid rfl 39 _ rfl w7.heap.size 0 rfl [.int .u64 m0, .int .u64 m1, .int .u64 m2, .int .u64 m3, .int .u64 m4, .int .u64 m5, .slice oDa nDa pDa] _ (range13C (Blk.alloc Da.out.blk _)) Tryz.underlying39 rfl (by kernel_rfl) ?_)
    | (refine wpList_load_mid rfl 39 _ rfl w8.heap.size 0 rfl [.int .u64 p0, .int .u64 p1, .int .u64 p2, .int .u64 p3, .int .u64 p4, .int .u64 p5, .slice oSb nSb pSb] _ (range13C Sb.out.blk) Tryz.underlying39 rfl (by kernel_rfl) ?_)
    | (refine wpList_load_mid rfl 39 _ rfl w8.heap.size 0 rfl [.int .u64 p0, .int .u64 p1, .int .u64 p2, .int .u64 p3, .int .u64 p4, .int .u64 p5, .slice oSb nSb pSb] _ (range13C (Blk.alloc Sb.out.blk _)) Tryz.underlying39 rfl (by kernel_rfl) ?_)
    | (refine wpList_load_mid rfl 39 _ rfl w9.heap.size 0 rfl [.int .u64 m0, .int .u64 m1, .int .u64 m2, .int .u64 m3, .int .u64 m4, .int .u64 m5, .slice oDb nDb pDb] _ (range13C Db.out.blk) Tryz.underlying39 rfl (by kernel_rfl) ?_)
    | (refine wpList_load_mid rfl 39 _ rfl w9.heap.size 0 rfl [.int .u64 m0, .int .u64 m1, .int .u64 m2, .int .u64 m3, .int .u64 m4, .int .u64 m5, .slice oDb nDb pDb] _ (range13C (Blk.alloc Db.out.blk _)) Tryz.underlying39 rfl (by kernel_rfl) ?_)
    | (refine wpList_load_mid rfl 39 _ rfl w10.heap.size 0 rfl [.int .u64 p0, .int .u64 p1, .int .u64 p2, .int .u64 p3, .int .u64 p4, .int .u64 p5, .slice oSr nSr pSr] _ (range13C Sr.out.blk) Tryz.underlying39 rfl (by kernel_rfl) ?_)
    | (refine wpList_load_mid rfl 39 _ rfl w10.heap.size 0 rfl [.int .u64 p0, .int .u64 p1, .int .u64 p2, .int .u64 p3, .int .u64 p4, .int .u64 p5, .slice oSr nSr pSr] _ (range13C (Blk.alloc Sr.out.blk _)) Tryz.underlying39 rfl (by kernel_rfl) ?_)
    | (refine wpList_load_mid rfl 39 _ rfl w11.heap.size 0 rfl [.int .u64 m0, .int .u64 m1, .int .u64 m2, .int .u64 m3, .int .u64 m4, .int .u64 m5, .slice oDr nDr pDr] _ (range13C Dr.out.blk) Tryz.underlying39 rfl (by kernel_rfl) ?_)
    | (refine wpList_load_mid rfl 39 _ rfl w11.heap.size 0 rfl [.int .u64 m0, .int .u64 m1, .int .u64 m2, .int .u64 m3, .int .u64 m4, .int .u64 m5, .slice oDr nDr pDr] _ (range13C (Blk.alloc Dr.out.blk _)) Tryz.underlying39 rfl (by kernel_rfl) ?_)
    | (refine wpList_load_mid rfl 39 _ rfl w12.heap.size 0 rfl [.int .u64 o0, .int .u64 o1, .int .u64 o2, .int .u64 o3, .int .u64 o4, .int .u64 o5, .slice oRn nRn pRn] _ (range13C Rn.out.blk) Tryz.underlying39 rfl (by kernel_rfl) ?_)
    | (refine wpList_load_mid rfl 39 _ rfl w12.heap.size 0 rfl [.int .u64 o0, .int .u64 o1, .int .u64 o2, .int .u64 o3, .int .u64 o4, .int .u64 o5, .slice oRn nRn pRn] _ (range13C (Blk.alloc Rn.out.blk _)) Tryz.underlying39 rfl (by kernel_rfl) ?_))
  have hS0 : Below w18.heap.size w18 w18.drew := (Below.refl _ _).drew
  refine wp_region_held (S := fun V => Below w18.heap.size w18 V) (by kernel_rfl) ?_
  change wpAnyH _ _ _ _ _ _ _ _ (World.drew _)
  refine takeC (i := 0) (v := .bool true) rfl (by kernel_rfl) (by kernel_rfl) (by kernel_rfl) (fun _ _ _ h => h) (Or.inl ⟨by rfl, fun W hW => by go_simp⟩) hS0 ?_
  simp only [Act.put, List.setIfInBounds_toArray, List.set_cons_zero, List.set_cons_succ]
  refine takeC (i := 1) (v := .bool false) rfl (by kernel_rfl) (by kernel_rfl) (by kernel_rfl) (fun _ _ _ h => h) (Or.inl ⟨by rfl, fun W hW => by go_simp⟩) hS0 ?_
  simp only [Act.put, List.setIfInBounds_toArray, List.set_cons_zero, List.set_cons_succ]
  refine takeC (i := 2) (v := .bool false) rfl (by kernel_rfl) (by kernel_rfl) (by kernel_rfl) (fun _ _ _ h => h) (Or.inl ⟨by rfl, fun W hW => by go_simp⟩) hS0 ?_
  simp only [Act.put, List.setIfInBounds_toArray, List.set_cons_zero, List.set_cons_succ]
  refine takeC (i := 3) (v := .bool true) rfl (by kernel_rfl) (by kernel_rfl) (by kernel_rfl) (fun _ _ _ h => h) (Or.inl ⟨by rfl, fun W hW => by go_simp⟩) hS0 ?_
  simp only [Act.put, List.setIfInBounds_toArray, List.set_cons_zero, List.set_cons_succ]
  refine takeC (i := 4) (v := .bool false) rfl (by kernel_rfl) (by kernel_rfl) (by kernel_rfl) (fun _ _ _ h => h) (Or.inl ⟨by rfl, fun W hW => by go_simp⟩) hS0 ?_
  simp only [Act.put, List.setIfInBounds_toArray, List.set_cons_zero, List.set_cons_succ]
  refine takeC (i := 5) (v := .bool false) rfl (by kernel_rfl) (by kernel_rfl) (by kernel_rfl) (fun _ _ _ h => h) (Or.inl ⟨by rfl, fun W hW => by go_simp⟩) hS0 ?_
  simp only [Act.put, List.setIfInBounds_toArray, List.set_cons_zero, List.set_cons_succ]
  refine takeC (i := 6) (v := .bool false) rfl (by kernel_rfl) (by kernel_rfl) (by kernel_rfl) (fun _ _ _ h => h) (Or.inl ⟨by rfl, fun W hW => by go_simp⟩) hS0 ?_
  simp only [Act.put, List.setIfInBounds_toArray, List.set_cons_zero, List.set_cons_succ]
  refine takeC (i := 7) (v := .bool true) rfl (by kernel_rfl) (by kernel_rfl) (by kernel_rfl) (fun _ _ _ h => h) (Or.inl ⟨by rfl, fun W hW => by go_simp⟩) hS0 ?_
  simp only [Act.put, List.setIfInBounds_toArray, List.set_cons_zero, List.set_cons_succ]
  refine takeC (i := 8) (v := .bool false) rfl (by kernel_rfl) (by kernel_rfl) (by kernel_rfl) (fun _ _ _ h => h) (Or.inl ⟨by rfl, fun W hW => by go_simp⟩) hS0 ?_
  simp only [Act.put, List.setIfInBounds_toArray, List.set_cons_zero, List.set_cons_succ]
  refine takeC (i := 9) (v := .bool false) rfl (by kernel_rfl) (by kernel_rfl) (by kernel_rfl) (fun _ _ _ h => h) (Or.inl ⟨by rfl, fun W hW => by go_simp⟩) hS0 ?_
  simp only [Act.put, List.setIfInBounds_toArray, List.set_cons_zero, List.set_cons_succ]
  refine takeC (i := 10) (v := .bool false) rfl (by kernel_rfl) (by kernel_rfl) (by kernel_rfl) (fun _ _ _ h => h) (Or.inl ⟨by rfl, fun W hW => by go_simp⟩) hS0 ?_
  simp only [Act.put, List.setIfInBounds_toArray, List.set_cons_zero, List.set_cons_succ]
  refine takeC (i := 11) (v := .bool true) rfl (by kernel_rfl) (by kernel_rfl) (by kernel_rfl) (fun _ _ _ h => h) (Or.inl ⟨by rfl, fun W hW => by go_simp⟩) hS0 ?_
  simp only [Act.put, List.setIfInBounds_toArray, List.set_cons_zero, List.set_cons_succ]
  refine takeC (i := 12) (v := .bool false) rfl (by kernel_rfl) (by kernel_rfl) (by kernel_rfl) (fun _ _ _ h => h) (Or.inl ⟨by rfl, fun W hW => by go_simp⟩) hS0 ?_
  simp only [Act.put, List.setIfInBounds_toArray, List.set_cons_zero, List.set_cons_succ]
  refine takeC (i := 13) (v := .bool false) rfl (by kernel_rfl) (by kernel_rfl) (by kernel_rfl) (fun _ _ _ h => h) (Or.inl ⟨by rfl, fun W hW => by go_simp⟩) hS0 ?_
  simp only [Act.put, List.setIfInBounds_toArray, List.set_cons_zero, List.set_cons_succ]
  refine takeC (i := 14) (v := .bool false) rfl (by kernel_rfl) (by kernel_rfl) (by kernel_rfl) (fun _ _ _ h => h) (Or.inl ⟨by rfl, fun W hW => by go_simp⟩) hS0 ?_
  simp only [Act.put, List.setIfInBounds_toArray, List.set_cons_zero, List.set_cons_succ]
  refine takeC (i := 15) (v := .bool true) rfl (by kernel_rfl) (by kernel_rfl) (by kernel_rfl) (fun _ _ _ h => h) (Or.inl ⟨by rfl, fun W hW => by go_simp⟩) hS0 ?_
  simp only [Act.put, List.setIfInBounds_toArray, List.set_cons_zero, List.set_cons_succ]
  refine takeC (i := 16) (v := .bool false) rfl (by kernel_rfl) (by kernel_rfl) (by kernel_rfl) (fun _ _ _ h => h) (Or.inl ⟨by rfl, fun W hW => by go_simp⟩) hS0 ?_
  simp only [Act.put, List.setIfInBounds_toArray, List.set_cons_zero, List.set_cons_succ]
  refine takeC (i := 17) (v := .bool false) rfl (by kernel_rfl) (by kernel_rfl) (by kernel_rfl) (fun _ _ _ h => h) (Or.inl ⟨by rfl, fun W hW => by go_simp⟩) hS0 ?_
  simp only [Act.put, List.setIfInBounds_toArray, List.set_cons_zero, List.set_cons_succ]
  refine takeC (i := 18) (v := .bool false) rfl (by kernel_rfl) (by kernel_rfl) (by kernel_rfl) (fun _ _ _ h => h) (Or.inl ⟨by rfl, fun W hW => by go_simp⟩) hS0 ?_
  simp only [Act.put, List.setIfInBounds_toArray, List.set_cons_zero, List.set_cons_succ]
  refine takeC (i := 19) (v := .bool true) rfl (by kernel_rfl) (by kernel_rfl) (by kernel_rfl) (fun _ _ _ h => h) (Or.inl ⟨by rfl, fun W hW => by go_simp⟩) hS0 ?_
  simp only [Act.put, List.setIfInBounds_toArray, List.set_cons_zero, List.set_cons_succ]
  refine takeC (i := 20) (v := .bool false) rfl (by kernel_rfl) (by kernel_rfl) (by kernel_rfl) (fun _ _ _ h => h) (Or.inl ⟨by rfl, fun W hW => by go_simp⟩) hS0 ?_
  simp only [Act.put, List.setIfInBounds_toArray, List.set_cons_zero, List.set_cons_succ]
  refine takeC (i := 21) (v := .bool false) rfl (by kernel_rfl) (by kernel_rfl) (by kernel_rfl) (fun _ _ _ h => h) (Or.inl ⟨by rfl, fun W hW => by go_simp⟩) hS0 ?_
  simp only [Act.put, List.setIfInBounds_toArray, List.set_cons_zero, List.set_cons_succ]
  refine takeC (i := 22) (v := .bool false) rfl (by kernel_rfl) (by kernel_rfl) (by kernel_rfl) (fun _ _ _ h => h) (Or.inl ⟨by rfl, fun W hW => by go_simp⟩) hS0 ?_
  simp only [Act.put, List.setIfInBounds_toArray, List.set_cons_zero, List.set_cons_succ]
  refine takeC (i := 23) (v := .bool true) rfl (by kernel_rfl) (by kernel_rfl) (by kernel_rfl) (fun _ _ _ h => h) (Or.inl ⟨by rfl, fun W hW => by go_simp⟩) hS0 ?_
  simp only [Act.put, List.setIfInBounds_toArray, List.set_cons_zero, List.set_cons_succ]
  refine takeC (i := 24) (v := .bool false) rfl (by kernel_rfl) (by kernel_rfl) (by kernel_rfl) (fun _ _ _ h => h) (Or.inl ⟨by rfl, fun W hW => by go_simp⟩) hS0 ?_
  simp only [Act.put, List.setIfInBounds_toArray, List.set_cons_zero, List.set_cons_succ]
  refine takeC (i := 25) (v := .bool false) rfl (by kernel_rfl) (by kernel_rfl) (by kernel_rfl) (fun _ _ _ h => h) (Or.inl ⟨by rfl, fun W hW => by go_simp⟩) hS0 ?_
  simp only [Act.put, List.setIfInBounds_toArray, List.set_cons_zero, List.set_cons_succ]
  refine takeC (i := 26) (v := .bool false) rfl (by kernel_rfl) (by kernel_rfl) (by kernel_rfl) (fun _ _ _ h => h) (Or.inl ⟨by rfl, fun W hW => by go_simp⟩) hS0 ?_
  simp only [Act.put, List.setIfInBounds_toArray, List.set_cons_zero, List.set_cons_succ]
  refine takeC (i := 27) (v := .int .i64 ep) rfl (by kernel_rfl) (by kernel_rfl) (by kernel_rfl) (fun _ _ _ h => h) (Or.inl ⟨by rfl, fun W hW => by go_simp⟩) hS0 ?_
  simp only [Act.put, List.setIfInBounds_toArray, List.set_cons_zero, List.set_cons_succ]
  refine takeC (i := 28) (v := .int .i64 ep) rfl (by kernel_rfl) (by kernel_rfl) (by kernel_rfl) (fun _ _ _ h => h) (Or.inl ⟨by rfl, fun W hW => by go_simp⟩) hS0 ?_
  simp only [Act.put, List.setIfInBounds_toArray, List.set_cons_zero, List.set_cons_succ]
  refine takeC (i := 29) (v := .bool false) rfl (by kernel_rfl) (by kernel_rfl) (by kernel_rfl) (fun _ _ _ h => h) (Or.inl ⟨by rfl, fun W hW => by go_simp⟩) hS0 ?_
  simp only [Act.put, List.setIfInBounds_toArray, List.set_cons_zero, List.set_cons_succ]
  refine takeC (i := 30) (v := .bool false) rfl (by kernel_rfl) (by kernel_rfl) (by kernel_rfl) (fun _ _ _ h => h) (Or.inl ⟨by rfl, fun W hW => by go_simp⟩) hS0 ?_
  simp only [Act.put, List.setIfInBounds_toArray, List.set_cons_zero, List.set_cons_succ]
  refine takeC (i := 31) (v := .bool false) rfl (by kernel_rfl) (by kernel_rfl) (by kernel_rfl) (fun _ _ _ h => h) (Or.inl ⟨by rfl, fun W hW => by go_simp⟩) hS0 ?_
  simp only [Act.put, List.setIfInBounds_toArray, List.set_cons_zero, List.set_cons_succ]
  refine takeC (i := 32) (v := .int .i64 ep) rfl (by kernel_rfl) (by kernel_rfl) (by kernel_rfl) (fun _ _ _ h => h) (Or.inl ⟨by rfl, fun W hW => by go_simp⟩) hS0 ?_
  simp only [Act.put, List.setIfInBounds_toArray, List.set_cons_zero, List.set_cons_succ]
  refine takeC (i := 33) (v := .int .i64 ep) rfl (by kernel_rfl) (by kernel_rfl) (by kernel_rfl) (fun _ _ _ h => h) (Or.inl ⟨by rfl, fun W hW => by go_simp⟩) hS0 ?_
  simp only [Act.put, List.setIfInBounds_toArray, List.set_cons_zero, List.set_cons_succ]
  refine takeC (i := 34) (v := .bool false) rfl (by kernel_rfl) (by kernel_rfl) (by kernel_rfl) (fun _ _ _ h => h) (Or.inl ⟨by rfl, fun W hW => by go_simp⟩) hS0 ?_
  simp only [Act.put, List.setIfInBounds_toArray, List.set_cons_zero, List.set_cons_succ]
  refine takeC (i := 35) (v := .bool false) rfl (by kernel_rfl) (by kernel_rfl) (by kernel_rfl) (fun _ _ _ h => h) (Or.inl ⟨by rfl, fun W hW => by go_simp⟩) hS0 ?_
  simp only [Act.put, List.setIfInBounds_toArray, List.set_cons_zero, List.set_cons_succ]
  refine takeC (i := 36) (v := .bool false) rfl (by kernel_rfl) (by kernel_rfl) (by kernel_rfl) (fun _ _ _ h => h) (Or.inl ⟨by rfl, fun W hW => by go_simp⟩) hS0 ?_
  simp only [Act.put, List.setIfInBounds_toArray, List.set_cons_zero, List.set_cons_succ]
  refine takeC (i := 37) (v := .int .i64 em) rfl (by kernel_rfl) (by kernel_rfl) (by kernel_rfl) (fun _ _ _ h => h) (Or.inl ⟨by rfl, fun W hW => by go_simp⟩) hS0 ?_
  simp only [Act.put, List.setIfInBounds_toArray, List.set_cons_zero, List.set_cons_succ]
  refine takeC (i := 38) (v := .int .i64 em) rfl (by kernel_rfl) (by kernel_rfl) (by kernel_rfl) (fun _ _ _ h => h) (Or.inl ⟨by rfl, fun W hW => by go_simp⟩) hS0 ?_
  simp only [Act.put, List.setIfInBounds_toArray, List.set_cons_zero, List.set_cons_succ]
  refine takeC (i := 39) (v := .bool false) rfl (by kernel_rfl) (by kernel_rfl) (by kernel_rfl) (fun _ _ _ h => h) (Or.inl ⟨by rfl, fun W hW => by go_simp⟩) hS0 ?_
  simp only [Act.put, List.setIfInBounds_toArray, List.set_cons_zero, List.set_cons_succ]
  refine takeC (i := 40) (v := .bool false) rfl (by kernel_rfl) (by kernel_rfl) (by kernel_rfl) (fun _ _ _ h => h) (Or.inl ⟨by rfl, fun W hW => by go_simp⟩) hS0 ?_
  simp only [Act.put, List.setIfInBounds_toArray, List.set_cons_zero, List.set_cons_succ]
  refine takeC (i := 41) (v := .bool false) rfl (by kernel_rfl) (by kernel_rfl) (by kernel_rfl) (fun _ _ _ h => h) (Or.inl ⟨by rfl, fun W hW => by go_simp⟩) hS0 ?_
  simp only [Act.put, List.setIfInBounds_toArray, List.set_cons_zero, List.set_cons_succ]
  refine takeC (i := 42) (v := .int .i64 em) rfl (by kernel_rfl) (by kernel_rfl) (by kernel_rfl) (fun _ _ _ h => h) (Or.inl ⟨by rfl, fun W hW => by go_simp⟩) hS0 ?_
  simp only [Act.put, List.setIfInBounds_toArray, List.set_cons_zero, List.set_cons_succ]
  refine takeC (i := 43) (v := .int .i64 em) rfl (by kernel_rfl) (by kernel_rfl) (by kernel_rfl) (fun _ _ _ h => h) (Or.inl ⟨by rfl, fun W hW => by go_simp⟩) hS0 ?_
  simp only [Act.put, List.setIfInBounds_toArray, List.set_cons_zero, List.set_cons_succ]
  refine takeC (i := 44) (v := .bool false) rfl (by kernel_rfl) (by kernel_rfl) (by kernel_rfl) (fun _ _ _ h => h) (Or.inl ⟨by rfl, fun W hW => by go_simp⟩) hS0 ?_
  simp only [Act.put, List.setIfInBounds_toArray, List.set_cons_zero, List.set_cons_succ]
  refine takeC (i := 45) (v := .bool false) rfl (by kernel_rfl) (by kernel_rfl) (by kernel_rfl) (fun _ _ _ h => h) (Or.inl ⟨by rfl, fun W hW => by go_simp⟩) hS0 ?_
  simp only [Act.put, List.setIfInBounds_toArray, List.set_cons_zero, List.set_cons_succ]
  refine takeC (i := 46) (v := .bool false) rfl (by kernel_rfl) (by kernel_rfl) (by kernel_rfl) (fun _ _ _ h => h) (Or.inl ⟨by rfl, fun W hW => by go_simp⟩) hS0 ?_
  simp only [Act.put, List.setIfInBounds_toArray, List.set_cons_zero, List.set_cons_succ]
  refine takeC (i := 47) (v := .pointer (some ⟨w.heap.size + 1, 4, none⟩)) rfl (by kernel_rfl) (by kernel_rfl) (by kernel_rfl) (fun _ _ _ h => h) (Or.inl ⟨by rfl, fun W hW => by go_simp⟩) hS0 ?_
  simp only [Act.put, List.setIfInBounds_toArray, List.set_cons_zero, List.set_cons_succ]
  refine takeC (i := 48) (v := .agg [.int .u64 a4, .int .u64 a5].toArray) rfl (by kernel_rfl) (by kernel_rfl) (by kernel_rfl) (fun _ _ _ h => h) (yieldsIf_load_mid (by rfl) 36 _ rfl (w.heap.size + 1) 4 rfl [.int .u64 a4, .int .u64 a5] _ (fun W hW => range2 (F.out.xa.below hW F.out.xa.lt) 4 rfl rfl) Tryz.underlying36 rfl (by kernel_rfl)) hS0 ?_
  simp only [Act.put, List.setIfInBounds_toArray, List.set_cons_zero, List.set_cons_succ]
  refine takeC (i := 50) (v := .pointer (some ⟨w.heap.size + 1, 4, none⟩)) rfl (by kernel_rfl) (by kernel_rfl) (by kernel_rfl) (fun _ _ _ h => h) (Or.inl ⟨by rfl, fun W hW => by go_simp⟩) hS0 ?_
  simp only [Act.put, List.setIfInBounds_toArray, List.set_cons_zero, List.set_cons_succ]
  refine takeC (i := 51) (v := .agg [.int .u64 a4, .int .u64 a5].toArray) rfl (by kernel_rfl) (by kernel_rfl) (by kernel_rfl) (fun _ _ _ h => h) (yieldsIf_load_mid (by rfl) 36 _ rfl (w.heap.size + 1) 4 rfl [.int .u64 a4, .int .u64 a5] _ (fun W hW => range2 (F.out.xa.below hW F.out.xa.lt) 4 rfl rfl) Tryz.underlying36 rfl (by kernel_rfl)) hS0 ?_
  simp only [Act.put, List.setIfInBounds_toArray, List.set_cons_zero, List.set_cons_succ]
  refine onlyC (i := 49) rfl (by kernel_rfl) (fun K hK => ?_)
  go_simp
  go_at_call 20
  (with_reducible refine (CP.out _).mono ?_)
  rintro x v0 ⟨rfl, bq⟩
  have hS1 : Below w18.heap.size w18 v0 := hS0.trans (bq.mono hS0.size)
  refine hK _ _ ⟨hS1, ?_⟩
  clear hK K bq
  refine onlyC (i := 52) rfl (by kernel_rfl) (fun K hK => ?_)
  go_simp
  go_at_call 21
  (with_reducible refine (CR.out _).mono ?_)
  rintro x v1 ⟨rfl, bq⟩
  have hS2 : Below w18.heap.size w18 v1 := hS1.trans (bq.mono hS1.size)
  refine hK _ _ ⟨hS2, ?_⟩
  clear hK K bq
  refine takeC (i := 53) (v := .bool false) rfl (by kernel_rfl) (by kernel_rfl) (by kernel_rfl) (fun _ _ _ h => h) (Or.inl ⟨by rfl, fun W hW => by go_simp⟩) hS2 ?_
  simp only [Act.put, List.setIfInBounds_toArray, List.set_cons_zero, List.set_cons_succ]
  refine takeC (i := 54) (v := .bool false) rfl (by kernel_rfl) (by kernel_rfl) (by kernel_rfl) (fun _ _ _ h => h) (Or.inl ⟨by rfl, fun W hW => by go_simp⟩) hS2 ?_
  simp only [Act.put, List.setIfInBounds_toArray, List.set_cons_zero, List.set_cons_succ]
  refine wpAnyH_done (by kernel_rfl) ?_ _
  have ST : Hid (SS w v1 (calL c) [.int .u64 a0, .int .u64 a1, .int .u64 a2, .int .u64 a3, .int .u64 a4, .int .u64 a5, .slice aa na pa] [.int .u64 b0, .int .u64 b1, .int .u64 b2, .int .u64 b3, .int .u64 b4, .int .u64 b5, .slice ba nb pb] aa ba na nb la lb (w2.heap.size) (w3.heap.size) gx gy [.int .u64 a0, .int .u64 a1, .int .u64 a2, .int .u64 a3, .int .u64 a4, .int .u64 a5, .slice (some ⟨gx, 0, none⟩) na ma] [.int .u64 b0, .int .u64 b1, .int .u64 b2, .int .u64 b3, .int .u64 b4, .int .u64 b5, .slice (some ⟨gy, 0, none⟩) nb mb] ma mb LX LY (w4.heap.size) (w5.heap.size) (w6.heap.size) (w7.heap.size) (w8.heap.size) (w9.heap.size) [.int .u64 o0, .int .u64 o1, .int .u64 o2, .int .u64 o3, .int .u64 o4, .int .u64 o5, .slice oOne nOne pOne] [.int .u64 o0, .int .u64 o1, .int .u64 o2, .int .u64 o3, .int .u64 o4, .int .u64 o5, .slice oTwo nTwo pTwo] [.int .u64 p0, .int .u64 p1, .int .u64 p2, .int .u64 p3, .int .u64 p4, .int .u64 p5, .slice oSa nSa pSa] [.int .u64 m0, .int .u64 m1, .int .u64 m2, .int .u64 m3, .int .u64 m4, .int .u64 m5, .slice oDa nDa pDa] [.int .u64 p0, .int .u64 p1, .int .u64 p2, .int .u64 p3, .int .u64 p4, .int .u64 p5, .slice oSb nSb pSb] [.int .u64 m0, .int .u64 m1, .int .u64 m2, .int .u64 m3, .int .u64 m4, .int .u64 m5, .slice oDb nDb pDb] lo [.slice oOne nOne pOne, .slice oTwo nTwo pTwo, .slice oSa nSa pSa, .slice oDa nDa pDa, .slice oSb nSb pSb, .slice oDb nDb pDb]) := SS.mk (QS.below F.out hS2) (Blk.below X.out.x hS2 X.out.x.lt) (Blk.below Y.out.x hS2 Y.out.x.lt) (RowB.below X.out.r hS2) (RowB.below Y.out.r hS2) (Blk.below One.out.blk hS2 One.out.blk.lt) (Blk.below Two.out.blk hS2 Two.out.blk.lt) (Blk.below Sa.out.blk hS2 Sa.out.blk.lt) (Blk.below Da.out.blk hS2 Da.out.blk.lt) (Blk.below Sb.out.blk hS2 Sb.out.blk.lt) (Blk.below Db.out.blk hS2 Db.out.blk.lt) (ChainB.below HCH.out hS2)
  clear F X Y One Two Sa Da Sb Db Sr Dr Rn HCH hS0 hS1 hS2 ON OR OS PL PR ML MR PS MS CP CR
  have HGN : Hid (gx ≠ w.heap.size ∧ gx ≠ w.heap.size + 1 ∧ gx ≠ w.heap.size + 1 + 1 ∧ gx ≠ w2.heap.size ∧ gx ≠ w3.heap.size ∧ gx ≠ gy ∧ gx < lo ∧ w.heap.size ≤ gx ∧ (∀ a, aa = some a → a.block < w.heap.size) ∧ (∀ a, ba = some a → a.block < w.heap.size) ∧ lo ≤ w4.heap.size ∧ lo ≤ w5.heap.size ∧ lo ≤ w6.heap.size ∧ lo ≤ w7.heap.size ∧ lo ≤ w8.heap.size ∧ lo ≤ w9.heap.size) := ⟨by have := HG.out; omega, by have := HG.out; omega, by have := HG.out; omega, by have := HG.out; omega, by have := HG.out; omega, by have := HG.out; omega, by have := HG.out; omega, by have := HG.out; omega, HAB.out.1, HAB.out.2, HLw4.out, HLw5.out, HLw6.out, HLw7.out, HLw8.out, HLw9.out⟩
  clear HLw4 HLw5 HLw6 HLw7 HLw8 HLw9
  have qa : v1.cell? ⟨w.heap.size + 1, 6, none⟩ = some (.slice aa na pa) := ST.out.qs.xa.cell 6 rfl
  go_wp2_with (first
    | (go_at_call 22; (with_reducible refine (KA.out _ ST.out.rx ST.out.qs.ia).mono ?_); clear KA qa; rintro x v2 ⟨rfl, bq⟩; have S1 : Hid _ := SS.below ST.out bq; clear ST; have ST := S1; clear S1 bq; have qb : v2.cell? ⟨w.heap.size + 1 + 1, 6, none⟩ = some (.slice ba nb pb) := ST.out.qs.xb.cell 6 rfl)
    | (go_at_call 22; (with_reducible refine (KB.out _ ST.out.ry ST.out.qs.ib).mono ?_); clear KB qb; rintro x v3 ⟨rfl, bq⟩; have S1 : Hid _ := SS.below ST.out bq; clear ST; have ST := S1; clear S1 bq))
  go_loopw [35] (fun t wr => ∃ (i : Nat) (L : List (Int × Int)), t = .int .i64 i ∧ i ≤ na ∧ Hid (SS w wr (calL c) [.int .u64 a0, .int .u64 a1, .int .u64 a2, .int .u64 a3, .int .u64 a4, .int .u64 a5, .slice aa na pa] [.int .u64 b0, .int .u64 b1, .int .u64 b2, .int .u64 b3, .int .u64 b4, .int .u64 b5, .slice ba nb pb] aa ba na nb la lb (w2.heap.size) (w3.heap.size) gx gy [.int .u64 a0, .int .u64 a1, .int .u64 a2, .int .u64 a3, .int .u64 a4, .int .u64 a5, .slice (some ⟨gx, 0, none⟩) na ma] [.int .u64 b0, .int .u64 b1, .int .u64 b2, .int .u64 b3, .int .u64 b4, .int .u64 b5, .slice (some ⟨gy, 0, none⟩) nb mb] ma mb L LY (w4.heap.size) (w5.heap.size) (w6.heap.size) (w7.heap.size) (w8.heap.size) (w9.heap.size) [.int .u64 o0, .int .u64 o1, .int .u64 o2, .int .u64 o3, .int .u64 o4, .int .u64 o5, .slice oOne nOne pOne] [.int .u64 o0, .int .u64 o1, .int .u64 o2, .int .u64 o3, .int .u64 o4, .int .u64 o5, .slice oTwo nTwo pTwo] [.int .u64 p0, .int .u64 p1, .int .u64 p2, .int .u64 p3, .int .u64 p4, .int .u64 p5, .slice oSa nSa pSa] [.int .u64 m0, .int .u64 m1, .int .u64 m2, .int .u64 m3, .int .u64 m4, .int .u64 m5, .slice oDa nDa pDa] [.int .u64 p0, .int .u64 p1, .int .u64 p2, .int .u64 p3, .int .u64 p4, .int .u64 p5, .slice oSb nSb pSb] [.int .u64 m0, .int .u64 m1, .int .u64 m2, .int .u64 m3, .int .u64 m4, .int .u64 m5, .slice oDb nDb pDb] lo [.slice oOne nOne pOne, .slice oTwo nTwo pTwo, .slice oSa nSa pSa, .slice oDa nDa pDa, .slice oSb nSb pSb, .slice oDb nDb pDb]) ∧ Hid (Bin L)) (fun t _ => na - (intOf t).toNat)
  case atStart => exact ⟨0, LX, rfl, Nat.zero_le _, ST, HBX⟩
  case round =>
    obtain ⟨i, L, rfl, hi, SL, HBL⟩ := hrel
    clear ST
    have qa : wr.cell? ⟨w.heap.size + 1, 6, none⟩ = some (.slice aa na pa) := SL.out.qs.xa.cell 6 rfl
    by_cases hlt : i < na
    · have hiL : i < L.length := by rw [SL.out.rx.len]; have := HN3.out.1; omega
      have hlt' : (i : Int) < (na : Int) := by omega
      have hix : (i : Int) < (ma : Int) := by have := HN3.out.1; omega
      have q4 : wr.cell? ⟨gx, i * 2 + 1, none⟩ = some (.int .u64 L[i].2) := SL.out.rx.cells i hiL 1 _ rfl
      have q5 : wr.frozen? ⟨gx, i * 2 + 1, none⟩ = false := by have := (SL.out.rx.room (i * 2 + 1) (by rw [← SL.out.rx.len]; omega)).2; rw [Nat.zero_add] at this; exact this
      have HSK : Hid (∀ t : Int, _) := fun t => RowB.setK SL.out.rx i hiL t
      have HBS : Hid (∀ t : Int, 0 ≤ t → t ≤ 18446744073709551615 → Bin (L.set i (L[i].1, t))) := fun t h1 h2 => bin_set HBL.out i hiL h1 h2
      generalize L[i].2 = tk at q4
      go_wp2
      go_roundw
      case rel => exact ⟨i + 1, _, by go_num, by omega, SS.turn SL.out (HSK.out _).1 (HSK.out _).2 HGN.out, HBS.out _ (wrap_lo _) (wrap_hi _)⟩
      case measure => simp [intOf]; omega
    · obtain rfl : na = i := by omega
      have ST : Hid _ := SL
      obtain ⟨Wz, hWz⟩ : ∃ Wz, wr = Wz := ⟨_, rfl⟩
      rw [hWz] at ST qa ⊢
      clear hWz SL
      go_wp2
      obtain ⟨r0, r1, r2, r3, r4, r5, FR, er, RL, RR, RS⟩ := UP.out (L.take na)
      obtain ⟨s0, s1, s2, s3, s4, s5, FSs, es, NL, NR, NS⟩ := UM.out (L.take na)
      have RLh : Hid _ := RL
      have RRh : Hid _ := RR
      have RSh : Hid _ := RS
      have NLh : Hid _ := NL
      have NRh : Hid _ := NR
      have NSh : Hid _ := NS
      clear RL RR RS NL NR NS
      have RL := RLh
      have RR := RRh
      have RS := RSh
      have NL := NLh
      have NR := NRh
      have NS := NSh
      clear RLh RRh RSh NLh NRh NSh
      have hS0 : Below Wz.heap.size Wz Wz.drew := (Below.refl _ _).drew
      refine wp_region_held (S := fun V => Below Wz.heap.size Wz V) (by kernel_rfl) ?_
      change wpAnyH _ _ _ _ _ _ _ _ (World.drew Wz)
      generalize World.drew Wz = Wd at hS0 ⊢
      refine takeC (i := 0) (v := .pointer (some ⟨w.heap.size + 1, 0, none⟩)) rfl (by kernel_rfl) (by kernel_rfl) (by kernel_rfl) (fun _ _ _ h => h) (Or.inl ⟨by rfl, fun W hW => by go_simp⟩) hS0 ?_
      simp only [Act.put, List.setIfInBounds_toArray, List.set_cons_zero, List.set_cons_succ]
      refine takeC (i := 1) (v := .agg [.int .u64 a0, .int .u64 a1].toArray) rfl (by kernel_rfl) (by kernel_rfl) (by kernel_rfl) (fun _ _ _ h => h) (yieldsIf_load_mid (by rfl) 36 _ rfl (w.heap.size + 1) 0 rfl [.int .u64 a0, .int .u64 a1] _ (fun W hW => range2 (ST.out.qs.xa.below hW ST.out.qs.xa.lt) 0 rfl rfl) Tryz.underlying36 rfl (by kernel_rfl)) hS0 ?_
      simp only [Act.put, List.setIfInBounds_toArray, List.set_cons_zero, List.set_cons_succ]
      refine takeC (i := 2) (v := .pointer (some ⟨w.heap.size + 1, 2, none⟩)) rfl (by kernel_rfl) (by kernel_rfl) (by kernel_rfl) (fun _ _ _ h => h) (Or.inl ⟨by rfl, fun W hW => by go_simp⟩) hS0 ?_
      simp only [Act.put, List.setIfInBounds_toArray, List.set_cons_zero, List.set_cons_succ]
      refine takeC (i := 3) (v := .agg [.int .u64 a2, .int .u64 a3].toArray) rfl (by kernel_rfl) (by kernel_rfl) (by kernel_rfl) (fun _ _ _ h => h) (yieldsIf_load_mid (by rfl) 36 _ rfl (w.heap.size + 1) 2 rfl [.int .u64 a2, .int .u64 a3] _ (fun W hW => range2 (ST.out.qs.xa.below hW ST.out.qs.xa.lt) 2 rfl rfl) Tryz.underlying36 rfl (by kernel_rfl)) hS0 ?_
      simp only [Act.put, List.setIfInBounds_toArray, List.set_cons_zero, List.set_cons_succ]
      refine takeC (i := 4) (v := .pointer (some ⟨w.heap.size + 1, 4, none⟩)) rfl (by kernel_rfl) (by kernel_rfl) (by kernel_rfl) (fun _ _ _ h => h) (Or.inl ⟨by rfl, fun W hW => by go_simp⟩) hS0 ?_
      simp only [Act.put, List.setIfInBounds_toArray, List.set_cons_zero, List.set_cons_succ]
      refine takeC (i := 5) (v := .agg [.int .u64 a4, .int .u64 a5].toArray) rfl (by kernel_rfl) (by kernel_rfl) (by kernel_rfl) (fun _ _ _ h => h) (yieldsIf_load_mid (by rfl) 36 _ rfl (w.heap.size + 1) 4 rfl [.int .u64 a4, .int .u64 a5] _ (fun W hW => range2 (ST.out.qs.xa.below hW ST.out.qs.xa.lt) 4 rfl rfl) Tryz.underlying36 rfl (by kernel_rfl)) hS0 ?_
      simp only [Act.put, List.setIfInBounds_toArray, List.set_cons_zero, List.set_cons_succ]
      refine takeC (i := 7) (v := .slice (some ⟨gx, 0, none⟩) ma ma) rfl (by kernel_rfl) (by kernel_rfl) (by kernel_rfl) (fun _ _ _ h => h) (Or.inl ⟨by rfl, fun W hW => by go_simp⟩) hS0 ?_
      simp only [Act.put, List.setIfInBounds_toArray, List.set_cons_zero, List.set_cons_succ]
      refine takeC (i := 8) (v := .pointer (some ⟨w.heap.size + 1, 6, none⟩)) rfl (by kernel_rfl) (by kernel_rfl) (by kernel_rfl) (fun _ _ _ h => h) (Or.inl ⟨by rfl, fun W hW => by go_simp⟩) hS0 ?_
      simp only [Act.put, List.setIfInBounds_toArray, List.set_cons_zero, List.set_cons_succ]
      refine takeC (i := 9) (v := .slice aa na pa) rfl (by kernel_rfl) (by kernel_rfl) (by kernel_rfl) (fun _ _ _ h => h) (Or.inl ⟨by rfl, fun W hW => by have hq := (ST.out.qs.xa.below hW ST.out.qs.xa.lt).cell 6 (v := .slice aa na pa) rfl; go_simp⟩) hS0 ?_
      simp only [Act.put, List.setIfInBounds_toArray, List.set_cons_zero, List.set_cons_succ]
      refine takeC (i := 10) (v := .int .i64 (na : Int)) rfl (by kernel_rfl) (by kernel_rfl) (by kernel_rfl) (fun _ _ _ h => h) (Or.inl ⟨by rfl, fun W hW => by go_simp⟩) hS0 ?_
      simp only [Act.put, List.setIfInBounds_toArray, List.set_cons_zero, List.set_cons_succ]
      refine takeC (i := 11) (v := .slice (some ⟨gx, 0, none⟩) na ma) rfl (by kernel_rfl) (by kernel_rfl) (by kernel_rfl) (fun _ _ _ h => h) (Or.inl ⟨by rfl, fun W hW => by go_simp⟩) hS0 ?_
      simp only [Act.put, List.setIfInBounds_toArray, List.set_cons_zero, List.set_cons_succ]
      refine twoC (i := 6) (j := 14) rfl rfl (by kernel_rfl) (fun K hK => ?_) (fun K hK => ?_)
      · go_simp
        generalize hw1 : World.alloc Wd (.cells #[] 50) = u1
        have bw1 : Below (World.heap Wd).size Wd u1 := by rw [← hw1]; exact (Below.refl _ _).alloc (Nat.le_refl _) _
        have z1 : (World.heap Wd).size < (World.heap u1).size := by rw [← hw1]; simp
        have hT1 : Below Wz.heap.size Wz u1 := hS0.trans (bw1.mono hS0.size)
        have HO1 : OwnBar Wz.heap.size u1 (.slice (some ⟨(World.heap Wd).size, 0, none⟩) 0 0) [] := by rw [← hw1]; exact ⟨rfl, Or.inr ⟨(World.heap Wd).size, 0, #[], rfl, hS0.size, heap_alloc_new Wd _, Nat.le_refl _, Nat.zero_le _, rfl, rfl⟩⟩
        clear hw1
        refine hK _ _ ⟨hT1, ?_⟩
        clear hK K
        refine twoC (i := 12) (j := 14) rfl rfl (by kernel_rfl) (fun K hK => ?_) (fun K hK => ?_)
        · refine step_app0B (by rfl) _ _ (by rfl) Wz.heap.size ((World.heap Wd).size) (some ⟨gx, 0, none⟩) na ma (L.take na) (by rfl) (by rfl) HO1 (RowB.front (RowB.below ST.out.rx hT1) na (by have := HN3.out.1; omega)) za hT1.size ?_
          intro vv u2 HO2 up2 mv2
          obtain ⟨oo, on, oc, rfl⟩ := row_shape HO2
          obtain rfl : na = on := ((own_cap HO2).1.trans (by rw [List.length_take, ST.out.rx.len]; have := HN3.out.1; omega)).symm
          have hT2 : Below Wz.heap.size Wz u2 := hT1.trans (up2.below hT1.size (fun k hk e => by have h9 := hS0.size; omega))
          refine hK _ _ ⟨hT2, ?_⟩
          clear hK K
          refine takeC (i := 13) (v := .agg [.int .u64 a0, .int .u64 a1, .int .u64 a2, .int .u64 a3, .int .u64 a4, .int .u64 a5, .slice oo na oc].toArray) rfl (by kernel_rfl) (by kernel_rfl) (by kernel_rfl) (fun _ _ _ h => h) (Or.inl ⟨by rfl, fun W hW => by go_simp; first | done | rfl⟩) hT2 ?_
          simp only [Act.put, List.setIfInBounds_toArray, List.set_cons_zero, List.set_cons_succ]
          refine onlyC (i := 14) rfl (by kernel_rfl) (fun K hK => ?_)
          go_simp
          generalize hw3 : World.alloc u2 (.cells ([.int .u64 0, .int .u64 0, .int .u64 0, .int .u64 0, .int .u64 0, .int .u64 0, .slice none 0 0] : List Value).toArray 39) = u3
          have bw3 : Below (World.heap u2).size u2 u3 := by rw [← hw3]; exact (Below.refl _ _).alloc (Nat.le_refl _) _
          have z3 : (World.heap u2).size < (World.heap u3).size := by rw [← hw3]; simp
          have hT3 : Below Wz.heap.size Wz u3 := hT2.trans (bw3.mono hT2.size)
          have HA3 : Blk u3 (World.heap u2).size ([.int .u64 0, .int .u64 0, .int .u64 0, .int .u64 0, .int .u64 0, .int .u64 0, .slice none 0 0] : List Value).toArray 39 := by rw [← hw3]; exact Blk.new _ _ _
          clear hw3
          refine hK _ _ ⟨hT3, ?_⟩
          clear hK K
          refine onlyC (i := 15) rfl (by kernel_rfl) (fun K hK => ?_)
          refine step_stW (by rfl) 39 _ _ (by rfl) ((World.heap u2).size) ([.int .u64 0, .int .u64 0, .int .u64 0, .int .u64 0, .int .u64 0, .int .u64 0, .slice none 0 0] : List Value) ([.int .u64 a0, .int .u64 a1, .int .u64 a2, .int .u64 a3, .int .u64 a4, .int .u64 a5, .slice oo na oc]) 39 HA3 (by rfl) (by rfl) (by rfl) (by kernel_rfl) (tal_one _ _ _ _ _ _ _ _ _) ?_
          intro ve nE uE
          have hSe : Below Wz.heap.size Wz ve := hT3.trans (uE.below hT3.size (fun k hk e => by have := hT2.size; omega))
          refine hK _ _ ⟨hSe, ?_⟩
          clear hK K
          (try simp only [Act.put])
          refine wpAnyH_done (by kernel_rfl) ?_ _
          have HOe : OwnBar Wz.heap.size ve (.slice oo na oc) (L.take na) := ownsRow_upd (OwnBar.below HO2 bw3) uE (fun k hk e => by have := OwnBar.ltB HO2 k hk; omega)
          have OQ : Hid (QO ve ((World.heap u2).size) [.int .u64 a0, .int .u64 a1, .int .u64 a2, .int .u64 a3, .int .u64 a4, .int .u64 a5, .slice oo na oc] oo na (L.take na)) := QO.mk nE (inOwn HOe (bin_take HBL.out na) HN3.out.2.2.1)
          have S1 : Hid _ := SS.below ST.out hSe
          clear ST
          have ST := S1
          clear S1 HOe nE
          have HCH : Hid (ChainB ve lo ve.heap.size [.slice oOne nOne pOne, .slice oTwo nTwo pTwo, .slice oSa nSa pSa, .slice oDa nDa pDa, .slice oSb nSb pSb, .slice oDb nDb pDb]) := ST.out.ch
          obtain ⟨bo, hbo⟩ : ∃ z, (World.heap u2).size = z := ⟨_, rfl⟩
          rw [hbo] at OQ ⊢
          clear hbo
          clear qa hS0 hT1 hT2 hT3 uE hSe HO1 HO2 HA3 bw1 bw3 z1 z3 up2 mv2
          go_wp2_with (first
            | (go_at_call 14; (with_reducible refine (RL.out _ _ _ _ _ _ _ (SS.inx ST.out HBL.out HN3.out) (SS.iny ST.out HY.out)).mono ?_); clear RL; rintro x w61 ⟨oOa, nOa, pOa, rfl, SOa, OOa, bq⟩; have C1 : Hid _ := ChainB.more HCH.out bq OOa.out; clear HCH; have HCH := C1; clear C1; have HLw61 : Hid (lo ≤ w61.heap.size) := ChainB.le HCH.out; have F1 : Hid _ := SS.below ST.out bq; clear ST; have ST := F1; clear F1; have F1 : Hid _ := QO.below OQ.out bq; clear OQ; have OQ := F1; clear F1; clear bq)
            | (go_at_call 15; (refine (NL.out _ _ _ _ _ _ _ (SS.inx (SS.below ST.out ((Below.refl _ _).alloc (Nat.le_refl _) _)) HBL.out HN3.out) (SS.iny (SS.below ST.out ((Below.refl _ _).alloc (Nat.le_refl _) _)) HY.out)).mono ?_); clear NL; rintro x w62 ⟨oNa, nNa, pNa, rfl, SNa, ONa, bq⟩; have MM : Below w61.heap.size w61 w62 := ((Below.refl _ _).alloc (Nat.le_refl _) _).trans (bq.mono (by simp)); have C1 : Hid _ := ChainB.more (ChainB.below HCH.out ((Below.refl _ _).alloc (Nat.le_refl _) _)) bq ONa.out; clear HCH; have HCH := C1; clear C1; have HLw62 : Hid (lo ≤ w62.heap.size) := ChainB.le HCH.out; have F1 : Hid _ := SS.below ST.out MM; clear ST; have ST := F1; clear F1; have F1 : Hid _ := QO.below OQ.out MM; clear OQ; have OQ := F1; clear F1; have Oa : Hid _ := TU.mk (Blk.below (Blk.new _ _ _) bq (by simp)) (SkAt.below SOa.out MM); clear MM; clear bq)
            | (go_at_call 16; (refine (RR.out _ _ _ _ _ _ _ (QO.below OQ.out ((Below.refl _ _).alloc (Nat.le_refl _) _)).inn (SS.below ST.out ((Below.refl _ _).alloc (Nat.le_refl _) _)).qs.ib).mono ?_); clear RR; rintro x w63 ⟨oOb, nOb, pOb, rfl, SOb, OOb, bq⟩; have MM : Below w62.heap.size w62 w63 := ((Below.refl _ _).alloc (Nat.le_refl _) _).trans (bq.mono (by simp)); have C1 : Hid _ := ChainB.below HCH.out MM; clear HCH; have HCH := C1; clear C1; have F1 : Hid _ := SS.below ST.out MM; clear ST; have ST := F1; clear F1; have F1 : Hid _ := QO.below OQ.out MM; clear OQ; have OQ := F1; clear F1; have F1 : Hid _ := TU.below Oa.out MM; clear Oa; have Oa := F1; clear F1; have Na : Hid _ := TU.mk (Blk.below (Blk.new _ _ _) bq (by simp)) (SkAt.below SNa.out MM); clear MM; clear bq)
            | (go_at_call 17; (refine (NR.out _ _ _ _ _ _ _ (QO.below OQ.out ((Below.refl _ _).alloc (Nat.le_refl _) _)).inn (SS.below ST.out ((Below.refl _ _).alloc (Nat.le_refl _) _)).qs.ib).mono ?_); clear NR; rintro x w64 ⟨oNb, nNb, pNb, rfl, SNb, ONb, bq⟩; have MM : Below w63.heap.size w63 w64 := ((Below.refl _ _).alloc (Nat.le_refl _) _).trans (bq.mono (by simp)); have C1 : Hid _ := ChainB.below HCH.out MM; clear HCH; have HCH := C1; clear C1; have F1 : Hid _ := SS.below ST.out MM; clear ST; have ST := F1; clear F1; have F1 : Hid _ := QO.below OQ.out MM; clear OQ; have OQ := F1; clear F1; have F1 : Hid _ := TU.below Oa.out MM; clear Oa; have Oa := F1; clear F1; have F1 : Hid _ := TU.below Na.out MM; clear Na; have Na := F1; clear F1; have Ob : Hid _ := TU.mk (Blk.below (Blk.new _ _ _) bq (by simp)) (SkAt.below SOb.out MM); clear MM; clear bq)
            | (go_at_call 19; (refine (RS.out _ _ _ _ _ _ _ (TU.below Oa.out ((Below.refl _ _).alloc (Nat.le_refl _) _)).sk (TU.below Ob.out ((Below.refl _ _).alloc (Nat.le_refl _) _)).sk).mono ?_); clear RS; rintro x w65 ⟨rfl, bq⟩; have MM : Below w64.heap.size w64 w65 := ((Below.refl _ _).alloc (Nat.le_refl _) _).trans (bq.mono (by simp)); have C1 : Hid _ := ChainB.below HCH.out MM; clear HCH; have HCH := C1; clear C1; have F1 : Hid _ := SS.below ST.out MM; clear ST; have ST := F1; clear F1; have F1 : Hid _ := QO.below OQ.out MM; clear OQ; have OQ := F1; clear F1; have F1 : Hid _ := TU.below Oa.out MM; clear Oa; have Oa := F1; clear F1; have F1 : Hid _ := TU.below Na.out MM; clear Na; have Na := F1; clear F1; have F1 : Hid _ := TU.below Ob.out MM; clear Ob; have Ob := F1; clear F1; have Nb : Hid _ := TU.mk (Blk.below (Blk.new _ _ _) bq (by simp)) (SkAt.below SNb.out MM); clear MM; clear bq)
            | (go_at_call 19; (with_reducible refine (NS.out _ _ _ _ _ _ _ Na.out.sk Nb.out.sk).mono ?_); clear NS; rintro x w66 ⟨rfl, bq⟩; have C1 : Hid _ := ChainB.below HCH.out bq; clear HCH; have HCH := C1; clear C1; have F1 : Hid _ := SS.below ST.out bq; clear ST; have ST := F1; clear F1; have F1 : Hid _ := QO.below OQ.out bq; clear OQ; have OQ := F1; clear F1; have F1 : Hid _ := TU.below Oa.out bq; clear Oa; have Oa := F1; clear F1; have F1 : Hid _ := TU.below Na.out bq; clear Na; have Na := F1; clear F1; have F1 : Hid _ := TU.below Ob.out bq; clear Ob; have Ob := F1; clear F1; have F1 : Hid _ := TU.below Nb.out bq; clear Nb; have Nb := F1; clear F1; clear bq; have e0 : w66.cell? ⟨w4.heap.size, 6, none⟩ = some (.slice oOne nOne pOne) := ST.out.r1.cell 6 rfl; have e1 : w66.cell? ⟨w5.heap.size, 6, none⟩ = some (.slice oTwo nTwo pTwo) := ST.out.r2.cell 6 rfl; have e2 : w66.cell? ⟨w6.heap.size, 6, none⟩ = some (.slice oSa nSa pSa) := ST.out.r3.cell 6 rfl; have e3 : w66.cell? ⟨w7.heap.size, 6, none⟩ = some (.slice oDa nDa pDa) := ST.out.r4.cell 6 rfl; have e4 : w66.cell? ⟨w8.heap.size, 6, none⟩ = some (.slice oSb nSb pSb) := ST.out.r5.cell 6 rfl; have e5 : w66.cell? ⟨w9.heap.size, 6, none⟩ = some (.slice oDb nDb pDb) := ST.out.r6.cell 6 rfl; have e6 : w66.cell? ⟨w61.heap.size, 6, none⟩ = some (.slice oOa nOa pOa) := Oa.out.blk.cell 6 rfl; have e7 : w66.cell? ⟨w62.heap.size, 6, none⟩ = some (.slice oNa nNa pNa) := Na.out.blk.cell 6 rfl)
            | (go_at_call 23; have OC := ownB_chain [.slice oOne nOne pOne, .slice oTwo nTwo pTwo, .slice oSa nSa pSa, .slice oDa nDa pDa, .slice oSb nSb pSb, .slice oDb nDb pDb, .slice oOa nOa pOa, .slice oNa nNa pNa] lo w66 HCH.out (Nat.le_of_ble_eq_true rfl) 8 rfl; (with_reducible refine OC.mono ?_); clear OC; rintro x WE ⟨rfl, bq⟩; have HE : Hid (Below w.heap.size w WE) := (ST.out.qs.low.trans (((Below.refl w66.heap.size w66).alloc (Nat.le_refl _) _).mono ST.out.qs.low.size)).trans (bq.mono HLO.out); clear ST bq)
            | (refine wpList_load_mid rfl 39 _ rfl w2.heap.size 0 rfl [.int .u64 a0, .int .u64 a1, .int .u64 a2, .int .u64 a3, .int .u64 a4, .int .u64 a5, .slice (some ⟨gx, 0, none⟩) na ma] _ (range13C ST.out.x) Tryz.underlying39 rfl (by kernel_rfl) ?_)
            | (refine wpList_load_mid rfl 39 _ rfl w2.heap.size 0 rfl [.int .u64 a0, .int .u64 a1, .int .u64 a2, .int .u64 a3, .int .u64 a4, .int .u64 a5, .slice (some ⟨gx, 0, none⟩) na ma] _ (range13C (Blk.alloc ST.out.x _)) Tryz.underlying39 rfl (by kernel_rfl) ?_)
            | (refine wpList_load_mid rfl 39 _ rfl w3.heap.size 0 rfl [.int .u64 b0, .int .u64 b1, .int .u64 b2, .int .u64 b3, .int .u64 b4, .int .u64 b5, .slice (some ⟨gy, 0, none⟩) nb mb] _ (range13C ST.out.y) Tryz.underlying39 rfl (by kernel_rfl) ?_)
            | (refine wpList_load_mid rfl 39 _ rfl w3.heap.size 0 rfl [.int .u64 b0, .int .u64 b1, .int .u64 b2, .int .u64 b3, .int .u64 b4, .int .u64 b5, .slice (some ⟨gy, 0, none⟩) nb mb] _ (range13C (Blk.alloc ST.out.y _)) Tryz.underlying39 rfl (by kernel_rfl) ?_)
            | (refine wpList_load_mid rfl 39 _ rfl (w.heap.size + 1 + 1) 0 rfl [.int .u64 b0, .int .u64 b1, .int .u64 b2, .int .u64 b3, .int .u64 b4, .int .u64 b5, .slice ba nb pb] _ (range13C ST.out.qs.xb) Tryz.underlying39 rfl (by kernel_rfl) ?_)
            | (refine wpList_load_mid rfl 39 _ rfl (w.heap.size + 1 + 1) 0 rfl [.int .u64 b0, .int .u64 b1, .int .u64 b2, .int .u64 b3, .int .u64 b4, .int .u64 b5, .slice ba nb pb] _ (range13C (Blk.alloc ST.out.qs.xb _)) Tryz.underlying39 rfl (by kernel_rfl) ?_)
            | (refine wpList_load_mid rfl 39 _ rfl bo 0 rfl [.int .u64 a0, .int .u64 a1, .int .u64 a2, .int .u64 a3, .int .u64 a4, .int .u64 a5, .slice oo na oc] _ (range13C OQ.out.blk) Tryz.underlying39 rfl (by kernel_rfl) ?_)
            | (refine wpList_load_mid rfl 39 _ rfl bo 0 rfl [.int .u64 a0, .int .u64 a1, .int .u64 a2, .int .u64 a3, .int .u64 a4, .int .u64 a5, .slice oo na oc] _ (range13C (Blk.alloc OQ.out.blk _)) Tryz.underlying39 rfl (by kernel_rfl) ?_)
            | (refine wpList_load_mid rfl 39 _ rfl w61.heap.size 0 rfl [.int .u64 r0, .int .u64 r1, .int .u64 r2, .int .u64 r3, .int .u64 r4, .int .u64 r5, .slice oOa nOa pOa] _ (range13C Oa.out.blk) Tryz.underlying39 rfl (by kernel_rfl) ?_)
            | (refine wpList_load_mid rfl 39 _ rfl w61.heap.size 0 rfl [.int .u64 r0, .int .u64 r1, .int .u64 r2, .int .u64 r3, .int .u64 r4, .int .u64 r5, .slice oOa nOa pOa] _ (range13C (Blk.alloc Oa.out.blk _)) Tryz.underlying39 rfl (by kernel_rfl) ?_)
            | (refine wpList_load_mid rfl 39 _ rfl w62.heap.size 0 rfl [.int .u64 s0, .int .u64 s1, .int .u64 s2, .int .u64 s3, .int .u64 s4, .int .u64 s5, .slice oNa nNa pNa] _ (range13C Na.out.blk) Tryz.underlying39 rfl (by kernel_rfl) ?_)
            | (refine wpList_load_mid rfl 39 _ rfl w62.heap.size 0 rfl [.int .u64 s0, .int .u64 s1, .int .u64 s2, .int .u64 s3, .int .u64 s4, .int .u64 s5, .slice oNa nNa pNa] _ (range13C (Blk.alloc Na.out.blk _)) Tryz.underlying39 rfl (by kernel_rfl) ?_)
            | (refine wpList_load_mid rfl 39 _ rfl w63.heap.size 0 rfl [.int .u64 r0, .int .u64 r1, .int .u64 r2, .int .u64 r3, .int .u64 r4, .int .u64 r5, .slice oOb nOb pOb] _ (range13C Ob.out.blk) Tryz.underlying39 rfl (by kernel_rfl) ?_)
            | (refine wpList_load_mid rfl 39 _ rfl w63.heap.size 0 rfl [.int .u64 r0, .int .u64 r1, .int .u64 r2, .int .u64 r3, .int .u64 r4, .int .u64 r5, .slice oOb nOb pOb] _ (range13C (Blk.alloc Ob.out.blk _)) Tryz.underlying39 rfl (by kernel_rfl) ?_)
            | (refine wpList_load_mid rfl 39 _ rfl w64.heap.size 0 rfl [.int .u64 s0, .int .u64 s1, .int .u64 s2, .int .u64 s3, .int .u64 s4, .int .u64 s5, .slice oNb nNb pNb] _ (range13C Nb.out.blk) Tryz.underlying39 rfl (by kernel_rfl) ?_)
            | (refine wpList_load_mid rfl 39 _ rfl w64.heap.size 0 rfl [.int .u64 s0, .int .u64 s1, .int .u64 s2, .int .u64 s3, .int .u64 s4, .int .u64 s5, .slice oNb nNb pNb] _ (range13C (Blk.alloc Nb.out.blk _)) Tryz.underlying39 rfl (by kernel_rfl) ?_))
          go_ret
          exact ⟨rfl, HE.out⟩
        · go_simp
          generalize hw2 : World.alloc u1 (.cells ([.int .u64 0, .int .u64 0, .int .u64 0, .int .u64 0, .int .u64 0, .int .u64 0, .slice none 0 0] : List Value).toArray 39) = u2
          have bw2 : Below (World.heap u1).size u1 u2 := by rw [← hw2]; exact (Below.refl _ _).alloc (Nat.le_refl _) _
          have z2 : (World.heap u1).size < (World.heap u2).size := by rw [← hw2]; simp
          have hT2 : Below Wz.heap.size Wz u2 := hT1.trans (bw2.mono hT1.size)
          have HA2 : Blk u2 (World.heap u1).size ([.int .u64 0, .int .u64 0, .int .u64 0, .int .u64 0, .int .u64 0, .int .u64 0, .slice none 0 0] : List Value).toArray 39 := by rw [← hw2]; exact Blk.new _ _ _
          clear hw2
          refine hK _ _ ⟨hT2, ?_⟩
          clear hK K
          refine onlyC (i := 12) rfl (by kernel_rfl) (fun K hK => ?_)
          refine step_app0B (by rfl) _ _ (by rfl) Wz.heap.size ((World.heap Wd).size) (some ⟨gx, 0, none⟩) na ma (L.take na) (by rfl) (by rfl) (OwnBar.below HO1 bw2) (RowB.front (RowB.below ST.out.rx hT2) na (by have := HN3.out.1; omega)) za hT2.size ?_
          intro vv u3 HO3 up3 mv3
          obtain ⟨oo, on, oc, rfl⟩ := row_shape HO3
          obtain rfl : na = on := ((own_cap HO3).1.trans (by rw [List.length_take, ST.out.rx.len]; have := HN3.out.1; omega)).symm
          have hT3 : Below Wz.heap.size Wz u3 := hT2.trans (up3.below hT2.size (fun k hk e => by have h9 := hS0.size; omega))
          refine hK _ _ ⟨hT3, ?_⟩
          clear hK K
          refine takeC (i := 13) (v := .agg [.int .u64 a0, .int .u64 a1, .int .u64 a2, .int .u64 a3, .int .u64 a4, .int .u64 a5, .slice oo na oc].toArray) rfl (by kernel_rfl) (by kernel_rfl) (by kernel_rfl) (fun _ _ _ h => h) (Or.inl ⟨by rfl, fun W hW => by go_simp; first | done | rfl⟩) hT3 ?_
          simp only [Act.put, List.setIfInBounds_toArray, List.set_cons_zero, List.set_cons_succ]
          refine onlyC (i := 15) rfl (by kernel_rfl) (fun K hK => ?_)
          refine step_stW (by rfl) 39 _ _ (by rfl) ((World.heap u1).size) ([.int .u64 0, .int .u64 0, .int .u64 0, .int .u64 0, .int .u64 0, .int .u64 0, .slice none 0 0] : List Value) ([.int .u64 a0, .int .u64 a1, .int .u64 a2, .int .u64 a3, .int .u64 a4, .int .u64 a5, .slice oo na oc]) 39 (Blk.upd HA2 up3 (by omega)) (by rfl) (by rfl) (by rfl) (by kernel_rfl) (tal_one _ _ _ _ _ _ _ _ _) ?_
          intro ve nE uE
          have hSe : Below Wz.heap.size Wz ve := hT3.trans (uE.below hT3.size (fun k hk e => by have := hT1.size; omega))
          refine hK _ _ ⟨hSe, ?_⟩
          clear hK K
          (try simp only [Act.put])
          refine wpAnyH_done (by kernel_rfl) ?_ _
          have HOe : OwnBar Wz.heap.size ve (.slice oo na oc) (L.take na) := ownsRow_upd HO3 uE (fun k hk e => by rcases mv3 k hk with h | h <;> omega)
          have OQ : Hid (QO ve ((World.heap u1).size) [.int .u64 a0, .int .u64 a1, .int .u64 a2, .int .u64 a3, .int .u64 a4, .int .u64 a5, .slice oo na oc] oo na (L.take na)) := QO.mk nE (inOwn HOe (bin_take HBL.out na) HN3.out.2.2.1)
          have S1 : Hid _ := SS.below ST.out hSe
          clear ST
          have ST := S1
          clear S1 HOe nE
          have HCH : Hid (ChainB ve lo ve.heap.size [.slice oOne nOne pOne, .slice oTwo nTwo pTwo, .slice oSa nSa pSa, .slice oDa nDa pDa, .slice oSb nSb pSb, .slice oDb nDb pDb]) := ST.out.ch
          obtain ⟨bo, hbo⟩ : ∃ z, (World.heap u1).size = z := ⟨_, rfl⟩
          rw [hbo] at OQ ⊢
          clear hbo
          clear qa hS0 hT1 hT2 hT3 uE hSe HO1 HO3 HA2 bw1 bw2 z1 z2 up3 mv3
          go_wp2_with (first
            | (go_at_call 14; (with_reducible refine (RL.out _ _ _ _ _ _ _ (SS.inx ST.out HBL.out HN3.out) (SS.iny ST.out HY.out)).mono ?_); clear RL; rintro x w61 ⟨oOa, nOa, pOa, rfl, SOa, OOa, bq⟩; have C1 : Hid _ := ChainB.more HCH.out bq OOa.out; clear HCH; have HCH := C1; clear C1; have HLw61 : Hid (lo ≤ w61.heap.size) := ChainB.le HCH.out; have F1 : Hid _ := SS.below ST.out bq; clear ST; have ST := F1; clear F1; have F1 : Hid _ := QO.below OQ.out bq; clear OQ; have OQ := F1; clear F1; clear bq)
            | (go_at_call 15; (refine (NL.out _ _ _ _ _ _ _ (SS.inx (SS.below ST.out ((Below.refl _ _).alloc (Nat.le_refl _) _)) HBL.out HN3.out) (SS.iny (SS.below ST.out ((Below.refl _ _).alloc (Nat.le_refl _) _)) HY.out)).mono ?_); clear NL; rintro x w62 ⟨oNa, nNa, pNa, rfl, SNa, ONa, bq⟩; have MM : Below w61.heap.size w61 w62 := ((Below.refl _ _).alloc (Nat.le_refl _) _).trans (bq.mono (by simp)); have C1 : Hid _ := ChainB.more (ChainB.below HCH.out ((Below.refl _ _).alloc (Nat.le_refl _) _)) bq ONa.out; clear HCH; have HCH := C1; clear C1; have HLw62 : Hid (lo ≤ w62.heap.size) := ChainB.le HCH.out; have F1 : Hid _ := SS.below ST.out MM; clear ST; have ST := F1; clear F1; have F1 : Hid _ := QO.below OQ.out MM; clear OQ; have OQ := F1; clear F1; have Oa : Hid _ := TU.mk (Blk.below (Blk.new _ _ _) bq (by simp)) (SkAt.below SOa.out MM); clear MM; clear bq)
            | (go_at_call 16; (refine (RR.out _ _ _ _ _ _ _ (QO.below OQ.out ((Below.refl _ _).alloc (Nat.le_refl _) _)).inn (SS.below ST.out ((Below.refl _ _).alloc (Nat.le_refl _) _)).qs.ib).mono ?_); clear RR; rintro x w63 ⟨oOb, nOb, pOb, rfl, SOb, OOb, bq⟩; have MM : Below w62.heap.size w62 w63 := ((Below.refl _ _).alloc (Nat.le_refl _) _).trans (bq.mono (by simp)); have C1 : Hid _ := ChainB.below HCH.out MM; clear HCH; have HCH := C1; clear C1; have F1 : Hid _ := SS.below ST.out MM; clear ST; have ST := F1; clear F1; have F1 : Hid _ := QO.below OQ.out MM; clear OQ; have OQ := F1; clear F1; have F1 : Hid _ := TU.below Oa.out MM; clear Oa; have Oa := F1; clear F1; have Na : Hid _ := TU.mk (Blk.below (Blk.new _ _ _) bq (by simp)) (SkAt.below SNa.out MM); clear MM; clear bq)
            | (go_at_call 17; (refine (NR.out _ _ _ _ _ _ _ (QO.below OQ.out ((Below.refl _ _).alloc (Nat.le_refl _) _)).inn (SS.below ST.out ((Below.refl _ _).alloc (Nat.le_refl _) _)).qs.ib).mono ?_); clear NR; rintro x w64 ⟨oNb, nNb, pNb, rfl, SNb, ONb, bq⟩; have MM : Below w63.heap.size w63 w64 := ((Below.refl _ _).alloc (Nat.le_refl _) _).trans (bq.mono (by simp)); have C1 : Hid _ := ChainB.below HCH.out MM; clear HCH; have HCH := C1; clear C1; have F1 : Hid _ := SS.below ST.out MM; clear ST; have ST := F1; clear F1; have F1 : Hid _ := QO.below OQ.out MM; clear OQ; have OQ := F1; clear F1; have F1 : Hid _ := TU.below Oa.out MM; clear Oa; have Oa := F1; clear F1; have F1 : Hid _ := TU.below Na.out MM; clear Na; have Na := F1; clear F1; have Ob : Hid _ := TU.mk (Blk.below (Blk.new _ _ _) bq (by simp)) (SkAt.below SOb.out MM); clear MM; clear bq)
            | (go_at_call 19; (refine (RS.out _ _ _ _ _ _ _ (TU.below Oa.out ((Below.refl _ _).alloc (Nat.le_refl _) _)).sk (TU.below Ob.out ((Below.refl _ _).alloc (Nat.le_refl _) _)).sk).mono ?_); clear RS; rintro x w65 ⟨rfl, bq⟩; have MM : Below w64.heap.size w64 w65 := ((Below.refl _ _).alloc (Nat.le_refl _) _).trans (bq.mono (by simp)); have C1 : Hid _ := ChainB.below HCH.out MM; clear HCH; have HCH := C1; clear C1; have F1 : Hid _ := SS.below ST.out MM; clear ST; have ST := F1; clear F1; have F1 : Hid _ := QO.below OQ.out MM; clear OQ; have OQ := F1; clear F1; have F1 : Hid _ := TU.below Oa.out MM; clear Oa; have Oa := F1; clear F1; have F1 : Hid _ := TU.below Na.out MM; clear Na; have Na := F1; clear F1; have F1 : Hid _ := TU.below Ob.out MM; clear Ob; have Ob := F1; clear F1; have Nb : Hid _ := TU.mk (Blk.below (Blk.new _ _ _) bq (by simp)) (SkAt.below SNb.out MM); clear MM; clear bq)
            | (go_at_call 19; (with_reducible refine (NS.out _ _ _ _ _ _ _ Na.out.sk Nb.out.sk).mono ?_); clear NS; rintro x w66 ⟨rfl, bq⟩; have C1 : Hid _ := ChainB.below HCH.out bq; clear HCH; have HCH := C1; clear C1; have F1 : Hid _ := SS.below ST.out bq; clear ST; have ST := F1; clear F1; have F1 : Hid _ := QO.below OQ.out bq; clear OQ; have OQ := F1; clear F1; have F1 : Hid _ := TU.below Oa.out bq; clear Oa; have Oa := F1; clear F1; have F1 : Hid _ := TU.below Na.out bq; clear Na; have Na := F1; clear F1; have F1 : Hid _ := TU.below Ob.out bq; clear Ob; have Ob := F1; clear F1; have F1 : Hid _ := TU.below Nb.out bq; clear Nb; have Nb := F1; clear F1; clear bq; have e0 : w66.cell? ⟨w4.heap.size, 6, none⟩ = some (.slice oOne nOne pOne) := ST.out.r1.cell 6 rfl; have e1 : w66.cell? ⟨w5.heap.size, 6, none⟩ = some (.slice oTwo nTwo pTwo) := ST.out.r2.cell 6 rfl; have e2 : w66.cell? ⟨w6.heap.size, 6, none⟩ = some (.slice oSa nSa pSa) := ST.out.r3.cell 6 rfl; have e3 : w66.cell? ⟨w7.heap.size, 6, none⟩ = some (.slice oDa nDa pDa) := ST.out.r4.cell 6 rfl; have e4 : w66.cell? ⟨w8.heap.size, 6, none⟩ = some (.slice oSb nSb pSb) := ST.out.r5.cell 6 rfl; have e5 : w66.cell? ⟨w9.heap.size, 6, none⟩ = some (.slice oDb nDb pDb) := ST.out.r6.cell 6 rfl; have e6 : w66.cell? ⟨w61.heap.size, 6, none⟩ = some (.slice oOa nOa pOa) := Oa.out.blk.cell 6 rfl; have e7 : w66.cell? ⟨w62.heap.size, 6, none⟩ = some (.slice oNa nNa pNa) := Na.out.blk.cell 6 rfl)
            | (go_at_call 23; have OC := ownB_chain [.slice oOne nOne pOne, .slice oTwo nTwo pTwo, .slice oSa nSa pSa, .slice oDa nDa pDa, .slice oSb nSb pSb, .slice oDb nDb pDb, .slice oOa nOa pOa, .slice oNa nNa pNa] lo w66 HCH.out (Nat.le_of_ble_eq_true rfl) 8 rfl; (with_reducible refine OC.mono ?_); clear OC; rintro x WE ⟨rfl, bq⟩; have HE : Hid (Below w.heap.size w WE) := (ST.out.qs.low.trans (((Below.refl w66.heap.size w66).alloc (Nat.le_refl _) _).mono ST.out.qs.low.size)).trans (bq.mono HLO.out); clear ST bq)
            | (refine wpList_load_mid rfl 39 _ rfl w2.heap.size 0 rfl [.int .u64 a0, .int .u64 a1, .int .u64 a2, .int .u64 a3, .int .u64 a4, .int .u64 a5, .slice (some ⟨gx, 0, none⟩) na ma] _ (range13C ST.out.x) Tryz.underlying39 rfl (by kernel_rfl) ?_)
            | (refine wpList_load_mid rfl 39 _ rfl w2.heap.size 0 rfl [.int .u64 a0, .int .u64 a1, .int .u64 a2, .int .u64 a3, .int .u64 a4, .int .u64 a5, .slice (some ⟨gx, 0, none⟩) na ma] _ (range13C (Blk.alloc ST.out.x _)) Tryz.underlying39 rfl (by kernel_rfl) ?_)
            | (refine wpList_load_mid rfl 39 _ rfl w3.heap.size 0 rfl [.int .u64 b0, .int .u64 b1, .int .u64 b2, .int .u64 b3, .int .u64 b4, .int .u64 b5, .slice (some ⟨gy, 0, none⟩) nb mb] _ (range13C ST.out.y) Tryz.underlying39 rfl (by kernel_rfl) ?_)
            | (refine wpList_load_mid rfl 39 _ rfl w3.heap.size 0 rfl [.int .u64 b0, .int .u64 b1, .int .u64 b2, .int .u64 b3, .int .u64 b4, .int .u64 b5, .slice (some ⟨gy, 0, none⟩) nb mb] _ (range13C (Blk.alloc ST.out.y _)) Tryz.underlying39 rfl (by kernel_rfl) ?_)
            | (refine wpList_load_mid rfl 39 _ rfl (w.heap.size + 1 + 1) 0 rfl [.int .u64 b0, .int .u64 b1, .int .u64 b2, .int .u64 b3, .int .u64 b4, .int .u64 b5, .slice ba nb pb] _ (range13C ST.out.qs.xb) Tryz.underlying39 rfl (by kernel_rfl) ?_)
            | (refine wpList_load_mid rfl 39 _ rfl (w.heap.size + 1 + 1) 0 rfl [.int .u64 b0, .int .u64 b1, .int .u64 b2, .int .u64 b3, .int .u64 b4, .int .u64 b5, .slice ba nb pb] _ (range13C (Blk.alloc ST.out.qs.xb _)) Tryz.underlying39 rfl (by kernel_rfl) ?_)
            | (refine wpList_load_mid rfl 39 _ rfl bo 0 rfl [.int .u64 a0, .int .u64 a1, .int .u64 a2, .int .u64 a3, .int .u64 a4, .int .u64 a5, .slice oo na oc] _ (range13C OQ.out.blk) Tryz.underlying39 rfl (by kernel_rfl) ?_)
            | (refine wpList_load_mid rfl 39 _ rfl bo 0 rfl [.int .u64 a0, .int .u64 a1, .int .u64 a2, .int .u64 a3, .int .u64 a4, .int .u64 a5, .slice oo na oc] _ (range13C (Blk.alloc OQ.out.blk _)) Tryz.underlying39 rfl (by kernel_rfl) ?_)
            | (refine wpList_load_mid rfl 39 _ rfl w61.heap.size 0 rfl [.int .u64 r0, .int .u64 r1, .int .u64 r2, .int .u64 r3, .int .u64 r4, .int .u64 r5, .slice oOa nOa pOa] _ (range13C Oa.out.blk) Tryz.underlying39 rfl (by kernel_rfl) ?_)
            | (refine wpList_load_mid rfl 39 _ rfl w61.heap.size 0 rfl [.int .u64 r0, .int .u64 r1, .int .u64 r2, .int .u64 r3, .int .u64 r4, .int .u64 r5, .slice oOa nOa pOa] _ (range13C (Blk.alloc Oa.out.blk _)) Tryz.underlying39 rfl (by kernel_rfl) ?_)
            | (refine wpList_load_mid rfl 39 _ rfl w62.heap.size 0 rfl [.int .u64 s0, .int .u64 s1, .int .u64 s2, .int .u64 s3, .int .u64 s4, .int .u64 s5, .slice oNa nNa pNa] _ (range13C Na.out.blk) Tryz.underlying39 rfl (by kernel_rfl) ?_)
            | (refine wpList_load_mid rfl 39 _ rfl w62.heap.size 0 rfl [.int .u64 s0, .int .u64 s1, .int .u64 s2, .int .u64 s3, .int .u64 s4, .int .u64 s5, .slice oNa nNa pNa] _ (range13C (Blk.alloc Na.out.blk _)) Tryz.underlying39 rfl (by kernel_rfl) ?_)
            | (refine wpList_load_mid rfl 39 _ rfl w63.heap.size 0 rfl [.int .u64 r0, .int .u64 r1, .int .u64 r2, .int .u64 r3, .int .u64 r4, .int .u64 r5, .slice oOb nOb pOb] _ (range13C Ob.out.blk) Tryz.underlying39 rfl (by kernel_rfl) ?_)
            | (refine wpList_load_mid rfl 39 _ rfl w63.heap.size 0 rfl [.int .u64 r0, .int .u64 r1, .int .u64 r2, .int .u64 r3, .int .u64 r4, .int .u64 r5, .slice oOb nOb pOb] _ (range13C (Blk.alloc Ob.out.blk _)) Tryz.underlying39 rfl (by kernel_rfl) ?_)
            | (refine wpList_load_mid rfl 39 _ rfl w64.heap.size 0 rfl [.int .u64 s0, .int .u64 s1, .int .u64 s2, .int .u64 s3, .int .u64 s4, .int .u64 s5, .slice oNb nNb pNb] _ (range13C Nb.out.blk) Tryz.underlying39 rfl (by kernel_rfl) ?_)
            | (refine wpList_load_mid rfl 39 _ rfl w64.heap.size 0 rfl [.int .u64 s0, .int .u64 s1, .int .u64 s2, .int .u64 s3, .int .u64 s4, .int .u64 s5, .slice oNb nNb pNb] _ (range13C (Blk.alloc Nb.out.blk _)) Tryz.underlying39 rfl (by kernel_rfl) ?_))
          go_ret
          exact ⟨rfl, HE.out⟩
      · go_simp
        generalize hw1 : World.alloc Wd (.cells ([.int .u64 0, .int .u64 0, .int .u64 0, .int .u64 0, .int .u64 0, .int .u64 0, .slice none 0 0] : List Value).toArray 39) = u1
        have bw1 : Below (World.heap Wd).size Wd u1 := by rw [← hw1]; exact (Below.refl _ _).alloc (Nat.le_refl _) _
        have z1 : (World.heap Wd).size < (World.heap u1).size := by rw [← hw1]; simp
        have hT1 : Below Wz.heap.size Wz u1 := hS0.trans (bw1.mono hS0.size)
        have HA1 : Blk u1 (World.heap Wd).size ([.int .u64 0, .int .u64 0, .int .u64 0, .int .u64 0, .int .u64 0, .int .u64 0, .slice none 0 0] : List Value).toArray 39 := by rw [← hw1]; exact Blk.new _ _ _
        clear hw1
        refine hK _ _ ⟨hT1, ?_⟩
        clear hK K
        refine onlyC (i := 6) rfl (by kernel_rfl) (fun K hK => ?_)
        go_simp
        generalize hw2 : World.alloc u1 (.cells #[] 50) = u2
        have bw2 : Below (World.heap u1).size u1 u2 := by rw [← hw2]; exact (Below.refl _ _).alloc (Nat.le_refl _) _
        have z2 : (World.heap u1).size < (World.heap u2).size := by rw [← hw2]; simp
        have hT2 : Below Wz.heap.size Wz u2 := hT1.trans (bw2.mono hT1.size)
        have HO2 : OwnBar Wz.heap.size u2 (.slice (some ⟨(World.heap u1).size, 0, none⟩) 0 0) [] := by rw [← hw2]; exact ⟨rfl, Or.inr ⟨(World.heap u1).size, 0, #[], rfl, hT1.size, heap_alloc_new u1 _, Nat.le_refl _, Nat.zero_le _, rfl, rfl⟩⟩
        clear hw2
        refine hK _ _ ⟨hT2, ?_⟩
        clear hK K
        refine onlyC (i := 12) rfl (by kernel_rfl) (fun K hK => ?_)
        refine step_app0B (by rfl) _ _ (by rfl) Wz.heap.size ((World.heap u1).size) (some ⟨gx, 0, none⟩) na ma (L.take na) (by rfl) (by rfl) HO2 (RowB.front (RowB.below ST.out.rx hT2) na (by have := HN3.out.1; omega)) za hT2.size ?_
        intro vv u3 HO3 up3 mv3
        obtain ⟨oo, on, oc, rfl⟩ := row_shape HO3
        obtain rfl : na = on := ((own_cap HO3).1.trans (by rw [List.length_take, ST.out.rx.len]; have := HN3.out.1; omega)).symm
        have hT3 : Below Wz.heap.size Wz u3 := hT2.trans (up3.below hT2.size (fun k hk e => by have h9 := hT1.size; omega))
        refine hK _ _ ⟨hT3, ?_⟩
        clear hK K
        refine takeC (i := 13) (v := .agg [.int .u64 a0, .int .u64 a1, .int .u64 a2, .int .u64 a3, .int .u64 a4, .int .u64 a5, .slice oo na oc].toArray) rfl (by kernel_rfl) (by kernel_rfl) (by kernel_rfl) (fun _ _ _ h => h) (Or.inl ⟨by rfl, fun W hW => by go_simp; first | done | rfl⟩) hT3 ?_
        simp only [Act.put, List.setIfInBounds_toArray, List.set_cons_zero, List.set_cons_succ]
        refine onlyC (i := 15) rfl (by kernel_rfl) (fun K hK => ?_)
        refine step_stW (by rfl) 39 _ _ (by rfl) ((World.heap Wd).size) ([.int .u64 0, .int .u64 0, .int .u64 0, .int .u64 0, .int .u64 0, .int .u64 0, .slice none 0 0] : List Value) ([.int .u64 a0, .int .u64 a1, .int .u64 a2, .int .u64 a3, .int .u64 a4, .int .u64 a5, .slice oo na oc]) 39 (Blk.upd (Blk.below HA1 bw2 HA1.lt) up3 (by omega)) (by rfl) (by rfl) (by rfl) (by kernel_rfl) (tal_one _ _ _ _ _ _ _ _ _) ?_
        intro ve nE uE
        have hSe : Below Wz.heap.size Wz ve := hT3.trans (uE.below hT3.size (fun k hk e => by have h9 := hS0.size; omega))
        refine hK _ _ ⟨hSe, ?_⟩
        clear hK K
        (try simp only [Act.put])
        refine wpAnyH_done (by kernel_rfl) ?_ _
        have HOe : OwnBar Wz.heap.size ve (.slice oo na oc) (L.take na) := ownsRow_upd HO3 uE (fun k hk e => by rcases mv3 k hk with h | h <;> omega)
        have OQ : Hid (QO ve ((World.heap Wd).size) [.int .u64 a0, .int .u64 a1, .int .u64 a2, .int .u64 a3, .int .u64 a4, .int .u64 a5, .slice oo na oc] oo na (L.take na)) := QO.mk nE (inOwn HOe (bin_take HBL.out na) HN3.out.2.2.1)
        have S1 : Hid _ := SS.below ST.out hSe
        clear ST
        have ST := S1
        clear S1 HOe nE
        have HCH : Hid (ChainB ve lo ve.heap.size [.slice oOne nOne pOne, .slice oTwo nTwo pTwo, .slice oSa nSa pSa, .slice oDa nDa pDa, .slice oSb nSb pSb, .slice oDb nDb pDb]) := ST.out.ch
        obtain ⟨bo, hbo⟩ : ∃ z, (World.heap Wd).size = z := ⟨_, rfl⟩
        rw [hbo] at OQ ⊢
        clear hbo
        clear qa hS0 hT1 hT2 hT3 uE hSe HA1 HO2 HO3 bw1 bw2 z1 z2 up3 mv3
        go_wp2_with (first
          | (go_at_call 14; (with_reducible refine (RL.out _ _ _ _ _ _ _ (SS.inx ST.out HBL.out HN3.out) (SS.iny ST.out HY.out)).mono ?_); clear RL; rintro x w61 ⟨oOa, nOa, pOa, rfl, SOa, OOa, bq⟩; have C1 : Hid _ := ChainB.more HCH.out bq OOa.out; clear HCH; have HCH := C1; clear C1; have HLw61 : Hid (lo ≤ w61.heap.size) := ChainB.le HCH.out; have F1 : Hid _ := SS.below ST.out bq; clear ST; have ST := F1; clear F1; have F1 : Hid _ := QO.below OQ.out bq; clear OQ; have OQ := F1; clear F1; clear bq)
          | (go_at_call 15; (refine (NL.out _ _ _ _ _ _ _ (SS.inx (SS.below ST.out ((Below.refl _ _).alloc (Nat.le_refl _) _)) HBL.out HN3.out) (SS.iny (SS.below ST.out ((Below.refl _ _).alloc (Nat.le_refl _) _)) HY.out)).mono ?_); clear NL; rintro x w62 ⟨oNa, nNa, pNa, rfl, SNa, ONa, bq⟩; have MM : Below w61.heap.size w61 w62 := ((Below.refl _ _).alloc (Nat.le_refl _) _).trans (bq.mono (by simp)); have C1 : Hid _ := ChainB.more (ChainB.below HCH.out ((Below.refl _ _).alloc (Nat.le_refl _) _)) bq ONa.out; clear HCH; have HCH := C1; clear C1; have HLw62 : Hid (lo ≤ w62.heap.size) := ChainB.le HCH.out; have F1 : Hid _ := SS.below ST.out MM; clear ST; have ST := F1; clear F1; have F1 : Hid _ := QO.below OQ.out MM; clear OQ; have OQ := F1; clear F1; have Oa : Hid _ := TU.mk (Blk.below (Blk.new _ _ _) bq (by simp)) (SkAt.below SOa.out MM); clear MM; clear bq)
          | (go_at_call 16; (refine (RR.out _ _ _ _ _ _ _ (QO.below OQ.out ((Below.refl _ _).alloc (Nat.le_refl _) _)).inn (SS.below ST.out ((Below.refl _ _).alloc (Nat.le_refl _) _)).qs.ib).mono ?_); clear RR; rintro x w63 ⟨oOb, nOb, pOb, rfl, SOb, OOb, bq⟩; have MM : Below w62.heap.size w62 w63 := ((Below.refl _ _).alloc (Nat.le_refl _) _).trans (bq.mono (by simp)); have C1 : Hid _ := ChainB.below HCH.out MM; clear HCH; have HCH := C1; clear C1; have F1 : Hid _ := SS.below ST.out MM; clear ST; have ST := F1; clear F1; have F1 : Hid _ := QO.below OQ.out MM; clear OQ; have OQ := F1; clear F1; have F1 : Hid _ := TU.below Oa.out MM; clear Oa; have Oa := F1; clear F1; have Na : Hid _ := TU.mk (Blk.below (Blk.new _ _ _) bq (by simp)) (SkAt.below SNa.out MM); clear MM; clear bq)
          | (go_at_call 17; (refine (NR.out _ _ _ _ _ _ _ (QO.below OQ.out ((Below.refl _ _).alloc (Nat.le_refl _) _)).inn (SS.below ST.out ((Below.refl _ _).alloc (Nat.le_refl _) _)).qs.ib).mono ?_); clear NR; rintro x w64 ⟨oNb, nNb, pNb, rfl, SNb, ONb, bq⟩; have MM : Below w63.heap.size w63 w64 := ((Below.refl _ _).alloc (Nat.le_refl _) _).trans (bq.mono (by simp)); have C1 : Hid _ := ChainB.below HCH.out MM; clear HCH; have HCH := C1; clear C1; have F1 : Hid _ := SS.below ST.out MM; clear ST; have ST := F1; clear F1; have F1 : Hid _ := QO.below OQ.out MM; clear OQ; have OQ := F1; clear F1; have F1 : Hid _ := TU.below Oa.out MM; clear Oa; have Oa := F1; clear F1; have F1 : Hid _ := TU.below Na.out MM; clear Na; have Na := F1; clear F1; have Ob : Hid _ := TU.mk (Blk.below (Blk.new _ _ _) bq (by simp)) (SkAt.below SOb.out MM); clear MM; clear bq)
          | (go_at_call 19; (refine (RS.out _ _ _ _ _ _ _ (TU.below Oa.out ((Below.refl _ _).alloc (Nat.le_refl _) _)).sk (TU.below Ob.out ((Below.refl _ _).alloc (Nat.le_refl _) _)).sk).mono ?_); clear RS; rintro x w65 ⟨rfl, bq⟩; have MM : Below w64.heap.size w64 w65 := ((Below.refl _ _).alloc (Nat.le_refl _) _).trans (bq.mono (by simp)); have C1 : Hid _ := ChainB.below HCH.out MM; clear HCH; have HCH := C1; clear C1; have F1 : Hid _ := SS.below ST.out MM; clear ST; have ST := F1; clear F1; have F1 : Hid _ := QO.below OQ.out MM; clear OQ; have OQ := F1; clear F1; have F1 : Hid _ := TU.below Oa.out MM; clear Oa; have Oa := F1; clear F1; have F1 : Hid _ := TU.below Na.out MM; clear Na; have Na := F1; clear F1; have F1 : Hid _ := TU.below Ob.out MM; clear Ob; have Ob := F1; clear F1; have Nb : Hid _ := TU.mk (Blk.below (Blk.new _ _ _) bq (by simp)) (SkAt.below SNb.out MM); clear MM; clear bq)
          | (go_at_call 19; (with_reducible refine (NS.out _ _ _ _ _ _ _ Na.out.sk Nb.out.sk).mono ?_); clear NS; rintro x w66 ⟨rfl, bq⟩; have C1 : Hid _ := ChainB.below HCH.out bq; clear HCH; have HCH := C1; clear C1; have F1 : Hid _ := SS.below ST.out bq; clear ST; have ST := F1; clear F1; have F1 : Hid _ := QO.below OQ.out bq; clear OQ; have OQ := F1; clear F1; have F1 : Hid _ := TU.below Oa.out bq; clear Oa; have Oa := F1; clear F1; have F1 : Hid _ := TU.below Na.out bq; clear Na; have Na := F1; clear F1; have F1 : Hid _ := TU.below Ob.out bq; clear Ob; have Ob := F1; clear F1; have F1 : Hid _ := TU.below Nb.out bq; clear Nb; have Nb := F1; clear F1; clear bq; have e0 : w66.cell? ⟨w4.heap.size, 6, none⟩ = some (.slice oOne nOne pOne) := ST.out.r1.cell 6 rfl; have e1 : w66.cell? ⟨w5.heap.size, 6, none⟩ = some (.slice oTwo nTwo pTwo) := ST.out.r2.cell 6 rfl; have e2 : w66.cell? ⟨w6.heap.size, 6, none⟩ = some (.slice oSa nSa pSa) := ST.out.r3.cell 6 rfl; have e3 : w66.cell? ⟨w7.heap.size, 6, none⟩ = some (.slice oDa nDa pDa) := ST.out.r4.cell 6 rfl; have e4 : w66.cell? ⟨w8.heap.size, 6, none⟩ = some (.slice oSb nSb pSb) := ST.out.r5.cell 6 rfl; have e5 : w66.cell? ⟨w9.heap.size, 6, none⟩ = some (.slice oDb nDb pDb) := ST.out.r6.cell 6 rfl; have e6 : w66.cell? ⟨w61.heap.size, 6, none⟩ = some (.slice oOa nOa pOa) := Oa.out.blk.cell 6 rfl; have e7 : w66.cell? ⟨w62.heap.size, 6, none⟩ = some (.slice oNa nNa pNa) := Na.out.blk.cell 6 rfl)
          | (go_at_call 23; have OC := ownB_chain [.slice oOne nOne pOne, .slice oTwo nTwo pTwo, .slice oSa nSa pSa, .slice oDa nDa pDa, .slice oSb nSb pSb, .slice oDb nDb pDb, .slice oOa nOa pOa, .slice oNa nNa pNa] lo w66 HCH.out (Nat.le_of_ble_eq_true rfl) 8 rfl; (with_reducible refine OC.mono ?_); clear OC; rintro x WE ⟨rfl, bq⟩; have HE : Hid (Below w.heap.size w WE) := (ST.out.qs.low.trans (((Below.refl w66.heap.size w66).alloc (Nat.le_refl _) _).mono ST.out.qs.low.size)).trans (bq.mono HLO.out); clear ST bq)
          | (refine wpList_load_mid rfl 39 _ rfl w2.heap.size 0 rfl [.int .u64 a0, .int .u64 a1, .int .u64 a2, .int .u64 a3, .int .u64 a4, .int .u64 a5, .slice (some ⟨gx, 0, none⟩) na ma] _ (range13C ST.out.x) Tryz.underlying39 rfl (by kernel_rfl) ?_)
          | (refine wpList_load_mid rfl 39 _ rfl w2.heap.size 0 rfl [.int .u64 a0, .int .u64 a1, .int .u64 a2, .int .u64 a3, .int .u64 a4, .int .u64 a5, .slice (some ⟨gx, 0, none⟩) na ma] _ (range13C (Blk.alloc ST.out.x _)) Tryz.underlying39 rfl (by kernel_rfl) ?_)
          | (refine wpList_load_mid rfl 39 _ rfl w3.heap.size 0 rfl [.int .u64 b0, .int .u64 b1, .int .u64 b2, .int .u64 b3, .int .u64 b4, .int .u64 b5, .slice (some ⟨gy, 0, none⟩) nb mb] _ (range13C ST.out.y) Tryz.underlying39 rfl (by kernel_rfl) ?_)
          | (refine wpList_load_mid rfl 39 _ rfl w3.heap.size 0 rfl [.int .u64 b0, .int .u64 b1, .int .u64 b2, .int .u64 b3, .int .u64 b4, .int .u64 b5, .slice (some ⟨gy, 0, none⟩) nb mb] _ (range13C (Blk.alloc ST.out.y _)) Tryz.underlying39 rfl (by kernel_rfl) ?_)
          | (refine wpList_load_mid rfl 39 _ rfl (w.heap.size + 1 + 1) 0 rfl [.int .u64 b0, .int .u64 b1, .int .u64 b2, .int .u64 b3, .int .u64 b4, .int .u64 b5, .slice ba nb pb] _ (range13C ST.out.qs.xb) Tryz.underlying39 rfl (by kernel_rfl) ?_)
          | (refine wpList_load_mid rfl 39 _ rfl (w.heap.size + 1 + 1) 0 rfl [.int .u64 b0, .int .u64 b1, .int .u64 b2, .int .u64 b3, .int .u64 b4, .int .u64 b5, .slice ba nb pb] _ (range13C (Blk.alloc ST.out.qs.xb _)) Tryz.underlying39 rfl (by kernel_rfl) ?_)
          | (refine wpList_load_mid rfl 39 _ rfl bo 0 rfl [.int .u64 a0, .int .u64 a1, .int .u64 a2, .int .u64 a3, .int .u64 a4, .int .u64 a5, .slice oo na oc] _ (range13C OQ.out.blk) Tryz.underlying39 rfl (by kernel_rfl) ?_)
          | (refine wpList_load_mid rfl 39 _ rfl bo 0 rfl [.int .u64 a0, .int .u64 a1, .int .u64 a2, .int .u64 a3, .int .u64 a4, .int .u64 a5, .slice oo na oc] _ (range13C (Blk.alloc OQ.out.blk _)) Tryz.underlying39 rfl (by kernel_rfl) ?_)
          | (refine wpList_load_mid rfl 39 _ rfl w61.heap.size 0 rfl [.int .u64 r0, .int .u64 r1, .int .u64 r2, .int .u64 r3, .int .u64 r4, .int .u64 r5, .slice oOa nOa pOa] _ (range13C Oa.out.blk) Tryz.underlying39 rfl (by kernel_rfl) ?_)
          | (refine wpList_load_mid rfl 39 _ rfl w61.heap.size 0 rfl [.int .u64 r0, .int .u64 r1, .int .u64 r2, .int .u64 r3, .int .u64 r4, .int .u64 r5, .slice oOa nOa pOa] _ (range13C (Blk.alloc Oa.out.blk _)) Tryz.underlying39 rfl (by kernel_rfl) ?_)
          | (refine wpList_load_mid rfl 39 _ rfl w62.heap.size 0 rfl [.int .u64 s0, .int .u64 s1, .int .u64 s2, .int .u64 s3, .int .u64 s4, .int .u64 s5, .slice oNa nNa pNa] _ (range13C Na.out.blk) Tryz.underlying39 rfl (by kernel_rfl) ?_)
          | (refine wpList_load_mid rfl 39 _ rfl w62.heap.size 0 rfl [.int .u64 s0, .int .u64 s1, .int .u64 s2, .int .u64 s3, .int .u64 s4, .int .u64 s5, .slice oNa nNa pNa] _ (range13C (Blk.alloc Na.out.blk _)) Tryz.underlying39 rfl (by kernel_rfl) ?_)
          | (refine wpList_load_mid rfl 39 _ rfl w63.heap.size 0 rfl [.int .u64 r0, .int .u64 r1, .int .u64 r2, .int .u64 r3, .int .u64 r4, .int .u64 r5, .slice oOb nOb pOb] _ (range13C Ob.out.blk) Tryz.underlying39 rfl (by kernel_rfl) ?_)
          | (refine wpList_load_mid rfl 39 _ rfl w63.heap.size 0 rfl [.int .u64 r0, .int .u64 r1, .int .u64 r2, .int .u64 r3, .int .u64 r4, .int .u64 r5, .slice oOb nOb pOb] _ (range13C (Blk.alloc Ob.out.blk _)) Tryz.underlying39 rfl (by kernel_rfl) ?_)
          | (refine wpList_load_mid rfl 39 _ rfl w64.heap.size 0 rfl [.int .u64 s0, .int .u64 s1, .int .u64 s2, .int .u64 s3, .int .u64 s4, .int .u64 s5, .slice oNb nNb pNb] _ (range13C Nb.out.blk) Tryz.underlying39 rfl (by kernel_rfl) ?_)
          | (refine wpList_load_mid rfl 39 _ rfl w64.heap.size 0 rfl [.int .u64 s0, .int .u64 s1, .int .u64 s2, .int .u64 s3, .int .u64 s4, .int .u64 s5, .slice oNb nNb pNb] _ (range13C (Blk.alloc Nb.out.blk _)) Tryz.underlying39 rfl (by kernel_rfl) ?_))
        go_ret
        exact ⟨rfl, HE.out⟩
end Go.Proofs.YtkpkdikogoalkaaGreatDoor.sk
