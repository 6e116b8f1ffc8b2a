/-
  Merged: ToJ, ToK.
-/
import Derived.Test.YtnffedmcblbkoaaGreatDoorToFq
import Derived.Deep.RegionHeldLaw
import Derived.Test.YtnffedmcblbkoaaGreatDoorUCq
namespace Go.Proofs.YtnffedmcblbkoaaGreatDoor
open Go Go.RowKit
set_option maxRecDepth 100000
theorem step_appW {P : Program} (w : World) {ops : Array Oper} {o : Oper} {a : Act} {K : Act → World → Prop} {Q : Exit → Act → World → Prop} {E : Prop} (hgd : o.guard = none) (s x : Operand) (t tx : TypeId)
  (ho : o.op = .call { callee := .builtin .append, args := #[s, x], argTypes := #[t, tx] })
  (base : Nat) (e : TypeId) (i : TypeInfo) (z : Value) (size bytes : Nat) (ht : P.underlying t = some (.slice e)) (hi : P.info? e = some i) (hz : i.zero = some z) (hsize : i.size = size) (hby : i.bytes = bytes) (hzs : z.cells.size = size)
  (v : Value) (n : Nat) (xs : List Value) (hv : a.eval s = v) (hown : w.ownsRow base e size v n xs) (y : Value) (m : Nat) (news : List Value) (hx : a.eval x = y) (hs : Src P size tx y m news w)
  (h63 : n + m ≤ maxLen) (hbytes : (n + m + (n + m) / 4 + 192) * bytes ≤ 281474976710656) (hbase : base ≤ w.heap.size)
  (h : ∀ v' w', w'.ownsRow base e size v' (n + m) (xs ++ news) → w.grownBy w' v.ownBlock → Moved w v v' → K (a.put o.dst v') w') : if Region.wanted o (yielded ops a.tmps) = true then Oper.wp P o a w K Q else E := by
 subst hby
 have hw : Region.wanted o (yielded ops a.tmps) = true := by simp [Region.wanted, hgd]
 rw [if_pos hw]
 obtain ⟨v', w', hr, h2, h3, h4⟩ := run_appW (P := P) w base t tx o.type e i z size ht hi hz hsize hzs v n xs hown y m news hs h63 hbytes hbase
 unfold Oper.wp execOp
 simp only [ho, resolve, invoke, builtin, Sem.run_bind, Sem.run_pure, Result.andThen_ok, List.map_toArray, List.map_cons, List.map_nil, hv, hx, hr]
 exact h v' w' h2 h3 h4
theorem step_appA {ops : Array Oper} {o : Oper} {a : Act} {K : Act → World → Prop} {E : Prop} {Q : Exit → Act → World → Prop} (wr : World) (hgd : o.guard = none) (s x : Operand)
  (ho : o.op = .call { callee := .builtin .append, args := #[s, x], argTypes := #[22, 22] })
  (base : Nat) (va : Option Addr) (n vc : Nat) (L : List Sq) (b : Nat) (hb : b = wr.heap.size) (hv : a.eval s = .slice (some ⟨b, 0, none⟩) 0 0) (hown : wr.ownsRow base 102 13 (.slice va n vc) n (L.flatMap sqL)) (hx : a.eval x = .slice va n vc) (hn : n * 168 ≤ 140737488351232) (_hbase : base ≤ wr.heap.size)
  (h : ∀ va' vc' w', w'.ownsRow wr.heap.size 102 13 (.slice va' n vc') n (L.flatMap sqL) → Below wr.heap.size wr w' → K (a.put o.dst (.slice va' n vc')) w') : if Region.wanted o (yielded ops a.tmps) = true then Oper.wp Tryz.prog o a (wr.alloc (.cells #[] 102)) K Q else E := by
 subst hb
 obtain ⟨i0, hi0, hz0, hz1, hz2⟩ := info_parts infoQ
 have hb : Below wr.heap.size wr (wr.alloc (.cells #[] 102)) := (Below.refl _ _).alloc (Nat.le_refl _) _
 have hown' : (wr.alloc (.cells #[] 102)).ownsRow base 102 13 (.slice va n vc) n (L.flatMap sqL) := ownsRow_upd hown ((Upd.refl (fun _ => False) wr).alloc _) (fun _ _ h => h)
 have h0 : (wr.alloc (.cells #[] 102)).ownsRow wr.heap.size 102 13 (.slice (some ⟨wr.heap.size, 0, none⟩) 0 0) 0 [] := World.ownsRow_lit wr #[] 0 (Nat.le_refl _) (by simp [maxLen]) rfl
 have hlen : (L.flatMap sqL).length = n * 13 := hown.1
 have hS : Src Tryz.prog 13 22 (.slice va n vc) n (L.flatMap sqL) (wr.alloc (.cells #[] 102)) := by
  rcases hown'.2 with ⟨e, e0⟩ | ⟨g, _, _, e, _⟩
  ·subst e0
   obtain ⟨rfl, rfl⟩ : va = none ∧ vc = 0 := by injection e with e1 e2 e3; exact ⟨e1, e3⟩
   have : L.flatMap sqL = [] := List.length_eq_zero_iff.1 (by simpa using hlen)
   rw [this]
   exact Src.ofNil _ Tryz.underlying22 0
  ·obtain rfl : va = some ⟨g, 0, none⟩ := by injection e
   refine Src.ofSlice _ Tryz.underlying22 _ n vc _ hlen (fun j u hj => ?_) (fun v hv => ?_)
   ·have hjl := (List.getElem?_eq_some_iff.1 hj).1
    rw [hlen] at hjl
    rw [Addr.add_lit, Nat.zero_add]
    exact (hown'.cellAt j hjl).trans hj
   ·obtain ⟨y, _, hy⟩ := List.mem_flatMap.1 hv
    exact sqL_one y v hy
 refine step_appW _ hgd s x 22 22 ho wr.heap.size 102 i0 _ 13 168 Tryz.underlying22 hi0 hz0 hz1 hz2 rfl _ 0 _ hv h0 _ n _ hx hS (by unfold maxLen; omega) (by omega) (by simp) ?_
 intro v1 w1 o1 g1 m1
 rw [List.nil_append, Nat.zero_add] at o1
 obtain ⟨va', vc', rfl⟩ := owns_sliceS o1
 exact h va' vc' w1 o1 (((Upd.refl (fun q => (Value.slice (some ⟨wr.heap.size, 0, none⟩) 0 0).ownBlock = some q) wr).alloc _).grown g1 (fun k _ e => e) |>.below (Nat.le_refl _) (fun k hk e => by simp [Value.ownBlock] at e; omega))
set_option maxHeartbeats 4000000 in
theorem trace_any (ad : Option Addr) (n cap : Nat) (X : List Sp) (P : Nat → Pl) (w : World) (hX : SpsAt w ad n X P) (hSm : ∀ a ∈ X, a.Small) (hn : n * 168 ≤ 140737488351232) :
  Calls Tryz.prog 44 #[.slice ad n cap] w fun e w' => ∃ va vl vc, e = .returned (.slice va vl vc) ∧ Hid (∃ hi lo, TrI w X P hi lo vl va vc w') := by
 have MY := may_any ad n cap X P w hX hSm hn
 have HX : Hid (SpsAt w ad n X P ∧ ∀ a ∈ X, a.Small) := ⟨hX, hSm⟩
 clear hX hSm
 go_enter Tryz.func44, Tryz.ntmps44
 go_wp2_with (go_at_call 73; (with_reducible refine MY.mono ?_); clear MY; rintro e w1 ⟨ma, ml, mc, rfl, HM⟩)
 obtain ⟨M, hm1, hm2, hm3, hm4, hm5⟩ := HM.out
 obtain ⟨hi, lo, hhl⟩ : ∃ hi lo : Int, ∀ h : 0 < M.length, M[0].1.hi = hi ∧ M[0].1.lo = lo := by
  cases M with
  | nil => exact ⟨0, 0, fun h => by simp at h⟩
  | cons y M => exact ⟨y.1.hi, y.1.lo, fun _ => ⟨rfl, rfl⟩⟩
 have HH : Hid (∀ h : 0 < M.length, M[0].1.hi = hi ∧ M[0].1.lo = lo) := hhl
 have hml : ml ≤ n := hm1
 have HML : Hid (M.length = ml ∧ ∀ x ∈ M, MayP X P x) := ⟨hm2, hm3⟩
 have HB1 : Hid (Below w.heap.size w w1) := hm5
 have HOW : Hid (∀ W, Below w1.heap.size w1 W → W.ownsRow w.heap.size 102 13 (.slice ma ml mc) ml (M.flatMap sqL)) := fun W hW => ownsRow_upd hm4 (Upd.ofBelow (S := fun _ => False) hW (fun k h1 h2 => by omega)) (fun _ _ h => h)
 have HMA : Hid (0 < ml → ∃ g, ma = some ⟨g, 0, none⟩) := fun h => by
  rcases hm4.2 with ⟨_, e⟩ | ⟨g, _, _, e, _⟩
  ·omega
  ·exact ⟨g, by injection e⟩
 have H0 : Hid (TrI w1 X P hi lo 0 none 0 w1) := ⟨[], rfl, by omega, (fun x hx => by cases hx), ⟨(fun x hx => by cases hx), by simp⟩, World.ownsRow_nil _ _ _ _, Below.refl _ _⟩
 clear hm1 hm2 hm3 hm4 hm5 hhl HM
 go_loopw [4, 5] (fun z4 z5 wr => ∃ (k ll : Nat) (oa : Option Addr) (oc : Nat), z4 = .slice oa ll oc ∧ z5 = .int .i64 k ∧ k ≤ ml ∧ Hid (TrI w1 X P hi lo ll oa oc wr)) (fun _ z5 _ => ml - (intOf z5).toNat)
 case atStart => exact ⟨0, 0, none, 0, rfl, rfl, by omega, H0⟩
 case round =>
  clear H0
  obtain ⟨k, ll, oa, oc, rfl, rfl, hk, HI⟩ := hrel
  by_cases hlt : k < ml
  ·have hlt' : (k : Int) < (ml : Int) := by omega
   have hml0 : (0 : Int) < (ml : Int) := by omega
   have hkM : k < M.length := by rw [HML.out.1]; exact hlt
   have h0M : 0 < M.length := by omega
   obtain ⟨g, rfl⟩ := HMA.out (by omega)
   obtain ⟨B, hB1, hB2, hB3, hB4, hown, hbel⟩ := HI.out
   obtain ⟨y, hy⟩ : ∃ y, M[k] = y := ⟨_, rfl⟩
   obtain ⟨b, q⟩ := y
   have RC : ∀ W, Below wr.heap.size wr W → ∀ j u, (sqL (b, q))[j]? = some u → W.cell? ⟨g, k * 13 + j, none⟩ = some u := fun W hW j u hu => by
    have hj : j < 13 := by
     have := (List.getElem?_eq_some_iff.1 hu).1
     rw [sqL_len] at this
     exact this
    rw [(HOW.out W (hbel.trans (hW.mono hbel.size))).cellAt (k * 13 + j) (by omega), sq_at M k hkM j hj, hy]
    exact hu
   have RZ : ∀ j u, (sqL M[0])[j]? = some u → wr.cell? ⟨g, j, none⟩ = some u := fun j u hu => by
    have hj : j < 13 := by
     have := (List.getElem?_eq_some_iff.1 hu).1
     rw [sqL_len] at this
     exact this
    have e := sq_at M 0 h0M j hj
    rw [Nat.zero_mul, Nat.zero_add] at e
    rw [(HOW.out wr hbel).cellAt j (by omega), e]
    exact hu
   have c0 : wr.cell? ⟨g, k * 13, none⟩ = some (.int .u64 b.hi) := RC wr (Below.refl _ _) 0 _ rfl
   have c1 : wr.cell? ⟨g, k * 13 + 1, none⟩ = some (.int .u64 b.lo) := RC wr (Below.refl _ _) 1 _ rfl
   have z0 : wr.cell? ⟨g, 0, none⟩ = some (.int .u64 hi) := by rw [← (HH.out h0M).1]; exact RZ 0 _ rfl
   have z1 : wr.cell? ⟨g, 1, none⟩ = some (.int .u64 lo) := by rw [← (HH.out h0M).2]; exact RZ 1 _ rfl
   have HKP : Hid (∀ w', Below wr.heap.size wr w' → TrI w1 X P hi lo ll oa oc w') := fun w' hb => ⟨B, hB1, hB2, hB3, hB4, ownsRow_upd hown (Upd.ofBelow (S := fun _ => False) hb (fun k h1 h2 => by omega)) (fun _ _ h => h), hbel.trans (hb.mono hbel.size)⟩
   by_cases hs : b.hi = hi ∧ b.lo = lo
   ·have HRC : Hid (∀ W, Below wr.heap.size wr W → ∀ j u, (sqL (b, q))[j]? = some u → W.cell? ⟨g, k * 13 + j, none⟩ = some u) := RC
    have HBB : Hid (B.length = ll ∧ ll ≤ 1000 ∧ (∀ x ∈ B, MayP X P x) ∧ TrQ hi lo B ∧ wr.ownsRow w1.heap.size 102 13 (.slice oa ll oc) ll (B.flatMap sqL) ∧ Below w1.heap.size w1 wr) := ⟨hB1, hB2, hB3, hB4, hown, hbel⟩
    have HS : Hid (b.hi = hi ∧ b.lo = lo) := hs
    have hll : ll ≤ 1000 := hB2
    rw [hs.1] at c0
    rw [hs.2] at c1
    clear RC RZ hB1 hB2 hB3 hB4 hown hbel hs HI
    go_upto_region 6 with fail
    go_quiet (fail)
    go_upto_region 7 with fail
    obtain ⟨U, hU⟩ : ∃ U, wr.drewN nq = U := ⟨_, rfl⟩
    have HBU : Hid (Below wr.heap.size wr U) := by rw [← hU]; exact below_drewN (Below.refl _ _) nq
    rw [hU]
    clear hU c0 c1 z0 z1
    have KP : ∀ W, Below U.heap.size U W → W.cell? ⟨g, k * 13, none⟩ = some (.int .u64 b.hi) ∧ W.cell? ⟨g, k * 13 + 1, none⟩ = some (.int .u64 b.lo) ∧ W.cell? ⟨g, k * 13 + 2, none⟩ = some (.int .u64 b.id) ∧ W.cell? ⟨g, k * 13 + 3, none⟩ = some (.int .u64 b.par) ∧ W.cell? ⟨g, k * 13 + 4, none⟩ = some (.slice q.la b.links.length q.lc) ∧ W.cell? ⟨g, k * 13 + 5, none⟩ = some (.string b.svc) ∧ W.cell? ⟨g, k * 13 + 6, none⟩ = some (.string b.op) ∧ W.cell? ⟨g, k * 13 + 7, none⟩ = some (.int .i64 b.kind) ∧ W.cell? ⟨g, k * 13 + 8, none⟩ = some (.int .i64 b.status) ∧ W.cell? ⟨g, k * 13 + 9, none⟩ = some (.int .i64 b.start) ∧ W.cell? ⟨g, k * 13 + 10, none⟩ = some (.int .i64 b.fin) ∧ W.cell? ⟨g, k * 13 + 11, none⟩ = some (.slice q.aa b.attrs.length q.ac) ∧ W.cell? ⟨g, k * 13 + 12, none⟩ = some (.slice q.ea b.events.length q.ec) := fun W hW => ⟨HRC.out W (HBU.out.trans (hW.mono HBU.out.size)) 0 _ rfl, HRC.out W (HBU.out.trans (hW.mono HBU.out.size)) 1 _ rfl, HRC.out W (HBU.out.trans (hW.mono HBU.out.size)) 2 _ rfl, HRC.out W (HBU.out.trans (hW.mono HBU.out.size)) 3 _ rfl, HRC.out W (HBU.out.trans (hW.mono HBU.out.size)) 4 _ rfl, HRC.out W (HBU.out.trans (hW.mono HBU.out.size)) 5 _ rfl, HRC.out W (HBU.out.trans (hW.mono HBU.out.size)) 6 _ rfl, HRC.out W (HBU.out.trans (hW.mono HBU.out.size)) 7 _ rfl, HRC.out W (HBU.out.trans (hW.mono HBU.out.size)) 8 _ rfl, HRC.out W (HBU.out.trans (hW.mono HBU.out.size)) 9 _ rfl, HRC.out W (HBU.out.trans (hW.mono HBU.out.size)) 10 _ rfl, HRC.out W (HBU.out.trans (hW.mono HBU.out.size)) 11 _ rfl, HRC.out W (HBU.out.trans (hW.mono HBU.out.size)) 12 _ rfl⟩
    have BR : Below U.heap.size U U.drew := (Below.refl _ _).drew
    have O5 : U.drew.ownsRow w1.heap.size 102 13 (.slice oa ll oc) ll (B.flatMap sqL) := ownsRow_upd HBB.out.2.2.2.2.1 (Upd.ofBelow (S := fun _ => False) (HBU.out.trans (BR.mono HBU.out.size)) (fun k h1 h2 => by omega)) (fun _ _ h => h)
    have z5 : w1.heap.size ≤ U.drew.heap.size := Nat.le_trans HBB.out.2.2.2.2.2.size (HBU.out.trans (BR.mono HBU.out.size)).size
    have hyM : MayP X P (b, q) := HML.out.2 _ (by rw [← hy]; exact List.getElem_mem hkM)
    have HPU : Hid (∀ va vc W, W.ownsRow U.drew.heap.size 102 13 (.slice va ll vc) ll (B.flatMap sqL) → Below U.drew.heap.size U.drew W → Calls Tryz.prog 74 #[.slice va ll vc, .agg #[.int .u64 b.hi, .int .u64 b.lo, .int .u64 b.id, .int .u64 b.par, .slice q.la b.links.length q.lc, .string b.svc, .string b.op, .int .i64 b.kind, .int .i64 b.status, .int .i64 b.start, .int .i64 b.fin, .slice q.aa b.attrs.length q.ac, .slice q.ea b.events.length q.ec]] W fun e w' => ∃ va' vl' vc', e = .returned (.slice va' vl' vc') ∧ Hid (vl' ≤ 1001 ∧ (vl' ≤ 1000 → TrI w1 X P hi lo vl' va' vc' w') ∧ TrI w1 X P hi lo ll oa oc w') ∧ Hid (Below U.drew.heap.size U.drew w')) := by
     intro va vc W hW hbW
     have hW0 : Below wr.heap.size wr U.drew := HBU.out.trans (BR.mono HBU.out.size)
     have SA : ∀ V, Below w.heap.size w V → ∀ x, MayP X P x → SpAt V x.1 x.2 ∧ x.1.Small := fun V hV x hx => by
      obtain ⟨i, h, e, _⟩ := hx
      subst e
      exact ⟨(HX.out.1.below hV).each i h, HX.out.2 _ (List.getElem_mem h)⟩
     have b1 : Below w.heap.size w wr := HB1.out.trans (HBB.out.2.2.2.2.2.mono HB1.out.size)
     have b2 : Below w.heap.size w U.drew := b1.trans (hW0.mono b1.size)
     have bw : Below w.heap.size w W := b2.trans (hbW.mono b2.size)
     refine (put_any U.drew.heap.size va ll vc B b q W hW hbW.size HBB.out.1 (fun x hx => SA W bw x (HBB.out.2.2.1 x hx)) (SA W bw _ hyM).1 (SA W bw _ hyM).2 hll).mono ?_
     rintro e w' ⟨va', vl', vc', rfl, HP⟩
     obtain ⟨B', p1, p2, p3, p4⟩ := HP.out
     have q1 : Below U.drew.heap.size W w' := p4.below hbW.size (fun k hk e => by have := (owns_lt hW e).1; omega)
     have q2 : Below U.drew.heap.size U.drew w' := hbW.trans q1
     have q3 : Below wr.heap.size wr w' := hW0.trans (q2.mono hW0.size)
     obtain ⟨m1, m2⟩ := put_mem p1
     refine ⟨va', vl', vc', rfl, ⟨by have := HBB.out.1; omega, fun h => ⟨B', p2, h, fun x hx => ?_, HBB.out.2.2.2.1.put HS.out p1, own_mono p3 z5, HBB.out.2.2.2.2.2.trans (q3.mono HBB.out.2.2.2.2.2.size)⟩, HKP.out w' q3⟩, q2⟩
     rcases m1 x hx with h | rfl
     ·exact HBB.out.2.2.1 x h
     ·exact hyM
    go_region_held_law (fun W => W.cell? ⟨g, k * 13, none⟩ = some (.int .u64 b.hi) ∧ W.cell? ⟨g, k * 13 + 1, none⟩ = some (.int .u64 b.lo) ∧ W.cell? ⟨g, k * 13 + 2, none⟩ = some (.int .u64 b.id) ∧ W.cell? ⟨g, k * 13 + 3, none⟩ = some (.int .u64 b.par) ∧ W.cell? ⟨g, k * 13 + 4, none⟩ = some (.slice q.la b.links.length q.lc) ∧ W.cell? ⟨g, k * 13 + 5, none⟩ = some (.string b.svc) ∧ W.cell? ⟨g, k * 13 + 6, none⟩ = some (.string b.op) ∧ W.cell? ⟨g, k * 13 + 7, none⟩ = some (.int .i64 b.kind) ∧ W.cell? ⟨g, k * 13 + 8, none⟩ = some (.int .i64 b.status) ∧ W.cell? ⟨g, k * 13 + 9, none⟩ = some (.int .i64 b.start) ∧ W.cell? ⟨g, k * 13 + 10, none⟩ = some (.int .i64 b.fin) ∧ W.cell? ⟨g, k * 13 + 11, none⟩ = some (.slice q.aa b.attrs.length q.ac) ∧ W.cell? ⟨g, k * 13 + 12, none⟩ = some (.slice q.ea b.events.length q.ec)) (first | exact KP _ BR | exact KP _ (BR.alloc BR.size _) | exact KP _ (BR.trans (bb.mono BR.size)) | exact KP _ (BR.trans (H7.out.mono BR.size)))
     ((first
      | (refine step_appA U.drew (by rfl) (.tmp 25) (.tmp 26) (by rfl) w1.heap.size oa ll oc B U.drew.heap.size rfl (by rfl) O5 (by rfl) (by omega) z5 ?_; intro va' vc' w5 h5 bb)
      | (go_simp; go_at_call 74; refine (HPU.out _ _ _ h5 bb).mono ?_; rintro e w6 ⟨va2, vl2, vc2, rfl, H6, H7⟩)))
    by_cases h8 : vl2 ≤ 1000
    ·have d8 : decide ((vl2 : Int) ≤ 1000) = true := decide_eq_true (by omega)
     have d9 : (vl2 : Int) ≤ 1000 := by omega
     have HR : Hid (TrI w1 X P hi lo vl2 va2 vc2 w6) := H6.out.2.1 h8
     clear H6 H7 KP BR O5 HPU h8 bb h5
     go_wp2
     go_roundw
     case rel => exact ⟨k + 1, vl2, va2, vc2, rfl, by go_num, by omega, HR⟩
     case measure => (simp [intOf]; omega)
    ·have d8 : decide ((vl2 : Int) ≤ 1000) = false := decide_eq_false (by omega)
     have d9 : (1000 : Int) < (vl2 : Int) := by omega
     have HR : Hid (TrI w1 X P hi lo ll oa oc w6) := H6.out.2.2
     clear H6 H7 KP BR O5 HPU h8 bb h5
     go_wp2
     go_roundw
     case rel => exact ⟨k + 1, ll, oa, oc, rfl, by go_num, by omega, HR⟩
     case measure => (simp [intOf]; omega)
   ·clear RZ RC hown hbel hB1 hB2 hB3 hB4
    by_cases h2 : b.hi = hi
    ·have e2 : (b.lo == lo) = false := by simp; exact fun e => hs ⟨h2, e⟩
     have e3 : (b.lo != lo) = true := by simp; exact fun e => hs ⟨h2, e⟩
     rw [h2] at c0
     clear hs h2
     go_upto_region 6 with fail
     go_quiet (fail)
     go_wp2
     go_roundw
     case rel => exact ⟨k + 1, ll, oa, oc, rfl, by go_num, by omega, HKP.out _ (below_drewN (Below.refl _ _) _)⟩
     case measure => (simp [intOf]; omega)
    ·have e2 : (b.hi == hi) = false := by simp; exact h2
     have e3 : (b.hi != hi) = true := by simp; exact h2
     clear hs h2
     go_upto_region 6 with fail
     go_quiet (fail)
     go_wp2
     go_roundw
     case rel => exact ⟨k + 1, ll, oa, oc, rfl, by go_num, by omega, HKP.out _ (below_drewN (Below.refl _ _) _)⟩
     case measure => (simp [intOf]; omega)
  ·obtain rfl : ml = k := by omega
   have HEN : Hid (∃ hi lo, TrI w X P hi lo ll oa oc wr) := by
    obtain ⟨B, hB1, hB2, hB3, hB4, hown, hbel⟩ := HI.out
    exact ⟨hi, lo, B, hB1, hB2, hB3, hB4, own_mono hown HB1.out.size, HB1.out.trans (hbel.mono HB1.out.size)⟩
   clear HX HI HOW HMA HH HML
   go_wp2
   go_ret
   exact ⟨oa, ll, oc, rfl, HEN⟩
theorem TrI.sps {w wr : World} {ad : Option Addr} {n : Nat} {X : List Sp} {P : Nat → Pl} {hi lo : Int} {ll oc : Nat} {oa : Option Addr} (h : TrI w X P hi lo ll oa oc wr) (hX : SpsAt w ad n X P) (hF : ∀ a ∈ X, a.Fits) (hS : ∀ a ∈ X, a.Small) :
  ∃ Z : List Sp, ∃ Q : Nat → Pl, Z.length = ll ∧ ll ≤ 1000 ∧ SpsAt wr oa ll Z Q ∧ OneT Z ∧ Below w.heap.size w wr := by
 obtain ⟨B, h1, h2, h3, h4, h5, h6⟩ := h
 have hm : ∀ x ∈ B, x.1 ∈ X ∧ chkS x.1 = 0 ∧ SpAt wr x.1 x.2 := fun x hx => by
  obtain ⟨i, hi, e, hc⟩ := h3 x hx
  subst e
  exact ⟨List.getElem_mem hi, hc, (hX.below h6).each i hi⟩
 refine ⟨B.map Prod.fst, fun i => (B.getD i (⟨0, 0, 0, 0, [], ⟨#[]⟩, ⟨#[]⟩, 0, 0, 0, 0, [], []⟩, pl0)).2, by simp [h1], h2, ⟨by simp [h1], fun hp => ?_, fun i hi => ?_⟩, ⟨by simp [h1, h2], ?_, ?_, ?_, ?_, ?_⟩, h6⟩
 ·rcases h5.2 with ⟨_, e⟩ | ⟨g, cap, cur, e, _⟩
  ·omega
  ·obtain ⟨rfl, rfl⟩ : oa = some ⟨g, 0, none⟩ ∧ oc = cap := by injection e with e1 e2 e3; exact ⟨e1, e3⟩
   refine ⟨g, 0, rfl, fun i hi j u hu => ?_⟩
   have hiB : i < B.length := by simpa using hi
   have hj : j < 13 := by
    have := (Array.getElem?_eq_some_iff.1 hu).1
    exact this
   rw [Nat.zero_add, h5.cellAt (i * 13 + j) (by omega), sq_at B i hiB j hj]
   rw [List.getElem_map] at hu
   simp only [List.getD, List.getElem?_eq_getElem hiB, Option.getD_some] at hu
   show (spC B[i].1 B[i].2).toList[j]? = some u
   rw [Array.getElem?_toList]
   exact hu
 ·have hiB : i < B.length := by simpa using hi
  rw [List.getElem_map]
  simp only [List.getD, List.getElem?_eq_getElem hiB, Option.getD_some]
  exact (hm _ (List.getElem_mem hiB)).2.2
 ·intro a ha
  obtain ⟨x, hx, rfl⟩ := List.mem_map.1 ha
  exact (hm x hx).2.1
 ·intro a ha
  obtain ⟨x, hx, rfl⟩ := List.mem_map.1 ha
  exact hF _ (hm x hx).1
 ·intro a ha
  obtain ⟨x, hx, rfl⟩ := List.mem_map.1 ha
  exact hS _ (hm x hx).1
 ·intro a ha b hb
  obtain ⟨x, hx, rfl⟩ := List.mem_map.1 ha
  obtain ⟨y, hy, rfl⟩ := List.mem_map.1 hb
  have e1 := h4.tr x hx
  have e2 := h4.tr y hy
  exact ⟨e1.1.trans e2.1.symm, e1.2.trans e2.2.symm⟩
 ·rw [List.map_map]
  exact h4.ids
theorem buildG (ad : Option Addr) (n cap : Nat) (X : List Sp) (P : Nat → Pl) (w w1 : World) (hb : Below w.heap.size w w1) (hX : SpsAt w1 ad n X P) (hO : OneT X) (hT : Tabs w) :
  Calls Tryz.prog 27 #[.slice ad n cap] w1 fun e w' => ∃ f sb Y X' K rv R C dp fin, e = .returned (.tuple #[.pointer (some ⟨f, 0, none⟩), .int .i64 0]) ∧ ForestAt w' f sb X' K rv R ∧ FoB Y C dp fin X' K R ∧ X'.length = n ∧ Below w.heap.size w w' := by
 refine (build_total ad n cap X P w1 hX hO.fits hO.small (hT.below hb)).mono ?_
 rintro e w' (⟨h1, Y, hp, hr, f, sb, X', K, rv, R, C, dp, fin, rfl, h2, _, h4, h5, h6⟩ | ⟨h1, _⟩)
 ·exact ⟨f, sb, Y, X', K, rv, R, C, dp, fin, rfl, h2, ⟨h5, h4, h2.rise, one_perm h1 hp⟩, by rw [h5.len, ← hp.length_eq]; exact hX.len, hb.trans (h6.mono hb.size)⟩
 ·exact absurd hO h1
end Go.Proofs.YtnffedmcblbkoaaGreatDoor
