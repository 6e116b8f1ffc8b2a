/-
  Merged: IC, NA, NC, NB, ND, NE, NF.
-/
import Derived.Test.YtobjjdggjgnfcaaGreatDoorTJq
import Derived.Test.YtobjjdggjgnfcaaGreatDoorTQq
import Derived.Test.YtobjjdggjgnfcaaGreatDoorOZ
import Derived.Test.YtobjjdggjgnfcaaGreatDoorFKq
import Derived.Test.YtobjjdggjgnfcaaGreatDoorKAq
import Derived.Test.YtobjjdggjgnfcaaGreatDoorPMq
import Derived.Test.YtobjjdggjgnfcaaGreatDoorQAq
namespace Go.Proofs.YtobjjdggjgnfcaaGreatDoor
open Go Go.RowKit
set_option maxRecDepth 100000

structure RZ (w : World) (g : Nat) (sa : Option Addr) (sc : Nat) (L : List Sq) (nb cn : Nat) (V : List Nod) (Z : List Spot) : Prop where
  sp : FSp w g sa sc L
  len : L.length = Z.length
  each : ∀ i (h : i < L.length) (h' : i < Z.length), L[i].1 = Z[i].a ∧ Z[i].a.id = Z[i].nd.id
  at_ : ∀ x ∈ L, SpAt w x.1 x.2 ∧ x.1.links.length ≤ 1000 ∧ x.1.attrs.length ≤ 1000 ∧ x.1.events.length ≤ 1000
  nd : 0 < Z.length → FNd w g nb cn V
  vlen : 0 < Z.length → V.length = Z.length
  vat : ∀ i (h : i < V.length) (h' : i < Z.length), V[i] = Z[i].nd
theorem FSp.below {w w' : World} {f : Nat} {ad : Option Addr} {cap : Nat} {L : List Sq} (h : FSp w f ad cap L) (hb : Below w.heap.size w w') : FSp w' f ad cap L :=
  ⟨(hb.cell (p := ⟨f, 0, none⟩) (World.block_lt_of_cell? w _ h.head)).trans h.head, fun hl => by obtain ⟨g, e, hr⟩ := h.row hl; exact ⟨g, e, hr.below hb⟩, h.rise, h.len, h.pos⟩
theorem RZ.below {w w' : World} {g : Nat} {sa : Option Addr} {sc : Nat} {L : List Sq} {nb cn : Nat} {V : List Nod} {Z : List Spot} (h : RZ w g sa sc L nb cn V Z) (hb : Below w.heap.size w w') : RZ w' g sa sc L nb cn V Z :=
  ⟨h.sp.below hb, h.len, h.each, fun x hx => ⟨(h.at_ x hx).1.below hb, (h.at_ x hx).2⟩, fun hl => (h.nd hl).below hb, h.vlen, h.vat⟩
theorem rangeB {w : World} {b : Nat} {c : List Value} {T : TypeId} (h : Blk w b c.toArray T) : w.rangeAt b 0 c := fun j v hv => by rw [Nat.zero_add]; exact h.cell j (by rw [List.getElem?_toArray]; exact hv)
def uL (x : Int) : List Value := [.int .u64 x]
theorem uL_len (x : Int) : (uL x).length = 1 := rfl
theorem infoU1 : ∃ i, Tryz.prog.info? 24 = some i ∧ i.zero = some (.int .u64 0) ∧ i.size = 1 ∧ i.bytes = 8 := by
  have h : (Tryz.prog.info? 24).map (fun i => (i.zero, i.size, i.bytes)) = some (some (.int .u64 0), 1, 8) := by kernel_rfl
  cases hi : Tryz.prog.info? 24 with
  | none => rw [hi] at h; simp at h
  | some i => rw [hi] at h; simp at h; exact ⟨i, rfl, h.1, h.2.1, h.2.2⟩
theorem wpList_appU {ops : Array Oper} {rest : List Oper} {o : Oper} {a : Act} {Q : Exit → Act → World → Prop} (wr : World) (hgd : o.guard = none) (s x : Operand)
    (ho : o.op = .call { callee := .builtin .append, args := #[s, x], argTypes := #[31, 31] })
    (base : Nat) (v : Value) (n : Nat) (M : List Int) (y : Int) (b : Nat) (hb : b = wr.heap.size) (hv : a.eval s = v) (hown : wr.ownsRow base 24 1 v n (M.flatMap uL)) (hl : M.length = n) (hx : a.eval x = .slice (some ⟨b, 0, none⟩) 1 1) (hn : n ≤ 1000000) (hbase : base ≤ wr.heap.size)
    (h : ∀ va vc w', w'.ownsRow base 24 1 (.slice va (n + 1) vc) (n + 1) ((M ++ [y]).flatMap uL) → Upd (fun q => v.ownBlock = some q) wr w' → wpList Tryz.prog ops Q rest (a.put o.dst (.slice va (n + 1) vc)) w') : wpList Tryz.prog ops Q (o :: rest) a (wr.alloc (.cells #[.int .u64 y] 24)) := by
  subst hb
  obtain ⟨i0, hi0, hz0, hz1, hz2⟩ := infoU1
  have hown' : (wr.alloc (.cells #[.int .u64 y] 24)).ownsRow base 24 1 v n (M.flatMap uL) := ownsRow_upd hown ((Upd.refl (fun _ => False) wr).alloc _) (fun _ _ h => h)
  refine wpList_app _ hgd s x 31 31 ho base 24 i0 (.int .u64 0) 8 Tryz.underlying31 hi0 hz0 hz1 hz2 rfl v n _ hv hown' _ 1 [.int .u64 y] hx (src_one Tryz.underlying31 wr _ _ rfl) (by unfold maxLen; omega) (by omega) (by simp; omega) ?_
  intro v1 w1 o1 g1 m1
  have e : M.flatMap uL ++ [.int .u64 y] = (M ++ [y]).flatMap uL := by simp [uL]
  rw [e] at o1
  obtain ⟨va, vc, rfl⟩ := owns_sliceS o1
  exact h va vc w1 o1 (((Upd.refl _ wr).alloc _).grown g1 (fun k _ e => e))
section
variable {w : World} {g : Nat} {sa : Option Addr} {sc : Nat} {L : List Sq} {nb cn : Nat} {V : List Nod} {Z : List Spot}
theorem RZ.found (h : RZ w g sa sc L nb cn V Z) (k : Nat) (hk : k < Z.length) : Calls Tryz.prog 98 #[.pointer (some ⟨g, 0, none⟩), .int .u64 Z[k].nd.id] w fun e w' => e = .returned (.int .i64 k) ∧ w' = w := by
  have hkL : k < L.length := by rw [h.len]; exact hk
  refine (rFind_any g sa sc L Z[k].nd.id w h.sp).mono ?_
  rintro e w' ⟨rfl, rfl⟩
  rw [h.sp.idx_is _ k hkL (by rw [(h.each k hkL hk).1, (h.each k hkL hk).2])]
  exact ⟨rfl, rfl⟩
theorem RZ.lost (h : RZ w g sa sc L nb cn V Z) (id : Int) (hn : ∀ k (hk : k < Z.length), Z[k].nd.id ≠ id) : Calls Tryz.prog 98 #[.pointer (some ⟨g, 0, none⟩), .int .u64 id] w fun e w' => e = .returned (.int .i64 (-1)) ∧ w' = w := by
  refine (rFind_any g sa sc L id w h.sp).mono ?_
  rintro e w' ⟨rfl, rfl⟩
  rw [FSp.idx_no id fun i hi e => hn i (by rw [← h.len]; exact hi) (by rw [← (h.each i hi (by rw [← h.len]; exact hi)).2, ← (h.each i hi (by rw [← h.len]; exact hi)).1]; exact e)]
  exact ⟨rfl, rfl⟩
set_option maxHeartbeats 1000000 in
theorem rNode_at (h : RZ w g sa sc L nb cn V Z) (k : Nat) (hk : k < Z.length) : Calls Tryz.prog 58 #[.pointer (some ⟨g, 0, none⟩), .int .u64 Z[k].nd.id] w fun e w' => e = .returned (.tuple #[ndV Z[k].nd, .bool true]) ∧ Below w.heap.size w w' := by
  have FI : Hid (∀ W, Below w.heap.size w W → Calls Tryz.prog 98 #[.pointer (some ⟨g, 0, none⟩), .int .u64 Z[k].nd.id] W fun e w' => e = .returned (.int .i64 k) ∧ w' = W) := fun W hb => (h.below hb).found k hk
  have h0 : 0 < Z.length := by omega
  have hN := h.nd h0
  have hV := h.vlen h0
  have BB : Hid (Below w.heap.size w (w.alloc (.cells #[.int .u64 0, .int .u64 0, .int .i64 0, .int .u64 0, .int .i64 0, .int .i64 0, .int .i64 0] 48))) := (Below.refl _ _).alloc (Nat.le_refl _) _
  have hN' := hN.below BB.out
  have hh := hN'.head
  have hkV : k < V.length := by omega
  have RG : Hid ((w.alloc (.cells #[.int .u64 0, .int .u64 0, .int .i64 0, .int .u64 0, .int .i64 0, .int .i64 0, .int .i64 0] 48)).rangeAt nb (k * 7) (ndL Z[k].nd)) := by have := hN'.row.range ndL_len k hkV; rwa [h.vat k hkV hk] at this
  have hl : V.length ≤ 1000 := hN.len
  generalize Z[k].nd = d at *
  generalize V.length = n at *
  clear h hN hN' hV h0 hk
  have hk' : (k : Int) < (n : Int) := by omega
  have hk0 : ¬ (k : Int) < 0 := by omega
  go_enter Tryz.func58, Tryz.ntmps58
  go_wp2_with (first
    | (go_at_call 98; ((with_reducible refine (FI.out _ BB.out).mono ?_); clear FI; rintro e w1 ⟨rfl, hw1⟩; subst hw1))
    | (refine wpList_load_mid rfl 48 _ rfl nb (k * 7) rfl (ndL d) _ RG.out Tryz.underlying48 rfl (by kernel_rfl) ?_)
    | (refine wpList_stW rfl 48 _ _ rfl w.heap.size [.int .u64 0, .int .u64 0, .int .i64 0, .int .u64 0, .int .i64 0, .int .i64 0, .int .i64 0] (ndL d) 48 (Blk.new _ _ _) rfl rfl rfl (by kernel_rfl) (ndL_one d) ?_; intro w4 n4 u4; have HB4 : Hid (Below w.heap.size w w4) := BB.out.trans (u4.below (by simp) (fun j hj e => by omega)); have HN4 : Hid (Blk w4 w.heap.size (ndL d).toArray 48) := n4; clear n4 u4)
    | (refine wpList_load_mid rfl 48 _ rfl w.heap.size 0 rfl (ndL d) _ (rangeB HN4.out) Tryz.underlying48 rfl (by kernel_rfl) ?_))
  (try simp only [Exit.inBlock, Exit.then])
  refine bodyPost_ret (v := .tuple #[ndV d, .bool true]) ?_ rfl ⟨rfl, HB4.out⟩
  rw [results_cell_tmp rfl]
  simp [asAddr, Result.andThen, blk_loadN HN4.out]
set_option maxHeartbeats 1000000 in
theorem rSpan_at (h : RZ w g sa sc L nb cn V Z) (k : Nat) (hk : k < Z.length) : Calls Tryz.prog 59 #[.pointer (some ⟨g, 0, none⟩), .int .u64 Z[k].nd.id] w fun e w' => ∃ p', e = .returned (.tuple #[spV Z[k].a p', .bool true]) ∧ Below w.heap.size w w' := by
  have FI : Hid (∀ W, Below w.heap.size w W → Calls Tryz.prog 98 #[.pointer (some ⟨g, 0, none⟩), .int .u64 Z[k].nd.id] W fun e w' => e = .returned (.int .i64 k) ∧ w' = W) := fun W hb => (h.below hb).found k hk
  have hkL : k < L.length := by rw [h.len]; exact hk
  have BB : Hid (Below w.heap.size w (w.alloc (.cells zSpL.toArray 112))) := (Below.refl _ _).alloc (Nat.le_refl _) _
  have h' := h.below BB.out
  obtain ⟨sg, rfl, hR⟩ := h'.sp.row (by omega)
  have hh := h'.sp.head
  have RG : Hid ((w.alloc (.cells zSpL.toArray 112)).rangeAt sg (k * 13) (sqL L[k])) := hR.range sqL_len k hkL
  have hl := h.sp.len
  have CL : Hid (∀ W, Below w.heap.size w W → Calls Tryz.prog 99 #[spV L[k].1 L[k].2] W fun e w' => ∃ p', e = .returned (spV L[k].1 p') ∧ (∀ w5, (∀ k, W.heap.size ≤ k → k < w'.heap.size → w5.heap[k]? = w'.heap[k]?) → SpAt w5 L[k].1 p') ∧ Below W.heap.size W w') := fun W hb => by
    have hA := (h.below hb).at_ L[k] (List.getElem_mem hkL)
    exact rClone_any L[k].1 L[k].2 W hA.1 hA.2.1 hA.2.2.1 hA.2.2.2
  have e1 := (h.each k hkL hk).1
  rw [← e1]
  generalize L[k] = y at *
  obtain ⟨a, p⟩ := y
  generalize Z[k].nd.id = id at *
  generalize L.length = n at *
  unfold sqL at RG
  clear h hR e1 hk h'
  have hk' : (k : Int) < (n : Int) := by omega
  have hk0 : ¬ (k : Int) < 0 := by omega
  unfold zSpL at hh BB RG
  simp only at hh BB RG
  go_enter Tryz.func59, Tryz.ntmps59
  go_wp2_with (first
    | (go_at_call 98; ((with_reducible refine (FI.out _ BB.out).mono ?_); clear FI; rintro e w1 ⟨rfl, hw1⟩; subst hw1))
    | (refine wpList_load_mid rfl 112 _ rfl sg (k * 13) rfl (spC a p).toList _ RG.out Tryz.underlying112 rfl (by kernel_rfl) ?_)
    | (go_at_call 99; (refine (CL.out _ BB.out).mono ?_); clear CL; rintro e w8 ⟨p', rfl, _, hb8⟩; have HB8 : Hid (Below w.heap.size w w8) := BB.out.trans (hb8.mono BB.out.size); have HN8 : Hid (Blk w8 w.heap.size zSpL.toArray 112) := Blk.below (Blk.new w zSpL.toArray 112) hb8 (by simp); clear hb8)
    | (refine wpList_stW rfl 112 _ _ rfl w.heap.size zSpL (spC a p').toList 112 HN8.out rfl rfl rfl (by kernel_rfl) (spC_one a p') ?_; intro w4 n4 u4; have HB4 : Hid (Below w.heap.size w w4) := HB8.out.trans (u4.below HB8.out.size (fun j hj e => by omega)); have HN4 : Hid (Blk w4 w.heap.size (spC a p').toList.toArray 112) := n4; clear n4 u4)
    | (refine wpList_load_mid rfl 112 _ rfl w.heap.size 0 rfl (spC a p').toList _ (rangeB HN4.out) Tryz.underlying112 rfl (by kernel_rfl) ?_))
  (try simp only [Exit.inBlock, Exit.then])
  refine bodyPost_ret (v := .tuple #[.agg (spC a p').toList.toArray, .bool true]) ?_ rfl ⟨p', rfl, HB4.out⟩
  rw [results_cell_tmp rfl]
  have hld := blk_loadS (by rfl) HN4.out
  simp [asAddr, Result.andThen, hld]
set_option maxHeartbeats 2000000 in
theorem rIDs_any (h : RZ w g sa sc L nb cn V Z) : Calls Tryz.prog 66 #[.pointer (some ⟨g, 0, none⟩)] w fun e w' => ∃ va vl vc, e = .returned (.slice va vl vc) ∧ Hid (vl = Z.length ∧ w'.ownsRow w.heap.size 24 1 (.slice va vl vc) vl (((Z.map (fun x => x.nd.id)).take Z.length).flatMap uL)) ∧ Below w.heap.size w w' := by
  have HZ : Hid (RZ w g sa sc L nb cn V Z) := h
  have hl := h.sp.len
  obtain ⟨n, hn⟩ : ∃ n, L.length = n := ⟨_, rfl⟩
  have HN : Hid (L.length = n ∧ Z.length = n) := ⟨hn, by rw [← h.len]; exact hn⟩
  rw [hn] at hl
  rw [HN.out.2]
  clear h hn
  have hn1 : (n : Int) ≤ 1000 := by omega
  go_enter Tryz.func66, Tryz.ntmps66
  go_wp2
  go_loopw [3, 4] (fun v x wr => ∃ (k : Nat) (va : Option Addr) (vc : Nat), v = .slice va k vc ∧ x = .int .i64 k ∧ k ≤ n ∧ Hid (wr.ownsRow w.heap.size 24 1 (.slice va k vc) k (((Z.map (fun x => x.nd.id)).take k).flatMap uL)) ∧ Hid (Below w.heap.size w wr)) (fun _ x _ => n - (intOf x).toNat)
  case atStart => exact ⟨0, none, 0, rfl, rfl, by omega, World.ownsRow_nil _ _ _ _, Below.refl _ _⟩
  case round =>
    obtain ⟨k, va, vc, rfl, rfl, hk, HO, HB⟩ := hrel
    have hZr := HZ.out.below HB.out
    have hh := hZr.sp.head
    rw [HN.out.1] at hh
    by_cases hlt : k < n
    · have hlt' : (k : Int) < (n : Int) := by omega
      have hkL : k < L.length := by rw [HN.out.1]; exact hlt
      have hkZ : k < Z.length := by rw [HN.out.2]; exact hlt
      obtain ⟨sg, rfl, c2, _⟩ := hZr.sp.idpar k hkL
      rw [(hZr.each k hkL hkZ).1, (hZr.each k hkL hkZ).2] at c2
      have HT : Hid ((Z.map (fun x => x.nd.id)).take (k + 1) = (Z.map (fun x => x.nd.id)).take k ++ [Z[k].nd.id]) := by
        show _ = _
        rw [List.take_add_one, List.getElem?_eq_getElem (by simpa using hkZ)]
        simp
      have HTL : Hid (((Z.map (fun x => x.nd.id)).take k).length = k) := by show _ = _; simp; omega
      have HV : Hid (∀ j, (Value.slice va k vc).ownBlock = some j → w.heap.size ≤ j) := fun j e => by
        rcases HO.out.2 with ⟨e1, _⟩ | ⟨g', cap, cur, e1, hb, _⟩
        · rw [e1] at e; simp [Value.ownBlock] at e
        · rw [e1] at e; simp [Value.ownBlock] at e; omega
      generalize Z[k].nd.id = y at *
      clear hZr
      go_wp2_with (at_builtin; (refine wpList_appU wr rfl _ _ rfl w.heap.size (.slice va k vc) k _ y _ rfl rfl HO.out HTL.out rfl (by omega) HB.out.size ?_; intro va9 vc9 w' hr' hu'); have HO' : Hid _ := hr'; have HB' : Hid (Below w.heap.size w w') := HB.out.trans (hu'.below HB.out.size (fun j hj e => by have := HV.out j e; omega)); clear hr' hu')
      go_roundw
      case rel => exact ⟨k + 1, _, _, rfl, by go_num, by omega, by show World.ownsRow _ _ _ _ _ _ _; rw [HT.out]; exact HO'.out, HB'⟩
      case measure => simp [intOf]; omega
    · obtain rfl : k = n := by omega
      have hlt' : ¬ (k : Int) < (k : Int) := by omega
      go_wp2
      go_ret
      exact ⟨_, _, _, rfl, ⟨rfl, HO.out⟩, HB.out⟩
end
end Go.Proofs.YtobjjdggjgnfcaaGreatDoor

namespace Go.Proofs.YtobjjdggjgnfcaaGreatDoor
open Go Go.RowKit
set_option maxRecDepth 100000

structure OrdZ (w : World) (f : Nat) (oa : Option Addr) (oc n : Nat) (O : List Nat) : Prop where
  head : w.cell? ⟨f, 2, none⟩ = some (.slice oa O.length oc)
  cell : ∀ i (h : i < O.length), ∃ ob, oa = some ⟨ob, 0, none⟩ ∧ w.cell? ⟨ob, i, none⟩ = some (.int .i64 (O[i] : Int))
  mem : ∀ i, i ∈ O ↔ i < n
  nd : O.Nodup
theorem OrdZ.below {w w' : World} {f : Nat} {oa : Option Addr} {oc n : Nat} {O : List Nat} (h : OrdZ w f oa oc n O) (hb : Below w.heap.size w w') : OrdZ w' f oa oc n O :=
  ⟨(hb.cell (p := ⟨f, 2, none⟩) (World.block_lt_of_cell? w _ h.head)).trans h.head, fun i hi => by
    obtain ⟨ob, e, hc⟩ := h.cell i hi
    exact ⟨ob, e, (hb.cell (p := ⟨ob, i, none⟩) (World.block_lt_of_cell? w _ hc)).trans hc⟩, h.mem, h.nd⟩
theorem OrdZ.len {w : World} {f : Nat} {oa : Option Addr} {oc n : Nat} {O : List Nat} (h : OrdZ w f oa oc n O) : O.length ≤ n := by
  have := sub_len O (List.range n) h.nd (fun x hx => List.mem_range.2 ((h.mem x).1 hx))
  simpa using this
def ordF (Z : List Spot) (p : Nod → Bool) (O : List Nat) : List Int := O.flatMap (fun k => match Z[k]? with
  | some x => if p x.nd then [x.nd.id] else []
  | none => [])
theorem ordF_take (Z : List Spot) (p : Nod → Bool) (O : List Nat) (i : Nat) (hi : i < O.length) (hz : O[i] < Z.length) : ordF Z p (O.take (i + 1)) = ordF Z p (O.take i) ++ if p Z[O[i]].nd then [Z[O[i]].nd.id] else [] := by
  unfold ordF
  rw [List.take_add_one, List.getElem?_eq_getElem hi, List.flatMap_append]
  simp [hz]
theorem ordF_len (Z : List Spot) (p : Nod → Bool) : ∀ O : List Nat, (ordF Z p O).length ≤ O.length
  | [] => by simp [ordF]
  | a :: r => by
    have h2 := ordF_len Z p r
    unfold ordF at h2 ⊢
    rw [List.flatMap_cons, List.length_append, List.length_cons]
    have : (match Z[a]? with
      | some x => if p x.nd then [x.nd.id] else []
      | none => ([] : List Int)).length ≤ 1 := by
      split
      · split <;> simp
      · simp
    omega
theorem ordF_mem {Z : List Spot} {p : Nod → Bool} {O : List Nat} {id : Int} : id ∈ ordF Z p O ↔ ∃ k ∈ O, ∃ h : k < Z.length, p Z[k].nd = true ∧ Z[k].nd.id = id := by
  unfold ordF
  rw [List.mem_flatMap]
  constructor
  · rintro ⟨k, hk, h⟩
    by_cases hz : k < Z.length
    · rw [List.getElem?_eq_getElem hz] at h
      by_cases hp : p Z[k].nd = true
      · simp [hp] at h
        exact ⟨k, hk, hz, hp, h.symm⟩
      · simp [hp] at h
    · rw [List.getElem?_eq_none (by omega)] at h
      simp at h
  · rintro ⟨k, hk, hz, hp, rfl⟩
    refine ⟨k, hk, ?_⟩
    rw [List.getElem?_eq_getElem hz]
    simp [hp]
def rtP (d : Nod) : Bool := decide (d.org ≠ 0)
def kdP (id : Int) (d : Nod) : Bool := decide (d.org = 0 ∧ d.par = id)
set_option maxHeartbeats 4000000 in
theorem rRoots_any {w : World} {g : Nat} {sa : Option Addr} {sc : Nat} {L : List Sq} {nb cn : Nat} {V : List Nod} {Z : List Spot} {oa : Option Addr} {oc : Nat} {O : List Nat} (h : RZ w g sa sc L nb cn V Z) (ho : OrdZ w g oa oc Z.length O) :
    Calls Tryz.prog 9 #[.pointer (some ⟨g, 0, none⟩)] w fun e w' => ∃ va vl vc, e = .returned (.slice va vl vc) ∧ Hid ((ordF Z rtP O).length = vl ∧ w'.ownsRow w.heap.size 24 1 (.slice va vl vc) vl ((ordF Z rtP O).flatMap uL)) ∧ Below w.heap.size w w' := by
  have HZ : Hid (RZ w g sa sc L nb cn V Z) := h
  have HO : Hid (OrdZ w g oa oc Z.length O) := ho
  obtain ⟨n, hn⟩ : ∃ n, O.length = n := ⟨_, rfl⟩
  have HN : Hid (O.length = n) := hn
  have hn1 : n ≤ 1000 := by have := ho.len; have := h.sp.len; have := h.len; omega
  clear h ho hn
  go_enter Tryz.func9, Tryz.ntmps9
  go_wp2
  go_loopw [3, 4] (fun v x wr => ∃ (k vl : Nat) (va : Option Addr) (vc : Nat), v = .slice va vl vc ∧ x = .int .i64 k ∧ k ≤ n ∧ Hid ((ordF Z rtP (O.take k)).length = vl ∧ wr.ownsRow w.heap.size 24 1 (.slice va vl vc) vl ((ordF Z rtP (O.take k)).flatMap uL)) ∧ Hid (Below w.heap.size w wr)) (fun _ x _ => n - (intOf x).toNat)
  case atStart => exact ⟨0, 0, none, 0, rfl, rfl, by omega, ⟨rfl, World.ownsRow_nil _ _ _ _⟩, Below.refl _ _⟩
  case round =>
    obtain ⟨k, vl, va, vc, rfl, rfl, hk, HR, HB⟩ := hrel
    have hZr := HZ.out.below HB.out
    have hOr := HO.out.below HB.out
    have h2 := hOr.head
    rw [HN.out] at h2
    by_cases hlt : k < n
    · have hlt' : (k : Int) < (n : Int) := by omega
      have hkO : k < O.length := by rw [HN.out]; exact hlt
      obtain ⟨ob, rfl, c2⟩ := hOr.cell k hkO
      have hz : O[k] < Z.length := (hOr.mem _).1 (List.getElem_mem hkO)
      have hzn : Z.length ≤ 1000 := by have := hZr.sp.len; have := hZr.len; omega
      have FN := hZr.nd (by omega)
      have hV := hZr.vlen (by omega)
      have hkV : O[k] < V.length := by omega
      have h1 := FN.head
      have HT : Hid (ordF Z rtP (O.take (k + 1)) = ordF Z rtP (O.take k) ++ if rtP Z[O[k]].nd then [Z[O[k]].nd.id] else []) := ordF_take Z _ O k hkO hz
      have HVL : Hid (vl ≤ k) := by
        have := ordF_len Z rtP (O.take k)
        rw [HR.out.1, List.length_take] at this
        show vl ≤ k
        omega
      have HV : Hid (∀ j, (Value.slice va vl vc).ownBlock = some j → w.heap.size ≤ j) := fun j e => (owns_lt HR.out.2 e).1
      have RG : Hid (∀ W, Below wr.heap.size wr W → W.rangeAt nb (O[k] * 7) (ndL Z[O[k]].nd)) := fun W hb => by
        have := (FN.row.below hb).range ndL_len O[k] hkV
        rwa [hZr.vat _ hkV hz] at this
      have CE : Hid (∀ W, Below wr.heap.size wr W → W.cell? ⟨g, 1, none⟩ = some (.slice (some ⟨nb, 0, none⟩) V.length cn) ∧ W.cell? ⟨g, 2, none⟩ = some (.slice (some ⟨ob, 0, none⟩) n oc) ∧ W.cell? ⟨ob, k, none⟩ = some (.int .i64 (O[k] : Int))) := fun W hb => ⟨(hb.cell (p := ⟨g, 1, none⟩) (World.block_lt_of_cell? wr _ h1)).trans h1, (hb.cell (p := ⟨g, 2, none⟩) (World.block_lt_of_cell? wr _ h2)).trans h2, (hb.cell (p := ⟨ob, k, none⟩) (World.block_lt_of_cell? wr _ c2)).trans c2⟩
      generalize Z[O[k]].nd = d at *
      generalize O[k] = x at *
      have hxV : (x : Int) < (V.length : Int) := by omega
      generalize V.length = vn at *
      clear FN hV hZr hOr
      have HB0 : Hid (∀ W, Below wr.heap.size wr W → Below w.heap.size w W) := fun W hb => HB.out.trans (hb.mono HB.out.size)
      have HRW : Hid (∀ W, Below wr.heap.size wr W → W.ownsRow w.heap.size 24 1 (.slice va vl vc) vl ((ordF Z rtP (O.take k)).flatMap uL)) := fun W hb => ownsRow_upd HR.out.2 (Upd.ofBelow (S := fun _ => False) hb (fun k h1 h2 => by omega)) (fun _ _ h => h)
      go_upto_region 5 with fail
      refine wp_region_held (S := fun W => Below wr.heap.size wr W) (by kernel_rfl) ?_
      change wpAnyH _ _ _ _ _ _ _ _ (World.drew _)
      have hS : Below wr.heap.size wr wr.drew := (Below.refl _ _).drew
      refine takeH (i := 0) (v := .pointer (some ⟨g, 0, none⟩)) rfl (by kernel_rfl) (by kernel_rfl) (by kernel_rfl) (fun _ _ _ h => h) (Or.inl ⟨by rfl, fun W hW => by go_simp⟩) hS ?_
      simp only [Act.put, List.setIfInBounds_toArray, List.set_cons_zero, List.set_cons_succ]
      refine takeH (i := 1) (v := .pointer (some ⟨g, 0, none⟩)) rfl (by kernel_rfl) (by kernel_rfl) (by kernel_rfl) (fun _ _ _ h => h) (Or.inl ⟨by rfl, fun W hW => by go_simp⟩) hS ?_
      simp only [Act.put, List.setIfInBounds_toArray, List.set_cons_zero, List.set_cons_succ]
      refine takeH (i := 2) (v := .pointer (some ⟨g, 1, none⟩)) rfl (by kernel_rfl) (by kernel_rfl) (by kernel_rfl) (fun _ _ _ h => h) (Or.inl ⟨by rfl, fun W hW => by go_simp⟩) hS ?_
      simp only [Act.put, List.setIfInBounds_toArray, List.set_cons_zero, List.set_cons_succ]
      refine takeH (i := 3) (v := .slice (some ⟨nb, 0, none⟩) vn cn) rfl (by kernel_rfl) (by kernel_rfl) (by kernel_rfl) (fun _ _ _ h => h) (Or.inl ⟨by rfl, fun W hW => by obtain ⟨s1, s2, s3⟩ := CE.out W hW; go_simp⟩) hS ?_
      simp only [Act.put, List.setIfInBounds_toArray, List.set_cons_zero, List.set_cons_succ]
      refine takeH (i := 4) (v := .pointer (some ⟨g, 0, none⟩)) rfl (by kernel_rfl) (by kernel_rfl) (by kernel_rfl) (fun _ _ _ h => h) (Or.inl ⟨by rfl, fun W hW => by go_simp⟩) hS ?_
      simp only [Act.put, List.setIfInBounds_toArray, List.set_cons_zero, List.set_cons_succ]
      refine takeH (i := 5) (v := .pointer (some ⟨g, 0, none⟩)) rfl (by kernel_rfl) (by kernel_rfl) (by kernel_rfl) (fun _ _ _ h => h) (Or.inl ⟨by rfl, fun W hW => by go_simp⟩) hS ?_
      simp only [Act.put, List.setIfInBounds_toArray, List.set_cons_zero, List.set_cons_succ]
      refine takeH (i := 6) (v := .pointer (some ⟨g, 2, none⟩)) rfl (by kernel_rfl) (by kernel_rfl) (by kernel_rfl) (fun _ _ _ h => h) (Or.inl ⟨by rfl, fun W hW => by go_simp⟩) hS ?_
      simp only [Act.put, List.setIfInBounds_toArray, List.set_cons_zero, List.set_cons_succ]
      refine takeH (i := 7) (v := .slice (some ⟨ob, 0, none⟩) n oc) rfl (by kernel_rfl) (by kernel_rfl) (by kernel_rfl) (fun _ _ _ h => h) (Or.inl ⟨by rfl, fun W hW => by obtain ⟨s1, s2, s3⟩ := CE.out W hW; go_simp⟩) hS ?_
      simp only [Act.put, List.setIfInBounds_toArray, List.set_cons_zero, List.set_cons_succ]
      refine takeH (i := 8) (v := .int .i64 (k : Int)) rfl (by kernel_rfl) (by kernel_rfl) (by kernel_rfl) (fun _ _ _ h => h) (Or.inl ⟨by rfl, fun W hW => by go_simp⟩) hS ?_
      simp only [Act.put, List.setIfInBounds_toArray, List.set_cons_zero, List.set_cons_succ]
      refine takeH (i := 9) (v := .pointer (some ⟨ob, k, none⟩)) rfl (by kernel_rfl) (by kernel_rfl) (by kernel_rfl) (fun _ _ _ h => h) (Or.inl ⟨by rfl, fun W hW => by go_simp⟩) hS ?_
      simp only [Act.put, List.setIfInBounds_toArray, List.set_cons_zero, List.set_cons_succ]
      refine takeH (i := 10) (v := .int .i64 (x : Int)) rfl (by kernel_rfl) (by kernel_rfl) (by kernel_rfl) (fun _ _ _ h => h) (Or.inl ⟨by rfl, fun W hW => by obtain ⟨s1, s2, s3⟩ := CE.out W hW; go_simp⟩) hS ?_
      simp only [Act.put, List.setIfInBounds_toArray, List.set_cons_zero, List.set_cons_succ]
      refine takeH (i := 11) (v := .pointer (some ⟨nb, x * 7, none⟩)) rfl (by kernel_rfl) (by kernel_rfl) (by kernel_rfl) (fun _ _ _ h => h) (Or.inl ⟨by rfl, fun W hW => by go_simp⟩) hS ?_
      simp only [Act.put, List.setIfInBounds_toArray, List.set_cons_zero, List.set_cons_succ]
      refine takeH (i := 12) (v := .agg (ndL d).toArray) rfl (by kernel_rfl) (by kernel_rfl) (by kernel_rfl) (fun _ _ _ h => h) (yieldsIf_load_mid (by rfl) 48 _ rfl nb (x * 7) rfl _ _ (fun W hW => RG.out W hW) Tryz.underlying48 rfl (by kernel_rfl)) hS ?_
      simp only [Act.put, List.setIfInBounds_toArray, List.set_cons_zero, List.set_cons_succ]
      refine onlyH (i := 13) rfl (by kernel_rfl) (fun K hK => ?_)
      go_simp
      have hS1 : Below wr.heap.size wr (wr.drew.alloc (.cells (ndL zNd).toArray 48)) := hS.alloc hS.size _
      refine hK _ _ ⟨hS1, ?_⟩
      clear hK K
      refine onlyH (i := 14) rfl (by kernel_rfl) (fun K hK => ?_)
      refine step_stB (by rfl) 48 _ _ (by rfl) wr.heap.size (ndL zNd) (ndL d) 48 (Blk.new wr.drew (ndL zNd).toArray 48) (by rfl) (by rfl) rfl (by kernel_rfl) (ndL_one _) ?_
      intro w5 hB5 hu5
      have hS5 : Below wr.heap.size wr w5 := hS1.trans (hu5.below (by simp) (fun q hq e => by omega))
      refine hK _ _ ⟨hS5, ?_⟩
      clear hK K hS hS1 hu5
      simp only [Act.put]
      refine wpAnyH_done (by kernel_rfl) ?_ _
      have HS5 : Hid (Below wr.heap.size wr w5) := hS5
      obtain ⟨e0, e1, e2, e3, e4, e5, e6, e7⟩ := node_cells hB5
      obtain ⟨B, hBB⟩ : ∃ B, wr.heap.size = B := ⟨_, rfl⟩
      rw [hBB] at e0 e1 e2 e3 e4 e5 e6 e7
      (try rw [hBB])
      clear hS5 hB5 hBB
      clear h1 h2 c2 RG CE
      by_cases hp : d.org = 0
      · have HX : Hid (ordF Z rtP (O.take (k + 1)) = ordF Z rtP (O.take k)) := by
          have e : rtP d = false := by unfold rtP; simp [hp]
          have h := HT.out
          rw [e] at h
          show _ = _
          simpa using h
        have dp : (d.org != 0) = false := by simp [hp]
        clear hp HT
        go_wp2
        go_roundw
        case rel => exact ⟨k + 1, vl, va, vc, rfl, by go_num, by omega, by show _ ∧ _; rw [HX.out]; exact ⟨HR.out.1, HRW.out _ HS5.out⟩, HB0.out _ HS5.out⟩
        case measure => (simp [intOf]; omega)
      · have HX : Hid (ordF Z rtP (O.take (k + 1)) = ordF Z rtP (O.take k) ++ [d.id]) := by
          have e : rtP d = true := by unfold rtP; simp [hp]
          have h := HT.out
          rw [e] at h
          show _ = _
          simpa using h
        have dp : (d.org != 0) = true := by simp [hp]
        clear hp HT
        go_wp2_with (at_builtin; (refine wpList_appU w5 rfl _ _ rfl w.heap.size (.slice va vl vc) vl (ordF Z rtP (O.take k)) d.id _ rfl rfl (HRW.out _ HS5.out) HR.out.1 rfl (by have := HVL.out; omega) (HB0.out _ HS5.out).size ?_; intro va9 vc9 w' hr' hu'); have HO' : Hid _ := hr'; have HB' : Hid (Below w.heap.size w w') := (HB0.out _ HS5.out).trans (hu'.below (HB0.out _ HS5.out).size (fun j hj e => by have := HV.out j e; omega)); clear hr' hu')
        go_roundw
        case rel => exact ⟨k + 1, vl + 1, va9, vc9, rfl, by go_num, by omega, by show _ ∧ _; rw [HX.out]; exact ⟨by rw [List.length_append, HR.out.1]; rfl, HO'.out⟩, HB'⟩
        case measure => (simp [intOf]; omega)
    · obtain rfl : k = n := by omega
      have hlt' : ¬ (k : Int) < (k : Int) := by omega
      have HX : Hid (O.take k = O) := List.take_of_length_le (by rw [HN.out]; exact Nat.le_refl _)
      go_wp2
      go_ret
      rw [HX.out] at HR
      exact ⟨va, vl, vc, rfl, HR, HB.out⟩
set_option maxHeartbeats 4000000 in
theorem rChildren_any {w : World} {g : Nat} {sa : Option Addr} {sc : Nat} {L : List Sq} {nb cn : Nat} {V : List Nod} {Z : List Spot} {oa : Option Addr} {oc : Nat} {O : List Nat} (h : RZ w g sa sc L nb cn V Z) (id : Int) (ho : OrdZ w g oa oc Z.length O) :
    Calls Tryz.prog 144 #[.pointer (some ⟨g, 0, none⟩), .int .u64 id] w fun e w' => ∃ va vl vc, e = .returned (.slice va vl vc) ∧ Hid ((ordF Z (kdP id) O).length = vl ∧ w'.ownsRow w.heap.size 24 1 (.slice va vl vc) vl ((ordF Z (kdP id) O).flatMap uL)) ∧ Below w.heap.size w w' := by
  have HZ : Hid (RZ w g sa sc L nb cn V Z) := h
  have HO : Hid (OrdZ w g oa oc Z.length O) := ho
  obtain ⟨n, hn⟩ : ∃ n, O.length = n := ⟨_, rfl⟩
  have HN : Hid (O.length = n) := hn
  have hn1 : n ≤ 1000 := by have := ho.len; have := h.sp.len; have := h.len; omega
  clear h ho hn
  go_enter Tryz.func144, Tryz.ntmps144
  go_wp2
  go_loopw [5, 6] (fun v x wr => ∃ (k vl : Nat) (va : Option Addr) (vc : Nat), v = .slice va vl vc ∧ x = .int .i64 k ∧ k ≤ n ∧ Hid ((ordF Z (kdP id) (O.take k)).length = vl ∧ wr.ownsRow w.heap.size 24 1 (.slice va vl vc) vl ((ordF Z (kdP id) (O.take k)).flatMap uL)) ∧ Hid (Below w.heap.size w wr)) (fun _ x _ => n - (intOf x).toNat)
  case atStart => exact ⟨0, 0, none, 0, rfl, rfl, by omega, ⟨rfl, World.ownsRow_nil _ _ _ _⟩, Below.refl _ _⟩
  case round =>
    obtain ⟨k, vl, va, vc, rfl, rfl, hk, HR, HB⟩ := hrel
    have hZr := HZ.out.below HB.out
    have hOr := HO.out.below HB.out
    have h2 := hOr.head
    rw [HN.out] at h2
    by_cases hlt : k < n
    · have hlt' : (k : Int) < (n : Int) := by omega
      have hkO : k < O.length := by rw [HN.out]; exact hlt
      obtain ⟨ob, rfl, c2⟩ := hOr.cell k hkO
      have hz : O[k] < Z.length := (hOr.mem _).1 (List.getElem_mem hkO)
      have hzn : Z.length ≤ 1000 := by have := hZr.sp.len; have := hZr.len; omega
      have FN := hZr.nd (by omega)
      have hV := hZr.vlen (by omega)
      have hkV : O[k] < V.length := by omega
      have h1 := FN.head
      have HT : Hid (ordF Z (kdP id) (O.take (k + 1)) = ordF Z (kdP id) (O.take k) ++ if (kdP id) Z[O[k]].nd then [Z[O[k]].nd.id] else []) := ordF_take Z _ O k hkO hz
      have HVL : Hid (vl ≤ k) := by
        have := ordF_len Z (kdP id) (O.take k)
        rw [HR.out.1, List.length_take] at this
        show vl ≤ k
        omega
      have HV : Hid (∀ j, (Value.slice va vl vc).ownBlock = some j → w.heap.size ≤ j) := fun j e => (owns_lt HR.out.2 e).1
      have RG : Hid (∀ W, Below wr.heap.size wr W → W.rangeAt nb (O[k] * 7) (ndL Z[O[k]].nd)) := fun W hb => by
        have := (FN.row.below hb).range ndL_len O[k] hkV
        rwa [hZr.vat _ hkV hz] at this
      have CE : Hid (∀ W, Below wr.heap.size wr W → W.cell? ⟨g, 1, none⟩ = some (.slice (some ⟨nb, 0, none⟩) V.length cn) ∧ W.cell? ⟨g, 2, none⟩ = some (.slice (some ⟨ob, 0, none⟩) n oc) ∧ W.cell? ⟨ob, k, none⟩ = some (.int .i64 (O[k] : Int))) := fun W hb => ⟨(hb.cell (p := ⟨g, 1, none⟩) (World.block_lt_of_cell? wr _ h1)).trans h1, (hb.cell (p := ⟨g, 2, none⟩) (World.block_lt_of_cell? wr _ h2)).trans h2, (hb.cell (p := ⟨ob, k, none⟩) (World.block_lt_of_cell? wr _ c2)).trans c2⟩
      generalize Z[O[k]].nd = d at *
      generalize O[k] = x at *
      have hxV : (x : Int) < (V.length : Int) := by omega
      generalize V.length = vn at *
      clear FN hV hZr hOr
      have HB0 : Hid (∀ W, Below wr.heap.size wr W → Below w.heap.size w W) := fun W hb => HB.out.trans (hb.mono HB.out.size)
      have HRW : Hid (∀ W, Below wr.heap.size wr W → W.ownsRow w.heap.size 24 1 (.slice va vl vc) vl ((ordF Z (kdP id) (O.take k)).flatMap uL)) := fun W hb => ownsRow_upd HR.out.2 (Upd.ofBelow (S := fun _ => False) hb (fun k h1 h2 => by omega)) (fun _ _ h => h)
      go_upto_region 5 with fail
      refine wp_region_held (S := fun W => Below wr.heap.size wr W) (by kernel_rfl) ?_
      change wpAnyH _ _ _ _ _ _ _ _ (World.drew _)
      have hS : Below wr.heap.size wr wr.drew := (Below.refl _ _).drew
      refine takeH (i := 0) (v := .pointer (some ⟨g, 0, none⟩)) rfl (by kernel_rfl) (by kernel_rfl) (by kernel_rfl) (fun _ _ _ h => h) (Or.inl ⟨by rfl, fun W hW => by go_simp⟩) hS ?_
      simp only [Act.put, List.setIfInBounds_toArray, List.set_cons_zero, List.set_cons_succ]
      refine takeH (i := 1) (v := .pointer (some ⟨g, 0, none⟩)) rfl (by kernel_rfl) (by kernel_rfl) (by kernel_rfl) (fun _ _ _ h => h) (Or.inl ⟨by rfl, fun W hW => by go_simp⟩) hS ?_
      simp only [Act.put, List.setIfInBounds_toArray, List.set_cons_zero, List.set_cons_succ]
      refine takeH (i := 2) (v := .pointer (some ⟨g, 1, none⟩)) rfl (by kernel_rfl) (by kernel_rfl) (by kernel_rfl) (fun _ _ _ h => h) (Or.inl ⟨by rfl, fun W hW => by go_simp⟩) hS ?_
      simp only [Act.put, List.setIfInBounds_toArray, List.set_cons_zero, List.set_cons_succ]
      refine takeH (i := 3) (v := .slice (some ⟨nb, 0, none⟩) vn cn) rfl (by kernel_rfl) (by kernel_rfl) (by kernel_rfl) (fun _ _ _ h => h) (Or.inl ⟨by rfl, fun W hW => by obtain ⟨s1, s2, s3⟩ := CE.out W hW; go_simp⟩) hS ?_
      simp only [Act.put, List.setIfInBounds_toArray, List.set_cons_zero, List.set_cons_succ]
      refine takeH (i := 4) (v := .pointer (some ⟨g, 0, none⟩)) rfl (by kernel_rfl) (by kernel_rfl) (by kernel_rfl) (fun _ _ _ h => h) (Or.inl ⟨by rfl, fun W hW => by go_simp⟩) hS ?_
      simp only [Act.put, List.setIfInBounds_toArray, List.set_cons_zero, List.set_cons_succ]
      refine takeH (i := 5) (v := .pointer (some ⟨g, 0, none⟩)) rfl (by kernel_rfl) (by kernel_rfl) (by kernel_rfl) (fun _ _ _ h => h) (Or.inl ⟨by rfl, fun W hW => by go_simp⟩) hS ?_
      simp only [Act.put, List.setIfInBounds_toArray, List.set_cons_zero, List.set_cons_succ]
      refine takeH (i := 6) (v := .pointer (some ⟨g, 2, none⟩)) rfl (by kernel_rfl) (by kernel_rfl) (by kernel_rfl) (fun _ _ _ h => h) (Or.inl ⟨by rfl, fun W hW => by go_simp⟩) hS ?_
      simp only [Act.put, List.setIfInBounds_toArray, List.set_cons_zero, List.set_cons_succ]
      refine takeH (i := 7) (v := .slice (some ⟨ob, 0, none⟩) n oc) rfl (by kernel_rfl) (by kernel_rfl) (by kernel_rfl) (fun _ _ _ h => h) (Or.inl ⟨by rfl, fun W hW => by obtain ⟨s1, s2, s3⟩ := CE.out W hW; go_simp⟩) hS ?_
      simp only [Act.put, List.setIfInBounds_toArray, List.set_cons_zero, List.set_cons_succ]
      refine takeH (i := 8) (v := .int .i64 (k : Int)) rfl (by kernel_rfl) (by kernel_rfl) (by kernel_rfl) (fun _ _ _ h => h) (Or.inl ⟨by rfl, fun W hW => by go_simp⟩) hS ?_
      simp only [Act.put, List.setIfInBounds_toArray, List.set_cons_zero, List.set_cons_succ]
      refine takeH (i := 9) (v := .pointer (some ⟨ob, k, none⟩)) rfl (by kernel_rfl) (by kernel_rfl) (by kernel_rfl) (fun _ _ _ h => h) (Or.inl ⟨by rfl, fun W hW => by go_simp⟩) hS ?_
      simp only [Act.put, List.setIfInBounds_toArray, List.set_cons_zero, List.set_cons_succ]
      refine takeH (i := 10) (v := .int .i64 (x : Int)) rfl (by kernel_rfl) (by kernel_rfl) (by kernel_rfl) (fun _ _ _ h => h) (Or.inl ⟨by rfl, fun W hW => by obtain ⟨s1, s2, s3⟩ := CE.out W hW; go_simp⟩) hS ?_
      simp only [Act.put, List.setIfInBounds_toArray, List.set_cons_zero, List.set_cons_succ]
      refine takeH (i := 11) (v := .pointer (some ⟨nb, x * 7, none⟩)) rfl (by kernel_rfl) (by kernel_rfl) (by kernel_rfl) (fun _ _ _ h => h) (Or.inl ⟨by rfl, fun W hW => by go_simp⟩) hS ?_
      simp only [Act.put, List.setIfInBounds_toArray, List.set_cons_zero, List.set_cons_succ]
      refine takeH (i := 12) (v := .agg (ndL d).toArray) rfl (by kernel_rfl) (by kernel_rfl) (by kernel_rfl) (fun _ _ _ h => h) (yieldsIf_load_mid (by rfl) 48 _ rfl nb (x * 7) rfl _ _ (fun W hW => RG.out W hW) Tryz.underlying48 rfl (by kernel_rfl)) hS ?_
      simp only [Act.put, List.setIfInBounds_toArray, List.set_cons_zero, List.set_cons_succ]
      refine onlyH (i := 13) rfl (by kernel_rfl) (fun K hK => ?_)
      go_simp
      have hS1 : Below wr.heap.size wr (wr.drew.alloc (.cells (ndL zNd).toArray 48)) := hS.alloc hS.size _
      refine hK _ _ ⟨hS1, ?_⟩
      clear hK K
      refine onlyH (i := 14) rfl (by kernel_rfl) (fun K hK => ?_)
      refine step_stB (by rfl) 48 _ _ (by rfl) wr.heap.size (ndL zNd) (ndL d) 48 (Blk.new wr.drew (ndL zNd).toArray 48) (by rfl) (by rfl) rfl (by kernel_rfl) (ndL_one _) ?_
      intro w5 hB5 hu5
      have hS5 : Below wr.heap.size wr w5 := hS1.trans (hu5.below (by simp) (fun q hq e => by omega))
      refine hK _ _ ⟨hS5, ?_⟩
      clear hK K hS hS1 hu5
      simp only [Act.put]
      refine wpAnyH_done (by kernel_rfl) ?_ _
      have HS5 : Hid (Below wr.heap.size wr w5) := hS5
      obtain ⟨e0, e1, e2, e3, e4, e5, e6, e7⟩ := node_cells hB5
      obtain ⟨B, hBB⟩ : ∃ B, wr.heap.size = B := ⟨_, rfl⟩
      rw [hBB] at e0 e1 e2 e3 e4 e5 e6 e7
      (try rw [hBB])
      clear hS5 hB5 hBB
      clear h1 h2 c2 RG CE
      by_cases ho : d.org = 0
      rotate_left
      · have HX : Hid (ordF Z (kdP id) (O.take (k + 1)) = ordF Z (kdP id) (O.take k)) := by
          have e : kdP id d = false := by unfold kdP; simp [ho]
          have h := HT.out
          rw [e] at h
          show _ = _
          simpa using h
        have dp : (d.org == 0) = false := by simp [ho]
        clear ho HT
        go_wp2
        go_roundw
        case rel => exact ⟨k + 1, vl, va, vc, rfl, by go_num, by omega, by show _ ∧ _; rw [HX.out]; exact ⟨HR.out.1, HRW.out _ HS5.out⟩, HB0.out _ HS5.out⟩
        case measure => (simp [intOf]; omega)
      by_cases hp : d.par = id
      rotate_left
      · have HX : Hid (ordF Z (kdP id) (O.take (k + 1)) = ordF Z (kdP id) (O.take k)) := by
          have e : kdP id d = false := by unfold kdP; simp [hp]
          have h := HT.out
          rw [e] at h
          show _ = _
          simpa using h
        have dp : (d.org == 0) = true := by simp [ho]
        have dq : (d.par == id) = false := by simp [hp]
        clear ho hp HT
        go_wp2
        go_roundw
        case rel => exact ⟨k + 1, vl, va, vc, rfl, by go_num, by omega, by show _ ∧ _; rw [HX.out]; exact ⟨HR.out.1, HRW.out _ HS5.out⟩, HB0.out _ HS5.out⟩
        case measure => (simp [intOf]; omega)
      · have HX : Hid (ordF Z (kdP id) (O.take (k + 1)) = ordF Z (kdP id) (O.take k) ++ [d.id]) := by
          have e : kdP id d = true := by unfold kdP; simp [ho, hp]
          have h := HT.out
          rw [e] at h
          show _ = _
          simpa using h
        have dp : (d.org == 0) = true := by simp [ho]
        have dq : (d.par == id) = true := by simp [hp]
        clear ho hp HT
        go_wp2_with (at_builtin; (refine wpList_appU w5 rfl _ _ rfl w.heap.size (.slice va vl vc) vl (ordF Z (kdP id) (O.take k)) d.id _ rfl rfl (HRW.out _ HS5.out) HR.out.1 rfl (by have := HVL.out; omega) (HB0.out _ HS5.out).size ?_; intro va9 vc9 w' hr' hu'); have HO' : Hid _ := hr'; have HB' : Hid (Below w.heap.size w w') := (HB0.out _ HS5.out).trans (hu'.below (HB0.out _ HS5.out).size (fun j hj e => by have := HV.out j e; omega)); clear hr' hu')
        go_roundw
        case rel => exact ⟨k + 1, vl + 1, va9, vc9, rfl, by go_num, by omega, by show _ ∧ _; rw [HX.out]; exact ⟨by rw [List.length_append, HR.out.1]; rfl, HO'.out⟩, HB'⟩
        case measure => (simp [intOf]; omega)
    · obtain rfl : k = n := by omega
      have hlt' : ¬ (k : Int) < (k : Int) := by omega
      have HX : Hid (O.take k = O) := List.take_of_length_le (by rw [HN.out]; exact Nat.le_refl _)
      go_wp2
      go_ret
      rw [HX.out] at HR
      exact ⟨va, vl, vc, rfl, HR, HB.out⟩
end Go.Proofs.YtobjjdggjgnfcaaGreatDoor

namespace Go.Proofs.YtobjjdggjgnfcaaGreatDoor
open Go Go.RowKit
set_option maxRecDepth 100000

theorem ROd.ord {w : World} {f n : Nat} (h : ROd w f n) : ∃ oa oc O, OrdZ w f oa oc n O := by
  obtain ⟨base, ov, O, h1, h2, h3, h4⟩ := h
  by_cases h0 : O.length = 0
  · obtain ⟨oa, oc, rfl⟩ := owns_sliceS h2
    exact ⟨oa, oc, O, h1, fun i hi => by omega, h3, h4⟩
  · obtain ⟨g, cap, rfl, _, hr⟩ := RwG.of_owns h2 (by simp) (by omega)
    refine ⟨_, cap, O, h1, fun i hi => ⟨g, rfl, ?_⟩, h3, h4⟩
    have := hr.cell (fun _ => rfl) i (by simpa using hi) 0 (u := .int .i64 (O[i] : Int)) (by simp [iL])
    rwa [Nat.mul_one, Nat.add_zero] at this
end Go.Proofs.YtobjjdggjgnfcaaGreatDoor

namespace Go.Proofs.YtobjjdggjgnfcaaGreatDoor
open Go Go.RowKit
set_option maxRecDepth 100000

theorem rNode_no {w : World} {g : Nat} {sa : Option Addr} {sc : Nat} {L : List Sq} {nb cn : Nat} {V : List Nod} {Z : List Spot} (h : RZ w g sa sc L nb cn V Z) (id : Int) (hn : ∀ k (hk : k < Z.length), Z[k].nd.id ≠ id) : Calls Tryz.prog 58 #[.pointer (some ⟨g, 0, none⟩), .int .u64 id] w fun e w' => e = .returned (.tuple #[ndV zNd, .bool false]) ∧ Below w.heap.size w w' := by
  have FI : Hid (∀ W, Below w.heap.size w W → Calls Tryz.prog 98 #[.pointer (some ⟨g, 0, none⟩), .int .u64 id] W fun e w' => e = .returned (.int .i64 (-1)) ∧ w' = W) := fun W hb => (h.below hb).lost id hn
  have BB : Hid (Below w.heap.size w (w.alloc (.cells #[.int .u64 0, .int .u64 0, .int .i64 0, .int .u64 0, .int .i64 0, .int .i64 0, .int .i64 0] 48))) := (Below.refl _ _).alloc (Nat.le_refl _) _
  clear h hn
  go_enter Tryz.func58, Tryz.ntmps58
  go_wp2_with (go_at_call 98; ((with_reducible refine (FI.out _ BB.out).mono ?_); clear FI; rintro e w1 ⟨rfl, hw1⟩; subst hw1))
  (try simp only [Exit.inBlock, Exit.then])
  refine bodyPost_ret (v := .tuple #[ndV zNd, .bool false]) ?_ rfl ⟨rfl, BB.out⟩
  rw [results_cell_tmp rfl]
  have hld := blk_loadN (d := zNd) (Blk.new w (ndL zNd).toArray 48)
  unfold ndL zNd at hld
  simp [asAddr, Result.andThen, hld, zNd]
end Go.Proofs.YtobjjdggjgnfcaaGreatDoor

namespace Go.Proofs.YtobjjdggjgnfcaaGreatDoor
open Go Go.RowKit
set_option maxRecDepth 100000

def candP (t : Int) (d : Nod) : Bool := decide (d.fr < d.til) && decide (d.fr < t)
def bestL (t : Int) (a b : Nod) : Prop := untM b t < untM a t ∨ (untM a t = untM b t ∧ a.id < b.id)
def LastB (t : Int) (l : List Nod) (d : Nod) (en : Int) (b : Bool) : Prop := (b = true ∧ d ∈ l ∧ candP t d = true ∧ en = untM d t ∧ ∀ x ∈ l, candP t x = true → ¬ bestL t x d) ∨ (b = false ∧ d = zNd ∧ en = 0 ∧ ∀ x ∈ l, candP t x = false)
theorem LastB.skip {t : Int} {l : List Nod} {d x : Nod} {en : Int} {b : Bool} (h : LastB t l d en b) (hx : candP t x = false) : LastB t (l ++ [x]) d en b := by
  rcases h with ⟨h0, h1, h2, h3, h4⟩ | ⟨h0, h1, h2, h3⟩
  · refine Or.inl ⟨h0, List.mem_append_left _ h1, h2, h3, fun y hy hc => ?_⟩
    rcases List.mem_append.1 hy with hy | hy
    · exact h4 y hy hc
    · rw [List.mem_singleton] at hy; subst hy; rw [hx] at hc; cases hc
  · refine Or.inr ⟨h0, h1, h2, fun y hy => ?_⟩
    rcases List.mem_append.1 hy with hy | hy
    · exact h3 y hy
    · rw [List.mem_singleton] at hy; subst hy; exact hx
theorem LastB.keep {t : Int} {l : List Nod} {d x : Nod} {en : Int} (h : LastB t l d en true) (hx : ¬ bestL t x d) : LastB t (l ++ [x]) d en true := by
  rcases h with ⟨h0, h1, h2, h3, h4⟩ | ⟨h0, _⟩
  · refine Or.inl ⟨h0, List.mem_append_left _ h1, h2, h3, fun y hy hc => ?_⟩
    rcases List.mem_append.1 hy with hy | hy
    · exact h4 y hy hc
    · rw [List.mem_singleton] at hy; subst hy; exact hx
  · cases h0
theorem LastB.take {t : Int} {l : List Nod} {d x : Nod} {en : Int} {b : Bool} (h : LastB t l d en b) (hc : candP t x = true) (hx : b = true → bestL t x d) : LastB t (l ++ [x]) x (untM x t) true := by
  refine Or.inl ⟨rfl, by simp, hc, rfl, fun y hy hcy => ?_⟩
  rcases List.mem_append.1 hy with hy | hy
  · rcases h with ⟨h0, _, _, _, h4⟩ | ⟨_, _, _, h3⟩
    · have a1 := h4 y hy hcy
      have a2 := hx h0
      unfold bestL at a1 a2 ⊢
      omega
    · rw [h3 y hy] at hcy; cases hcy
  · rw [List.mem_singleton] at hy
    subst hy
    unfold bestL
    omega
theorem LastB.await {Y : List Sp} {C : List Int} {dp : Nat → Nat} {fin : Nat → Nod} {X : List Spot} {K : Nat → List Int} {R : List Int} (h : FoB Y C dp fin X K R) {s : Nat} (hs : s < Y.length) {t : Int} {l : List Nod} (hl : ∀ x, x ∈ l ↔ ∃ c ∈ knK K s, x = fin c) {d : Nod} {en : Int} {b : Bool} (hL : LastB t l d en b) :
    (b = true ∧ ∃ c, awaitM fin t (cnK fin K s) = some c ∧ d = fin c ∧ en = untM (fin c) t) ∨ (b = false ∧ awaitM fin t (cnK fin K s) = none) := by
  have hcn : ∀ c, c ∈ cnK fin K s ↔ c ∈ knK K s ∧ (fin c).fr < (fin c).til := fun c => by
    unfold cnK
    simp [List.mem_filter]
  have hlt : ∀ c ∈ knK K s, c < Y.length := fun c hc => ((h.mem s hs c).1 hc).1
  cases ha : awaitM fin t (cnK fin K s) with
  | none =>
    have hn := awaitM_none ha
    rcases hL with ⟨_, h1, h2, _, _⟩ | ⟨h0, _⟩
    · obtain ⟨c, hc, rfl⟩ := (hl d).1 h1
      unfold candP at h2
      simp at h2
      have := hn c ((hcn c).2 ⟨hc, h2.1⟩)
      omega
    · exact Or.inr ⟨h0, rfl⟩
  | some c =>
    obtain ⟨c1, c2, c3⟩ := awaitM_some ha
    obtain ⟨hck, hcm⟩ := (hcn c).1 c1
    have hcc : candP t (fin c) = true := by unfold candP; simp [hcm, c2]
    rcases hL with ⟨h0, h1, h2, h3, h4⟩ | ⟨_, _, _, h3⟩
    · obtain ⟨e, he, rfl⟩ := (hl d).1 h1
      have h2' := h2
      unfold candP at h2'
      simp at h2'
      have a1 := h4 (fin c) ((hl _).2 ⟨c, hck, rfl⟩) hcc
      have a2 := c3 e ((hcn e).2 ⟨he, h2'.1⟩) h2'.2
      have hid : (fin e).id = (fin c).id := by
        unfold bestL at a1
        have := a2.1
        have a3 : untM (fin e) t = untM (fin c) t := by omega
        have := a2.2 a3
        omega
      have : e = c := h.idInj (hlt e he) (hlt c hck) hid
      subst this
      exact Or.inl ⟨h0, e, rfl, rfl, h3⟩
    · have := h3 (fin c) ((hl _).2 ⟨c, hck, rfl⟩)
      rw [hcc] at this
      cases this
end Go.Proofs.YtobjjdggjgnfcaaGreatDoor

namespace Go.Proofs.YtobjjdggjgnfcaaGreatDoor
open Go Go.RowKit
set_option maxRecDepth 100000

def ordN (Z : List Spot) (p : Nod → Bool) (O : List Nat) : List Nod := O.flatMap (fun k => match Z[k]? with
  | some x => if p x.nd then [x.nd] else []
  | none => [])
theorem ordF_eq (Z : List Spot) (p : Nod → Bool) : ∀ O : List Nat, ordF Z p O = (ordN Z p O).map (fun d => d.id)
  | [] => rfl
  | a :: r => by
    have h := ordF_eq Z p r
    unfold ordF ordN at h ⊢
    rw [List.flatMap_cons, List.flatMap_cons, List.map_append, h]
    congr 1
    cases Z[a]? with
    | none => rfl
    | some x =>
      by_cases hp : p x.nd = true
      · simp [hp]
      · simp [hp]
theorem ordN_mem {Z : List Spot} {p : Nod → Bool} {O : List Nat} {d : Nod} : d ∈ ordN Z p O ↔ ∃ k ∈ O, ∃ h : k < Z.length, p Z[k].nd = true ∧ Z[k].nd = d := by
  unfold ordN
  rw [List.mem_flatMap]
  constructor
  · rintro ⟨k, hk, h⟩
    by_cases hz : k < Z.length
    · rw [List.getElem?_eq_getElem hz] at h
      by_cases hp : p Z[k].nd = true
      · simp [hp] at h
        exact ⟨k, hk, hz, hp, h.symm⟩
      · simp [hp] at h
    · rw [List.getElem?_eq_none (by omega)] at h
      simp at h
  · rintro ⟨k, hk, hz, hp, rfl⟩
    refine ⟨k, hk, ?_⟩
    rw [List.getElem?_eq_getElem hz]
    simp [hp]
theorem results_cell_tmp2 {fn : Func} {p u x : Tmp} {ty : TypeId} (h : fn.results = #[.cell p ty, .tmp u, .tmp x]) (tmps : Array Value) (P : Program) (w : World) :
    (results fn tmps).run P w = ((asAddr (tmps.getD p undef)).run P w).andThen fun a w1 => ((loadVar ty a).run P w1).andThen fun v w2 => .ok (.tuple #[v, tmps.getD u undef, tmps.getD x undef]) w2 := by
  simp only [results, h]
  simp [Sem.run_bind, Result.andThen]
def RLs (t : Int) (M : List Nod) (w w1 : World) (k : Nat) (en : Int) (b : Bool) (wr : World) : Prop := ∃ d, LastB t (M.take k) d en b ∧ Blk wr w1.heap.size (ndL d).toArray 48 ∧ Blk wr w.heap.size (ndL zNd).toArray 48 ∧ Below w1.heap.size w1 wr
theorem take_nod (M : List Nod) (k : Nat) (hk : k < M.length) : M.take (k + 1) = M.take k ++ [M[k]] := by
  rw [List.take_add_one, List.getElem?_eq_getElem hk]
  rfl
set_option maxHeartbeats 8000000 in
theorem rLast_any {g : Nat} {sa : Option Addr} {sc : Nat} {L : List Sq} {nb cn : Nat} {V : List Nod} {Z : List Spot} {oa : Option Addr} {oc : Nat} {O : List Nat} (w : World) (h : RZ w g sa sc L nb cn V Z) (ho : OrdZ w g oa oc Z.length O) (id t : Int) :
    Calls Tryz.prog 102 #[.pointer (some ⟨g, 0, none⟩), .int .u64 id, .int .i64 t] w fun e w' => ∃ d en b, e = .returned (.tuple #[ndV d, .int .i64 en, .bool b]) ∧ LastB t (ordN Z (kdP id) O) d en b ∧ Below w.heap.size w w' := by
  have b1 : ∀ o, Below w.heap.size w (w.alloc o) := fun o => (Below.refl _ _).alloc (Nat.le_refl _) o
  have CH := fun o => rChildren_any (h.below (b1 o)) id (ho.below (b1 o))
  have HZ : Hid (RZ w g sa sc L nb cn V Z ∧ OrdZ w g oa oc Z.length O) := ⟨h, ho⟩
  obtain ⟨M, hM⟩ : ∃ M, ordN Z (kdP id) O = M := ⟨_, rfl⟩
  have HM : Hid (ordN Z (kdP id) O = M) := hM
  rw [hM]
  clear h ho hM
  go_enter Tryz.func102, Tryz.ntmps102
  go_wp2_with (go_at_call 144; refine (CH _).mono ?_; clear CH; rintro e w1 ⟨va, vl, vc, rfl, HV, hb1⟩)
  have hbw : Below w.heap.size w w1 := (b1 _).trans (hb1.mono (by simp))
  have HF : Hid (M.length = vl ∧ vl ≤ 1000 ∧ ∀ k (hk : k < M.length), ∃ r, va = some ⟨r, 0, none⟩ ∧ ∀ W, Below w1.heap.size w1 W → W.cell? ⟨r, k, none⟩ = some (.int .u64 M[k].id) ∧ Calls Tryz.prog 58 #[.pointer (some ⟨g, 0, none⟩), .int .u64 M[k].id] W fun e w' => e = .returned (.tuple #[ndV M[k], .bool true]) ∧ Below W.heap.size W w') := by
    have hF := ordF_eq Z (kdP id) O
    have hM := HM.out
    rw [hM] at hF
    have hv := HV.out
    rw [hF] at hv
    have hl : M.length = vl := by have := hv.1; rwa [List.length_map] at this
    have hle := ordF_len Z (kdP id) O
    rw [hF, List.length_map] at hle
    have hO := HZ.out.2.len
    have hZ := HZ.out.1.sp.len
    have hZ2 := HZ.out.1.len
    refine ⟨hl, by omega, fun k hk => ?_⟩
    obtain ⟨r, cap, e1, _, hr⟩ := RwG.of_owns hv.2 (by rw [List.length_map]; exact hl) (by omega)
    injection e1 with e1 _ _
    refine ⟨r, e1, fun W hb => ⟨?_, ?_⟩⟩
    · have := (hr.below hb).cell uL_len k (by rw [List.length_map]; exact hk) 0 (u := .int .u64 M[k].id) (by simp [uL])
      rwa [Nat.mul_one, Nat.add_zero] at this
    · obtain ⟨j, _, hj, _, e2⟩ := ordN_mem.1 (show M[k] ∈ ordN Z (kdP id) O by rw [hM]; exact List.getElem_mem hk)
      have := rNode_at (HZ.out.1.below (hbw.trans (hb.mono hbw.size))) j hj
      rwa [e2] at this
  have HBW : Hid (Below w.heap.size w w1) := hbw
  have HLW : Hid (w.heap.size < w1.heap.size) := by have := hb1.size; rw [World.size_alloc] at this; exact this
  have hvl : vl ≤ 1000 := HF.out.2.1
  have HS : Hid (RLs t M w w1 0 0 false (w1.alloc (.cells #[.int .u64 0, .int .u64 0, .int .i64 0, .int .u64 0, .int .i64 0, .int .i64 0, .int .i64 0] 48))) := by
    have q0 : Blk w1 w.heap.size (ndL zNd).toArray 48 := (Blk.new w (ndL zNd).toArray 48).below hb1 (by simp)
    exact ⟨zNd, Or.inr ⟨rfl, rfl, rfl, fun x hx => by simp at hx⟩, Blk.new w1 (ndL zNd).toArray 48, q0.alloc _, (Below.refl _ _).alloc (Nat.le_refl _) _⟩
  clear HM HV hb1 hbw b1 HZ
  obtain ⟨V1, hV1⟩ : ∃ X, w1.alloc (.cells #[.int .u64 0, .int .u64 0, .int .i64 0, .int .u64 0, .int .i64 0, .int .i64 0, .int .i64 0] 48) = X := ⟨_, rfl⟩
  rw [hV1] at HS ⊢
  obtain ⟨bb, hbb⟩ : ∃ x, w1.heap.size = x := ⟨_, rfl⟩
  have HBB : Hid (w1.heap.size = bb) := hbb
  rw [hbb]
  clear hV1 hbb
  go_loopw [11, 12, 13] (fun z11 z12 z13 wr => ∃ (k : Nat) (en : Int) (b : Bool), z11 = .int .i64 en ∧ z12 = .bool b ∧ z13 = .int .i64 k ∧ k ≤ vl ∧ Hid (RLs t M w w1 k en b wr)) (fun _ _ z13 _ => vl - (intOf z13).toNat)
  case atStart => exact ⟨0, 0, false, rfl, rfl, rfl, by omega, HS⟩
  case round =>
    clear HS
    obtain ⟨k, en, b, rfl, rfl, rfl, hk, HR⟩ := hrel
    by_cases hlt : k < vl
    · have hlt' : (k : Int) < (vl : Int) := by omega
      have hkM : k < M.length := by rw [HF.out.1]; exact hlt
      obtain ⟨e, he, hbl, hz0, hbr⟩ := HR.out
      rw [HBB.out] at hbl
      obtain ⟨r, rfl, hc⟩ := HF.out.2.2 k hkM
      obtain ⟨cr, ND⟩ := hc wr hbr
      have HT : Hid (M.take (k + 1) = M.take k ++ [M[k]]) := take_nod M k hkM
      have HLB : Hid (LastB t (M.take k) e en b) := he
      have HKE : Hid (∀ V, Below wr.heap.size wr V → Blk V bb (ndL e).toArray 48 ∧ Blk V w.heap.size (ndL zNd).toArray 48 ∧ Below w1.heap.size w1 V) := fun V hb => ⟨hbl.below hb hbl.lt, hz0.below hb hz0.lt, hbr.trans (hb.mono hbr.size)⟩
      generalize M[k] = d at *
      unfold ndV at ND
      clear hc he hbl hz0 hbr HR
      go_upto_region 9 with (go_at_call 58; refine ND.mono ?_; clear ND; rintro e' w5 ⟨rfl, hb5⟩; have HB5 : Hid (Below wr.heap.size wr w5) := hb5; clear hb5)
      obtain ⟨V5, hV5⟩ : ∃ X, w5.alloc (.cells #[.int .u64 d.id, .int .u64 d.par, .int .i64 d.org, .int .u64 d.tree, .int .i64 d.dep, .int .i64 d.fr, .int .i64 d.til] 48) = X := ⟨_, rfl⟩
      have q1 : Below wr.heap.size wr V5 := by rw [← hV5]; exact HB5.out.alloc HB5.out.size _
      have q2 : Blk V5 w5.heap.size (ndL d).toArray 48 := by rw [← hV5]; exact Blk.new _ _ _
      obtain ⟨k1, k2, k3⟩ := HKE.out V5 q1
      have HQ : Hid (V5.rangeAt w5.heap.size 0 (ndL d) ∧ Blk V5 bb (ndL e).toArray 48 ∧ Blk V5 w.heap.size (ndL zNd).toArray 48 ∧ Below w1.heap.size w1 V5) := ⟨rangeB q2, k1, k2, k3⟩
      have n0 : V5.cell? ⟨w5.heap.size, 0, none⟩ = some (.int .u64 d.id) := q2.cell 0 rfl
      have n5 : V5.cell? ⟨w5.heap.size, 5, none⟩ = some (.int .i64 d.fr) := q2.cell 5 rfl
      have n6 : V5.cell? ⟨w5.heap.size, 5 + 1, none⟩ = some (.int .i64 d.til) := q2.cell 6 rfl
      have e0 : V5.cell? ⟨bb, 0, none⟩ = some (.int .u64 e.id) := k1.cell 0 rfl
      obtain ⟨nb', hnb⟩ : ∃ x, w5.heap.size = x := ⟨_, rfl⟩
      rw [hnb] at HQ n0 n5 n6 ⊢
      rw [hV5]
      clear hV5 hnb HB5 q1 q2 k1 k2 k3 cr HKE
      by_cases hcd : candP t d = true
      rotate_left
      · have FK : Hid (RLs t M w w1 (k + 1) en b V5) := by
          have hf : candP t d = false := by cases hx : candP t d with | false => rfl | true => exact absurd hx hcd
          refine ⟨e, ?_, by rw [HBB.out]; exact HQ.out.2.1, HQ.out.2.2.1, HQ.out.2.2.2⟩
          rw [HT.out]
          exact LastB.skip HLB.out hf
        by_cases h1 : d.til ≤ d.fr
        · have d1 : decide (d.til ≤ d.fr) = true := decide_eq_true h1
          clear hcd
          go_wp2
          go_roundw
          case rel => exact ⟨k + 1, en, b, rfl, rfl, by go_num, by omega, FK⟩
          case measure => (simp [intOf]; omega)
        · have h2 : t ≤ d.fr := by
            unfold candP at hcd
            simp at hcd
            omega
          have d1 : decide (d.til ≤ d.fr) = false := decide_eq_false h1
          have d2 : decide (t ≤ d.fr) = true := decide_eq_true h2
          clear hcd
          go_wp2
          go_roundw
          case rel => exact ⟨k + 1, en, b, rfl, rfl, by go_num, by omega, FK⟩
          case measure => (simp [intOf]; omega)
      · have h12 : d.fr < d.til ∧ d.fr < t := by unfold candP at hcd; simpa using hcd
        have d1 : decide (d.til ≤ d.fr) = false := decide_eq_false (by omega)
        have d2 : decide (t ≤ d.fr) = false := decide_eq_false (by omega)
        have HCD : Hid (candP t d = true) := hcd
        clear hcd
        go_upto_region 11 with fail
        obtain ⟨u, hu⟩ : ∃ u, min d.til t = u := ⟨_, rfl⟩
        have HU : Hid (untM d t = u) := hu
        rw [hu]
        clear hu h12 d1 d2
        have HUP : Hid ((b = true → bestL t d e) → ∀ w9, Blk w9 bb (ndL d).toArray 48 → Upd (fun q => q = bb) V5 w9 → RLs t M w w1 (k + 1) u true w9) := fun hb w9 hB9 hu9 => by
          refine ⟨d, ?_, by rw [HBB.out]; exact hB9, HQ.out.2.2.1.upd hu9 (fun e => by have := HLW.out; have := HBB.out; omega), HQ.out.2.2.2.trans (hu9.below HQ.out.2.2.2.size (fun q hq e => by have := HBB.out; omega))⟩
          rw [HT.out, ← HU.out]
          exact LastB.take HLB.out HCD.out hb
        have HKP : Hid (b = true → ¬ bestL t d e → RLs t M w w1 (k + 1) en true V5) := fun hb hn => by
          refine ⟨e, ?_, by rw [HBB.out]; exact HQ.out.2.1, HQ.out.2.2.1, HQ.out.2.2.2⟩
          rw [HT.out]
          have hL := HLB.out
          subst hb
          exact LastB.keep hL hn
        have HEN : Hid (b = true → en = untM e t) := fun hb => by
          rcases HLB.out with ⟨_, _, _, h3, _⟩ | ⟨h0, _⟩
          · exact h3
          · rw [hb] at h0; cases h0
        cases b with
        | false =>
          have UX := HUP.out (fun h => by cases h)
          have HUX : Hid (∀ w9, Blk w9 bb (ndL d).toArray 48 → Upd (fun q => q = bb) V5 w9 → RLs t M w w1 (k + 1) u true w9) := UX
          clear UX
          go_upto_region 12 with fail
          clear n0 n5 n6 e0
          go_wp2_with (first
            | (refine wpList_load_mid rfl 48 _ rfl nb' 0 rfl (ndL d) _ HQ.out.1 Tryz.underlying48 rfl (by kernel_rfl) ?_)
            | (refine wpList_stW rfl 48 _ _ rfl bb (ndL e) (ndL d) 48 HQ.out.2.1 rfl rfl rfl (by kernel_rfl) (ndL_one d) ?_; intro w9 n9 u9; have F9 : Hid (RLs t M w w1 (k + 1) u true w9) := HUX.out w9 n9 u9; clear n9 u9))
          go_roundw
          case rel => exact ⟨k + 1, u, true, rfl, rfl, by go_num, by omega, F9⟩
          case measure => (simp [intOf]; omega)
        | true =>
          have hen := HEN.out rfl
          by_cases hc : bestL t d e
          · have UX := HUP.out (fun _ => hc)
            have HUX : Hid (∀ w9, Blk w9 bb (ndL d).toArray 48 → Upd (fun q => q = bb) V5 w9 → RLs t M w w1 (k + 1) u true w9) := UX
            have hc' : en < u ∨ (u = en ∧ d.id < e.id) := by
              unfold bestL at hc
              rw [HU.out, ← hen] at hc
              exact hc
            clear UX hc hen
            by_cases h1 : en < u
            · have f1 : decide (en < u) = true := decide_eq_true h1
              clear hc'
              go_upto_region 12 with fail
              clear n0 n5 n6 e0
              go_wp2_with (first
                | (refine wpList_load_mid rfl 48 _ rfl nb' 0 rfl (ndL d) _ HQ.out.1 Tryz.underlying48 rfl (by kernel_rfl) ?_)
                | (refine wpList_stW rfl 48 _ _ rfl bb (ndL e) (ndL d) 48 HQ.out.2.1 rfl rfl rfl (by kernel_rfl) (ndL_one d) ?_; intro w9 n9 u9; have F9 : Hid (RLs t M w w1 (k + 1) u true w9) := HUX.out w9 n9 u9; clear n9 u9))
              go_roundw
              case rel => exact ⟨k + 1, u, true, rfl, rfl, by go_num, by omega, F9⟩
              case measure => (simp [intOf]; omega)
            · have h2 : u = en := by omega
              have h3 : d.id < e.id := by omega
              have HU2 : Hid (u = en) := h2
              have f1 : decide (en < u) = false := decide_eq_false h1
              have f2 : (u == en) = true := by simp [h2]
              have f3 : decide (d.id < e.id) = true := decide_eq_true h3
              clear hc' h1 h2
              go_upto_region 12 with fail
              clear n0 n5 n6 e0
              go_wp2_with (first
                | (refine wpList_load_mid rfl 48 _ rfl nb' 0 rfl (ndL d) _ HQ.out.1 Tryz.underlying48 rfl (by kernel_rfl) ?_)
                | (refine wpList_stW rfl 48 _ _ rfl bb (ndL e) (ndL d) 48 HQ.out.2.1 rfl rfl rfl (by kernel_rfl) (ndL_one d) ?_; intro w9 n9 u9; have F9 : Hid (RLs t M w w1 (k + 1) u true w9) := HUX.out w9 n9 u9; clear n9 u9))
              go_roundw
              case rel => exact ⟨k + 1, u, true, rfl, rfl, by go_num, by omega, F9⟩
              case measure => (simp [intOf]; omega)
          · have FK : Hid (RLs t M w w1 (k + 1) en true V5) := HKP.out rfl hc
            have hc' : ¬ (en < u ∨ (u = en ∧ d.id < e.id)) := by
              unfold bestL at hc
              rw [HU.out, ← hen] at hc
              exact hc
            have f1 : decide (en < u) = false := decide_eq_false (by omega)
            clear hc hen
            by_cases h2 : u = en
            · have f2 : (u == en) = true := by simp [h2]
              have f3 : decide (d.id < e.id) = false := decide_eq_false (by omega)
              clear hc' h2
              go_wp2
              go_roundw
              case rel => exact ⟨k + 1, en, true, rfl, rfl, by go_num, by omega, FK⟩
              case measure => (simp [intOf]; omega)
            · have f2 : (u == en) = false := by simp [h2]
              clear hc' h2
              go_wp2
              go_roundw
              case rel => exact ⟨k + 1, en, true, rfl, rfl, by go_num, by omega, FK⟩
              case measure => (simp [intOf]; omega)
    · obtain rfl : k = vl := by omega
      obtain ⟨e, he, hbl, hz0, hbr⟩ := HR.out
      rw [HBB.out] at hbl
      have HRG : Hid (wr.rangeAt bb 0 (ndL e)) := rangeB hbl
      have HZ0 : Hid (Blk wr w.heap.size (ndL zNd).toArray 48 ∧ Below w.heap.size w wr) := ⟨hz0, HBW.out.trans (hbr.mono HBW.out.size)⟩
      have HBE : Hid (LastB t M e en b) := by
        rw [List.take_of_length_le (by rw [HF.out.1]; exact Nat.le_refl _)] at he
        exact he
      clear he hbl hz0 hbr HR
      go_wp2_with (first
        | (refine wpList_load_mid rfl 48 _ rfl bb 0 rfl (ndL e) _ HRG.out Tryz.underlying48 rfl (by kernel_rfl) ?_)
        | (refine wpList_stW rfl 48 _ _ rfl w.heap.size (ndL zNd) (ndL e) 48 HZ0.out.1 rfl rfl rfl (by kernel_rfl) (ndL_one e) ?_; intro w9 n9 u9; have HN9 : Hid (Blk w9 w.heap.size (ndL e).toArray 48) := n9; have HB9 : Hid (Below w.heap.size w w9) := HZ0.out.2.trans (u9.below HZ0.out.2.size (fun j hj e => by omega)); clear n9 u9))
      (try simp only [Exit.inBlock, Exit.then])
      refine bodyPost_ret (v := .tuple #[ndV e, .int .i64 en, .bool b]) ?_ rfl ⟨e, en, b, rfl, HBE.out, HB9.out⟩
      rw [results_cell_tmp2 rfl]
      simp [asAddr, Result.andThen, blk_loadN HN9.out]
end Go.Proofs.YtobjjdggjgnfcaaGreatDoor

namespace Go.Proofs.YtobjjdggjgnfcaaGreatDoor
open Go Go.RowKit
set_option maxRecDepth 100000

theorem FoB.parOf {Y : List Sp} {C : List Int} {dp : Nat → Nat} {fin : Nat → Nod} {X : List Spot} {K : Nat → List Int} {R : List Int} (h : FoB Y C dp fin X K R) (j : Nat) (hj : j < Y.length) (i : Nat) (hc : i ∈ knK K j) : (fin i).par = (fin j).id := by
  have hcl : (cutX C (zs Y)).length = Y.length := by rw [cutX_len, zs_len]
  obtain ⟨hi, hn⟩ := (h.mem j hj i).1 hc
  rw [(h.sh.kd i j (by omega) (by omega) hn).2]
  rfl
theorem kids_ord {Y : List Sp} {C : List Int} {dp : Nat → Nat} {fin : Nat → Nod} {X : List Spot} {K : Nat → List Int} {R : List Int} (h : FoB Y C dp fin X K R) (hpar : ∀ i, i < Y.length → (fin i).org ≠ 0 → (fin i).par = 0) {s : Nat} (hs : s < Y.length) {O : List Nat} (hO : ∀ i, i ∈ O ↔ i < Y.length) (x : Nod) : x ∈ ordN X (kdP (fin s).id) O ↔ ∃ c ∈ knK K s, x = fin c := by
  have hl := h.fo.len
  have hid0 : (fin s).id ≠ 0 := by
    rw [← h.ids s hs]
    unfold spAt
    rw [List.getD_eq_getElem?_getD, List.getElem?_eq_getElem hs]
    exact chk_id (h.one.chk _ (List.getElem_mem hs))
  rw [ordN_mem]
  constructor
  · rintro ⟨k, _, hk, hp, rfl⟩
    have hkY : k < Y.length := by omega
    rw [(h.fo.each k hkY hk).2] at hp ⊢
    unfold kdP at hp
    simp at hp
    rcases nmC_range Y C k hkY with hn | ⟨j, hj, hn⟩
    · have hm : (k : Int) ∈ R := h.fo.roots.1.mem_iff.1 (kidsF_iff.2 ⟨k, rfl, hkY, hn⟩)
      obtain ⟨k', e, _, ho, _⟩ := h.root _ hm
      have : k = k' := by omega
      subst this
      exact absurd hp.1 ho
    · have hc : k ∈ knK K j := (h.mem j hj k).2 ⟨hkY, hn⟩
      have e := h.parOf j hj k hc
      have : j = s := h.idInj hj hs (by rw [← e, hp.2])
      subst this
      exact ⟨k, hc, rfl⟩
  · rintro ⟨c, hc, rfl⟩
    have hcY := ((h.mem s hs c).1 hc).1
    have e := h.parOf s hs c hc
    refine ⟨c, (hO c).2 hcY, by omega, ?_, (h.fo.each c hcY (by omega)).2⟩
    rw [(h.fo.each c hcY (by omega)).2]
    unfold kdP
    have ho : (fin c).org = 0 := by
      by_cases hz : (fin c).org = 0
      · exact hz
      · have := hpar c hcY hz
        rw [e] at this
        exact absurd this hid0
    simp [ho, e]
end Go.Proofs.YtobjjdggjgnfcaaGreatDoor
