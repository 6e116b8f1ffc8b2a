/-
  Merged: TsC, ToA.
-/
import Derived.Test.YtnffedmcblbkoaaGreatDoorTsAq
import Derived.Test.YtnffedmcblbkoaaGreatDoorToJq
import Derived.Test.YtnffedmcblbkoaaGreatDoorRAq
import Derived.Test.YtnffedmcblbkoaaGreatDoorO5q
import Derived.Test.YtnffedmcblbkoaaGreatDoorPIq
import Derived.Test.YtnffedmcblbkoaaGreatDoorOXq
namespace Go.Proofs.YtnffedmcblbkoaaGreatDoor
open Go Go.RowKit Go.Lib
set_option maxRecDepth 100000
set_option maxHeartbeats 4000000 in
theorem grownS_any (ad : Option Addr) (n cap : Nat) (X : List Sp) (P : Nat → Pl) (w : World) (hX : SpsAt w ad n X P) (hF : ∀ a ∈ X, a.Fits) (hS : ∀ a ∈ X, a.Small) (hn : n * 168 ≤ 140737488351232) (hT : Tabs w) :
  Calls Tryz.prog 18 #[.slice ad n cap] w fun e w' => ∃ f sb Y X' K rv R C dp fin va vc, e = .returned (.tuple #[.pointer (some ⟨f, 0, none⟩), .slice va Y.length vc, .bool true]) ∧ ForestAt w' f sb X' K rv R ∧ FoB Y C dp fin X' K R ∧ Below w.heap.size w w' := by
 have TR := trace_any ad n cap X P w hX hS hn
 have BD : Hid (∀ va vl vc w1, (∃ hi lo, TrI w X P hi lo vl va vc w1) → vl ≤ 1000 ∧ Calls Tryz.prog 27 #[.slice va vl vc] w1 fun e w' => ∃ f sb Y X' K rv R C dp fin, e = .returned (.tuple #[.pointer (some ⟨f, 0, none⟩), .int .i64 0]) ∧ ForestAt w' f sb X' K rv R ∧ FoB Y C dp fin X' K R ∧ X'.length = vl ∧ Below w.heap.size w w') := fun va vl vc w1 h => by
  obtain ⟨hi, lo, h⟩ := h
  obtain ⟨Z, Q, _, h2, h3, h4, h5⟩ := h.sps hX hF hS
  exact ⟨h2, buildG va vl vc Z Q w w1 h5 h3 h4 hT⟩
 clear hX hF hS hT
 go_enter Tryz.func18, Tryz.ntmps18
 go_wp2_with (first
  | (go_at_call 44; (with_reducible refine TR.mono ?_); clear TR; rintro e w1 ⟨va, vl, vc, rfl, HI⟩; obtain ⟨hvl, B1⟩ := BD.out va vl vc w1 HI.out; clear HI BD)
  | (go_at_call 27; (with_reducible refine B1.mono ?_); clear B1; rintro e w2 ⟨f, sb, Y, X', K, rv, R, C, dp, fin, rfl, h1, h2, h3, h4⟩; have CT := count_any f sb X' K rv R w2 h1; have HV : Hid (Y.length = vl) := h2.fo.len.symm.trans h3; rw [h3] at CT; have HS : Hid (ForestAt w2 f sb X' K rv R ∧ FoB Y C dp fin X' K R ∧ Below w.heap.size w w2) := ⟨h1, h2, h4⟩; clear h1 h2 h3 h4)
  | (go_at_call 33; refine CT.mono ?_; clear CT; rintro e w3 ⟨rfl, rfl⟩))
 go_returns
 exact ⟨f, sb, Y, X', K, rv, R, C, dp, fin, va, vc, by rw [HV.out]; rfl, HS.out.1, HS.out.2.1, HS.out.2.2⟩
theorem own_sizeT : (Tryz.prog.info? 52).map (·.size) = some 4 := by kernel_rfl
theorem blk_loadO {w : World} {b : Nat} {p q r t : Int} (h : Blk w b [.int .u64 p, .int .u64 q, .int .u64 r, .int .u64 t].toArray 52) : (loadVar 52 ⟨b, 0, none⟩).run Tryz.prog w = .ok (.agg #[.int .u64 p, .int .u64 q, .int .u64 r, .int .u64 t]) w :=
 run_loadVar_row (P := Tryz.prog) _ b 52 52 #[.int .u64 p, .int .u64 q, .int .u64 r, .int .u64 t] (0, 0) _ h Tryz.underlying52 rfl own_sizeT
theorem own_oneT (p q r t : Int) : ∀ v ∈ ([.int .u64 p, .int .u64 q, .int .u64 r, .int .u64 t] : List Value), v.oneCell' = true := fun u hu => by
 simp only [List.mem_cons, List.not_mem_nil, or_false] at hu
 rcases hu with rfl | rfl | rfl | rfl <;> rfl
set_option maxHeartbeats 2000000 in
theorem times9_any (oa : Option Addr) (n oc : Nat) (fin : Nat → Nod) (T E S : Nat → Int) (W : World) (HL : LieIn (fun y => [.int .u64 (fin y).id, .int .u64 (T y), .int .u64 (E y), .int .u64 (S y)]) 4 W oa (List.range n)) (hn : n ≤ 1000) (y : Nat) (hy : y < n) (hinj : ∀ a, a < n → (fin a).id = (fin y).id → a = y) :
  Calls Tryz.prog 25 #[.slice oa n oc, .int .u64 (fin y).id] W fun e W' => e = .returned (.tuple #[.agg #[.int .u64 (fin y).id, .int .u64 (T y), .int .u64 (E y), .int .u64 (S y)], .bool true]) ∧ Below W.heap.size W W' := by
 have hB0 : Below W.heap.size W (W.alloc (.cells #[.int .u64 0, .int .u64 0, .int .u64 0, .int .u64 0] 52)) := (Below.refl _ _).alloc (Nat.le_refl _) _
 have HB0 : Hid (Below W.heap.size W (W.alloc (.cells #[.int .u64 0, .int .u64 0, .int .u64 0, .int .u64 0] 52))) := hB0
 have HK0 : Hid (Blk (W.alloc (.cells #[.int .u64 0, .int .u64 0, .int .u64 0, .int .u64 0] 52)) W.heap.size [.int .u64 0, .int .u64 0, .int .u64 0, .int .u64 0].toArray 52) := Blk.new _ _ _
 obtain ⟨gb, rfl, hgl, hc⟩ := (HL.below hB0) (fun e => by have := congrArg List.length e; simp at this; omega)
 have HC : Hid (∀ j, j < n → (W.alloc (.cells #[.int .u64 0, .int .u64 0, .int .u64 0, .int .u64 0] 52)).rangeAt gb (j * 4) [.int .u64 (fin j).id, .int .u64 (T j), .int .u64 (E j), .int .u64 (S j)]) := fun j hj q v hv => hc j (by simpa using hj) q v (by simpa using hv)
 have HIJ : Hid (∀ a, a < n → a ≠ y → ((fin a).id == (fin y).id) = false) := fun a ha hne => by
  simp
  exact fun e => hne (hinj a ha e)
 have HCY : Hid ((W.alloc (.cells #[.int .u64 0, .int .u64 0, .int .u64 0, .int .u64 0] 52)).rangeAt gb (y * 4) [.int .u64 (fin y).id, .int .u64 (T y), .int .u64 (E y), .int .u64 (S y)]) := HC.out y hy
 have HCI : Hid (∀ j, j < n → (W.alloc (.cells #[.int .u64 0, .int .u64 0, .int .u64 0, .int .u64 0] 52)).cell? ⟨gb, j * 4, none⟩ = some (.int .u64 (fin j).id)) := fun j hj => HC.out j hj 0 _ rfl
 have HGL : Hid (gb < (W.alloc (.cells #[.int .u64 0, .int .u64 0, .int .u64 0, .int .u64 0] 52)).heap.size) := hgl
 clear HL hB0 hgl hc hinj HC
 generalize T y = q at *
 generalize E y = r at *
 generalize S y = t at *
 obtain ⟨p, hp⟩ : ∃ p, (fin y).id = p := ⟨_, rfl⟩
 rw [hp] at HIJ HCY ⊢
 clear hp
 go_enter Tryz.func25, Tryz.ntmps25
 go_upto_region 2 with fail
 obtain ⟨V0, hV0⟩ : ∃ V, W.alloc (.cells #[.int .u64 0, .int .u64 0, .int .u64 0, .int .u64 0] 52) = V := ⟨_, rfl⟩
 obtain ⟨rb, hrb⟩ : ∃ b, W.heap.size = b := ⟨_, rfl⟩
 have HWB : Hid (∀ U U', Below V0.heap.size V0 U → Upd (fun k => k = rb) U U' → Below W.heap.size W U') := fun U U' hU hU' => by
  rw [← hV0] at hU
  have b := HB0.out.trans (hU.mono HB0.out.size)
  exact b.trans (hU'.below b.size (fun k hk e => by omega))
 have HGV : Hid (gb < V0.heap.size) := by rw [← hV0]; exact HGL.out
 rw [hV0] at HK0 HCY HCI ⊢
 rw [hrb] at HK0 ⊢
 clear hV0 hrb HB0
 go_loopw [6] (fun z wr => ∃ i : Nat, z = .int .i64 i ∧ i ≤ y ∧ Hid (Below V0.heap.size V0 wr)) (fun z _ => n - (intOf z).toNat)
 case atStart => exact ⟨0, rfl, by omega, Below.refl _ _⟩
 case round =>
  obtain ⟨i, rfl, hi, HW⟩ := hrel
  have hin : (i : Int) < (n : Int) := by omega
  by_cases hiy : i = y
  ·subst hiy
   have RG : Hid (wr.rangeAt gb (i * 4) [.int .u64 p, .int .u64 q, .int .u64 r, .int .u64 t]) := fun j v hv => (HW.out.cell (p := ⟨gb, i * 4 + j, none⟩) HGV.out).trans (HCY.out j v hv)
   have c0 : wr.cell? ⟨gb, i * 4, none⟩ = some (.int .u64 p) := RG.out 0 _ rfl
   have nb1 : (p == p) = true := by simp
   have HKR : Hid (Blk wr rb [.int .u64 0, .int .u64 0, .int .u64 0, .int .u64 0].toArray 52) := HK0.out.below HW.out HK0.out.lt
   clear HCI HIJ
   go_upto_region 5 with fail
   clear c0 nb1
   go_wp2_with (first
    | (refine wpList_load_mid rfl 52 _ rfl gb (i * 4) rfl [.int .u64 p, .int .u64 q, .int .u64 r, .int .u64 t] _ RG.out Tryz.underlying52 rfl (by kernel_rfl) ?_)
    | (refine wpList_stW rfl 52 _ _ rfl rb [.int .u64 0, .int .u64 0, .int .u64 0, .int .u64 0] [.int .u64 p, .int .u64 q, .int .u64 r, .int .u64 t] 52 HKR.out rfl rfl rfl (by kernel_rfl) (own_oneT p q r t) ?_; intro w4 n4 u4; have HN4 : Hid (Blk w4 rb [.int .u64 p, .int .u64 q, .int .u64 r, .int .u64 t].toArray 52) := n4; have HB4 : Hid (Below W.heap.size W w4) := HWB.out wr w4 HW.out u4; clear n4 u4))
   (try simp only [Exit.inBlock, Exit.then])
   refine bodyPost_ret (v := .tuple #[.agg #[.int .u64 p, .int .u64 q, .int .u64 r, .int .u64 t], .bool true]) ?_ rfl ⟨rfl, HB4.out⟩
   rw [results_cell_tmp rfl]
   simp [asAddr, Result.andThen, blk_loadO HN4.out]
  ·have c0 : wr.cell? ⟨gb, i * 4, none⟩ = some (.int .u64 (fin i).id) := (HW.out.cell (p := ⟨gb, i * 4, none⟩) HGV.out).trans (HCI.out i (by omega))
   have nb1 := HIJ.out i (by omega) hiy
   go_wp2
   go_roundw
   case rel => exact ⟨i + 1, by go_num, by omega, HW⟩
   case measure => (simp [intOf]; omega)
section
variable {Y : List Sp} {C : List Int} {dp : Nat → Nat} {fin : Nat → Nod} {X : List Spot} {K : Nat → List Int} {R : List Int}
theorem FoB.tilO (h : FoB Y C dp fin X K R) {x : Nat} (hx : x < Y.length) : TilQ ((legsX fin K dp x).map (legI fin)) (fin x).fr (fin x).til := by
 obtain ⟨_, n2, n3, n4⟩ := h.legsO hx
 obtain ⟨t1, t2⟩ := tile_at _ _ n2.tile
 have key : ∀ k, k ≤ (legsX fin K dp x).length → atQ ((legsX fin K dp x).map (legI fin)) (fin x).fr k = posN (fin x).fr (legsX fin K dp x) k := fun k hk => by
  cases k with
  | zero => rfl
  | succ j =>
   have hj : j < (legsX fin K dp x).length := hk
   show (((legsX fin K dp x).map (legI fin)).getD j (0, 0, 0)).2.2 = ((legsX fin K dp x).getD j (0, _, _)).2.2
   simp [List.getD, hj, legI]
 refine ⟨by simpa using n3, fun k hk => ?_, fun k hk => ?_, ?_, fun hlt => ?_, fun hle => ?_⟩
 ·have hkM : k < (legsX fin K dp x).length := by simpa using hk
  rw [key k (by omega), ← t2 k hkM, List.getElem_map]
  exact ⟨rfl, (n4 _ (List.getElem_mem hkM)).2.2.2.1⟩
 ·have hkM : k + 1 < (legsX fin K dp x).length := by simpa using hk
  rw [List.getElem_map, List.getElem_map]
  exact fun e => adj_at _ n2.adj k hkM (h.inj (n4 _ (List.getElem_mem _)).1 (n4 _ (List.getElem_mem _)).1 e.symm)
 ·rw [key _ (by simp), List.length_map]
  exact t1
 ·rw [List.length_map]
  rcases Nat.eq_zero_or_pos (legsX fin K dp x).length with e | e
  ·rw [e] at t1
   have : (fin x).fr = (fin x).til := t1
   omega
  ·exact e
 ·rw [List.length_map]
  rcases Nat.eq_zero_or_pos (legsX fin K dp x).length with e | e
  ·exact e
  ·have := (TileF.leO _ _ n2.tile).2 _ (List.getElem_mem e)
   omega
theorem FoB.selfSum (h : FoB Y C dp fin X K R) {ro : Nat → Nat} (hr : RooF Y fin K R ro) {x : Nat} (hx : x < Y.length) (ht : (fin x).tree = (fin x).id) : (∀ y, y < Y.length → ((fin y).tree = (fin x).id → selfX fin K dp ro y = sumH (legsX fin K dp x) y) ∧ ((fin y).tree ≠ (fin x).id → sumH (legsX fin K dp x) y = 0)) ∧ sumN (sumH (legsX fin K dp x)) Y.length = (fin x).til - (fin x).fr ∧ ∀ k, 0 ≤ sumN (sumH (legsX fin K dp x)) k ∧ sumN (sumH (legsX fin K dp x)) k ≤ (fin x).til - (fin x).fr := by
 obtain ⟨_, n2, _, n4⟩ := h.legsO hx
 have hall := sumH_all (legsX fin K dp x) Y.length (fun l hl => (n4 l hl).1)
 rw [tile_sum _ _ n2.tile] at hall
 refine ⟨fun y hy => ⟨fun e => ?_, fun e => ?_⟩, hall, fun k => ?_⟩
 ·have : ro y = x := hr.same h hx hy ht (e.trans ht.symm)
  unfold selfX
  rw [this]
 ·exact sumH_none (fun l hl q => e (by have := (n4 l hl).2.1; rw [q] at this; rw [this, ht]))
 ·have nn := sumH_nn (legsX fin K dp x)
  have mono : ∀ a b : Nat, a ≤ b → sumN (sumH (legsX fin K dp x)) a ≤ sumN (sumH (legsX fin K dp x)) b := fun a b hab => by
   induction hab with
   | refl => exact Int.le_refl _
   | step _ ih => rw [sumN_succ]; have := nn ‹Nat›; omega
  have h0 := mono 0 k (Nat.zero_le _)
  have z : sumN (sumH (legsX fin K dp x)) 0 = 0 := rfl
  refine ⟨by omega, ?_⟩
  by_cases hk : k ≤ Y.length
  ·have := mono k _ hk
   omega
  ·have e2 := sumH_all (legsX fin K dp x) k (fun l hl => Nat.lt_trans (n4 l hl).1 (by omega))
   rw [tile_sum _ _ n2.tile] at e2
   omega
end
theorem LieIn.mapT {α β : Type} {f : α → List Value} {g : β → List Value} {k : α → β} {s : Nat} {W : World} {ad : Option Addr} {l : List α} (h : LieIn f s W ad l) (he : ∀ x ∈ l, f x = g (k x)) : LieIn g s W ad (l.map k) := fun hn => by
 obtain ⟨b, e, hb, hc⟩ := h (fun e => hn (by rw [e]; rfl))
 refine ⟨b, e, hb, fun i hi j v hv => ?_⟩
 have hi' : i < l.length := by simpa using hi
 refine hc i hi' j v ?_
 rw [he _ (List.getElem_mem hi')]
 simpa using hv
theorem calls_exT {P : Program} {f : FuncId} {args : Array Value} {w : World} {R : Ending → World → Prop} (h : Calls P f args w R) : ∃ e w', R e w' := by
 obtain ⟨e, w', _, hR, _⟩ := h []
 exact ⟨e, w', hR⟩
theorem sharesT_any {f sb : Nat} {Y : List Sp} {C : List Int} {dp : Nat → Nat} {fin : Nat → Nod} {X : List Spot} {K : Nat → List Int} {rv : Value} {R : List Int} {w : World} (hF : ForestAt w f sb X K rv R) (h : FoB Y C dp fin X K R) (x : Nat) (hx : x < Y.length) (ho : (fin x).org ≠ 0) {N : Nat} (hN : (N : Int) = 18446744073709551615) : ∃ M : List (Nat × Int), M.length ≤ 1000 ∧ (∀ p ∈ M, p.1 < Y.length ∧ 0 < p.2 ∧ p.2 ≤ lenI ((fin p.1).fr, (fin p.1).til) - iv.muV N (memI (kidI fin K p.1))) ∧ (M.map (fun p => p.2)).sum = (fin x).til - (fin x).fr ∧ ∀ W, Below w.heap.size w W → Calls Tryz.prog 22 #[.pointer (some ⟨f, 0, none⟩), .int .u64 (fin x).id] W fun e W' => ∃ ad cap, e = .returned (.tuple #[.slice ad M.length cap, .int .i64 0]) ∧ Hid (LieIn (fun p => [.int .u64 (fin p.1).id, .int .u64 p.2]) 2 W' ad M) ∧ Below W.heap.size W W' := by
 obtain ⟨_, _, ad0, n0, cap0, L, _, hPP, _⟩ := calls_exT (shares_any f sb X K rv R Y C dp fin w hF h x hx ho)
 have hP := hPP.out.1
 have hz : ∀ y ∈ shL L Y.length, y < Y.length ∧ 0 < hungI L y := fun y hy => shL_mem.1 hy
 refine ⟨(shL L Y.length).map (fun y => (y, hungI L y)), by have := shL_len L Y.length; have := h.one.len; simp; omega, fun p hp => ?_, ?_, fun W hW => ?_⟩
 ·obtain ⟨y, hy, rfl⟩ := List.mem_map.1 hp
  obtain ⟨h1, h2⟩ := hz y hy
  have hA := h.aloneLe hx hP h1 hN
  have hH := (h.hung hx hP y).1
  refine ⟨h1, h2, ?_⟩
  unfold iv.muV
  show hungI L y ≤ _
  simp only
  omega
 ·rw [List.map_map]
  exact h.whole hx hP
 ·refine (shares_any f sb X K rv R Y C dp fin W (hF.below hW) h x hx ho).mono ?_
  rintro e W' ⟨ad, n, cap, M, rfl, hM, hM4⟩
  obtain rfl := (hP.one _ hM.out.1).symm
  exact ⟨ad, cap, by simp [hM.out.2.1], hM.out.2.2.mapT (fun y _ => rfl), hM4⟩
end Go.Proofs.YtnffedmcblbkoaaGreatDoor
namespace Go.Proofs.YtnffedmcblbkoaaGreatDoor
open Go Go.RowKit
set_option maxRecDepth 100000
abbrev svDo : ByteArray := ⟨#[100, 111]⟩
abbrev svA1 : ByteArray := ⟨#[97]⟩
abbrev svB1 : ByteArray := ⟨#[98]⟩
def loY : List Sp := [⟨0, 7, 1, 0, [], svA1, svDo, 0, 0, 10, 30, [], []⟩, ⟨0, 7, 2, 1, [], svB1, svDo, 0, 0, 15, 40, [], []⟩]
theorem loAt (w : World) (a : Sp) (ha : a ∈ loY) : SpAt w a pl0 := by
 simp only [loY, List.mem_cons, List.not_mem_nil, or_false] at ha
 rcases ha with rfl | rfl <;> exact ⟨⟨rfl, fun j u hj => by simp [intsV] at hj⟩, ⟨rfl, fun h => by cases h⟩, ⟨rfl, fun h => by cases h⟩, by simp, by simp, by simp⟩
theorem loRise : loY.Pairwise (fun a b => a.id < b.id) := by
 simp [loY]
theorem loOne : OneT loY := by
 refine ⟨by simp [loY], fun a ha => ?_, fun a ha => ?_, fun a ha => ?_, fun a ha b hb => ?_, by simp [loY]⟩
 ·simp only [loY, List.mem_cons, List.not_mem_nil, or_false] at ha
  rcases ha with rfl | rfl <;> decide +kernel
 ·simp only [loY, List.mem_cons, List.not_mem_nil, or_false] at ha
  rcases ha with rfl | rfl <;> exact ⟨by simp, by simp, by simp, by simp, (fun _ h => by cases h), (fun _ h => by cases h)⟩
 ·simp only [loY, List.mem_cons, List.not_mem_nil, or_false] at ha
  rcases ha with rfl | rfl <;> exact ⟨by decide, by decide, (fun _ h => by cases h), (fun _ h => by cases h)⟩
 ·simp only [loY, List.mem_cons, List.not_mem_nil, or_false] at ha hb
  rcases ha with rfl | rfl <;> rcases hb with rfl | rfl <;> exact ⟨rfl, rfl⟩
theorem loNm : nmOf (zs loY) = [-1, 0] := by decide +kernel
def loDp : Nat → Nat
 | 1 => 1
 | _ => 0
def loFin : Nat → Nod
 | 0 => ⟨1, 0, 1, 1, 0, 10, 30⟩
 | _ => ⟨2, 1, 0, 1, 1, 15, 30⟩
theorem loTwo {i : Nat} (h : i < 2) : i = 0 ∨ i = 1 := by omega
theorem loNo : NoRing (nmOf (zs loY)) loY.length := by
 rw [loNm]
 intro i hi
 rcases loTwo (show i < 2 from hi) with rfl | rfl
 ·exact Or.inl (by decide +kernel)
 ·exact Or.inr (by decide +kernel)
theorem loShape : Shape (zs loY) (nmOf (zs loY)) loDp loFin := by
 rw [loNm]
 refine ⟨fun i hi hn => ?_, fun i j hi hj hn => ?_, fun i hi => ?_⟩
 ·rcases loTwo (show i < 2 from hi) with rfl | rfl
  ·exact ⟨rfl, rfl⟩
  ·exact absurd hn (by decide)
 ·rcases loTwo (show i < 2 from hi) with rfl | rfl
  ·exact absurd hn (by simp)
  ·have : j = 0 := by simp at hn; omega
   subst this
   exact ⟨rfl, rfl⟩
 ·rcases loTwo (show i < 2 from hi) with rfl | rfl <;> exact ⟨by decide, by decide, by decide⟩
theorem buildLo (w w1 : World) (hT : Tabs w) (g : Nat) (hb : Below w.heap.size w w1) (hB : Blk w1 g (loY.flatMap enP).toArray 102) : Calls Tryz.prog 27 #[.slice (some ⟨g, 0, none⟩) 2 2] w1 fun e w' => ∃ f sb X K rv R, e = .returned (.tuple #[.pointer (some ⟨f, 0, none⟩), .int .i64 0]) ∧ ForestAt w' f sb X K rv R ∧ FoR loY loFin X K R ∧ Below w.heap.size w w' := by
 refine (build_any (some ⟨g, 0, none⟩) 2 2 loY loY (fun _ => pl0) w1 (spsFlat hB (fun a ha => loAt _ a ha)) loOne (hT.below hb) (List.Perm.refl _) loRise loNo loDp loFin loShape).mono ?_
 rintro e w' ⟨f, sb, X, K, rv, R, rfl, hF, hO, hb'⟩
 exact ⟨f, sb, X, K, rv, R, rfl, hF, hO, hb.trans (hb'.mono hb.size)⟩
theorem nodeLo {W : World} {f sb : Nat} {X : List Spot} {K : Nat → List Int} {rv : Value} {R : List Int} (hF : ForestAt W f sb X K rv R) (hO : FoR loY loFin X K R) : Calls Tryz.prog 10 #[.pointer (some ⟨f, 0, none⟩), .int .u64 2] W fun e w' => e = .returned (.tuple #[.agg #[.int .u64 2, .int .u64 1, .int .i64 0, .int .u64 1, .int .i64 1, .int .i64 15, .int .i64 30], .bool true]) ∧ Below W.heap.size W w' := by
 have hl : X.length = 2 := hO.len
 have e := (hO.each 1 (by decide) (by omega)).2
 have h := node_at hF 1 (by omega) 2 (by rw [e]; rfl)
 rw [e] at h
 exact h
theorem loFlat : (loY.flatMap enP).toArray = #[.int .u64 0, .int .u64 7, .int .u64 1, .int .u64 0, .slice none 0 0, .string svA1, .string svDo, .int .i64 0, .int .i64 0, .int .i64 10, .int .i64 30, .slice none 0 0, .slice none 0 0, .int .u64 0, .int .u64 7, .int .u64 2, .int .u64 1, .slice none 0 0, .string svB1, .string svDo, .int .i64 0, .int .i64 0, .int .i64 15, .int .i64 40, .slice none 0 0, .slice none 0 0] := by rfl
theorem plainLo (t id par s e : Int) (sv : ByteArray) (W : World) : Calls Tryz.prog 43 #[.int .u64 t, .int .u64 id, .int .u64 par, .string sv, .int .i64 s, .int .i64 e] W fun r w' => r = .returned (.agg #[.int .u64 0, .int .u64 t, .int .u64 id, .int .u64 par, .slice none 0 0, .string sv, .string svDo, .int .i64 0, .int .i64 0, .int .i64 s, .int .i64 e, .slice none 0 0, .slice none 0 0]) ∧ Below W.heap.size W w' := by
 have hld := run_loadVar_row (P := Tryz.prog) (W.alloc (.cells #[.int .u64 0, .int .u64 t, .int .u64 id, .int .u64 par, .slice none 0 0, .string sv, .string svDo, .int .i64 0, .int .i64 0, .int .i64 s, .int .i64 e, .slice none 0 0, .slice none 0 0] 102)) W.heap.size 102 102 #[.int .u64 0, .int .u64 t, .int .u64 id, .int .u64 par, .slice none 0 0, .string sv, .string svDo, .int .i64 0, .int .i64 0, .int .i64 s, .int .i64 e, .slice none 0 0, .slice none 0 0] (0, 0) _ (alloc_at (by simp)) Tryz.underlying102 rfl Tryz.info102
 go_enter Tryz.func43, Tryz.ntmps43
 go_wp2
 refine bodyPost_ret (v := .agg #[.int .u64 0, .int .u64 t, .int .u64 id, .int .u64 par, .slice none 0 0, .string sv, .string svDo, .int .i64 0, .int .i64 0, .int .i64 s, .int .i64 e, .slice none 0 0, .slice none 0 0]) ?_ rfl ⟨rfl, (Below.refl _ _).alloc (Nat.le_refl _) _⟩
 rw [results_cell1 rfl]
 simp [asAddr, Result.andThen, hld]
set_option maxHeartbeats 4000000 in
theorem lives_any (w : World) (hT : Tabs w) : Calls Tryz.prog 17 #[] w fun e w' => e = .returned (.bool true) ∧ Below w.heap.size w w' := by
 have BD : Hid (∀ w1 g, Below w.heap.size w w1 → Blk w1 g (loY.flatMap enP).toArray 102 → Calls Tryz.prog 27 #[.slice (some ⟨g, 0, none⟩) 2 2] w1 fun e w' => ∃ f sb X K rv R, e = .returned (.tuple #[.pointer (some ⟨f, 0, none⟩), .int .i64 0]) ∧ ForestAt w' f sb X K rv R ∧ FoR loY loFin X K R ∧ Below w.heap.size w w') := fun w1 g hb hB => buildLo w w1 hT g hb hB
 rw [loFlat] at BD
 have P1 := plainLo 7 1 0 10 30 svA1 w
 clear hT
 go_enter Tryz.func17, Tryz.ntmps17
 go_wp2_with (first
  | (go_at_call 43; (with_reducible refine P1.mono ?_); clear P1; rintro e w1 ⟨rfl, hb1⟩; have HB1 : Hid (Below w.heap.size w w1) := hb1; have P2 := plainLo 7 2 1 15 40 svB1 w1; clear hb1)
  | (go_at_call 43; (with_reducible refine P2.mono ?_); clear P2; rintro e w2 ⟨rfl, hb2⟩; have HB2 : Hid (Below w.heap.size w w2) := HB1.out.trans (hb2.mono HB1.out.size); clear hb2 HB1)
  | (go_at_call 27; refine (BD.out _ w2.heap.size (HB2.out.alloc HB2.out.size _) (Blk.new _ _ _)).mono ?_; clear BD; rintro e w3 ⟨f, sb, X, K, rv, R, rfl, hF, hO, hb3⟩; have N1 := nodeLo hF hO; have HB3 : Hid (Below w.heap.size w w3) := hb3; clear hF hO hb3 HB2)
  | (go_at_call 10; (with_reducible refine N1.mono ?_); clear N1; rintro e w4 ⟨rfl, hb4⟩; have HB4 : Hid (Below w.heap.size w w4) := HB3.out.trans (hb4.mono HB3.out.size); clear hb4 HB3))
 go_ret
 refine ⟨rfl, ?_⟩
 repeat' first | exact HB4.out | refine Below.alloc ?_ (by first | (have := HB4.out.size; simp; omega) | exact HB4.out.size) _
end Go.Proofs.YtnffedmcblbkoaaGreatDoor
