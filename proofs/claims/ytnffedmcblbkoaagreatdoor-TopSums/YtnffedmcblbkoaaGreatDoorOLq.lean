/-
  Merged: OL, OM.
-/
import Derived.Test.YtnffedmcblbkoaaGreatDoorOHq
namespace Go.Proofs.YtnffedmcblbkoaaGreatDoor
open Go Go.RowKit
set_option maxRecDepth 100000
theorem LegR.app {base : Nat} {W : World} {fin : Nat → Nod} {tb x : Nat} {D : List Nat} {B : Nat → Nat} {mu wb : Nat → Nat} {ev : Value} {g cap : Nat} {M : List Int} {res : List (Int × Int × Int)} {i : Nat} {w5 w8 : World} {v v' : Value} {L L' : List (Int × Int × Int)} {sw sr : Nat → List Nat} {wv rv : Nat → Value} (hO : OwnS base w5 fin D B sw sr wv rv wb) (hG : OwnG D sw sr mu) (hres : legsM fin (mu x + 1) x (M.drop (i + 1)) sw sr L' = res) (hrow : w5.ownsRow base 50 3 v L.length (L.flatMap legC)) (hends : w5.ownsRow base 2 1 (.slice (some ⟨g, 0, none⟩) M.length cap) M.length (M.map (Value.int .i64))) (htree : Blk w5 tb (trL (fin x).fr (fin x).til ev (.func (.func 67) #[pB B x] #[])) 136) (hupd : Upd (fun k => base ≤ k) W w5) (hl : L'.length ≤ i + 1) (hu : Upd (fun k => v.ownBlock = some k) w5 w8) (hrow' : w8.ownsRow base 50 3 v' L'.length (L'.flatMap legC)) :
  LegR base W fin tb x D B mu wb ev g cap M res (i + 1) w8 v' L' sw sr wv rv := by
 have hS : ∀ k, v.ownBlock = some k → k < w5.heap.size → ∃ c fr, w5.heap[k]? = some (.cells c 50 fr) := fun k e _ => by
  obtain ⟨cur, hh⟩ := owns_typeS hrow e
  exact ⟨cur, _, hh⟩
 refine ⟨hO.legs hu hS, hG, hres, hrow', ownsRow_upd hends hu (fun k e e' => ?_), htree.upd hu (fun e' => ?_), hupd.trans hu (fun k _ e => ?_), hl⟩
 ·obtain ⟨cur, hh⟩ := owns_typeS hrow e'
  obtain ⟨cur', hh'⟩ := owns_typeS hends e
  rw [hh] at hh'
  simp at hh'
 ·obtain ⟨cur, hh⟩ := owns_typeS hrow e'
  unfold Blk at htree
  rw [htree] at hh
  simp at hh
 ·rcases hrow.2 with ⟨e1, _⟩ | ⟨g', cap', cur, e1, hb, _⟩
  ·rw [e1] at e; simp [Value.ownBlock] at e
  ·rw [e1] at e
   simp [Value.ownBlock] at e
   omega
def LegQ (base : Nat) (W : World) (fin : Nat → Nod) (tb x : Nat) (D : List Nat) (B : Nat → Nat) (mu : Nat → Nat) (wb : Nat → Nat) (ev : Value) (g cap : Nat) (M : List Int) (res : List (Int × Int × Int)) (m : Nat) (y4 y : Value) (wr : World) : Prop :=
 ∃ (i : Nat) (L : List (Int × Int × Int)) (sw1 sr1 : Nat → List Nat) (wv1 rv1 : Nat → Value), y = .int .i64 i ∧ i + 1 ≤ m ∧ LegR base W fin tb x D B mu wb ev g cap M res i wr y4 L sw1 sr1 wv1 rv1
theorem leg_cells {base k gl capl : Nat} {w : World} {L : List (Int × Int × Int)} {o a : Int} (h : w.ownsRow base 50 3 (.slice (some ⟨gl, 0, none⟩) (k + 1) capl) (k + 1) (L.flatMap legC)) (hs : ∃ L1 t, L = L1 ++ [(o, a, t)] ∧ L1.length = k) : w.cell? ⟨gl, k * 3, none⟩ = some (.int .u64 o) ∧ ∃ t : Int, w.cell? ⟨gl, k * 3 + 2, none⟩ = some (.int .i64 t) := by
 obtain ⟨L1, t, rfl, hk⟩ := hs
 refine ⟨?_, t, ?_⟩
 ·have := h.cells (g := gl) rfl (k * 3) (.int .u64 o) (by rw [List.flatMap_append, List.getElem?_append_right (by rw [legC_len]; omega), legC_len, hk, Nat.sub_self]; rfl)
  rw [Addr.add_mid, Nat.zero_add] at this
  exact this
 ·have := h.cells (g := gl) rfl (k * 3 + 2) (.int .i64 t) (by rw [List.flatMap_append, List.getElem?_append_right (by rw [legC_len]; omega), legC_len, hk, show k * 3 + 2 - k * 3 = 2 by omega]; rfl)
  rw [Addr.add_mid, Nat.zero_add] at this
  exact this
theorem stepL_eq {L L1 : List (Int × Int × Int)} {o a t id x y : Int} (h : L = L1 ++ [(o, a, t)]) : stepL L id x y = if o = id then L1 ++ [(o, a, y)] else L ++ [(id, x, y)] := by
 subst h
 simp [stepL]
set_option maxHeartbeats 8000000 in
theorem legs_any (base : Nat) (fin : Nat → Nod) (tb x : Nat) (D : List Nat) (B : Nat → Nat) (sw : Nat → List Nat) (mu : Nat → Nat) (wv : Nat → Value) (wb : Nat → Nat) (ev : Value) (E : List Int) (W : World) (hT : TreeO base W fin tb x D B sw nils wv (fun _ => nilV) wb ev E) (hG : OwnG D sw nils mu) (hE : 2 ≤ E.length) (hE2 : E.length ≤ 4000) (hM : 1 ≤ (cptE (srtE E)).length) (hM2 : (cptE (srtE E)).length ≤ E.length) :
  Calls Tryz.prog 39 #[.pointer (some ⟨tb, 0, none⟩)] W fun e W' => ∃ v L, e = .returned v ∧ L = legsM fin (mu x + 1) x (cptE (srtE E)) sw nils [] ∧ W'.ownsRow base 50 3 v L.length (L.flatMap legC) ∧ Upd (fun k => base ≤ k) W W' := by
 obtain ⟨i0, hi0, hz0, hz1, hz2⟩ := infoLeg_parts
 obtain ⟨g, cap, hev, hcapE⟩ : ∃ g cap, ev = .slice (some ⟨g, 0, none⟩) E.length cap ∧ E.length ≤ cap := by
  rcases hT.ends.2 with ⟨_, e⟩ | ⟨g, cap, cur, e1, _, _, hc, _⟩
  ·omega
  ·exact ⟨g, cap, e1, hc⟩
 subst hev
 have SO := sortE_any base g cap E W hT.ends hE2
 have hsl : (srtE E).length = E.length := List.length_mergeSort E
 have hgE : base ≤ g := (owns_lt hT.ends rfl).1
 have hty : ∀ {w : World} {n : Nat} {xs : List Value} {k : Nat} {c : Array Value} {T : TypeId} {fr : Nat × Nat}, w.ownsRow base 2 1 (.slice (some ⟨g, 0, none⟩) n cap) n xs → w.heap[k]? = some (.cells c T fr) → T ≠ 2 → k ≠ g := fun h hk hT' e => by
  obtain ⟨cur, hh⟩ := owns_typeS h (g := g) rfl
  rw [← e, hk] at hh
  simp at hh
  exact hT' hh.2.1
 -- behind the sort and Compact
 have MID : Hid (∀ w1, w1.ownsRow base 2 1 (.slice (some ⟨g, 0, none⟩) E.length cap) E.length ((srtE E).map (Value.int .i64)) → Upd (fun k => k = g) W w1 → w1.cell? ⟨tb, 2, none⟩ = some (.slice (some ⟨g, 0, none⟩) E.length cap) ∧ Calls Tryz.prog 69 #[.slice (some ⟨g, 0, none⟩) E.length cap] w1 fun e w2 => e = .returned (.slice (some ⟨g, 0, none⟩) (cptE (srtE E)).length cap) ∧ LegR base W fin tb x D B mu wb (.slice (some ⟨g, 0, none⟩) E.length cap) g cap (cptE (srtE E)) (legsM fin (mu x + 1) x (cptE (srtE E)) sw nils []) 0 w2 (.slice none 0 0) [] sw nils wv (fun _ => nilV)) := fun w1 ho hu => by
  have ht1 := hT.tree.upd hu (hty hT.ends hT.tree (by decide))
  refine ⟨ht1.cell 2 rfl, ?_⟩
  have CE := compE_any base g cap (srtE E) w1 (by rw [hsl]; exact ho) (by omega)
  rw [hsl] at CE
  refine CE.mono ?_
  rintro e w2 ⟨rfl, ho2, hu2⟩
  have hupd : Upd (fun k => k = g) W w2 := hu.trans hu2 (fun _ _ h => h)
  refine ⟨rfl, hT.own.upd hupd (fun y hy => hty hT.ends (hT.own.blk y hy) (by decide)) (fun y _ k e => by simp [Value.ownBlock] at e) (fun y hy hn => ?_), hG, rfl, by simpa using World.ownsRow_nil w2 base 50 3, ho2, hT.tree.upd hupd (hty hT.ends hT.tree (by decide)), hupd.mono (fun k _ e => by subst e; exact hgE), Nat.le_refl _⟩
  rcases hT.own.wait y hy with (⟨_, e2⟩ | ⟨off, cap', c, fr, _, _, h3, _⟩) | ⟨e2, _⟩
  ·exact absurd (List.map_eq_nil_iff.1 e2) hn
  ·exact hty hT.ends h3 (by decide)
  ·exact absurd e2 hn
 have c2 : W.cell? ⟨tb, 2, none⟩ = some (.slice (some ⟨g, 0, none⟩) E.length cap) := hT.tree.cell 2 rfl
 have HXD : Hid (x ∈ D) := hT.xD
 generalize hres : legsM fin (mu x + 1) x (cptE (srtE E)) sw nils [] = res at MID ⊢
 obtain ⟨M, hMM⟩ : ∃ M, cptE (srtE E) = M := ⟨_, rfl⟩
 rw [hMM] at MID hM hM2
 obtain ⟨m, hm⟩ : ∃ m, M.length = m := ⟨_, rfl⟩
 have HM : Hid (M.length = m) := hm
 rw [hm] at hM hM2
 have HSL : Hid (∀ w1, w1.ownsRow base 2 1 (.slice (some ⟨g, 0, none⟩) E.length cap) E.length ((srtE E).map (Value.int .i64)) → Upd (fun k => k = g) W w1 → w1.cell? ⟨tb, 2, none⟩ = some (.slice (some ⟨g, 0, none⟩) E.length cap) ∧ Calls Tryz.prog 69 #[.slice (some ⟨g, 0, none⟩) E.length cap] w1 fun e w2 => e = .returned (.slice (some ⟨g, 0, none⟩) m cap) ∧ LegR base W fin tb x D B mu wb (.slice (some ⟨g, 0, none⟩) E.length cap) g cap M res 0 w2 (.slice none 0 0) [] sw nils wv (fun _ => nilV)) := by
  have := MID.out
  rw [hm] at this
  exact this
 obtain ⟨n, hn⟩ : ∃ n, E.length = n := ⟨_, rfl⟩
 rw [hn] at c2 SO HSL hE hE2 hM2 hcapE
 have hcap1 : ¬ cap = 1 := by omega
 have hcm : (1 : Int) ≤ (m : Int) := by omega
 have hcc : (m : Int) ≤ (cap : Int) := by omega
 have hm1 : ((m - 1 : Nat) : Int) = (m : Int) - 1 := by omega
 clear hT hG MID hsl hgE hty hres hMM hm hn
 go_enter Tryz.func39, Tryz.ntmps39
 go_wp2_with (first
  | (go_at_call 68; refine SO.mono ?_; clear SO; rintro e w1 ⟨rfl, ho1, hu1⟩; obtain ⟨d2, CP⟩ := HSL.out w1 ho1 hu1; clear ho1 hu1 HSL)
  | (go_at_call 69; refine CP.mono ?_; clear CP; rintro e w2 ⟨rfl, hL0⟩; have HL0 : Hid (LegR base W fin tb x D B mu wb (.slice (some ⟨g, 0, none⟩) n cap) g cap M res 0 w2 (.slice none 0 0) [] sw nils wv (fun _ => nilV)) := hL0; clear hL0))
 go_loopw [4, 23] (fun y4 y wr => LegQ base W fin tb x D B mu wb (.slice (some ⟨g, 0, none⟩) n cap) g cap M res m y4 y wr) (fun _ y _ => m - (intOf y).toNat)
 case atStart => exact ⟨0, [], sw, nils, wv, _, rfl, by omega, HL0.out⟩
 case round =>
  obtain ⟨i, L, sw1, sr1, wv1, rv1, rfl, him, hL⟩ := hrel
  have t3 : wr.cell? ⟨tb, 3, none⟩ = some (.func (.func 67) #[.pointer (some ⟨B x, 0, none⟩)] #[]) := hL.tree.cell 3 rfl
  obtain ⟨ad, capl, hv⟩ := owns_sliceS hL.row
  subst hv
  by_cases hlt : i + 1 < m
  ·have hiM : i + 1 < M.length := by rw [HM.out]; exact hlt
   have LK := hL.look HXD.out hiM
   have e1 : wr.cell? ⟨g, 1 + i, none⟩ = some (.int .i64 M[i + 1]) := by
    have := hL.ends.cells (g := g) rfl (i + 1) (.int .i64 M[i + 1]) (by simp [hiM])
    rw [Addr.add_mid, Nat.zero_add] at this
    rw [Nat.add_comm]
    exact this
   have e2 : wr.cell? ⟨g, i, none⟩ = some (.int .i64 (M[i]'(by omega))) := by
    have := hL.ends.cells (g := g) rfl i (.int .i64 (M[i]'(by omega))) (by simp [show i < M.length by omega])
    rw [Addr.add_mid, Nat.zero_add] at this
    exact this
   generalize (M[i]'(by omega)) = a1 at LK e2
   generalize M[i + 1] = b1 at LK e1
   have hi1 : (i : Int) + 1 < (m : Int) := by omega
   obtain ⟨ln, hln⟩ : ∃ ln, L.length = ln := ⟨_, rfl⟩
   have HLN : Hid (L.length = ln) := hln
   have hLi : Hid (ln ≤ i) := hln ▸ hL.ln
   have hLl : Hid (ln ≤ 4000) := by have h1 := hLi.out; have h2 : ln ≤ 4000 := (by omega); exact h2
   have hrow0 := hL.row
   rw [hln] at LK hrow0
   clear hL
   rw [hln]
   rcases leg_cat L with hnl | ⟨L1, o, a, t, hsp'⟩
   ·have HNL : Hid (L = []) := hnl
    obtain rfl : ln = 0 := by rw [← hln, hnl]; rfl
    clear hln hnl hrow0
    go_wp2_with (first
     | (go_at_call 67; refine LK.mono ?_; clear LK; rintro e w5 ⟨id, sw2, sr2, wv2, rv2, rfl, hO, hG, hres, hrow, hends, htree, hupd⟩; have H5 : Hid (OwnS base w5 fin D B sw2 sr2 wv2 rv2 wb ∧ OwnG D sw2 sr2 mu ∧ legsM fin (mu x + 1) x (M.drop (i + 1)) sw2 sr2 (stepL L id a1 b1) = res ∧ w5.ownsRow base 50 3 (.slice ad 0 capl) 0 (L.flatMap legC) ∧ w5.ownsRow base 2 1 (.slice (some ⟨g, 0, none⟩) M.length cap) M.length (M.map (Value.int .i64)) ∧ Blk w5 tb (trL (fin x).fr (fin x).til (.slice (some ⟨g, 0, none⟩) n cap) (.func (.func 67) #[pB B x] #[])) 136 ∧ Upd (fun k => base ≤ k) W w5) := ⟨hO, hG, hres, hrow, hends, htree, hupd⟩; have hlb5 : base ≤ w5.heap.size := hO.lb; skip; clear hO hG hres hrow hends htree hupd)
     | (at_builtin; refine wpList_appW _ rfl _ _ 41 41 rfl base 50 i0 (.agg #[.int .u64 0, .int .i64 0, .int .i64 0]) 3 24 Tryz.underlying41 hi0 hz0 hz1 hz2 rfl (.slice ad 0 capl) 0 (L.flatMap legC) rfl (H5.out.2.2.2.1.alloc _) _ 1 [.int .u64 id, .int .i64 a1, .int .i64 b1] rfl (src_leg Tryz.underlying41 w5 _ _ _ _ rfl rfl rfl) (by have := hLl.out; unfold maxLen; omega) (by have := hLl.out; omega) (by rw [World.size_alloc]; omega) ?_; intro v8 w8 o8 g8 m8; obtain ⟨ad8, cap8, rfl⟩ := owns_sliceS o8; have H8 : Hid (w8.ownsRow base 50 3 (.slice ad8 (0 + 1) cap8) (0 + 1) (L.flatMap legC ++ [.int .u64 id, .int .i64 a1, .int .i64 b1]) ∧ Upd (fun k => (Value.slice ad 0 capl).ownBlock = some k) w5 w8) := ⟨o8, ⟨g8.os, g8.tape, g8.output, (by have := g8.size; rw [World.size_alloc] at this; omega), fun k hk hn => (g8.block k (by rw [World.size_alloc]; omega) (fun e => hn e.symm)).trans (Below.heap_alloc w5 _ k hk)⟩⟩; clear o8 g8 m8))
    go_roundw
    case rel =>
     obtain ⟨q1, q2, q3, q4, q5, q6, q7⟩ := H5.out
     refine ⟨i + 1, L ++ [(id, a1, b1)], sw2, sr2, wv2, rv2, by go_num, by omega, LegR.app (L := L) q1 q2 (by rw [← q3, HNL.out]; rfl) (by rw [HLN.out]; exact q4) q5 q6 q7 (by have := HLN.out; have := hLi.out; simp; omega) H8.out.2 ?_⟩
     have := H8.out.1
     rw [List.length_append, HLN.out, List.flatMap_append]
     exact this
    case measure => (simp [intOf]; try omega)
   ·obtain ⟨k, rfl⟩ : ∃ k, ln = k + 1 := ⟨L1.length, by rw [← hln, hsp']; simp⟩
    have hsp : Hid (∃ L1 t, L = L1 ++ [(o, a, t)] ∧ L1.length = k) := ⟨L1, t, hsp', by rw [hsp'] at hln; simp at hln; omega⟩
    obtain ⟨gl, rfl⟩ := owns_some hrow0
    have hk4 : k ≤ 4000 := by have := hLl.out; omega
    clear hln hrow0 hsp' L1 t
    go_wp2_with (first
     | (go_at_call 67; refine LK.mono ?_; clear LK; rintro e w5 ⟨id, sw2, sr2, wv2, rv2, rfl, hO, hG, hres, hrow, hends, htree, hupd⟩; have H5 : Hid (OwnS base w5 fin D B sw2 sr2 wv2 rv2 wb ∧ OwnG D sw2 sr2 mu ∧ legsM fin (mu x + 1) x (M.drop (i + 1)) sw2 sr2 (stepL L id a1 b1) = res ∧ w5.ownsRow base 50 3 (.slice (some ⟨gl, 0, none⟩) (k + 1) capl) (k + 1) (L.flatMap legC) ∧ w5.ownsRow base 2 1 (.slice (some ⟨g, 0, none⟩) M.length cap) M.length (M.map (Value.int .i64)) ∧ Blk w5 tb (trL (fin x).fr (fin x).til (.slice (some ⟨g, 0, none⟩) n cap) (.func (.func 67) #[pB B x] #[])) 136 ∧ Upd (fun k => base ≤ k) W w5) := ⟨hO, hG, hres, hrow, hends, htree, hupd⟩; have hlb5 : base ≤ w5.heap.size := hO.lb; obtain ⟨d1, t5, d6⟩ := leg_cells hrow hsp.out; obtain ⟨d3, d4, d5⟩ := owns_set hrow (k * 3 + 2) (.int .i64 b1) (by omega); have H9 : Hid ((w5.setCell ⟨gl, k * 3 + 2, none⟩ (.int .i64 b1)).ownsRow base 50 3 (.slice (some ⟨gl, 0, none⟩) (k + 1) capl) (k + 1) ((L.flatMap legC).set (k * 3 + 2) (.int .i64 b1))) := d3; clear d3; clear hO hG hres hrow hends htree hupd; rcases (show id = o ∨ ¬ id = o from Classical.em _) with rfl | hne; all_goals try (have hne2 : ¬ o = id := fun e => hne e.symm))
     | (at_builtin; refine wpList_appW _ rfl _ _ 41 41 rfl base 50 i0 (.agg #[.int .u64 0, .int .i64 0, .int .i64 0]) 3 24 Tryz.underlying41 hi0 hz0 hz1 hz2 rfl (.slice (some ⟨gl, 0, none⟩) (k + 1) capl) (k + 1) (L.flatMap legC) rfl (H5.out.2.2.2.1.alloc _) _ 1 [.int .u64 id, .int .i64 a1, .int .i64 b1] rfl (src_leg Tryz.underlying41 w5 _ _ _ _ rfl rfl rfl) (by have := hLl.out; unfold maxLen; omega) (by have := hLl.out; omega) (by rw [World.size_alloc]; omega) ?_; intro v8 w8 o8 g8 m8; obtain ⟨ad8, cap8, rfl⟩ := owns_sliceS o8; have H8 : Hid (w8.ownsRow base 50 3 (.slice ad8 ((k + 1) + 1) cap8) ((k + 1) + 1) (L.flatMap legC ++ [.int .u64 id, .int .i64 a1, .int .i64 b1]) ∧ Upd (fun k => (Value.slice (some ⟨gl, 0, none⟩) (k + 1) capl).ownBlock = some k) w5 w8) := ⟨o8, ⟨g8.os, g8.tape, g8.output, (by have := g8.size; rw [World.size_alloc] at this; omega), fun k hk hn => (g8.block k (by rw [World.size_alloc]; omega) (fun e => hn e.symm)).trans (Below.heap_alloc w5 _ k hk)⟩⟩; clear o8 g8 m8))
    ·go_roundw
     case rel =>
      obtain ⟨q1, q2, q3, q4, q5, q6, q7⟩ := H5.out
      obtain ⟨L1, t, hL1, hk⟩ := hsp.out
      refine ⟨i + 1, L1 ++ [(id, a, b1)], sw2, sr2, wv2, rv2, by go_num, by omega, LegR.app (L := L) q1 q2 (by rw [← q3, stepL_eq hL1, if_pos rfl]) (by rw [HLN.out]; exact q4) q5 q6 q7 (by have := hLi.out; rw [List.length_append, hk]; simp; omega) (upd_cell w5 gl (k * 3 + 2) _ _ rfl) ?_⟩
      have := H9.out
      rw [List.length_append, hk]
      rw [hL1, ← hk, leg_set, hk] at this
      exact this
     case measure => (simp [intOf]; try omega)
    ·go_roundw
     case rel =>
      obtain ⟨q1, q2, q3, q4, q5, q6, q7⟩ := H5.out
      obtain ⟨L1, t, hL1, hk⟩ := hsp.out
      refine ⟨i + 1, L ++ [(id, a1, b1)], sw2, sr2, wv2, rv2, by go_num, by omega, LegR.app (L := L) q1 q2 (by rw [← q3, stepL_eq hL1, if_neg hne2]) (by rw [HLN.out]; exact q4) q5 q6 q7 (by have := HLN.out; have := hLi.out; simp; omega) H8.out.2 ?_⟩
      have := H8.out.1
      rw [List.length_append, HLN.out, List.flatMap_append]
      exact this
     case measure => (simp [intOf]; try omega)
  ·have hiM : i + 1 = M.length := by rw [HM.out]; omega
   have hr : L = res := by
    rw [← hL.res, List.drop_eq_getElem_cons (by omega), List.drop_of_length_le (by omega)]
    rfl
   have HFIN : Hid (L = res ∧ wr.ownsRow base 50 3 (.slice ad L.length capl) L.length (L.flatMap legC) ∧ Upd (fun k => base ≤ k) W wr) := ⟨hr, hL.row, hL.upd⟩
   have hnl : ¬ ((i : Int) < (m : Int) - 1) := by omega
   clear hL hr hiM
   go_wp2
   go_ret
   refine ⟨_, rfl, ?_, HFIN.out.2.2⟩
   rw [← HFIN.out.1]
   exact HFIN.out.2.1
set_option maxHeartbeats 2000000 in
theorem legsAt_any (f sb : Nat) (X : List Spot) (K : Nat → List Int) (rvv : Value) (R : List Int) (fin : Nat → Nod) (KN sw : Nat → List Nat) (fuel x : Nat) (mu : Nat → Nat) (W : World) (hF : ForestAt W f sb X K rvv R) (T : TEnv X K fin KN sw fuel x) (ho : (fin x).org ≠ 0) (hG : OwnG (preN KN fuel [x]) sw nils mu) (E M : List Int) (hEE : endsN fin (preN KN fuel [x]) = E) (hMM : cptE (srtE E) = M) (hE : 2 ≤ E.length) (hE2 : E.length ≤ 4000) (hM : 1 ≤ M.length) (hM2 : M.length ≤ E.length) :
  Calls Tryz.prog 11 #[.pointer (some ⟨f, 0, none⟩), .int .u64 (fin x).id] W fun e W' => ∃ v L b, e = .returned (.tuple #[v, .int .i64 0]) ∧ L = legsM fin (mu x + 1) x M sw nils [] ∧ W.heap.size ≤ b ∧ W'.ownsRow b 50 3 v L.length (L.flatMap legC) ∧ Below W.heap.size W W' := by
 have LA := lacks_any f sb X K rvv R W hF x T.xX (fin x) (T.nd x T.xX) ho
 have GR : Hid (∀ w1, Below W.heap.size W w1 → Calls Tryz.prog 38 #[.pointer (some ⟨f, 0, none⟩), .int .u64 (fin x).id] w1 fun e W' => e = .returned (.pointer (some ⟨w1.heap.size, 0, none⟩)) ∧ (∃ B wv wb ev, TreeO w1.heap.size W' fin w1.heap.size x (preN KN fuel [x]) B sw nils wv (fun _ => nilV) wb ev E) ∧ Below w1.heap.size w1 W') := fun w1 hb => by
  have := grown_any f sb X K rvv R fin KN sw fuel x w1 (hF.below hb) T
  rw [hEE] at this
  exact this
 have LG : Hid (∀ base W1 tb B wv wb ev, TreeO base W1 fin tb x (preN KN fuel [x]) B sw nils wv (fun _ => nilV) wb ev E → Calls Tryz.prog 39 #[.pointer (some ⟨tb, 0, none⟩)] W1 fun e W' => ∃ v L, e = .returned v ∧ L = legsM fin (mu x + 1) x M sw nils [] ∧ W'.ownsRow base 50 3 v L.length (L.flatMap legC) ∧ Upd (fun k => base ≤ k) W1 W') := fun base W1 tb B wv wb ev hT => by
  have := legs_any base fin tb x (preN KN fuel [x]) B sw mu wv wb ev E W1 hT hG hE hE2 (by rw [hMM]; exact hM) (by rw [hMM]; exact hM2)
  rw [hMM] at this
  exact this
 obtain ⟨id, hid⟩ : ∃ id, (fin x).id = id := ⟨_, rfl⟩
 rw [hid] at LA GR ⊢
 generalize legsM fin (mu x + 1) x M sw nils [] = res at LG ⊢
 clear hF T ho hG hid hE hE2 hM hM2 hEE hMM
 go_enter Tryz.func11, Tryz.ntmps11
 go_wp2_with (first
  | (go_at_call 37; refine LA.mono ?_; clear LA; rintro e w1 ⟨rfl, hb1⟩; have G1 := GR.out w1 hb1; have HB1 : Hid (Below W.heap.size W w1) := hb1; clear hb1)
  | (go_at_call 38; refine G1.mono ?_; clear G1; rintro e w2 ⟨rfl, ⟨B, wv, wb, ev, hT⟩, hb2⟩; have L1 := LG.out _ _ _ _ _ _ _ hT; have HB2 : Hid (Below w1.heap.size w1 w2) := hb2; clear hT hb2)
  | (go_at_call 39; refine L1.mono ?_; clear L1; rintro e w4 ⟨v, L, rfl, hL, hrow, hu4⟩; have H4 : Hid (L = res ∧ w4.ownsRow w1.heap.size 50 3 v L.length (L.flatMap legC) ∧ Upd (fun k => w1.heap.size ≤ k) w2 w4) := ⟨hL, hrow, hu4⟩; clear hL hrow hu4))
 go_ret2
 obtain ⟨hL, hrow, hu4⟩ := H4.out
 subst hL
 refine ⟨v, L, w1.heap.size, rfl, rfl, HB1.out.size, hrow, ?_⟩
 have b2 := HB1.out.trans (HB2.out.mono HB1.out.size)
 exact b2.trans (hu4.below b2.size (fun k hk h => by have := HB1.out.size; omega))
end Go.Proofs.YtnffedmcblbkoaaGreatDoor
