/-
  RT.
-/
import Derived.Test.YtobjjdggjgnfcaaGreatDoorRS
import Derived.Test.YtobjjdggjgnfcaaGreatDoorPQ
import Derived.Test.YtobjjdggjgnfcaaGreatDoorFXq
import Derived.OrdersHeld
namespace Go.Proofs.YtobjjdggjgnfcaaGreatDoor
open Go Go.RowKit
set_option maxRecDepth 100000

def preS {α : Type} (M : List (α × Int)) (k : Nat) : Int := ((M.take k).map (fun p => p.2)).sum
theorem preS_next {α : Type} {M : List (α × Int)} {k : Nat} (hk : k < M.length) : preS M (k + 1) = preS M k + M[k].2 := by
  unfold preS
  rw [List.take_add_one, List.getElem?_eq_getElem hk, List.map_append, List.sum_append]
  simp
theorem preS_all {α : Type} {M : List (α × Int)} {k : Nat} (hk : M.length ≤ k) : preS M k = (M.map (fun p => p.2)).sum := by
  unfold preS
  rw [List.take_of_length_le hk]
theorem sum_pos {α : Type} : ∀ (M : List (α × Int)), (∀ p ∈ M, 0 < p.2) → 0 ≤ (M.map (fun p => p.2)).sum
  | [], _ => Int.le_refl _
  | p :: r, h => by
    have := sum_pos r (fun q hq => h q (by simp [hq]))
    have := h p (by simp)
    simp only [List.map_cons, List.sum_cons]
    omega
theorem preS_le {α : Type} (M : List (α × Int)) (h : ∀ i (hi : i < M.length), 0 < M[i].2) (k : Nat) : 0 ≤ preS M k ∧ preS M k ≤ (M.map (fun p => p.2)).sum := by
  have hp : ∀ p ∈ M, 0 < p.2 := fun p hp => by obtain ⟨i, hi, rfl⟩ := List.mem_iff_getElem.1 hp; exact h i hi
  have e : (M.map (fun p => p.2)).sum = preS M k + ((M.drop k).map (fun p => p.2)).sum := by
    unfold preS
    rw [← List.sum_append, ← List.map_append, List.take_append_drop]
  have h1 := sum_pos (M.take k) (fun p hq => hp p (List.mem_of_mem_take hq))
  have h2 := sum_pos (M.drop k) (fun p hq => hp p (List.mem_of_mem_drop hq))
  rw [e]
  unfold preS
  unfold preS at *
  omega
theorem wraps_sub {a b : Int} (h : 0 ≤ a ∧ a ≤ b ∧ b ≤ 4611686018427387904) : IntKind.i64.wrap (b - a) = b - a ∧ IntKind.u64.wrap (b - a) = b - a ∧ wrap64 (b - a) = b - a := by
  refine ⟨?_, ?_, ?_⟩
  · rw [IntWalk.i64_left]; unfold wrap64; omega
  · rw [IntKind.wrap_u64]; omega
  · unfold wrap64; omega
theorem lt_str (s t : List UInt8) (h : s < t) : Op.bytesLess (⟨s.toArray⟩ : ByteArray).toList (⟨t.toArray⟩ : ByteArray).toList = true ∧ Op.bytesLess (⟨t.toArray⟩ : ByteArray).toList (⟨s.toArray⟩ : ByteArray).toList = false := by
  rw [less_str, less_str]
  exact ⟨decide_eq_true h, decide_eq_false (fun h' => List.lt_irrefl _ (List.lt_trans h h'))⟩
theorem geq_str (t : TypeId) (a b : ByteArray) (h : Op.bytesLess a.toList b.toList = true) (W : World) : (binOp .geq t (.string a) (.string b)).run Tryz.prog W = .ok (.bool false) W := by
  simp [binOp, Op.stringOp, h, go_sem]
set_option maxHeartbeats 8000000 in
theorem sweepShares_any (ad : Option Addr) (n cap : Nat) (X : List Sp) (P : Nat → Pl) (w : World) (hX : SpsAt w ad n X P) (hF : ∀ a ∈ X, a.Fits) (hS : ∀ a ∈ X, a.Small) (hT : Tabs w) :
    Calls Tryz.prog 4 #[.slice ad n cap] w fun e w' => e = .returned (.bool true) ∧ Below w.heap.size w w' := by
  have SH := aliveW_any w hT
  have BD : Hid (∀ w1, Below w.heap.size w w1 → Calls Tryz.prog 12 #[.slice ad n cap] w1 fun e w' => (∃ f sb Y X' K rv R C dp fin, e = .returned (.tuple #[.pointer (some ⟨f, 0, none⟩), .int .i64 0]) ∧ ForestAt w' f sb X' K rv R ∧ FoB Y C dp fin X' K R ∧ Below w.heap.size w w') ∨ (e = .returned (.tuple #[.pointer none, .int .i64 101]) ∧ Below w.heap.size w w')) := fun w1 hb => buildT ad n cap X P w w1 hb hX hF hS hT
  clear hX hF hS hT
  go_enter Tryz.func4, Tryz.ntmps4
  go_wp2_with (first
    | (go_at_call 6; refine SH.mono ?_; clear SH; rintro e w1 ⟨rfl, hb⟩; have B1 := BD.out w1 hb; clear hb BD)
    | (go_at_call 12; refine B1.mono ?_; clear B1; rintro e w2 (⟨f, sb, Y, X', K, rv, R, C, dp, fin, rfl, h1, h2, h3⟩ | ⟨rfl, h3⟩))
    | (go_at_call 13; refine (roots_any f sb X' K rv R w2 h1).mono ?_; rintro e w3 ⟨rc, rfl, hrc, hrl, hb3⟩))
  · have hF3 := h1.below hb3
    obtain ⟨m, hm⟩ : ∃ m, R.length = m := ⟨_, rfl⟩
    have hm1 : (m : Int) ≤ 1000 := by
      have q1 := h2.fo.roots.1.length_eq
      have q2 := kidsF_len (cutN C (nmOf (zs Y))) Y.length (-1)
      have q3 := h2.one.len
      omega
    have HBW : Hid (Below w.heap.size w w3) := h3.trans (hb3.mono h3.size)
    have HRT : Hid (∀ i, i < m → ∃ (d : Nod) (M : List (Int × Int)) (N : List (List UInt8 × Int)), (∀ W, Below w3.heap.size w3 W → W.cell? ⟨rc, i, none⟩ = some (.int .u64 d.id)) ∧ (∀ W, Below w3.heap.size w3 W → Calls Tryz.prog 14 #[.pointer (some ⟨f, 0, none⟩), .int .u64 d.id] W fun e w' => e = .returned (.tuple #[ndV d, .bool true]) ∧ Below W.heap.size W w') ∧ RtS w3 f d.id d.fr d.til M N) := fun i hi => by
      obtain ⟨x, hx, hox, htx, hcx⟩ := h2.idsR i (by rw [hm]; exact hi)
      obtain ⟨M, N, hS⟩ := rtS_root hF3 h2 x hx hox
      refine ⟨fin x, M, N, fun W hW => hcx W rc (hrc.below hW hrc.lt), fun W hW => ?_, hS⟩
      have hl := h2.fo.len
      have e := (h2.fo.each x hx (by omega)).2
      have h := node_at (hF3.below hW) x (by omega) (fin x).id (by rw [e])
      rwa [e] at h
    rw [hm]
    clear h1 h2 h3 hrc hrl hb3 hF3 hm
    go_loopw [7] (fun z wr => ∃ i : Nat, z = .int .i64 i ∧ i ≤ m ∧ Hid (Below w3.heap.size w3 wr)) (fun z _ => m - (intOf z).toNat)
    case atStart => exact ⟨0, rfl, by omega, Below.refl _ _⟩
    case round =>
      obtain ⟨i, rfl, him, HBR⟩ := hrel
      by_cases hlt : i < m
      · obtain ⟨d, M, N, hC, hND, hS⟩ := HRT.out i hlt
        have HC : Hid (∀ W, Below w3.heap.size w3 W → W.cell? ⟨rc, i, none⟩ = some (.int .u64 d.id)) := hC
        have HS : Hid (RtS w3 f d.id d.fr d.til M N) := hS
        have hin' : (i : Int) < (m : Int) := by omega
        have N1 := hND wr HBR.out
        have c0 := HC.out wr HBR.out
        have SHA : Hid (∀ W, Below w3.heap.size w3 W → Calls Tryz.prog 15 #[.pointer (some ⟨f, 0, none⟩), .int .u64 d.id] W (LstP shQ 2 M 0 W)) := hS.sh
        have SVA : Hid (∀ W, Below w3.heap.size w3 W → Calls Tryz.prog 16 #[.pointer (some ⟨f, 0, none⟩), .int .u64 d.id] W (LstP svQ 2 N 0 W)) := hS.sv
        clear hC hND hS
        obtain ⟨did, dpar, dorg, dtree, ddep, dfr, dtil⟩ := d
        simp only at HC HS N1 c0 SHA SVA
        unfold ndV at N1
        unfold LstP at SHA SVA
        obtain ⟨mn, hmn⟩ : ∃ mn, M.length = mn := ⟨_, rfl⟩
        obtain ⟨nn, hnn⟩ : ∃ nn, N.length = nn := ⟨_, rfl⟩
        have HMN : Hid (M.length = mn ∧ N.length = nn) := ⟨hmn, hnn⟩
        rw [hmn] at SHA
        rw [hnn] at SVA
        clear hmn hnn
        go_upto_region 12 with (first
          | (go_at_call 14; (with_reducible refine N1.mono ?_); clear N1; rintro e w4 ⟨rfl, hb4⟩; have H4 : Hid (Below w3.heap.size w3 (w4.alloc (.cells #[.int .u64 did, .int .u64 dpar, .int .i64 dorg, .int .u64 dtree, .int .i64 ddep, .int .i64 dfr, .int .i64 dtil] 48))) := (HBR.out.trans (hb4.mono HBR.out.size)).alloc (Nat.le_trans HBR.out.size hb4.size) _; have HB4 : Hid (Blk (w4.alloc (.cells #[.int .u64 did, .int .u64 dpar, .int .i64 dorg, .int .u64 dtree, .int .i64 ddep, .int .i64 dfr, .int .i64 dtil] 48)) w4.heap.size #[.int .u64 did, .int .u64 dpar, .int .i64 dorg, .int .u64 dtree, .int .i64 ddep, .int .i64 dfr, .int .i64 dtil] 48) := Blk.new _ _ _; have S1 := SHA.out _ H4.out; have c4 := HC.out _ H4.out; clear hb4 SHA HBR c0)
          | (go_at_call 15; (with_reducible refine S1.mono ?_); clear S1; rintro e w5 ⟨ma, mc, rfl, HM5, hb5⟩; have H5 : Hid (Below w3.heap.size w3 w5) := H4.out.trans (hb5.mono H4.out.size); have HB5 : Hid (Blk w5 w4.heap.size #[.int .u64 did, .int .u64 dpar, .int .i64 dorg, .int .u64 dtree, .int .i64 ddep, .int .i64 dfr, .int .i64 dtil] 48) := HB4.out.below hb5 HB4.out.lt; have V1 := SVA.out w5 H5.out; have c5 := HC.out w5 H5.out; clear hb5 SVA c4 H4 HB4)
          | (go_at_call 16; (with_reducible refine V1.mono ?_); clear V1; rintro e w6 ⟨na, nc, rfl, HN6, hb6⟩; have H6 : Hid (Below w3.heap.size w3 w6) := H5.out.trans (hb6.mono H5.out.size); have HB6 : Hid (Blk w6 w4.heap.size #[.int .u64 did, .int .u64 dpar, .int .i64 dorg, .int .u64 dtree, .int .i64 ddep, .int .i64 dfr, .int .i64 dtil] 48) := HB5.out.below hb6 HB5.out.lt; have HM6 : Hid (LieIn shQ 2 w6 ma M) := HM5.out.below hb6; clear hb6 c5 H5 HB5 HM5))
        obtain ⟨nb, hnb⟩ : ∃ nb, w4.heap.size = nb := ⟨_, rfl⟩
        rw [hnb] at HB6 ⊢
        clear hnb
        have hmn1 : mn ≤ 1000 := by rw [← HMN.out.1]; exact HS.out.ml
        have hnn1 : nn ≤ 1000 := by rw [← HMN.out.2]; exact HS.out.nl
        have HSU : Hid (∀ k (hk : k < M.length), IntKind.u64.wrap (preS M k + M[k].2) = preS M (k + 1)) := fun k hk => by
          have h1 := preS_le M HS.out.mp (k + 1)
          have h2 := HS.out.rng
          have h3 := HS.out.ms
          rw [← preS_next hk, IntKind.wrap_u64]
          omega
        have HTU : Hid (∀ k (hk : k < N.length), IntKind.u64.wrap (preS N k + N[k].2) = preS N (k + 1)) := fun k hk => by
          have h1 := preS_le N HS.out.np (k + 1)
          have h2 := HS.out.rng
          have h3 := HS.out.ns
          rw [← preS_next hk, IntKind.wrap_u64]
          omega
        go_wp2
        go_loopw [14, 15] (fun z14 z15 wq => ∃ k : Nat, z14 = .int .u64 (preS M k) ∧ z15 = .int .i64 k ∧ k ≤ mn ∧ Hid (Below w6.heap.size w6 wq)) (fun _ z15 _ => mn - (intOf z15).toNat)
        case atStart => exact ⟨0, rfl, rfl, by omega, Below.refl _ _⟩
        case round =>
          obtain ⟨k, rfl, rfl, hk, HK⟩ := hrel
          by_cases hkq : k < mn
          · have hkn : (k : Int) < (mn : Int) := by omega
            have hkM : k < M.length := by rw [HMN.out.1]; exact hkq
            obtain ⟨rb, e, hrb, hc⟩ := (HM6.out.below HK.out) (fun e => by rw [e] at hkM; simp at hkM)
            subst e
            have c1 : wr.cell? ⟨rb, k * 2 + 1, none⟩ = some (.int .u64 M[k].2) := hc k hkM 1 _ rfl
            have HK2 : Hid (∀ U, Below wr.heap.size wr U → U.cell? ⟨rb, k * 2, none⟩ = some (.int .u64 M[k].1) ∧ U.cell? ⟨rb, k * 2 + 1, none⟩ = some (.int .u64 M[k].2)) := fun U hU => ⟨(hU.cell (p := ⟨rb, k * 2, none⟩) hrb).trans (hc k hkM 0 _ rfl), (hU.cell (p := ⟨rb, k * 2 + 1, none⟩) hrb).trans c1⟩
            have AL : Hid (∀ U, Below wr.heap.size wr U → Calls Tryz.prog 17 #[.pointer (some ⟨f, 0, none⟩), .int .u64 M[k].1] U fun e W' => ∃ v, e = .returned (.int .u64 v) ∧ M[k].2 ≤ v ∧ Below U.heap.size U W') := fun U hU => HS.out.ma k hkM U ((H6.out.trans (HK.out.mono H6.out.size)).trans (hU.mono (Nat.le_trans H6.out.size HK.out.size)))
            have hpos := HS.out.mp k hkM
            have hsu := HSU.out k hkM
            have HPR : Hid (∀ j, k = j + 1 → ∃ idj : Int, idj < M[k].1 ∧ ∀ U, Below wr.heap.size wr U → U.cell? ⟨rb, j * 2, none⟩ = some (.int .u64 idj)) := fun j hj => by
              subst hj
              exact ⟨M[j].1, HS.out.mr j hkM, fun U hU => (hU.cell (p := ⟨rb, j * 2, none⟩) hrb).trans (hc j (by omega) 0 _ rfl)⟩
            clear hc
            generalize hMk : M[k] = mk at *
            clear hMk
            obtain ⟨idk, hv⟩ := mk
            simp only at c1 HK2 AL hpos hsu HPR
            generalize preS M k = s0 at *
            generalize hs1 : preS M (k + 1) = s1 at *
            have HS1 : Hid (preS M (k + 1) = s1) := hs1
            clear hs1
            have dn0 : (hv == 0) = false := by simp; omega
            by_cases hk0 : k = 0
            · have HKEEP : Hid (∀ U, Below wr.heap.size wr U → U.cell? ⟨rb, k * 2, none⟩ = some (.int .u64 idk) ∧ U.cell? ⟨rb, k * 2 + 1, none⟩ = some (.int .u64 hv)) := HK2.out
              have dk : decide (0 < k) = false := decide_eq_false (by omega)
              have dk2 : decide ((0 : Int) < (k : Int)) = false := decide_eq_false (by omega)
              clear HPR hk0
              go_upto_region 17 with fail
              refine wp_region_held (S := fun U => U.cell? ⟨rb, k * 2, none⟩ = some (.int .u64 idk) ∧ U.cell? ⟨rb, k * 2 + 1, none⟩ = some (.int .u64 hv)) (by kernel_rfl) ?_
              change wpAnyH _ _ _ _ _ _ _ _ (World.drew _)
              have hS := HKEEP.out wr.drew ((Below.refl _ _).drew)
              refine takeH (i := 0) (v := .slice (some ⟨rb, 0, none⟩) mn mc) rfl (by kernel_rfl) (by kernel_rfl) (by kernel_rfl) (fun _ _ _ h => h) (Or.inl ⟨by rfl, fun W hW => by go_simp⟩) hS ?_
              simp only [Act.put, List.setIfInBounds_toArray, List.set_cons_zero, List.set_cons_succ]
              refine takeH (i := 1) (v := .int .i64 (k : Int)) rfl (by kernel_rfl) (by kernel_rfl) (by kernel_rfl) (fun _ _ _ h => h) (Or.inl ⟨by rfl, fun W hW => by go_simp⟩) hS ?_
              simp only [Act.put, List.setIfInBounds_toArray, List.set_cons_zero, List.set_cons_succ]
              refine takeH (i := 2) (v := .pointer (some ⟨rb, k * 2, none⟩)) rfl (by kernel_rfl) (by kernel_rfl) (by kernel_rfl) (fun _ _ _ h => h) (Or.inl ⟨by rfl, fun W hW => by go_simp⟩) hS ?_
              simp only [Act.put, List.setIfInBounds_toArray, List.set_cons_zero, List.set_cons_succ]
              refine takeH (i := 3) (v := .pointer (some ⟨rb, k * 2 + 1, none⟩)) rfl (by kernel_rfl) (by kernel_rfl) (by kernel_rfl) (fun _ _ _ h => h) (Or.inl ⟨by rfl, fun W hW => by go_simp⟩) hS ?_
              simp only [Act.put, List.setIfInBounds_toArray, List.set_cons_zero, List.set_cons_succ]
              refine takeH (i := 4) (v := .int .u64 hv) rfl (by kernel_rfl) (by kernel_rfl) (by kernel_rfl) (fun _ _ _ h => h) (Or.inl ⟨by rfl, fun W hW => by obtain ⟨s0, s1⟩ := hW; go_simp⟩) hS ?_
              simp only [Act.put, List.setIfInBounds_toArray, List.set_cons_zero, List.set_cons_succ]
              refine takeH (i := 5) (v := .bool false) rfl (by kernel_rfl) (by kernel_rfl) (by kernel_rfl) (fun _ _ _ h => h) (Or.inl ⟨by rfl, fun W hW => by go_simp⟩) hS ?_
              simp only [Act.put, List.setIfInBounds_toArray, List.set_cons_zero, List.set_cons_succ]
              refine takeH (i := 6) (v := .bool false) rfl (by kernel_rfl) (by kernel_rfl) (by kernel_rfl) (fun _ _ _ h => h) (Or.inl ⟨by rfl, fun W hW => by go_simp⟩) hS ?_
              simp only [Act.put, List.setIfInBounds_toArray, List.set_cons_zero, List.set_cons_succ]
              refine takeH (i := 7) (v := .int .i64 (k : Int)) rfl (by kernel_rfl) (by kernel_rfl) (by kernel_rfl) (fun _ _ _ h => h) (Or.inl ⟨by rfl, fun W hW => by go_simp⟩) hS ?_
              simp only [Act.put, List.setIfInBounds_toArray, List.set_cons_zero, List.set_cons_succ]
              refine takeH (i := 8) (v := .bool false) rfl (by kernel_rfl) (by kernel_rfl) (by kernel_rfl) (fun _ _ _ h => h) (Or.inl ⟨by rfl, fun W hW => by go_simp⟩) hS ?_
              simp only [Act.put, List.setIfInBounds_toArray, List.set_cons_zero, List.set_cons_succ]
              refine takeH (i := 9) (v := .bool false) rfl (by kernel_rfl) (by kernel_rfl) (by kernel_rfl) (fun _ _ _ h => h) (Or.inl ⟨by rfl, fun W hW => by go_simp⟩) hS ?_
              simp only [Act.put, List.setIfInBounds_toArray, List.set_cons_zero, List.set_cons_succ]
              refine takeH (i := 10) (v := undef) rfl (by kernel_rfl) (by kernel_rfl) (by kernel_rfl) (fun _ _ _ h => h) (Or.inr ⟨by rfl, rfl⟩) hS ?_
              simp only [Act.put, List.setIfInBounds_toArray, List.set_cons_zero, List.set_cons_succ]
              refine takeH (i := 11) (v := undef) rfl (by kernel_rfl) (by kernel_rfl) (by kernel_rfl) (fun _ _ _ h => h) (Or.inr ⟨by rfl, rfl⟩) hS ?_
              simp only [Act.put, List.setIfInBounds_toArray, List.set_cons_zero, List.set_cons_succ]
              refine takeH (i := 12) (v := undef) rfl (by kernel_rfl) (by kernel_rfl) (by kernel_rfl) (fun _ _ _ h => h) (Or.inr ⟨by rfl, rfl⟩) hS ?_
              simp only [Act.put, List.setIfInBounds_toArray, List.set_cons_zero, List.set_cons_succ]
              refine takeH (i := 13) (v := undef) rfl (by kernel_rfl) (by kernel_rfl) (by kernel_rfl) (fun _ _ _ h => h) (Or.inr ⟨by rfl, rfl⟩) hS ?_
              simp only [Act.put, List.setIfInBounds_toArray, List.set_cons_zero, List.set_cons_succ]
              refine takeH (i := 14) (v := undef) rfl (by kernel_rfl) (by kernel_rfl) (by kernel_rfl) (fun _ _ _ h => h) (Or.inr ⟨by rfl, rfl⟩) hS ?_
              simp only [Act.put, List.setIfInBounds_toArray, List.set_cons_zero, List.set_cons_succ]
              refine takeH (i := 15) (v := undef) rfl (by kernel_rfl) (by kernel_rfl) (by kernel_rfl) (fun _ _ _ h => h) (Or.inr ⟨by rfl, rfl⟩) hS ?_
              simp only [Act.put, List.setIfInBounds_toArray, List.set_cons_zero, List.set_cons_succ]
              refine takeH (i := 16) (v := undef) rfl (by kernel_rfl) (by kernel_rfl) (by kernel_rfl) (fun _ _ _ h => h) (Or.inr ⟨by rfl, rfl⟩) hS ?_
              simp only [Act.put, List.setIfInBounds_toArray, List.set_cons_zero, List.set_cons_succ]
              refine takeH (i := 17) (v := undef) rfl (by kernel_rfl) (by kernel_rfl) (by kernel_rfl) (fun _ _ _ h => h) (Or.inr ⟨by rfl, rfl⟩) hS ?_
              simp only [Act.put, List.setIfInBounds_toArray, List.set_cons_zero, List.set_cons_succ]
              refine takeH (i := 18) (v := undef) rfl (by kernel_rfl) (by kernel_rfl) (by kernel_rfl) (fun _ _ _ h => h) (Or.inr ⟨by rfl, rfl⟩) hS ?_
              simp only [Act.put, List.setIfInBounds_toArray, List.set_cons_zero, List.set_cons_succ]
              refine takeH (i := 19) (v := undef) rfl (by kernel_rfl) (by kernel_rfl) (by kernel_rfl) (fun _ _ _ h => h) (Or.inr ⟨by rfl, rfl⟩) hS ?_
              simp only [Act.put, List.setIfInBounds_toArray, List.set_cons_zero, List.set_cons_succ]
              refine takeH (i := 20) (v := undef) rfl (by kernel_rfl) (by kernel_rfl) (by kernel_rfl) (fun _ _ _ h => h) (Or.inr ⟨by rfl, rfl⟩) hS ?_
              simp only [Act.put, List.setIfInBounds_toArray, List.set_cons_zero, List.set_cons_succ]
              refine takeH (i := 21) (v := undef) rfl (by kernel_rfl) (by kernel_rfl) (by kernel_rfl) (fun _ _ _ h => h) (Or.inr ⟨by rfl, rfl⟩) hS ?_
              simp only [Act.put, List.setIfInBounds_toArray, List.set_cons_zero, List.set_cons_succ]
              refine takeH (i := 22) (v := .bool false) rfl (by kernel_rfl) (by kernel_rfl) (by kernel_rfl) (fun _ _ _ h => h) (Or.inl ⟨by rfl, fun W hW => by go_simp⟩) hS ?_
              simp only [Act.put, List.setIfInBounds_toArray, List.set_cons_zero, List.set_cons_succ]
              refine takeH (i := 23) (v := .bool false) rfl (by kernel_rfl) (by kernel_rfl) (by kernel_rfl) (fun _ _ _ h => h) (Or.inl ⟨by rfl, fun W hW => by go_simp⟩) hS ?_
              simp only [Act.put, List.setIfInBounds_toArray, List.set_cons_zero, List.set_cons_succ]
              refine takeH (i := 24) (v := .bool false) rfl (by kernel_rfl) (by kernel_rfl) (by kernel_rfl) (fun _ _ _ h => h) (Or.inl ⟨by rfl, fun W hW => by go_simp⟩) hS ?_
              simp only [Act.put, List.setIfInBounds_toArray, List.set_cons_zero, List.set_cons_succ]
              refine takeH (i := 25) (v := .slice (some ⟨rb, 0, none⟩) mn mc) rfl (by kernel_rfl) (by kernel_rfl) (by kernel_rfl) (fun _ _ _ h => h) (Or.inl ⟨by rfl, fun W hW => by go_simp⟩) hS ?_
              simp only [Act.put, List.setIfInBounds_toArray, List.set_cons_zero, List.set_cons_succ]
              refine takeH (i := 26) (v := .int .i64 (k : Int)) rfl (by kernel_rfl) (by kernel_rfl) (by kernel_rfl) (fun _ _ _ h => h) (Or.inl ⟨by rfl, fun W hW => by go_simp⟩) hS ?_
              simp only [Act.put, List.setIfInBounds_toArray, List.set_cons_zero, List.set_cons_succ]
              refine takeH (i := 27) (v := .pointer (some ⟨rb, k * 2, none⟩)) rfl (by kernel_rfl) (by kernel_rfl) (by kernel_rfl) (fun _ _ _ h => h) (Or.inl ⟨by rfl, fun W hW => by go_simp⟩) hS ?_
              simp only [Act.put, List.setIfInBounds_toArray, List.set_cons_zero, List.set_cons_succ]
              refine takeH (i := 28) (v := .pointer (some ⟨rb, k * 2 + 1, none⟩)) rfl (by kernel_rfl) (by kernel_rfl) (by kernel_rfl) (fun _ _ _ h => h) (Or.inl ⟨by rfl, fun W hW => by go_simp⟩) hS ?_
              simp only [Act.put, List.setIfInBounds_toArray, List.set_cons_zero, List.set_cons_succ]
              refine takeH (i := 29) (v := .int .u64 hv) rfl (by kernel_rfl) (by kernel_rfl) (by kernel_rfl) (fun _ _ _ h => h) (Or.inl ⟨by rfl, fun W hW => by obtain ⟨s0, s1⟩ := hW; go_simp⟩) hS ?_
              simp only [Act.put, List.setIfInBounds_toArray, List.set_cons_zero, List.set_cons_succ]
              refine takeH (i := 30) (v := .pointer (some ⟨f, 0, none⟩)) rfl (by kernel_rfl) (by kernel_rfl) (by kernel_rfl) (fun _ _ _ h => h) (Or.inl ⟨by rfl, fun W hW => by go_simp⟩) hS ?_
              simp only [Act.put, List.setIfInBounds_toArray, List.set_cons_zero, List.set_cons_succ]
              refine takeH (i := 31) (v := .slice (some ⟨rb, 0, none⟩) mn mc) rfl (by kernel_rfl) (by kernel_rfl) (by kernel_rfl) (fun _ _ _ h => h) (Or.inl ⟨by rfl, fun W hW => by go_simp⟩) hS ?_
              simp only [Act.put, List.setIfInBounds_toArray, List.set_cons_zero, List.set_cons_succ]
              refine takeH (i := 32) (v := .int .i64 (k : Int)) rfl (by kernel_rfl) (by kernel_rfl) (by kernel_rfl) (fun _ _ _ h => h) (Or.inl ⟨by rfl, fun W hW => by go_simp⟩) hS ?_
              simp only [Act.put, List.setIfInBounds_toArray, List.set_cons_zero, List.set_cons_succ]
              refine takeH (i := 33) (v := .pointer (some ⟨rb, k * 2, none⟩)) rfl (by kernel_rfl) (by kernel_rfl) (by kernel_rfl) (fun _ _ _ h => h) (Or.inl ⟨by rfl, fun W hW => by go_simp⟩) hS ?_
              simp only [Act.put, List.setIfInBounds_toArray, List.set_cons_zero, List.set_cons_succ]
              refine takeH (i := 34) (v := .pointer (some ⟨rb, k * 2, none⟩)) rfl (by kernel_rfl) (by kernel_rfl) (by kernel_rfl) (fun _ _ _ h => h) (Or.inl ⟨by rfl, fun W hW => by go_simp⟩) hS ?_
              simp only [Act.put, List.setIfInBounds_toArray, List.set_cons_zero, List.set_cons_succ]
              refine takeH (i := 35) (v := .int .u64 idk) rfl (by kernel_rfl) (by kernel_rfl) (by kernel_rfl) (fun _ _ _ h => h) (Or.inl ⟨by rfl, fun W hW => by obtain ⟨s0, s1⟩ := hW; go_simp⟩) hS ?_
              simp only [Act.put, List.setIfInBounds_toArray, List.set_cons_zero, List.set_cons_succ]
              refine onlyH (i := 36) rfl (by kernel_rfl) (fun K hK => ?_)
              go_simp
              go_at_call 17
              (with_reducible refine (AL.out wr.drew ((Below.refl _ _).drew)).mono ?_)
              clear hS
              rintro e w8 ⟨vv, rfl, hvv, hb8'⟩
              have hb8 : Below wr.heap.size wr w8 := ⟨hb8'.os, hb8'.tape, hb8'.output, hb8'.size, hb8'.block⟩
              have hS := HKEEP.out w8 hb8
              refine hK _ _ ⟨hS, ?_⟩
              clear hK K
              have HB8 : Hid (Below wr.heap.size wr w8) := hb8
              clear hb8 hb8'
              have dle : decide (vv < hv) = false := decide_eq_false (by omega)
              refine takeH (i := 37) (v := .bool false) rfl (by kernel_rfl) (by kernel_rfl) (by kernel_rfl) (fun _ _ _ h => h) (Or.inl ⟨by rfl, fun W hW => by go_simp <;> omega⟩) hS ?_
              simp only [Act.put, List.setIfInBounds_toArray, List.set_cons_zero, List.set_cons_succ]
              refine takeH (i := 38) (v := .bool false) rfl (by kernel_rfl) (by kernel_rfl) (by kernel_rfl) (fun _ _ _ h => h) (Or.inl ⟨by rfl, fun W hW => by go_simp⟩) hS ?_
              simp only [Act.put, List.setIfInBounds_toArray, List.set_cons_zero, List.set_cons_succ]
              refine wpAnyH_done (by kernel_rfl) ?_ _
              go_wp2
              go_roundw
              case rel => exact ⟨k + 1, by rw [HS1.out], by go_num, by omega, HK.out.trans (HB8.out.mono HK.out.size)⟩
              case measure => (simp [intOf]; omega)
            · obtain ⟨j, hkj⟩ : ∃ j, k = j + 1 := ⟨k - 1, by omega⟩
              obtain ⟨idj, hij, hcj⟩ := HPR.out j hkj
              have HKEEP : Hid (∀ U, Below wr.heap.size wr U → U.cell? ⟨rb, k * 2, none⟩ = some (.int .u64 idk) ∧ U.cell? ⟨rb, k * 2 + 1, none⟩ = some (.int .u64 hv) ∧ U.cell? ⟨rb, j * 2, none⟩ = some (.int .u64 idj)) := fun U hU => ⟨(HK2.out U hU).1, (HK2.out U hU).2, hcj U hU⟩
              have HK0 : Hid (0 < k) := by show 0 < k; omega
              have hsub : (k : Int) - 1 = (j : Int) := by omega
              have hwr : IntKind.i64.wrap (j : Int) = (j : Int) := by simp [IntKind.wrap, IntKind.bits, IntKind.signed]; omega
              have hin3 : (j : Int) < (mn : Int) := by omega
              have dge : decide (idk ≤ idj) = false := decide_eq_false (by omega)
              clear HPR hk0 hkj hcj HK2
              go_upto_region 17 with fail
              refine wp_region_held (S := fun U => U.cell? ⟨rb, k * 2, none⟩ = some (.int .u64 idk) ∧ U.cell? ⟨rb, k * 2 + 1, none⟩ = some (.int .u64 hv) ∧ U.cell? ⟨rb, j * 2, none⟩ = some (.int .u64 idj)) (by kernel_rfl) ?_
              change wpAnyH _ _ _ _ _ _ _ _ (World.drew _)
              have hS := HKEEP.out wr.drew ((Below.refl _ _).drew)
              refine takeH (i := 0) (v := .slice (some ⟨rb, 0, none⟩) mn mc) rfl (by kernel_rfl) (by kernel_rfl) (by kernel_rfl) (fun _ _ _ h => h) (Or.inl ⟨by rfl, fun W hW => by go_simp⟩) hS ?_
              simp only [Act.put, List.setIfInBounds_toArray, List.set_cons_zero, List.set_cons_succ]
              refine takeH (i := 1) (v := .int .i64 (k : Int)) rfl (by kernel_rfl) (by kernel_rfl) (by kernel_rfl) (fun _ _ _ h => h) (Or.inl ⟨by rfl, fun W hW => by go_simp⟩) hS ?_
              simp only [Act.put, List.setIfInBounds_toArray, List.set_cons_zero, List.set_cons_succ]
              refine takeH (i := 2) (v := .pointer (some ⟨rb, k * 2, none⟩)) rfl (by kernel_rfl) (by kernel_rfl) (by kernel_rfl) (fun _ _ _ h => h) (Or.inl ⟨by rfl, fun W hW => by go_simp⟩) hS ?_
              simp only [Act.put, List.setIfInBounds_toArray, List.set_cons_zero, List.set_cons_succ]
              refine takeH (i := 3) (v := .pointer (some ⟨rb, k * 2 + 1, none⟩)) rfl (by kernel_rfl) (by kernel_rfl) (by kernel_rfl) (fun _ _ _ h => h) (Or.inl ⟨by rfl, fun W hW => by go_simp⟩) hS ?_
              simp only [Act.put, List.setIfInBounds_toArray, List.set_cons_zero, List.set_cons_succ]
              refine takeH (i := 4) (v := .int .u64 hv) rfl (by kernel_rfl) (by kernel_rfl) (by kernel_rfl) (fun _ _ _ h => h) (Or.inl ⟨by rfl, fun W hW => by obtain ⟨s0, s1, s2⟩ := hW; go_simp⟩) hS ?_
              simp only [Act.put, List.setIfInBounds_toArray, List.set_cons_zero, List.set_cons_succ]
              refine takeH (i := 5) (v := .bool false) rfl (by kernel_rfl) (by kernel_rfl) (by kernel_rfl) (fun _ _ _ h => h) (Or.inl ⟨by rfl, fun W hW => by go_simp⟩) hS ?_
              simp only [Act.put, List.setIfInBounds_toArray, List.set_cons_zero, List.set_cons_succ]
              refine takeH (i := 6) (v := .bool false) rfl (by kernel_rfl) (by kernel_rfl) (by kernel_rfl) (fun _ _ _ h => h) (Or.inl ⟨by rfl, fun W hW => by go_simp⟩) hS ?_
              simp only [Act.put, List.setIfInBounds_toArray, List.set_cons_zero, List.set_cons_succ]
              refine takeH (i := 7) (v := .int .i64 (k : Int)) rfl (by kernel_rfl) (by kernel_rfl) (by kernel_rfl) (fun _ _ _ h => h) (Or.inl ⟨by rfl, fun W hW => by go_simp⟩) hS ?_
              simp only [Act.put, List.setIfInBounds_toArray, List.set_cons_zero, List.set_cons_succ]
              refine takeH (i := 8) (v := .bool true) rfl (by kernel_rfl) (by kernel_rfl) (by kernel_rfl) (fun _ _ _ h => h) (Or.inl ⟨by rfl, fun W hW => by go_simp; exact HK0.out⟩) hS ?_
              simp only [Act.put, List.setIfInBounds_toArray, List.set_cons_zero, List.set_cons_succ]
              refine takeH (i := 9) (v := .bool true) rfl (by kernel_rfl) (by kernel_rfl) (by kernel_rfl) (fun _ _ _ h => h) (Or.inl ⟨by rfl, fun W hW => by go_simp⟩) hS ?_
              simp only [Act.put, List.setIfInBounds_toArray, List.set_cons_zero, List.set_cons_succ]
              refine takeH (i := 10) (v := .slice (some ⟨rb, 0, none⟩) mn mc) rfl (by kernel_rfl) (by kernel_rfl) (by kernel_rfl) (fun _ _ _ h => h) (Or.inl ⟨by rfl, fun W hW => by go_simp⟩) hS ?_
              simp only [Act.put, List.setIfInBounds_toArray, List.set_cons_zero, List.set_cons_succ]
              refine takeH (i := 11) (v := .int .i64 (k : Int)) rfl (by kernel_rfl) (by kernel_rfl) (by kernel_rfl) (fun _ _ _ h => h) (Or.inl ⟨by rfl, fun W hW => by go_simp⟩) hS ?_
              simp only [Act.put, List.setIfInBounds_toArray, List.set_cons_zero, List.set_cons_succ]
              refine takeH (i := 12) (v := .int .i64 (j : Int)) rfl (by kernel_rfl) (by kernel_rfl) (by kernel_rfl) (fun _ _ _ h => h) (Or.inl ⟨by rfl, fun W hW => by go_simp⟩) hS ?_
              simp only [Act.put, List.setIfInBounds_toArray, List.set_cons_zero, List.set_cons_succ]
              refine takeH (i := 13) (v := .pointer (some ⟨rb, j * 2, none⟩)) rfl (by kernel_rfl) (by kernel_rfl) (by kernel_rfl) (fun _ _ _ h => h) (Or.inl ⟨by rfl, fun W hW => by go_simp⟩) hS ?_
              simp only [Act.put, List.setIfInBounds_toArray, List.set_cons_zero, List.set_cons_succ]
              refine takeH (i := 14) (v := .pointer (some ⟨rb, j * 2, none⟩)) rfl (by kernel_rfl) (by kernel_rfl) (by kernel_rfl) (fun _ _ _ h => h) (Or.inl ⟨by rfl, fun W hW => by go_simp⟩) hS ?_
              simp only [Act.put, List.setIfInBounds_toArray, List.set_cons_zero, List.set_cons_succ]
              refine takeH (i := 15) (v := .int .u64 idj) rfl (by kernel_rfl) (by kernel_rfl) (by kernel_rfl) (fun _ _ _ h => h) (Or.inl ⟨by rfl, fun W hW => by obtain ⟨s0, s1, s2⟩ := hW; go_simp⟩) hS ?_
              simp only [Act.put, List.setIfInBounds_toArray, List.set_cons_zero, List.set_cons_succ]
              refine takeH (i := 16) (v := .slice (some ⟨rb, 0, none⟩) mn mc) rfl (by kernel_rfl) (by kernel_rfl) (by kernel_rfl) (fun _ _ _ h => h) (Or.inl ⟨by rfl, fun W hW => by go_simp⟩) hS ?_
              simp only [Act.put, List.setIfInBounds_toArray, List.set_cons_zero, List.set_cons_succ]
              refine takeH (i := 17) (v := .int .i64 (k : Int)) rfl (by kernel_rfl) (by kernel_rfl) (by kernel_rfl) (fun _ _ _ h => h) (Or.inl ⟨by rfl, fun W hW => by go_simp⟩) hS ?_
              simp only [Act.put, List.setIfInBounds_toArray, List.set_cons_zero, List.set_cons_succ]
              refine takeH (i := 18) (v := .pointer (some ⟨rb, k * 2, none⟩)) rfl (by kernel_rfl) (by kernel_rfl) (by kernel_rfl) (fun _ _ _ h => h) (Or.inl ⟨by rfl, fun W hW => by go_simp⟩) hS ?_
              simp only [Act.put, List.setIfInBounds_toArray, List.set_cons_zero, List.set_cons_succ]
              refine takeH (i := 19) (v := .pointer (some ⟨rb, k * 2, none⟩)) rfl (by kernel_rfl) (by kernel_rfl) (by kernel_rfl) (fun _ _ _ h => h) (Or.inl ⟨by rfl, fun W hW => by go_simp⟩) hS ?_
              simp only [Act.put, List.setIfInBounds_toArray, List.set_cons_zero, List.set_cons_succ]
              refine takeH (i := 20) (v := .int .u64 idk) rfl (by kernel_rfl) (by kernel_rfl) (by kernel_rfl) (fun _ _ _ h => h) (Or.inl ⟨by rfl, fun W hW => by obtain ⟨s0, s1, s2⟩ := hW; go_simp⟩) hS ?_
              simp only [Act.put, List.setIfInBounds_toArray, List.set_cons_zero, List.set_cons_succ]
              refine takeH (i := 21) (v := .bool false) rfl (by kernel_rfl) (by kernel_rfl) (by kernel_rfl) (fun _ _ _ h => h) (Or.inl ⟨by rfl, fun W hW => by go_simp⟩) hS ?_
              simp only [Act.put, List.setIfInBounds_toArray, List.set_cons_zero, List.set_cons_succ]
              refine takeH (i := 22) (v := .bool false) rfl (by kernel_rfl) (by kernel_rfl) (by kernel_rfl) (fun _ _ _ h => h) (Or.inl ⟨by rfl, fun W hW => by go_simp⟩) hS ?_
              simp only [Act.put, List.setIfInBounds_toArray, List.set_cons_zero, List.set_cons_succ]
              refine takeH (i := 23) (v := .bool false) rfl (by kernel_rfl) (by kernel_rfl) (by kernel_rfl) (fun _ _ _ h => h) (Or.inl ⟨by rfl, fun W hW => by go_simp⟩) hS ?_
              simp only [Act.put, List.setIfInBounds_toArray, List.set_cons_zero, List.set_cons_succ]
              refine takeH (i := 24) (v := .bool false) rfl (by kernel_rfl) (by kernel_rfl) (by kernel_rfl) (fun _ _ _ h => h) (Or.inl ⟨by rfl, fun W hW => by go_simp⟩) hS ?_
              simp only [Act.put, List.setIfInBounds_toArray, List.set_cons_zero, List.set_cons_succ]
              refine takeH (i := 25) (v := .slice (some ⟨rb, 0, none⟩) mn mc) rfl (by kernel_rfl) (by kernel_rfl) (by kernel_rfl) (fun _ _ _ h => h) (Or.inl ⟨by rfl, fun W hW => by go_simp⟩) hS ?_
              simp only [Act.put, List.setIfInBounds_toArray, List.set_cons_zero, List.set_cons_succ]
              refine takeH (i := 26) (v := .int .i64 (k : Int)) rfl (by kernel_rfl) (by kernel_rfl) (by kernel_rfl) (fun _ _ _ h => h) (Or.inl ⟨by rfl, fun W hW => by go_simp⟩) hS ?_
              simp only [Act.put, List.setIfInBounds_toArray, List.set_cons_zero, List.set_cons_succ]
              refine takeH (i := 27) (v := .pointer (some ⟨rb, k * 2, none⟩)) rfl (by kernel_rfl) (by kernel_rfl) (by kernel_rfl) (fun _ _ _ h => h) (Or.inl ⟨by rfl, fun W hW => by go_simp⟩) hS ?_
              simp only [Act.put, List.setIfInBounds_toArray, List.set_cons_zero, List.set_cons_succ]
              refine takeH (i := 28) (v := .pointer (some ⟨rb, k * 2 + 1, none⟩)) rfl (by kernel_rfl) (by kernel_rfl) (by kernel_rfl) (fun _ _ _ h => h) (Or.inl ⟨by rfl, fun W hW => by go_simp⟩) hS ?_
              simp only [Act.put, List.setIfInBounds_toArray, List.set_cons_zero, List.set_cons_succ]
              refine takeH (i := 29) (v := .int .u64 hv) rfl (by kernel_rfl) (by kernel_rfl) (by kernel_rfl) (fun _ _ _ h => h) (Or.inl ⟨by rfl, fun W hW => by obtain ⟨s0, s1, s2⟩ := hW; go_simp⟩) hS ?_
              simp only [Act.put, List.setIfInBounds_toArray, List.set_cons_zero, List.set_cons_succ]
              refine takeH (i := 30) (v := .pointer (some ⟨f, 0, none⟩)) rfl (by kernel_rfl) (by kernel_rfl) (by kernel_rfl) (fun _ _ _ h => h) (Or.inl ⟨by rfl, fun W hW => by go_simp⟩) hS ?_
              simp only [Act.put, List.setIfInBounds_toArray, List.set_cons_zero, List.set_cons_succ]
              refine takeH (i := 31) (v := .slice (some ⟨rb, 0, none⟩) mn mc) rfl (by kernel_rfl) (by kernel_rfl) (by kernel_rfl) (fun _ _ _ h => h) (Or.inl ⟨by rfl, fun W hW => by go_simp⟩) hS ?_
              simp only [Act.put, List.setIfInBounds_toArray, List.set_cons_zero, List.set_cons_succ]
              refine takeH (i := 32) (v := .int .i64 (k : Int)) rfl (by kernel_rfl) (by kernel_rfl) (by kernel_rfl) (fun _ _ _ h => h) (Or.inl ⟨by rfl, fun W hW => by go_simp⟩) hS ?_
              simp only [Act.put, List.setIfInBounds_toArray, List.set_cons_zero, List.set_cons_succ]
              refine takeH (i := 33) (v := .pointer (some ⟨rb, k * 2, none⟩)) rfl (by kernel_rfl) (by kernel_rfl) (by kernel_rfl) (fun _ _ _ h => h) (Or.inl ⟨by rfl, fun W hW => by go_simp⟩) hS ?_
              simp only [Act.put, List.setIfInBounds_toArray, List.set_cons_zero, List.set_cons_succ]
              refine takeH (i := 34) (v := .pointer (some ⟨rb, k * 2, none⟩)) rfl (by kernel_rfl) (by kernel_rfl) (by kernel_rfl) (fun _ _ _ h => h) (Or.inl ⟨by rfl, fun W hW => by go_simp⟩) hS ?_
              simp only [Act.put, List.setIfInBounds_toArray, List.set_cons_zero, List.set_cons_succ]
              refine takeH (i := 35) (v := .int .u64 idk) rfl (by kernel_rfl) (by kernel_rfl) (by kernel_rfl) (fun _ _ _ h => h) (Or.inl ⟨by rfl, fun W hW => by obtain ⟨s0, s1, s2⟩ := hW; go_simp⟩) hS ?_
              simp only [Act.put, List.setIfInBounds_toArray, List.set_cons_zero, List.set_cons_succ]
              refine onlyH (i := 36) rfl (by kernel_rfl) (fun K hK => ?_)
              go_simp
              go_at_call 17
              (with_reducible refine (AL.out wr.drew ((Below.refl _ _).drew)).mono ?_)
              clear hS
              rintro e w8 ⟨vv, rfl, hvv, hb8'⟩
              have hb8 : Below wr.heap.size wr w8 := ⟨hb8'.os, hb8'.tape, hb8'.output, hb8'.size, hb8'.block⟩
              have hS := HKEEP.out w8 hb8
              refine hK _ _ ⟨hS, ?_⟩
              clear hK K
              have HB8 : Hid (Below wr.heap.size wr w8) := hb8
              clear hb8 hb8'
              have dle : decide (vv < hv) = false := decide_eq_false (by omega)
              refine takeH (i := 37) (v := .bool false) rfl (by kernel_rfl) (by kernel_rfl) (by kernel_rfl) (fun _ _ _ h => h) (Or.inl ⟨by rfl, fun W hW => by go_simp <;> omega⟩) hS ?_
              simp only [Act.put, List.setIfInBounds_toArray, List.set_cons_zero, List.set_cons_succ]
              refine takeH (i := 38) (v := .bool false) rfl (by kernel_rfl) (by kernel_rfl) (by kernel_rfl) (fun _ _ _ h => h) (Or.inl ⟨by rfl, fun W hW => by go_simp⟩) hS ?_
              simp only [Act.put, List.setIfInBounds_toArray, List.set_cons_zero, List.set_cons_succ]
              refine wpAnyH_done (by kernel_rfl) ?_ _
              go_wp2
              go_roundw
              case rel => exact ⟨k + 1, by rw [HS1.out], by go_num, by omega, HK.out.trans (HB8.out.mono HK.out.size)⟩
              case measure => (simp [intOf]; omega)
          · obtain rfl : mn = k := by omega
            have HSM : Hid (preS M mn = dtil - dfr) := by
              show _ = _
              rw [preS_all (by rw [HMN.out.1]; exact Nat.le_refl _), HS.out.ms]
            rw [HSM.out]
            have HK6 : Hid (Below w6.heap.size w6 wr) := HK
            obtain ⟨w7, hw7⟩ : ∃ w7, wr = w7 := ⟨_, rfl⟩
            have HM7 : Hid (LieIn shQ 2 wr ma M) := HM6.out.below HK6.out
            have HN7 : Hid (LieIn svQ 2 wr na N) := HN6.out.below HK6.out
            have H7 : Hid (Below w3.heap.size w3 wr) := H6.out.trans (HK6.out.mono H6.out.size)
            have HB7 : Hid (Blk wr nb #[.int .u64 did, .int .u64 dpar, .int .i64 dorg, .int .u64 dtree, .int .i64 ddep, .int .i64 dfr, .int .i64 dtil] 48) := HB6.out.below HK6.out HB6.out.lt
            rw [hw7] at HM7 HN7 H7 HB7 ⊢
            clear hw7 HK HK6 HM6 HN6 H6 HB6 HSM HSU
            go_wp2
            go_loopw [16, 17] (fun z16 z17 wq => ∃ j : Nat, z16 = .int .u64 (preS N j) ∧ z17 = .int .i64 j ∧ j ≤ nn ∧ Hid (Below w7.heap.size w7 wq)) (fun _ z17 _ => nn - (intOf z17).toNat)
            case atStart => exact ⟨0, rfl, rfl, by omega, Below.refl _ _⟩
            case round =>
              obtain ⟨k, rfl, rfl, hk, HK⟩ := hrel
              by_cases hkq : k < nn
              · have hkn : (k : Int) < (nn : Int) := by omega
                have hkN : k < N.length := by rw [HMN.out.2]; exact hkq
                obtain ⟨rb, e, hrb, hc⟩ := (HN7.out.below HK.out) (fun e => by rw [e] at hkN; simp at hkN)
                subst e
                have c1 : wr.cell? ⟨rb, k * 2 + 1, none⟩ = some (.int .u64 N[k].2) := hc k hkN 1 _ rfl
                have HK2 : Hid (∀ U, Below wr.heap.size wr U → U.cell? ⟨rb, k * 2, none⟩ = some (.string ⟨N[k].1.toArray⟩) ∧ U.cell? ⟨rb, k * 2 + 1, none⟩ = some (.int .u64 N[k].2)) := fun U hU => ⟨(hU.cell (p := ⟨rb, k * 2, none⟩) hrb).trans (hc k hkN 0 _ rfl), (hU.cell (p := ⟨rb, k * 2 + 1, none⟩) hrb).trans c1⟩
                have OF : Hid (∀ U, Below wr.heap.size wr U → Calls Tryz.prog 18 #[.pointer (some ⟨f, 0, none⟩), .slice ma mn mc, .string ⟨N[k].1.toArray⟩] U fun e W' => e = .returned (.int .u64 N[k].2) ∧ Below U.heap.size U W') := fun U hU => HS.out.no k hkN U (H7.out.trans ((HK.out.trans (hU.mono HK.out.size)).mono H7.out.size)) ma mn mc HMN.out.1 (HM7.out.below (HK.out.trans (hU.mono HK.out.size)))
                have hpos := HS.out.np k hkN
                have hsu := HTU.out k hkN
                have HPR : Hid (∀ j, k = j + 1 → ∃ nj : List UInt8, nj < N[k].1 ∧ ∀ U, Below wr.heap.size wr U → U.cell? ⟨rb, j * 2, none⟩ = some (.string ⟨nj.toArray⟩)) := fun j hj => by
                  subst hj
                  exact ⟨N[j].1, HS.out.nr j hkN, fun U hU => (hU.cell (p := ⟨rb, j * 2, none⟩) hrb).trans (hc j (by omega) 0 _ rfl)⟩
                clear hc
                generalize hMk : N[k] = mk at *
                clear hMk
                obtain ⟨nks, hv⟩ := mk
                simp only at c1 HK2 OF hpos hsu HPR
                generalize preS N k = s0 at *
                generalize hs1 : preS N (k + 1) = s1 at *
                have HS1 : Hid (preS N (k + 1) = s1) := hs1
                clear hs1
                have dn0 : (hv == 0) = false := by simp; omega
                by_cases hk0 : k = 0
                · obtain ⟨nk, hnk⟩ : ∃ nk : ByteArray, ⟨nks.toArray⟩ = nk := ⟨_, rfl⟩
                  rw [hnk] at HK2 OF
                  have HKEEP : Hid (∀ U, Below wr.heap.size wr U → U.cell? ⟨rb, k * 2, none⟩ = some (.string nk) ∧ U.cell? ⟨rb, k * 2 + 1, none⟩ = some (.int .u64 hv)) := HK2.out
                  have dk : decide (0 < k) = false := decide_eq_false (by omega)
                  have dk2 : decide ((0 : Int) < (k : Int)) = false := decide_eq_false (by omega)
                  clear HPR hk0 hnk
                  go_upto_region 24 with fail
                  refine wp_region_held (S := fun U => U.cell? ⟨rb, k * 2, none⟩ = some (.string nk) ∧ U.cell? ⟨rb, k * 2 + 1, none⟩ = some (.int .u64 hv)) (by kernel_rfl) ?_
                  change wpAnyH _ _ _ _ _ _ _ _ (World.drew _)
                  have hS := HKEEP.out wr.drew ((Below.refl _ _).drew)
                  refine takeH (i := 0) (v := .slice (some ⟨rb, 0, none⟩) nn nc) rfl (by kernel_rfl) (by kernel_rfl) (by kernel_rfl) (fun _ _ _ h => h) (Or.inl ⟨by rfl, fun W hW => by go_simp⟩) hS ?_
                  simp only [Act.put, List.setIfInBounds_toArray, List.set_cons_zero, List.set_cons_succ]
                  refine takeH (i := 1) (v := .int .i64 (k : Int)) rfl (by kernel_rfl) (by kernel_rfl) (by kernel_rfl) (fun _ _ _ h => h) (Or.inl ⟨by rfl, fun W hW => by go_simp⟩) hS ?_
                  simp only [Act.put, List.setIfInBounds_toArray, List.set_cons_zero, List.set_cons_succ]
                  refine takeH (i := 2) (v := .pointer (some ⟨rb, k * 2, none⟩)) rfl (by kernel_rfl) (by kernel_rfl) (by kernel_rfl) (fun _ _ _ h => h) (Or.inl ⟨by rfl, fun W hW => by go_simp⟩) hS ?_
                  simp only [Act.put, List.setIfInBounds_toArray, List.set_cons_zero, List.set_cons_succ]
                  refine takeH (i := 3) (v := .pointer (some ⟨rb, k * 2 + 1, none⟩)) rfl (by kernel_rfl) (by kernel_rfl) (by kernel_rfl) (fun _ _ _ h => h) (Or.inl ⟨by rfl, fun W hW => by go_simp⟩) hS ?_
                  simp only [Act.put, List.setIfInBounds_toArray, List.set_cons_zero, List.set_cons_succ]
                  refine takeH (i := 4) (v := .int .u64 hv) rfl (by kernel_rfl) (by kernel_rfl) (by kernel_rfl) (fun _ _ _ h => h) (Or.inl ⟨by rfl, fun W hW => by obtain ⟨s0, s1⟩ := hW; go_simp⟩) hS ?_
                  simp only [Act.put, List.setIfInBounds_toArray, List.set_cons_zero, List.set_cons_succ]
                  refine takeH (i := 5) (v := .bool false) rfl (by kernel_rfl) (by kernel_rfl) (by kernel_rfl) (fun _ _ _ h => h) (Or.inl ⟨by rfl, fun W hW => by go_simp⟩) hS ?_
                  simp only [Act.put, List.setIfInBounds_toArray, List.set_cons_zero, List.set_cons_succ]
                  refine takeH (i := 6) (v := .bool false) rfl (by kernel_rfl) (by kernel_rfl) (by kernel_rfl) (fun _ _ _ h => h) (Or.inl ⟨by rfl, fun W hW => by go_simp⟩) hS ?_
                  simp only [Act.put, List.setIfInBounds_toArray, List.set_cons_zero, List.set_cons_succ]
                  refine takeH (i := 7) (v := .int .i64 (k : Int)) rfl (by kernel_rfl) (by kernel_rfl) (by kernel_rfl) (fun _ _ _ h => h) (Or.inl ⟨by rfl, fun W hW => by go_simp⟩) hS ?_
                  simp only [Act.put, List.setIfInBounds_toArray, List.set_cons_zero, List.set_cons_succ]
                  refine takeH (i := 8) (v := .bool false) rfl (by kernel_rfl) (by kernel_rfl) (by kernel_rfl) (fun _ _ _ h => h) (Or.inl ⟨by rfl, fun W hW => by go_simp⟩) hS ?_
                  simp only [Act.put, List.setIfInBounds_toArray, List.set_cons_zero, List.set_cons_succ]
                  refine takeH (i := 9) (v := .bool false) rfl (by kernel_rfl) (by kernel_rfl) (by kernel_rfl) (fun _ _ _ h => h) (Or.inl ⟨by rfl, fun W hW => by go_simp⟩) hS ?_
                  simp only [Act.put, List.setIfInBounds_toArray, List.set_cons_zero, List.set_cons_succ]
                  refine takeH (i := 10) (v := undef) rfl (by kernel_rfl) (by kernel_rfl) (by kernel_rfl) (fun _ _ _ h => h) (Or.inr ⟨by rfl, rfl⟩) hS ?_
                  simp only [Act.put, List.setIfInBounds_toArray, List.set_cons_zero, List.set_cons_succ]
                  refine takeH (i := 11) (v := undef) rfl (by kernel_rfl) (by kernel_rfl) (by kernel_rfl) (fun _ _ _ h => h) (Or.inr ⟨by rfl, rfl⟩) hS ?_
                  simp only [Act.put, List.setIfInBounds_toArray, List.set_cons_zero, List.set_cons_succ]
                  refine takeH (i := 12) (v := undef) rfl (by kernel_rfl) (by kernel_rfl) (by kernel_rfl) (fun _ _ _ h => h) (Or.inr ⟨by rfl, rfl⟩) hS ?_
                  simp only [Act.put, List.setIfInBounds_toArray, List.set_cons_zero, List.set_cons_succ]
                  refine takeH (i := 13) (v := undef) rfl (by kernel_rfl) (by kernel_rfl) (by kernel_rfl) (fun _ _ _ h => h) (Or.inr ⟨by rfl, rfl⟩) hS ?_
                  simp only [Act.put, List.setIfInBounds_toArray, List.set_cons_zero, List.set_cons_succ]
                  refine takeH (i := 14) (v := undef) rfl (by kernel_rfl) (by kernel_rfl) (by kernel_rfl) (fun _ _ _ h => h) (Or.inr ⟨by rfl, rfl⟩) hS ?_
                  simp only [Act.put, List.setIfInBounds_toArray, List.set_cons_zero, List.set_cons_succ]
                  refine takeH (i := 15) (v := undef) rfl (by kernel_rfl) (by kernel_rfl) (by kernel_rfl) (fun _ _ _ h => h) (Or.inr ⟨by rfl, rfl⟩) hS ?_
                  simp only [Act.put, List.setIfInBounds_toArray, List.set_cons_zero, List.set_cons_succ]
                  refine takeH (i := 16) (v := undef) rfl (by kernel_rfl) (by kernel_rfl) (by kernel_rfl) (fun _ _ _ h => h) (Or.inr ⟨by rfl, rfl⟩) hS ?_
                  simp only [Act.put, List.setIfInBounds_toArray, List.set_cons_zero, List.set_cons_succ]
                  refine takeH (i := 17) (v := undef) rfl (by kernel_rfl) (by kernel_rfl) (by kernel_rfl) (fun _ _ _ h => h) (Or.inr ⟨by rfl, rfl⟩) hS ?_
                  simp only [Act.put, List.setIfInBounds_toArray, List.set_cons_zero, List.set_cons_succ]
                  refine takeH (i := 18) (v := undef) rfl (by kernel_rfl) (by kernel_rfl) (by kernel_rfl) (fun _ _ _ h => h) (Or.inr ⟨by rfl, rfl⟩) hS ?_
                  simp only [Act.put, List.setIfInBounds_toArray, List.set_cons_zero, List.set_cons_succ]
                  refine takeH (i := 19) (v := undef) rfl (by kernel_rfl) (by kernel_rfl) (by kernel_rfl) (fun _ _ _ h => h) (Or.inr ⟨by rfl, rfl⟩) hS ?_
                  simp only [Act.put, List.setIfInBounds_toArray, List.set_cons_zero, List.set_cons_succ]
                  refine takeH (i := 20) (v := undef) rfl (by kernel_rfl) (by kernel_rfl) (by kernel_rfl) (fun _ _ _ h => h) (Or.inr ⟨by rfl, rfl⟩) hS ?_
                  simp only [Act.put, List.setIfInBounds_toArray, List.set_cons_zero, List.set_cons_succ]
                  refine takeH (i := 21) (v := undef) rfl (by kernel_rfl) (by kernel_rfl) (by kernel_rfl) (fun _ _ _ h => h) (Or.inr ⟨by rfl, rfl⟩) hS ?_
                  simp only [Act.put, List.setIfInBounds_toArray, List.set_cons_zero, List.set_cons_succ]
                  refine takeH (i := 22) (v := .bool false) rfl (by kernel_rfl) (by kernel_rfl) (by kernel_rfl) (fun _ _ _ h => h) (Or.inl ⟨by rfl, fun W hW => by go_simp⟩) hS ?_
                  simp only [Act.put, List.setIfInBounds_toArray, List.set_cons_zero, List.set_cons_succ]
                  refine takeH (i := 23) (v := .bool false) rfl (by kernel_rfl) (by kernel_rfl) (by kernel_rfl) (fun _ _ _ h => h) (Or.inl ⟨by rfl, fun W hW => by go_simp⟩) hS ?_
                  simp only [Act.put, List.setIfInBounds_toArray, List.set_cons_zero, List.set_cons_succ]
                  refine takeH (i := 24) (v := .bool false) rfl (by kernel_rfl) (by kernel_rfl) (by kernel_rfl) (fun _ _ _ h => h) (Or.inl ⟨by rfl, fun W hW => by go_simp⟩) hS ?_
                  simp only [Act.put, List.setIfInBounds_toArray, List.set_cons_zero, List.set_cons_succ]
                  refine takeH (i := 25) (v := .slice (some ⟨rb, 0, none⟩) nn nc) rfl (by kernel_rfl) (by kernel_rfl) (by kernel_rfl) (fun _ _ _ h => h) (Or.inl ⟨by rfl, fun W hW => by go_simp⟩) hS ?_
                  simp only [Act.put, List.setIfInBounds_toArray, List.set_cons_zero, List.set_cons_succ]
                  refine takeH (i := 26) (v := .int .i64 (k : Int)) rfl (by kernel_rfl) (by kernel_rfl) (by kernel_rfl) (fun _ _ _ h => h) (Or.inl ⟨by rfl, fun W hW => by go_simp⟩) hS ?_
                  simp only [Act.put, List.setIfInBounds_toArray, List.set_cons_zero, List.set_cons_succ]
                  refine takeH (i := 27) (v := .pointer (some ⟨rb, k * 2, none⟩)) rfl (by kernel_rfl) (by kernel_rfl) (by kernel_rfl) (fun _ _ _ h => h) (Or.inl ⟨by rfl, fun W hW => by go_simp⟩) hS ?_
                  simp only [Act.put, List.setIfInBounds_toArray, List.set_cons_zero, List.set_cons_succ]
                  refine takeH (i := 28) (v := .pointer (some ⟨rb, k * 2 + 1, none⟩)) rfl (by kernel_rfl) (by kernel_rfl) (by kernel_rfl) (fun _ _ _ h => h) (Or.inl ⟨by rfl, fun W hW => by go_simp⟩) hS ?_
                  simp only [Act.put, List.setIfInBounds_toArray, List.set_cons_zero, List.set_cons_succ]
                  refine takeH (i := 29) (v := .int .u64 hv) rfl (by kernel_rfl) (by kernel_rfl) (by kernel_rfl) (fun _ _ _ h => h) (Or.inl ⟨by rfl, fun W hW => by obtain ⟨s0, s1⟩ := hW; go_simp⟩) hS ?_
                  simp only [Act.put, List.setIfInBounds_toArray, List.set_cons_zero, List.set_cons_succ]
                  refine takeH (i := 30) (v := .pointer (some ⟨f, 0, none⟩)) rfl (by kernel_rfl) (by kernel_rfl) (by kernel_rfl) (fun _ _ _ h => h) (Or.inl ⟨by rfl, fun W hW => by go_simp⟩) hS ?_
                  simp only [Act.put, List.setIfInBounds_toArray, List.set_cons_zero, List.set_cons_succ]
                  refine takeH (i := 31) (v := .slice ma mn mc) rfl (by kernel_rfl) (by kernel_rfl) (by kernel_rfl) (fun _ _ _ h => h) (Or.inl ⟨by rfl, fun W hW => by go_simp⟩) hS ?_
                  simp only [Act.put, List.setIfInBounds_toArray, List.set_cons_zero, List.set_cons_succ]
                  refine takeH (i := 32) (v := .slice (some ⟨rb, 0, none⟩) nn nc) rfl (by kernel_rfl) (by kernel_rfl) (by kernel_rfl) (fun _ _ _ h => h) (Or.inl ⟨by rfl, fun W hW => by go_simp⟩) hS ?_
                  simp only [Act.put, List.setIfInBounds_toArray, List.set_cons_zero, List.set_cons_succ]
                  refine takeH (i := 33) (v := .int .i64 (k : Int)) rfl (by kernel_rfl) (by kernel_rfl) (by kernel_rfl) (fun _ _ _ h => h) (Or.inl ⟨by rfl, fun W hW => by go_simp⟩) hS ?_
                  simp only [Act.put, List.setIfInBounds_toArray, List.set_cons_zero, List.set_cons_succ]
                  refine takeH (i := 34) (v := .pointer (some ⟨rb, k * 2, none⟩)) rfl (by kernel_rfl) (by kernel_rfl) (by kernel_rfl) (fun _ _ _ h => h) (Or.inl ⟨by rfl, fun W hW => by go_simp⟩) hS ?_
                  simp only [Act.put, List.setIfInBounds_toArray, List.set_cons_zero, List.set_cons_succ]
                  refine takeH (i := 35) (v := .pointer (some ⟨rb, k * 2, none⟩)) rfl (by kernel_rfl) (by kernel_rfl) (by kernel_rfl) (fun _ _ _ h => h) (Or.inl ⟨by rfl, fun W hW => by go_simp⟩) hS ?_
                  simp only [Act.put, List.setIfInBounds_toArray, List.set_cons_zero, List.set_cons_succ]
                  refine takeH (i := 36) (v := .string nk) rfl (by kernel_rfl) (by kernel_rfl) (by kernel_rfl) (fun _ _ _ h => h) (Or.inl ⟨by rfl, fun W hW => by obtain ⟨s0, s1⟩ := hW; go_simp⟩) hS ?_
                  simp only [Act.put, List.setIfInBounds_toArray, List.set_cons_zero, List.set_cons_succ]
                  refine onlyH (i := 37) rfl (by kernel_rfl) (fun K hK => ?_)
                  go_simp
                  go_at_call 18
                  (with_reducible refine (OF.out wr.drew ((Below.refl _ _).drew)).mono ?_)
                  clear hS
                  rintro e w8 ⟨rfl, hb8'⟩
                  have hb8 : Below wr.heap.size wr w8 := ⟨hb8'.os, hb8'.tape, hb8'.output, hb8'.size, hb8'.block⟩
                  have hS := HKEEP.out w8 hb8
                  refine hK _ _ ⟨hS, ?_⟩
                  clear hK K
                  have HB8 : Hid (Below wr.heap.size wr w8) := hb8
                  clear hb8 hb8'
                  refine takeH (i := 38) (v := .bool false) rfl (by kernel_rfl) (by kernel_rfl) (by kernel_rfl) (fun _ _ _ h => h) (Or.inl ⟨by rfl, fun W hW => by go_simp⟩) hS ?_
                  simp only [Act.put, List.setIfInBounds_toArray, List.set_cons_zero, List.set_cons_succ]
                  refine takeH (i := 39) (v := .bool false) rfl (by kernel_rfl) (by kernel_rfl) (by kernel_rfl) (fun _ _ _ h => h) (Or.inl ⟨by rfl, fun W hW => by go_simp⟩) hS ?_
                  simp only [Act.put, List.setIfInBounds_toArray, List.set_cons_zero, List.set_cons_succ]
                  refine wpAnyH_done (by kernel_rfl) ?_ _
                  go_wp2
                  go_roundw
                  case rel => exact ⟨k + 1, by rw [HS1.out], by go_num, by omega, HK.out.trans (HB8.out.mono HK.out.size)⟩
                  case measure => (simp [intOf]; omega)
                · obtain ⟨j, hkj⟩ : ∃ j, k = j + 1 := ⟨k - 1, by omega⟩
                  obtain ⟨njs, hij, hcj⟩ := HPR.out j hkj
                  obtain ⟨dl1, dl2⟩ := lt_str njs nks hij
                  obtain ⟨nk, hnk⟩ : ∃ nk : ByteArray, ⟨nks.toArray⟩ = nk := ⟨_, rfl⟩
                  obtain ⟨nj, hnj⟩ : ∃ nj : ByteArray, ⟨njs.toArray⟩ = nj := ⟨_, rfl⟩
                  rw [hnk] at HK2 OF dl1 dl2
                  rw [hnj] at dl1 dl2 hcj
                  have HKEEP : Hid (∀ U, Below wr.heap.size wr U → U.cell? ⟨rb, k * 2, none⟩ = some (.string nk) ∧ U.cell? ⟨rb, k * 2 + 1, none⟩ = some (.int .u64 hv) ∧ U.cell? ⟨rb, j * 2, none⟩ = some (.string nj)) := fun U hU => ⟨(HK2.out U hU).1, (HK2.out U hU).2, hcj U hU⟩
                  have HK0 : Hid (0 < k) := by show 0 < k; omega
                  have hsub : (k : Int) - 1 = (j : Int) := by omega
                  have hwr : IntKind.i64.wrap (j : Int) = (j : Int) := by simp [IntKind.wrap, IntKind.bits, IntKind.signed]; omega
                  have hin3 : (j : Int) < (nn : Int) := by omega
                  have gq := fun (t : TypeId) (W : World) => geq_str t nj nk dl1 W
                  clear HPR hk0 hkj hcj HK2 hij hnk hnj
                  go_upto_region 24 with fail
                  refine wp_region_held (S := fun U => U.cell? ⟨rb, k * 2, none⟩ = some (.string nk) ∧ U.cell? ⟨rb, k * 2 + 1, none⟩ = some (.int .u64 hv) ∧ U.cell? ⟨rb, j * 2, none⟩ = some (.string nj)) (by kernel_rfl) ?_
                  change wpAnyH _ _ _ _ _ _ _ _ (World.drew _)
                  have hS := HKEEP.out wr.drew ((Below.refl _ _).drew)
                  refine takeH (i := 0) (v := .slice (some ⟨rb, 0, none⟩) nn nc) rfl (by kernel_rfl) (by kernel_rfl) (by kernel_rfl) (fun _ _ _ h => h) (Or.inl ⟨by rfl, fun W hW => by go_simp⟩) hS ?_
                  simp only [Act.put, List.setIfInBounds_toArray, List.set_cons_zero, List.set_cons_succ]
                  refine takeH (i := 1) (v := .int .i64 (k : Int)) rfl (by kernel_rfl) (by kernel_rfl) (by kernel_rfl) (fun _ _ _ h => h) (Or.inl ⟨by rfl, fun W hW => by go_simp⟩) hS ?_
                  simp only [Act.put, List.setIfInBounds_toArray, List.set_cons_zero, List.set_cons_succ]
                  refine takeH (i := 2) (v := .pointer (some ⟨rb, k * 2, none⟩)) rfl (by kernel_rfl) (by kernel_rfl) (by kernel_rfl) (fun _ _ _ h => h) (Or.inl ⟨by rfl, fun W hW => by go_simp⟩) hS ?_
                  simp only [Act.put, List.setIfInBounds_toArray, List.set_cons_zero, List.set_cons_succ]
                  refine takeH (i := 3) (v := .pointer (some ⟨rb, k * 2 + 1, none⟩)) rfl (by kernel_rfl) (by kernel_rfl) (by kernel_rfl) (fun _ _ _ h => h) (Or.inl ⟨by rfl, fun W hW => by go_simp⟩) hS ?_
                  simp only [Act.put, List.setIfInBounds_toArray, List.set_cons_zero, List.set_cons_succ]
                  refine takeH (i := 4) (v := .int .u64 hv) rfl (by kernel_rfl) (by kernel_rfl) (by kernel_rfl) (fun _ _ _ h => h) (Or.inl ⟨by rfl, fun W hW => by obtain ⟨s0, s1, s2⟩ := hW; go_simp⟩) hS ?_
                  simp only [Act.put, List.setIfInBounds_toArray, List.set_cons_zero, List.set_cons_succ]
                  refine takeH (i := 5) (v := .bool false) rfl (by kernel_rfl) (by kernel_rfl) (by kernel_rfl) (fun _ _ _ h => h) (Or.inl ⟨by rfl, fun W hW => by go_simp⟩) hS ?_
                  simp only [Act.put, List.setIfInBounds_toArray, List.set_cons_zero, List.set_cons_succ]
                  refine takeH (i := 6) (v := .bool false) rfl (by kernel_rfl) (by kernel_rfl) (by kernel_rfl) (fun _ _ _ h => h) (Or.inl ⟨by rfl, fun W hW => by go_simp⟩) hS ?_
                  simp only [Act.put, List.setIfInBounds_toArray, List.set_cons_zero, List.set_cons_succ]
                  refine takeH (i := 7) (v := .int .i64 (k : Int)) rfl (by kernel_rfl) (by kernel_rfl) (by kernel_rfl) (fun _ _ _ h => h) (Or.inl ⟨by rfl, fun W hW => by go_simp⟩) hS ?_
                  simp only [Act.put, List.setIfInBounds_toArray, List.set_cons_zero, List.set_cons_succ]
                  refine takeH (i := 8) (v := .bool true) rfl (by kernel_rfl) (by kernel_rfl) (by kernel_rfl) (fun _ _ _ h => h) (Or.inl ⟨by rfl, fun W hW => by go_simp; exact HK0.out⟩) hS ?_
                  simp only [Act.put, List.setIfInBounds_toArray, List.set_cons_zero, List.set_cons_succ]
                  refine takeH (i := 9) (v := .bool true) rfl (by kernel_rfl) (by kernel_rfl) (by kernel_rfl) (fun _ _ _ h => h) (Or.inl ⟨by rfl, fun W hW => by go_simp⟩) hS ?_
                  simp only [Act.put, List.setIfInBounds_toArray, List.set_cons_zero, List.set_cons_succ]
                  refine takeH (i := 10) (v := .slice (some ⟨rb, 0, none⟩) nn nc) rfl (by kernel_rfl) (by kernel_rfl) (by kernel_rfl) (fun _ _ _ h => h) (Or.inl ⟨by rfl, fun W hW => by go_simp⟩) hS ?_
                  simp only [Act.put, List.setIfInBounds_toArray, List.set_cons_zero, List.set_cons_succ]
                  refine takeH (i := 11) (v := .int .i64 (k : Int)) rfl (by kernel_rfl) (by kernel_rfl) (by kernel_rfl) (fun _ _ _ h => h) (Or.inl ⟨by rfl, fun W hW => by go_simp⟩) hS ?_
                  simp only [Act.put, List.setIfInBounds_toArray, List.set_cons_zero, List.set_cons_succ]
                  refine takeH (i := 12) (v := .int .i64 (j : Int)) rfl (by kernel_rfl) (by kernel_rfl) (by kernel_rfl) (fun _ _ _ h => h) (Or.inl ⟨by rfl, fun W hW => by go_simp⟩) hS ?_
                  simp only [Act.put, List.setIfInBounds_toArray, List.set_cons_zero, List.set_cons_succ]
                  refine takeH (i := 13) (v := .pointer (some ⟨rb, j * 2, none⟩)) rfl (by kernel_rfl) (by kernel_rfl) (by kernel_rfl) (fun _ _ _ h => h) (Or.inl ⟨by rfl, fun W hW => by go_simp⟩) hS ?_
                  simp only [Act.put, List.setIfInBounds_toArray, List.set_cons_zero, List.set_cons_succ]
                  refine takeH (i := 14) (v := .pointer (some ⟨rb, j * 2, none⟩)) rfl (by kernel_rfl) (by kernel_rfl) (by kernel_rfl) (fun _ _ _ h => h) (Or.inl ⟨by rfl, fun W hW => by go_simp⟩) hS ?_
                  simp only [Act.put, List.setIfInBounds_toArray, List.set_cons_zero, List.set_cons_succ]
                  refine takeH (i := 15) (v := .string nj) rfl (by kernel_rfl) (by kernel_rfl) (by kernel_rfl) (fun _ _ _ h => h) (Or.inl ⟨by rfl, fun W hW => by obtain ⟨s0, s1, s2⟩ := hW; go_simp⟩) hS ?_
                  simp only [Act.put, List.setIfInBounds_toArray, List.set_cons_zero, List.set_cons_succ]
                  refine takeH (i := 16) (v := .slice (some ⟨rb, 0, none⟩) nn nc) rfl (by kernel_rfl) (by kernel_rfl) (by kernel_rfl) (fun _ _ _ h => h) (Or.inl ⟨by rfl, fun W hW => by go_simp⟩) hS ?_
                  simp only [Act.put, List.setIfInBounds_toArray, List.set_cons_zero, List.set_cons_succ]
                  refine takeH (i := 17) (v := .int .i64 (k : Int)) rfl (by kernel_rfl) (by kernel_rfl) (by kernel_rfl) (fun _ _ _ h => h) (Or.inl ⟨by rfl, fun W hW => by go_simp⟩) hS ?_
                  simp only [Act.put, List.setIfInBounds_toArray, List.set_cons_zero, List.set_cons_succ]
                  refine takeH (i := 18) (v := .pointer (some ⟨rb, k * 2, none⟩)) rfl (by kernel_rfl) (by kernel_rfl) (by kernel_rfl) (fun _ _ _ h => h) (Or.inl ⟨by rfl, fun W hW => by go_simp⟩) hS ?_
                  simp only [Act.put, List.setIfInBounds_toArray, List.set_cons_zero, List.set_cons_succ]
                  refine takeH (i := 19) (v := .pointer (some ⟨rb, k * 2, none⟩)) rfl (by kernel_rfl) (by kernel_rfl) (by kernel_rfl) (fun _ _ _ h => h) (Or.inl ⟨by rfl, fun W hW => by go_simp⟩) hS ?_
                  simp only [Act.put, List.setIfInBounds_toArray, List.set_cons_zero, List.set_cons_succ]
                  refine takeH (i := 20) (v := .string nk) rfl (by kernel_rfl) (by kernel_rfl) (by kernel_rfl) (fun _ _ _ h => h) (Or.inl ⟨by rfl, fun W hW => by obtain ⟨s0, s1, s2⟩ := hW; go_simp⟩) hS ?_
                  simp only [Act.put, List.setIfInBounds_toArray, List.set_cons_zero, List.set_cons_succ]
                  refine takeH (i := 21) (v := .bool false) rfl (by kernel_rfl) (by kernel_rfl) (by kernel_rfl) (fun _ _ _ h => h) (Or.inl ⟨by rfl, fun W hW => by go_simp⟩) hS ?_
                  simp only [Act.put, List.setIfInBounds_toArray, List.set_cons_zero, List.set_cons_succ]
                  refine takeH (i := 22) (v := .bool false) rfl (by kernel_rfl) (by kernel_rfl) (by kernel_rfl) (fun _ _ _ h => h) (Or.inl ⟨by rfl, fun W hW => by go_simp⟩) hS ?_
                  simp only [Act.put, List.setIfInBounds_toArray, List.set_cons_zero, List.set_cons_succ]
                  refine takeH (i := 23) (v := .bool false) rfl (by kernel_rfl) (by kernel_rfl) (by kernel_rfl) (fun _ _ _ h => h) (Or.inl ⟨by rfl, fun W hW => by go_simp⟩) hS ?_
                  simp only [Act.put, List.setIfInBounds_toArray, List.set_cons_zero, List.set_cons_succ]
                  refine takeH (i := 24) (v := .bool false) rfl (by kernel_rfl) (by kernel_rfl) (by kernel_rfl) (fun _ _ _ h => h) (Or.inl ⟨by rfl, fun W hW => by go_simp⟩) hS ?_
                  simp only [Act.put, List.setIfInBounds_toArray, List.set_cons_zero, List.set_cons_succ]
                  refine takeH (i := 25) (v := .slice (some ⟨rb, 0, none⟩) nn nc) rfl (by kernel_rfl) (by kernel_rfl) (by kernel_rfl) (fun _ _ _ h => h) (Or.inl ⟨by rfl, fun W hW => by go_simp⟩) hS ?_
                  simp only [Act.put, List.setIfInBounds_toArray, List.set_cons_zero, List.set_cons_succ]
                  refine takeH (i := 26) (v := .int .i64 (k : Int)) rfl (by kernel_rfl) (by kernel_rfl) (by kernel_rfl) (fun _ _ _ h => h) (Or.inl ⟨by rfl, fun W hW => by go_simp⟩) hS ?_
                  simp only [Act.put, List.setIfInBounds_toArray, List.set_cons_zero, List.set_cons_succ]
                  refine takeH (i := 27) (v := .pointer (some ⟨rb, k * 2, none⟩)) rfl (by kernel_rfl) (by kernel_rfl) (by kernel_rfl) (fun _ _ _ h => h) (Or.inl ⟨by rfl, fun W hW => by go_simp⟩) hS ?_
                  simp only [Act.put, List.setIfInBounds_toArray, List.set_cons_zero, List.set_cons_succ]
                  refine takeH (i := 28) (v := .pointer (some ⟨rb, k * 2 + 1, none⟩)) rfl (by kernel_rfl) (by kernel_rfl) (by kernel_rfl) (fun _ _ _ h => h) (Or.inl ⟨by rfl, fun W hW => by go_simp⟩) hS ?_
                  simp only [Act.put, List.setIfInBounds_toArray, List.set_cons_zero, List.set_cons_succ]
                  refine takeH (i := 29) (v := .int .u64 hv) rfl (by kernel_rfl) (by kernel_rfl) (by kernel_rfl) (fun _ _ _ h => h) (Or.inl ⟨by rfl, fun W hW => by obtain ⟨s0, s1, s2⟩ := hW; go_simp⟩) hS ?_
                  simp only [Act.put, List.setIfInBounds_toArray, List.set_cons_zero, List.set_cons_succ]
                  refine takeH (i := 30) (v := .pointer (some ⟨f, 0, none⟩)) rfl (by kernel_rfl) (by kernel_rfl) (by kernel_rfl) (fun _ _ _ h => h) (Or.inl ⟨by rfl, fun W hW => by go_simp⟩) hS ?_
                  simp only [Act.put, List.setIfInBounds_toArray, List.set_cons_zero, List.set_cons_succ]
                  refine takeH (i := 31) (v := .slice ma mn mc) rfl (by kernel_rfl) (by kernel_rfl) (by kernel_rfl) (fun _ _ _ h => h) (Or.inl ⟨by rfl, fun W hW => by go_simp⟩) hS ?_
                  simp only [Act.put, List.setIfInBounds_toArray, List.set_cons_zero, List.set_cons_succ]
                  refine takeH (i := 32) (v := .slice (some ⟨rb, 0, none⟩) nn nc) rfl (by kernel_rfl) (by kernel_rfl) (by kernel_rfl) (fun _ _ _ h => h) (Or.inl ⟨by rfl, fun W hW => by go_simp⟩) hS ?_
                  simp only [Act.put, List.setIfInBounds_toArray, List.set_cons_zero, List.set_cons_succ]
                  refine takeH (i := 33) (v := .int .i64 (k : Int)) rfl (by kernel_rfl) (by kernel_rfl) (by kernel_rfl) (fun _ _ _ h => h) (Or.inl ⟨by rfl, fun W hW => by go_simp⟩) hS ?_
                  simp only [Act.put, List.setIfInBounds_toArray, List.set_cons_zero, List.set_cons_succ]
                  refine takeH (i := 34) (v := .pointer (some ⟨rb, k * 2, none⟩)) rfl (by kernel_rfl) (by kernel_rfl) (by kernel_rfl) (fun _ _ _ h => h) (Or.inl ⟨by rfl, fun W hW => by go_simp⟩) hS ?_
                  simp only [Act.put, List.setIfInBounds_toArray, List.set_cons_zero, List.set_cons_succ]
                  refine takeH (i := 35) (v := .pointer (some ⟨rb, k * 2, none⟩)) rfl (by kernel_rfl) (by kernel_rfl) (by kernel_rfl) (fun _ _ _ h => h) (Or.inl ⟨by rfl, fun W hW => by go_simp⟩) hS ?_
                  simp only [Act.put, List.setIfInBounds_toArray, List.set_cons_zero, List.set_cons_succ]
                  refine takeH (i := 36) (v := .string nk) rfl (by kernel_rfl) (by kernel_rfl) (by kernel_rfl) (fun _ _ _ h => h) (Or.inl ⟨by rfl, fun W hW => by obtain ⟨s0, s1, s2⟩ := hW; go_simp⟩) hS ?_
                  simp only [Act.put, List.setIfInBounds_toArray, List.set_cons_zero, List.set_cons_succ]
                  refine onlyH (i := 37) rfl (by kernel_rfl) (fun K hK => ?_)
                  go_simp
                  go_at_call 18
                  (with_reducible refine (OF.out wr.drew ((Below.refl _ _).drew)).mono ?_)
                  clear hS
                  rintro e w8 ⟨rfl, hb8'⟩
                  have hb8 : Below wr.heap.size wr w8 := ⟨hb8'.os, hb8'.tape, hb8'.output, hb8'.size, hb8'.block⟩
                  have hS := HKEEP.out w8 hb8
                  refine hK _ _ ⟨hS, ?_⟩
                  clear hK K
                  have HB8 : Hid (Below wr.heap.size wr w8) := hb8
                  clear hb8 hb8'
                  refine takeH (i := 38) (v := .bool false) rfl (by kernel_rfl) (by kernel_rfl) (by kernel_rfl) (fun _ _ _ h => h) (Or.inl ⟨by rfl, fun W hW => by go_simp⟩) hS ?_
                  simp only [Act.put, List.setIfInBounds_toArray, List.set_cons_zero, List.set_cons_succ]
                  refine takeH (i := 39) (v := .bool false) rfl (by kernel_rfl) (by kernel_rfl) (by kernel_rfl) (fun _ _ _ h => h) (Or.inl ⟨by rfl, fun W hW => by go_simp⟩) hS ?_
                  simp only [Act.put, List.setIfInBounds_toArray, List.set_cons_zero, List.set_cons_succ]
                  refine wpAnyH_done (by kernel_rfl) ?_ _
                  go_wp2
                  go_roundw
                  case rel => exact ⟨k + 1, by rw [HS1.out], by go_num, by omega, HK.out.trans (HB8.out.mono HK.out.size)⟩
                  case measure => (simp [intOf]; omega)
              · obtain rfl : k = nn := by omega
                have HSN : Hid (preS N k = dtil - dfr) := by
                  show _ = _
                  rw [preS_all (by rw [HMN.out.2]; exact Nat.le_refl _), HS.out.ns]
                rw [HSN.out]
                have bk := HB7.out.below HK.out HB7.out.lt
                have k5 : wr.cell? ⟨nb, 5, none⟩ = some (.int .i64 dfr) := bk.cell 5 rfl
                have k6 : wr.cell? ⟨nb, 5 + 1, none⟩ = some (.int .i64 dtil) := bk.cell 6 rfl
                obtain ⟨e3, e4, e5⟩ := wraps_sub HS.out.rng
                have HB9 : Hid (Below w3.heap.size w3 wr) := H7.out.trans (HK.out.mono H7.out.size)
                clear bk HK HSN HM7 HN7 H7 HB7 HTU HS HMN
                go_wp2
                go_roundw
                case rel => exact ⟨i + 1, by go_num, by omega, HB9⟩
                case measure => (simp [intOf]; omega)
      · obtain rfl : i = m := by omega
        go_wp2
        go_ret
        exact ⟨rfl, HBW.out.trans (HBR.out.mono HBW.out.size)⟩
  · go_ret
    exact ⟨rfl, h3⟩
end Go.Proofs.YtobjjdggjgnfcaaGreatDoor
