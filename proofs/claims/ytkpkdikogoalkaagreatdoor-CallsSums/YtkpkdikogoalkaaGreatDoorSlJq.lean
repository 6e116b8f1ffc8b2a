/-
  Merged: SlJ, SlK, EA, EC, ED, EB, EE.
-/
import Derived.Test.YtkpkdikogoalkaaGreatDoorSlAq
import Derived.Test.YtkpkdikogoalkaaGreatDoorDAq
namespace Go.Proofs.YtkpkdikogoalkaaGreatDoor.sk
open Go.RowKit
set_option maxRecDepth 100000

/-- Where taking stands. -/
structure LsAt (a b : List (Int × Int)) (base : Nat) (w : World) (wr : World) (v : Value) (i k : Nat) (S : List (Int × Int)) : Prop where
  own : OwnBar base wr v S
  eq : lL a b = (lL (a.drop i) (b.drop k)).map (S ++ ·)
  below : Below w.heap.size w wr
  len : S.length ≤ i
theorem LsAt.drewN {a b : List (Int × Int)} {base : Nat} {w wr : World} {v : Value} {i k : Nat} {S : List (Int × Int)} (h : LsAt a b base w wr v i k S) (q : Nat) : LsAt a b base w (wr.drewN q) v i k S :=
  ⟨ownsRow_upd h.own ((Upd.refl (fun _ => False) wr).drewN q) (fun _ _ h => h), h.eq, h.below.trans (((Upd.refl (fun _ => False) wr).drewN q).below (B := w.heap.size) h.below.size (fun _ _ h => h)), h.len⟩
theorem LsAt.stepB {a b : List (Int × Int)} {w wz u2 w1 : World} {ao : Option Addr} {L cc : Nat} {v1 : Value} {i k i' k' : Nat} {S : List (Int × Int)} {x y : Int} (h : LsAt a b w.heap.size w wz (.slice ao L cc) i k S) (hL : S.length = L) (hb : Below wz.heap.size wz u2)
    (o1 : w1.ownsRow w.heap.size 50 2 v1 (L + 1) (S.flatMap barC ++ [.int .i64 x, .int .u64 y])) (g1 : u2.grownBy w1 (Value.slice ao L cc).ownBlock)
    (he : lL a b = (lL (a.drop i') (b.drop k')).map ((S ++ [(x, y)]) ++ ·)) (hl : i + 1 ≤ i') : LsAt a b w.heap.size w w1 v1 i' k' (S ++ [(x, y)]) := by
  refine ⟨bar_app hL o1, he, ?_, by have := h.len; rw [List.length_append]; simp; omega⟩
  exact ((Upd.ofBelow (S := fun k => w.heap.size ≤ k) (h.below.trans (hb.mono h.below.size)) (fun _ _ h => h)).grown g1 (fun k _ e => (own_block h.own e).1)).below (Nat.le_refl _) (fun k hk h => by omega)
theorem LsAt.stay {a b : List (Int × Int)} {w wz u2 : World} {v : Value} {i k i' k' : Nat} {S : List (Int × Int)} (h : LsAt a b w.heap.size w wz v i k S) (hb : Below wz.heap.size wz u2) (he : lL a b = (lL (a.drop i') (b.drop k')).map (S ++ ·)) (hl : i ≤ i') : LsAt a b w.heap.size w u2 v i' k' S :=
  ⟨ownsRow_upd h.own (Upd.ofBelow (S := fun _ => False) hb (fun k hk hk' => by omega)) (fun _ _ h => h), he, h.below.trans (hb.mono h.below.size), by have := h.len; omega⟩
theorem map_snoc {r : Option (List (Int × Int))} {S : List (Int × Int)} {x : Int × Int} : (r.map (x :: ·)).map (S ++ ·) = r.map ((S ++ [x]) ++ ·) := by
  rw [Option.map_map]
  congr 1
  funext l
  simp
theorem lL_keep {a b : List (Int × Int)} {i k : Nat} {S : List (Int × Int)} {T : Option (List (Int × Int))} (hi : i < a.length) (h : T = (lL (a.drop i) (b.drop k)).map (S ++ ·)) (hc : b.length ≤ k ∨ ∃ hk : k < b.length, b[k].1 ≠ a[i].1) : T = (lL (a.drop (i + 1)) (b.drop k)).map ((S ++ [(a[i].1, a[i].2)]) ++ ·) := by
  rw [h, List.drop_eq_getElem_cons hi]
  rcases hc with hc | ⟨hk, hne⟩
  · rw [List.drop_eq_nil_of_le hc, lL_right, map_snoc]
  · rw [List.drop_eq_getElem_cons hk, lL_cons, if_neg hne, map_snoc]
theorem lL_both {a b : List (Int × Int)} {i k : Nat} {S : List (Int × Int)} {T : Option (List (Int × Int))} (hi : i < a.length) (hk : k < b.length) (h : T = (lL (a.drop i) (b.drop k)).map (S ++ ·)) (e : b[k].1 = a[i].1) :
    (a[i].2 < b[k].2 → T = none) ∧ (¬ a[i].2 < b[k].2 → a[i].2 - b[k].2 = 0 → T = (lL (a.drop (i + 1)) (b.drop (k + 1))).map (S ++ ·)) ∧ (¬ a[i].2 < b[k].2 → a[i].2 - b[k].2 ≠ 0 → T = (lL (a.drop (i + 1)) (b.drop (k + 1))).map ((S ++ [(a[i].1, a[i].2 - b[k].2)]) ++ ·)) := by
  rw [List.drop_eq_getElem_cons hi, List.drop_eq_getElem_cons hk, lL_cons, if_pos e] at h
  refine ⟨fun h1 => ?_, fun h1 h2 => ?_, fun h1 h2 => ?_⟩
  · rw [h, if_pos h1]; rfl
  · rw [h, if_neg h1, if_pos h2]
  · rw [h, if_neg h1, if_neg h2, map_snoc]
theorem in_pos {l : List (Int × Int)} (hc : chkF (-1) l = true) (hb : Bin l) {x : Int × Int} (hx : x ∈ l) : 0 < x.2 ∧ x.2 ≤ 18446744073709551615 := by
  have h1 := (chk_in hc x hx).2.2
  have h2 := hb x hx
  omega
set_option maxHeartbeats 2000000 in
theorem refLess_ok (ad bd : Option Addr) (n m ca cb : Nat) (a b : List (Int × Int)) (w : World) (hA : InAt w ad n a) (hB : InAt w bd m b) (ha : chkF (-1) a = true) (hb : chkF (-1) b = true) :
    Calls Tryz.prog 40 #[.slice ad n ca, .slice bd m cb] w (MadeP (lessR a b) 134 w) := by
  obtain ⟨i0, hi, hz0, hz1, hz2⟩ := info_parts Tryz.info50
  have n1 : n ≤ 1920 := by have := chk_len (by omega) ha; have := hA.at_.len; omega
  have m1 : m ≤ 1920 := by have := chk_len (by omega) hb; have := hB.at_.len; omega
  have HLA : Hid (a.length = n) := hA.at_.len
  have HLB : Hid (b.length = m) := hB.at_.len
  have KA := refCheck_any ad n ca a w hA.at_ hA.len hA.bin
  have KB := fun q => refCheck_any bd m cb b (w.drewN q) (hB.at_.drewN q) hB.len hB.bin
  simp only [chkE_ok ha] at KA
  simp only [chkE_ok hb] at KB
  have HE : Hid _ := lL_eq ha hb hA.bin hB.bin
  have HCA : Hid (chkF (-1) a = true) := ha
  have HA : Hid _ := hA
  have HB : Hid _ := hB
  clear hA hB ha hb
  go_enter Tryz.func40, Tryz.ntmps40
  go_wp2_with (first
    | (go_at_call 39; (with_reducible refine KA.mono ?_); clear KA; rintro e w' ⟨rfl, q1, rfl⟩)
    | (go_at_call 39; (with_reducible refine (KB q1).mono ?_); clear KB; rintro e w' ⟨rfl, q2, rfl⟩))
  go_loopw [6, 7, 8] (fun o tk ti wr => ∃ (i k : Nat) (S : List (Int × Int)), ti = .int .i64 i ∧ tk = .int .i64 k ∧ i ≤ n ∧ k ≤ m ∧ Hid (LsAt a b w.heap.size w wr o i k S)) (fun _ _ ti _ => n - (intOf ti).toNat)
  case atStart => exact ⟨0, 0, [], rfl, rfl, by omega, by omega, ⟨World.ownsRow_nil _ _ _ _, by simp, ((Upd.refl (fun _ => False) w).drewN (q1 + q2)).below (Nat.le_refl _) (fun _ _ h => h), Nat.le_refl _⟩⟩
  case round =>
    obtain ⟨i, k, S, rfl, rfl, hin, hkm, HM⟩ := hrel
    obtain ⟨ao, L, cc, rfl⟩ := row_shape HM.out.own
    obtain ⟨hL, -, -⟩ := own_cap HM.out.own
    have HL : Hid (S.length = L) := hL.symm
    have hLb : L ≤ 1920 := by have := HM.out.len; omega
    clear hL
    by_cases hi' : i < n
    · obtain ⟨bb, off, rfl, hc⟩ := (HA.out.below HM.out.below).at_.lies (by omega)
      have hil : i < a.length := by rw [HLA.out]; exact hi'
      obtain ⟨cx0, cx1⟩ := hc i hil
      clear hc
      have hx9 := in_pos HCA.out HA.out.bin (List.getElem_mem hil)
      by_cases hk : k < m
      · have t1 : decide ((k : Int) < (m : Int)) = true := by simp; omega
        obtain ⟨bc, of2, rfl, hc⟩ := (HB.out.below HM.out.below).at_.lies (by omega)
        have hkl : k < b.length := by rw [HLB.out]; exact hk
        obtain ⟨cy0, cy1⟩ := hc k hkl
        have hblt := World.block_lt_of_cell? wr _ cy0
        simp only at hblt
        clear hc
        have hy9 := HB.out.bin b[k] (List.getElem_mem hkl)
        have SA : b[k].1 ≠ a[i].1 → _ := fun h => lL_keep hil HM.out.eq (Or.inr ⟨hkl, h⟩)
        have SB : b[k].1 = a[i].1 → _ := fun h => lL_both hil hkl HM.out.eq h
        obtain ⟨x, hx⟩ : ∃ x, a[i] = x := ⟨_, rfl⟩
        rw [hx] at cx0 cx1 hx9 SA SB
        obtain ⟨x1, x2⟩ := x
        simp only at cx0 cx1 hx9 SA SB
        have t9 : (0 : Int) < x2 := hx9.1
        have t8 : x2 ≤ 18446744073709551615 := hx9.2
        obtain ⟨y, hy⟩ : ∃ y, b[k] = y := ⟨_, rfl⟩
        rw [hy] at cy0 cy1 hy9 SA SB
        obtain ⟨y1, y2⟩ := y
        simp only at cy0 cy1 hy9 SA SB
        clear hx hy hil hkl hx9
        have dy0 : (wr.alloc (.cells #[.int .i64 x1, .int .u64 x2] 50)).cell? ⟨bc, of2 + k * 2, none⟩ = some (.int .i64 y1) := cell_upd ((Upd.refl (fun _ => False) wr).alloc _) cy0 (fun h => h)
        by_cases e1 : y1 = x1
        · subst e1
          have t2 : ((y1 : Int) == (y1 : Int)) = true := by simp
          obtain ⟨SB1, SB2, SB3⟩ := SB rfl
          clear SB SA
          by_cases h1 : x2 < y2
          · have HR : Hid (lL a b = none) := SB1 h1
            clear SB1 SB2 SB3
            go_wp2
            go_quiet (fail)
            obtain ⟨wz, hwz⟩ : ∃ W, (wr.alloc (.cells #[.int .i64 y1, .int .u64 x2] 50)).drewN nq = W := ⟨_, rfl⟩
            have bz : Below wr.heap.size wr wz := by rw [← hwz]; exact ((Upd.refl (fun _ => False) wr).alloc _ |>.drewN nq).below (Nat.le_refl _) (fun _ _ h => h)
            have hz : wz.heap[wr.heap.size]? = some (.cells #[.int .i64 y1, .int .u64 x2] 50 (0, 0)) := by rw [← hwz]; exact heap_alloc_new wr _
            have z0 : wz.cell? ⟨wr.heap.size, 0, none⟩ = some (.int .i64 y1) := World.news_of_block (cs := #[.int .i64 y1, .int .u64 x2]) (t := 50) (fr := (0, 0)) hz 0 _ rfl
            have z1 : wz.cell? ⟨wr.heap.size, 1, none⟩ = some (.int .u64 x2) := World.news_of_block (cs := #[.int .i64 y1, .int .u64 x2]) (t := 50) (fr := (0, 0)) hz 1 _ rfl
            rw [hwz]
            have HZ : Hid _ := LsAt.stay HM.out bz HM.out.eq (Nat.le_refl _)
            have ey0 : wz.cell? ⟨bc, of2 + k * 2, none⟩ = some (.int .i64 y1) := (bz.cell (p := ⟨bc, of2 + k * 2, none⟩) hblt).trans cy0
            have ey1 : wz.cell? ⟨bc, of2 + k * 2 + 1, none⟩ = some (.int .u64 y2) := (bz.cell (p := ⟨bc, of2 + k * 2 + 1, none⟩) hblt).trans cy1
            clear hwz bz HM cx0 cy1
            have HQ : Hid (∀ q, MadeP (lessR a b) 134 w (.returned (.tuple #[.slice none 0 0, .int .i64 134])) (wz.drewN q)) := fun q => by
              rcases HE.out with ⟨l, h, _⟩ | ⟨_, h⟩
              · rw [HR.out] at h; simp at h
              · have hb := (HZ.out.drewN q).below
                rw [h]
                exact ⟨hb, rfl⟩
            have t3 : decide (x2 < y2) = true := by simpa using h1
            go_wp2
            go_quiet (fail)
            go_wp2
            go_returns
            exact HQ.out nq
          · by_cases h2 : x2 - y2 = 0
            · have HS : Hid _ := SB2 h1 h2
              clear SB1 SB2 SB3
              go_wp2
              go_quiet (fail)
              obtain ⟨wz, hwz⟩ : ∃ W, (wr.alloc (.cells #[.int .i64 y1, .int .u64 x2] 50)).drewN nq = W := ⟨_, rfl⟩
              have bz : Below wr.heap.size wr wz := by rw [← hwz]; exact ((Upd.refl (fun _ => False) wr).alloc _ |>.drewN nq).below (Nat.le_refl _) (fun _ _ h => h)
              have hz : wz.heap[wr.heap.size]? = some (.cells #[.int .i64 y1, .int .u64 x2] 50 (0, 0)) := by rw [← hwz]; exact heap_alloc_new wr _
              have z0 : wz.cell? ⟨wr.heap.size, 0, none⟩ = some (.int .i64 y1) := World.news_of_block (cs := #[.int .i64 y1, .int .u64 x2]) (t := 50) (fr := (0, 0)) hz 0 _ rfl
              have z1 : wz.cell? ⟨wr.heap.size, 1, none⟩ = some (.int .u64 x2) := World.news_of_block (cs := #[.int .i64 y1, .int .u64 x2]) (t := 50) (fr := (0, 0)) hz 1 _ rfl
              rw [hwz]
              have HZ : Hid _ := LsAt.stay HM.out bz HM.out.eq (Nat.le_refl _)
              have ey0 : wz.cell? ⟨bc, of2 + k * 2, none⟩ = some (.int .i64 y1) := (bz.cell (p := ⟨bc, of2 + k * 2, none⟩) hblt).trans cy0
              have ey1 : wz.cell? ⟨bc, of2 + k * 2 + 1, none⟩ = some (.int .u64 y2) := (bz.cell (p := ⟨bc, of2 + k * 2 + 1, none⟩) hblt).trans cy1
              clear HZ
              clear hwz
              clear cx0 cy1
              have t3 : decide (x2 < y2) = false := by simpa using h1
              obtain ⟨_, _, y8, y9⟩ := hy9
              have h3 : x2 = y2 := by omega
              subst h3
              clear h1 h2
              go_wp2
              go_quiet (fail)
              obtain ⟨wu, hwu⟩ : ∃ W, wz.drewN nq = W := ⟨_, rfl⟩
              have bu : Below wr.heap.size wr wu := by rw [← hwu]; exact ((Upd.ofBelow (S := fun _ => False) bz (fun k hk hk' => by omega)).drewN nq).below (Nat.le_refl _) (fun _ _ h => h)
              have hu : wu.heap[wr.heap.size]? = some (.cells #[.int .i64 y1, .int .u64 x2] 50 (0, 0)) := by rw [← hwu]; exact hz
              have u0 : wu.cell? ⟨wr.heap.size, 0, none⟩ = some (.int .i64 y1) := by rw [← hwu]; exact z0
              have u1 : wu.cell? ⟨wr.heap.size, 1, none⟩ = some (.int .u64 x2) := by rw [← hwu]; exact z1
              have uf : wu.frozen? ⟨wr.heap.size, 1, none⟩ = false := blk_free hu 1
              have v1 : wu.cell? ⟨bc, of2 + k * 2 + 1, none⟩ = some (.int .u64 x2) := by rw [← hwu]; exact ey1
              rw [hwu]
              clear hwu bz hz z0 z1 ey0 ey1
              go_wp2
              go_region
              obtain ⟨ws, hws⟩ : ∃ W, (wu.setCell ⟨wr.heap.size, 1, none⟩ (.int .u64 0)).drew = W := ⟨_, rfl⟩
              have bs : Below wr.heap.size wr ws := by rw [← hws]; exact ((Upd.ofBelow (S := fun k => wr.heap.size ≤ k) bu (fun _ _ h => h)).setCell (p := ⟨wr.heap.size, 1, none⟩) (fun _ => Nat.le_refl _) _ |>.drew).below (Nat.le_refl _) (fun k hk h => by omega)
              have s1 : ws.cell? ⟨wr.heap.size, 1, none⟩ = some (.int .u64 0) := by
                rw [← hws]
                exact blk_cell (set_block hu 1 (.int .u64 0)) 1 rfl
              rw [hws]
              have HF : Hid _ := LsAt.stay (i' := i + 1) (k' := k + 1) HM.out bs HS.out (by omega)
              clear hws bu hu u0 u1 uf v1 HM bs
              go_wp2
              go_roundw
              case rel => exact ⟨i + 1, k + 1, S, by go_num, by go_num, by omega, by omega, HF⟩
              case measure => simp [intOf]; omega
            · have HS : Hid _ := SB3 h1 h2
              clear SB1 SB2 SB3
              go_wp2
              go_quiet (fail)
              obtain ⟨wz, hwz⟩ : ∃ W, (wr.alloc (.cells #[.int .i64 y1, .int .u64 x2] 50)).drewN nq = W := ⟨_, rfl⟩
              have bz : Below wr.heap.size wr wz := by rw [← hwz]; exact ((Upd.refl (fun _ => False) wr).alloc _ |>.drewN nq).below (Nat.le_refl _) (fun _ _ h => h)
              have hz : wz.heap[wr.heap.size]? = some (.cells #[.int .i64 y1, .int .u64 x2] 50 (0, 0)) := by rw [← hwz]; exact heap_alloc_new wr _
              have z0 : wz.cell? ⟨wr.heap.size, 0, none⟩ = some (.int .i64 y1) := World.news_of_block (cs := #[.int .i64 y1, .int .u64 x2]) (t := 50) (fr := (0, 0)) hz 0 _ rfl
              have z1 : wz.cell? ⟨wr.heap.size, 1, none⟩ = some (.int .u64 x2) := World.news_of_block (cs := #[.int .i64 y1, .int .u64 x2]) (t := 50) (fr := (0, 0)) hz 1 _ rfl
              rw [hwz]
              have HZ : Hid _ := LsAt.stay HM.out bz HM.out.eq (Nat.le_refl _)
              have ey0 : wz.cell? ⟨bc, of2 + k * 2, none⟩ = some (.int .i64 y1) := (bz.cell (p := ⟨bc, of2 + k * 2, none⟩) hblt).trans cy0
              have ey1 : wz.cell? ⟨bc, of2 + k * 2 + 1, none⟩ = some (.int .u64 y2) := (bz.cell (p := ⟨bc, of2 + k * 2 + 1, none⟩) hblt).trans cy1
              clear HZ
              clear hwz
              clear cx0 cy1
              have t3 : decide (x2 < y2) = false := by simpa using h1
              obtain ⟨_, _, y8, y9⟩ := hy9
              have hd : (0 : Int) < x2 - y2 := by omega
              clear h2
              go_wp2
              go_quiet (fail)
              obtain ⟨wu, hwu⟩ : ∃ W, wz.drewN nq = W := ⟨_, rfl⟩
              have bu : Below wr.heap.size wr wu := by rw [← hwu]; exact ((Upd.ofBelow (S := fun _ => False) bz (fun k hk hk' => by omega)).drewN nq).below (Nat.le_refl _) (fun _ _ h => h)
              have hu : wu.heap[wr.heap.size]? = some (.cells #[.int .i64 y1, .int .u64 x2] 50 (0, 0)) := by rw [← hwu]; exact hz
              have u0 : wu.cell? ⟨wr.heap.size, 0, none⟩ = some (.int .i64 y1) := by rw [← hwu]; exact z0
              have u1 : wu.cell? ⟨wr.heap.size, 1, none⟩ = some (.int .u64 x2) := by rw [← hwu]; exact z1
              have uf : wu.frozen? ⟨wr.heap.size, 1, none⟩ = false := blk_free hu 1
              have v1 : wu.cell? ⟨bc, of2 + k * 2 + 1, none⟩ = some (.int .u64 y2) := by rw [← hwu]; exact ey1
              rw [hwu]
              clear hwu bz hz z0 z1 ey0 ey1
              go_wp2
              go_region
              obtain ⟨ws, hws⟩ : ∃ W, (wu.setCell ⟨wr.heap.size, 1, none⟩ (.int .u64 (x2 - y2))).drew = W := ⟨_, rfl⟩
              have bs : Below wr.heap.size wr ws := by rw [← hws]; exact ((Upd.ofBelow (S := fun k => wr.heap.size ≤ k) bu (fun _ _ h => h)).setCell (p := ⟨wr.heap.size, 1, none⟩) (fun _ => Nat.le_refl _) _ |>.drew).below (Nat.le_refl _) (fun k hk h => by omega)
              have s0 : ws.cell? ⟨wr.heap.size, 0, none⟩ = some (.int .i64 y1) := by
                rw [← hws]
                exact blk_cell (set_block hu 1 (.int .u64 (x2 - y2))) 0 rfl
              have s1 : ws.cell? ⟨wr.heap.size, 1, none⟩ = some (.int .u64 (x2 - y2)) := by
                rw [← hws]
                exact blk_cell (set_block hu 1 (.int .u64 (x2 - y2))) 1 rfl
              rw [hws]
              generalize x2 - y2 = dd at *
              have HZ : Hid _ := LsAt.stay HM.out bs HM.out.eq (Nat.le_refl _)
              clear hws bu hu u0 u1 uf v1 HM bs
              have hsz := HZ.out.below.size
              have OW := bar_own HZ.out.own HL.out (.cells #[.int .i64 y1, .int .u64 dd] 50)
              have SR := bar_src ws y1 dd
              go_wp2_with (first | (at_builtin; refine wpList_appW _ rfl _ _ 37 37 rfl w.heap.size 50 i0 _ 2 16 Tryz.underlying37 hi hz0 hz1 hz2 rfl (.slice ao L cc) L _ rfl OW _ 1 _ rfl SR (by unfold maxLen; omega) (by omega) (by simp; omega) ?_; clear OW SR; intro v1 w1 o1 g1 m1))
              go_roundw
              case rel => exact ⟨i + 1, k + 1, S ++ [(y1, dd)], by go_num, by go_num, by omega, by omega, HZ.out.stepB HL.out ((Below.refl _ _).alloc (Nat.le_refl _) _) o1 g1 HS.out (by omega)⟩
              case measure => simp [intOf]; omega
        · have t2 : ((y1 : Int) == (x1 : Int)) = false := by simpa using e1
          have HS : Hid _ := SA e1
          clear SA SB e1
          go_wp2
          go_quiet (fail)
          obtain ⟨wz, hwz⟩ : ∃ W, (wr.alloc (.cells #[.int .i64 x1, .int .u64 x2] 50)).drewN nq = W := ⟨_, rfl⟩
          have bz : Below wr.heap.size wr wz := by rw [← hwz]; exact ((Upd.refl (fun _ => False) wr).alloc _ |>.drewN nq).below (Nat.le_refl _) (fun _ _ h => h)
          have hz : wz.heap[wr.heap.size]? = some (.cells #[.int .i64 x1, .int .u64 x2] 50 (0, 0)) := by rw [← hwz]; exact heap_alloc_new wr _
          have z0 : wz.cell? ⟨wr.heap.size, 0, none⟩ = some (.int .i64 x1) := World.news_of_block (cs := #[.int .i64 x1, .int .u64 x2]) (t := 50) (fr := (0, 0)) hz 0 _ rfl
          have z1 : wz.cell? ⟨wr.heap.size, 1, none⟩ = some (.int .u64 x2) := World.news_of_block (cs := #[.int .i64 x1, .int .u64 x2]) (t := 50) (fr := (0, 0)) hz 1 _ rfl
          rw [hwz]
          have HZ : Hid _ := LsAt.stay HM.out bz HM.out.eq (Nat.le_refl _)
          clear hwz bz HM cx0 cx1
          have hsz := HZ.out.below.size
          have OW := bar_own HZ.out.own HL.out (.cells #[.int .i64 x1, .int .u64 x2] 50)
          have SR := bar_src wz x1 x2
          go_wp2_with (first | (at_builtin; refine wpList_appW _ rfl _ _ 37 37 rfl w.heap.size 50 i0 _ 2 16 Tryz.underlying37 hi hz0 hz1 hz2 rfl (.slice ao L cc) L _ rfl OW _ 1 _ rfl SR (by unfold maxLen; omega) (by omega) (by simp; omega) ?_; clear OW SR; intro v1 w1 o1 g1 m1))
          go_roundw
          case rel => exact ⟨i + 1, k, S ++ [(x1, x2)], by go_num, by go_num, by omega, by omega, HZ.out.stepB HL.out ((Below.refl _ _).alloc (Nat.le_refl _) _) o1 g1 HS.out (by omega)⟩
          case measure => simp [intOf]; omega
      · obtain rfl : k = m := by omega
        have HS : Hid _ := lL_keep hil HM.out.eq (Or.inl (by rw [HLB.out]; omega))
        obtain ⟨x, hx⟩ : ∃ x, a[i] = x := ⟨_, rfl⟩
        rw [hx] at cx0 cx1 hx9 HS
        obtain ⟨x1, x2⟩ := x
        simp only at cx0 cx1 hx9 HS
        have t9 : (0 : Int) < x2 := hx9.1
        have t8 : x2 ≤ 18446744073709551615 := hx9.2
        have t1 : decide ((k : Int) < (k : Int)) = false := by simp
        clear hx hil hk hkm hx9
        go_wp2
        go_quiet (fail)
        obtain ⟨wz, hwz⟩ : ∃ W, (wr.alloc (.cells #[.int .i64 x1, .int .u64 x2] 50)).drewN nq = W := ⟨_, rfl⟩
        have bz : Below wr.heap.size wr wz := by rw [← hwz]; exact ((Upd.refl (fun _ => False) wr).alloc _ |>.drewN nq).below (Nat.le_refl _) (fun _ _ h => h)
        have hz : wz.heap[wr.heap.size]? = some (.cells #[.int .i64 x1, .int .u64 x2] 50 (0, 0)) := by rw [← hwz]; exact heap_alloc_new wr _
        have z0 : wz.cell? ⟨wr.heap.size, 0, none⟩ = some (.int .i64 x1) := World.news_of_block (cs := #[.int .i64 x1, .int .u64 x2]) (t := 50) (fr := (0, 0)) hz 0 _ rfl
        have z1 : wz.cell? ⟨wr.heap.size, 1, none⟩ = some (.int .u64 x2) := World.news_of_block (cs := #[.int .i64 x1, .int .u64 x2]) (t := 50) (fr := (0, 0)) hz 1 _ rfl
        rw [hwz]
        have HZ : Hid _ := LsAt.stay HM.out bz HM.out.eq (Nat.le_refl _)
        clear hwz bz HM cx0 cx1
        have hsz := HZ.out.below.size
        have OW := bar_own HZ.out.own HL.out (.cells #[.int .i64 x1, .int .u64 x2] 50)
        have SR := bar_src wz x1 x2
        go_wp2_with (first | (at_builtin; refine wpList_appW _ rfl _ _ 37 37 rfl w.heap.size 50 i0 _ 2 16 Tryz.underlying37 hi hz0 hz1 hz2 rfl (.slice ao L cc) L _ rfl OW _ 1 _ rfl SR (by unfold maxLen; omega) (by omega) (by simp; omega) ?_; clear OW SR; intro v1 w1 o1 g1 m1))
        go_roundw
        case rel => exact ⟨i + 1, k, S ++ [(x1, x2)], by go_num, by go_num, by omega, by omega, HZ.out.stepB HL.out ((Below.refl _ _).alloc (Nat.le_refl _) _) o1 g1 HS.out (by omega)⟩
        case measure => simp [intOf]; omega
    · have HQ : Hid (MadeP (lessR a b) 134 w (.returned (.tuple #[(if k < m then .slice none 0 0 else .slice ao L cc), .int .i64 (if k < m then 134 else 0)])) wr) := by
        have e := HM.out.eq
        rw [List.drop_eq_nil_of_le (by rw [HLA.out]; omega)] at e
        by_cases hk : k < m
        · have hkl : k < b.length := by rw [HLB.out]; exact hk
          rw [List.drop_eq_getElem_cons hkl, lL_none] at e
          rw [if_pos hk, if_pos hk]
          rcases HE.out with ⟨l, h, _⟩ | ⟨_, h⟩
          · rw [e] at h; simp at h
          · have hb := HM.out.below
            rw [h]
            exact ⟨hb, rfl⟩
        · rw [List.drop_eq_nil_of_le (by rw [HLB.out]; omega), lL_nil] at e
          rw [if_neg hk, if_neg hk]
          rcases HE.out with ⟨l, h, h2, g, h3, h4⟩ | ⟨h, _⟩
          · have hb := HM.out.below
            have ho := HM.out.own
            have hl : l = S := by rw [h] at e; simpa using e
            rw [← hl, h2, ← h4] at ho
            rw [h3]
            exact ⟨hb, _, rfl, ho⟩
          · rw [h] at e; simp at e
      clear HM
      by_cases hk : k < m
      · rw [if_pos hk, if_pos hk] at HQ
        have t1 : (k : Int) < (m : Int) := by omega
        go_wp2
        go_returns
        exact HQ.out
      · rw [if_neg hk, if_neg hk] at HQ
        have t1 : ¬ (k : Int) < (m : Int) := by omega
        go_wp2
        go_returns
        exact HQ.out
end Go.Proofs.YtkpkdikogoalkaaGreatDoor.sk

namespace Go.Proofs.YtkpkdikogoalkaaGreatDoor.sk
open Go.RowKit
set_option maxRecDepth 100000

set_option maxHeartbeats 400000 in
theorem refLess_no (ad bd : Option Addr) (n m ca cb : Nat) (a b : List (Int × Int)) (w : World) (hA : InAt w ad n a) (hB : InAt w bd m b) (hc : (chkF (-1) a && chkF (-1) b) = false) :
    Calls Tryz.prog 40 #[.slice ad n ca, .slice bd m cb] w (MadeP none 131 w) := by
  have KA := refCheck_any ad n ca a w hA.at_ hA.len hA.bin
  have KB := fun q => refCheck_any bd m cb b (w.drewN q) (hB.at_.drewN q) hB.len hB.bin
  have hu : ∀ q, Below w.heap.size w (w.drewN q) := fun q => ((Upd.refl (fun _ => False) w).drewN q).below (Nat.le_refl _) (fun _ _ h => h)
  cases ha : chkF (-1) a with
  | false =>
    simp only [chkE_no ha] at KA
    clear KB hA hB hc ha
    go_enter Tryz.func40, Tryz.ntmps40
    go_wp2_with (go_at_call 39; (with_reducible refine KA.mono ?_); clear KA; rintro e w' ⟨rfl, q1, rfl⟩)
    go_returns
    exact ⟨hu _, rfl⟩
  | true =>
    have hb : chkF (-1) b = false := by rw [ha] at hc; simpa using hc
    simp only [chkE_ok ha] at KA
    simp only [chkE_no hb] at KB
    clear hA hB hc ha hb
    go_enter Tryz.func40, Tryz.ntmps40
    go_wp2_with (first
      | (go_at_call 39; (with_reducible refine KA.mono ?_); clear KA; rintro e w' ⟨rfl, q1, rfl⟩)
      | (go_at_call 39; (with_reducible refine (KB q1).mono ?_); clear KB; rintro e w' ⟨rfl, q2, rfl⟩))
    go_returns
    exact ⟨hu _, rfl⟩
/-- The values of the first bars. -/
def CntP (s : Nat) (w : World) (e : Ending) (w' : World) : Prop := e = .returned (natV s) ∧ Below w.heap.size w w'
theorem NatAt.set1 {w : World} {b : Nat} {x y : Int} (h : NatAt w b x y) (q : Int) : NatAt (w.setCell ⟨b, 1, none⟩ (.int .u64 q)) b x q := by
  have := set_block h.blk 1 (.int .u64 q)
  exact ⟨by simpa using this⟩
theorem NatAt.set0 {w : World} {b : Nat} {x y : Int} (h : NatAt w b x y) (q : Int) : NatAt (w.setCell ⟨b, 0, none⟩ (.int .u64 q)) b q y := by
  have := set_block h.blk 0 (.int .u64 q)
  exact ⟨by simpa using this⟩
theorem NatAt.drew {w : World} {b : Nat} {x y : Int} (h : NatAt w b x y) : NatAt w.drew b x y := ⟨h.blk⟩
theorem NatAt.drewN {w : World} {b : Nat} {x y : Int} (h : NatAt w b x y) (n : Nat) : NatAt (w.drewN n) b x y := h.upd ((Upd.refl (fun _ => False) w).drewN n) (fun h => h)
theorem over_no {s q : Nat} (h : lo64 s + q < 18446744073709551616) : hi64 (s + q) = hi64 s ∧ lo64 (s + q) = lo64 s + q := by unfold hi64 lo64 at *; omega
theorem over_yes {s q : Nat} (hq : q < 18446744073709551616) (h : 18446744073709551616 ≤ lo64 s + q) : hi64 (s + q) = hi64 s + 1 ∧ lo64 (s + q) + 18446744073709551616 = lo64 s + q := by unfold hi64 lo64 at *; omega
theorem wr_m {q : Nat} (h : q < 18446744073709551616) : IntKind.u64.wrap (18446744073709551615 - (q : Int)) = ((18446744073709551615 - q : Nat) : Int) := by rw [IntKind.wrap_u64]; omega
theorem wr_lo (s q : Nat) : IntKind.u64.wrap ((lo64 s : Int) + (q : Int)) = (lo64 (s + q) : Int) := by unfold lo64; rw [IntKind.wrap_u64]; omega
theorem wr_hi {s : Nat} (h : s < 170141183460469231731687303715884105728) : IntKind.u64.wrap ((hi64 s : Int) + 1) = ((hi64 s + 1 : Nat) : Int) := by unfold hi64; rw [IntKind.wrap_u64]; omega
theorem sum_small2 {l : List (Int × Int)} (h : chkF (-1) l = true) (hi : Bin l) : sumB l < 170141183460469231731687303715884105728 := by
  have := sum_small h hi
  omega
end Go.Proofs.YtkpkdikogoalkaaGreatDoor.sk

namespace Go.Proofs.YtkpkdikogoalkaaGreatDoor.sk
open Go Go.RowKit
set_option maxRecDepth 100000

theorem rBelow (n m : Nat) (w : World) :
    Calls Tryz.prog 41 #[natV n, natV m] w fun e w' => e = .returned (.bool (decide (n < m))) ∧ Below w.heap.size w w' := by
  have h1 := hilo n
  have h2 := hilo m
  have h3 := lo64_lt n
  have h4 := lo64_lt m
  have e : decide (n < m) = (decide ((hi64 n : Int) < (hi64 m : Int)) || (decide ((hi64 n : Int) = (hi64 m : Int)) && decide ((lo64 n : Int) < (lo64 m : Int)))) := by
    rw [← Bool.decide_and, ← Bool.decide_or, decide_eq_decide]
    omega
  rw [e]
  clear e h1 h2 h3 h4
  unfold natV
  generalize (hi64 n : Int) = x1
  generalize (lo64 n : Int) = x0
  generalize (hi64 m : Int) = y1
  generalize (lo64 m : Int) = y0
  by_cases p : x1 < y1
  · rw [show decide (x1 < y1) = true by simpa using p, Bool.true_or]
    go_enter Tryz.func41, Tryz.ntmps41
    go_wp2
    go_returns
    exact ⟨rfl, (by repeat' first | exact Below.refl _ _ | refine Below.alloc ?_ (by first | exact Nat.le_refl _ | (simp; done) | (simp; omega)) _)⟩
  · rw [show decide (x1 < y1) = false by simpa using p, Bool.false_or]
    by_cases q : x1 = y1
    · subst q
      rw [show decide (x1 = x1) = true by simp, Bool.true_and]
      clear p
      by_cases r : x0 < y0
      · rw [show decide (x0 < y0) = true by simpa using r]
        go_enter Tryz.func41, Tryz.ntmps41
        go_wp2
        go_returns
        exact ⟨rfl, (by repeat' first | exact Below.refl _ _ | refine Below.alloc ?_ (by first | exact Nat.le_refl _ | (simp; done) | (simp; omega)) _)⟩
      · rw [show decide (x0 < y0) = false by simpa using r]
        go_enter Tryz.func41, Tryz.ntmps41
        go_wp2
        go_returns
        exact ⟨rfl, (by repeat' first | exact Below.refl _ _ | refine Below.alloc ?_ (by first | exact Nat.le_refl _ | (simp; done) | (simp; omega)) _)⟩
    · rw [show decide (x1 = y1) = false by simpa using q, Bool.false_and]
      have q' : (x1 == y1) = false := by simpa using q
      go_enter Tryz.func41, Tryz.ntmps41
      go_wp2
      go_returns
      exact ⟨rfl, (by repeat' first | exact Below.refl _ _ | refine Below.alloc ?_ (by first | exact Nat.le_refl _ | (simp; done) | (simp; omega)) _)⟩
/-- What the reference's sum does, step by step. -/
theorem add_steps (n m : Nat) (hn : n ≤ top128) (hm : m ≤ top128) : ∃ s0 s1 c s2 : Int, IntKind.u64.wrap ((lo64 n : Int) + (lo64 m : Int)) = s0 ∧ IntKind.u64.wrap ((hi64 n : Int) + (hi64 m : Int)) = s1 ∧ ((s0 < (lo64 n : Int) ∧ c = 1) ∨ (¬ s0 < (lo64 n : Int) ∧ c = 0)) ∧ IntKind.u64.wrap (s1 + c) = s2 ∧
    (((s1 < (hi64 n : Int) ∨ s2 < c) ∧ addT n m = top128) ∨ (¬ s1 < (hi64 n : Int) ∧ ¬ s2 < c ∧ (hi64 (addT n m) : Int) = s2 ∧ (lo64 (addT n m) : Int) = s0)) := by
  have a1 := hilo n
  have a2 := hilo m
  have a3 := lo64_lt n
  have a4 := lo64_lt m
  have hn2 : hi64 n < 18446744073709551616 := by rw [top128_eq] at hn; unfold hi64; omega
  have hm2 : hi64 m < 18446744073709551616 := by rw [top128_eq] at hm; unfold hi64; omega
  have b1 := addT_over n m hn hm
  by_cases h : n + m ≤ top128
  · obtain ⟨e1, e2⟩ := addT_hi n m h
    rw [if_pos h] at b1
    by_cases hc : lo64 n + lo64 m < 18446744073709551616
    · refine ⟨_, _, 0, _, rfl, rfl, Or.inr ⟨?_, rfl⟩, rfl, Or.inr ⟨?_, ?_, ?_, ?_⟩⟩ <;> simp only [IntKind.wrap_u64] <;> omega
    · refine ⟨_, _, 1, _, rfl, rfl, Or.inl ⟨?_, rfl⟩, rfl, Or.inr ⟨?_, ?_, ?_, ?_⟩⟩ <;> simp only [IntKind.wrap_u64] <;> omega
  · rw [if_neg h] at b1
    have e : addT n m = top128 := by unfold addT; omega
    by_cases hc : lo64 n + lo64 m < 18446744073709551616
    · refine ⟨_, _, 0, _, rfl, rfl, Or.inr ⟨?_, rfl⟩, rfl, Or.inl ⟨?_, e⟩⟩ <;> simp only [IntKind.wrap_u64] <;> omega
    · refine ⟨_, _, 1, _, rfl, rfl, Or.inl ⟨?_, rfl⟩, rfl, Or.inl ⟨?_, e⟩⟩ <;> simp only [IntKind.wrap_u64] <;> omega
set_option maxHeartbeats 1000000 in
theorem rAdd (n m : Nat) (hn : n ≤ top128) (hm : m ≤ top128) (w : World) :
    Calls Tryz.prog 38 #[natV n, natV m] w fun e w' => e = .returned (natV (addT n m)) ∧ Below w.heap.size w w' := by
  obtain ⟨s0, s1, c, s2, h0, h1, hc, h2, hr⟩ := add_steps n m hn hm
  clear hn hm
  have HR : Hid (natV top128 = .agg #[.int .u64 18446744073709551615, .int .u64 18446744073709551615]) := natV_top
  rcases hr with ⟨ho, e⟩ | ⟨g1, g2, e1, e2⟩
  · rw [e, HR.out]
    clear e HR
    unfold natV
    generalize (hi64 n : Int) = x1 at *
    generalize (lo64 n : Int) = x0 at *
    generalize (hi64 m : Int) = y1 at *
    generalize (lo64 m : Int) = y0 at *
    rcases hc with ⟨g0, rfl⟩ | ⟨g0, rfl⟩
    all_goals (try simp only [Int.add_zero] at h2)
    all_goals by_cases g1 : s1 < x1
    all_goals (try (have ho' := ho.resolve_left g1))
    all_goals clear ho
    all_goals go_enter Tryz.func38, Tryz.ntmps38
    all_goals go_wp2
    all_goals go_returns
    all_goals exact ⟨rfl, (by repeat' first | exact Below.refl _ _ | refine Below.alloc ?_ (by first | exact Nat.le_refl _ | (simp; done) | (simp; omega)) _)⟩
  · clear HR
    unfold natV
    rw [e1, e2]
    clear e1 e2
    generalize (hi64 n : Int) = x1 at *
    generalize (lo64 n : Int) = x0 at *
    generalize (hi64 m : Int) = y1 at *
    generalize (lo64 m : Int) = y0 at *
    rcases hc with ⟨g0, rfl⟩ | ⟨g0, rfl⟩
    all_goals (try simp only [Int.add_zero] at h2)
    all_goals go_enter Tryz.func38, Tryz.ntmps38
    all_goals go_wp2
    all_goals go_returns
    all_goals exact ⟨rfl, (by repeat' first | exact Below.refl _ _ | refine Below.alloc ?_ (by first | exact Nat.le_refl _ | (simp; done) | (simp; omega)) _)⟩
theorem sub_steps (n m : Nat) (h : m ≤ n) (hn : n ≤ top128) : ∃ s1 : Int, IntKind.u64.wrap ((hi64 n : Int) - (hi64 m : Int)) = s1 ∧ IntKind.u64.wrap ((lo64 n : Int) - (lo64 m : Int)) = (lo64 (n - m) : Int) ∧ (((lo64 n : Int) < (lo64 m : Int) ∧ IntKind.u64.wrap (s1 - 1) = (hi64 (n - m) : Int)) ∨ (¬ (lo64 n : Int) < (lo64 m : Int) ∧ s1 = (hi64 (n - m) : Int))) := by
  obtain ⟨e1, e2⟩ := subT_eq n m h hn
  have a3 := lo64_lt n
  have a4 := lo64_lt m
  have a5 := lo64_lt (n - m)
  have a1 := hilo n
  have a2 := hilo m
  have a6 := hilo (n - m)
  have hn2 : hi64 n < 18446744073709551616 := by rw [top128_eq] at hn; unfold hi64; omega
  have hm2 : hi64 m < 18446744073709551616 := by rw [top128_eq] at hn; unfold hi64; omega
  have hd2 : hi64 (n - m) < 18446744073709551616 := by rw [top128_eq] at hn; unfold hi64; omega
  refine ⟨_, rfl, ?_, ?_⟩
  · rw [IntKind.wrap_u64]; omega
  · by_cases hc : lo64 n < lo64 m
    · refine Or.inl ⟨by omega, ?_⟩
      simp only [IntKind.wrap_u64]
      omega
    · refine Or.inr ⟨by omega, ?_⟩
      simp only [IntKind.wrap_u64]
      omega
theorem rSub (n m : Nat) (h : m ≤ n) (hn : n ≤ top128) (w : World) :
    Calls Tryz.prog 42 #[natV n, natV m] w fun e w' => e = .returned (natV (n - m)) ∧ Below w.heap.size w w' := by
  obtain ⟨s1, h1, h0, hr⟩ := sub_steps n m h hn
  clear h hn
  unfold natV
  generalize (hi64 (n - m) : Int) = z1 at *
  generalize (lo64 (n - m) : Int) = z0 at *
  generalize (hi64 n : Int) = x1 at *
  generalize (lo64 n : Int) = x0 at *
  generalize (hi64 m : Int) = y1 at *
  generalize (lo64 m : Int) = y0 at *
  rcases hr with ⟨g0, h2⟩ | ⟨g0, rfl⟩
  all_goals go_enter Tryz.func42, Tryz.ntmps42
  all_goals go_wp2
  all_goals go_returns
  all_goals exact ⟨rfl, (by repeat' first | exact Below.refl _ _ | refine Below.alloc ?_ (by first | exact Nat.le_refl _ | (simp; done) | (simp; omega)) _)⟩
end Go.Proofs.YtkpkdikogoalkaaGreatDoor.sk

namespace Go.Proofs.YtkpkdikogoalkaaGreatDoor.sk
open Go Go.RowKit
set_option maxRecDepth 100000

theorem rMerge_skQ (ao bo : Option Addr) (L M ca cb : Nat) (f g : Nat → Nat) (w : World) (h : SkAt w ao L f) (k : SkAt w bo M g) :
    Calls Tryz.prog 37 #[.slice ao L ca, .slice bo M cb] w (SkQ (minF f g) w) := by
  refine (refMerge_ok ao bo L M ca cb (barsF f) (barsF g) w h.at_ k.at_ (barsF_chk f) (barsF_chk g)).mono fun e w' hm => ?_
  refine hm.skQ (fun j => Nat.min_le_right _ _) (minF_le f g) fun i hi => ?_
  unfold mergeF minF
  rw [barsF_cnt f hi, barsF_cnt g hi]
set_option maxHeartbeats 1000000 in
theorem rPlus_no (ad bd : Option Addr) (n m ca cb : Nat) (a b : List (Int × Int)) (c e k c' e' k' : Nat) (w : World) (hA : InAt w ad n a) (hB : InAt w bd m b) (hc : (chkF (-1) a && chkF (-1) b) = false) :
    Calls Tryz.prog 16 #[talV c e k ad n ca, talV c' e' k' bd m cb] w (TalN 131 w) := by
  have B3 : ∀ o1 o2 o3 : Obj, Below w.heap.size w (((w.alloc o1).alloc o2).alloc o3) := fun o1 o2 o3 => ((((Below.refl _ _).alloc (Nat.le_refl _) _).alloc (by simp) _).alloc (by simp; omega) _)
  have MG := fun W (h : Below w.heap.size w W) => refMerge_no ad bd n m ca cb a b W (hA.below h) (hB.below h) hc
  have T3 : Hid _ := Tal3.new w (hi64 c) (lo64 c) (hi64 e) (lo64 e) (hi64 k) (lo64 k) ad n ca (hi64 c') (lo64 c') (hi64 e') (lo64 e') (hi64 k') (lo64 k') bd m cb
  unfold talV TalN
  rw [talV_zero]
  generalize (hi64 c : Int) = x0 at *
  generalize (lo64 c : Int) = x1 at *
  generalize (hi64 e : Int) = x2 at *
  generalize (lo64 e : Int) = x3 at *
  generalize (hi64 k : Int) = x4 at *
  generalize (lo64 k : Int) = x5 at *
  generalize (hi64 c' : Int) = y0 at *
  generalize (lo64 c' : Int) = y1 at *
  generalize (hi64 e' : Int) = y2 at *
  generalize (lo64 e' : Int) = y3 at *
  generalize (hi64 k' : Int) = y4 at *
  generalize (lo64 k' : Int) = y5 at *
  clear hA hB hc
  simp only [talL] at T3 ⊢
  go_enter Tryz.func16, Tryz.ntmps16
  go_wp2_with (first
    | (go_at_call 37; (with_reducible refine (MG _ (B3 _ _ _)).mono ?_); clear MG; rintro x w1 ⟨b1, rfl⟩; have HB1 : Hid _ := (B3 _ _ _).trans (b1.mono (B3 _ _ _).size); have T1 : Hid _ := Tal3.below T3.out b1; clear b1)
    | (refine wpList_stW rfl 39 _ _ rfl (w.heap.size + 1 + 1) (talL 0 0 0 0 0 0 none 0 0) (talL 0 0 0 0 0 0 none 0 0) 39 T1.out.res rfl rfl rfl (by kernel_rfl) talL_one ?_; intro w3 n3 u3))
  (try simp only [Exit.inBlock, Exit.then])
  refine bodyPost_ret (v := .tuple #[.agg (talL 0 0 0 0 0 0 none 0 0).toArray, .int .i64 131]) ?_ rfl ⟨rfl, HB1.out.trans (u3.below HB1.out.size (fun k hk e => by omega))⟩
  rw [results_cell_tmp rfl]
  have hld := blk_loadT n3
  simp [asAddr, Result.andThen, hld]
set_option maxHeartbeats 4000000 in
theorem rPlus_ok (ad bd : Option Addr) (n m ca cb : Nat) (f g : Nat → Nat) (c e k c' e' k' : Nat) (w : World) (hA : SkAt w ad n f) (hB : SkAt w bd m g) (b1 : c ≤ top128) (b2 : e ≤ top128) (b3 : k ≤ top128) (b4 : c' ≤ top128) (b5 : e' ≤ top128) (b6 : k' ≤ top128) :
    Calls Tryz.prog 16 #[talV c e k ad n ca, talV c' e' k' bd m cb] w (TalP (addT c c') (addT e e') (addT k k') (minF f g) w) := by
  have B3 : ∀ o1 o2 o3 : Obj, Below w.heap.size w (((w.alloc o1).alloc o2).alloc o3) := fun o1 o2 o3 => ((((Below.refl _ _).alloc (Nat.le_refl _) _).alloc (by simp) _).alloc (by simp; omega) _)
  have MG := fun W (h : Below w.heap.size w W) => rMerge_skQ ad bd n m ca cb f g W (hA.below h) (hB.below h)
  have T3 : Hid _ := Tal3.new w (hi64 c) (lo64 c) (hi64 e) (lo64 e) (hi64 k) (lo64 k) ad n ca (hi64 c') (lo64 c') (hi64 e') (lo64 e') (hi64 k') (lo64 k') bd m cb
  have P1 := fun W => rAdd c c' b1 b4 W
  have P2 := fun W => rAdd e e' b2 b5 W
  have P3 := fun W => rAdd k k' b3 b6 W
  unfold natV at P1 P2 P3
  unfold TalP talV
  clear hA hB b1 b2 b3 b4 b5 b6
  generalize (hi64 c : Int) = x0 at *
  generalize (lo64 c : Int) = x1 at *
  generalize (hi64 e : Int) = x2 at *
  generalize (lo64 e : Int) = x3 at *
  generalize (hi64 k : Int) = x4 at *
  generalize (lo64 k : Int) = x5 at *
  generalize (hi64 c' : Int) = y0 at *
  generalize (lo64 c' : Int) = y1 at *
  generalize (hi64 e' : Int) = y2 at *
  generalize (lo64 e' : Int) = y3 at *
  generalize (hi64 k' : Int) = y4 at *
  generalize (lo64 k' : Int) = y5 at *
  generalize (hi64 (addT c c') : Int) = z0 at *
  generalize (lo64 (addT c c') : Int) = z1 at *
  generalize (hi64 (addT e e') : Int) = z2 at *
  generalize (lo64 (addT e e') : Int) = z3 at *
  generalize (hi64 (addT k k') : Int) = z4 at *
  generalize (lo64 (addT k k') : Int) = z5 at *
  simp only [talL] at T3 ⊢
  go_enter Tryz.func16, Tryz.ntmps16
  go_wp2_with (first
    | (go_at_call 37; (with_reducible refine (MG _ (B3 _ _ _)).mono ?_); clear MG; rintro x w1 ⟨mo, N, cm, rfl, HM, b1, HO⟩; have HB1 : Hid _ := (B3 _ _ _).trans (b1.mono (B3 _ _ _).size); have T1 : Hid _ := Tal3.below T3.out b1; have HF : Hid _ := own_fresh HO.out; clear b1))
  refine wp_region_held (S := fun W => Tal2 W w.heap.size x0 x1 x2 x3 x4 x5 ad n ca y0 y1 y2 y3 y4 y5 bd m cb) (by kernel_rfl) ?_
  change wpAnyH _ _ _ _ _ _ _ _ (World.drew _)
  have hS0 : Tal2 w1.drew w.heap.size x0 x1 x2 x3 x4 x5 ad n ca y0 y1 y2 y3 y4 y5 bd m cb := ⟨T1.out.two.one, T1.out.two.two⟩
  refine takeC (i := 0) (v := .pointer (some ⟨w.heap.size, 0, none⟩)) rfl (by kernel_rfl) (by kernel_rfl) (by kernel_rfl) (fun _ _ _ h => h) (Or.inl ⟨by rfl, fun W hW => by go_simp⟩) hS0 ?_
  simp only [Act.put, List.setIfInBounds_toArray, List.set_cons_zero, List.set_cons_succ]
  refine takeC (i := 1) (v := .agg [.int .u64 x0, .int .u64 x1].toArray) rfl (by kernel_rfl) (by kernel_rfl) (by kernel_rfl) (fun _ _ _ h => h) (yieldsIf_load_mid (by rfl) 36 _ rfl (w.heap.size) 0 rfl [.int .u64 x0, .int .u64 x1] _ (fun W hW => range2 hW.one 0 rfl rfl) Tryz.underlying36 rfl (by kernel_rfl)) hS0 ?_
  simp only [Act.put, List.setIfInBounds_toArray, List.set_cons_zero, List.set_cons_succ]
  refine takeC (i := 2) (v := .pointer (some ⟨w.heap.size + 1, 0, none⟩)) rfl (by kernel_rfl) (by kernel_rfl) (by kernel_rfl) (fun _ _ _ h => h) (Or.inl ⟨by rfl, fun W hW => by go_simp⟩) hS0 ?_
  simp only [Act.put, List.setIfInBounds_toArray, List.set_cons_zero, List.set_cons_succ]
  refine takeC (i := 3) (v := .agg [.int .u64 y0, .int .u64 y1].toArray) rfl (by kernel_rfl) (by kernel_rfl) (by kernel_rfl) (fun _ _ _ h => h) (yieldsIf_load_mid (by rfl) 36 _ rfl (w.heap.size + 1) 0 rfl [.int .u64 y0, .int .u64 y1] _ (fun W hW => range2 hW.two 0 rfl rfl) Tryz.underlying36 rfl (by kernel_rfl)) hS0 ?_
  simp only [Act.put, List.setIfInBounds_toArray, List.set_cons_zero, List.set_cons_succ]
  refine takeC (i := 5) (v := .pointer (some ⟨w.heap.size, 2, none⟩)) rfl (by kernel_rfl) (by kernel_rfl) (by kernel_rfl) (fun _ _ _ h => h) (Or.inl ⟨by rfl, fun W hW => by go_simp⟩) hS0 ?_
  simp only [Act.put, List.setIfInBounds_toArray, List.set_cons_zero, List.set_cons_succ]
  refine takeC (i := 6) (v := .agg [.int .u64 x2, .int .u64 x3].toArray) rfl (by kernel_rfl) (by kernel_rfl) (by kernel_rfl) (fun _ _ _ h => h) (yieldsIf_load_mid (by rfl) 36 _ rfl (w.heap.size) 2 rfl [.int .u64 x2, .int .u64 x3] _ (fun W hW => range2 hW.one 2 rfl rfl) Tryz.underlying36 rfl (by kernel_rfl)) hS0 ?_
  simp only [Act.put, List.setIfInBounds_toArray, List.set_cons_zero, List.set_cons_succ]
  refine takeC (i := 7) (v := .pointer (some ⟨w.heap.size + 1, 2, none⟩)) rfl (by kernel_rfl) (by kernel_rfl) (by kernel_rfl) (fun _ _ _ h => h) (Or.inl ⟨by rfl, fun W hW => by go_simp⟩) hS0 ?_
  simp only [Act.put, List.setIfInBounds_toArray, List.set_cons_zero, List.set_cons_succ]
  refine takeC (i := 8) (v := .agg [.int .u64 y2, .int .u64 y3].toArray) rfl (by kernel_rfl) (by kernel_rfl) (by kernel_rfl) (fun _ _ _ h => h) (yieldsIf_load_mid (by rfl) 36 _ rfl (w.heap.size + 1) 2 rfl [.int .u64 y2, .int .u64 y3] _ (fun W hW => range2 hW.two 2 rfl rfl) Tryz.underlying36 rfl (by kernel_rfl)) hS0 ?_
  simp only [Act.put, List.setIfInBounds_toArray, List.set_cons_zero, List.set_cons_succ]
  refine takeC (i := 10) (v := .pointer (some ⟨w.heap.size, 4, none⟩)) rfl (by kernel_rfl) (by kernel_rfl) (by kernel_rfl) (fun _ _ _ h => h) (Or.inl ⟨by rfl, fun W hW => by go_simp⟩) hS0 ?_
  simp only [Act.put, List.setIfInBounds_toArray, List.set_cons_zero, List.set_cons_succ]
  refine takeC (i := 11) (v := .agg [.int .u64 x4, .int .u64 x5].toArray) rfl (by kernel_rfl) (by kernel_rfl) (by kernel_rfl) (fun _ _ _ h => h) (yieldsIf_load_mid (by rfl) 36 _ rfl (w.heap.size) 4 rfl [.int .u64 x4, .int .u64 x5] _ (fun W hW => range2 hW.one 4 rfl rfl) Tryz.underlying36 rfl (by kernel_rfl)) hS0 ?_
  simp only [Act.put, List.setIfInBounds_toArray, List.set_cons_zero, List.set_cons_succ]
  refine takeC (i := 12) (v := .pointer (some ⟨w.heap.size + 1, 4, none⟩)) rfl (by kernel_rfl) (by kernel_rfl) (by kernel_rfl) (fun _ _ _ h => h) (Or.inl ⟨by rfl, fun W hW => by go_simp⟩) hS0 ?_
  simp only [Act.put, List.setIfInBounds_toArray, List.set_cons_zero, List.set_cons_succ]
  refine takeC (i := 13) (v := .agg [.int .u64 y4, .int .u64 y5].toArray) rfl (by kernel_rfl) (by kernel_rfl) (by kernel_rfl) (fun _ _ _ h => h) (yieldsIf_load_mid (by rfl) 36 _ rfl (w.heap.size + 1) 4 rfl [.int .u64 y4, .int .u64 y5] _ (fun W hW => range2 hW.two 4 rfl rfl) Tryz.underlying36 rfl (by kernel_rfl)) hS0 ?_
  simp only [Act.put, List.setIfInBounds_toArray, List.set_cons_zero, List.set_cons_succ]
  refine takeC (i := 15) (v := .slice mo N cm) rfl (by kernel_rfl) (by kernel_rfl) (by kernel_rfl) (fun _ _ _ h => h) (Or.inl ⟨by rfl, fun W hW => by go_simp⟩) hS0 ?_
  simp only [Act.put, List.setIfInBounds_toArray, List.set_cons_zero, List.set_cons_succ]
  refine onlyC (i := 4) rfl (by kernel_rfl) (fun K hK => ?_)
  go_simp
  go_at_call 38
  (with_reducible refine (P1 _).mono ?_)
  clear P1
  rintro x v2 ⟨rfl, b2⟩
  have hS1 := Tal2.below hS0 b2
  refine hK _ _ ⟨hS1, ?_⟩
  clear hK K
  refine onlyC (i := 9) rfl (by kernel_rfl) (fun K hK => ?_)
  go_simp
  go_at_call 38
  (with_reducible refine (P2 _).mono ?_)
  clear P2
  rintro x v3 ⟨rfl, b3⟩
  have hS2 := Tal2.below hS1 b3
  refine hK _ _ ⟨hS2, ?_⟩
  clear hK K
  refine onlyC (i := 14) rfl (by kernel_rfl) (fun K hK => ?_)
  go_simp
  go_at_call 38
  (with_reducible refine (P3 _).mono ?_)
  clear P3
  rintro x v4 ⟨rfl, b4⟩
  have hS3 := Tal2.below hS2 b4
  refine hK _ _ ⟨hS3, ?_⟩
  clear hK K
  refine takeC (i := 16) (v := .agg (talL z0 z1 z2 z3 z4 z5 mo N cm).toArray) rfl (by kernel_rfl) (by kernel_rfl) (by kernel_rfl) (fun _ _ _ h => h) (Or.inl ⟨by rfl, fun W hW => by go_simp; rfl⟩) hS3 ?_
  simp only [Act.put, List.setIfInBounds_toArray, List.set_cons_zero, List.set_cons_succ]
  have bb : Below w1.heap.size w1 v4 := ((Below.refl w1.heap.size w1).drew.trans b2).trans ((b3.mono b2.size).trans (b4.mono (Nat.le_trans b2.size b3.size)))
  refine onlyC (i := 17) rfl (by kernel_rfl) (fun K hK => ?_)
  refine step_stW (by rfl) 39 _ _ (by rfl) (w.heap.size + 1 + 1) (talL 0 0 0 0 0 0 none 0 0) (talL z0 z1 z2 z3 z4 z5 mo N cm) 39 (T1.out.res.below bb T1.out.res.lt) (by rfl) (by rfl) (by rfl) (by kernel_rfl) talL_one ?_
  intro v5 n5 u5
  have hS5 : Tal2 v5 w.heap.size x0 x1 x2 x3 x4 x5 ad n ca y0 y1 y2 y3 y4 y5 bd m cb := hS3.upd u5 (by omega) (by omega)
  refine hK _ _ ⟨hS5, ?_⟩
  clear hK K
  refine takeC (i := 18) (v := .int .i64 0) rfl (by kernel_rfl) (by kernel_rfl) (by kernel_rfl) (fun _ _ _ h => h) (Or.inl ⟨by rfl, fun W hW => by go_simp⟩) hS5 ?_
  simp only [Act.put, List.setIfInBounds_toArray, List.set_cons_zero, List.set_cons_succ]
  have HM5 : SkAt v5 mo N (minF f g) := (HM.out.below bb).upd u5 (fun a ha e => by have h2 := own_fresh HO.out a ha; rw [World.size_alloc, World.size_alloc, World.size_alloc] at h2; omega)
  have HO5 : OwnBar w.heap.size v5 (.slice mo N cm) (barsF (minF f g)) := own_base ((OwnBar.below HO.out bb).upd u5 (fun j hj e => by rw [World.size_alloc, World.size_alloc, World.size_alloc] at hj; omega)) (by rw [World.size_alloc, World.size_alloc, World.size_alloc]; omega)
  have HB5 : Below w.heap.size w v5 := (HB1.out.trans (bb.mono HB1.out.size)).trans (u5.below (by have := HB1.out.size; have := bb.size; omega) (fun k hk e => by omega))
  refine wpAnyH_done (by kernel_rfl) ?_ _
  go_wp2
  (try simp only [Exit.inBlock, Exit.then])
  refine bodyPost_ret (v := .tuple #[.agg (talL z0 z1 z2 z3 z4 z5 mo N cm).toArray, .int .i64 0]) ?_ rfl ⟨mo, N, cm, rfl, HM5, HB5, HO5⟩
  rw [results_cell_tmp rfl]
  have hld := blk_loadT n5
  simp [asAddr, Result.andThen, hld]
end Go.Proofs.YtkpkdikogoalkaaGreatDoor.sk

namespace Go.Proofs.YtkpkdikogoalkaaGreatDoor.sk
open Go Go.RowKit
set_option maxRecDepth 100000

theorem rCheck (ad : Option Addr) (n c : Nat) (l : List (Int × Int)) (w : World) (h : InAt w ad n l) : Calls Tryz.prog 39 #[.slice ad n c] w fun e w' => e = .returned (.int .i64 (chkE l)) ∧ Below w.heap.size w w' := by
  refine (refCheck_any ad n c l w h.at_ h.len h.bin).mono fun e w' hx => ?_
  obtain ⟨h1, q, rfl⟩ := hx
  exact ⟨h1, ((Upd.refl (fun _ => False) w).drewN q).below (Nat.le_refl _) (fun _ _ h => h)⟩
theorem rLess_skQ (ao bo : Option Addr) (L M ca cb : Nat) (f g : Nat → Nat) (w : World) (h : SkAt w ao L f) (k : SkAt w bo M g) (hle : ∀ i, i < 1920 → g i ≤ f i) :
    Calls Tryz.prog 40 #[.slice ao L ca, .slice bo M cb] w (SkQ (fun i => f i - g i) w) := by
  refine (refLess_ok ao bo L M ca cb (barsF f) (barsF g) w h.at_ k.at_ (barsF_chk f) (barsF_chk g)).mono fun e w' hm => ?_
  obtain ⟨r, er, hr⟩ := takeL_some (f := cntF (barsF f)) (by omega) (barsF_chk g) (fun j => by
    rcases Nat.lt_or_ge j 1920 with hj | hj
    · rw [barsF_cnt f hj, barsF_cnt g hj]; exact hle j hj
    · rw [barsF_out hj]; exact Nat.zero_le _)
  unfold lessR at hm
  rw [er] at hm
  refine hm.skQ (fun j => ?_) (fun j => Nat.le_trans (Nat.sub_le _ _) (h.le j)) fun i hi => ?_
  · rw [hr j]
    exact Nat.le_trans (Nat.sub_le _ _) (cntF_le h.at_.bin j)
  · rw [hr i, barsF_cnt f hi, barsF_cnt g hi]
set_option maxHeartbeats 2000000 in
theorem rMinus_no (ad bd : Option Addr) (n m ca cb : Nat) (a b : List (Int × Int)) (c e k c' e' k' : Nat) (w : World) (hA : InAt w ad n a) (hB : InAt w bd m b) (hc : (chkF (-1) a && chkF (-1) b) = false) :
    Calls Tryz.prog 17 #[talV c e k ad n ca, talV c' e' k' bd m cb] w (TalN 131 w) := by
  have B3 : ∀ o1 o2 o3 : Obj, Below w.heap.size w (((w.alloc o1).alloc o2).alloc o3) := fun o1 o2 o3 => ((((Below.refl _ _).alloc (Nat.le_refl _) _).alloc (by simp) _).alloc (by simp; omega) _)
  have KA := fun W (h : Below w.heap.size w W) => rCheck ad n ca a W (hA.below h)
  have KB := fun W (h : Below w.heap.size w W) => rCheck bd m cb b W (hB.below h)
  have hz : chkE a = 131 ∨ (chkE a = 0 ∧ chkE b = 131) := by
    unfold chkE
    cases ha : chkF (-1) a <;> cases hb : chkF (-1) b <;> rw [ha, hb] at hc <;> simp at hc ⊢
  have T3 : Hid _ := Tal3.new w (hi64 c) (lo64 c) (hi64 e) (lo64 e) (hi64 k) (lo64 k) ad n ca (hi64 c') (lo64 c') (hi64 e') (lo64 e') (hi64 k') (lo64 k') bd m cb
  unfold talV TalN
  rw [talV_zero]
  generalize (hi64 c : Int) = x0 at *
  generalize (lo64 c : Int) = x1 at *
  generalize (hi64 e : Int) = x2 at *
  generalize (lo64 e : Int) = x3 at *
  generalize (hi64 k : Int) = x4 at *
  generalize (lo64 k : Int) = x5 at *
  generalize (hi64 c' : Int) = y0 at *
  generalize (lo64 c' : Int) = y1 at *
  generalize (hi64 e' : Int) = y2 at *
  generalize (lo64 e' : Int) = y3 at *
  generalize (hi64 k' : Int) = y4 at *
  generalize (lo64 k' : Int) = y5 at *
  clear hA hB hc
  generalize chkE a = E1 at *
  generalize chkE b = E2 at *
  simp only [talL] at T3 ⊢
  rcases hz with rfl | ⟨rfl, rfl⟩
  all_goals go_enter Tryz.func17, Tryz.ntmps17
  all_goals go_wp2_with (first
    | (go_at_call 39; (with_reducible refine (KA _ (B3 _ _ _)).mono ?_); rintro x w1 ⟨rfl, b1⟩; have HB1 : Hid (Below w.heap.size w w1) := (B3 _ _ _).trans (b1.mono (B3 _ _ _).size); have U1 : Hid _ := Tal3.below T3.out b1; obtain ⟨q0, q1, q2, q3, q4, q5, q6, q7, q8, q9, q10, q11⟩ := U1.out.two.cells; have s1 : w1.cell? ⟨w.heap.size, 6, none⟩ = some (.slice ad n ca) := Blk.cell U1.out.two.one 6 rfl; have s2 : w1.cell? ⟨w.heap.size + 1, 6, none⟩ = some (.slice bd m cb) := Blk.cell U1.out.two.two 6 rfl; clear KA; clear b1)
    | (go_at_call 39; (with_reducible refine (KB _ HB1.out).mono ?_); rintro x w2 ⟨rfl, b2⟩; have HB2 : Hid (Below w.heap.size w w2) := HB1.out.trans (b2.mono HB1.out.size); have U2 : Hid _ := Tal3.below U1.out b2; clear q0 q1 q2 q3 q4 q5 q6 q7 q8 q9 q10 q11 s1 s2; obtain ⟨q0, q1, q2, q3, q4, q5, q6, q7, q8, q9, q10, q11⟩ := U2.out.two.cells; have s1 : w2.cell? ⟨w.heap.size, 6, none⟩ = some (.slice ad n ca) := Blk.cell U2.out.two.one 6 rfl; have s2 : w2.cell? ⟨w.heap.size + 1, 6, none⟩ = some (.slice bd m cb) := Blk.cell U2.out.two.two 6 rfl; clear KB; clear b2)
    | (refine wpList_stW rfl 39 _ _ rfl (w.heap.size + 1 + 1) (talL 0 0 0 0 0 0 none 0 0) (talL 0 0 0 0 0 0 none 0 0) 39 U2.out.res rfl rfl rfl (by kernel_rfl) talL_one ?_; intro w9 n9 u9))
  all_goals (try simp only [Exit.inBlock, Exit.then])
  all_goals refine bodyPost_ret (v := .tuple #[.agg (talL 0 0 0 0 0 0 none 0 0).toArray, .int .i64 131]) ?_ rfl ⟨rfl, HB2.out.trans (u9.below HB2.out.size (fun k hk e => by omega))⟩
  all_goals rw [results_cell_tmp rfl]
  all_goals have hld := blk_loadT n9
  all_goals simp [asAddr, Result.andThen, hld]
set_option maxHeartbeats 4000000 in
theorem rMinus_gen (ad bd : Option Addr) (n m ca cb : Nat) (f g : Nat → Nat) (c e k c' e' k' : Nat) (w : World) (hA : SkAt w ad n f) (hB : SkAt w bd m g) (E : Int) (X Y Z : Bool) (hz : E = 134 ∨ (E = 0 ∧ (X = true ∨ (X = false ∧ (Y = true ∨ (Y = false ∧ Z = true))))))
    (MG : ∀ W, Below w.heap.size w W → Calls Tryz.prog 40 #[.slice ad n ca, .slice bd m cb] W fun x w' => ∃ mo N cm, x = .returned (.tuple #[.slice mo N cm, .int .i64 E]) ∧ Below W.heap.size W w') (H1 : ∀ W, Calls Tryz.prog 41 #[natV c, natV c'] W fun x w' => x = .returned (.bool X) ∧ Below W.heap.size W w') (H2 : ∀ W, Calls Tryz.prog 41 #[natV e, natV e'] W fun x w' => x = .returned (.bool Y) ∧ Below W.heap.size W w') (H3 : ∀ W, Calls Tryz.prog 41 #[natV k, natV k'] W fun x w' => x = .returned (.bool Z) ∧ Below W.heap.size W w') :
    Calls Tryz.prog 17 #[talV c e k ad n ca, talV c' e' k' bd m cb] w (TalN 141 w) := by
  have B3 : ∀ o1 o2 o3 : Obj, Below w.heap.size w (((w.alloc o1).alloc o2).alloc o3) := fun o1 o2 o3 => ((((Below.refl _ _).alloc (Nat.le_refl _) _).alloc (by simp) _).alloc (by simp; omega) _)
  have KA := fun W (h : Below w.heap.size w W) => rCheck ad n ca (barsF f) W (hA.below h).at_
  have KB := fun W (h : Below w.heap.size w W) => rCheck bd m cb (barsF g) W (hB.below h).at_
  simp only [chkE_ok (barsF_chk f)] at KA
  simp only [chkE_ok (barsF_chk g)] at KB
  have T3 : Hid _ := Tal3.new w (hi64 c) (lo64 c) (hi64 e) (lo64 e) (hi64 k) (lo64 k) ad n ca (hi64 c') (lo64 c') (hi64 e') (lo64 e') (hi64 k') (lo64 k') bd m cb
  unfold natV at H1 H2 H3
  unfold talV TalN
  rw [talV_zero]
  generalize (hi64 c : Int) = x0 at *
  generalize (lo64 c : Int) = x1 at *
  generalize (hi64 e : Int) = x2 at *
  generalize (lo64 e : Int) = x3 at *
  generalize (hi64 k : Int) = x4 at *
  generalize (lo64 k : Int) = x5 at *
  generalize (hi64 c' : Int) = y0 at *
  generalize (lo64 c' : Int) = y1 at *
  generalize (hi64 e' : Int) = y2 at *
  generalize (lo64 e' : Int) = y3 at *
  generalize (hi64 k' : Int) = y4 at *
  generalize (lo64 k' : Int) = y5 at *
  clear hA hB
  simp only [talL] at T3 ⊢
  rcases hz with rfl | ⟨rfl, rfl | ⟨rfl, rfl | ⟨rfl, rfl⟩⟩⟩
  all_goals go_enter Tryz.func17, Tryz.ntmps17
  all_goals go_wp2_with (first
    | (go_at_call 39; (with_reducible refine (KA _ (B3 _ _ _)).mono ?_); rintro x w1 ⟨rfl, b1⟩; have HB1 : Hid (Below w.heap.size w w1) := (B3 _ _ _).trans (b1.mono (B3 _ _ _).size); have U1 : Hid _ := Tal3.below T3.out b1; obtain ⟨q0, q1, q2, q3, q4, q5, q6, q7, q8, q9, q10, q11⟩ := U1.out.two.cells; have s1 : w1.cell? ⟨w.heap.size, 6, none⟩ = some (.slice ad n ca) := Blk.cell U1.out.two.one 6 rfl; have s2 : w1.cell? ⟨w.heap.size + 1, 6, none⟩ = some (.slice bd m cb) := Blk.cell U1.out.two.two 6 rfl; clear KA; clear b1)
    | (go_at_call 39; (with_reducible refine (KB _ HB1.out).mono ?_); rintro x w2 ⟨rfl, b2⟩; have HB2 : Hid (Below w.heap.size w w2) := HB1.out.trans (b2.mono HB1.out.size); have U2 : Hid _ := Tal3.below U1.out b2; clear q0 q1 q2 q3 q4 q5 q6 q7 q8 q9 q10 q11 s1 s2; obtain ⟨q0, q1, q2, q3, q4, q5, q6, q7, q8, q9, q10, q11⟩ := U2.out.two.cells; have s1 : w2.cell? ⟨w.heap.size, 6, none⟩ = some (.slice ad n ca) := Blk.cell U2.out.two.one 6 rfl; have s2 : w2.cell? ⟨w.heap.size + 1, 6, none⟩ = some (.slice bd m cb) := Blk.cell U2.out.two.two 6 rfl; clear KB; clear b2)
    | (go_at_call 40; (with_reducible refine (MG _ HB2.out).mono ?_); rintro x w3 ⟨mo, N, cm, rfl, b3⟩; have HB3 : Hid (Below w.heap.size w w3) := HB2.out.trans (b3.mono HB2.out.size); have U3 : Hid _ := Tal3.below U2.out b3; clear q0 q1 q2 q3 q4 q5 q6 q7 q8 q9 q10 q11 s1 s2; obtain ⟨q0, q1, q2, q3, q4, q5, q6, q7, q8, q9, q10, q11⟩ := U3.out.two.cells; have s1 : w3.cell? ⟨w.heap.size, 6, none⟩ = some (.slice ad n ca) := Blk.cell U3.out.two.one 6 rfl; have s2 : w3.cell? ⟨w.heap.size + 1, 6, none⟩ = some (.slice bd m cb) := Blk.cell U3.out.two.two 6 rfl; clear MG; clear b3)
    | (go_at_call 41; (with_reducible refine (H1 _).mono ?_); rintro x w4 ⟨rfl, b4⟩; have HB4 : Hid (Below w.heap.size w w4) := HB3.out.trans (b4.mono HB3.out.size); have U4 : Hid _ := Tal3.below U3.out b4; clear q0 q1 q2 q3 q4 q5 q6 q7 q8 q9 q10 q11 s1 s2; obtain ⟨q0, q1, q2, q3, q4, q5, q6, q7, q8, q9, q10, q11⟩ := U4.out.two.cells; have s1 : w4.cell? ⟨w.heap.size, 6, none⟩ = some (.slice ad n ca) := Blk.cell U4.out.two.one 6 rfl; have s2 : w4.cell? ⟨w.heap.size + 1, 6, none⟩ = some (.slice bd m cb) := Blk.cell U4.out.two.two 6 rfl; clear H1; clear b4)
    | (go_at_call 41; (with_reducible refine (H2 _).mono ?_); rintro x w5 ⟨rfl, b5⟩; have HB5 : Hid (Below w.heap.size w w5) := HB4.out.trans (b5.mono HB4.out.size); have U5 : Hid _ := Tal3.below U4.out b5; clear q0 q1 q2 q3 q4 q5 q6 q7 q8 q9 q10 q11 s1 s2; obtain ⟨q0, q1, q2, q3, q4, q5, q6, q7, q8, q9, q10, q11⟩ := U5.out.two.cells; have s1 : w5.cell? ⟨w.heap.size, 6, none⟩ = some (.slice ad n ca) := Blk.cell U5.out.two.one 6 rfl; have s2 : w5.cell? ⟨w.heap.size + 1, 6, none⟩ = some (.slice bd m cb) := Blk.cell U5.out.two.two 6 rfl; clear H2; clear b5)
    | (go_at_call 41; (with_reducible refine (H3 _).mono ?_); rintro x w6 ⟨rfl, b6⟩; have HB6 : Hid (Below w.heap.size w w6) := HB5.out.trans (b6.mono HB5.out.size); have U6 : Hid _ := Tal3.below U5.out b6; clear q0 q1 q2 q3 q4 q5 q6 q7 q8 q9 q10 q11 s1 s2; obtain ⟨q0, q1, q2, q3, q4, q5, q6, q7, q8, q9, q10, q11⟩ := U6.out.two.cells; have s1 : w6.cell? ⟨w.heap.size, 6, none⟩ = some (.slice ad n ca) := Blk.cell U6.out.two.one 6 rfl; have s2 : w6.cell? ⟨w.heap.size + 1, 6, none⟩ = some (.slice bd m cb) := Blk.cell U6.out.two.two 6 rfl; clear H3; clear b6)
    | (refine wpList_stW rfl 39 _ _ rfl (w.heap.size + 1 + 1) (talL 0 0 0 0 0 0 none 0 0) (talL 0 0 0 0 0 0 none 0 0) 39 U6.out.res rfl rfl rfl (by kernel_rfl) talL_one ?_; intro w9 n9 u9))
  all_goals (try simp only [Exit.inBlock, Exit.then])
  all_goals refine bodyPost_ret (v := .tuple #[.agg (talL 0 0 0 0 0 0 none 0 0).toArray, .int .i64 141]) ?_ rfl ⟨rfl, HB6.out.trans (u9.below HB6.out.size (fun k hk e => by omega))⟩
  all_goals rw [results_cell_tmp rfl]
  all_goals have hld := blk_loadT n9
  all_goals simp [asAddr, Result.andThen, hld]
set_option maxHeartbeats 4000000 in
theorem rMinus_ok (ad bd : Option Addr) (n m ca cb : Nat) (f g : Nat → Nat) (c e k c' e' k' : Nat) (w : World) (hA : SkAt w ad n f) (hB : SkAt w bd m g) (b1 : c ≤ top128) (b2 : e ≤ top128) (b3 : k ≤ top128) (b4 : c' ≤ c) (b5 : e' ≤ e) (b6 : k' ≤ k) (hle : ∀ i, i < 1920 → g i ≤ f i) :
    Calls Tryz.prog 17 #[talV c e k ad n ca, talV c' e' k' bd m cb] w (TalP (c - c') (e - e') (k - k') (fun i => f i - g i) w) := by
  have B3 : ∀ o1 o2 o3 : Obj, Below w.heap.size w (((w.alloc o1).alloc o2).alloc o3) := fun o1 o2 o3 => ((((Below.refl _ _).alloc (Nat.le_refl _) _).alloc (by simp) _).alloc (by simp; omega) _)
  have KA := fun W (h : Below w.heap.size w W) => rCheck ad n ca (barsF f) W (hA.below h).at_
  have KB := fun W (h : Below w.heap.size w W) => rCheck bd m cb (barsF g) W (hB.below h).at_
  simp only [chkE_ok (barsF_chk f)] at KA
  simp only [chkE_ok (barsF_chk g)] at KB
  have MG := fun W (h : Below w.heap.size w W) => rLess_skQ ad bd n m ca cb f g W (hA.below h) (hB.below h) hle
  have T3 : Hid _ := Tal3.new w (hi64 c) (lo64 c) (hi64 e) (lo64 e) (hi64 k) (lo64 k) ad n ca (hi64 c') (lo64 c') (hi64 e') (lo64 e') (hi64 k') (lo64 k') bd m cb
  have P1 := fun W => rSub c c' b4 b1 W
  have H1 := fun W => rBelow c c' W
  rw [show decide (c < c') = false from decide_eq_false (Nat.not_lt.2 b4)] at H1
  have P2 := fun W => rSub e e' b5 b2 W
  have H2 := fun W => rBelow e e' W
  rw [show decide (e < e') = false from decide_eq_false (Nat.not_lt.2 b5)] at H2
  have P3 := fun W => rSub k k' b6 b3 W
  have H3 := fun W => rBelow k k' W
  rw [show decide (k < k') = false from decide_eq_false (Nat.not_lt.2 b6)] at H3
  unfold natV at P1 P2 P3 H1 H2 H3
  unfold TalP talV
  clear hA hB b1 b2 b3 b4 b5 b6 hle
  generalize (hi64 c : Int) = x0 at *
  generalize (lo64 c : Int) = x1 at *
  generalize (hi64 e : Int) = x2 at *
  generalize (lo64 e : Int) = x3 at *
  generalize (hi64 k : Int) = x4 at *
  generalize (lo64 k : Int) = x5 at *
  generalize (hi64 c' : Int) = y0 at *
  generalize (lo64 c' : Int) = y1 at *
  generalize (hi64 e' : Int) = y2 at *
  generalize (lo64 e' : Int) = y3 at *
  generalize (hi64 k' : Int) = y4 at *
  generalize (lo64 k' : Int) = y5 at *
  generalize (hi64 (c - c') : Int) = z0 at *
  generalize (lo64 (c - c') : Int) = z1 at *
  generalize (hi64 (e - e') : Int) = z2 at *
  generalize (lo64 (e - e') : Int) = z3 at *
  generalize (hi64 (k - k') : Int) = z4 at *
  generalize (lo64 (k - k') : Int) = z5 at *
  simp only [talL] at T3 ⊢
  go_enter Tryz.func17, Tryz.ntmps17
  go_wp2_with (first
    | (go_at_call 39; (with_reducible refine (KA _ (B3 _ _ _)).mono ?_); rintro x w1 ⟨rfl, b1⟩; have HB1 : Hid (Below w.heap.size w w1) := (B3 _ _ _).trans (b1.mono (B3 _ _ _).size); have U1 : Hid _ := Tal3.below T3.out b1; obtain ⟨q0, q1, q2, q3, q4, q5, q6, q7, q8, q9, q10, q11⟩ := U1.out.two.cells; have s1 : w1.cell? ⟨w.heap.size, 6, none⟩ = some (.slice ad n ca) := Blk.cell U1.out.two.one 6 rfl; have s2 : w1.cell? ⟨w.heap.size + 1, 6, none⟩ = some (.slice bd m cb) := Blk.cell U1.out.two.two 6 rfl; clear KA; clear b1)
    | (go_at_call 39; (with_reducible refine (KB _ HB1.out).mono ?_); rintro x w2 ⟨rfl, b2⟩; have HB2 : Hid (Below w.heap.size w w2) := HB1.out.trans (b2.mono HB1.out.size); have U2 : Hid _ := Tal3.below U1.out b2; clear q0 q1 q2 q3 q4 q5 q6 q7 q8 q9 q10 q11 s1 s2; obtain ⟨q0, q1, q2, q3, q4, q5, q6, q7, q8, q9, q10, q11⟩ := U2.out.two.cells; have s1 : w2.cell? ⟨w.heap.size, 6, none⟩ = some (.slice ad n ca) := Blk.cell U2.out.two.one 6 rfl; have s2 : w2.cell? ⟨w.heap.size + 1, 6, none⟩ = some (.slice bd m cb) := Blk.cell U2.out.two.two 6 rfl; clear KB; clear b2)
    | (go_at_call 40; (with_reducible refine (MG _ HB2.out).mono ?_); rintro x w3 ⟨mo, N, cm, rfl, HM, b3, HO⟩; have HB3 : Hid (Below w.heap.size w w3) := HB2.out.trans (b3.mono HB2.out.size); have U3 : Hid _ := Tal3.below U2.out b3; clear q0 q1 q2 q3 q4 q5 q6 q7 q8 q9 q10 q11 s1 s2; obtain ⟨q0, q1, q2, q3, q4, q5, q6, q7, q8, q9, q10, q11⟩ := U3.out.two.cells; have s1 : w3.cell? ⟨w.heap.size, 6, none⟩ = some (.slice ad n ca) := Blk.cell U3.out.two.one 6 rfl; have s2 : w3.cell? ⟨w.heap.size + 1, 6, none⟩ = some (.slice bd m cb) := Blk.cell U3.out.two.two 6 rfl; clear MG; clear b3)
    | (go_at_call 41; (with_reducible refine (H1 _).mono ?_); rintro x w4 ⟨rfl, b4⟩; have HB4 : Hid (Below w.heap.size w w4) := HB3.out.trans (b4.mono HB3.out.size); have U4 : Hid _ := Tal3.below U3.out b4; clear q0 q1 q2 q3 q4 q5 q6 q7 q8 q9 q10 q11 s1 s2; obtain ⟨q0, q1, q2, q3, q4, q5, q6, q7, q8, q9, q10, q11⟩ := U4.out.two.cells; have s1 : w4.cell? ⟨w.heap.size, 6, none⟩ = some (.slice ad n ca) := Blk.cell U4.out.two.one 6 rfl; have s2 : w4.cell? ⟨w.heap.size + 1, 6, none⟩ = some (.slice bd m cb) := Blk.cell U4.out.two.two 6 rfl; have HM4 : Hid _ := SkAt.below HM.out b4; have HO4 : Hid _ := OwnBar.below HO.out b4; clear H1; clear b4)
    | (go_at_call 41; (with_reducible refine (H2 _).mono ?_); rintro x w5 ⟨rfl, b5⟩; have HB5 : Hid (Below w.heap.size w w5) := HB4.out.trans (b5.mono HB4.out.size); have U5 : Hid _ := Tal3.below U4.out b5; clear q0 q1 q2 q3 q4 q5 q6 q7 q8 q9 q10 q11 s1 s2; obtain ⟨q0, q1, q2, q3, q4, q5, q6, q7, q8, q9, q10, q11⟩ := U5.out.two.cells; have s1 : w5.cell? ⟨w.heap.size, 6, none⟩ = some (.slice ad n ca) := Blk.cell U5.out.two.one 6 rfl; have s2 : w5.cell? ⟨w.heap.size + 1, 6, none⟩ = some (.slice bd m cb) := Blk.cell U5.out.two.two 6 rfl; have HM5 : Hid _ := SkAt.below HM4.out b5; have HO5 : Hid _ := OwnBar.below HO4.out b5; clear H2; clear b5)
    | (go_at_call 41; (with_reducible refine (H3 _).mono ?_); rintro x w6 ⟨rfl, b6⟩; have HB6 : Hid (Below w.heap.size w w6) := HB5.out.trans (b6.mono HB5.out.size); have U6 : Hid _ := Tal3.below U5.out b6; clear q0 q1 q2 q3 q4 q5 q6 q7 q8 q9 q10 q11 s1 s2; obtain ⟨q0, q1, q2, q3, q4, q5, q6, q7, q8, q9, q10, q11⟩ := U6.out.two.cells; have s1 : w6.cell? ⟨w.heap.size, 6, none⟩ = some (.slice ad n ca) := Blk.cell U6.out.two.one 6 rfl; have s2 : w6.cell? ⟨w.heap.size + 1, 6, none⟩ = some (.slice bd m cb) := Blk.cell U6.out.two.two 6 rfl; have HM6 : Hid _ := SkAt.below HM5.out b6; have HO6 : Hid _ := OwnBar.below HO5.out b6; clear H3; clear b6))
  clear q0 q1 q2 q3 q4 q5 q6 q7 q8 q9 q10 q11 s1 s2
  have hw2 := Blk.lt U2.out.res
  refine wp_region_held (S := fun W => Tal2 W w.heap.size x0 x1 x2 x3 x4 x5 ad n ca y0 y1 y2 y3 y4 y5 bd m cb) (by kernel_rfl) ?_
  change wpAnyH _ _ _ _ _ _ _ _ (World.drew _)
  have hS0 : Tal2 w6.drew w.heap.size x0 x1 x2 x3 x4 x5 ad n ca y0 y1 y2 y3 y4 y5 bd m cb := ⟨U6.out.two.one, U6.out.two.two⟩
  refine takeC (i := 0) (v := .pointer (some ⟨w.heap.size, 0, none⟩)) rfl (by kernel_rfl) (by kernel_rfl) (by kernel_rfl) (fun _ _ _ h => h) (Or.inl ⟨by rfl, fun W hW => by go_simp⟩) hS0 ?_
  simp only [Act.put, List.setIfInBounds_toArray, List.set_cons_zero, List.set_cons_succ]
  refine takeC (i := 1) (v := .agg [.int .u64 x0, .int .u64 x1].toArray) rfl (by kernel_rfl) (by kernel_rfl) (by kernel_rfl) (fun _ _ _ h => h) (yieldsIf_load_mid (by rfl) 36 _ rfl (w.heap.size) 0 rfl [.int .u64 x0, .int .u64 x1] _ (fun W hW => range2 hW.one 0 rfl rfl) Tryz.underlying36 rfl (by kernel_rfl)) hS0 ?_
  simp only [Act.put, List.setIfInBounds_toArray, List.set_cons_zero, List.set_cons_succ]
  refine takeC (i := 2) (v := .pointer (some ⟨w.heap.size + 1, 0, none⟩)) rfl (by kernel_rfl) (by kernel_rfl) (by kernel_rfl) (fun _ _ _ h => h) (Or.inl ⟨by rfl, fun W hW => by go_simp⟩) hS0 ?_
  simp only [Act.put, List.setIfInBounds_toArray, List.set_cons_zero, List.set_cons_succ]
  refine takeC (i := 3) (v := .agg [.int .u64 y0, .int .u64 y1].toArray) rfl (by kernel_rfl) (by kernel_rfl) (by kernel_rfl) (fun _ _ _ h => h) (yieldsIf_load_mid (by rfl) 36 _ rfl (w.heap.size + 1) 0 rfl [.int .u64 y0, .int .u64 y1] _ (fun W hW => range2 hW.two 0 rfl rfl) Tryz.underlying36 rfl (by kernel_rfl)) hS0 ?_
  simp only [Act.put, List.setIfInBounds_toArray, List.set_cons_zero, List.set_cons_succ]
  refine takeC (i := 5) (v := .pointer (some ⟨w.heap.size, 2, none⟩)) rfl (by kernel_rfl) (by kernel_rfl) (by kernel_rfl) (fun _ _ _ h => h) (Or.inl ⟨by rfl, fun W hW => by go_simp⟩) hS0 ?_
  simp only [Act.put, List.setIfInBounds_toArray, List.set_cons_zero, List.set_cons_succ]
  refine takeC (i := 6) (v := .agg [.int .u64 x2, .int .u64 x3].toArray) rfl (by kernel_rfl) (by kernel_rfl) (by kernel_rfl) (fun _ _ _ h => h) (yieldsIf_load_mid (by rfl) 36 _ rfl (w.heap.size) 2 rfl [.int .u64 x2, .int .u64 x3] _ (fun W hW => range2 hW.one 2 rfl rfl) Tryz.underlying36 rfl (by kernel_rfl)) hS0 ?_
  simp only [Act.put, List.setIfInBounds_toArray, List.set_cons_zero, List.set_cons_succ]
  refine takeC (i := 7) (v := .pointer (some ⟨w.heap.size + 1, 2, none⟩)) rfl (by kernel_rfl) (by kernel_rfl) (by kernel_rfl) (fun _ _ _ h => h) (Or.inl ⟨by rfl, fun W hW => by go_simp⟩) hS0 ?_
  simp only [Act.put, List.setIfInBounds_toArray, List.set_cons_zero, List.set_cons_succ]
  refine takeC (i := 8) (v := .agg [.int .u64 y2, .int .u64 y3].toArray) rfl (by kernel_rfl) (by kernel_rfl) (by kernel_rfl) (fun _ _ _ h => h) (yieldsIf_load_mid (by rfl) 36 _ rfl (w.heap.size + 1) 2 rfl [.int .u64 y2, .int .u64 y3] _ (fun W hW => range2 hW.two 2 rfl rfl) Tryz.underlying36 rfl (by kernel_rfl)) hS0 ?_
  simp only [Act.put, List.setIfInBounds_toArray, List.set_cons_zero, List.set_cons_succ]
  refine takeC (i := 10) (v := .pointer (some ⟨w.heap.size, 4, none⟩)) rfl (by kernel_rfl) (by kernel_rfl) (by kernel_rfl) (fun _ _ _ h => h) (Or.inl ⟨by rfl, fun W hW => by go_simp⟩) hS0 ?_
  simp only [Act.put, List.setIfInBounds_toArray, List.set_cons_zero, List.set_cons_succ]
  refine takeC (i := 11) (v := .agg [.int .u64 x4, .int .u64 x5].toArray) rfl (by kernel_rfl) (by kernel_rfl) (by kernel_rfl) (fun _ _ _ h => h) (yieldsIf_load_mid (by rfl) 36 _ rfl (w.heap.size) 4 rfl [.int .u64 x4, .int .u64 x5] _ (fun W hW => range2 hW.one 4 rfl rfl) Tryz.underlying36 rfl (by kernel_rfl)) hS0 ?_
  simp only [Act.put, List.setIfInBounds_toArray, List.set_cons_zero, List.set_cons_succ]
  refine takeC (i := 12) (v := .pointer (some ⟨w.heap.size + 1, 4, none⟩)) rfl (by kernel_rfl) (by kernel_rfl) (by kernel_rfl) (fun _ _ _ h => h) (Or.inl ⟨by rfl, fun W hW => by go_simp⟩) hS0 ?_
  simp only [Act.put, List.setIfInBounds_toArray, List.set_cons_zero, List.set_cons_succ]
  refine takeC (i := 13) (v := .agg [.int .u64 y4, .int .u64 y5].toArray) rfl (by kernel_rfl) (by kernel_rfl) (by kernel_rfl) (fun _ _ _ h => h) (yieldsIf_load_mid (by rfl) 36 _ rfl (w.heap.size + 1) 4 rfl [.int .u64 y4, .int .u64 y5] _ (fun W hW => range2 hW.two 4 rfl rfl) Tryz.underlying36 rfl (by kernel_rfl)) hS0 ?_
  simp only [Act.put, List.setIfInBounds_toArray, List.set_cons_zero, List.set_cons_succ]
  refine takeC (i := 15) (v := .slice mo N cm) rfl (by kernel_rfl) (by kernel_rfl) (by kernel_rfl) (fun _ _ _ h => h) (Or.inl ⟨by rfl, fun W hW => by go_simp⟩) hS0 ?_
  simp only [Act.put, List.setIfInBounds_toArray, List.set_cons_zero, List.set_cons_succ]
  refine onlyC (i := 4) rfl (by kernel_rfl) (fun K hK => ?_)
  go_simp
  go_at_call 42
  (with_reducible refine (P1 _).mono ?_)
  clear P1
  rintro x v2 ⟨rfl, b2⟩
  have hS1 := Tal2.below hS0 b2
  refine hK _ _ ⟨hS1, ?_⟩
  clear hK K
  refine onlyC (i := 9) rfl (by kernel_rfl) (fun K hK => ?_)
  go_simp
  go_at_call 42
  (with_reducible refine (P2 _).mono ?_)
  clear P2
  rintro x v3 ⟨rfl, b3⟩
  have hS2 := Tal2.below hS1 b3
  refine hK _ _ ⟨hS2, ?_⟩
  clear hK K
  refine onlyC (i := 14) rfl (by kernel_rfl) (fun K hK => ?_)
  go_simp
  go_at_call 42
  (with_reducible refine (P3 _).mono ?_)
  clear P3
  rintro x v4 ⟨rfl, b4⟩
  have hS3 := Tal2.below hS2 b4
  refine hK _ _ ⟨hS3, ?_⟩
  clear hK K
  refine takeC (i := 16) (v := .agg (talL z0 z1 z2 z3 z4 z5 mo N cm).toArray) rfl (by kernel_rfl) (by kernel_rfl) (by kernel_rfl) (fun _ _ _ h => h) (Or.inl ⟨by rfl, fun W hW => by go_simp; rfl⟩) hS3 ?_
  simp only [Act.put, List.setIfInBounds_toArray, List.set_cons_zero, List.set_cons_succ]
  have bb : Below w6.heap.size w6 v4 := ((Below.refl w6.heap.size w6).drew.trans b2).trans ((b3.mono b2.size).trans (b4.mono (Nat.le_trans b2.size b3.size)))
  refine onlyC (i := 17) rfl (by kernel_rfl) (fun K hK => ?_)
  refine step_stW (by rfl) 39 _ _ (by rfl) (w.heap.size + 1 + 1) (talL 0 0 0 0 0 0 none 0 0) (talL z0 z1 z2 z3 z4 z5 mo N cm) 39 (U6.out.res.below bb U6.out.res.lt) (by rfl) (by rfl) (by rfl) (by kernel_rfl) talL_one ?_
  intro v5 n5 u5
  have hS5 : Tal2 v5 w.heap.size x0 x1 x2 x3 x4 x5 ad n ca y0 y1 y2 y3 y4 y5 bd m cb := hS3.upd u5 (by omega) (by omega)
  refine hK _ _ ⟨hS5, ?_⟩
  clear hK K
  refine takeC (i := 18) (v := .int .i64 0) rfl (by kernel_rfl) (by kernel_rfl) (by kernel_rfl) (fun _ _ _ h => h) (Or.inl ⟨by rfl, fun W hW => by go_simp⟩) hS5 ?_
  simp only [Act.put, List.setIfInBounds_toArray, List.set_cons_zero, List.set_cons_succ]
  have HM5 : SkAt v5 mo N (fun i => f i - g i) := (HM6.out.below bb).upd u5 (fun a ha e => by have h2 := own_fresh HO6.out a ha; omega)
  have HO5 : OwnBar w.heap.size v5 (.slice mo N cm) (barsF (fun i => f i - g i)) := own_base ((OwnBar.below HO6.out bb).upd u5 (fun j hj e => by omega)) (by omega)
  have HB5 : Below w.heap.size w v5 := (HB6.out.trans (bb.mono HB6.out.size)).trans (u5.below (by have := HB6.out.size; have := bb.size; omega) (fun k hk e => by omega))
  refine wpAnyH_done (by kernel_rfl) ?_ _
  go_wp2
  (try simp only [Exit.inBlock, Exit.then])
  refine bodyPost_ret (v := .tuple #[.agg (talL z0 z1 z2 z3 z4 z5 mo N cm).toArray, .int .i64 0]) ?_ rfl ⟨mo, N, cm, rfl, HM5, HB5, HO5⟩
  rw [results_cell_tmp rfl]
  have hld := blk_loadT n5
  simp [asAddr, Result.andThen, hld]
end Go.Proofs.YtkpkdikogoalkaaGreatDoor.sk

namespace Go.Proofs.YtkpkdikogoalkaaGreatDoor.sk
open Go Go.RowKit
set_option maxRecDepth 100000

set_option maxHeartbeats 1000000 in
theorem rCap (n : Nat) (w : World) :
    Calls Tryz.prog 21 #[natV n] w fun e w' => e = .returned (.int .u64 (capN n : Int)) ∧ Below w.heap.size w w' := by
  have a := hilo n
  have b := lo64_lt n
  by_cases h : 0 < (hi64 n : Int)
  · have e : (capN n : Int) = 18446744073709551615 := by unfold capN; omega
    rw [e]
    clear e a b
    unfold natV
    generalize (hi64 n : Int) = x1 at *
    generalize (lo64 n : Int) = x0 at *
    go_enter Tryz.func21, Tryz.ntmps21
    go_wp2
    go_returns
    exact ⟨rfl, (Below.refl _ _).alloc (Nat.le_refl _) _⟩
  · have e : (capN n : Int) = (lo64 n : Int) := by unfold capN; omega
    have e1 : (hi64 n : Int) = 0 := by omega
    rw [e]
    clear e a b
    unfold natV
    rw [e1]
    clear e1 h
    generalize (lo64 n : Int) = x0 at *
    go_enter Tryz.func21, Tryz.ntmps21
    go_wp2
    go_returns
    exact ⟨rfl, (Below.refl _ _).alloc (Nat.le_refl _) _⟩
theorem rLess_not (ao bo : Option Addr) (L M ca cb : Nat) (f g : Nat → Nat) (w : World) (h : SkAt w ao L f) (k : SkAt w bo M g) (hle : ∃ i, i < 1920 ∧ f i < g i) :
    Calls Tryz.prog 40 #[.slice ao L ca, .slice bo M cb] w fun e w' => e = .returned (.tuple #[.slice none 0 0, .int .i64 134]) ∧ Below w.heap.size w w' := by
  refine (refLess_ok ao bo L M ca cb (barsF f) (barsF g) w h.at_ k.at_ (barsF_chk f) (barsF_chk g)).mono fun e w' hm => ?_
  obtain ⟨i, hi, hl⟩ := hle
  have er := takeL_none (f := cntF (barsF f)) (by omega) (barsF_chk g) ⟨i, by rw [barsF_cnt f hi, barsF_cnt g hi]; exact hl⟩
  unfold lessR at hm
  rw [er] at hm
  exact ⟨hm.2, hm.1⟩
/-- The reference's Minus refuses what is not there. -/
theorem rMinus_not (ad bd : Option Addr) (n m ca cb : Nat) (f g : Nat → Nat) (c e k c' e' k' : Nat) (w : World) (hA : SkAt w ad n f) (hB : SkAt w bd m g) (h : ¬ ((∀ i, i < 1920 → g i ≤ f i) ∧ c' ≤ c ∧ e' ≤ e ∧ k' ≤ k)) :
    Calls Tryz.prog 17 #[talV c e k ad n ca, talV c' e' k' bd m cb] w (TalN 141 w) := by
  by_cases h0 : ∀ i, i < 1920 → g i ≤ f i
  · refine rMinus_gen ad bd n m ca cb f g c e k c' e' k' w hA hB 0 (decide (c < c')) (decide (e < e')) (decide (k < k')) (Or.inr ⟨rfl, ?_⟩) (fun W hW => ?_) (fun W => rBelow c c' W) (fun W => rBelow e e' W) (fun W => rBelow k k' W)
    · by_cases h1 : c < c'
      · exact Or.inl (decide_eq_true h1)
      · refine Or.inr ⟨decide_eq_false h1, ?_⟩
        by_cases h2 : e < e'
        · exact Or.inl (decide_eq_true h2)
        · exact Or.inr ⟨decide_eq_false h2, decide_eq_true (Nat.lt_of_not_le fun h3 => h ⟨h0, by omega, by omega, h3⟩)⟩
    · refine (rLess_skQ ad bd n m ca cb f g W (hA.below hW) (hB.below hW) h0).mono fun x w' hx => ?_
      obtain ⟨ao, L, cc, h1, _, h3, _⟩ := hx
      exact ⟨ao, L, cc, h1, h3⟩
  · obtain ⟨i, hi⟩ := Classical.not_forall.1 h0
    obtain ⟨hi, hn⟩ := Classical.not_imp.1 hi
    refine rMinus_gen ad bd n m ca cb f g c e k c' e' k' w hA hB 134 (decide (c < c')) (decide (e < e')) (decide (k < k')) (Or.inl rfl) (fun W hW => ?_) (fun W => rBelow c c' W) (fun W => rBelow e e' W) (fun W => rBelow k k' W)
    refine (rLess_not ad bd n m ca cb f g W (hA.below hW) (hB.below hW) ⟨i, hi, by omega⟩).mono fun x w' hx => ?_
    exact ⟨none, 0, 0, hx.1, hx.2⟩
end Go.Proofs.YtkpkdikogoalkaaGreatDoor.sk

namespace Go.Proofs.YtkpkdikogoalkaaGreatDoor.sk
open Go Go.RowKit
set_option maxRecDepth 100000

set_option maxHeartbeats 4000000 in
theorem rOne (x : Cal) (hx : 0 ≤ x.2.2.2.2 ∧ x.2.2.2.2 < 18446744073709551616) (w : World) :
    Calls Tryz.prog 18 #[calV x] w (OneP x w) := by
  have HE : Hid (∀ w' g, Blk w' g #[.int .i64 (idxN (tookN x) : Int), .int .u64 1] 50 → w.heap.size ≤ g → Below w.heap.size w w' → OneP x w (.returned (.agg (talL 0 1 0 (failI x.2.2.2.1) 0 x.2.2.2.2 (some ⟨g, 0, none⟩) 1 1).toArray)) w') := fun w' g h1 h2 h3 => one_end x w w' g hx h1 h2 h3
  have IX := refIndex (tookN x) (by unfold tookN; omega)
  rw [show ((tookN x : Nat) : Int) = x.2.2.2.2 by unfold tookN; omega] at IX
  generalize OneP x w = R at *
  generalize (idxN (tookN x) : Int) = ix at *
  obtain ⟨h, s, t, f, k⟩ := x
  simp only at hx HE IX
  unfold calV
  clear hx
  obtain ⟨V, hV⟩ : ∃ V, (w.alloc (.cells (calL (h, s, t, f, k)).toArray 32)).alloc (.cells (talL 0 0 0 0 0 0 none 0 0).toArray 39) = V := ⟨_, rfl⟩
  have HC : Hid (Blk V w.heap.size (calL (h, s, t, f, k)).toArray 32) := by rw [← hV]; exact (Blk.new _ _ _).alloc _
  have HR : Hid (Blk V (w.heap.size + 1) (talL 0 0 0 0 0 0 none 0 0).toArray 39) := by
    rw [← hV]
    have := Blk.new (w.alloc (.cells (calL (h, s, t, f, k)).toArray 32)) (talL 0 0 0 0 0 0 none 0 0).toArray 39
    rw [World.size_alloc] at this
    exact this
  have HBV : Hid (Below w.heap.size w V) := by rw [← hV]; exact ((Below.refl _ _).alloc (Nat.le_refl _) _).alloc (by simp) _
  have HZ : Hid (V.heap.size = w.heap.size + 2) := by
    have : V.heap.size = w.heap.size + 2 := by rw [← hV]; simp
    exact this
  simp only [calL, talL] at hV ⊢
  go_enter Tryz.func18, Tryz.ntmps18
  go_wp2
  refine wp_region_held (S := fun W => Blk W w.heap.size (calL (h, s, t, f, k)).toArray 32) (by kernel_rfl) ?_
  change wpAnyH _ _ _ _ _ _ _ _ (World.drew _)
  have hS0 : Blk V.drew w.heap.size (calL (h, s, t, f, k)).toArray 32 := HC.out
  have HRd : Hid (Blk V.drew (w.heap.size + 1) (talL 0 0 0 0 0 0 none 0 0).toArray 39) := HR.out
  have HBd : Hid (Below w.heap.size w V.drew) := HBV.out.drew
  have SZd : Hid (w.heap.size + 2 ≤ V.drew.heap.size) := Nat.le_of_eq HZ.out.symm
  obtain ⟨Vd, hVd⟩ : ∃ X, V.drew = X := ⟨_, rfl⟩
  rw [hVd] at hS0 HRd HBd SZd ⊢
  clear hVd hV HC HR HBV HZ
  refine takeC (i := 0) (v := .agg #[.int .u64 0, .int .u64 1]) rfl (by kernel_rfl) (by kernel_rfl) (by kernel_rfl) (fun _ _ _ h => h) (Or.inl ⟨by rfl, fun W hW => by go_simp⟩) hS0 ?_
  simp only [Act.put, List.setIfInBounds_toArray, List.set_cons_zero, List.set_cons_succ]
  refine takeC (i := 1) (v := .pointer (some ⟨w.heap.size, 4, none⟩)) rfl (by kernel_rfl) (by kernel_rfl) (by kernel_rfl) (fun _ _ _ h => h) (Or.inl ⟨by rfl, fun W hW => by go_simp⟩) hS0 ?_
  simp only [Act.put, List.setIfInBounds_toArray, List.set_cons_zero, List.set_cons_succ]
  refine takeC (i := 2) (v := .int .u64 k) rfl (by kernel_rfl) (by kernel_rfl) (by kernel_rfl) (fun _ _ _ h => h) (Or.inl ⟨by rfl, fun W hW => by have hW4 : W.cell? ⟨w.heap.size, 4, none⟩ = some (.int .u64 k) := Blk.cell hW 4 rfl; clear hW; go_simp⟩) hS0 ?_
  simp only [Act.put, List.setIfInBounds_toArray, List.set_cons_zero, List.set_cons_succ]
  refine takeC (i := 3) (v := .agg #[.int .u64 0, .int .u64 k]) rfl (by kernel_rfl) (by kernel_rfl) (by kernel_rfl) (fun _ _ _ h => h) (Or.inl ⟨by rfl, fun W hW => by go_simp⟩) hS0 ?_
  simp only [Act.put, List.setIfInBounds_toArray, List.set_cons_zero, List.set_cons_succ]
  refine takeC (i := 4) (v := .pointer (some ⟨w.heap.size, 4, none⟩)) rfl (by kernel_rfl) (by kernel_rfl) (by kernel_rfl) (fun _ _ _ h => h) (Or.inl ⟨by rfl, fun W hW => by go_simp⟩) hS0 ?_
  simp only [Act.put, List.setIfInBounds_toArray, List.set_cons_zero, List.set_cons_succ]
  refine takeC (i := 5) (v := .int .u64 k) rfl (by kernel_rfl) (by kernel_rfl) (by kernel_rfl) (fun _ _ _ h => h) (Or.inl ⟨by rfl, fun W hW => by have hW4 : W.cell? ⟨w.heap.size, 4, none⟩ = some (.int .u64 k) := Blk.cell hW 4 rfl; clear hW; go_simp⟩) hS0 ?_
  simp only [Act.put, List.setIfInBounds_toArray, List.set_cons_zero, List.set_cons_succ]
  refine twoC (i := 6) (j := 10) rfl rfl (by kernel_rfl) (fun K hK => ?_) (fun K hK => ?_)
  · go_simp
    go_at_call 43
    (with_reducible refine (IX _).mono ?_)
    rintro x w' ⟨rfl, hw⟩
    obtain rfl := hw.symm
    refine hK _ _ ⟨hS0, ?_⟩
    clear hK K
    refine takeC (i := 7) (v := .agg #[.int .i64 ix, .int .u64 1]) rfl (by kernel_rfl) (by kernel_rfl) (by kernel_rfl) (fun _ _ _ h => h) (Or.inl ⟨by rfl, fun W hW => by go_simp⟩) (hS0) ?_
    simp only [Act.put, List.setIfInBounds_toArray, List.set_cons_zero, List.set_cons_succ]
    refine twoC (i := 8) (j := 10) rfl rfl (by kernel_rfl) (fun K hK => ?_) (fun K hK => ?_)
    · go_simp
      generalize hw_1 : Vd.alloc (.cells [.int .i64 ix, .int .u64 1].toArray 50) = w_1
      have b_1 : Below Vd.heap.size Vd w_1 := by rw [← hw_1]; exact (Below.refl _ _).alloc (Nat.le_refl _) _
      have n_1 : Blk w_1 Vd.heap.size [.int .i64 ix, .int .u64 1].toArray 50 := by rw [← hw_1]; exact Blk.new _ _ _
      clear hw_1
      have S1 : Hid _ := Blk.below hS0 b_1 (Blk.lt hS0)
      have HR1 : Hid _ := Blk.below HRd.out b_1 (Blk.lt HRd.out)
      have HB1 : Hid _ := Below.trans HBd.out (Below.mono b_1 (Below.size HBd.out))
      have SZ1 : Hid _ := Nat.le_trans SZd.out (Below.size b_1)
      have ZZ_BAR : Hid (w.heap.size + 2 ≤ Vd.heap.size) := SZd.out
      refine hK _ _ ⟨S1.out, ?_⟩
      clear hK K
      refine takeC (i := 9) (v := .agg (talL 0 1 0 0 0 k (some ⟨Vd.heap.size, 0, none⟩) 1 1).toArray) rfl (by kernel_rfl) (by kernel_rfl) (by kernel_rfl) (fun _ _ _ h => h) (Or.inl ⟨by rfl, fun W hW => by go_simp; rfl⟩) (S1.out) ?_
      simp only [Act.put, List.setIfInBounds_toArray, List.set_cons_zero, List.set_cons_succ]
      refine onlyC (i := 10) rfl (by kernel_rfl) (fun K hK => ?_)
      go_simp
      generalize hw_2 : w_1.alloc (.cells [.int .u64 0, .int .u64 0, .int .u64 0, .int .u64 0, .int .u64 0, .int .u64 0, .slice none 0 0].toArray 39) = w_2
      have b_2 : Below w_1.heap.size w_1 w_2 := by rw [← hw_2]; exact (Below.refl _ _).alloc (Nat.le_refl _) _
      have n_2 : Blk w_2 w_1.heap.size [.int .u64 0, .int .u64 0, .int .u64 0, .int .u64 0, .int .u64 0, .int .u64 0, .slice none 0 0].toArray 39 := by rw [← hw_2]; exact Blk.new _ _ _
      clear hw_2
      have S2 : Hid _ := Blk.below S1.out b_2 (Blk.lt S1.out)
      have HR2 : Hid _ := Blk.below HR1.out b_2 (Blk.lt HR1.out)
      have HB2 : Hid _ := Below.trans HB1.out (Below.mono b_2 (Below.size HB1.out))
      have SZ2 : Hid _ := Nat.le_trans SZ1.out (Below.size b_2)
      have BAR2 : Hid _ := Blk.below n_1 b_2 (Blk.lt n_1)
      have LT2 : Hid (Vd.heap.size < w_1.heap.size) := Blk.lt n_1
      have ZZ_TAL : Hid (w.heap.size + 2 ≤ w_1.heap.size) := SZ1.out
      refine hK _ _ ⟨S2.out, ?_⟩
      clear hK K
      refine onlyC (i := 11) rfl (by kernel_rfl) (fun K hK => ?_)
      refine step_stW (by rfl) 39 _ _ (by rfl) (w_1.heap.size) [.int .u64 0, .int .u64 0, .int .u64 0, .int .u64 0, .int .u64 0, .int .u64 0, .slice none 0 0] (talL 0 1 0 0 0 k (some ⟨Vd.heap.size, 0, none⟩) 1 1) 39 (n_2) (by rfl) (by rfl) (by rfl) (by kernel_rfl) talL_one ?_
      intro v5 n5 u5
      have z1 := ZZ_BAR.out
      have z2 := ZZ_TAL.out
      have z3 := LT2.out
      have hS5 : Blk v5 w.heap.size (calL (h, s, t, f, k)).toArray 32 := Blk.upd S2.out u5 (by omega)
      have hR5 : Blk v5 (w.heap.size + 1) (talL 0 0 0 0 0 0 none 0 0).toArray 39 := Blk.upd HR2.out u5 (by omega)
      have hG5 : Blk v5 (Vd.heap.size) [.int .i64 ix, .int .u64 1].toArray 50 := Blk.upd BAR2.out u5 (by omega)
      have hB5 : Below w.heap.size w v5 := Below.trans HB2.out (u5.below (Below.size HB2.out) (fun j hj e => by omega))
      refine hK _ _ ⟨hS5, ?_⟩
      clear hK K
      refine wpAnyH_done (by kernel_rfl) ?_ _
      obtain ⟨tt, htt⟩ : ∃ tt, w_1.heap.size = tt := ⟨_, rfl⟩
      obtain ⟨gg, hgg⟩ : ∃ gg, Vd.heap.size = gg := ⟨_, rfl⟩
      rw [htt, hgg] at n5
      rw [htt] at z2
      rw [hgg] at hG5 z1
      have hne : gg ≠ tt := by omega
      (try rw [htt])
      (try rw [hgg])
      have HN5 : Hid _ := n5
      have HR5 : Hid _ := hR5
      have HG5 : Hid _ := hG5
      have HB5 : Hid _ := hB5
      clear n5 hR5 hG5 hB5 u5 z3 htt hgg
      cases f
      · have c3 : v5.cell? ⟨w.heap.size, 3, none⟩ = some (.bool false) := Blk.cell hS5 3 rfl
        clear hS5
        go_wp2_with (first | (refine wpList_load_mid rfl 39 _ rfl tt 0 rfl (talL 0 1 0 0 0 k (some ⟨gg, 0, none⟩) 1 1) _ (range13C HN5.out) Tryz.underlying39 rfl (by kernel_rfl) ?_) | (refine wpList_stW rfl 39 _ _ rfl (w.heap.size + 1) (talL 0 0 0 0 0 0 none 0 0) (talL 0 1 0 0 0 k (some ⟨gg, 0, none⟩) 1 1) 39 HR5.out rfl rfl rfl (by kernel_rfl) talL_one ?_; intro w9 n9 u9; have HG9 : Hid (Blk w9 gg [.int .i64 ix, .int .u64 1].toArray 50) := Blk.upd (HG5.out) u9 (by omega); have HB9 : Hid (Below w.heap.size w w9) := (HB5.out).trans (u9.below (HB5.out).size (fun j hj e => by omega))))
        (try simp only [Exit.inBlock, Exit.then])
        refine bodyPost_ret (v := .agg (talL 0 1 0 0 0 k (some ⟨gg, 0, none⟩) 1 1).toArray) ?_ rfl (HE.out w9 gg (HG9.out) (by omega) HB9.out)
        have hld := blk_loadT n9
        simp [results, Tryz.results18, asAddr, hld]
      · have c3 : v5.cell? ⟨w.heap.size, 3, none⟩ = some (.bool true) := Blk.cell hS5 3 rfl
        have c4 : v5.cell? ⟨tt, 3, none⟩ = some (.int .u64 0) := Blk.cell HN5.out 3 rfl
        have c5 := Blk.frozen HN5.out 3
        clear hS5
        have HN7 : Hid (Blk (v5.setCell ⟨tt, 3, none⟩ (.int .u64 1)) tt (talL 0 1 0 1 0 k (some ⟨gg, 0, none⟩) 1 1).toArray 39) := Blk.set HN5.out 3 (.int .u64 1)
        have HR7 : Hid (Blk (v5.setCell ⟨tt, 3, none⟩ (.int .u64 1)) (w.heap.size + 1) (talL 0 0 0 0 0 0 none 0 0).toArray 39) := Blk.other HR5.out _ _ (by show w.heap.size + 1 ≠ tt; omega)
        have HG7 : Hid (Blk (v5.setCell ⟨tt, 3, none⟩ (.int .u64 1)) gg [.int .i64 ix, .int .u64 1].toArray 50) := Blk.other HG5.out _ _ (by show gg ≠ tt; omega)
        have HB7 : Hid (Below w.heap.size w (v5.setCell ⟨tt, 3, none⟩ (.int .u64 1))) := (HB5.out).trans (((Upd.refl (fun j => j = tt) v5).setCell (fun _ => rfl) _).below (HB5.out).size (fun j hj e => by omega))
        go_wp2_with (first | (refine wpList_load_mid rfl 39 _ rfl tt 0 rfl (talL 0 1 0 1 0 k (some ⟨gg, 0, none⟩) 1 1) _ (range13C HN7.out) Tryz.underlying39 rfl (by kernel_rfl) ?_) | (refine wpList_stW rfl 39 _ _ rfl (w.heap.size + 1) (talL 0 0 0 0 0 0 none 0 0) (talL 0 1 0 1 0 k (some ⟨gg, 0, none⟩) 1 1) 39 HR7.out rfl rfl rfl (by kernel_rfl) talL_one ?_; intro w9 n9 u9; have HG9 : Hid (Blk w9 gg [.int .i64 ix, .int .u64 1].toArray 50) := Blk.upd (HG7.out) u9 (by omega); have HB9 : Hid (Below w.heap.size w w9) := (HB7.out).trans (u9.below (HB7.out).size (fun j hj e => by omega))))
        (try simp only [Exit.inBlock, Exit.then])
        refine bodyPost_ret (v := .agg (talL 0 1 0 1 0 k (some ⟨gg, 0, none⟩) 1 1).toArray) ?_ rfl (HE.out w9 gg (HG9.out) (by omega) HB9.out)
        have hld := blk_loadT n9
        simp [results, Tryz.results18, asAddr, hld]
    · go_simp
      generalize hw_1 : Vd.alloc (.cells [.int .u64 0, .int .u64 0, .int .u64 0, .int .u64 0, .int .u64 0, .int .u64 0, .slice none 0 0].toArray 39) = w_1
      have b_1 : Below Vd.heap.size Vd w_1 := by rw [← hw_1]; exact (Below.refl _ _).alloc (Nat.le_refl _) _
      have n_1 : Blk w_1 Vd.heap.size [.int .u64 0, .int .u64 0, .int .u64 0, .int .u64 0, .int .u64 0, .int .u64 0, .slice none 0 0].toArray 39 := by rw [← hw_1]; exact Blk.new _ _ _
      clear hw_1
      have S1 : Hid _ := Blk.below hS0 b_1 (Blk.lt hS0)
      have HR1 : Hid _ := Blk.below HRd.out b_1 (Blk.lt HRd.out)
      have HB1 : Hid _ := Below.trans HBd.out (Below.mono b_1 (Below.size HBd.out))
      have SZ1 : Hid _ := Nat.le_trans SZd.out (Below.size b_1)
      have ZZ_TAL : Hid (w.heap.size + 2 ≤ Vd.heap.size) := SZd.out
      refine hK _ _ ⟨S1.out, ?_⟩
      clear hK K
      refine onlyC (i := 8) rfl (by kernel_rfl) (fun K hK => ?_)
      go_simp
      generalize hw_2 : w_1.alloc (.cells [.int .i64 ix, .int .u64 1].toArray 50) = w_2
      have b_2 : Below w_1.heap.size w_1 w_2 := by rw [← hw_2]; exact (Below.refl _ _).alloc (Nat.le_refl _) _
      have n_2 : Blk w_2 w_1.heap.size [.int .i64 ix, .int .u64 1].toArray 50 := by rw [← hw_2]; exact Blk.new _ _ _
      clear hw_2
      have S2 : Hid _ := Blk.below S1.out b_2 (Blk.lt S1.out)
      have HR2 : Hid _ := Blk.below HR1.out b_2 (Blk.lt HR1.out)
      have HB2 : Hid _ := Below.trans HB1.out (Below.mono b_2 (Below.size HB1.out))
      have SZ2 : Hid _ := Nat.le_trans SZ1.out (Below.size b_2)
      have TAL2 : Hid _ := Blk.below n_1 b_2 (Blk.lt n_1)
      have LT2 : Hid (Vd.heap.size < w_1.heap.size) := Blk.lt n_1
      have ZZ_BAR : Hid (w.heap.size + 2 ≤ w_1.heap.size) := SZ1.out
      refine hK _ _ ⟨S2.out, ?_⟩
      clear hK K
      refine takeC (i := 9) (v := .agg (talL 0 1 0 0 0 k (some ⟨w_1.heap.size, 0, none⟩) 1 1).toArray) rfl (by kernel_rfl) (by kernel_rfl) (by kernel_rfl) (fun _ _ _ h => h) (Or.inl ⟨by rfl, fun W hW => by go_simp; rfl⟩) (S2.out) ?_
      simp only [Act.put, List.setIfInBounds_toArray, List.set_cons_zero, List.set_cons_succ]
      refine onlyC (i := 11) rfl (by kernel_rfl) (fun K hK => ?_)
      refine step_stW (by rfl) 39 _ _ (by rfl) (Vd.heap.size) [.int .u64 0, .int .u64 0, .int .u64 0, .int .u64 0, .int .u64 0, .int .u64 0, .slice none 0 0] (talL 0 1 0 0 0 k (some ⟨w_1.heap.size, 0, none⟩) 1 1) 39 (TAL2.out) (by rfl) (by rfl) (by rfl) (by kernel_rfl) talL_one ?_
      intro v5 n5 u5
      have z1 := ZZ_BAR.out
      have z2 := ZZ_TAL.out
      have z3 := LT2.out
      have hS5 : Blk v5 w.heap.size (calL (h, s, t, f, k)).toArray 32 := Blk.upd S2.out u5 (by omega)
      have hR5 : Blk v5 (w.heap.size + 1) (talL 0 0 0 0 0 0 none 0 0).toArray 39 := Blk.upd HR2.out u5 (by omega)
      have hG5 : Blk v5 (w_1.heap.size) [.int .i64 ix, .int .u64 1].toArray 50 := Blk.upd n_2 u5 (by omega)
      have hB5 : Below w.heap.size w v5 := Below.trans HB2.out (u5.below (Below.size HB2.out) (fun j hj e => by omega))
      refine hK _ _ ⟨hS5, ?_⟩
      clear hK K
      refine wpAnyH_done (by kernel_rfl) ?_ _
      obtain ⟨tt, htt⟩ : ∃ tt, Vd.heap.size = tt := ⟨_, rfl⟩
      obtain ⟨gg, hgg⟩ : ∃ gg, w_1.heap.size = gg := ⟨_, rfl⟩
      rw [htt, hgg] at n5
      rw [htt] at z2
      rw [hgg] at hG5 z1
      have hne : gg ≠ tt := by omega
      (try rw [htt])
      (try rw [hgg])
      have HN5 : Hid _ := n5
      have HR5 : Hid _ := hR5
      have HG5 : Hid _ := hG5
      have HB5 : Hid _ := hB5
      clear n5 hR5 hG5 hB5 u5 z3 htt hgg
      cases f
      · have c3 : v5.cell? ⟨w.heap.size, 3, none⟩ = some (.bool false) := Blk.cell hS5 3 rfl
        clear hS5
        go_wp2_with (first | (refine wpList_load_mid rfl 39 _ rfl tt 0 rfl (talL 0 1 0 0 0 k (some ⟨gg, 0, none⟩) 1 1) _ (range13C HN5.out) Tryz.underlying39 rfl (by kernel_rfl) ?_) | (refine wpList_stW rfl 39 _ _ rfl (w.heap.size + 1) (talL 0 0 0 0 0 0 none 0 0) (talL 0 1 0 0 0 k (some ⟨gg, 0, none⟩) 1 1) 39 HR5.out rfl rfl rfl (by kernel_rfl) talL_one ?_; intro w9 n9 u9; have HG9 : Hid (Blk w9 gg [.int .i64 ix, .int .u64 1].toArray 50) := Blk.upd (HG5.out) u9 (by omega); have HB9 : Hid (Below w.heap.size w w9) := (HB5.out).trans (u9.below (HB5.out).size (fun j hj e => by omega))))
        (try simp only [Exit.inBlock, Exit.then])
        refine bodyPost_ret (v := .agg (talL 0 1 0 0 0 k (some ⟨gg, 0, none⟩) 1 1).toArray) ?_ rfl (HE.out w9 gg (HG9.out) (by omega) HB9.out)
        have hld := blk_loadT n9
        simp [results, Tryz.results18, asAddr, hld]
      · have c3 : v5.cell? ⟨w.heap.size, 3, none⟩ = some (.bool true) := Blk.cell hS5 3 rfl
        have c4 : v5.cell? ⟨tt, 3, none⟩ = some (.int .u64 0) := Blk.cell HN5.out 3 rfl
        have c5 := Blk.frozen HN5.out 3
        clear hS5
        have HN7 : Hid (Blk (v5.setCell ⟨tt, 3, none⟩ (.int .u64 1)) tt (talL 0 1 0 1 0 k (some ⟨gg, 0, none⟩) 1 1).toArray 39) := Blk.set HN5.out 3 (.int .u64 1)
        have HR7 : Hid (Blk (v5.setCell ⟨tt, 3, none⟩ (.int .u64 1)) (w.heap.size + 1) (talL 0 0 0 0 0 0 none 0 0).toArray 39) := Blk.other HR5.out _ _ (by show w.heap.size + 1 ≠ tt; omega)
        have HG7 : Hid (Blk (v5.setCell ⟨tt, 3, none⟩ (.int .u64 1)) gg [.int .i64 ix, .int .u64 1].toArray 50) := Blk.other HG5.out _ _ (by show gg ≠ tt; omega)
        have HB7 : Hid (Below w.heap.size w (v5.setCell ⟨tt, 3, none⟩ (.int .u64 1))) := (HB5.out).trans (((Upd.refl (fun j => j = tt) v5).setCell (fun _ => rfl) _).below (HB5.out).size (fun j hj e => by omega))
        go_wp2_with (first | (refine wpList_load_mid rfl 39 _ rfl tt 0 rfl (talL 0 1 0 1 0 k (some ⟨gg, 0, none⟩) 1 1) _ (range13C HN7.out) Tryz.underlying39 rfl (by kernel_rfl) ?_) | (refine wpList_stW rfl 39 _ _ rfl (w.heap.size + 1) (talL 0 0 0 0 0 0 none 0 0) (talL 0 1 0 1 0 k (some ⟨gg, 0, none⟩) 1 1) 39 HR7.out rfl rfl rfl (by kernel_rfl) talL_one ?_; intro w9 n9 u9; have HG9 : Hid (Blk w9 gg [.int .i64 ix, .int .u64 1].toArray 50) := Blk.upd (HG7.out) u9 (by omega); have HB9 : Hid (Below w.heap.size w w9) := (HB7.out).trans (u9.below (HB7.out).size (fun j hj e => by omega))))
        (try simp only [Exit.inBlock, Exit.then])
        refine bodyPost_ret (v := .agg (talL 0 1 0 1 0 k (some ⟨gg, 0, none⟩) 1 1).toArray) ?_ rfl (HE.out w9 gg (HG9.out) (by omega) HB9.out)
        have hld := blk_loadT n9
        simp [results, Tryz.results18, asAddr, hld]
  · go_simp
    generalize hw_1 : Vd.alloc (.cells [.int .u64 0, .int .u64 0, .int .u64 0, .int .u64 0, .int .u64 0, .int .u64 0, .slice none 0 0].toArray 39) = w_1
    have b_1 : Below Vd.heap.size Vd w_1 := by rw [← hw_1]; exact (Below.refl _ _).alloc (Nat.le_refl _) _
    have n_1 : Blk w_1 Vd.heap.size [.int .u64 0, .int .u64 0, .int .u64 0, .int .u64 0, .int .u64 0, .int .u64 0, .slice none 0 0].toArray 39 := by rw [← hw_1]; exact Blk.new _ _ _
    clear hw_1
    have S1 : Hid _ := Blk.below hS0 b_1 (Blk.lt hS0)
    have HR1 : Hid _ := Blk.below HRd.out b_1 (Blk.lt HRd.out)
    have HB1 : Hid _ := Below.trans HBd.out (Below.mono b_1 (Below.size HBd.out))
    have SZ1 : Hid _ := Nat.le_trans SZd.out (Below.size b_1)
    have ZZ_TAL : Hid (w.heap.size + 2 ≤ Vd.heap.size) := SZd.out
    refine hK _ _ ⟨S1.out, ?_⟩
    clear hK K
    refine onlyC (i := 6) rfl (by kernel_rfl) (fun K hK => ?_)
    go_simp
    go_at_call 43
    (with_reducible refine (IX _).mono ?_)
    rintro x w' ⟨rfl, hw⟩
    obtain rfl := hw.symm
    refine hK _ _ ⟨S1.out, ?_⟩
    clear hK K
    refine takeC (i := 7) (v := .agg #[.int .i64 ix, .int .u64 1]) rfl (by kernel_rfl) (by kernel_rfl) (by kernel_rfl) (fun _ _ _ h => h) (Or.inl ⟨by rfl, fun W hW => by go_simp⟩) (S1.out) ?_
    simp only [Act.put, List.setIfInBounds_toArray, List.set_cons_zero, List.set_cons_succ]
    refine onlyC (i := 8) rfl (by kernel_rfl) (fun K hK => ?_)
    go_simp
    generalize hw_2 : w_1.alloc (.cells [.int .i64 ix, .int .u64 1].toArray 50) = w_2
    have b_2 : Below w_1.heap.size w_1 w_2 := by rw [← hw_2]; exact (Below.refl _ _).alloc (Nat.le_refl _) _
    have n_2 : Blk w_2 w_1.heap.size [.int .i64 ix, .int .u64 1].toArray 50 := by rw [← hw_2]; exact Blk.new _ _ _
    clear hw_2
    have S2 : Hid _ := Blk.below S1.out b_2 (Blk.lt S1.out)
    have HR2 : Hid _ := Blk.below HR1.out b_2 (Blk.lt HR1.out)
    have HB2 : Hid _ := Below.trans HB1.out (Below.mono b_2 (Below.size HB1.out))
    have SZ2 : Hid _ := Nat.le_trans SZ1.out (Below.size b_2)
    have TAL2 : Hid _ := Blk.below n_1 b_2 (Blk.lt n_1)
    have LT2 : Hid (Vd.heap.size < w_1.heap.size) := Blk.lt n_1
    have ZZ_BAR : Hid (w.heap.size + 2 ≤ w_1.heap.size) := SZ1.out
    refine hK _ _ ⟨S2.out, ?_⟩
    clear hK K
    refine takeC (i := 9) (v := .agg (talL 0 1 0 0 0 k (some ⟨w_1.heap.size, 0, none⟩) 1 1).toArray) rfl (by kernel_rfl) (by kernel_rfl) (by kernel_rfl) (fun _ _ _ h => h) (Or.inl ⟨by rfl, fun W hW => by go_simp; rfl⟩) (S2.out) ?_
    simp only [Act.put, List.setIfInBounds_toArray, List.set_cons_zero, List.set_cons_succ]
    refine onlyC (i := 11) rfl (by kernel_rfl) (fun K hK => ?_)
    refine step_stW (by rfl) 39 _ _ (by rfl) (Vd.heap.size) [.int .u64 0, .int .u64 0, .int .u64 0, .int .u64 0, .int .u64 0, .int .u64 0, .slice none 0 0] (talL 0 1 0 0 0 k (some ⟨w_1.heap.size, 0, none⟩) 1 1) 39 (TAL2.out) (by rfl) (by rfl) (by rfl) (by kernel_rfl) talL_one ?_
    intro v5 n5 u5
    have z1 := ZZ_BAR.out
    have z2 := ZZ_TAL.out
    have z3 := LT2.out
    have hS5 : Blk v5 w.heap.size (calL (h, s, t, f, k)).toArray 32 := Blk.upd S2.out u5 (by omega)
    have hR5 : Blk v5 (w.heap.size + 1) (talL 0 0 0 0 0 0 none 0 0).toArray 39 := Blk.upd HR2.out u5 (by omega)
    have hG5 : Blk v5 (w_1.heap.size) [.int .i64 ix, .int .u64 1].toArray 50 := Blk.upd n_2 u5 (by omega)
    have hB5 : Below w.heap.size w v5 := Below.trans HB2.out (u5.below (Below.size HB2.out) (fun j hj e => by omega))
    refine hK _ _ ⟨hS5, ?_⟩
    clear hK K
    refine wpAnyH_done (by kernel_rfl) ?_ _
    obtain ⟨tt, htt⟩ : ∃ tt, Vd.heap.size = tt := ⟨_, rfl⟩
    obtain ⟨gg, hgg⟩ : ∃ gg, w_1.heap.size = gg := ⟨_, rfl⟩
    rw [htt, hgg] at n5
    rw [htt] at z2
    rw [hgg] at hG5 z1
    have hne : gg ≠ tt := by omega
    (try rw [htt])
    (try rw [hgg])
    have HN5 : Hid _ := n5
    have HR5 : Hid _ := hR5
    have HG5 : Hid _ := hG5
    have HB5 : Hid _ := hB5
    clear n5 hR5 hG5 hB5 u5 z3 htt hgg
    cases f
    · have c3 : v5.cell? ⟨w.heap.size, 3, none⟩ = some (.bool false) := Blk.cell hS5 3 rfl
      clear hS5
      go_wp2_with (first | (refine wpList_load_mid rfl 39 _ rfl tt 0 rfl (talL 0 1 0 0 0 k (some ⟨gg, 0, none⟩) 1 1) _ (range13C HN5.out) Tryz.underlying39 rfl (by kernel_rfl) ?_) | (refine wpList_stW rfl 39 _ _ rfl (w.heap.size + 1) (talL 0 0 0 0 0 0 none 0 0) (talL 0 1 0 0 0 k (some ⟨gg, 0, none⟩) 1 1) 39 HR5.out rfl rfl rfl (by kernel_rfl) talL_one ?_; intro w9 n9 u9; have HG9 : Hid (Blk w9 gg [.int .i64 ix, .int .u64 1].toArray 50) := Blk.upd (HG5.out) u9 (by omega); have HB9 : Hid (Below w.heap.size w w9) := (HB5.out).trans (u9.below (HB5.out).size (fun j hj e => by omega))))
      (try simp only [Exit.inBlock, Exit.then])
      refine bodyPost_ret (v := .agg (talL 0 1 0 0 0 k (some ⟨gg, 0, none⟩) 1 1).toArray) ?_ rfl (HE.out w9 gg (HG9.out) (by omega) HB9.out)
      have hld := blk_loadT n9
      simp [results, Tryz.results18, asAddr, hld]
    · have c3 : v5.cell? ⟨w.heap.size, 3, none⟩ = some (.bool true) := Blk.cell hS5 3 rfl
      have c4 : v5.cell? ⟨tt, 3, none⟩ = some (.int .u64 0) := Blk.cell HN5.out 3 rfl
      have c5 := Blk.frozen HN5.out 3
      clear hS5
      have HN7 : Hid (Blk (v5.setCell ⟨tt, 3, none⟩ (.int .u64 1)) tt (talL 0 1 0 1 0 k (some ⟨gg, 0, none⟩) 1 1).toArray 39) := Blk.set HN5.out 3 (.int .u64 1)
      have HR7 : Hid (Blk (v5.setCell ⟨tt, 3, none⟩ (.int .u64 1)) (w.heap.size + 1) (talL 0 0 0 0 0 0 none 0 0).toArray 39) := Blk.other HR5.out _ _ (by show w.heap.size + 1 ≠ tt; omega)
      have HG7 : Hid (Blk (v5.setCell ⟨tt, 3, none⟩ (.int .u64 1)) gg [.int .i64 ix, .int .u64 1].toArray 50) := Blk.other HG5.out _ _ (by show gg ≠ tt; omega)
      have HB7 : Hid (Below w.heap.size w (v5.setCell ⟨tt, 3, none⟩ (.int .u64 1))) := (HB5.out).trans (((Upd.refl (fun j => j = tt) v5).setCell (fun _ => rfl) _).below (HB5.out).size (fun j hj e => by omega))
      go_wp2_with (first | (refine wpList_load_mid rfl 39 _ rfl tt 0 rfl (talL 0 1 0 1 0 k (some ⟨gg, 0, none⟩) 1 1) _ (range13C HN7.out) Tryz.underlying39 rfl (by kernel_rfl) ?_) | (refine wpList_stW rfl 39 _ _ rfl (w.heap.size + 1) (talL 0 0 0 0 0 0 none 0 0) (talL 0 1 0 1 0 k (some ⟨gg, 0, none⟩) 1 1) 39 HR7.out rfl rfl rfl (by kernel_rfl) talL_one ?_; intro w9 n9 u9; have HG9 : Hid (Blk w9 gg [.int .i64 ix, .int .u64 1].toArray 50) := Blk.upd (HG7.out) u9 (by omega); have HB9 : Hid (Below w.heap.size w w9) := (HB7.out).trans (u9.below (HB7.out).size (fun j hj e => by omega))))
      (try simp only [Exit.inBlock, Exit.then])
      refine bodyPost_ret (v := .agg (talL 0 1 0 1 0 k (some ⟨gg, 0, none⟩) 1 1).toArray) ?_ rfl (HE.out w9 gg (HG9.out) (by omega) HB9.out)
      have hld := blk_loadT n9
      simp [results, Tryz.results18, asAddr, hld]
end Go.Proofs.YtkpkdikogoalkaaGreatDoor.sk
