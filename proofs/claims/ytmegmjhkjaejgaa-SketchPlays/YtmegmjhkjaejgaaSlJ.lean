/-
  The reference of layer 13: Less.
-/
import Derived.Test.YtmegmjhkjaejgaaSlI
import Derived.Test.YtmegmjhkjaejgaaSlH
namespace Go.Proofs.Ytmegmjhkjaejgaa.sk
open Go.RowKit
set_option maxRecDepth 100000

/-- Where taking stands. -/
structure LsAt (a b : List (Int × Int)) (base : Nat) (w : World) (wr : World) (v : Value) (i k : Nat) (S : List (Int × Int)) : Prop where
  own : OwnBar base wr v S
  eq : lL a b = (lL (a.drop i) (b.drop k)).map (S ++ ·)
  below : Below w.heap.size w wr
  len : S.length ≤ i
theorem LsAt.drewN {a b : List (Int × Int)} {base : Nat} {w wr : World} {v : Value} {i k : Nat} {S : List (Int × Int)} (h : LsAt a b base w wr v i k S) (q : Nat) : LsAt a b base w (wr.drewN q) v i k S :=
  ⟨ownsRow_upd h.own ((Upd.refl (fun _ => False) wr).drewN q) (fun _ _ h => h), h.eq, h.below.trans (((Upd.refl (fun _ => False) wr).drewN q).below (B := w.heap.size) h.below.size (fun _ _ h => h)), h.len⟩
theorem LsAt.stepB {a b : List (Int × Int)} {w wz u2 w1 : World} {ao : Option Addr} {L cc : Nat} {v1 : Value} {i k i' k' : Nat} {S : List (Int × Int)} {x y : Int} (h : LsAt a b w.heap.size w wz (.slice ao L cc) i k S) (hL : S.length = L) (hb : Below wz.heap.size wz u2)
    (o1 : w1.ownsRow w.heap.size 46 2 v1 (L + 1) (S.flatMap barC ++ [.int .i64 x, .int .u64 y])) (g1 : u2.grownBy w1 (Value.slice ao L cc).ownBlock)
    (he : lL a b = (lL (a.drop i') (b.drop k')).map ((S ++ [(x, y)]) ++ ·)) (hl : i + 1 ≤ i') : LsAt a b w.heap.size w w1 v1 i' k' (S ++ [(x, y)]) := by
  refine ⟨bar_app hL o1, he, ?_, by have := h.len; rw [List.length_append]; simp; omega⟩
  exact ((Upd.ofBelow (S := fun k => w.heap.size ≤ k) (h.below.trans (hb.mono h.below.size)) (fun _ _ h => h)).grown g1 (fun k _ e => (own_block h.own e).1)).below (Nat.le_refl _) (fun k hk h => by omega)
theorem LsAt.stay {a b : List (Int × Int)} {w wz u2 : World} {v : Value} {i k i' k' : Nat} {S : List (Int × Int)} (h : LsAt a b w.heap.size w wz v i k S) (hb : Below wz.heap.size wz u2) (he : lL a b = (lL (a.drop i') (b.drop k')).map (S ++ ·)) (hl : i ≤ i') : LsAt a b w.heap.size w u2 v i' k' S :=
  ⟨ownsRow_upd h.own (Upd.ofBelow (S := fun _ => False) hb (fun k hk hk' => by omega)) (fun _ _ h => h), he, h.below.trans (hb.mono h.below.size), by have := h.len; omega⟩
theorem map_snoc {r : Option (List (Int × Int))} {S : List (Int × Int)} {x : Int × Int} : (r.map (x :: ·)).map (S ++ ·) = r.map ((S ++ [x]) ++ ·) := by
  rw [Option.map_map]
  congr 1
  funext l
  simp
theorem lL_keep {a b : List (Int × Int)} {i k : Nat} {S : List (Int × Int)} {T : Option (List (Int × Int))} (hi : i < a.length) (h : T = (lL (a.drop i) (b.drop k)).map (S ++ ·)) (hc : b.length ≤ k ∨ ∃ hk : k < b.length, b[k].1 ≠ a[i].1) : T = (lL (a.drop (i + 1)) (b.drop k)).map ((S ++ [(a[i].1, a[i].2)]) ++ ·) := by
  rw [h, List.drop_eq_getElem_cons hi]
  rcases hc with hc | ⟨hk, hne⟩
  · rw [List.drop_eq_nil_of_le hc, lL_right, map_snoc]
  · rw [List.drop_eq_getElem_cons hk, lL_cons, if_neg hne, map_snoc]
theorem lL_both {a b : List (Int × Int)} {i k : Nat} {S : List (Int × Int)} {T : Option (List (Int × Int))} (hi : i < a.length) (hk : k < b.length) (h : T = (lL (a.drop i) (b.drop k)).map (S ++ ·)) (e : b[k].1 = a[i].1) :
    (a[i].2 < b[k].2 → T = none) ∧ (¬ a[i].2 < b[k].2 → a[i].2 - b[k].2 = 0 → T = (lL (a.drop (i + 1)) (b.drop (k + 1))).map (S ++ ·)) ∧ (¬ a[i].2 < b[k].2 → a[i].2 - b[k].2 ≠ 0 → T = (lL (a.drop (i + 1)) (b.drop (k + 1))).map ((S ++ [(a[i].1, a[i].2 - b[k].2)]) ++ ·)) := by
  rw [List.drop_eq_getElem_cons hi, List.drop_eq_getElem_cons hk, lL_cons, if_pos e] at h
  refine ⟨fun h1 => ?_, fun h1 h2 => ?_, fun h1 h2 => ?_⟩
  · rw [h, if_pos h1]; rfl
  · rw [h, if_neg h1, if_pos h2]
  · rw [h, if_neg h1, if_neg h2, map_snoc]
theorem in_pos {l : List (Int × Int)} (hc : chkF (-1) l = true) (hb : Bin l) {x : Int × Int} (hx : x ∈ l) : 0 < x.2 ∧ x.2 ≤ 18446744073709551615 := by
  have h1 := (chk_in hc x hx).2.2
  have h2 := hb x hx
  omega
set_option maxHeartbeats 2000000 in
theorem refLess_ok (ad bd : Option Addr) (n m ca cb : Nat) (a b : List (Int × Int)) (w : World) (hA : InAt w ad n a) (hB : InAt w bd m b) (ha : chkF (-1) a = true) (hb : chkF (-1) b = true) :
    Calls Try.prog 24 #[.slice ad n ca, .slice bd m cb] w (MadeP (lessR a b) 134 w) := by
  obtain ⟨i0, hi, hz0, hz1, hz2⟩ := info_parts Try.info46
  have n1 : n ≤ 1920 := by have := chk_len (by omega) ha; have := hA.at_.len; omega
  have m1 : m ≤ 1920 := by have := chk_len (by omega) hb; have := hB.at_.len; omega
  have HLA : Hid (a.length = n) := hA.at_.len
  have HLB : Hid (b.length = m) := hB.at_.len
  have KA := refCheck_any ad n ca a w hA.at_ hA.len hA.bin
  have KB := fun q => refCheck_any bd m cb b (w.drewN q) (hB.at_.drewN q) hB.len hB.bin
  simp only [chkE_ok ha] at KA
  simp only [chkE_ok hb] at KB
  have HE : Hid _ := lL_eq ha hb hA.bin hB.bin
  have HCA : Hid (chkF (-1) a = true) := ha
  have HA : Hid _ := hA
  have HB : Hid _ := hB
  clear hA hB ha hb
  go_enter Try.func24, Try.ntmps24
  go_wp2_with (first
    | (go_at_call 18; (with_reducible refine KA.mono ?_); clear KA; rintro e w' ⟨rfl, q1, rfl⟩)
    | (go_at_call 18; (with_reducible refine (KB q1).mono ?_); clear KB; rintro e w' ⟨rfl, q2, rfl⟩))
  go_loopw [6, 7, 8] (fun o tk ti wr => ∃ (i k : Nat) (S : List (Int × Int)), ti = .int .i64 i ∧ tk = .int .i64 k ∧ i ≤ n ∧ k ≤ m ∧ Hid (LsAt a b w.heap.size w wr o i k S)) (fun _ _ ti _ => n - (intOf ti).toNat)
  case atStart => exact ⟨0, 0, [], rfl, rfl, by omega, by omega, ⟨World.ownsRow_nil _ _ _ _, by simp, ((Upd.refl (fun _ => False) w).drewN (q1 + q2)).below (Nat.le_refl _) (fun _ _ h => h), Nat.le_refl _⟩⟩
  case round =>
    obtain ⟨i, k, S, rfl, rfl, hin, hkm, HM⟩ := hrel
    obtain ⟨ao, L, cc, rfl⟩ := row_shape HM.out.own
    obtain ⟨hL, -, -⟩ := own_cap HM.out.own
    have HL : Hid (S.length = L) := hL.symm
    have hLb : L ≤ 1920 := by have := HM.out.len; omega
    clear hL
    by_cases hi' : i < n
    · obtain ⟨bb, off, rfl, hc⟩ := (HA.out.below HM.out.below).at_.lies (by omega)
      have hil : i < a.length := by rw [HLA.out]; exact hi'
      obtain ⟨cx0, cx1⟩ := hc i hil
      clear hc
      have hx9 := in_pos HCA.out HA.out.bin (List.getElem_mem hil)
      by_cases hk : k < m
      · have t1 : decide ((k : Int) < (m : Int)) = true := by simp; omega
        obtain ⟨bc, of2, rfl, hc⟩ := (HB.out.below HM.out.below).at_.lies (by omega)
        have hkl : k < b.length := by rw [HLB.out]; exact hk
        obtain ⟨cy0, cy1⟩ := hc k hkl
        have hblt := World.block_lt_of_cell? wr _ cy0
        simp only at hblt
        clear hc
        have hy9 := HB.out.bin b[k] (List.getElem_mem hkl)
        have SA : b[k].1 ≠ a[i].1 → _ := fun h => lL_keep hil HM.out.eq (Or.inr ⟨hkl, h⟩)
        have SB : b[k].1 = a[i].1 → _ := fun h => lL_both hil hkl HM.out.eq h
        obtain ⟨x, hx⟩ : ∃ x, a[i] = x := ⟨_, rfl⟩
        rw [hx] at cx0 cx1 hx9 SA SB
        obtain ⟨x1, x2⟩ := x
        simp only at cx0 cx1 hx9 SA SB
        have t9 : (0 : Int) < x2 := hx9.1
        have t8 : x2 ≤ 18446744073709551615 := hx9.2
        obtain ⟨y, hy⟩ : ∃ y, b[k] = y := ⟨_, rfl⟩
        rw [hy] at cy0 cy1 hy9 SA SB
        obtain ⟨y1, y2⟩ := y
        simp only at cy0 cy1 hy9 SA SB
        clear hx hy hil hkl hx9
        have dy0 : (wr.alloc (.cells #[.int .i64 x1, .int .u64 x2] 46)).cell? ⟨bc, of2 + k * 2, none⟩ = some (.int .i64 y1) := cell_upd ((Upd.refl (fun _ => False) wr).alloc _) cy0 (fun h => h)
        by_cases e1 : y1 = x1
        · subst e1
          have t2 : ((y1 : Int) == (y1 : Int)) = true := by simp
          obtain ⟨SB1, SB2, SB3⟩ := SB rfl
          clear SB SA
          by_cases h1 : x2 < y2
          · have HR : Hid (lL a b = none) := SB1 h1
            clear SB1 SB2 SB3
            go_wp2
            go_quiet (fail)
            obtain ⟨wz, hwz⟩ : ∃ W, (wr.alloc (.cells #[.int .i64 y1, .int .u64 x2] 46)).drewN nq = W := ⟨_, rfl⟩
            have bz : Below wr.heap.size wr wz := by rw [← hwz]; exact ((Upd.refl (fun _ => False) wr).alloc _ |>.drewN nq).below (Nat.le_refl _) (fun _ _ h => h)
            have hz : wz.heap[wr.heap.size]? = some (.cells #[.int .i64 y1, .int .u64 x2] 46 (0, 0)) := by rw [← hwz]; exact heap_alloc_new wr _
            have z0 : wz.cell? ⟨wr.heap.size, 0, none⟩ = some (.int .i64 y1) := World.news_of_block (cs := #[.int .i64 y1, .int .u64 x2]) (t := 46) (fr := (0, 0)) hz 0 _ rfl
            have z1 : wz.cell? ⟨wr.heap.size, 1, none⟩ = some (.int .u64 x2) := World.news_of_block (cs := #[.int .i64 y1, .int .u64 x2]) (t := 46) (fr := (0, 0)) hz 1 _ rfl
            rw [hwz]
            have HZ : Hid _ := LsAt.stay HM.out bz HM.out.eq (Nat.le_refl _)
            have ey0 : wz.cell? ⟨bc, of2 + k * 2, none⟩ = some (.int .i64 y1) := (bz.cell (p := ⟨bc, of2 + k * 2, none⟩) hblt).trans cy0
            have ey1 : wz.cell? ⟨bc, of2 + k * 2 + 1, none⟩ = some (.int .u64 y2) := (bz.cell (p := ⟨bc, of2 + k * 2 + 1, none⟩) hblt).trans cy1
            clear hwz bz HM cx0 cy1
            have HQ : Hid (∀ q, MadeP (lessR a b) 134 w (.returned (.tuple #[.slice none 0 0, .int .i64 134])) (wz.drewN q)) := fun q => by
              rcases HE.out with ⟨l, h, _⟩ | ⟨_, h⟩
              · rw [HR.out] at h; simp at h
              · have hb := (HZ.out.drewN q).below
                rw [h]
                exact ⟨hb, rfl⟩
            have t3 : decide (x2 < y2) = true := by simpa using h1
            go_wp2
            go_quiet (fail)
            go_wp2
            go_returns
            exact HQ.out nq
          · by_cases h2 : x2 - y2 = 0
            · have HS : Hid _ := SB2 h1 h2
              clear SB1 SB2 SB3
              go_wp2
              go_quiet (fail)
              obtain ⟨wz, hwz⟩ : ∃ W, (wr.alloc (.cells #[.int .i64 y1, .int .u64 x2] 46)).drewN nq = W := ⟨_, rfl⟩
              have bz : Below wr.heap.size wr wz := by rw [← hwz]; exact ((Upd.refl (fun _ => False) wr).alloc _ |>.drewN nq).below (Nat.le_refl _) (fun _ _ h => h)
              have hz : wz.heap[wr.heap.size]? = some (.cells #[.int .i64 y1, .int .u64 x2] 46 (0, 0)) := by rw [← hwz]; exact heap_alloc_new wr _
              have z0 : wz.cell? ⟨wr.heap.size, 0, none⟩ = some (.int .i64 y1) := World.news_of_block (cs := #[.int .i64 y1, .int .u64 x2]) (t := 46) (fr := (0, 0)) hz 0 _ rfl
              have z1 : wz.cell? ⟨wr.heap.size, 1, none⟩ = some (.int .u64 x2) := World.news_of_block (cs := #[.int .i64 y1, .int .u64 x2]) (t := 46) (fr := (0, 0)) hz 1 _ rfl
              rw [hwz]
              have HZ : Hid _ := LsAt.stay HM.out bz HM.out.eq (Nat.le_refl _)
              have ey0 : wz.cell? ⟨bc, of2 + k * 2, none⟩ = some (.int .i64 y1) := (bz.cell (p := ⟨bc, of2 + k * 2, none⟩) hblt).trans cy0
              have ey1 : wz.cell? ⟨bc, of2 + k * 2 + 1, none⟩ = some (.int .u64 y2) := (bz.cell (p := ⟨bc, of2 + k * 2 + 1, none⟩) hblt).trans cy1
              clear HZ
              clear hwz
              clear cx0 cy1
              have t3 : decide (x2 < y2) = false := by simpa using h1
              obtain ⟨_, _, y8, y9⟩ := hy9
              have h3 : x2 = y2 := by omega
              subst h3
              clear h1 h2
              go_wp2
              go_quiet (fail)
              obtain ⟨wu, hwu⟩ : ∃ W, wz.drewN nq = W := ⟨_, rfl⟩
              have bu : Below wr.heap.size wr wu := by rw [← hwu]; exact ((Upd.ofBelow (S := fun _ => False) bz (fun k hk hk' => by omega)).drewN nq).below (Nat.le_refl _) (fun _ _ h => h)
              have hu : wu.heap[wr.heap.size]? = some (.cells #[.int .i64 y1, .int .u64 x2] 46 (0, 0)) := by rw [← hwu]; exact hz
              have u0 : wu.cell? ⟨wr.heap.size, 0, none⟩ = some (.int .i64 y1) := by rw [← hwu]; exact z0
              have u1 : wu.cell? ⟨wr.heap.size, 1, none⟩ = some (.int .u64 x2) := by rw [← hwu]; exact z1
              have uf : wu.frozen? ⟨wr.heap.size, 1, none⟩ = false := blk_free hu 1
              have v1 : wu.cell? ⟨bc, of2 + k * 2 + 1, none⟩ = some (.int .u64 x2) := by rw [← hwu]; exact ey1
              rw [hwu]
              clear hwu bz hz z0 z1 ey0 ey1
              go_wp2
              go_region
              obtain ⟨ws, hws⟩ : ∃ W, (wu.setCell ⟨wr.heap.size, 1, none⟩ (.int .u64 0)).drew = W := ⟨_, rfl⟩
              have bs : Below wr.heap.size wr ws := by rw [← hws]; exact ((Upd.ofBelow (S := fun k => wr.heap.size ≤ k) bu (fun _ _ h => h)).setCell (p := ⟨wr.heap.size, 1, none⟩) (fun _ => Nat.le_refl _) _ |>.drew).below (Nat.le_refl _) (fun k hk h => by omega)
              have s1 : ws.cell? ⟨wr.heap.size, 1, none⟩ = some (.int .u64 0) := by
                rw [← hws]
                exact blk_cell (set_block hu 1 (.int .u64 0)) 1 rfl
              rw [hws]
              have HF : Hid _ := LsAt.stay (i' := i + 1) (k' := k + 1) HM.out bs HS.out (by omega)
              clear hws bu hu u0 u1 uf v1 HM bs
              go_wp2
              go_roundw
              case rel => exact ⟨i + 1, k + 1, S, by go_num, by go_num, by omega, by omega, HF⟩
              case measure => simp [intOf]; omega
            · have HS : Hid _ := SB3 h1 h2
              clear SB1 SB2 SB3
              go_wp2
              go_quiet (fail)
              obtain ⟨wz, hwz⟩ : ∃ W, (wr.alloc (.cells #[.int .i64 y1, .int .u64 x2] 46)).drewN nq = W := ⟨_, rfl⟩
              have bz : Below wr.heap.size wr wz := by rw [← hwz]; exact ((Upd.refl (fun _ => False) wr).alloc _ |>.drewN nq).below (Nat.le_refl _) (fun _ _ h => h)
              have hz : wz.heap[wr.heap.size]? = some (.cells #[.int .i64 y1, .int .u64 x2] 46 (0, 0)) := by rw [← hwz]; exact heap_alloc_new wr _
              have z0 : wz.cell? ⟨wr.heap.size, 0, none⟩ = some (.int .i64 y1) := World.news_of_block (cs := #[.int .i64 y1, .int .u64 x2]) (t := 46) (fr := (0, 0)) hz 0 _ rfl
              have z1 : wz.cell? ⟨wr.heap.size, 1, none⟩ = some (.int .u64 x2) := World.news_of_block (cs := #[.int .i64 y1, .int .u64 x2]) (t := 46) (fr := (0, 0)) hz 1 _ rfl
              rw [hwz]
              have HZ : Hid _ := LsAt.stay HM.out bz HM.out.eq (Nat.le_refl _)
              have ey0 : wz.cell? ⟨bc, of2 + k * 2, none⟩ = some (.int .i64 y1) := (bz.cell (p := ⟨bc, of2 + k * 2, none⟩) hblt).trans cy0
              have ey1 : wz.cell? ⟨bc, of2 + k * 2 + 1, none⟩ = some (.int .u64 y2) := (bz.cell (p := ⟨bc, of2 + k * 2 + 1, none⟩) hblt).trans cy1
              clear HZ
              clear hwz
              clear cx0 cy1
              have t3 : decide (x2 < y2) = false := by simpa using h1
              obtain ⟨_, _, y8, y9⟩ := hy9
              have hd : (0 : Int) < x2 - y2 := by omega
              clear h2
              go_wp2
              go_quiet (fail)
              obtain ⟨wu, hwu⟩ : ∃ W, wz.drewN nq = W := ⟨_, rfl⟩
              have bu : Below wr.heap.size wr wu := by rw [← hwu]; exact ((Upd.ofBelow (S := fun _ => False) bz (fun k hk hk' => by omega)).drewN nq).below (Nat.le_refl _) (fun _ _ h => h)
              have hu : wu.heap[wr.heap.size]? = some (.cells #[.int .i64 y1, .int .u64 x2] 46 (0, 0)) := by rw [← hwu]; exact hz
              have u0 : wu.cell? ⟨wr.heap.size, 0, none⟩ = some (.int .i64 y1) := by rw [← hwu]; exact z0
              have u1 : wu.cell? ⟨wr.heap.size, 1, none⟩ = some (.int .u64 x2) := by rw [← hwu]; exact z1
              have uf : wu.frozen? ⟨wr.heap.size, 1, none⟩ = false := blk_free hu 1
              have v1 : wu.cell? ⟨bc, of2 + k * 2 + 1, none⟩ = some (.int .u64 y2) := by rw [← hwu]; exact ey1
              rw [hwu]
              clear hwu bz hz z0 z1 ey0 ey1
              go_wp2
              go_region
              obtain ⟨ws, hws⟩ : ∃ W, (wu.setCell ⟨wr.heap.size, 1, none⟩ (.int .u64 (x2 - y2))).drew = W := ⟨_, rfl⟩
              have bs : Below wr.heap.size wr ws := by rw [← hws]; exact ((Upd.ofBelow (S := fun k => wr.heap.size ≤ k) bu (fun _ _ h => h)).setCell (p := ⟨wr.heap.size, 1, none⟩) (fun _ => Nat.le_refl _) _ |>.drew).below (Nat.le_refl _) (fun k hk h => by omega)
              have s0 : ws.cell? ⟨wr.heap.size, 0, none⟩ = some (.int .i64 y1) := by
                rw [← hws]
                exact blk_cell (set_block hu 1 (.int .u64 (x2 - y2))) 0 rfl
              have s1 : ws.cell? ⟨wr.heap.size, 1, none⟩ = some (.int .u64 (x2 - y2)) := by
                rw [← hws]
                exact blk_cell (set_block hu 1 (.int .u64 (x2 - y2))) 1 rfl
              rw [hws]
              generalize x2 - y2 = dd at *
              have HZ : Hid _ := LsAt.stay HM.out bs HM.out.eq (Nat.le_refl _)
              clear hws bu hu u0 u1 uf v1 HM bs
              have hsz := HZ.out.below.size
              have OW := bar_own HZ.out.own HL.out (.cells #[.int .i64 y1, .int .u64 dd] 46)
              have SR := bar_src ws y1 dd
              go_wp2_with (first | (at_builtin; refine wpList_appW _ rfl _ _ 28 28 rfl w.heap.size 46 i0 _ 2 16 Try.underlying28 hi hz0 hz1 hz2 rfl (.slice ao L cc) L _ rfl OW _ 1 _ rfl SR (by unfold maxLen; omega) (by omega) (by simp; omega) ?_; clear OW SR; intro v1 w1 o1 g1 m1))
              go_roundw
              case rel => exact ⟨i + 1, k + 1, S ++ [(y1, dd)], by go_num, by go_num, by omega, by omega, HZ.out.stepB HL.out ((Below.refl _ _).alloc (Nat.le_refl _) _) o1 g1 HS.out (by omega)⟩
              case measure => simp [intOf]; omega
        · have t2 : ((y1 : Int) == (x1 : Int)) = false := by simpa using e1
          have HS : Hid _ := SA e1
          clear SA SB e1
          go_wp2
          go_quiet (fail)
          obtain ⟨wz, hwz⟩ : ∃ W, (wr.alloc (.cells #[.int .i64 x1, .int .u64 x2] 46)).drewN nq = W := ⟨_, rfl⟩
          have bz : Below wr.heap.size wr wz := by rw [← hwz]; exact ((Upd.refl (fun _ => False) wr).alloc _ |>.drewN nq).below (Nat.le_refl _) (fun _ _ h => h)
          have hz : wz.heap[wr.heap.size]? = some (.cells #[.int .i64 x1, .int .u64 x2] 46 (0, 0)) := by rw [← hwz]; exact heap_alloc_new wr _
          have z0 : wz.cell? ⟨wr.heap.size, 0, none⟩ = some (.int .i64 x1) := World.news_of_block (cs := #[.int .i64 x1, .int .u64 x2]) (t := 46) (fr := (0, 0)) hz 0 _ rfl
          have z1 : wz.cell? ⟨wr.heap.size, 1, none⟩ = some (.int .u64 x2) := World.news_of_block (cs := #[.int .i64 x1, .int .u64 x2]) (t := 46) (fr := (0, 0)) hz 1 _ rfl
          rw [hwz]
          have HZ : Hid _ := LsAt.stay HM.out bz HM.out.eq (Nat.le_refl _)
          clear hwz bz HM cx0 cx1
          have hsz := HZ.out.below.size
          have OW := bar_own HZ.out.own HL.out (.cells #[.int .i64 x1, .int .u64 x2] 46)
          have SR := bar_src wz x1 x2
          go_wp2_with (first | (at_builtin; refine wpList_appW _ rfl _ _ 28 28 rfl w.heap.size 46 i0 _ 2 16 Try.underlying28 hi hz0 hz1 hz2 rfl (.slice ao L cc) L _ rfl OW _ 1 _ rfl SR (by unfold maxLen; omega) (by omega) (by simp; omega) ?_; clear OW SR; intro v1 w1 o1 g1 m1))
          go_roundw
          case rel => exact ⟨i + 1, k, S ++ [(x1, x2)], by go_num, by go_num, by omega, by omega, HZ.out.stepB HL.out ((Below.refl _ _).alloc (Nat.le_refl _) _) o1 g1 HS.out (by omega)⟩
          case measure => simp [intOf]; omega
      · obtain rfl : k = m := by omega
        have HS : Hid _ := lL_keep hil HM.out.eq (Or.inl (by rw [HLB.out]; omega))
        obtain ⟨x, hx⟩ : ∃ x, a[i] = x := ⟨_, rfl⟩
        rw [hx] at cx0 cx1 hx9 HS
        obtain ⟨x1, x2⟩ := x
        simp only at cx0 cx1 hx9 HS
        have t9 : (0 : Int) < x2 := hx9.1
        have t8 : x2 ≤ 18446744073709551615 := hx9.2
        have t1 : decide ((k : Int) < (k : Int)) = false := by simp
        clear hx hil hk hkm hx9
        go_wp2
        go_quiet (fail)
        obtain ⟨wz, hwz⟩ : ∃ W, (wr.alloc (.cells #[.int .i64 x1, .int .u64 x2] 46)).drewN nq = W := ⟨_, rfl⟩
        have bz : Below wr.heap.size wr wz := by rw [← hwz]; exact ((Upd.refl (fun _ => False) wr).alloc _ |>.drewN nq).below (Nat.le_refl _) (fun _ _ h => h)
        have hz : wz.heap[wr.heap.size]? = some (.cells #[.int .i64 x1, .int .u64 x2] 46 (0, 0)) := by rw [← hwz]; exact heap_alloc_new wr _
        have z0 : wz.cell? ⟨wr.heap.size, 0, none⟩ = some (.int .i64 x1) := World.news_of_block (cs := #[.int .i64 x1, .int .u64 x2]) (t := 46) (fr := (0, 0)) hz 0 _ rfl
        have z1 : wz.cell? ⟨wr.heap.size, 1, none⟩ = some (.int .u64 x2) := World.news_of_block (cs := #[.int .i64 x1, .int .u64 x2]) (t := 46) (fr := (0, 0)) hz 1 _ rfl
        rw [hwz]
        have HZ : Hid _ := LsAt.stay HM.out bz HM.out.eq (Nat.le_refl _)
        clear hwz bz HM cx0 cx1
        have hsz := HZ.out.below.size
        have OW := bar_own HZ.out.own HL.out (.cells #[.int .i64 x1, .int .u64 x2] 46)
        have SR := bar_src wz x1 x2
        go_wp2_with (first | (at_builtin; refine wpList_appW _ rfl _ _ 28 28 rfl w.heap.size 46 i0 _ 2 16 Try.underlying28 hi hz0 hz1 hz2 rfl (.slice ao L cc) L _ rfl OW _ 1 _ rfl SR (by unfold maxLen; omega) (by omega) (by simp; omega) ?_; clear OW SR; intro v1 w1 o1 g1 m1))
        go_roundw
        case rel => exact ⟨i + 1, k, S ++ [(x1, x2)], by go_num, by go_num, by omega, by omega, HZ.out.stepB HL.out ((Below.refl _ _).alloc (Nat.le_refl _) _) o1 g1 HS.out (by omega)⟩
        case measure => simp [intOf]; omega
    · have HQ : Hid (MadeP (lessR a b) 134 w (.returned (.tuple #[(if k < m then .slice none 0 0 else .slice ao L cc), .int .i64 (if k < m then 134 else 0)])) wr) := by
        have e := HM.out.eq
        rw [List.drop_eq_nil_of_le (by rw [HLA.out]; omega)] at e
        by_cases hk : k < m
        · have hkl : k < b.length := by rw [HLB.out]; exact hk
          rw [List.drop_eq_getElem_cons hkl, lL_none] at e
          rw [if_pos hk, if_pos hk]
          rcases HE.out with ⟨l, h, _⟩ | ⟨_, h⟩
          · rw [e] at h; simp at h
          · have hb := HM.out.below
            rw [h]
            exact ⟨hb, rfl⟩
        · rw [List.drop_eq_nil_of_le (by rw [HLB.out]; omega), lL_nil] at e
          rw [if_neg hk, if_neg hk]
          rcases HE.out with ⟨l, h, h2, g, h3, h4⟩ | ⟨h, _⟩
          · have hb := HM.out.below
            have ho := HM.out.own
            have hl : l = S := by rw [h] at e; simpa using e
            rw [← hl, h2, ← h4] at ho
            rw [h3]
            exact ⟨hb, _, rfl, ho⟩
          · rw [h] at e; simp at e
      clear HM
      by_cases hk : k < m
      · rw [if_pos hk, if_pos hk] at HQ
        have t1 : (k : Int) < (m : Int) := by omega
        go_wp2
        go_returns
        exact HQ.out
      · rw [if_neg hk, if_neg hk] at HQ
        have t1 : ¬ (k : Int) < (m : Int) := by omega
        go_wp2
        go_returns
        exact HQ.out
end Go.Proofs.Ytmegmjhkjaejgaa.sk
