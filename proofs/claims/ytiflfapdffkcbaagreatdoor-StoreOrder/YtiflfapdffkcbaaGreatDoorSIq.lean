/-
  Merged: SI, SJ.
-/
import Derived.Test.YtiflfapdffkcbaaGreatDoorSGq
namespace Go.Proofs.YtiflfapdffkcbaaGreatDoor
open Go.RowKit Go.Maps Go.WideMaps
set_option maxRecDepth 100000

theorem infoCh : (Tryz.prog.info? 51).map (fun i => (i.zero, i.size, i.bytes)) = some (some (.int .i64 0), 1, 8) := by kernel_rfl
theorem infoCh_parts : ∃ i, Tryz.prog.info? 51 = some i ∧ i.zero = some (.int .i64 0) ∧ i.size = 1 ∧ i.bytes = 8 := by
  have h := infoCh
  cases hi : Tryz.prog.info? 51 with
  | none => rw [hi] at h; simp at h
  | some i => rw [hi] at h; simp at h; exact ⟨i, rfl, h.1, h.2.1, h.2.2⟩
theorem made_row {w : World} {base r n : Nat} (h : w.ownsRow base 51 1 (.slice (some ⟨r, 0, none⟩) n n) n (madeCells #[Value.int .i64 0] n).toList) : w.heap[r]? = some (.cells (chC [] n) 51 (0, 0)) := by
  rcases h.2 with ⟨e, _⟩ | ⟨g, cap, cur, hv, _, hh, _, _, hsz, ht⟩
  · simp at e
  · simp at hv
    obtain ⟨rfl, rfl⟩ := hv
    have hc : cur = chC [] n := by
      apply Array.toList_inj.1
      rw [List.take_of_length_le (by simp [hsz])] at ht
      rw [ht]
      simp [madeCells, chC, Nat.mod_one]
      exact (List.map_const (l := List.range n) (b := Value.int .i64 0)).trans (by rw [List.length_range])
    rw [hh, hc]
theorem pt_start {w w1 w3 : World} {s b : Nat} {M : Tc → Nat} {T : List Tc} {X : List It} {Y : List Sp} (h : StoreAt w s b M T X) (b1 : Below w.heap.size w w1) (g3 : w1.grownBy w3 none) (hr : w3.heap[w1.heap.size]? = some (.cells (chC [] Y.length) 51 (0, 0))) : PtAt w w3 s b M T X w1.heap.size Y 0 M T X := by
  have u : Upd (fun _ => False) w w3 := (Upd.ofBelow b1 (fun k h1 h2 => by omega)).grown g3 (fun _ _ e => by simp at e)
  exact ⟨h.upd u (fun _ _ h => h) (fun _ _ _ _ _ h => h), rfl, hr, u.mono (fun _ _ h => h.elim), fun j hj => Or.inl hj, by omega, b1.size, lt_of_block h.block, fun x hx => Or.inl (Nat.le_trans (h.each x hx).le b1.size), fun x hx => Or.inl hx⟩
theorem putB_any (s b : Nat) (M : Tc → Nat) (T : List Tc) (X : List It) (ad : Option Addr) (cp : Nat) (Y : List Sp) (P : Nat → Pl) (w : World) (h : StoreAt w s b M T X) (hY : SpsAt w ad Y.length Y P) (hF : ∀ a ∈ Y, a.Fits) (hS : ∀ a ∈ Y, a.Small) (hT : Tabs w) (hx : X.length ≤ 1000000000000000) (hn : Y.length < 1000000000000000) (hfit : fitsI X Y ≠ 0) :
    Calls Tryz.prog 8 #[.pointer (some ⟨s, 0, none⟩), .slice ad Y.length cp] w fun e w' => e = .returned (.tuple #[.slice none 0 0, .int .i64 (fitsI X Y)]) ∧ Below w.heap.size w w' := by
  have FI := fits_any s b M T X ad cp Y P w h hY hF hS hT hx hn
  generalize fitsI X Y = fv at *
  have hc1 : (fv != 0) = true := by simpa using hfit
  clear hfit h hY hF hS hT hx hn
  go_enter Tryz.func8, Tryz.ntmps8
  go_wp2_with (go_at_call 16; refine FI.mono ?_; clear FI; rintro e w1 ⟨rfl, b1⟩)
  go_ret2
  exact ⟨rfl, b1⟩
set_option maxHeartbeats 4000000 in
theorem putO_any (s b : Nat) (M : Tc → Nat) (T : List Tc) (X : List It) (ad : Option Addr) (cp : Nat) (Y : List Sp) (P : Nat → Pl) (w : World) (h : StoreAt w s b M T X) (hY : ∀ W, Upd (FT s b M T) w W → SpsAt W ad Y.length Y P) (hF : ∀ a ∈ Y, a.Fits) (hS : ∀ a ∈ Y, a.Small) (hT : Tabs w) (hx : X.length + Y.length < 1000000000000) (hfit : fitsI X Y = 0) :
    Calls Tryz.prog 8 #[.pointer (some ⟨s, 0, none⟩), .slice ad Y.length cp] w fun e w' => ∃ r M' T' X', e = .returned (.tuple #[.slice (some ⟨r, 0, none⟩) Y.length Y.length, .int .i64 0]) ∧ PtAt w w' s b M T X r Y Y.length M' T' X' := by
  have FI := fits_any s b M T X ad cp Y P w h (hY w (Upd.refl _ _)) hF hS hT (by omega) (by omega)
  rw [hfit] at FI
  obtain ⟨i2, hj, hy0, hy1, hy2⟩ := infoCh_parts
  have ST := fun w1 w3 b1 g3 hr => pt_start (w1 := w1) (w3 := w3) (Y := Y) h b1 g3 hr
  have HST : Hid _ := ST
  have HX : Hid _ := hY
  have PUT : ∀ wr r k (hk : k < Y.length) M' T' X' p, PtAt w wr s b M T X r Y k M' T' X' → SpAt wr Y[k] p → Calls Tryz.prog 18 #[.pointer (some ⟨s, 0, none⟩), spV Y[k] p] (wr.alloc (.cells (spC Y[k] p) 41)) fun e w2 => e = .returned (.int .i64 (becI (spsX X') Y[k])) ∧ ∃ M2 T2 X2, w2.cell? ⟨r, k, none⟩ = some (.int .i64 0) ∧ w2.frozen? ⟨r, k, none⟩ = false ∧ PtAt w (w2.setCell ⟨r, k, none⟩ (.int .i64 (becI (spsX X') Y[k]))) s b M T X r Y (k + 1) M2 T2 X2 := by
    intro wr r k hk M' T' X' p hP hat
    have hba : Below wr.heap.size wr (wr.alloc (.cells (spC Y[k] p) 41)) := (Below.refl _ _).alloc (Nat.le_refl _) _
    refine (put_any s b M' T' X' Y[k] p _ (hP.st.below hba) (hat.below hba) (hF _ (List.getElem_mem hk)) (hS _ (List.getElem_mem hk)) (fits_zero hfit _ (List.getElem_mem hk)) (by have := hP.len; omega)).mono ?_
    rintro e w2 ⟨rfl, M2, T2, X2, s2, e2, u2, f2, l2, m2⟩
    exact ⟨rfl, M2, T2, X2, pt_step hP hk _ s2 e2 u2 f2 l2 m2⟩
  have HPUT : Hid _ := PUT
  obtain ⟨N, hN⟩ : ∃ N, Y.length = N := ⟨_, rfl⟩
  have HN : Hid (Y.length = N) := hN
  have hn : N < 1000000000000 := by omega
  rw [hN] at FI HX ⊢
  clear hN hY hF hS hT h hx hfit ST PUT
  go_enter Tryz.func8, Tryz.ntmps8
  go_wp2_with (first
    | (go_at_call 16; refine FI.mono ?_; clear FI; rintro e w1 ⟨rfl, b1⟩)
    | (at_make; refine wpList_make_full _ rfl (.tmp 17) (.tmp 17) 26 rfl w1.heap.size 51 i2 (.int .i64 0) 1 Tryz.underlying26 hj hy0 hy1 .i64 .i64 _ _ N rfl rfl ?m1 ?m2 ?m3 ?m4 ?m5 ?_))
  case m1 => rfl
  case m2 => rfl
  case m3 => rw [hy2]; omega
  case m4 => unfold maxLen; omega
  case m5 => omega
  intro w3 o3 g3
  have P0 := HST.out w1 w3 b1 g3 (by rw [HN.out]; exact made_row o3)
  have HP0 : Hid _ := P0
  obtain ⟨r, hr⟩ : ∃ r, w1.heap.size = r := ⟨_, rfl⟩
  rw [hr] at HP0 ⊢
  clear P0 o3 g3 b1 hr HST hj hy0 hy1 hy2
  go_wp2
  go_loopw [21] (fun x wr => ∃ (k : Nat) (M' : Tc → Nat) (T' : List Tc) (X' : List It), x = .int .i64 k ∧ k ≤ N ∧ PtAt w wr s b M T X r Y k M' T' X') (fun x _ => N - (intOf x).toNat)
  case atStart => exact ⟨0, M, T, X, rfl, by omega, HP0.out⟩
  case round =>
    obtain ⟨k, M', T', X', rfl, hk, hP⟩ := hrel
    have hNN := HN.out
    by_cases hlt : k < N
    · have hkY : k < Y.length := by omega
      have SP := HX.out wr hP.upd
      obtain ⟨b1, o1, rfl, hc1⟩ := SP.lies (by omega)
      have hat := SP.each k hkY
      have PT := HPUT.out wr r k hkY M' T' X' (P k) hP hat
      obtain ⟨a, ha⟩ : ∃ a, Y[k]'hkY = a := ⟨_, rfl⟩
      obtain ⟨p, hp⟩ : ∃ p, P k = p := ⟨_, rfl⟩
      rw [ha, hp] at PT
      have hcx : ∀ j u, (spC a p)[j]? = some u → wr.cell? ⟨b1, o1 + k * 13 + j, none⟩ = some u := fun j u hu => hc1 k hkY j u (by rw [ha, hp]; exact hu)
      have g0 : wr.cell? ⟨b1, o1 + k * 13, none⟩ = some (.int .u64 a.hi) := hcx 0 _ rfl
      have g1 := hcx 1 _ rfl
      have g2 := hcx 2 _ rfl
      have g3 := hcx 3 _ rfl
      have g4 := hcx 4 _ rfl
      have g5 := hcx 5 _ rfl
      have g6 := hcx 6 _ rfl
      have g7 := hcx 7 _ rfl
      have g8 := hcx 8 _ rfl
      have g9 := hcx 9 _ rfl
      have g10 := hcx 10 _ rfl
      have g11 := hcx 11 _ rfl
      have g12 := hcx 12 _ rfl
      have X0 := heap_alloc_new wr (.cells (spC a p) 41)
      have bx0 := blk_cell X0 0 rfl
      have bx1 := blk_cell X0 1 rfl
      have bx2 := blk_cell X0 2 rfl
      have bx3 := blk_cell X0 3 rfl
      have bx4 := blk_cell X0 4 rfl
      have bx5 := blk_cell X0 5 rfl
      have bx6 := blk_cell X0 6 rfl
      have bx7 := blk_cell X0 7 rfl
      have bx8 := blk_cell X0 8 rfl
      have bx9 := blk_cell X0 9 rfl
      have bx10 := blk_cell X0 10 rfl
      have bx11 := blk_cell X0 11 rfl
      have bx12 := blk_cell X0 12 rfl
      have lb1 : b1 < wr.heap.size := World.block_lt_of_cell? wr _ g0
      have j1 : (k : Int) < (N : Int) := by omega
      have j2 : (N : Int) < 1000000000000 := by omega
      have HK : Hid (k < N) := hlt
      generalize becI (spsX X') a = bc at PT
      clear hc1 hcx hat hNN X0 ha hp HX HPUT HP0 hlt hP SP hkY hk hn
      unfold spV at PT
      unfold spC at *
      go_wp2_with (go_at_call 18; refine PT.mono ?_; clear PT; rintro e w2 ⟨rfl, M2, T2, X2, q1, q2, q3⟩; have HQ : Hid _ := q3; clear q3)
      go_roundw
      case rel => exact ⟨k + 1, M2, T2, X2, by simp, HK.out, HQ.out⟩
      case measure => simp [intOf]; have := HK.out; omega
    · obtain rfl : k = N := by omega
      have HP : Hid _ := hP
      clear hP HX HPUT HP0 hNN
      go_wp2
      go_returns
      exact ⟨r, M', T', X', rfl, HP.out⟩
end Go.Proofs.YtiflfapdffkcbaaGreatDoor

namespace Go.Proofs.YtiflfapdffkcbaaGreatDoor
open Go.RowKit Go.Maps Go.WideMaps
set_option maxRecDepth 100000

theorem new_any (w : World) :
    Calls Tryz.prog 7 #[] w fun e w' => e = .returned (.pointer (some ⟨w.heap.size + 1, 0, none⟩)) ∧ StoreAt w' (w.heap.size + 1) w.heap.size (fun _ => 0) [] [] ∧ Below w.heap.size w w' ∧ w'.heap.size = w.heap.size + 2 := by
  have hmm := @run_makeMap Tryz.prog
  go_enter Tryz.func7, Tryz.ntmps7
  go_wp2
  go_returns
  refine ⟨rfl, ⟨⟨?_, fun x hx => by simp at hx, fun x hx => by simp at hx, by simp, fun t ht => by simp at ht, by simp⟩, alloc_at (by simp)⟩, ((Below.refl _ _).alloc (Nat.le_refl _) _).alloc (by simp) _, by simp⟩
  exact (Nest.made w).upd (S := fun _ => False) ((Upd.refl _ _).alloc _) (fun h => h) (fun _ _ h => h)
theorem count_any (s b : Nat) (M : Tc → Nat) (T : List Tc) (X : List It) (w : World) (h : StoreAt w s b M T X) :
    Calls Tryz.prog 9 #[.pointer (some ⟨s, 0, none⟩)] w fun e w' => e = .returned (.int .i64 (X.length : Int)) ∧ w' = w := by
  have c1 := blk_cell h.block 1 rfl
  clear h
  generalize (X.length : Int) = n at *
  go_enter Tryz.func9, Tryz.ntmps9
  go_wp2
  go_returns
  exact ⟨rfl, rfl⟩
def cntL (L : List Sp) (t : Tc) : Nat := (L.filter (fun a => decide ((nmS a).1 = t))).length
def newLS (L : List Sp) (E : List (Nm × Value)) (a : Sp) : List (Nm × Value) := if (findL L (nmS a)).isSome = true then E else setE E (nmS a) unV
def newL (L : List Sp) (Y : List Sp) : List (Nm × Value) := Y.foldl (newLS L) []
def roomL (L : List Sp) (N : List (Nm × Value)) : Int :=
  if N.any (fun e => decide (1000 < cntL L e.1.1 + cntE N e.1.1)) = true then 91 else if 100000 < L.length + N.length then 92 else 0
def fitsL (L : List Sp) (Y : List Sp) : Int := match Y.find? (fun a => decide (chkS a ≠ 0)) with | some a => chkS a | none => roomL L (newL L Y)
theorem cnt_sps (t : Tc) : ∀ X : List It, cntE (entE X) t = cntL (spsX X) t
  | [] => rfl
  | x :: r => by
    have ih := cnt_sps t r
    unfold cntE entE cntL spsX at ih ⊢
    by_cases h : (nmS x.a).1 = t <;> simp [h] at ih ⊢ <;> exact ih
theorem new_sps (X : List It) (Y : List Sp) : newE X Y = newL (spsX X) Y := by
  unfold newE newL
  congr 1
  funext E a
  unfold newS newLS
  rw [find_sps, Option.isSome_map]
theorem fits_sps (X : List It) (Y : List Sp) : fitsI X Y = fitsL (spsX X) Y := by
  have hr : ∀ N, roomI X N = roomL (spsX X) N := fun N => by
    unfold roomI roomL
    simp only [cnt_sps]
    rw [show (spsX X).length = X.length by simp [spsX]]
  unfold fitsI fitsL
  rw [hr, new_sps]
  cases List.find? (fun a => decide (chkS a ≠ 0)) Y <;> rfl
set_option maxHeartbeats 4000000 in
theorem get_found (s b : Nat) (M : Tc → Nat) (T : List Tc) (X : List It) (n : Nm) (hn : NmOk n) (y : It) (w : World) (h : StoreAt w s b M T X) (hy : findX X n = some y) :
    Calls Tryz.prog 12 #[.pointer (some ⟨s, 0, none⟩), tcV n.1, .int .u64 n.2] w fun e w' => ∃ p', e = .returned (.tuple #[spV y.a p', .bool true]) ∧ Below w.heap.size w w' := by
  have hI := h.each y (find_mem hy).1
  have hG := chk_good hI.chk
  have CL := fun W (hb : Below w.heap.size w W) => clone_any y.a y.p W (hI.at.below hb) (Nat.le_trans hG.links (by omega)) (Nat.le_trans hG.attrs (by omega)) (Nat.le_trans hG.events (by omega))
  have hin := in_of_find h hy
  have B1 : Below w.heap.size w (((w.alloc (.cells #[.int .u64 n.1.1, .int .u64 n.1.2] 33)).alloc (.cells zC 41)).drew) := (((Below.refl _ _).alloc (Nat.le_refl _) _).alloc (by simp) _).drew
  have B2 : ∀ o, Below w.heap.size w ((((w.alloc (.cells #[.int .u64 n.1.1, .int .u64 n.1.2] 33)).alloc (.cells zC 41)).alloc o).drew) := fun o => ((((Below.refl _ _).alloc (Nat.le_refl _) _).alloc (by simp) _).alloc (by simp; omega) _).drew
  have LL : ∀ W, Below w.heap.size w W → (Instr.lookup 53 (.map (some b)) (tcV n.1) false).run Tryz.prog W = .ok (.map (some (M n.1))) W ∧ (Instr.lookup 61 (.map (some (M n.1))) (.int .u64 n.2) true).run Tryz.prog W = .ok (.tuple #[spV y.a y.p, .bool true]) W ∧ W.cell? ⟨s, 0, none⟩ = some (.map (some b)) := fun W hb => by
    have l1 := (h.below hb).nest.look Tryz.underlying53 (zT _) n.1 hn.1
    have l2 := (h.below hb).nest.look2 Tryz.underlying61 (zS _) n.1 n.2 hn.2
    rw [inV, if_pos hin] at l1 l2
    rw [show ((n.1, n.2) : Nm) = n from rfl, look_ent, hy] at l2
    exact ⟨l1, l2, blk_cell (h.below hb).block 0 rfl⟩
  obtain ⟨L1, L2, c1⟩ := LL _ B1
  obtain ⟨L3, L4, c2⟩ := LL _ (B2 (.cells zC 41))
  have sz : ∀ o, (((w.alloc (.cells #[.int .u64 n.1.1, .int .u64 n.1.2] 33)).alloc (.cells zC 41)).alloc o).heap.size = w.heap.size + 3 := fun o => by rw [World.size_alloc, World.size_alloc, World.size_alloc]
  have BX : ∀ o, (((w.alloc (.cells #[.int .u64 n.1.1, .int .u64 n.1.2] 33)).alloc (.cells zC 41)).alloc o).heap[w.heap.size + 1]? = some (.cells zC 41 (0, 0)) := fun o => (Below.heap_alloc _ _ _ (by rw [World.size_alloc, World.size_alloc]; omega)).trans (alloc_at (by rw [World.size_alloc]))
  have RES : ∀ o w5, Below ((((w.alloc (.cells #[.int .u64 n.1.1, .int .u64 n.1.2] 33)).alloc (.cells zC 41)).alloc o).drew).heap.size ((((w.alloc (.cells #[.int .u64 n.1.1, .int .u64 n.1.2] 33)).alloc (.cells zC 41)).alloc o).drew) w5 → w5.heap[w.heap.size + 1]? = some (.cells zC 41 (0, 0)) ∧ Below w.heap.size w w5 := fun o w5 hb => ⟨(hb.block (w.heap.size + 1) (by show _ < (((w.alloc _).alloc _).alloc o).heap.size; rw [sz]; omega)).trans (BX o), (B2 o).trans (hb.mono (B2 o).size)⟩
  have HCL : Hid _ := CL
  have HRES : Hid _ := RES
  have HB2 : Hid _ := B2
  clear LL CL RES B1 B2 BX sz h hn hy hI hG hin
  obtain ⟨⟨n1, n2⟩, n3⟩ := n
  generalize M (n1, n2) = mb at *
  unfold tcV zC spV spC at *
  go_enter Tryz.func12, Tryz.ntmps12
  go_wp2
  go_region
  all_goals
    go_wp2_with (go_at_call 20; refine (HCL.out _ (HB2.out _)).mono ?_; rintro e w5 ⟨p', rfl, hst, hb5⟩; obtain ⟨R5, bw⟩ := HRES.out _ _ hb5; have o0 := blk_cell R5 0 rfl; have f0 := blk_free R5 0; have o1 := blk_cell R5 1 rfl; have f1 := blk_free R5 1; have o2 := blk_cell R5 2 rfl; have f2 := blk_free R5 2; have o3 := blk_cell R5 3 rfl; have f3 := blk_free R5 3; have o4 := blk_cell R5 4 rfl; have f4 := blk_free R5 4; have o5 := blk_cell R5 5 rfl; have f5 := blk_free R5 5; have o6 := blk_cell R5 6 rfl; have f6 := blk_free R5 6; have o7 := blk_cell R5 7 rfl; have f7 := blk_free R5 7; have o8 := blk_cell R5 8 rfl; have f8 := blk_free R5 8; have o9 := blk_cell R5 9 rfl; have f9 := blk_free R5 9; have o10 := blk_cell R5 10 rfl; have f10 := blk_free R5 10; have o11 := blk_cell R5 11 rfl; have f11 := blk_free R5 11; have o12 := blk_cell R5 12 rfl; have f12 := blk_free R5 12)
    (try simp only [Exit.inBlock, Exit.then])
    rw [set13_eq w5 (w.heap.size + 1) 41 _ _ _ _ _ _ _ _ _ _ _ _ _ _ _ _ _ _ _ _ _ _ _ _ _ _ R5]
    have hrow := setRow_heap w5 (w.heap.size + 1) _ #[.int .u64 y.a.hi, .int .u64 y.a.lo, .int .u64 y.a.id, .int .u64 y.a.par, .slice p'.la y.a.links.length p'.lc, .string y.a.svc, .string y.a.op, .int .i64 y.a.kind, .int .i64 y.a.status, .int .i64 y.a.start, .int .i64 y.a.fin, .slice p'.aa y.a.attrs.length p'.ac, .slice p'.ea y.a.events.length p'.ec] 41 (0, 0) R5
    have hld := run_loadVar_row (P := Tryz.prog) (w5.setRow (w.heap.size + 1) #[.int .u64 y.a.hi, .int .u64 y.a.lo, .int .u64 y.a.id, .int .u64 y.a.par, .slice p'.la y.a.links.length p'.lc, .string y.a.svc, .string y.a.op, .int .i64 y.a.kind, .int .i64 y.a.status, .int .i64 y.a.start, .int .i64 y.a.fin, .slice p'.aa y.a.attrs.length p'.ac, .slice p'.ea y.a.events.length p'.ec]) (w.heap.size + 1) 41 41 #[.int .u64 y.a.hi, .int .u64 y.a.lo, .int .u64 y.a.id, .int .u64 y.a.par, .slice p'.la y.a.links.length p'.lc, .string y.a.svc, .string y.a.op, .int .i64 y.a.kind, .int .i64 y.a.status, .int .i64 y.a.start, .int .i64 y.a.fin, .slice p'.aa y.a.attrs.length p'.ac, .slice p'.ea y.a.events.length p'.ec] (0, 0) _ hrow Tryz.underlying41 rfl Tryz.info41
    refine bodyPost_ret (v := .tuple #[.agg #[.int .u64 y.a.hi, .int .u64 y.a.lo, .int .u64 y.a.id, .int .u64 y.a.par, .slice p'.la y.a.links.length p'.lc, .string y.a.svc, .string y.a.op, .int .i64 y.a.kind, .int .i64 y.a.status, .int .i64 y.a.start, .int .i64 y.a.fin, .slice p'.aa y.a.attrs.length p'.ac, .slice p'.ea y.a.events.length p'.ec], .bool true]) ?_ rfl ⟨p', rfl, below_setRow bw (by omega) _⟩
    rw [results_cell_tmp rfl]
    simp [asAddr, Result.andThen, hld]
end Go.Proofs.YtiflfapdffkcbaaGreatDoor
