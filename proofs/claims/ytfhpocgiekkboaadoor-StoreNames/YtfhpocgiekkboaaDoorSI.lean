/-
  Layer 9 (store): Put, New, Get, Count.
-/
import Derived.Test.YtfhpocgiekkboaaDoorSH
namespace Go.Proofs.YtfhpocgiekkboaaDoor
open Go.RowKit Go.Maps Go.WideMaps
set_option maxRecDepth 100000

theorem infoCh : (Tryd.prog.info? 44).map (fun i => (i.zero, i.size, i.bytes)) = some (some (.int .i64 0), 1, 8) := by kernel_rfl
theorem infoCh_parts : ∃ i, Tryd.prog.info? 44 = some i ∧ i.zero = some (.int .i64 0) ∧ i.size = 1 ∧ i.bytes = 8 := by
  have h := infoCh
  cases hi : Tryd.prog.info? 44 with
  | none => rw [hi] at h; simp at h
  | some i => rw [hi] at h; simp at h; exact ⟨i, rfl, h.1, h.2.1, h.2.2⟩
theorem made_row {w : World} {base r n : Nat} (h : w.ownsRow base 44 1 (.slice (some ⟨r, 0, none⟩) n n) n (madeCells #[Value.int .i64 0] n).toList) : w.heap[r]? = some (.cells (chC [] n) 44 (0, 0)) := by
  rcases h.2 with ⟨e, _⟩ | ⟨g, cap, cur, hv, _, hh, _, _, hsz, ht⟩
  · simp at e
  · simp at hv
    obtain ⟨rfl, rfl⟩ := hv
    have hc : cur = chC [] n := by
      apply Array.toList_inj.1
      rw [List.take_of_length_le (by simp [hsz])] at ht
      rw [ht]
      simp [madeCells, chC, Nat.mod_one]
      exact (List.map_const (l := List.range n) (b := Value.int .i64 0)).trans (by rw [List.length_range])
    rw [hh, hc]
theorem pt_start {w w1 w3 : World} {s b : Nat} {M : Tc → Nat} {T : List Tc} {X : List It} {Y : List Sp} (h : StoreAt w s b M T X) (b1 : Below w.heap.size w w1) (g3 : w1.grownBy w3 none) (hr : w3.heap[w1.heap.size]? = some (.cells (chC [] Y.length) 44 (0, 0))) : PtAt w w3 s b M T X w1.heap.size Y 0 M T X := by
  have u : Upd (fun _ => False) w w3 := (Upd.ofBelow b1 (fun k h1 h2 => by omega)).grown g3 (fun _ _ e => by simp at e)
  exact ⟨h.upd u (fun _ _ h => h) (fun _ _ _ _ _ h => h), rfl, hr, u.mono (fun _ _ h => h.elim), fun j hj => Or.inl hj, by omega, b1.size, lt_of_block h.block, fun x hx => Or.inl (Nat.le_trans (h.each x hx).le b1.size)⟩
theorem putB_any (s b : Nat) (M : Tc → Nat) (T : List Tc) (X : List It) (ad : Option Addr) (cp : Nat) (Y : List Sp) (P : Nat → Pl) (w : World) (h : StoreAt w s b M T X) (hY : SpsAt w ad Y.length Y P) (hF : ∀ a ∈ Y, a.Fits) (hS : ∀ a ∈ Y, a.Small) (hT : Tabs w) (hx : X.length ≤ 1000000000000000) (hn : Y.length < 1000000000000000) (hfit : fitsI X Y ≠ 0) :
    Calls Tryd.prog 6 #[.pointer (some ⟨s, 0, none⟩), .slice ad Y.length cp] w fun e w' => e = .returned (.tuple #[.slice none 0 0, .int .i64 (fitsI X Y)]) ∧ Below w.heap.size w w' := by
  have FI := fits_any s b M T X ad cp Y P w h hY hF hS hT hx hn
  generalize fitsI X Y = fv at *
  have hc1 : (fv != 0) = true := by simpa using hfit
  clear hfit h hY hF hS hT hx hn
  go_enter Tryd.func6, Tryd.ntmps6
  go_wp2_with (go_at_call 10; refine FI.mono ?_; clear FI; rintro e w1 ⟨rfl, b1⟩)
  go_ret2
  exact ⟨rfl, b1⟩
set_option maxHeartbeats 4000000 in
theorem putO_any (s b : Nat) (M : Tc → Nat) (T : List Tc) (X : List It) (ad : Option Addr) (cp : Nat) (Y : List Sp) (P : Nat → Pl) (w : World) (h : StoreAt w s b M T X) (hY : ∀ W, Upd (FT s b M T) w W → SpsAt W ad Y.length Y P) (hF : ∀ a ∈ Y, a.Fits) (hS : ∀ a ∈ Y, a.Small) (hT : Tabs w) (hx : X.length + Y.length < 1000000000000) (hfit : fitsI X Y = 0) :
    Calls Tryd.prog 6 #[.pointer (some ⟨s, 0, none⟩), .slice ad Y.length cp] w fun e w' => ∃ r M' T' X', e = .returned (.tuple #[.slice (some ⟨r, 0, none⟩) Y.length Y.length, .int .i64 0]) ∧ PtAt w w' s b M T X r Y Y.length M' T' X' := by
  have FI := fits_any s b M T X ad cp Y P w h (hY w (Upd.refl _ _)) hF hS hT (by omega) (by omega)
  rw [hfit] at FI
  obtain ⟨i2, hj, hy0, hy1, hy2⟩ := infoCh_parts
  have ST := fun w1 w3 b1 g3 hr => pt_start (w1 := w1) (w3 := w3) (Y := Y) h b1 g3 hr
  have HST : Hid _ := ST
  have HX : Hid _ := hY
  have PUT : ∀ wr r k (hk : k < Y.length) M' T' X' p, PtAt w wr s b M T X r Y k M' T' X' → SpAt wr Y[k] p → Calls Tryd.prog 11 #[.pointer (some ⟨s, 0, none⟩), spV Y[k] p] (wr.alloc (.cells (spC Y[k] p) 39)) fun e w2 => e = .returned (.int .i64 (becI (spsX X') Y[k])) ∧ ∃ M2 T2 X2, w2.cell? ⟨r, k, none⟩ = some (.int .i64 0) ∧ w2.frozen? ⟨r, k, none⟩ = false ∧ PtAt w (w2.setCell ⟨r, k, none⟩ (.int .i64 (becI (spsX X') Y[k]))) s b M T X r Y (k + 1) M2 T2 X2 := by
    intro wr r k hk M' T' X' p hP hat
    have hba : Below wr.heap.size wr (wr.alloc (.cells (spC Y[k] p) 39)) := (Below.refl _ _).alloc (Nat.le_refl _) _
    refine (put_any s b M' T' X' Y[k] p _ (hP.st.below hba) (hat.below hba) (hF _ (List.getElem_mem hk)) (hS _ (List.getElem_mem hk)) (fits_zero hfit _ (List.getElem_mem hk)) (by have := hP.len; omega)).mono ?_
    rintro e w2 ⟨rfl, M2, T2, X2, s2, e2, u2, f2, l2, m2⟩
    exact ⟨rfl, M2, T2, X2, pt_step hP hk _ s2 e2 u2 f2 l2 m2⟩
  have HPUT : Hid _ := PUT
  obtain ⟨N, hN⟩ : ∃ N, Y.length = N := ⟨_, rfl⟩
  have HN : Hid (Y.length = N) := hN
  have hn : N < 1000000000000 := by omega
  rw [hN] at FI HX ⊢
  clear hN hY hF hS hT h hx hfit ST PUT
  go_enter Tryd.func6, Tryd.ntmps6
  go_wp2_with (first
    | (go_at_call 10; refine FI.mono ?_; clear FI; rintro e w1 ⟨rfl, b1⟩)
    | (at_make; refine wpList_make_full _ rfl (.tmp 17) (.tmp 17) 25 rfl w1.heap.size 44 i2 (.int .i64 0) 1 Tryd.underlying25 hj hy0 hy1 .i64 .i64 _ _ N rfl rfl ?m1 ?m2 ?m3 ?m4 ?m5 ?_))
  case m1 => rfl
  case m2 => rfl
  case m3 => rw [hy2]; omega
  case m4 => unfold maxLen; omega
  case m5 => omega
  intro w3 o3 g3
  have P0 := HST.out w1 w3 b1 g3 (by rw [HN.out]; exact made_row o3)
  have HP0 : Hid _ := P0
  obtain ⟨r, hr⟩ : ∃ r, w1.heap.size = r := ⟨_, rfl⟩
  rw [hr] at HP0 ⊢
  clear P0 o3 g3 b1 hr HST hj hy0 hy1 hy2
  go_wp2
  go_loopw [21] (fun x wr => ∃ (k : Nat) (M' : Tc → Nat) (T' : List Tc) (X' : List It), x = .int .i64 k ∧ k ≤ N ∧ PtAt w wr s b M T X r Y k M' T' X') (fun x _ => N - (intOf x).toNat)
  case atStart => exact ⟨0, M, T, X, rfl, by omega, HP0.out⟩
  case round =>
    obtain ⟨k, M', T', X', rfl, hk, hP⟩ := hrel
    have hNN := HN.out
    by_cases hlt : k < N
    · have hkY : k < Y.length := by omega
      have SP := HX.out wr hP.upd
      obtain ⟨b1, o1, rfl, hc1⟩ := SP.lies (by omega)
      have hat := SP.each k hkY
      have PT := HPUT.out wr r k hkY M' T' X' (P k) hP hat
      obtain ⟨a, ha⟩ : ∃ a, Y[k]'hkY = a := ⟨_, rfl⟩
      obtain ⟨p, hp⟩ : ∃ p, P k = p := ⟨_, rfl⟩
      rw [ha, hp] at PT
      have hcx : ∀ j u, (spC a p)[j]? = some u → wr.cell? ⟨b1, o1 + k * 13 + j, none⟩ = some u := fun j u hu => hc1 k hkY j u (by rw [ha, hp]; exact hu)
      have g0 : wr.cell? ⟨b1, o1 + k * 13, none⟩ = some (.int .u64 a.hi) := hcx 0 _ rfl
      have g1 := hcx 1 _ rfl
      have g2 := hcx 2 _ rfl
      have g3 := hcx 3 _ rfl
      have g4 := hcx 4 _ rfl
      have g5 := hcx 5 _ rfl
      have g6 := hcx 6 _ rfl
      have g7 := hcx 7 _ rfl
      have g8 := hcx 8 _ rfl
      have g9 := hcx 9 _ rfl
      have g10 := hcx 10 _ rfl
      have g11 := hcx 11 _ rfl
      have g12 := hcx 12 _ rfl
      have X0 := heap_alloc_new wr (.cells (spC a p) 39)
      have bx0 := blk_cell X0 0 rfl
      have bx1 := blk_cell X0 1 rfl
      have bx2 := blk_cell X0 2 rfl
      have bx3 := blk_cell X0 3 rfl
      have bx4 := blk_cell X0 4 rfl
      have bx5 := blk_cell X0 5 rfl
      have bx6 := blk_cell X0 6 rfl
      have bx7 := blk_cell X0 7 rfl
      have bx8 := blk_cell X0 8 rfl
      have bx9 := blk_cell X0 9 rfl
      have bx10 := blk_cell X0 10 rfl
      have bx11 := blk_cell X0 11 rfl
      have bx12 := blk_cell X0 12 rfl
      have lb1 : b1 < wr.heap.size := World.block_lt_of_cell? wr _ g0
      have j1 : (k : Int) < (N : Int) := by omega
      have j2 : (N : Int) < 1000000000000 := by omega
      have HK : Hid (k < N) := hlt
      generalize becI (spsX X') a = bc at PT
      clear hc1 hcx hat hNN X0 ha hp HX HPUT HP0 hlt hP SP hkY hk hn
      unfold spV at PT
      unfold spC at *
      go_wp2_with (go_at_call 11; refine PT.mono ?_; clear PT; rintro e w2 ⟨rfl, M2, T2, X2, q1, q2, q3⟩; have HQ : Hid _ := q3; clear q3)
      go_roundw
      case rel => exact ⟨k + 1, M2, T2, X2, by simp, HK.out, HQ.out⟩
      case measure => simp [intOf]; have := HK.out; omega
    · obtain rfl : k = N := by omega
      have HP : Hid _ := hP
      clear hP HX HPUT HP0 hNN
      go_wp2
      go_returns
      exact ⟨r, M', T', X', rfl, HP.out⟩
end Go.Proofs.YtfhpocgiekkboaaDoor
