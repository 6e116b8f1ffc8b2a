/-
  Merged: SG, SH.
-/
import Derived.Test.YtiflfapdffkcbaaGreatDoorSEq
namespace Go.Proofs.YtiflfapdffkcbaaGreatDoor
open Go.RowKit Go.Maps Go.WideMaps
set_option maxRecDepth 100000

def findL (L : List Sp) (n : Nm) : Option Sp := L.find? (fun x => decide (nmS x = n))
def becI (L : List Sp) (a : Sp) : Int := match findL L (nmS a) with | none => 0 | some y => if cmpP a y ≤ 0 then 2 else 1
def putLs (L : List Sp) (a : Sp) : List Sp := match findL L (nmS a) with | none => L ++ [a] | some y => if cmpP a y ≤ 0 then L else L.map (fun z => if nmS z = nmS a then a else z)
def spsX (X : List It) : List Sp := X.map (fun x => x.a)
theorem find_sps (n : Nm) : ∀ X : List It, findL (spsX X) n = (findX X n).map (fun x => x.a)
  | [] => rfl
  | x :: r => by
    have ih := find_sps n r
    unfold findL findX spsX at ih ⊢
    by_cases h : nmS x.a = n
    · simp [h]
    · simp [h] at ih ⊢
      exact ih
theorem sps_set (X : List It) (z : It) : spsX (setX X z) = if (findX X (nmS z.a)).isSome = true then (spsX X).map (fun x => if nmS x = nmS z.a then z.a else x) else spsX X ++ [z.a] := by
  unfold setX spsX
  split
  · rw [List.map_map, List.map_map]
    refine List.map_congr_left fun x _ => ?_
    by_cases hx : nmS x.a = nmS z.a <;> simp [hx]
  · simp
theorem put_any (s b : Nat) (M : Tc → Nat) (T : List Tc) (X : List It) (a : Sp) (p : Pl) (w : World) (h : StoreAt w s b M T X) (ha : SpAt w a p) (hf : a.Fits) (hsm : a.Small) (hck : chkS a = 0) (hX : X.length < 1000000000000000) :
    Calls Tryz.prog 18 #[.pointer (some ⟨s, 0, none⟩), spV a p] w fun e w' => e = .returned (.int .i64 (becI (spsX X) a)) ∧ ∃ M' T' X', StoreAt w' s b M' T' X' ∧ spsX X' = putLs (spsX X) a ∧ Upd (FT s b M T) w w' ∧ (∀ k, FT s b M' T' k → FT s b M T k ∨ w.heap.size ≤ k) ∧ X'.length ≤ X.length + 1 ∧ (∀ x, x ∈ X' → x ∈ X ∨ w.heap.size ≤ x.lo) := by
  have hG := chk_good hck
  have l1 : a.links.length ≤ 1000 := Nat.le_trans hG.links (by omega)
  have l2 : a.attrs.length ≤ 1000 := Nat.le_trans hG.attrs (by omega)
  have l3 : a.events.length ≤ 1000 := Nat.le_trans hG.events (by omega)
  have FIN : ∀ w' : World, PutIn w s b M T X a w' → (∀ y, findX X (nmS a) = some y → ¬ cmpP a y.a ≤ 0) → ∃ M' T' X', StoreAt w' s b M' T' X' ∧ spsX X' = putLs (spsX X) a ∧ Upd (FT s b M T) w w' ∧ (∀ k, FT s b M' T' k → FT s b M T k ∨ w.heap.size ≤ k) ∧ X'.length ≤ X.length + 1 ∧ (∀ x, x ∈ X' → x ∈ X ∨ w.heap.size ≤ x.lo) := by
    rintro w' ⟨M', T', z, h1, rfl, h3, h4, h5⟩ hno
    refine ⟨M', T', _, h1, ?_, h3, h4, ?_, fun x hx => ?_⟩
    · rw [sps_set, putLs, find_sps]
      cases hfx : findX X (nmS z.a) with
      | none => simp
      | some y => simp [hno y hfx]
    · rw [set_len]; split <;> omega
    · rcases mem_set hx with rfl | hx
      · exact Or.inr h5
      · exact Or.inl hx
  cases hfx : findX X (nmS a) with
  | none =>
    have hb : becI (spsX X) a = 0 := by unfold becI; rw [find_sps, hfx]; rfl
    rw [hb]
    by_cases hin : (nmS a).1 ∈ T
    · refine (put_in s b M T X a p w h ha hf hsm hck l1 l2 l3 hfx hX hin).mono ?_
      rintro e w' ⟨rfl, hp⟩
      exact ⟨rfl, FIN w' hp (fun y hy => by rw [hfx] at hy; simp at hy)⟩
    · refine (put_out s b M T X a p w h ha hf hsm hck l1 l2 l3 hfx hX hin).mono ?_
      rintro e w' ⟨rfl, hp⟩
      exact ⟨rfl, FIN w' hp (fun y hy => by rw [hfx] at hy; simp at hy)⟩
  | some y =>
    by_cases hle : cmpP a y.a ≤ 0
    · have hb : becI (spsX X) a = 2 := by unfold becI; rw [find_sps, hfx]; simp [hle]
      have hpl : putLs (spsX X) a = spsX X := by unfold putLs; rw [find_sps, hfx]; simp [hle]
      rw [hb, hpl]
      refine (put_kept s b M T X a p y w h ha hf hfx hle).mono ?_
      rintro e w' ⟨rfl, hb'⟩
      exact ⟨rfl, M, T, X, h.below hb', rfl, Upd.ofBelow hb' (fun k h1 h2 => by omega), fun k hk => Or.inl hk, by omega, fun x hx => Or.inl hx⟩
    · have hb : becI (spsX X) a = 1 := by unfold becI; rw [find_sps, hfx]; simp [hle]
      rw [hb]
      refine (put_better s b M T X a p y w h ha hf hsm hck l1 l2 l3 hfx hle hX).mono ?_
      rintro e w' ⟨rfl, hp⟩
      exact ⟨rfl, FIN w' hp (fun y' hy => by rw [hfx] at hy; simp at hy; subst hy; exact hle)⟩
def fitsI (X : List It) (Y : List Sp) : Int := match Y.find? (fun a => decide (chkS a ≠ 0)) with | some a => chkS a | none => roomI X (newE X Y)
theorem fits_at {X : List It} {Y : List Sp} {i : Nat} (hi : i < Y.length) (h0 : ∀ j (hj : j < i), chkS (Y[j]'(by omega)) = 0) (hc : chkS Y[i] ≠ 0) : fitsI X Y = chkS Y[i] := by
  have : Y.find? (fun a => decide (chkS a ≠ 0)) = some Y[i] := by
    rw [List.find?_eq_some_iff_getElem]
    refine ⟨by simpa using hc, i, hi, rfl, fun j hj => ?_⟩
    simpa using h0 j hj
  unfold fitsI
  rw [this]
theorem fits_room {X : List It} {Y : List Sp} (h0 : ∀ j (hj : j < Y.length), chkS Y[j] = 0) : fitsI X Y = roomI X (newE X Y) := by
  have : Y.find? (fun a => decide (chkS a ≠ 0)) = none := by
    rw [List.find?_eq_none]
    intro a ha
    obtain ⟨j, hj, rfl⟩ := List.mem_iff_getElem.1 ha
    simpa using h0 j hj
  unfold fitsI
  rw [this]
set_option maxHeartbeats 4000000 in
theorem fits_any (s b : Nat) (M : Tc → Nat) (T : List Tc) (X : List It) (ad : Option Addr) (cp : Nat) (Y : List Sp) (P : Nat → Pl) (w : World) (h : StoreAt w s b M T X) (hY : SpsAt w ad Y.length Y P) (hF : ∀ a ∈ Y, a.Fits) (hS : ∀ a ∈ Y, a.Small) (hT : Tabs w) (hx : X.length ≤ 1000000000000000) (hn : Y.length < 1000000000000000) :
    Calls Tryz.prog 16 #[.pointer (some ⟨s, 0, none⟩), .slice ad Y.length cp] w fun e w' => e = .returned (.int .i64 (fitsI X Y)) ∧ Below w.heap.size w w' := by
  have NC := fun W (hb : Below w.heap.size w W) => newcomers_any s b M T X ad cp Y P W (h.below hb) (hY.below hb) hF hn
  have RM : ∀ W MN TN W', Below w.heap.size w W → NwE W W' MN TN (newE X Y) Y.length → NwF TN (newE X Y) → Calls Tryz.prog 30 #[.pointer (some ⟨s, 0, none⟩), .map (some W.heap.size)] W' fun e w' => e = .returned (.int .i64 (roomI X (newE X Y))) ∧ Below W'.heap.size W' w' := fun W MN TN W' hb hN hf => by
    refine room_any s b W.heap.size M MN T TN X (newE X Y) W' (h.below (hb.trans (hN.below.mono hb.size))) hN.nest hN.ok (fun e he => ?_) hf hx (by have := hN.el; omega)
    have hs : (lookE (newE X Y) e.1).isSome = true := by
      unfold lookE
      simp
      exact ⟨e.2, he⟩
    obtain ⟨u, hu⟩ := Option.isSome_iff_exists.1 hs
    exact hN.nest.sub _ _ hu
  have HNC : Hid _ := NC
  have HRM : Hid _ := RM
  have HX : Hid (SpsAt w ad Y.length Y P) := hY
  have HS : Hid (∀ k (hk : k < Y.length), Y[k].Small) := fun k hk => hS _ (List.getElem_mem hk)
  have HFA : Hid _ := fun (i : Nat) (hi : i < Y.length) h0 hc => fits_at (X := X) (Y := Y) hi h0 hc
  have HFR : Hid _ := fun h0 => fits_room (X := X) (Y := Y) h0
  obtain ⟨N, hN⟩ : ∃ N, Y.length = N := ⟨_, rfl⟩
  have HN : Hid (Y.length = N) := hN
  rw [hN] at hn HX HNC ⊢
  generalize fitsI X Y = fv at *
  clear hN hY hF hS NC RM h hx
  go_enter Tryz.func16, Tryz.ntmps16
  go_wp2
  go_loopw [10] (fun b wr => ∃ k : Nat, b = .int .i64 k ∧ k ≤ N ∧ Below w.heap.size w wr ∧ ∀ j (hj : j < Y.length), j < k → chkS Y[j] = 0) (fun b _ => N - (intOf b).toNat)
  case atStart => exact ⟨0, rfl, by omega, Below.refl _ _, fun j _ hj => by omega⟩
  case round =>
    obtain ⟨k, rfl, hk, hb, hz⟩ := hrel
    have HZ : Hid _ := hz
    clear hz
    have hNN := HN.out
    by_cases hlt : k < N
    · obtain ⟨b1, o1, rfl, hc1⟩ := (HX.out.below hb).lies (by omega)
      have hat := (HX.out.below hb).each k (by omega)
      have hsm := HS.out k (by omega)
      have hkY : k < Y.length := by omega
      obtain ⟨a, ha⟩ : ∃ a, Y[k]'hkY = a := ⟨_, rfl⟩
      obtain ⟨p, hp⟩ : ∃ p, P k = p := ⟨_, rfl⟩
      rw [ha, hp] at hat
      rw [ha] at hsm
      have hcx : ∀ j u, (spC a p)[j]? = some u → wr.cell? ⟨b1, o1 + k * 13 + j, none⟩ = some u := fun j u hu => hc1 k (by omega) j u (by rw [ha, hp]; exact hu)
      have g0 : wr.cell? ⟨b1, o1 + k * 13, none⟩ = some (.int .u64 a.hi) := hcx 0 _ rfl
      have g1 := hcx 1 _ rfl
      have g2 := hcx 2 _ rfl
      have g3 := hcx 3 _ rfl
      have g4 := hcx 4 _ rfl
      have g5 := hcx 5 _ rfl
      have g6 := hcx 6 _ rfl
      have g7 := hcx 7 _ rfl
      have g8 := hcx 8 _ rfl
      have g9 := hcx 9 _ rfl
      have g10 := hcx 10 _ rfl
      have g11 := hcx 11 _ rfl
      have g12 := hcx 12 _ rfl
      have hba : Below wr.heap.size wr (wr.alloc (.cells (spC a p) 41)) := (Below.refl _ _).alloc (Nat.le_refl _) _
      have hTw : Tabs (wr.alloc (.cells (spC a p) 41)) := hT.below (hb.trans (hba.mono hb.size))
      have X0 := heap_alloc_new wr (.cells (spC a p) 41)
      have bx0 := blk_cell X0 0 rfl
      have bx1 := blk_cell X0 1 rfl
      have bx2 := blk_cell X0 2 rfl
      have bx3 := blk_cell X0 3 rfl
      have bx4 := blk_cell X0 4 rfl
      have bx5 := blk_cell X0 5 rfl
      have bx6 := blk_cell X0 6 rfl
      have bx7 := blk_cell X0 7 rfl
      have bx8 := blk_cell X0 8 rfl
      have bx9 := blk_cell X0 9 rfl
      have bx10 := blk_cell X0 10 rfl
      have bx11 := blk_cell X0 11 rfl
      have bx12 := blk_cell X0 12 rfl
      have CK := check_any a p _ (hat.below hba) hsm hTw
      have lb1 : b1 < wr.heap.size := World.block_lt_of_cell? wr _ g0
      have HBA : Hid (∀ W, Below (wr.alloc (.cells (spC a p) 41)).heap.size (wr.alloc (.cells (spC a p) 41)) W → Below w.heap.size w W) := fun W hW => hb.trans ((hba.mono hb.size).trans (hW.mono (by have := hb.size; have := hba.size; omega)))
      have j1 : (k : Int) < (N : Int) := by omega
      have j2 : (N : Int) < 1000000000000000 := by omega
      have HA : Hid _ := ha
      have HK : Hid (k < N) := hlt
      clear hc1 hcx hat hsm hNN X0 hba hTw hb hp HX HS HNC HRM HFR hT ha hlt
      by_cases hc : chkS a = 0
      · rw [hc] at CK
        unfold spV at CK
        unfold spC at *
        clear HFA
        go_wp2_with (go_at_call 29; refine CK.mono ?_; clear CK; rintro e w2 ⟨rfl, b2⟩)
        go_roundw
        case rel => exact ⟨k + 1, by simp, HK.out, HBA.out _ b2, fun j hj hjk => by
          by_cases e : j = k
          · subst e; rw [HA.out]; exact hc
          · exact HZ.out j hj (by omega)⟩
        case measure => simp [intOf]; have := HK.out; omega
      · have hfv := HFA.out k (by rw [HN.out]; exact HK.out) (fun j hj => HZ.out j (by have := HK.out; have := HN.out; omega) hj) (by rw [HA.out]; exact hc)
        rw [HA.out] at hfv
        obtain ⟨ce, hce⟩ : ∃ ce, chkS a = ce := ⟨_, rfl⟩
        rw [hce] at CK hc hfv
        have HFV : Hid _ := hfv
        unfold spV at CK
        unfold spC at *
        have hc1 : (ce != 0) = true := by simpa using hc
        clear HFA hfv hce hn hk HA hc HZ HN
        go_wp2_with (go_at_call 29; refine CK.mono ?_; clear CK; rintro e w2 ⟨rfl, b2⟩)
        go_returns
        exact ⟨(congrArg (fun z => Ending.returned (.int .i64 z)) HFV.out).symm, HBA.out _ b2⟩
    · have hfv := HFR.out (fun j hj => HZ.out j hj (by omega))
      have j1 : ¬ (k : Int) < (N : Int) := by omega
      have HFV : Hid _ := hfv
      have HB : Hid _ := hb
      clear hfv HX HS HFA HFR hNN hT hk hlt hb
      go_wp2_with (first
        | (go_at_call 31; refine (HNC.out _ HB.out).mono ?_; rintro e w2 ⟨rfl, MN, TN, q1, q2⟩)
        | (go_at_call 30; refine (HRM.out _ MN TN w2 HB.out (by rw [HN.out]; exact q1) q2).mono ?_; rintro e w3 ⟨rfl, b3⟩))
      go_returns
      exact ⟨(congrArg (fun z => Ending.returned (.int .i64 z)) HFV.out).symm, HB.out.trans (q1.below.mono HB.out.size |>.trans (b3.mono (Nat.le_trans HB.out.size q1.below.size)))⟩
end Go.Proofs.YtiflfapdffkcbaaGreatDoor

namespace Go.Proofs.YtiflfapdffkcbaaGreatDoor
open Go.RowKit Go.Maps Go.WideMaps
set_option maxRecDepth 100000

def stP (st : List Sp × List Int) (a : Sp) : List Sp × List Int := (putLs st.1 a, st.2 ++ [becI st.1 a])
def runP (L : List Sp) (Y : List Sp) : List Sp × List Int := Y.foldl stP (L, [])
theorem run_snoc (L : List Sp) (Y : List Sp) (k : Nat) (hk : k < Y.length) : runP L (Y.take (k + 1)) = stP (runP L (Y.take k)) Y[k] := by
  unfold runP
  rw [List.take_succ_eq_append_getElem hk, List.foldl_append]
  rfl
theorem run_len (L : List Sp) (Y : List Sp) : ∀ k, k ≤ Y.length → (runP L (Y.take k)).2.length = k
  | 0, _ => by simp [runP]
  | k + 1, hk => by
    rw [run_snoc L Y k hk]
    simp [stP, run_len L Y k (by omega)]
def chC (cs : List Int) (m : Nat) : Array Value := ((cs ++ List.replicate m 0).map (Value.int .i64)).toArray
theorem chC_at (cs : List Int) (m k : Nat) (hk : cs.length = k) (hm : 0 < m) : (chC cs m)[k]? = some (.int .i64 0) := by
  unfold chC
  subst hk
  simp [hm]
theorem chC_set (cs : List Int) (m k : Nat) (c : Int) (hk : cs.length = k) : (chC cs (m + 1)).setIfInBounds k (.int .i64 c) = chC (cs ++ [c]) m := by
  unfold chC
  subst hk
  apply Array.toList_inj.1
  simp [List.replicate_succ]
theorem fits_zero {X : List It} {Y : List Sp} (h : fitsI X Y = 0) : ∀ a ∈ Y, chkS a = 0 := by
  intro a ha
  unfold fitsI at h
  cases hfd : Y.find? (fun a => decide (chkS a ≠ 0)) with
  | none =>
    have := List.find?_eq_none.1 hfd a ha
    simpa using this
  | some y =>
    rw [hfd] at h
    have := List.find?_some hfd
    simp at this
    exact absurd h this
/-- Put on the way: k spans are in. -/
structure PtAt (w wr : World) (s b : Nat) (M : Tc → Nat) (T : List Tc) (X : List It) (r : Nat) (Y : List Sp) (k : Nat) (M' : Tc → Nat) (T' : List Tc) (X' : List It) : Prop where
  st : StoreAt wr s b M' T' X'
  sps : spsX X' = (runP (spsX X) (Y.take k)).1
  row : wr.heap[r]? = some (.cells (chC (runP (spsX X) (Y.take k)).2 (Y.length - k)) 51 (0, 0))
  upd : Upd (FT s b M T) w wr
  ft : ∀ j, FT s b M' T' j → FT s b M T j ∨ w.heap.size ≤ j
  len : X'.length ≤ X.length + k
  low : w.heap.size ≤ r
  slow : s < w.heap.size
  far : ∀ x, x ∈ X' → x.hi ≤ r ∨ r < x.lo
  old : ∀ x, x ∈ X' → x ∈ X ∨ w.heap.size ≤ x.lo
theorem pt_step {w wr w2 : World} {s b r k : Nat} {M M' M2 : Tc → Nat} {T T' T2 : List Tc} {X X' X2 : List It} {Y : List Sp} (h : PtAt w wr s b M T X r Y k M' T' X') (hk : k < Y.length) (o : Obj)
    (s2 : StoreAt w2 s b M2 T2 X2) (e2 : spsX X2 = putLs (spsX X') Y[k]) (u2 : Upd (FT s b M' T') (wr.alloc o) w2) (f2 : ∀ j, FT s b M2 T2 j → FT s b M' T' j ∨ (wr.alloc o).heap.size ≤ j) (l2 : X2.length ≤ X'.length + 1) (m2 : ∀ x, x ∈ X2 → x ∈ X' ∨ (wr.alloc o).heap.size ≤ x.lo) :
    w2.cell? ⟨r, k, none⟩ = some (.int .i64 0) ∧ w2.frozen? ⟨r, k, none⟩ = false ∧ PtAt w (w2.setCell ⟨r, k, none⟩ (.int .i64 (becI (spsX X') Y[k]))) s b M T X r Y (k + 1) M2 T2 X2 := by
  have hr := lt_of_block h.row
  have hsz : (wr.alloc o).heap.size = wr.heap.size + 1 := World.size_alloc _ _
  have hrl := run_len (spsX X) Y k (by omega)
  have nr : ∀ j, FT s b M' T' j → j ≠ r := by
    rintro j (rfl | rfl | ⟨t, ht, rfl⟩)
    · have := h.slow; have := h.low; omega
    · exact (h.st.nest.not h.row).1
    · exact (h.st.nest.not h.row).2 t ht
  have row1 : (wr.alloc o).heap[r]? = _ := (Below.heap_alloc wr o r hr).trans h.row
  have row2 := (u2.block r (by omega) (fun hh => nr r hh rfl)).trans row1
  have hcell := chC_at (runP (spsX X) (Y.take k)).2 (Y.length - k) k hrl (by omega)
  have us : Upd (fun j => j = r) w2 (w2.setCell ⟨r, k, none⟩ (.int .i64 (becI (spsX X') Y[k]))) := (Upd.refl (fun j => j = r) w2).setCell (p := ⟨r, k, none⟩) (fun _ => rfl) _
  have far2 : ∀ x, x ∈ X2 → x.hi ≤ r ∨ r < x.lo := fun x hx => by
    rcases m2 x hx with hx | hx
    · exact h.far x hx
    · exact Or.inr (by omega)
  have n2 : ∀ j, FT s b M2 T2 j → j ≠ r := by
    rintro j (rfl | rfl | ⟨t, ht, rfl⟩)
    · have := h.slow; have := h.low; omega
    · exact (s2.nest.not row2).1
    · exact (s2.nest.not row2).2 t ht
  refine ⟨blk_cell row2 k hcell, blk_free row2 k, ⟨s2.upd us (fun j hj e => n2 j hj e) (fun x hx j h1 h2 e => by subst e; rcases far2 x hx with q | q <;> omega), ?_, ?_, ?_, fun j hj => ?_, by have := h.len; omega, h.low, h.slow, far2, fun x hx => ?_⟩⟩
  · rw [e2, h.sps, run_snoc _ _ _ hk]; rfl
  · have k5 := set_block row2 k (.int .i64 (becI (spsX X') Y[k]))
    rw [show Y.length - k = (Y.length - (k + 1)) + 1 from by omega, chC_set _ _ _ _ hrl] at k5
    rw [run_snoc _ _ _ hk]
    rw [h.sps] at k5
    rw [h.sps]
    exact k5
  · have u3 : Upd (FT s b M T) w w2 := (h.upd.alloc o).trans u2 (fun i hi hF => by rcases h.ft i hF with q | q; exact q; omega)
    exact u3.trans us (fun i hi e => by have := h.low; omega)
  · rcases f2 j hj with q | q
    · exact h.ft j q
    · have := h.upd.size
      exact Or.inr (by omega)
  · rcases m2 x hx with hx | hx
    · exact h.old x hx
    · have := h.upd.size
      exact Or.inr (by omega)
end Go.Proofs.YtiflfapdffkcbaaGreatDoor
