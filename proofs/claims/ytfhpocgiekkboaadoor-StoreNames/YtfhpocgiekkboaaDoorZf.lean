/-
  Contracts: lists of attributes and of events held against one another.
-/
import Derived.Test.YtfhpocgiekkboaaDoorZa
import Derived.Shelf.Abstract
namespace Go.Proofs.YtfhpocgiekkboaaDoor
open Go.RowKit
set_option maxRecDepth 100000

/-- A list of attrs lies here. -/
structure AttrsAt (w : World) (ad : Option Addr) (n : Nat) (A : List AttrD) : Prop where
  len : A.length = n
  lies : 0 < n → ∃ b off, ad = some ⟨b, off, none⟩ ∧ ∀ i (_ : i < A.length), w.cell? ⟨b, off + i * 4, none⟩ = some (.string A[i].key) ∧ w.cell? ⟨b, off + i * 4 + 1, none⟩ = some (.int .i64 A[i].kind) ∧ w.cell? ⟨b, off + i * 4 + 2, none⟩ = some (.string A[i].text) ∧ w.cell? ⟨b, off + i * 4 + 3, none⟩ = some (.int .i64 A[i].num)
theorem AttrsAt.below {w w' : World} {ad : Option Addr} {n : Nat} {A : List AttrD} (h : AttrsAt w ad n A) (hb : Below w.heap.size w w') : AttrsAt w' ad n A := by
  refine ⟨h.len, fun hp => ?_⟩
  obtain ⟨b, off, ha, hc⟩ := h.lies hp
  refine ⟨b, off, ha, fun i hi => ?_⟩
  obtain ⟨c0, c1, c2, c3⟩ := hc i hi
  exact ⟨(hb.cell (World.block_lt_of_cell? w _ c0)).trans c0, (hb.cell (World.block_lt_of_cell? w _ c1)).trans c1, (hb.cell (World.block_lt_of_cell? w _ c2)).trans c2, (hb.cell (World.block_lt_of_cell? w _ c3)).trans c3⟩

theorem compare_attrs (ad bd : Option Addr) (n m c d : Nat) (X Y : List AttrD) (w : World) (hX : AttrsAt w ad n X) (hY : AttrsAt w bd m Y) (hn : n ≤ 140737488355328) (hm : m ≤ 140737488355328) :
    Calls Tryd.prog 49 #[.slice ad n c, .slice bd m d, .func (.func 50) #[] #[]] w fun e w' => e = .returned (.int .i64 (lexL cmpA X Y)) ∧ Below w.heap.size w w' := by
  have hl := hX.len
  have hk := hY.len
  obtain ⟨r, hr⟩ : ∃ r, lexL cmpA X Y = r := ⟨_, rfl⟩
  rw [hr]
  go_enter Tryd.func49, Tryd.ntmps49
  go_wp2
  go_loopw [13] (fun a wr => ∃ k : Nat, a = .int .i64 k ∧ k ≤ n ∧ k ≤ m ∧ r = lexL cmpA (X.drop k) (Y.drop k) ∧ Below w.heap.size w wr) (fun a _ => n - (intOf a).toNat)
  case atStart => exact ⟨0, rfl, by omega, by omega, by simp [hr], Below.refl _ _⟩
  case round =>
    obtain ⟨k, rfl, hkn, hkm, ho, hbw⟩ := hrel
    have HO : Hid (r = lexL cmpA (X.drop k) (Y.drop k)) := ho
    have hX2 := hX.below hbw
    have hY2 := hY.below hbw
    have hsz := hbw.size
    clear ho hr hX hY
    by_cases hlt : k < n
    · obtain ⟨b1, o1, rfl, hc1⟩ := hX2.lies (by omega)
      have ck := hc1 k (by omega)
      by_cases hlt2 : k < m
      · obtain ⟨b2, o2, rfl, hc2⟩ := hY2.lies (by omega)
        have dk := hc2 k (by omega)
        have st := lexL_drop HO.out (by omega) (by omega)
        obtain ⟨x, hx⟩ : ∃ x, X[k] = x := ⟨_, rfl⟩
        obtain ⟨y, hy⟩ : ∃ y, Y[k] = y := ⟨_, rfl⟩
        rw [hx, hy] at st
        rw [hx] at ck
        rw [hy] at dk
        obtain ⟨c0, c1, c2, c3⟩ := ck
        obtain ⟨d0, d1, d2, d3⟩ := dk
        have l1 := World.block_lt_of_cell? wr _ c0
        have l2 := World.block_lt_of_cell? wr _ d0
        have HS : Hid (r = orI (cmpA x y) (lexL cmpA (X.drop (k + 1)) (Y.drop (k + 1)))) := st
        obtain ⟨q, hq⟩ : ∃ q, cmpA x y = q := ⟨_, rfl⟩
        have CC := attr_any x y
        rw [hq] at CC HS
        simp only [attrV] at CC
        clear st hx hy HO hc1 hc2 hX2 hY2 hq
        have e1 : ∀ o : Obj, ∀ j v, wr.cell? ⟨b2, o2 + k * 4 + j, none⟩ = some v → (wr.alloc o).cell? ⟨b2, o2 + k * 4 + j, none⟩ = some v := fun o j v h => (((Below.refl wr.heap.size wr).alloc (Nat.le_refl _) o).cell (p := ⟨b2, o2 + k * 4 + j, none⟩) l2).trans h
        by_cases h0 : q = 0
        · subst h0
          go_wp2_with (go_at_call 50; refine (CC _).mono ?_; rintro e w' ⟨rfl, hb⟩; have hb2 := hbw.trans (((((Below.refl wr.heap.size wr).alloc (Nat.le_refl _) _).alloc (by simp) _).trans (hb.mono (by simp; omega))).mono hsz))
          go_roundw
          case rel => exact ⟨k + 1, by go_num, by omega, by omega, by rw [HS.out]; simp [orI], hb2⟩
          case measure => simp [intOf]; omega
        · have h0' : (q != 0) = true := by simpa using h0
          have FIN : Hid (r = q) := by show r = q; rw [HS.out]; simp [orI, h0]
          clear h0
          go_wp2_with (go_at_call 50; refine (CC _).mono ?_; rintro e w' ⟨rfl, hb⟩; have hb2 := hbw.trans (((((Below.refl wr.heap.size wr).alloc (Nat.le_refl _) _).alloc (by simp) _).trans (hb.mono (by simp; omega))).mono hsz))
          go_ret
          exact ⟨ret_int FIN.out.symm, hb2⟩
      · have FIN : Hid (r = 1) := lexL_right HO.out (by omega) (by omega)
        have hmk : m = k := by omega
        obtain ⟨x, hx⟩ : ∃ x, X[k] = x := ⟨_, rfl⟩
        rw [hx] at ck
        obtain ⟨c0, c1, c2, c3⟩ := ck
        clear hc1 hX2 hY2 hx
        go_wp2
        go_ret
        exact ⟨ret_int FIN.out.symm, hbw.alloc hsz _⟩
    · have hnk : n = k := by omega
      by_cases hlt2 : k < m
      · have FIN : Hid (r = -1) := lexL_left HO.out (by omega) (by omega)
        go_wp2
        go_ret
        exact ⟨ret_int FIN.out.symm, hbw⟩
      · have FIN : Hid (r = 0) := lexL_both HO.out (by omega) (by omega)
        go_wp2
        go_ret
        exact ⟨ret_int FIN.out.symm, hbw⟩

/-- A list of events lies here. -/
structure EventsAt (w : World) (ad : Option Addr) (n : Nat) (A : List EventD) : Prop where
  len : A.length = n
  lies : 0 < n → ∃ b off, ad = some ⟨b, off, none⟩ ∧ ∀ i (_ : i < A.length), w.cell? ⟨b, off + i * 2, none⟩ = some (.int .i64 A[i].moment) ∧ w.cell? ⟨b, off + i * 2 + 1, none⟩ = some (.string A[i].name)
theorem EventsAt.below {w w' : World} {ad : Option Addr} {n : Nat} {A : List EventD} (h : EventsAt w ad n A) (hb : Below w.heap.size w w') : EventsAt w' ad n A := by
  refine ⟨h.len, fun hp => ?_⟩
  obtain ⟨b, off, ha, hc⟩ := h.lies hp
  refine ⟨b, off, ha, fun i hi => ?_⟩
  obtain ⟨c0, c1⟩ := hc i hi
  exact ⟨(hb.cell (World.block_lt_of_cell? w _ c0)).trans c0, (hb.cell (World.block_lt_of_cell? w _ c1)).trans c1⟩

theorem compare_events (ad bd : Option Addr) (n m c d : Nat) (X Y : List EventD) (w : World) (hX : EventsAt w ad n X) (hY : EventsAt w bd m Y) (hn : n ≤ 140737488355328) (hm : m ≤ 140737488355328) :
    Calls Tryd.prog 51 #[.slice ad n c, .slice bd m d, .func (.func 35) #[] #[]] w fun e w' => e = .returned (.int .i64 (lexL cmpE X Y)) ∧ Below w.heap.size w w' := by
  have hl := hX.len
  have hk := hY.len
  obtain ⟨r, hr⟩ : ∃ r, lexL cmpE X Y = r := ⟨_, rfl⟩
  rw [hr]
  go_enter Tryd.func51, Tryd.ntmps51
  go_wp2
  go_loopw [13] (fun a wr => ∃ k : Nat, a = .int .i64 k ∧ k ≤ n ∧ k ≤ m ∧ r = lexL cmpE (X.drop k) (Y.drop k) ∧ Below w.heap.size w wr) (fun a _ => n - (intOf a).toNat)
  case atStart => exact ⟨0, rfl, by omega, by omega, by simp [hr], Below.refl _ _⟩
  case round =>
    obtain ⟨k, rfl, hkn, hkm, ho, hbw⟩ := hrel
    have HO : Hid (r = lexL cmpE (X.drop k) (Y.drop k)) := ho
    have hX2 := hX.below hbw
    have hY2 := hY.below hbw
    have hsz := hbw.size
    clear ho hr hX hY
    by_cases hlt : k < n
    · obtain ⟨b1, o1, rfl, hc1⟩ := hX2.lies (by omega)
      have ck := hc1 k (by omega)
      by_cases hlt2 : k < m
      · obtain ⟨b2, o2, rfl, hc2⟩ := hY2.lies (by omega)
        have dk := hc2 k (by omega)
        have st := lexL_drop HO.out (by omega) (by omega)
        obtain ⟨x, hx⟩ : ∃ x, X[k] = x := ⟨_, rfl⟩
        obtain ⟨y, hy⟩ : ∃ y, Y[k] = y := ⟨_, rfl⟩
        rw [hx, hy] at st
        rw [hx] at ck
        rw [hy] at dk
        obtain ⟨c0, c1⟩ := ck
        obtain ⟨d0, d1⟩ := dk
        have l1 := World.block_lt_of_cell? wr _ c0
        have l2 := World.block_lt_of_cell? wr _ d0
        have HS : Hid (r = orI (cmpE x y) (lexL cmpE (X.drop (k + 1)) (Y.drop (k + 1)))) := st
        obtain ⟨q, hq⟩ : ∃ q, cmpE x y = q := ⟨_, rfl⟩
        have CC := event_any x y
        rw [hq] at CC HS
        simp only [eventV] at CC
        clear st hx hy HO hc1 hc2 hX2 hY2 hq
        have e1 : ∀ o : Obj, ∀ j v, wr.cell? ⟨b2, o2 + k * 2 + j, none⟩ = some v → (wr.alloc o).cell? ⟨b2, o2 + k * 2 + j, none⟩ = some v := fun o j v h => (((Below.refl wr.heap.size wr).alloc (Nat.le_refl _) o).cell (p := ⟨b2, o2 + k * 2 + j, none⟩) l2).trans h
        by_cases h0 : q = 0
        · subst h0
          go_wp2_with (go_at_call 35; refine (CC _).mono ?_; rintro e w' ⟨rfl, hb⟩; have hb2 := hbw.trans (((((Below.refl wr.heap.size wr).alloc (Nat.le_refl _) _).alloc (by simp) _).trans (hb.mono (by simp; omega))).mono hsz))
          go_roundw
          case rel => exact ⟨k + 1, by go_num, by omega, by omega, by rw [HS.out]; simp [orI], hb2⟩
          case measure => simp [intOf]; omega
        · have h0' : (q != 0) = true := by simpa using h0
          have FIN : Hid (r = q) := by show r = q; rw [HS.out]; simp [orI, h0]
          clear h0
          go_wp2_with (go_at_call 35; refine (CC _).mono ?_; rintro e w' ⟨rfl, hb⟩; have hb2 := hbw.trans (((((Below.refl wr.heap.size wr).alloc (Nat.le_refl _) _).alloc (by simp) _).trans (hb.mono (by simp; omega))).mono hsz))
          go_ret
          exact ⟨ret_int FIN.out.symm, hb2⟩
      · have FIN : Hid (r = 1) := lexL_right HO.out (by omega) (by omega)
        have hmk : m = k := by omega
        obtain ⟨x, hx⟩ : ∃ x, X[k] = x := ⟨_, rfl⟩
        rw [hx] at ck
        obtain ⟨c0, c1⟩ := ck
        clear hc1 hX2 hY2 hx
        go_wp2
        go_ret
        exact ⟨ret_int FIN.out.symm, hbw.alloc hsz _⟩
    · have hnk : n = k := by omega
      by_cases hlt2 : k < m
      · have FIN : Hid (r = -1) := lexL_left HO.out (by omega) (by omega)
        go_wp2
        go_ret
        exact ⟨ret_int FIN.out.symm, hbw⟩
      · have FIN : Hid (r = 0) := lexL_both HO.out (by omega) (by omega)
        go_wp2
        go_ret
        exact ⟨ret_int FIN.out.symm, hbw⟩
end Go.Proofs.YtfhpocgiekkboaaDoor
