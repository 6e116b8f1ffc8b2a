/-
  Merged by merge.py: Wh, We, Rt, Tx.
-/
import Derived.Shelf.Spec.DecodeRune
import Derived.Test.YthcghpbkadlliaaGreatDoorMa02
namespace Go.Proofs.YthcghpbkadlliaaGreatDoor
open Go.Shelf Go.RowKit
def lays32_ren : Go.Shelf.Ren := ⟨fun | 32 => 156 | 49 => 173 | n => n, fun | 30 => 37 | 21 => 21 | 3 => 3 | 0 => 0 | 5 => 5 | 4 => 4 | 33 => 250 | 66 => 258 | 25 => 236 | 69 => 261 | 68 => 260 | n => n, fun | 2 => 1 | 3 => 2 | n => n⟩
theorem lays32 : Go.Proofs.Lays7.n32 Tryz.prog lays32_ren := {
  mixed := by kernel_rfl
  f32 := Tryz.func156.trans (congrArg some (by kernel_rfl))
  f49 := Tryz.func173.trans (congrArg some (by kernel_rfl))
  t0 := Tryz.underlying0
  a0 := Tryz.isAgg0
  z0 := Tryz.sizeOf0
  v0 := Tryz.zeroValue0
  i0 := by kernel_rfl
  t3 := Tryz.underlying3
  a3 := Tryz.isAgg3
  z3 := Tryz.sizeOf3
  v3 := Tryz.zeroValue3
  i3 := by kernel_rfl
  t4 := Tryz.underlying4
  a4 := Tryz.isAgg4
  z4 := Tryz.sizeOf4
  v4 := Tryz.zeroValue4
  i4 := by kernel_rfl
  t5 := Tryz.underlying5
  a5 := Tryz.isAgg5
  z5 := Tryz.sizeOf5
  v5 := Tryz.zeroValue5
  i5 := by kernel_rfl
  t21 := Tryz.underlying21
  a21 := Tryz.isAgg21
  z21 := Tryz.sizeOf21
  v21 := Tryz.zeroValue21
  i21 := by kernel_rfl
  t25 := Tryz.underlying236
  a25 := Tryz.isAgg236
  z25 := Tryz.sizeOf236
  v25 := Tryz.zeroValue236
  i25 := by kernel_rfl
  t30 := Tryz.underlying37
  a30 := Tryz.isAgg37
  z30 := Tryz.sizeOf37
  v30 := Tryz.zeroValue37
  i30 := by kernel_rfl
  t33 := Tryz.underlying250
  a33 := Tryz.isAgg250
  z33 := Tryz.sizeOf250
  v33 := Tryz.zeroValue250
  i33 := by kernel_rfl
  t66 := Tryz.underlying258
  a66 := Tryz.isAgg258
  z66 := Tryz.sizeOf258
  t68 := Tryz.underlying260
  a68 := Tryz.isAgg260
  z68 := Tryz.sizeOf260
  v68 := Tryz.zeroValue260
  i68 := by kernel_rfl
  t69 := Tryz.underlying261
  a69 := Tryz.isAgg261
  z69 := Tryz.sizeOf261
  v69 := Tryz.zeroValue261
  i69 := by kernel_rfl
  g2 := by kernel_rfl
  g3 := by kernel_rfl }
end Go.Proofs.YthcghpbkadlliaaGreatDoor

namespace Go.Proofs.YthcghpbkadlliaaGreatDoor
open Go.Shelf Go.RowKit
set_option maxRecDepth 100000

/-- The two tables of the decoder. -/
def Tabs (w : World) : Prop := Lib.Utf8Tabs 1 2 w
theorem Tabs.lt {w : World} (h : Tabs w) : 1 < w.heap.size ∧ 2 < w.heap.size :=
  ⟨World.block_lt_of_cell? w ⟨1, 0, none⟩ (h.1 0 (by omega)), World.block_lt_of_cell? w ⟨2, 2 * 0, none⟩ (h.2 0 (by omega)).1⟩
theorem Tabs.upd {S : Nat → Prop} {w w' : World} (h : Tabs w) (hu : Upd S w w') (h1 : ¬ S 1) (h2 : ¬ S 2) : Tabs w' := by
  have hl := h.lt
  have e1 := fun (o : Nat) => World.cell?_of_block (w := w) (w' := w') (a := ⟨1, o, none⟩) (hu.block _ hl.1 h1)
  have e2 := fun (o : Nat) => World.cell?_of_block (w := w) (w' := w') (a := ⟨2, o, none⟩) (hu.block _ hl.2 h2)
  exact ⟨fun c hc => (e1 c).trans (h.1 c hc), fun i hi => ⟨(e2 _).trans (h.2 i hi).1, (e2 _).trans (h.2 i hi).2⟩⟩
theorem Tabs.below {w w' : World} (h : Tabs w) (hb : Below w.heap.size w w') : Tabs w' :=
  h.upd (Upd.ofBelow (S := fun _ => False) hb (fun k hk hk' => by omega)) (fun h => h) (fun h => h)

theorem strI_get (K : List Int) (j : Nat) (hj : j < K.length) (hb : ∀ x ∈ K, 0 ≤ x ∧ x < 256) : (((strI K).get! j).toNat : Int) = K.getD j 0 := by
  have hm := hb K[j] (List.getElem_mem hj)
  have e : (strI K).get! j = UInt8.ofNat (K[j]).toNat := by
    show (K.map (fun n => UInt8.ofNat n.toNat)).toArray[j]! = _
    simp [hj]
  rw [e, List.getD, List.getElem?_eq_getElem hj]
  simp
  omega
theorem bt_getD (K : List Int) (j : Nat) (hj : j < K.length) : bt K j = K.getD j 0 := by
  unfold bt; rw [List.getD, List.getD, List.getElem?_eq_getElem hj]; rfl
theorem bt_none (K : List Int) (j : Nat) (hj : K.length ≤ j) : bt K j = -1 := by
  unfold bt; rw [List.getD, List.getElem?_eq_none hj]; rfl

/-- What Go's decoder tells of bytes, in the document's words. -/
theorem decode_rune (K : List Int) (h0 : 0 < K.length) (hb : ∀ x ∈ K, 0 ≤ x ∧ x < 256) :
    (runeL K = 0 → Lib.decodeGo (strI K) = (65533, 1)) ∧ (0 < runeL K → (Lib.decodeGo (strI K)).2 = runeL K ∧ ((Lib.decodeGo (strI K)).1 = 65533 → 1 < runeL K)) := by
  have hs := strI_size K
  have hd : Lib.decodeGo (strI K) = Lib.decodeN K.length ((strI K).get! 0).toNat ((strI K).get! 1).toNat ((strI K).get! 2).toNat ((strI K).get! 3).toNat := by
    simp only [Lib.decodeGo]
    rw [if_neg (by omega), Lib.decode_at, hs]; rfl
  rw [hd]
  have e0 : bt K 0 = (((strI K).get! 0).toNat : Int) := by rw [bt_getD K 0 h0, strI_get K 0 h0 hb]
  have ei : ∀ i, bt K i = if i < K.length then (((strI K).get! i).toNat : Int) else -1 := by
    intro i
    split
    · rename_i h; rw [bt_getD K i h, strI_get K i h hb]
    · rename_i h; exact bt_none K i (by omega)
  have := dec_rune K.length ((strI K).get! 0).toNat ((strI K).get! 1).toNat ((strI K).get! 2).toNat ((strI K).get! 3).toNat h0 (UInt8.toNat_lt _) (UInt8.toNat_lt _) (UInt8.toNat_lt _) (UInt8.toNat_lt _) (bt K 1) (bt K 2) (bt K 3) (ei 1) (ei 2) (ei 3)
  rw [← e0] at this
  exact this

theorem decode_any (K : List Int) (b off cap : Nat) (w : World) (hT : Tabs w) (hb : ∀ x ∈ K, 0 ≤ x ∧ x < 256)
    (hp : ∀ j, j < K.length → w.cell? ⟨b, off + j, none⟩ = some (.int .u8 (K.getD j 0))) :
    Calls Tryz.prog 156 #[.slice (some ⟨b, off, none⟩) K.length cap] w fun e w' => e = .returned (.tuple #[.int .i32 (Lib.decodeGo (strI K)).1, .int .i64 (Lib.decodeGo (strI K)).2]) ∧ Below w.heap.size w w' := by
  have := Any7.utf8_DecodeRune lays32 (strI K) b off cap w hT (fun j hj => by
    rw [strI_size] at hj
    rw [strI_get K j hj hb]; exact hp j hj)
  rw [strI_size] at this
  exact this

theorem runesEnd_any (g off n cap : Nat) (K : List Int) (w : World) (hT : Tabs w) (hK : ∀ x ∈ K, 0 ≤ x ∧ x < 256) (hl : K.length = n) (hc : n ≤ cap) (hcap : cap ≤ 140737488355328)
    (hp : ∀ j, j < n → w.cell? ⟨g, off + j, none⟩ = some (.int .u8 (K.getD j 0))) :
    Calls Tryz.prog 139 #[.slice (some ⟨g, off, none⟩) n cap] w fun e w' => e = .returned (.int .i64 (endL K)) ∧ Below w.heap.size w w' := by
  go_enter Tryz.func139, Tryz.ntmps139
  go_wp2
  go_loopw [3] (fun a wr => ∃ k : Nat, a = .int .i64 k ∧ k ≤ n ∧ endL K = k + endL (K.drop k) ∧ Below w.heap.size w wr) (fun a _ => n - (intOf a).toNat)
  case atStart => exact ⟨0, rfl, by omega, by simp, Below.refl _ _⟩
  case round =>
    obtain ⟨k, rfl, hk, hE, hb⟩ := hrel
    have HE : Hid (endL K = k + endL (K.drop k)) := hE
    clear hE
    by_cases hlt : k < n
    · have hlt2 : k < cap := by omega
      have hbK : ∀ x ∈ K.drop k, 0 ≤ x ∧ x < 256 := fun x hx => hK x (List.mem_of_mem_drop hx)
      have hdl : (K.drop k).length = n - k := by simp [hl]
      have D := decode_any (K.drop k) g (off + k) (cap - k) wr (hT.below hb) hbK (fun j hj => by
        rw [hdl] at hj
        have h1 := hp (k + j) (by omega)
        have hblk := World.block_lt_of_cell? w _ h1
        have h2 : wr.cell? ⟨g, off + k + j, none⟩ = w.cell? ⟨g, off + k + j, none⟩ := hb.cell (p := ⟨g, off + k + j, none⟩) hblk
        rw [h2, Nat.add_assoc, h1, List.getD, List.getD, List.getElem?_drop])
      rw [hdl] at D
      obtain ⟨q1, q2⟩ := decode_rune (K.drop k) (by omega) hbK
      by_cases hr : runeL (K.drop k) = 0
      · have q3 := q1 hr
        rw [q3] at D
        have HZ : Hid (endL K = k) := by show endL K = k; rw [HE.out, endL_zero _ hr]; omega
        clear q1 q2 q3 hr HE
        go_wp2_with (go_at_call 156; refine D.mono ?_; rintro e w' ⟨rfl, hb'⟩; have hb2 := hb.trans (hb'.mono hb.size))
        go_ret
        exact ⟨ret_int (by rw [HZ.out]), hb2⟩
      · obtain ⟨q3, q4⟩ := q2 (by omega)
        have hle := rune_le (K.drop k)
        rw [hdl] at hle
        have HS : Hid (endL K = k + (runeL (K.drop k) + endL ((K.drop k).drop (runeL (K.drop k))))) := by
          show endL K = _
          rw [HE.out, endL_step _ (by omega)]
        obtain ⟨c, hcc⟩ : ∃ c, (Lib.decodeGo (strI (K.drop k))).1 = c := ⟨_, rfl⟩
        obtain ⟨r, hrr⟩ : ∃ r, runeL (K.drop k) = r := ⟨_, rfl⟩
        rw [q3, hcc, hrr] at D
        rw [hcc, hrr] at q4
        rw [hrr] at hle hr HS
        have hpos : 0 < r := by omega
        clear q1 q2 q3 hcc hrr HE hr
        by_cases hcq : c = 65533
        · have h1r : (1 : Int) < (r : Int) := by have := q4 hcq; omega
          subst hcq
          clear q4
          go_wp2_with (go_at_call 156; refine D.mono ?_; rintro e w' ⟨rfl, hb'⟩; have hb2 := hb.trans (hb'.mono hb.size))
          go_roundw
          case rel => exact ⟨k + r, by go_num, by omega, by rw [HS.out, List.drop_drop]; omega, hb2⟩
          case measure => simp [intOf]; omega
        · have hc2 : ((c : Int) == 65533) = false := by simp; omega
          clear q4 hcq
          go_wp2_with (go_at_call 156; refine D.mono ?_; rintro e w' ⟨rfl, hb'⟩; have hb2 := hb.trans (hb'.mono hb.size))
          go_roundw
          case rel => exact ⟨k + r, by go_num, by omega, by rw [HS.out, List.drop_drop]; omega, hb2⟩
          case measure => simp [intOf]; omega
    · have hk2 : k = n := by omega
      have HZ : Hid (endL K = k) := by
        show endL K = k
        rw [HE.out, List.drop_of_length_le (by omega), endL_zero [] rune_nil]; omega
      clear HE
      go_wp2
      go_ret
      exact ⟨ret_int (by rw [HZ.out]), hb⟩
end Go.Proofs.YthcghpbkadlliaaGreatDoor

namespace Go.Proofs.YthcghpbkadlliaaGreatDoor
open Go.Shelf Go.RowKit
set_option maxRecDepth 100000

theorem IsR.c0 {w : World} {R g : Nat} {K : List Int} {t : Nat} (h : IsR w R g K t) : w.cell? ⟨R, 0, none⟩ = some (.slice (some ⟨g, 0, none⟩) K.length K.length) := by simp [World.cell?, h.block]
theorem IsR.c1 {w : World} {R g : Nat} {K : List Int} {t : Nat} (h : IsR w R g K t) : w.cell? ⟨R, 1, none⟩ = some (.int .i64 t) := by simp [World.cell?, h.block]
theorem IsR.f1 {w : World} {R g : Nat} {K : List Int} {t : Nat} (h : IsR w R g K t) : w.frozen? ⟨R, 1, none⟩ = false := by simp [World.frozen?, h.block]

theorem at_any (R g : Nat) (K : List Int) (t : Nat) (w : World) (h : IsR w R g K t) :
    Calls Tryz.prog 136 #[.pointer (some ⟨R, 0, none⟩)] w fun e w' => e = .returned (.int .i64 t) ∧ w' = w := by
  have hc1 := h.c1
  go_enter Tryz.func136, Tryz.ntmps136
  go_wp2
  go_ret
  exact ⟨rfl, rfl⟩
theorem left_any (R g : Nat) (K : List Int) (t : Nat) (w : World) (h : IsR w R g K t) :
    Calls Tryz.prog 133 #[.pointer (some ⟨R, 0, none⟩)] w fun e w' => e = .returned (.int .i64 ((K.length - t : Nat) : Int)) ∧ ∃ n, w' = w.drewN n := by
  have hc0 := h.c0
  have hc1 := h.c1
  have hsm := h.small
  have hle := h.le
  go_enter Tryz.func133, Tryz.ntmps133
  go_wp2
  go_quiet (fail)
  go_wp2
  go_ret
  exact ⟨ret_int (by omega), _, rfl⟩
theorem end_any (R g : Nat) (K : List Int) (w : World) (h : IsR w R g K K.length) :
    Calls Tryz.prog 93 #[.pointer (some ⟨R, 0, none⟩)] w fun e w' => e = .returned .nilIface ∧ Below w.heap.size w w' := by
  have L := left_any R g K K.length w h
  rw [Nat.sub_self] at L
  go_enter Tryz.func93, Tryz.ntmps93
  go_wp2_with (go_at_call 133; refine L.mono ?_; rintro e w' ⟨rfl, n, rfl⟩)
  go_ret
  exact ⟨rfl, below_drewN (Below.refl _ _) _⟩
theorem end_left (R g : Nat) (K : List Int) (t : Nat) (w : World) (h : IsR w R g K t) (ht : t < K.length) :
    Calls Tryz.prog 93 #[.pointer (some ⟨R, 0, none⟩)] w fun e w' => ∃ p, e = .returned (.iface 57 (.pointer (some ⟨p, 0, none⟩))) ∧ IsF w' p t 15 ∧ w.heap.size ≤ p ∧ Below w.heap.size w w' := by
  have L := left_any R g K t w h
  have hc1 := h.c1
  have hpos : 0 < K.length - t := by omega
  go_enter Tryz.func93, Tryz.ntmps93
  go_wp2_with (first
    | (go_at_call 133; refine L.mono ?_; rintro e w' ⟨rfl, n, rfl⟩)
    | (go_at_call 132; refine (fault_any _ _ _).mono ?_; rintro e w' ⟨rfl, rfl⟩))
  go_ret
  exact ⟨w.heap.size, rfl, heap_alloc_new _ _, Nat.le_refl _, (below_drewN (Below.refl _ _) _).alloc (Nat.le_refl _) _⟩
/-- What the Reader's Int leaves. -/
def IntPost (w : World) (R g : Nat) (K : List Int) (t : Nat) : NumRes → Ending → World → Prop
  | some (some (v, s)), e, w' => e = .returned (.tuple #[.int .i64 (zagI v), .nilIface]) ∧ IsR w' R g K (t + s) ∧ Upd (fun k => k = R) w w'
  | some none, e, w' => ∃ p, e = .returned (.tuple #[.int .i64 0, .iface 57 (.pointer (some ⟨p, 0, none⟩))]) ∧ IsF w' p t 12 ∧ w.heap.size ≤ p ∧ Below w.heap.size w w'
  | none, e, w' => ∃ p, e = .returned (.tuple #[.int .i64 0, .iface 57 (.pointer (some ⟨p, 0, none⟩))]) ∧ IsF w' p K.length 11 ∧ w.heap.size ≤ p ∧ Below w.heap.size w w'
theorem scan_val : ∀ (l : List Int) (s v v' s' : Nat), (∀ x ∈ l, 0 ≤ x ∧ x < 256) → s ≤ 10 → (s ≤ 9 → v < 128 ^ s) → scanN l s v = .ok v' s' → v' < 18446744073709551616 := by
  intro l
  induction l with
  | nil => intro s v v' s' _ _ _ h; unfold scanN at h; split at h <;> simp at h
  | cons x r ih =>
    intro s v v' s' hl hs hv h
    unfold scanN at h
    have hx := hl x (by simp)
    split at h
    · simp at h
    · rename_i h10
      have hv' := hv (by omega)
      split at h
      · split at h
        · simp at h
        · rename_i hx128 hb
          simp at h
          obtain ⟨rfl, _⟩ := h
          by_cases h8 : s ≤ 8
          · have hp := pow_le8 s h8
            have hm : x.toNat * 128 ^ s ≤ 127 * 128 ^ s := Nat.mul_le_mul_right _ (by omega)
            omega
          · have h9 : s = 9 := by omega
            subst h9
            have hx1 : x ≤ 1 := by
              by_cases hx1 : x ≤ 1
              · exact hx1
              · exact absurd (by simp [badLast]; omega) hb
            have hm : x.toNat * 128 ^ 9 ≤ 1 * 128 ^ 9 := Nat.mul_le_mul_right _ (by omega)
            omega
      · refine ih (s + 1) _ v' s' (fun y hy => hl y (by simp [hy])) (by omega) (fun h9 => ?_) h
        have hm : (x.toNat - 128) * 128 ^ s ≤ 127 * 128 ^ s := Nat.mul_le_mul_right _ (by omega)
        rw [Nat.pow_succ]; omega
theorem getInt_any (R g : Nat) (K : List Int) (t : Nat) (w : World) (h : IsR w R g K t) :
    Calls Tryz.prog 175 #[.pointer (some ⟨R, 0, none⟩)] w fun e w' => IntPost w R g K t (scanN (K.drop t) 0 0) e w' := by
  have N := getUint_any R g K t w h
  have hv := scan_val (K.drop t) 0 0
  have hby : ∀ x ∈ K.drop t, 0 ≤ x ∧ x < 256 := fun x hx => h.byts x (List.mem_of_mem_drop hx)
  generalize scanN (K.drop t) 0 0 = r at N hv
  cases r using NumRes.each with
  | ok v s =>
    have hv2 := hv v s hby (by omega) (by simp) rfl
    clear hv
    go_enter Tryz.func175, Tryz.ntmps175
    go_wp2_with (first
      | (go_at_call 135; refine N.mono ?_; rintro e w' ⟨rfl, hR, hU⟩)
      | (go_at_call 182; refine (zag_any _ (by omega) (by omega) _).mono ?_; rintro e w'' ⟨rfl, rfl⟩))
    go_ret2
    exact ⟨rfl, hR, hU⟩
  | form =>
    clear hv
    go_enter Tryz.func175, Tryz.ntmps175
    go_wp2_with (go_at_call 135; refine N.mono ?_; rintro e w' ⟨p, rfl, hF, hp, hb⟩)
    go_ret2
    exact ⟨p, rfl, hF, hp, hb⟩
  | ended =>
    clear hv
    go_enter Tryz.func175, Tryz.ntmps175
    go_wp2_with (go_at_call 135; refine N.mono ?_; rintro e w' ⟨p, rfl, hF, hp, hb⟩)
    go_ret2
    exact ⟨p, rfl, hF, hp, hb⟩

theorem wraw_any (base B : Nat) (v : Value) (L : List Int) (ad : Option Addr) (n cap : Nat) (K : List Int) (w : World) (h : IsW base w B v L) (hb : base ≤ w.heap.size) (hK : Holds w ad n K) (hlen : L.length + n ≤ 140737488355328) :
    Calls Tryz.prog 117 #[.pointer (some ⟨B, 0, none⟩), .slice ad n cap] w fun e w' => e = .returned (.tuple #[]) ∧ ∃ v', IsW base w' B v' (L ++ K) ∧ Upd (fun k => k = B ∨ v.ownBlock = some k) w w' ∧ Moved w v v' := by
  obtain ⟨i0, hi, hz0, hz1, hz2⟩ := info_parts Tryz.info5
  have hcell := cell_of_one h.block
  have hfree := free_of_one h.block
  have hl := hK.len
  have hS : Src Tryz.prog 1 37 (.slice ad n cap) n (K.map (Value.int .u8)) w := by
    cases ad with
    | none =>
      have hK0 : K = [] := by
        cases K with
        | nil => rfl
        | cons x r => obtain ⟨a, ha, _⟩ := hK.cells 0 (.int .u8 x) (by simp); simp at ha
      subst hK0
      subst hl
      exact Src.ofNil _ Tryz.underlying37 cap
    | some a =>
      exact Src.ofSlice _ Tryz.underlying37 a n cap _ (by simpa using hl) (fun j u hj => by
        obtain ⟨a', ha, hc⟩ := hK.cells j u hj
        simp at ha; subst ha; exact hc) (u8_one K)
  go_enter Tryz.func117, Tryz.ntmps117
  go_wp2_with (at_builtin; refine wpList_app _ rfl (.tmp 8) (.tmp 9) 37 37 rfl base 5 i0 (.int .u8 0) 1 Tryz.underlying37 hi hz0 hz1 hz2 rfl _ _ _ rfl h.own _ n (K.map (Value.int .u8)) rfl hS ?c3 ?c4 ?c5 ?_)
  case c3 => unfold maxLen; omega
  case c4 => omega
  case c5 => omega
  intro v' w2 ho hg hm
  obtain ⟨ao, l, c, rfl⟩ := row_shape ho
  obtain ⟨R1, R2, R3, R4⟩ := put_step (o := none) (K := K) h rfl (by rw [hl]; exact ho) hg hm
  have hcell2 := cell_of_one R4
  have hfree2 := free_of_one R4
  clear ho hg hm hcell hfree R4
  go_wp2
  go_end0
  exact ⟨rfl, _, R1, R2, R3⟩
end Go.Proofs.YthcghpbkadlliaaGreatDoor

namespace Go.Proofs.YthcghpbkadlliaaGreatDoor
open Go.Shelf Go.RowKit
set_option maxRecDepth 100000

/-- What Text answers: the text's place and length; or what is wrong, and where. -/
abbrev TxtRes := Except (Nat × Nat) (Nat × Nat)
abbrev TxtRes.ok (from_ v : Nat) : TxtRes := Except.ok (from_, v)
abbrev TxtRes.bad (at_ no : Nat) : TxtRes := Except.error (at_, no)
theorem TxtRes.each {motive : TxtRes → Prop} (ok : ∀ f v, motive (.ok f v)) (bad : ∀ a n, motive (.bad a n)) (r : TxtRes) : motive r := by
  rcases r with ⟨a, n⟩ | ⟨f, v⟩
  · exact bad a n
  · exact ok f v
def textR (K : List Int) (t : Nat) (most : Int) : TxtRes :=
  if most < 0 then .bad t 1
  else match scanN (K.drop t) 0 0 with
    | some none => .bad t 12
    | none => .bad K.length 11
    | some (some (v, s)) => if most < (v : Int) then .bad t 13 else if K.length < t + s + v then .bad K.length 11
      else if endL ((K.drop (t + s)).take v) < v then .bad (t + s + endL ((K.drop (t + s)).take v)) 14 else .ok (t + s) v
def TextPost (w : World) (R g : Nat) (K : List Int) : TxtRes → Ending → World → Prop
  | Except.ok (f, v), e, w' => e = .returned (.tuple #[.string (strI ((K.drop f).take v)), .nilIface]) ∧ IsR w' R g K (f + v) ∧ Upd (fun k => k = R) w w'
  | Except.error (a, no), e, w' => ∃ p, e = .returned (.tuple #[.string ByteArray.empty, .iface 57 (.pointer (some ⟨p, 0, none⟩))]) ∧ IsF w' p a no ∧ w.heap.size ≤ p ∧ Below w.heap.size w w'

theorem text_neg (R g : Nat) (K : List Int) (t : Nat) (most : Int) (w : World) (h : IsR w R g K t) (hm : most < 0) :
    Calls Tryz.prog 85 #[.pointer (some ⟨R, 0, none⟩), .int .i64 most] w fun e w' => TextPost w R g K (.bad t 1) e w' := by
  have hc1 := h.c1
  go_enter Tryz.func85, Tryz.ntmps85
  go_wp2_with (go_at_call 132; refine (fault_any _ _ _).mono ?_; rintro e w' ⟨rfl, rfl⟩)
  go_ret2
  exact ⟨w.heap.size, rfl, heap_alloc_new _ _, Nat.le_refl _, (Below.refl _ _).alloc (Nat.le_refl _) _⟩

theorem getText_any (R g : Nat) (K : List Int) (t : Nat) (most : Int) (w : World) (h : IsR w R g K t) (hT : Tabs w) (hmx : most ≤ 9223372036854775807) :
    Calls Tryz.prog 85 #[.pointer (some ⟨R, 0, none⟩), .int .i64 most] w fun e w' => TextPost w R g K (textR K t most) e w' := by
  unfold textR
  by_cases hm : most < 0
  · rw [if_pos hm]; exact text_neg R g K t most w h hm
  rw [if_neg hm]
  have N := number_any R g K t w h
  have hs := scan_size (K.drop t) 0 0
  have hv := scan_val (K.drop t) 0 0
  have hby : ∀ x ∈ K.drop t, 0 ≤ x ∧ x < 256 := fun x hx => h.byts x (List.mem_of_mem_drop hx)
  rw [List.length_drop] at hs
  have hsm := h.small
  have hle := h.le
  generalize scanN (K.drop t) 0 0 = r at N hs hv
  cases r using NumRes.each with
  | form =>
    clear hs hv
    go_enter Tryz.func85, Tryz.ntmps85
    go_wp2_with (go_at_call 138; refine N.mono ?_; rintro e w' ⟨p, rfl, hF, hp, hb⟩)
    go_ret2
    exact ⟨p, rfl, hF, hp, hb⟩
  | ended =>
    clear hs hv
    go_enter Tryz.func85, Tryz.ntmps85
    go_wp2_with (go_at_call 138; refine N.mono ?_; rintro e w' ⟨p, rfl, hF, hp, hb⟩)
    go_ret2
    exact ⟨p, rfl, hF, hp, hb⟩
  | ok v s =>
    obtain ⟨hs1, hs2⟩ := hs v s rfl
    have hv2 := hv v s hby (by omega) (by simp) rfl
    clear hs hv hby
    show Calls _ _ _ _ fun e w' => TextPost w R g K (if most < (v : Int) then .bad t 13 else if K.length < t + s + v then .bad K.length 11 else if endL ((K.drop (t + s)).take v) < v then .bad (t + s + endL ((K.drop (t + s)).take v)) 14 else .ok (t + s) v) e w'
    have hnw : ∀ w', Below w.heap.size w w' → w'.cell? ⟨R, 1, none⟩ = some (.int .i64 t) := fun w' hb => (h.below hb).c1
    by_cases c1 : most < (v : Int)
    · rw [if_pos c1]
      go_enter Tryz.func85, Tryz.ntmps85
      go_wp2_with (first
        | (go_at_call 138; refine N.mono ?_; rintro e w' ⟨rfl, hb⟩; have hc1 := (h.below hb).c1; have hsz := hb.size)
        | (go_at_call 132; refine (fault_any _ _ _).mono ?_; rintro e w2 ⟨rfl, rfl⟩))
      go_ret2
      exact ⟨_, rfl, heap_alloc_new _ _, hsz, hb.alloc hsz _⟩
    rw [if_neg c1]
    by_cases c2 : K.length < t + s + v
    · rw [if_pos c2]
      go_enter Tryz.func85, Tryz.ntmps85
      go_wp2_with (first
        | (go_at_call 138; refine N.mono ?_; rintro e w' ⟨rfl, hb⟩; have hc1 := (h.below hb).c1; have hc0 := (h.below hb).c0; have hsz := hb.size)
        | (go_at_call 132; refine (fault_any _ _ _).mono ?_; rintro e w2 ⟨rfl, rfl⟩))
      go_ret2
      exact ⟨_, rfl, heap_alloc_new _ _, hsz, hb.alloc hsz _⟩
    rw [if_neg c2]
    obtain ⟨X, hX⟩ : ∃ X, (K.drop (t + s)).take v = X := ⟨_, rfl⟩
    rw [hX]
    have hXl : X.length = v := by rw [← hX]; simp; omega
    have hXb : ∀ x ∈ X, 0 ≤ x ∧ x < 256 := by rw [← hX]; exact fun x hx => h.byts x (List.mem_of_mem_drop (List.mem_of_mem_take hx))
    have hXc : ∀ w', Below w.heap.size w w' → ∀ j, j < v → w'.cell? ⟨g, t + s + j, none⟩ = some (.int .u8 (X.getD j 0)) := by
      intro w' hb j hj
      have := (h.below hb).row.cell (t + s + j) (by omega)
      rw [this, ← hX]
      simp only [List.getD]
      rw [List.getElem?_take_of_lt hj, List.getElem?_drop]
    have hXh : ∀ w', Below w.heap.size w w' → Holds w' (some ⟨g, t + s, none⟩) v X := by
      intro w' hb
      refine ⟨hXl, fun j u hj => ⟨_, rfl, ?_⟩⟩
      have hj' : j < v := by
        by_cases hjn : j < v
        · exact hjn
        · rw [List.getElem?_eq_none (by simp; omega)] at hj; simp at hj
      rw [Addr.add_lit, hXc w' hb j hj']
      simp at hj
      obtain ⟨a, ha, rfl⟩ := hj
      simp [List.getD, ha]
    have hEl := endL_le X.length X (Nat.le_refl _)
    have HX : Hid ((K.drop (t + s)).take v = X) := hX
    obtain ⟨E, hE⟩ : ∃ E, endL X = E := ⟨_, rfl⟩
    rw [hE, hXl] at hEl
    rw [hE]
    clear hX
    by_cases c3 : t + s < K.length
    · have RE := fun (w' : World) (hb : Below w.heap.size w w') => runesEnd_any g (t + s) v (K.length - (t + s)) X w' (hT.below hb) hXb hXl (by omega) (by omega) (hXc w' hb)
      rw [hE] at RE
      have hkt : ¬ (K.length = t + s) := by omega
      by_cases c4 : E < v
      · rw [if_pos c4]
        clear hXc hXh
        go_enter Tryz.func85, Tryz.ntmps85
        go_wp2_with (first
          | (go_at_call 138; refine N.mono ?_; rintro e w' ⟨rfl, hb⟩; have hc1 := (h.below hb).c1; have hc0 := (h.below hb).c0; have hsz := hb.size; have RE1 := RE w' hb)
          | (go_at_call 139; refine RE1.mono ?_; rintro e w2 ⟨rfl, hb2⟩; have hb3 := hb.trans (hb2.mono hsz); have hsz3 := hb3.size)
          | (go_at_call 132; refine (fault_any _ _ _).mono ?_; rintro e w3 ⟨rfl, rfl⟩))
        go_ret2
        exact ⟨_, rfl, by unfold IsF; rw [Int.natCast_add, Int.natCast_add]; exact heap_alloc_new _ _, hsz3, hb3.alloc hsz3 _⟩
      · rw [if_neg c4]
        have hEv : E = v := by omega
        subst hEv
        have FIN : ∀ w2, Below w.heap.size w w2 → (convert 37 9 (.slice (some ⟨g, t + s, none⟩) E (K.length - (t + s)))).run Tryz.prog (w2.setCell ⟨R, 1, none⟩ (.int .i64 ((t : Int) + (s : Int) + (E : Int)))) = .ok (.string (strI X)) (w2.setCell ⟨R, 1, none⟩ (.int .i64 ((t : Int) + (s : Int) + (E : Int)))) ∧ TextPost w R g K (.ok (t + s) E) (.returned (.tuple #[.string (strI X), .nilIface])) (w2.setCell ⟨R, 1, none⟩ (.int .i64 ((t : Int) + (s : Int) + (E : Int)))) := by
          intro w2 hb
          have T := (h.below hb).take (u := t + s + E) (by omega)
          rw [Int.natCast_add, Int.natCast_add] at T
          refine ⟨conv_holds ⟨hXl, fun j u hj => ?_⟩ _, by rw [HX.out], T, Upd.setCell (S := fun k => k = R) (p := ⟨R, 1, none⟩) (Upd.ofBelow hb (fun k hk hk' => by omega)) (fun _ => rfl) _⟩
          obtain ⟨a, ha, hc⟩ := (hXh w2 hb).cells j u hj
          refine ⟨a, ha, ?_⟩
          simp at ha
          subst ha
          rw [← hc]
          exact World.cell?_of_block (w := w2) (Below.heap_setCell w2 ⟨R, 1, none⟩ _ _ (by rw [Addr.add_lit]; exact h.apart))
        clear hXc hXh
        go_enter Tryz.func85, Tryz.ntmps85
        go_wp2_with (first
          | (go_at_call 138; refine N.mono ?_; rintro e w' ⟨rfl, hb⟩; have hc1 := (h.below hb).c1; have hc0 := (h.below hb).c0; have hsz := hb.size; have RE1 := RE w' hb)
          | (go_at_call 139; refine RE1.mono ?_; rintro e w2 ⟨rfl, hb2⟩; have hb3 := hb.trans (hb2.mono hsz); have hc12 := (h.below hb3).c1; have hf12 := (h.below hb3).f1; have hcv := (FIN w2 hb3).1; have FIN2 := (FIN w2 hb3).2))
        go_ret2
        exact FIN2
    · have hfk : t + s = K.length := by omega
      have hv0 : v = 0 := by omega
      subst hv0
      have hX0 : X = [] := List.eq_nil_of_length_eq_zero hXl
      have hE0 : E = 0 := by omega
      subst hE0
      rw [if_neg (by omega)]
      have RE := fun (w' : World) (hb : Below w.heap.size w w') => runesEnd_any g 0 0 0 [] w' (hT.below hb) (by simp) rfl (by omega) (by omega) (fun j hj => by omega)
      rw [endL_zero [] rune_nil] at RE
      have hk2 : (K.length : Int) = (t : Int) + (s : Int) := by omega
      have FIN : ∀ w2, Below w.heap.size w w2 → (convert 37 9 (.slice (some ⟨g, 0, none⟩) 0 0)).run Tryz.prog (w2.setCell ⟨R, 1, none⟩ (.int .i64 ((t : Int) + (s : Int)))) = .ok (.string (strI [])) (w2.setCell ⟨R, 1, none⟩ (.int .i64 ((t : Int) + (s : Int)))) ∧ TextPost w R g K (.ok (t + s) 0) (.returned (.tuple #[.string (strI []), .nilIface])) (w2.setCell ⟨R, 1, none⟩ (.int .i64 ((t : Int) + (s : Int)))) := by
        intro w2 hb
        have T := (h.below hb).take (u := t + s) (by omega)
        rw [Int.natCast_add] at T
        exact ⟨conv_holds (n := 0) (K := []) ⟨rfl, fun j u hj => by simp at hj⟩ _, by rw [HX.out, hX0], T, Upd.setCell (S := fun k => k = R) (p := ⟨R, 1, none⟩) (Upd.ofBelow hb (fun k hk hk' => by omega)) (fun _ => rfl) _⟩
      clear hXc hXh HX hX0 hXl hXb
      go_enter Tryz.func85, Tryz.ntmps85
      go_wp2_with (first
        | (go_at_call 138; refine N.mono ?_; rintro e w' ⟨rfl, hb⟩; have hc1 := (h.below hb).c1; have hc0 := (h.below hb).c0; have hsz := hb.size; have RE1 := RE w' hb)
        | (go_at_call 139; refine RE1.mono ?_; rintro e w2 ⟨rfl, hb2⟩; have hb3 := hb.trans (hb2.mono hsz); have hc12 := (h.below hb3).c1; have hf12 := (h.below hb3).f1; have hcv := (FIN w2 hb3).1; have FIN2 := (FIN w2 hb3).2))
      go_ret2
      exact FIN2
end Go.Proofs.YthcghpbkadlliaaGreatDoor
