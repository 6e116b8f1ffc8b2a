/-
  Merged by merge.py: Wa, Wh, We, Rt, Tx.
-/
import Derived.Test.YthcghpbkadlliabGreatDoorRd
import Derived.Test.YthcghpbkadlliabGreatDoorUtf
import Derived.Laws.BytesString
import Derived.Laws.Strings2
import Derived.Lib.IndexBytes
import Derived.Shelf.Spec.DecodeRune
namespace Go.Proofs.YthcghpbkadlliabGreatDoor
open Go.RowKit
set_option maxRecDepth 100000

/-- Bytes as a string. -/
def strI (K : List Int) : ByteArray := ⟨(K.map (fun n => UInt8.ofNat n.toNat)).toArray⟩
theorem strI_fold (K : List Int) : ∀ s : ByteArray, K.foldl (fun r n => r.push (UInt8.ofNat n.toNat)) s = ⟨s.data ++ (K.map (fun n => UInt8.ofNat n.toNat)).toArray⟩ := by
  induction K with
  | nil => intro s; simp
  | cons x r ih =>
    intro s
    rw [List.foldl_cons, ih]
    simp [ByteArray.push]
theorem strI_size (K : List Int) : (strI K).size = K.length := by show (K.map _).toArray.size = _; simp
theorem conv_row {w : World} {g : Nat} {K : List Int} (h : RowAt w g K) (c : Nat) : (convert 24 9 (.slice (some ⟨g, 0, none⟩) K.length c)).run Tryz.prog w = .ok (.string (strI K)) w := by
  rw [run_convert_bytes_string w 24 9 5 _ _ _ Tryz.underlying24 Tryz.underlying5 Tryz.underlying9]
  rw [run_bytesToString w ⟨g, 0, none⟩ K.length c K]
  · rw [strI_fold]; simp [strI]
  · have := run_firstCells_some (P := Tryz.prog) w 1 K.length ⟨g, 0, none⟩ K.length c (K.map (Value.int .u8)) (by simp) (fun j u hj => by
      obtain ⟨a, ha, hc⟩ := h.holds.cells j u hj
      simp at ha; subst ha; exact hc)
    simpa [Builtin.firstCells] using this
theorem IsW.below {base B : Nat} {w w' : World} {v : Value} {L : List Int} (h : IsW base w B v L) (hb : Below w.heap.size w w') : IsW base w' B v L :=
  h.upd (Upd.ofBelow (S := fun _ => False) hb (fun k hk hk' => by omega)) (fun h => h) (fun _ _ h => h)
theorem own_ne {base : Nat} {w : World} {e : TypeId} {v : Value} {n : Nat} {xs : List Value} (h : w.ownsRow base e 1 v n xs) {R : Nat} {cs : Array Value} {t : TypeId} (hR : w.heap[R]? = some (.cells cs t (0, 0))) (hne : e ≠ t) : v.ownBlock ≠ some R := by
  intro hk
  rcases h.2 with ⟨rfl, _⟩ | ⟨g, cap, cur, rfl, _, hg, _⟩
  · simp [Value.ownBlock] at hk
  · simp [Value.ownBlock] at hk
    subst hk
    rw [hR] at hg
    simp at hg
    exact hne hg.2.symm
theorem IsW.ne_R {base B : Nat} {w : World} {v : Value} {L : List Int} (h : IsW base w B v L) {R g : Nat} {K : List Int} {t : Nat} (hR : IsR w R g K t) : B ≠ R ∧ ∀ k, v.ownBlock = some k → ¬ k = R := by
  refine ⟨?_, fun k hk e => own_ne h.own hR.block (by decide) (e ▸ hk)⟩
  intro e; subst e
  have h1 := h.block
  rw [hR.block] at h1
  simp at h1
theorem bytesI_get (s : ByteArray) (i : Nat) (h : i < s.size) : bt (bytesI s) i = (s[i].toNat : Int) := by
  have hl : i < (bytesI s).length := by rw [bytesI_length]; exact h
  unfold bt
  rw [List.getD, List.getElem?_eq_getElem hl]
  simp [bytesI]
  rfl
theorem bytesI_out (s : ByteArray) (i : Nat) (h : s.size ≤ i) : bt (bytesI s) i = -1 := by
  unfold bt
  rw [List.getD, List.getElem?_eq_none (by rw [bytesI_length]; exact h)]; rfl
theorem bt_drop (l : List Int) (a i : Nat) : bt (l.drop a) i = bt l (a + i) := by
  unfold bt; rw [List.getD, List.getD, List.getElem?_drop]

theorem ret_bool {b c : Bool} (h : b = c) : Ending.returned (.bool b) = .returned (.bool c) := by rw [h]
theorem conv_holds {w : World} {ad : Option Addr} {n : Nat} {K : List Int} (h : Holds w ad n K) (c : Nat) : (convert 24 9 (.slice ad n c)).run Tryz.prog w = .ok (.string (strI K)) w := by
  rw [run_convert_bytes_string w 24 9 5 _ _ _ Tryz.underlying24 Tryz.underlying5 Tryz.underlying9]
  cases ad with
  | none =>
    have hK : K = [] := by
      cases K with
      | nil => rfl
      | cons x r => obtain ⟨a, ha, _⟩ := h.cells 0 (.int .u8 x) (by simp); simp at ha
    have hn := h.len
    subst hK
    subst hn
    rfl
  | some a =>
    have hn := h.len
    subst hn
    rw [run_bytesToString w a K.length c K]
    · rw [strI_fold]; simp [strI]
    · have := run_firstCells_some (P := Tryz.prog) w 1 K.length a K.length c (K.map (Value.int .u8)) (by simp) (fun j u hj => by
        obtain ⟨a', ha, hc⟩ := h.cells j u hj
        simp at ha; subst ha; exact hc)
      simpa [Builtin.firstCells] using this

theorem bytesI_cut (s : ByteArray) (k n : Nat) : bytesI (s.extract k (k + n)) = ((bytesI s).drop k).take n := by
  have h : s.extract k (k + n) = ⟨((s.data.toList.drop k).take n).toArray⟩ := by
    have := ByteArray.extract_mk s.data.toList k (k + n)
    simpa using this
  rw [h]; unfold bytesI
  simp [List.map_take, List.map_drop]

theorem slice_str (s : ByteArray) (k r : Nat) (h : k + r ≤ s.size) (W : World) : (Instr.slice 9 (.string s) (some (.int .i64 k)) (some (.int .i64 ((k : Int) + (r : Int)))) none).run Tryz.prog W = .ok (.string (s.extract k (k + r))) W := by
  have := run_slice_string (P := Tryz.prog) (w := W) 9 s .i64 .i64 (k : Int) ((k : Int) + (r : Int)) Tryz.underlying9 (by omega) (by omega) (by omega)
  rw [this, show ((k : Int)).toNat = k by omega, show ((k : Int) + (r : Int)).toNat = k + r by omega]
theorem ret_str {a b : ByteArray} (h : a = b) : Ending.returned (.string a) = .returned (.string b) := by rw [h]
end Go.Proofs.YthcghpbkadlliabGreatDoor

namespace Go.Proofs.YthcghpbkadlliabGreatDoor
open Go.Shelf Go.RowKit
def lays32_ren : Go.Shelf.Ren := ⟨fun | 32 => 84 | 49 => 102 | n => n, fun | 30 => 24 | 21 => 21 | 3 => 3 | 0 => 0 | 5 => 5 | 4 => 4 | 33 => 168 | 66 => 192 | 25 => 145 | 69 => 195 | 68 => 194 | n => n, fun | 2 => 1 | 3 => 2 | n => n⟩
theorem lays32 : Go.Proofs.Lays7.n32 Tryz.prog lays32_ren := {
  mixed := by kernel_rfl
  f32 := Tryz.func84.trans (congrArg some (by kernel_rfl))
  f49 := Tryz.func102.trans (congrArg some (by kernel_rfl))
  t0 := Tryz.underlying0
  a0 := Tryz.isAgg0
  z0 := Tryz.sizeOf0
  v0 := Tryz.zeroValue0
  i0 := by kernel_rfl
  t3 := Tryz.underlying3
  a3 := Tryz.isAgg3
  z3 := Tryz.sizeOf3
  v3 := Tryz.zeroValue3
  i3 := by kernel_rfl
  t4 := Tryz.underlying4
  a4 := Tryz.isAgg4
  z4 := Tryz.sizeOf4
  v4 := Tryz.zeroValue4
  i4 := by kernel_rfl
  t5 := Tryz.underlying5
  a5 := Tryz.isAgg5
  z5 := Tryz.sizeOf5
  v5 := Tryz.zeroValue5
  i5 := by kernel_rfl
  t21 := Tryz.underlying21
  a21 := Tryz.isAgg21
  z21 := Tryz.sizeOf21
  v21 := Tryz.zeroValue21
  i21 := by kernel_rfl
  t25 := Tryz.underlying145
  a25 := Tryz.isAgg145
  z25 := Tryz.sizeOf145
  v25 := Tryz.zeroValue145
  i25 := by kernel_rfl
  t30 := Tryz.underlying24
  a30 := Tryz.isAgg24
  z30 := Tryz.sizeOf24
  v30 := Tryz.zeroValue24
  i30 := by kernel_rfl
  t33 := Tryz.underlying168
  a33 := Tryz.isAgg168
  z33 := Tryz.sizeOf168
  v33 := Tryz.zeroValue168
  i33 := by kernel_rfl
  t66 := Tryz.underlying192
  a66 := Tryz.isAgg192
  z66 := Tryz.sizeOf192
  t68 := Tryz.underlying194
  a68 := Tryz.isAgg194
  z68 := Tryz.sizeOf194
  v68 := Tryz.zeroValue194
  i68 := by kernel_rfl
  t69 := Tryz.underlying195
  a69 := Tryz.isAgg195
  z69 := Tryz.sizeOf195
  v69 := Tryz.zeroValue195
  i69 := by kernel_rfl
  g2 := by kernel_rfl
  g3 := by kernel_rfl }
end Go.Proofs.YthcghpbkadlliabGreatDoor

namespace Go.Proofs.YthcghpbkadlliabGreatDoor
open Go.Shelf Go.RowKit
set_option maxRecDepth 100000

/-- The two tables of the decoder. -/
def Tabs (w : World) : Prop := Lib.Utf8Tabs 1 2 w
theorem Tabs.lt {w : World} (h : Tabs w) : 1 < w.heap.size ∧ 2 < w.heap.size :=
  ⟨World.block_lt_of_cell? w ⟨1, 0, none⟩ (h.1 0 (by omega)), World.block_lt_of_cell? w ⟨2, 2 * 0, none⟩ (h.2 0 (by omega)).1⟩
theorem Tabs.upd {S : Nat → Prop} {w w' : World} (h : Tabs w) (hu : Upd S w w') (h1 : ¬ S 1) (h2 : ¬ S 2) : Tabs w' := by
  have hl := h.lt
  have e1 := fun (o : Nat) => World.cell?_of_block (w := w) (w' := w') (a := ⟨1, o, none⟩) (hu.block _ hl.1 h1)
  have e2 := fun (o : Nat) => World.cell?_of_block (w := w) (w' := w') (a := ⟨2, o, none⟩) (hu.block _ hl.2 h2)
  exact ⟨fun c hc => (e1 c).trans (h.1 c hc), fun i hi => ⟨(e2 _).trans (h.2 i hi).1, (e2 _).trans (h.2 i hi).2⟩⟩
theorem Tabs.below {w w' : World} (h : Tabs w) (hb : Below w.heap.size w w') : Tabs w' :=
  h.upd (Upd.ofBelow (S := fun _ => False) hb (fun k hk hk' => by omega)) (fun h => h) (fun h => h)

theorem strI_get (K : List Int) (j : Nat) (hj : j < K.length) (hb : ∀ x ∈ K, 0 ≤ x ∧ x < 256) : (((strI K).get! j).toNat : Int) = K.getD j 0 := by
  have hm := hb K[j] (List.getElem_mem hj)
  have e : (strI K).get! j = UInt8.ofNat (K[j]).toNat := by
    show (K.map (fun n => UInt8.ofNat n.toNat)).toArray[j]! = _
    simp [hj]
  rw [e, List.getD, List.getElem?_eq_getElem hj]
  simp
  omega
theorem bt_getD (K : List Int) (j : Nat) (hj : j < K.length) : bt K j = K.getD j 0 := by
  unfold bt; rw [List.getD, List.getD, List.getElem?_eq_getElem hj]; rfl
theorem bt_none (K : List Int) (j : Nat) (hj : K.length ≤ j) : bt K j = -1 := by
  unfold bt; rw [List.getD, List.getElem?_eq_none hj]; rfl

/-- What Go's decoder tells of bytes, in the document's words. -/
theorem decode_rune (K : List Int) (h0 : 0 < K.length) (hb : ∀ x ∈ K, 0 ≤ x ∧ x < 256) :
    (runeL K = 0 → Lib.decodeGo (strI K) = (65533, 1)) ∧ (0 < runeL K → (Lib.decodeGo (strI K)).2 = runeL K ∧ ((Lib.decodeGo (strI K)).1 = 65533 → 1 < runeL K)) := by
  have hs := strI_size K
  have hd : Lib.decodeGo (strI K) = Lib.decodeN K.length ((strI K).get! 0).toNat ((strI K).get! 1).toNat ((strI K).get! 2).toNat ((strI K).get! 3).toNat := by
    simp only [Lib.decodeGo]
    rw [if_neg (by omega), Lib.decode_at, hs]; rfl
  rw [hd]
  have e0 : bt K 0 = (((strI K).get! 0).toNat : Int) := by rw [bt_getD K 0 h0, strI_get K 0 h0 hb]
  have ei : ∀ i, bt K i = if i < K.length then (((strI K).get! i).toNat : Int) else -1 := by
    intro i
    split
    · rename_i h; rw [bt_getD K i h, strI_get K i h hb]
    · rename_i h; exact bt_none K i (by omega)
  have := dec_rune K.length ((strI K).get! 0).toNat ((strI K).get! 1).toNat ((strI K).get! 2).toNat ((strI K).get! 3).toNat h0 (UInt8.toNat_lt _) (UInt8.toNat_lt _) (UInt8.toNat_lt _) (UInt8.toNat_lt _) (bt K 1) (bt K 2) (bt K 3) (ei 1) (ei 2) (ei 3)
  rw [← e0] at this
  exact this

theorem decode_any (K : List Int) (b off cap : Nat) (w : World) (hT : Tabs w) (hb : ∀ x ∈ K, 0 ≤ x ∧ x < 256)
    (hp : ∀ j, j < K.length → w.cell? ⟨b, off + j, none⟩ = some (.int .u8 (K.getD j 0))) :
    Calls Tryz.prog 84 #[.slice (some ⟨b, off, none⟩) K.length cap] w fun e w' => e = .returned (.tuple #[.int .i32 (Lib.decodeGo (strI K)).1, .int .i64 (Lib.decodeGo (strI K)).2]) ∧ Below w.heap.size w w' := by
  have := Any7.utf8_DecodeRune lays32 (strI K) b off cap w hT (fun j hj => by
    rw [strI_size] at hj
    rw [strI_get K j hj hb]; exact hp j hj)
  rw [strI_size] at this
  exact this

theorem runesEnd_any (g off n cap : Nat) (K : List Int) (w : World) (hT : Tabs w) (hK : ∀ x ∈ K, 0 ≤ x ∧ x < 256) (hl : K.length = n) (hc : n ≤ cap) (hcap : cap ≤ 140737488355328)
    (hp : ∀ j, j < n → w.cell? ⟨g, off + j, none⟩ = some (.int .u8 (K.getD j 0))) :
    Calls Tryz.prog 67 #[.slice (some ⟨g, off, none⟩) n cap] w fun e w' => e = .returned (.int .i64 (endL K)) ∧ Below w.heap.size w w' := by
  go_enter Tryz.func67, Tryz.ntmps67
  go_wp2
  go_loopw [3] (fun a wr => ∃ k : Nat, a = .int .i64 k ∧ k ≤ n ∧ endL K = k + endL (K.drop k) ∧ Below w.heap.size w wr) (fun a _ => n - (intOf a).toNat)
  case atStart => exact ⟨0, rfl, by omega, by simp, Below.refl _ _⟩
  case round =>
    obtain ⟨k, rfl, hk, hE, hb⟩ := hrel
    have HE : Hid (endL K = k + endL (K.drop k)) := hE
    clear hE
    by_cases hlt : k < n
    · have hlt2 : k < cap := by omega
      have hbK : ∀ x ∈ K.drop k, 0 ≤ x ∧ x < 256 := fun x hx => hK x (List.mem_of_mem_drop hx)
      have hdl : (K.drop k).length = n - k := by simp [hl]
      have D := decode_any (K.drop k) g (off + k) (cap - k) wr (hT.below hb) hbK (fun j hj => by
        rw [hdl] at hj
        have h1 := hp (k + j) (by omega)
        have hblk := World.block_lt_of_cell? w _ h1
        have h2 : wr.cell? ⟨g, off + k + j, none⟩ = w.cell? ⟨g, off + k + j, none⟩ := hb.cell (p := ⟨g, off + k + j, none⟩) hblk
        rw [h2, Nat.add_assoc, h1, List.getD, List.getD, List.getElem?_drop])
      rw [hdl] at D
      obtain ⟨q1, q2⟩ := decode_rune (K.drop k) (by omega) hbK
      by_cases hr : runeL (K.drop k) = 0
      · have q3 := q1 hr
        rw [q3] at D
        have HZ : Hid (endL K = k) := by show endL K = k; rw [HE.out, endL_zero _ hr]; omega
        clear q1 q2 q3 hr HE
        go_wp2_with (go_at_call 84; refine D.mono ?_; rintro e w' ⟨rfl, hb'⟩; have hb2 := hb.trans (hb'.mono hb.size))
        go_ret
        exact ⟨ret_int (by rw [HZ.out]), hb2⟩
      · obtain ⟨q3, q4⟩ := q2 (by omega)
        have hle := rune_le (K.drop k)
        rw [hdl] at hle
        have HS : Hid (endL K = k + (runeL (K.drop k) + endL ((K.drop k).drop (runeL (K.drop k))))) := by
          show endL K = _
          rw [HE.out, endL_step _ (by omega)]
        obtain ⟨c, hcc⟩ : ∃ c, (Lib.decodeGo (strI (K.drop k))).1 = c := ⟨_, rfl⟩
        obtain ⟨r, hrr⟩ : ∃ r, runeL (K.drop k) = r := ⟨_, rfl⟩
        rw [q3, hcc, hrr] at D
        rw [hcc, hrr] at q4
        rw [hrr] at hle hr HS
        have hpos : 0 < r := by omega
        clear q1 q2 q3 hcc hrr HE hr
        by_cases hcq : c = 65533
        · have h1r : (1 : Int) < (r : Int) := by have := q4 hcq; omega
          subst hcq
          clear q4
          go_wp2_with (go_at_call 84; refine D.mono ?_; rintro e w' ⟨rfl, hb'⟩; have hb2 := hb.trans (hb'.mono hb.size))
          go_roundw
          case rel => exact ⟨k + r, by go_num, by omega, by rw [HS.out, List.drop_drop]; omega, hb2⟩
          case measure => simp [intOf]; omega
        · have hc2 : ((c : Int) == 65533) = false := by simp; omega
          clear q4 hcq
          go_wp2_with (go_at_call 84; refine D.mono ?_; rintro e w' ⟨rfl, hb'⟩; have hb2 := hb.trans (hb'.mono hb.size))
          go_roundw
          case rel => exact ⟨k + r, by go_num, by omega, by rw [HS.out, List.drop_drop]; omega, hb2⟩
          case measure => simp [intOf]; omega
    · have hk2 : k = n := by omega
      have HZ : Hid (endL K = k) := by
        show endL K = k
        rw [HE.out, List.drop_of_length_le (by omega), endL_zero [] rune_nil]; omega
      clear HE
      go_wp2
      go_ret
      exact ⟨ret_int (by rw [HZ.out]), hb⟩
end Go.Proofs.YthcghpbkadlliabGreatDoor

namespace Go.Proofs.YthcghpbkadlliabGreatDoor
open Go.Shelf Go.RowKit
set_option maxRecDepth 100000

theorem IsR.c0 {w : World} {R g : Nat} {K : List Int} {t : Nat} (h : IsR w R g K t) : w.cell? ⟨R, 0, none⟩ = some (.slice (some ⟨g, 0, none⟩) K.length K.length) := by simp [World.cell?, h.block]
theorem IsR.c1 {w : World} {R g : Nat} {K : List Int} {t : Nat} (h : IsR w R g K t) : w.cell? ⟨R, 1, none⟩ = some (.int .i64 t) := by simp [World.cell?, h.block]
theorem IsR.f1 {w : World} {R g : Nat} {K : List Int} {t : Nat} (h : IsR w R g K t) : w.frozen? ⟨R, 1, none⟩ = false := by simp [World.frozen?, h.block]

theorem at_any (R g : Nat) (K : List Int) (t : Nat) (w : World) (h : IsR w R g K t) :
    Calls Tryz.prog 64 #[.pointer (some ⟨R, 0, none⟩)] w fun e w' => e = .returned (.int .i64 t) ∧ w' = w := by
  have hc1 := h.c1
  go_enter Tryz.func64, Tryz.ntmps64
  go_wp2
  go_ret
  exact ⟨rfl, rfl⟩
theorem left_any (R g : Nat) (K : List Int) (t : Nat) (w : World) (h : IsR w R g K t) :
    Calls Tryz.prog 61 #[.pointer (some ⟨R, 0, none⟩)] w fun e w' => e = .returned (.int .i64 ((K.length - t : Nat) : Int)) ∧ ∃ n, w' = w.drewN n := by
  have hc0 := h.c0
  have hc1 := h.c1
  have hsm := h.small
  have hle := h.le
  go_enter Tryz.func61, Tryz.ntmps61
  go_wp2
  go_quiet (fail)
  go_wp2
  go_ret
  exact ⟨ret_int (by omega), _, rfl⟩
theorem end_any (R g : Nat) (K : List Int) (w : World) (h : IsR w R g K K.length) :
    Calls Tryz.prog 40 #[.pointer (some ⟨R, 0, none⟩)] w fun e w' => e = .returned .nilIface ∧ Below w.heap.size w w' := by
  have L := left_any R g K K.length w h
  rw [Nat.sub_self] at L
  go_enter Tryz.func40, Tryz.ntmps40
  go_wp2_with (go_at_call 61; refine L.mono ?_; rintro e w' ⟨rfl, n, rfl⟩)
  go_ret
  exact ⟨rfl, below_drewN (Below.refl _ _) _⟩
theorem end_left (R g : Nat) (K : List Int) (t : Nat) (w : World) (h : IsR w R g K t) (ht : t < K.length) :
    Calls Tryz.prog 40 #[.pointer (some ⟨R, 0, none⟩)] w fun e w' => ∃ p, e = .returned (.iface 95 (.pointer (some ⟨p, 0, none⟩))) ∧ IsF w' p t 15 ∧ w.heap.size ≤ p ∧ Below w.heap.size w w' := by
  have L := left_any R g K t w h
  have hc1 := h.c1
  have hpos : 0 < K.length - t := by omega
  go_enter Tryz.func40, Tryz.ntmps40
  go_wp2_with (first
    | (go_at_call 61; refine L.mono ?_; rintro e w' ⟨rfl, n, rfl⟩)
    | (go_at_call 60; refine (fault_any _ _ _).mono ?_; rintro e w' ⟨rfl, rfl⟩))
  go_ret
  exact ⟨w.heap.size, rfl, heap_alloc_new _ _, Nat.le_refl _, (below_drewN (Below.refl _ _) _).alloc (Nat.le_refl _) _⟩
/-- What the Reader's Int leaves. -/
def IntPost (w : World) (R g : Nat) (K : List Int) (t : Nat) : NumRes → Ending → World → Prop
  | some (some (v, s)), e, w' => e = .returned (.tuple #[.int .i64 (zagI v), .nilIface]) ∧ IsR w' R g K (t + s) ∧ Upd (fun k => k = R) w w'
  | some none, e, w' => ∃ p, e = .returned (.tuple #[.int .i64 0, .iface 95 (.pointer (some ⟨p, 0, none⟩))]) ∧ IsF w' p t 12 ∧ w.heap.size ≤ p ∧ Below w.heap.size w w'
  | none, e, w' => ∃ p, e = .returned (.tuple #[.int .i64 0, .iface 95 (.pointer (some ⟨p, 0, none⟩))]) ∧ IsF w' p K.length 11 ∧ w.heap.size ≤ p ∧ Below w.heap.size w w'
theorem scan_val : ∀ (l : List Int) (s v v' s' : Nat), (∀ x ∈ l, 0 ≤ x ∧ x < 256) → s ≤ 10 → (s ≤ 9 → v < 128 ^ s) → scanN l s v = .ok v' s' → v' < 18446744073709551616 := by
  intro l
  induction l with
  | nil => intro s v v' s' _ _ _ h; unfold scanN at h; split at h <;> simp at h
  | cons x r ih =>
    intro s v v' s' hl hs hv h
    unfold scanN at h
    have hx := hl x (by simp)
    split at h
    · simp at h
    · rename_i h10
      have hv' := hv (by omega)
      split at h
      · split at h
        · simp at h
        · rename_i hx128 hb
          simp at h
          obtain ⟨rfl, _⟩ := h
          by_cases h8 : s ≤ 8
          · have hp := pow_le8 s h8
            have hm : x.toNat * 128 ^ s ≤ 127 * 128 ^ s := Nat.mul_le_mul_right _ (by omega)
            omega
          · have h9 : s = 9 := by omega
            subst h9
            have hx1 : x ≤ 1 := by
              by_cases hx1 : x ≤ 1
              · exact hx1
              · exact absurd (by simp [badLast]; omega) hb
            have hm : x.toNat * 128 ^ 9 ≤ 1 * 128 ^ 9 := Nat.mul_le_mul_right _ (by omega)
            omega
      · refine ih (s + 1) _ v' s' (fun y hy => hl y (by simp [hy])) (by omega) (fun h9 => ?_) h
        have hm : (x.toNat - 128) * 128 ^ s ≤ 127 * 128 ^ s := Nat.mul_le_mul_right _ (by omega)
        rw [Nat.pow_succ]; omega
theorem getInt_any (R g : Nat) (K : List Int) (t : Nat) (w : World) (h : IsR w R g K t) :
    Calls Tryz.prog 104 #[.pointer (some ⟨R, 0, none⟩)] w fun e w' => IntPost w R g K t (scanN (K.drop t) 0 0) e w' := by
  have N := getUint_any R g K t w h
  have hv := scan_val (K.drop t) 0 0
  have hby : ∀ x ∈ K.drop t, 0 ≤ x ∧ x < 256 := fun x hx => h.byts x (List.mem_of_mem_drop hx)
  generalize scanN (K.drop t) 0 0 = r at N hv
  cases r using NumRes.each with
  | ok v s =>
    have hv2 := hv v s hby (by omega) (by simp) rfl
    clear hv
    go_enter Tryz.func104, Tryz.ntmps104
    go_wp2_with (first
      | (go_at_call 63; refine N.mono ?_; rintro e w' ⟨rfl, hR, hU⟩)
      | (go_at_call 110; refine (zag_any _ (by omega) (by omega) _).mono ?_; rintro e w'' ⟨rfl, rfl⟩))
    go_ret2
    exact ⟨rfl, hR, hU⟩
  | form =>
    clear hv
    go_enter Tryz.func104, Tryz.ntmps104
    go_wp2_with (go_at_call 63; refine N.mono ?_; rintro e w' ⟨p, rfl, hF, hp, hb⟩)
    go_ret2
    exact ⟨p, rfl, hF, hp, hb⟩
  | ended =>
    clear hv
    go_enter Tryz.func104, Tryz.ntmps104
    go_wp2_with (go_at_call 63; refine N.mono ?_; rintro e w' ⟨p, rfl, hF, hp, hb⟩)
    go_ret2
    exact ⟨p, rfl, hF, hp, hb⟩

theorem wraw_any (base B : Nat) (v : Value) (L : List Int) (ad : Option Addr) (n cap : Nat) (K : List Int) (w : World) (h : IsW base w B v L) (hb : base ≤ w.heap.size) (hK : Holds w ad n K) (hlen : L.length + n ≤ 140737488355328) :
    Calls Tryz.prog 49 #[.pointer (some ⟨B, 0, none⟩), .slice ad n cap] w fun e w' => e = .returned (.tuple #[]) ∧ ∃ v', IsW base w' B v' (L ++ K) ∧ Upd (fun k => k = B ∨ v.ownBlock = some k) w w' ∧ Moved w v v' := by
  obtain ⟨i0, hi, hz0, hz1, hz2⟩ := info_parts Tryz.info5
  have hcell := cell_of_one h.block
  have hfree := free_of_one h.block
  have hl := hK.len
  have hS : Src Tryz.prog 1 24 (.slice ad n cap) n (K.map (Value.int .u8)) w := by
    cases ad with
    | none =>
      have hK0 : K = [] := by
        cases K with
        | nil => rfl
        | cons x r => obtain ⟨a, ha, _⟩ := hK.cells 0 (.int .u8 x) (by simp); simp at ha
      subst hK0
      subst hl
      exact Src.ofNil _ Tryz.underlying24 cap
    | some a =>
      exact Src.ofSlice _ Tryz.underlying24 a n cap _ (by simpa using hl) (fun j u hj => by
        obtain ⟨a', ha, hc⟩ := hK.cells j u hj
        simp at ha; subst ha; exact hc) (u8_one K)
  go_enter Tryz.func49, Tryz.ntmps49
  go_wp2_with (at_builtin; refine wpList_app _ rfl (.tmp 8) (.tmp 9) 24 24 rfl base 5 i0 (.int .u8 0) 1 Tryz.underlying24 hi hz0 hz1 hz2 rfl _ _ _ rfl h.own _ n (K.map (Value.int .u8)) rfl hS ?c3 ?c4 ?c5 ?_)
  case c3 => unfold maxLen; omega
  case c4 => omega
  case c5 => omega
  intro v' w2 ho hg hm
  obtain ⟨ao, l, c, rfl⟩ := row_shape ho
  obtain ⟨R1, R2, R3, R4⟩ := put_step (o := none) (K := K) h rfl (by rw [hl]; exact ho) hg hm
  have hcell2 := cell_of_one R4
  have hfree2 := free_of_one R4
  clear ho hg hm hcell hfree R4
  go_wp2
  go_end0
  exact ⟨rfl, _, R1, R2, R3⟩
end Go.Proofs.YthcghpbkadlliabGreatDoor

namespace Go.Proofs.YthcghpbkadlliabGreatDoor
open Go.Shelf Go.RowKit
set_option maxRecDepth 100000

/-- What Text answers: the text's place and length; or what is wrong, and where. -/
abbrev TxtRes := Except (Nat × Nat) (Nat × Nat)
abbrev TxtRes.ok (from_ v : Nat) : TxtRes := Except.ok (from_, v)
abbrev TxtRes.bad (at_ no : Nat) : TxtRes := Except.error (at_, no)
theorem TxtRes.each {motive : TxtRes → Prop} (ok : ∀ f v, motive (.ok f v)) (bad : ∀ a n, motive (.bad a n)) (r : TxtRes) : motive r := by
  rcases r with ⟨a, n⟩ | ⟨f, v⟩
  · exact bad a n
  · exact ok f v
def textR (K : List Int) (t : Nat) (most : Int) : TxtRes :=
  if most < 0 then .bad t 1
  else match scanN (K.drop t) 0 0 with
    | some none => .bad t 12
    | none => .bad K.length 11
    | some (some (v, s)) => if most < (v : Int) then .bad t 13 else if K.length < t + s + v then .bad K.length 11
      else if endL ((K.drop (t + s)).take v) < v then .bad (t + s + endL ((K.drop (t + s)).take v)) 14 else .ok (t + s) v
def TextPost (w : World) (R g : Nat) (K : List Int) : TxtRes → Ending → World → Prop
  | Except.ok (f, v), e, w' => e = .returned (.tuple #[.string (strI ((K.drop f).take v)), .nilIface]) ∧ IsR w' R g K (f + v) ∧ Upd (fun k => k = R) w w'
  | Except.error (a, no), e, w' => ∃ p, e = .returned (.tuple #[.string ByteArray.empty, .iface 95 (.pointer (some ⟨p, 0, none⟩))]) ∧ IsF w' p a no ∧ w.heap.size ≤ p ∧ Below w.heap.size w w'

theorem text_neg (R g : Nat) (K : List Int) (t : Nat) (most : Int) (w : World) (h : IsR w R g K t) (hm : most < 0) :
    Calls Tryz.prog 32 #[.pointer (some ⟨R, 0, none⟩), .int .i64 most] w fun e w' => TextPost w R g K (.bad t 1) e w' := by
  have hc1 := h.c1
  go_enter Tryz.func32, Tryz.ntmps32
  go_wp2_with (go_at_call 60; refine (fault_any _ _ _).mono ?_; rintro e w' ⟨rfl, rfl⟩)
  go_ret2
  exact ⟨w.heap.size, rfl, heap_alloc_new _ _, Nat.le_refl _, (Below.refl _ _).alloc (Nat.le_refl _) _⟩

theorem getText_any (R g : Nat) (K : List Int) (t : Nat) (most : Int) (w : World) (h : IsR w R g K t) (hT : Tabs w) (hmx : most ≤ 9223372036854775807) :
    Calls Tryz.prog 32 #[.pointer (some ⟨R, 0, none⟩), .int .i64 most] w fun e w' => TextPost w R g K (textR K t most) e w' := by
  unfold textR
  by_cases hm : most < 0
  · rw [if_pos hm]; exact text_neg R g K t most w h hm
  rw [if_neg hm]
  have N := number_any R g K t w h
  have hs := scan_size (K.drop t) 0 0
  have hv := scan_val (K.drop t) 0 0
  have hby : ∀ x ∈ K.drop t, 0 ≤ x ∧ x < 256 := fun x hx => h.byts x (List.mem_of_mem_drop hx)
  rw [List.length_drop] at hs
  have hsm := h.small
  have hle := h.le
  generalize scanN (K.drop t) 0 0 = r at N hs hv
  cases r using NumRes.each with
  | form =>
    clear hs hv
    go_enter Tryz.func32, Tryz.ntmps32
    go_wp2_with (go_at_call 66; refine N.mono ?_; rintro e w' ⟨p, rfl, hF, hp, hb⟩)
    go_ret2
    exact ⟨p, rfl, hF, hp, hb⟩
  | ended =>
    clear hs hv
    go_enter Tryz.func32, Tryz.ntmps32
    go_wp2_with (go_at_call 66; refine N.mono ?_; rintro e w' ⟨p, rfl, hF, hp, hb⟩)
    go_ret2
    exact ⟨p, rfl, hF, hp, hb⟩
  | ok v s =>
    obtain ⟨hs1, hs2⟩ := hs v s rfl
    have hv2 := hv v s hby (by omega) (by simp) rfl
    clear hs hv hby
    show Calls _ _ _ _ fun e w' => TextPost w R g K (if most < (v : Int) then .bad t 13 else if K.length < t + s + v then .bad K.length 11 else if endL ((K.drop (t + s)).take v) < v then .bad (t + s + endL ((K.drop (t + s)).take v)) 14 else .ok (t + s) v) e w'
    have hnw : ∀ w', Below w.heap.size w w' → w'.cell? ⟨R, 1, none⟩ = some (.int .i64 t) := fun w' hb => (h.below hb).c1
    by_cases c1 : most < (v : Int)
    · rw [if_pos c1]
      go_enter Tryz.func32, Tryz.ntmps32
      go_wp2_with (first
        | (go_at_call 66; refine N.mono ?_; rintro e w' ⟨rfl, hb⟩; have hc1 := (h.below hb).c1; have hsz := hb.size)
        | (go_at_call 60; refine (fault_any _ _ _).mono ?_; rintro e w2 ⟨rfl, rfl⟩))
      go_ret2
      exact ⟨_, rfl, heap_alloc_new _ _, hsz, hb.alloc hsz _⟩
    rw [if_neg c1]
    by_cases c2 : K.length < t + s + v
    · rw [if_pos c2]
      go_enter Tryz.func32, Tryz.ntmps32
      go_wp2_with (first
        | (go_at_call 66; refine N.mono ?_; rintro e w' ⟨rfl, hb⟩; have hc1 := (h.below hb).c1; have hc0 := (h.below hb).c0; have hsz := hb.size)
        | (go_at_call 60; refine (fault_any _ _ _).mono ?_; rintro e w2 ⟨rfl, rfl⟩))
      go_ret2
      exact ⟨_, rfl, heap_alloc_new _ _, hsz, hb.alloc hsz _⟩
    rw [if_neg c2]
    obtain ⟨X, hX⟩ : ∃ X, (K.drop (t + s)).take v = X := ⟨_, rfl⟩
    rw [hX]
    have hXl : X.length = v := by rw [← hX]; simp; omega
    have hXb : ∀ x ∈ X, 0 ≤ x ∧ x < 256 := by rw [← hX]; exact fun x hx => h.byts x (List.mem_of_mem_drop (List.mem_of_mem_take hx))
    have hXc : ∀ w', Below w.heap.size w w' → ∀ j, j < v → w'.cell? ⟨g, t + s + j, none⟩ = some (.int .u8 (X.getD j 0)) := by
      intro w' hb j hj
      have := (h.below hb).row.cell (t + s + j) (by omega)
      rw [this, ← hX]
      simp only [List.getD]
      rw [List.getElem?_take_of_lt hj, List.getElem?_drop]
    have hXh : ∀ w', Below w.heap.size w w' → Holds w' (some ⟨g, t + s, none⟩) v X := by
      intro w' hb
      refine ⟨hXl, fun j u hj => ⟨_, rfl, ?_⟩⟩
      have hj' : j < v := by
        by_cases hjn : j < v
        · exact hjn
        · rw [List.getElem?_eq_none (by simp; omega)] at hj; simp at hj
      rw [Addr.add_lit, hXc w' hb j hj']
      simp at hj
      obtain ⟨a, ha, rfl⟩ := hj
      simp [List.getD, ha]
    have hEl := endL_le X.length X (Nat.le_refl _)
    have HX : Hid ((K.drop (t + s)).take v = X) := hX
    obtain ⟨E, hE⟩ : ∃ E, endL X = E := ⟨_, rfl⟩
    rw [hE, hXl] at hEl
    rw [hE]
    clear hX
    by_cases c3 : t + s < K.length
    · have RE := fun (w' : World) (hb : Below w.heap.size w w') => runesEnd_any g (t + s) v (K.length - (t + s)) X w' (hT.below hb) hXb hXl (by omega) (by omega) (hXc w' hb)
      rw [hE] at RE
      have hkt : ¬ (K.length = t + s) := by omega
      by_cases c4 : E < v
      · rw [if_pos c4]
        clear hXc hXh
        go_enter Tryz.func32, Tryz.ntmps32
        go_wp2_with (first
          | (go_at_call 66; refine N.mono ?_; rintro e w' ⟨rfl, hb⟩; have hc1 := (h.below hb).c1; have hc0 := (h.below hb).c0; have hsz := hb.size; have RE1 := RE w' hb)
          | (go_at_call 67; refine RE1.mono ?_; rintro e w2 ⟨rfl, hb2⟩; have hb3 := hb.trans (hb2.mono hsz); have hsz3 := hb3.size)
          | (go_at_call 60; refine (fault_any _ _ _).mono ?_; rintro e w3 ⟨rfl, rfl⟩))
        go_ret2
        exact ⟨_, rfl, by unfold IsF; rw [Int.natCast_add, Int.natCast_add]; exact heap_alloc_new _ _, hsz3, hb3.alloc hsz3 _⟩
      · rw [if_neg c4]
        have hEv : E = v := by omega
        subst hEv
        have FIN : ∀ w2, Below w.heap.size w w2 → (convert 24 9 (.slice (some ⟨g, t + s, none⟩) E (K.length - (t + s)))).run Tryz.prog (w2.setCell ⟨R, 1, none⟩ (.int .i64 ((t : Int) + (s : Int) + (E : Int)))) = .ok (.string (strI X)) (w2.setCell ⟨R, 1, none⟩ (.int .i64 ((t : Int) + (s : Int) + (E : Int)))) ∧ TextPost w R g K (.ok (t + s) E) (.returned (.tuple #[.string (strI X), .nilIface])) (w2.setCell ⟨R, 1, none⟩ (.int .i64 ((t : Int) + (s : Int) + (E : Int)))) := by
          intro w2 hb
          have T := (h.below hb).take (u := t + s + E) (by omega)
          rw [Int.natCast_add, Int.natCast_add] at T
          refine ⟨conv_holds ⟨hXl, fun j u hj => ?_⟩ _, by rw [HX.out], T, Upd.setCell (S := fun k => k = R) (p := ⟨R, 1, none⟩) (Upd.ofBelow hb (fun k hk hk' => by omega)) (fun _ => rfl) _⟩
          obtain ⟨a, ha, hc⟩ := (hXh w2 hb).cells j u hj
          refine ⟨a, ha, ?_⟩
          simp at ha
          subst ha
          rw [← hc]
          exact World.cell?_of_block (w := w2) (Below.heap_setCell w2 ⟨R, 1, none⟩ _ _ (by rw [Addr.add_lit]; exact h.apart))
        clear hXc hXh
        go_enter Tryz.func32, Tryz.ntmps32
        go_wp2_with (first
          | (go_at_call 66; refine N.mono ?_; rintro e w' ⟨rfl, hb⟩; have hc1 := (h.below hb).c1; have hc0 := (h.below hb).c0; have hsz := hb.size; have RE1 := RE w' hb)
          | (go_at_call 67; refine RE1.mono ?_; rintro e w2 ⟨rfl, hb2⟩; have hb3 := hb.trans (hb2.mono hsz); have hc12 := (h.below hb3).c1; have hf12 := (h.below hb3).f1; have hcv := (FIN w2 hb3).1; have FIN2 := (FIN w2 hb3).2))
        go_ret2
        exact FIN2
    · have hfk : t + s = K.length := by omega
      have hv0 : v = 0 := by omega
      subst hv0
      have hX0 : X = [] := List.eq_nil_of_length_eq_zero hXl
      have hE0 : E = 0 := by omega
      subst hE0
      rw [if_neg (by omega)]
      have RE := fun (w' : World) (hb : Below w.heap.size w w') => runesEnd_any g 0 0 0 [] w' (hT.below hb) (by simp) rfl (by omega) (by omega) (fun j hj => by omega)
      rw [endL_zero [] rune_nil] at RE
      have hk2 : (K.length : Int) = (t : Int) + (s : Int) := by omega
      have FIN : ∀ w2, Below w.heap.size w w2 → (convert 24 9 (.slice (some ⟨g, 0, none⟩) 0 0)).run Tryz.prog (w2.setCell ⟨R, 1, none⟩ (.int .i64 ((t : Int) + (s : Int)))) = .ok (.string (strI [])) (w2.setCell ⟨R, 1, none⟩ (.int .i64 ((t : Int) + (s : Int)))) ∧ TextPost w R g K (.ok (t + s) 0) (.returned (.tuple #[.string (strI []), .nilIface])) (w2.setCell ⟨R, 1, none⟩ (.int .i64 ((t : Int) + (s : Int)))) := by
        intro w2 hb
        have T := (h.below hb).take (u := t + s) (by omega)
        rw [Int.natCast_add] at T
        exact ⟨conv_holds (n := 0) (K := []) ⟨rfl, fun j u hj => by simp at hj⟩ _, by rw [HX.out, hX0], T, Upd.setCell (S := fun k => k = R) (p := ⟨R, 1, none⟩) (Upd.ofBelow hb (fun k hk hk' => by omega)) (fun _ => rfl) _⟩
      clear hXc hXh HX hX0 hXl hXb
      go_enter Tryz.func32, Tryz.ntmps32
      go_wp2_with (first
        | (go_at_call 66; refine N.mono ?_; rintro e w' ⟨rfl, hb⟩; have hc1 := (h.below hb).c1; have hc0 := (h.below hb).c0; have hsz := hb.size; have RE1 := RE w' hb)
        | (go_at_call 67; refine RE1.mono ?_; rintro e w2 ⟨rfl, hb2⟩; have hb3 := hb.trans (hb2.mono hsz); have hc12 := (h.below hb3).c1; have hf12 := (h.below hb3).f1; have hcv := (FIN w2 hb3).1; have FIN2 := (FIN w2 hb3).2))
      go_ret2
      exact FIN2
end Go.Proofs.YthcghpbkadlliabGreatDoor
