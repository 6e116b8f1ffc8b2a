/-
  Contracts: spoorref01.Rune, whole; spoorlaw01.clean.
-/
import Derived.Test.YtpbpkhbmopjdjaaDoorRn
namespace Go.Proofs.YtpbpkhbmopjdjaaDoor
open Go.RowKit
set_option maxRecDepth 100000

theorem rune_any (s : ByteArray) (i : Nat) (hs : s.size ≤ 140737488355328) (w : World) :
    Calls Tryd.prog 49 #[.string s, .int .i64 i] w fun e w' => e = .returned (.int .i64 (runeL ((bytesI s).drop i))) ∧ w' = w := by
  have e : runeL ((bytesI s).drop i) = runeOf (bt (bytesI s) i) (bt (bytesI s) (i + 1)) (bt (bytesI s) (i + 2)) (bt (bytesI s) (i + 3)) := by
    unfold runeL; rw [bt_drop, bt_drop, bt_drop, bt_drop]; rfl
  by_cases hi : i < s.size
  · have hx := bytesI_get s i hi
    have hlt : s[i].toNat < 256 := s[i].toNat_lt
    obtain ⟨x, hxx⟩ : ∃ x : Nat, s[i].toNat = x := ⟨_, rfl⟩
    rw [hx, hxx] at e
    rw [hxx] at hlt
    have fin : ∀ (lo hi : Int) (more : Nat), (more = 1 ∨ more = 2 ∨ more = 3) → loB x = lo → hiB x = hi → (more = 1 → 194 ≤ x ∧ x ≤ 223) → (more = 2 → 224 ≤ x ∧ x ≤ 239) → (more = 3 → 240 ≤ x ∧ x ≤ 244) →
        (if chkN s i lo hi more = true then ((more + 1 : Nat) : Int) else 0) = ((runeL ((bytesI s).drop i) : Nat) : Int) := by
      intro lo hi more hm hlo hhi m1 m2 m3
      have cast : ∀ (p : Prop) [Decidable p] (m : Nat), (((if p then m else 0 : Nat)) : Int) = if p then (m : Int) else 0 := by intro p _ m; split <;> rfl
      rw [e]
      rcases hm with rfl | rfl | rfl
      · have := m1 rfl
        have hl : lo = 128 := by rw [← hlo]; unfold loB; rw [if_neg (by omega), if_neg (by omega)]
        have hh : hi = 191 := by rw [← hhi]; unfold hiB; rw [if_neg (by omega), if_neg (by omega)]
        have r : ∀ b1 b2 b3 : Int, runeOf x b1 b2 b3 = if 128 ≤ b1 ∧ b1 ≤ 191 then 2 else 0 := by
          intro b1 b2 b3; unfold runeOf; rw [if_neg (by omega), if_neg (by omega), if_pos (by omega)]
        rw [r, cast]
        simp [chkN, betB, loK, hiK, hl, hh]
      · have := m2 rfl
        have r : ∀ b1 b2 b3 : Int, runeOf x b1 b2 b3 = if (lo ≤ b1 ∧ b1 ≤ hi) ∧ (128 ≤ b2 ∧ b2 ≤ 191) then 3 else 0 := by
          intro b1 b2 b3; unfold runeOf; rw [if_neg (by omega), if_neg (by omega), if_neg (by omega), if_pos (by omega), hlo, hhi]
        rw [r, cast]
        simp [chkN, betB, loK, hiK]
      · have := m3 rfl
        have r : ∀ b1 b2 b3 : Int, runeOf x b1 b2 b3 = if (lo ≤ b1 ∧ b1 ≤ hi) ∧ (128 ≤ b2 ∧ b2 ≤ 191) ∧ (128 ≤ b3 ∧ b3 ≤ 191) then 4 else 0 := by
          intro b1 b2 b3; unfold runeOf; rw [if_neg (by omega), if_neg (by omega), if_neg (by omega), if_neg (by omega), if_pos (by omega), hlo, hhi]
        rw [r, cast]
        simp [chkN, betB, loK, hiK, and_assoc]
    by_cases q0 : x < 128
    · have r : runeL ((bytesI s).drop i) = 1 := by rw [e]; unfold runeOf; rw [if_neg (by omega), if_pos (by omega)]
      rw [r]; exact rune_one s i hi (by rw [hxx]; omega) w
    by_cases q1 : x ≤ 193 ∨ 245 ≤ x
    · have r : runeL ((bytesI s).drop i) = 0 := by rw [e]; unfold runeOf; rw [if_neg (by omega), if_neg (by omega), if_neg (by omega), if_neg (by omega), if_neg (by omega)]
      rw [r]; exact rune_bad s i hi (by rw [hxx]; omega) w
    rcases (by omega : (194 ≤ x ∧ x ≤ 223) ∨ x = 224 ∨ (225 ≤ x ∧ x ≤ 236) ∨ x = 237 ∨ (238 ≤ x ∧ x ≤ 239) ∨ x = 240 ∨ (241 ≤ x ∧ x ≤ 243) ∨ x = 244) with h | h | h | h | h | h | h | h
    · rw [← fin 128 191 1 (by omega) (by unfold loB; rw [if_neg (by omega), if_neg (by omega)]) (by unfold hiB; rw [if_neg (by omega), if_neg (by omega)]) (by omega) (by omega) (by omega)]
      exact rune_c194 s i hs hi (by rw [hxx]; omega) (by rw [hxx]; omega) w
    · rw [← fin 160 191 2 (by omega) (by rw [h]; rfl) (by rw [h]; rfl) (by omega) (by omega) (by omega)]
      exact rune_c224 s i hs hi (by rw [hxx]; omega) (by rw [hxx]; omega) w
    · rw [← fin 128 191 2 (by omega) (by unfold loB; rw [if_neg (by omega), if_neg (by omega)]) (by unfold hiB; rw [if_neg (by omega), if_neg (by omega)]) (by omega) (by omega) (by omega)]
      exact rune_c225 s i hs hi (by rw [hxx]; omega) (by rw [hxx]; omega) w
    · rw [← fin 128 159 2 (by omega) (by rw [h]; rfl) (by rw [h]; rfl) (by omega) (by omega) (by omega)]
      exact rune_c237 s i hs hi (by rw [hxx]; omega) (by rw [hxx]; omega) w
    · rw [← fin 128 191 2 (by omega) (by unfold loB; rw [if_neg (by omega), if_neg (by omega)]) (by unfold hiB; rw [if_neg (by omega), if_neg (by omega)]) (by omega) (by omega) (by omega)]
      exact rune_c238 s i hs hi (by rw [hxx]; omega) (by rw [hxx]; omega) w
    · rw [← fin 144 191 3 (by omega) (by rw [h]; rfl) (by rw [h]; rfl) (by omega) (by omega) (by omega)]
      exact rune_c240 s i hs hi (by rw [hxx]; omega) (by rw [hxx]; omega) w
    · rw [← fin 128 191 3 (by omega) (by unfold loB; rw [if_neg (by omega), if_neg (by omega)]) (by unfold hiB; rw [if_neg (by omega), if_neg (by omega)]) (by omega) (by omega) (by omega)]
      exact rune_c241 s i hs hi (by rw [hxx]; omega) (by rw [hxx]; omega) w
    · rw [← fin 128 143 3 (by omega) (by rw [h]; rfl) (by rw [h]; rfl) (by omega) (by omega) (by omega)]
      exact rune_c244 s i hs hi (by rw [hxx]; omega) (by rw [hxx]; omega) w
  · have hx := bytesI_out s i (by omega)
    have r : runeL ((bytesI s).drop i) = 0 := by rw [e, hx]; rfl
    rw [r]; exact rune_out s i (by omega) w

theorem conv_holds {w : World} {ad : Option Addr} {n : Nat} {K : List Int} (h : Holds w ad n K) (c : Nat) : (convert 55 9 (.slice ad n c)).run Tryd.prog w = .ok (.string (strI K)) w := by
  rw [run_convert_bytes_string w 55 9 5 _ _ _ Tryd.underlying55 Tryd.underlying5 Tryd.underlying9]
  cases ad with
  | none =>
    have hK : K = [] := by
      cases K with
      | nil => rfl
      | cons x r => obtain ⟨a, ha, _⟩ := h.cells 0 (.int .u8 x) (by simp); simp at ha
    have hn := h.len
    subst hK
    subst hn
    rfl
  | some a =>
    have hn := h.len
    subst hn
    rw [run_bytesToString w a K.length c K]
    · rw [strI_fold]; simp [strI]
    · have := run_firstCells_some (P := Tryd.prog) w 1 K.length a K.length c (K.map (Value.int .u8)) (by simp) (fun j u hj => by
        obtain ⟨a', ha, hc⟩ := h.cells j u hj
        simp at ha; subst ha; exact hc)
      simpa [Builtin.firstCells] using this

theorem bytesI_cut (s : ByteArray) (k n : Nat) : bytesI (s.extract k (k + n)) = ((bytesI s).drop k).take n := by
  have h : s.extract k (k + n) = ⟨((s.data.toList.drop k).take n).toArray⟩ := by
    have := ByteArray.extract_mk s.data.toList k (k + n)
    simpa using this
  rw [h]; unfold bytesI
  simp [List.map_take, List.map_drop]

theorem slice_str (s : ByteArray) (k r : Nat) (h : k + r ≤ s.size) (W : World) : (Instr.slice 9 (.string s) (some (.int .i64 k)) (some (.int .i64 ((k : Int) + (r : Int)))) none).run Tryd.prog W = .ok (.string (s.extract k (k + r))) W := by
  have := run_slice_string (P := Tryd.prog) (w := W) 9 s .i64 .i64 (k : Int) ((k : Int) + (r : Int)) Tryd.underlying9 (by omega) (by omega) (by omega)
  rw [this, show ((k : Int)).toNat = k by omega, show ((k : Int) + (r : Int)).toNat = k + r by omega]
theorem ret_str {a b : ByteArray} (h : a = b) : Ending.returned (.string a) = .returned (.string b) := by rw [h]
theorem clean_any (s : ByteArray) (hs : s.size ≤ 140737488355328) (w : World) :
    Calls Tryd.prog 19 #[.string s] w fun e w' => e = .returned (.string (strI (cleanL (bytesI s)))) ∧ Below w.heap.size w w' := by
  obtain ⟨i0, hi, hz0, hz1, hz2⟩ := info_parts Tryd.info5
  have hl := bytesI_length s
  go_enter Tryd.func19, Tryd.ntmps19
  go_wp2
  go_loopw [3, 4] (fun a b wr => ∃ (k : Nat) (C : List Int), b = .int .i64 k ∧ k ≤ s.size ∧ C ++ cleanL ((bytesI s).drop k) = cleanL (bytesI s) ∧ C.length ≤ k ∧ wr.ownsRow w.heap.size 5 1 a C.length (C.map (Value.int .u8)) ∧ Below w.heap.size w wr) (fun _ b _ => s.size - (intOf b).toNat)
  case atStart => exact ⟨0, [], rfl, by omega, by simp, by simp, World.ownsRow_nil _ _ _ _, Below.refl _ _⟩
  case round =>
    obtain ⟨k, C, rfl, hk, hC, hCk, hown, hb⟩ := hrel
    have hsz := hb.size
    by_cases hlt : k < s.size
    · have R := rune_any s k hs
      have hr1 := rune_le ((bytesI s).drop k)
      rw [List.length_drop, hl] at hr1
      have hst := cleanL_step ((bytesI s).drop k) (by rw [List.length_drop, hl]; omega)
      rw [hst] at hC
      have hcut := bytesI_cut s k (runeL ((bytesI s).drop k))
      obtain ⟨r, hr⟩ : ∃ r, runeL ((bytesI s).drop k) = r := ⟨_, rfl⟩
      rw [hr] at R hr1 hC hcut
      have HC : Hid (C ++ (((bytesI s).drop k).take r ++ cleanL (((bytesI s).drop k).drop (max 1 r))) = cleanL (bytesI s)) := hC
      have HCUT : Hid (bytesI (s.extract k (k + r)) = ((bytesI s).drop k).take r) := hcut
      have hxl : (s.extract k (k + r)).size = r := by rw [← bytesI_length, hcut]; simp [hl]; omega
      have HXL : Hid ((s.extract k (k + r)).size = r) := hxl
      have hsl := fun W => slice_str s k r (by omega) W
      clear hr hst hC hcut hxl
      go_wp2_with (first
        | (go_at_call 49; refine (R _).mono ?_; rintro e w' ⟨rfl, hw⟩; obtain rfl := hw.symm)
        | (at_builtin; refine wpList_app _ rfl (.tmp 13) (.tmp 19) 55 9 rfl w.heap.size 5 i0 (.int .u8 0) 1 Tryd.underlying55 hi hz0 hz1 hz2 rfl _ _ _ rfl hown _ _ (byteCells (s.extract k (k + r))) rfl (Src.ofString _ Tryd.underlying9 (s.extract k (k + r))) ?c3 ?c4 ?c5 ?_))
      case c3 => unfold maxLen; rw [HXL.out]; omega
      case c4 => rw [HXL.out]; omega
      case c5 => omega
      intro v' w2 ho hg hm
      have hb2 : Below w.heap.size w w2 := hb.grown hg (by omega) (fun j hj => (hown.lt j hj).1)
      have hmn : min (k + r) s.size - k = r := by omega
      rw [← bytesI_cells, HCUT.out, hmn, ← List.map_append] at ho
      have HO : Hid (w2.ownsRow w.heap.size 5 1 v' (C.length + r) ((C ++ ((bytesI s).drop k).take r).map (Value.int .u8))) := ho
      clear ho hg hm hown hmn
      have hl2 : (C ++ ((bytesI s).drop k).take r).length = C.length + r := by simp [hl]; omega
      have HL2 : Hid ((C ++ ((bytesI s).drop k).take r).length = C.length + r) := hl2
      clear hl2
      by_cases hr0 : r = 0
      · subst hr0
        go_wp2
        go_roundw
        case rel => exact ⟨k + 1, C, by go_num, by omega, by simpa [List.drop_drop] using HC.out, by omega, by simpa using HO.out, hb2⟩
        case measure => simp [intOf]; omega
      · have hmx : max 1 r = r := by omega
        have hge : (1 : Int) ≤ (r : Int) := by omega
        rw [hmx] at HC
        go_wp2
        go_roundw
        case rel => exact ⟨k + r, C ++ ((bytesI s).drop k).take r, by go_num, by omega, by have := HC.out; rw [List.drop_drop] at this; simpa using this, by rw [HL2.out]; omega, by rw [HL2.out]; exact HO.out, hb2⟩
        case measure => simp [intOf]; omega
    · have hk2 : k = s.size := by omega
      obtain ⟨ao, l, c, rfl⟩ := row_shape hown
      have hH := Holds.ofRow hown
      have hfin : C = cleanL (bytesI s) := by
        rw [List.drop_of_length_le (by rw [hl]; omega), cleanL_nil, List.append_nil] at hC; exact hC
      have HF : Hid (C = cleanL (bytesI s)) := hfin
      have hconv := conv_holds hH c
      clear hC hfin hown hH
      go_wp2
      go_ret
      exact ⟨ret_str (by rw [HF.out]), hb⟩
end Go.Proofs.YtpbpkhbmopjdjaaDoor
