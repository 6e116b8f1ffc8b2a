/-
  WireOne: the walk.
-/
import Derived.Test.YtpbpkhbmopjdjaaDoorAk
namespace Go.Proofs.YtpbpkhbmopjdjaaDoor
open Go.Shelf Go.RowKit
set_option maxRecDepth 100000

structure IsAsks (w : World) (b off n : Nat) (kd nn : Nat → Int) : Prop where
  lt : b < w.heap.size
  c0 : ∀ i, i < n → w.cell? ⟨b, off + i * 2, none⟩ = some (.int .i64 (kd i))
  c1 : ∀ i, i < n → w.cell? ⟨b, off + i * 2 + 1, none⟩ = some (.int .i64 (nn i))
  k0 : ∀ i, i < n → -9223372036854775808 ≤ kd i ∧ kd i ≤ 9223372036854775807
  n0 : ∀ i, i < n → nn i ≤ 9223372036854775807
theorem IsAsks.below {w w' : World} {b off n : Nat} {kd nn : Nat → Int} (h : IsAsks w b off n kd nn) (hb : Below w.heap.size w w') : IsAsks w' b off n kd nn := by
  have e : ∀ o, w'.cell? ⟨b, o, none⟩ = w.cell? ⟨b, o, none⟩ := fun o => hb.cell (p := ⟨b, o, none⟩) h.lt
  exact ⟨Nat.lt_of_lt_of_le h.lt hb.size, fun i hi => (e _).trans (h.c0 i hi), fun i hi => (e _).trans (h.c1 i hi), h.k0, h.n0⟩

theorem leftI (R g : Nat) (K : List Int) (t m : Nat) (w : World) (h : IsR w R g K t) (hm : K.length = m) :
    Calls Tryd.prog 24 #[.pointer (some ⟨R, 0, none⟩)] w fun e w' => e = .returned (.int .i64 ((m : Int) - (t : Int))) ∧ IsR w' R g K t ∧ Below w.heap.size w w' := by
  refine (left_any R g K t w h).mono ?_
  rintro e w' ⟨he, n, rfl⟩
  have hb := below_drewN (Below.refl w.heap.size w) n
  refine ⟨?_, h.below hb, hb⟩
  rw [he, ← hm]
  have := h.le
  exact ret_int (by omega)
theorem extract_strI (s : ByteArray) (a b : Nat) (h : a ≤ b) : s.extract a b = strI (((bytesI s).drop a).take (b - a)) := by
  rw [← bytesI_cut, strI_bytesI, show a + (b - a) = b by omega]

set_option maxHeartbeats 4000000 in
theorem one_walk (s : ByteArray) (ad : Option Addr) (n cap : Nat) (kd nn : Nat → Int) (w : World) (hs : s.size ≤ 140737488351232) (hn : n * 16 ≤ 140737488355328) (hA : 0 < n → ∃ b off, ad = some ⟨b, off, none⟩ ∧ IsAsks w b off n kd nn) (hT : Tabs w) (hE : ErrT w) :
    Calls Tryd.prog 5 #[.string s, .slice ad n cap] w fun e w' => e = .returned (.bool true) ∧ Below w.heap.size w w' := by
  have hl := bytesI_length s
  have hby := bytesI_byte s
  have SB := str_bytes s
  have hex := extract_strI s
  obtain ⟨K, hK⟩ : ∃ K, bytesI s = K := ⟨_, rfl⟩
  rw [hK] at hl hby hex
  have SB2 : ∀ w, ∃ (w1 : World) (cap : Nat), (convert 9 55 (.string s)).run Tryd.prog w = .ok (.slice (some ⟨w.heap.size, 0, none⟩) s.size cap) w1 ∧ Holds w1 (some ⟨w.heap.size, 0, none⟩) s.size K ∧ Below w.heap.size w w1 := by
    intro w; rw [← hK]; exact SB w
  have HEX : Hid (∀ a b : Nat, a ≤ b → s.extract a b = strI ((K.drop a).take (b - a))) := hex
  have HL : Hid (K.length = s.size) := hl
  clear hK SB hex hl
  go_enter Tryd.func5, Tryd.ntmps5
  go_wp2_with (first
    | (go_at_call 6; refine (awake_any _).mono ?_; rintro e w1 ⟨rfl, hb1⟩; have hz1 := hb1.size; obtain ⟨w2, cp, hcv, hH, hb2⟩ := SB2 w1; have hz2 := hb2.size; have hb2' := hb1.trans (hb2.mono hz1))
    | (go_at_call 21; refine (newReader_any _ _ cp K _ hH (by omega) hby).mono ?_; rintro e w3 ⟨R, rfl, hRl, hR3, hb3⟩; have hb3' := hb2'.trans (hb3.mono (by omega))))
  clear hcv hH hb3 hb2 SB2
  go_loopw [7] (fun c wr => ∃ i T : Nat, c = .int .i64 i ∧ i ≤ n ∧ IsR wr R w2.heap.size K T ∧ Below w.heap.size w wr) (fun c _ => n - (intOf c).toNat)
  case atStart => exact ⟨0, 0, rfl, by omega, hR3, hb3'⟩
  case round =>
    obtain ⟨i, T, rfl, hi, hRi, hbi⟩ := hrel
    by_cases c1 : i < n
    · obtain ⟨b, off, rfl, hAA⟩ := hA (by omega)
      have hAr := hAA.below hbi
      have h0 := hAr.c0 i c1
      have h1 := hAr.c1 i c1
      have hk := hAA.k0 i c1
      have hnn := hAA.n0 i c1
      have hTi := hT.below hbi
      have hEi := hE.below hbi
      have hRlt : w.heap.size ≤ R := by omega
      have AT1 := at_any R w2.heap.size K T wr hRi
      have PK := pick_any (kd i) 3 hk.1 hk.2 (by omega) (by omega)
      have pk0 := pick_lo (kd i) 3 (by omega)
      have pk1 := pick_hi (kd i) 3 (by omega)
      have RD := read_any (kd i) (nn i) hk.1 hk.2 hnn R w2.heap.size K T wr hRi hTi
      have hTl := hRi.le
      rw [HL.out] at hTl
      obtain ⟨pk, hpk⟩ : ∃ pk, pickI (kd i) 3 = pk := ⟨_, rfl⟩
      rw [hpk] at PK pk0 pk1 RD
      have AB := ask_bad K T pk (nn i)
      have AO := ask_ok K T pk (nn i)
      generalize hr : askR K T pk (nn i) = r at RD AB AO
      cases r using AskRes.each with
      | ok u v S f =>
        obtain ⟨g1, g2, g3, g4, g5, g6, g7, g8⟩ := AO u v S f (by rw [HL.out]; exact hTl) hby rfl
        rw [HL.out] at g2 g8
        have BO := bytesOf_any pk u v S (by omega) g4 g5 g6 g7 (by omega)
        rw [← g3, ← HEX.out T f g1] at BO
        have BO2 : ∀ W, Calls Tryd.prog 30 #[.int .i64 pk, .int .u64 u, .int .i64 v, .string (strI S)] W fun e w' => e = .returned (.tuple #[.string (s.extract T f), .bool true]) ∧ Below W.heap.size W w' := BO
        have hsl : ∀ W, (Instr.slice 9 (.string s) (some (.int .i64 T)) (some (.int .i64 f)) none).run Tryd.prog W = .ok (.string (s.extract T f)) W := by
          intro W
          have := slice_str s T (f - T) (by omega) W
          rw [show (T : Int) + ((f - T : Nat) : Int) = (f : Int) by omega, show T + (f - T) = f by omega] at this
          exact this
        have FL : ∀ w', IsR w' R w2.heap.size K f → True := fun _ _ => trivial
        obtain ⟨sS, hsS⟩ : ∃ sS, strI S = sS := ⟨_, rfl⟩
        have RD2 : Calls Tryd.prog 28 #[.agg #[.int .i64 (kd i), .int .i64 (nn i)], .pointer (some ⟨R, 0, none⟩)] wr fun e w' => e = .returned (.tuple #[.int .u64 u, .int .i64 v, .string sS, .nilIface]) ∧ IsR w' R w2.heap.size K f ∧ Below w.heap.size w w' := by
          refine RD.mono ?_
          rintro e w' ⟨e1, e2, e3⟩
          rw [hsS] at e1
          exact ⟨e1, e2, hbi.trans (e3.below hbi.size (fun k hk e => by omega))⟩
        rw [hsS] at BO2
        have AT2 := fun (w' : World) (hw : IsR w' R w2.heap.size K f) => at_any R w2.heap.size K f w' hw
        have LF2 := fun (w' : World) (hw : IsR w' R w2.heap.size K f) => leftI R w2.heap.size K f s.size w' hw HL.out
        have hbb : ∀ w' w'', Below w.heap.size w w' → Below w'.heap.size w' w'' → Below w.heap.size w w'' := fun w' w'' a b => a.trans (b.mono a.size)
        clear AB AO RD BO hr g3 g4 g5 g6 g7 g8 FL hAr hTi hEi hRi hpk hsS
        go_wp2_with (first
          | (go_at_call 28; refine RD2.mono ?_; rintro e w4 ⟨rfl, hR4, hb4⟩; have AT3 := AT2 w4 hR4; have LF3 := LF2 w4 hR4)
          | (go_at_call 25; refine AT3.mono ?_; rintro e w' ⟨rfl, hw⟩; obtain rfl := hw.symm)
          | (go_at_call 25; refine AT1.mono ?_; rintro e w' ⟨rfl, hw⟩; obtain rfl := hw.symm)
          | (go_at_call 15; refine (PK _).mono ?_; rintro e w' ⟨rfl, hw⟩; obtain rfl := hw.symm)
          | (go_at_call 29; refine (flt_nil _).mono ?_; rintro e w' ⟨rfl, hw⟩; obtain rfl := hw.symm)
          | (go_at_call 24; refine LF3.mono ?_; rintro e w5 ⟨rfl, hR5, hb5⟩; have hb5' := hbb _ _ hb4 hb5)
          | (go_at_call 30; refine (BO2 _).mono ?_; rintro e w6 ⟨rfl, hb6⟩; have hb6' := hbb _ _ hb5' hb6; have hR6 := hR5.below hb6))
        go_roundw
        case rel => exact ⟨i + 1, f, by go_num, by omega, hR6, hb6'⟩
        case measure => simp [intOf]; omega
      | bad a m =>
        obtain ⟨g1, g2, g3⟩ := AB a m (by rw [HL.out]; exact hTl) rfl
        rw [HL.out] at g3
        obtain ⟨X, hX⟩ : ∃ X : World → Prop, X = fun W => IsR W R w2.heap.size K T ∧ Tabs W ∧ ErrT W ∧ Below w.heap.size w W := ⟨_, rfl⟩
        have hXw : X wr := by rw [hX]; exact ⟨hRi, hTi, hEi, hbi⟩
        have ATX : ∀ W, X W → Calls Tryd.prog 25 #[.pointer (some ⟨R, 0, none⟩)] W fun e w' => e = .returned (.int .i64 T) ∧ w' = W := fun W hW => by
          rw [hX] at hW; exact at_any R w2.heap.size K T W hW.1
        have LFX : ∀ W, X W → Calls Tryd.prog 24 #[.pointer (some ⟨R, 0, none⟩)] W fun e w' => e = .returned (.int .i64 ((s.size : Int) - (T : Int))) ∧ X w' := fun W hW => by
          rw [hX] at hW ⊢
          refine (leftI R w2.heap.size K T s.size W hW.1 HL.out).mono ?_
          rintro e w' ⟨e1, e2, e3⟩
          exact ⟨e1, e2, hW.2.1.below e3, hW.2.2.1.below e3, hW.2.2.2.trans (e3.mono hW.2.2.2.size)⟩
        have RDX : ∀ W, X W → Calls Tryd.prog 28 #[.agg #[.int .i64 (kd i), .int .i64 (nn i)], .pointer (some ⟨R, 0, none⟩)] W fun e w' => ∃ p, e = .returned (.tuple #[.int .u64 0, .int .i64 0, .string ⟨#[]⟩, .iface 103 (.pointer (some ⟨p, 0, none⟩))]) ∧ IsF w' p a m ∧ X w' := fun W hW => by
          rw [hX] at hW ⊢
          have hr2 := hr
          rw [← hpk] at hr2
          refine (read_any (kd i) (nn i) hk.1 hk.2 hnn R w2.heap.size K T W hW.1 hW.2.1).mono ?_
          rintro e w' hP
          rw [hr2] at hP
          obtain ⟨p, e1, e2, _, e3⟩ := hP
          exact ⟨p, e1, e2, hW.1.below e3, hW.2.1.below e3, hW.2.2.1.below e3, hW.2.2.2.trans (e3.mono hW.2.2.2.size)⟩
        have FLX : ∀ (W : World) (p : Nat), X W → IsF W p a m → Calls Tryd.prog 29 #[.iface 103 (.pointer (some ⟨p, 0, none⟩))] W fun e w' => e = .returned (.tuple #[.int .i64 a, .int .i64 m, .bool true]) ∧ X w' := fun W p hW hF => by
          rw [hX] at hW ⊢
          refine (flt_some p a m W hF hW.2.2.1 g1).mono ?_
          rintro e w' ⟨e1, e3⟩
          exact ⟨e1, hW.1.below e3, hW.2.1.below e3, hW.2.2.1.below e3, hW.2.2.2.trans (e3.mono hW.2.2.2.size)⟩
        have RWX : ∀ (W : World) (n1 : Nat), X W → T + n1 ≤ s.size → Calls Tryd.prog 31 #[.pointer (some ⟨R, 0, none⟩), .int .i64 n1] W fun e w' => ∃ q, e = .returned (.tuple #[.slice (some ⟨q, 0, none⟩) n1 n1, .nilIface]) ∧ IsR w' R w2.heap.size K (T + n1) ∧ Below w.heap.size w w' := fun W n1 hW hn1 => by
          rw [hX] at hW
          refine (raw_any R w2.heap.size K T n1 W hW.1 (by rw [HL.out]; exact hn1)).mono ?_
          rintro e w' ⟨q, e1, _, _, e4, e5⟩
          exact ⟨q, e1, e4, hW.2.2.2.trans (e5.below hW.2.2.2.size (fun k hk e => by omega))⟩
        have AAX : ∀ W, X W → W.cell? ⟨b, off + i * 2, none⟩ = some (.int .i64 (kd i)) ∧ W.cell? ⟨b, off + i * 2 + 1, none⟩ = some (.int .i64 (nn i)) := fun W hW => by
          rw [hX] at hW
          have := hAA.below hW.2.2.2
          exact ⟨this.c0 i c1, this.c1 i c1⟩
        have gm : ((m : Int) == 0) = false := by simpa using g1
        clear AB AO RD hr hAr hTi hEi hRi hpk hX hbi AT1 g1 hk hnn hAA
        obtain ⟨n1, hn1, hn2⟩ : ∃ n1 : Nat, (n1 : Int) = min 1 ((s.size : Int) - (T : Int)) ∧ T + n1 ≤ s.size := ⟨min 1 (s.size - T), by omega, by omega⟩
        have RW1 := fun W hW => RWX W n1 hW hn2
        rw [hn1] at RW1
        have RW2 : ∀ W, X W → Calls Tryd.prog 31 #[.pointer (some ⟨R, 0, none⟩), .int .i64 (min 1 ((s.size : Int) - (T : Int)))] W fun e w' => ∃ q, e = .returned (.tuple #[.slice (some ⟨q, 0, none⟩) n1 n1, .nilIface]) ∧ IsR w' R w2.heap.size K (T + n1) ∧ Below w.heap.size w w' := RW1
        have d1 : decide (a < T) = false := by simp; omega
        have d2 : decide (s.size < a) = false := by simp; omega
        clear RWX RW1 hn1 hn2
        go_wp2_with (first
          | (go_at_call 28; refine (RDX _ (by assumption)).mono ?_; rintro e w4 ⟨p, rfl, hF4, hX4⟩)
          | (go_at_call 25; refine (ATX _ (by assumption)).mono ?_; rintro e w' ⟨rfl, hw⟩; obtain rfl := hw.symm)
          | (go_at_call 15; refine (PK _).mono ?_; rintro e w' ⟨rfl, hw⟩; obtain rfl := hw.symm)
          | (go_at_call 29; refine (FLX _ _ (by assumption) (by assumption)).mono ?_; rintro e w5 ⟨rfl, hX5⟩)
          | (go_at_call 24; refine (LFX _ (by assumption)).mono ?_; rintro e w6 ⟨rfl, hX6⟩; obtain ⟨hq0, hq1⟩ := AAX _ hX6)
          | (go_at_call 31; refine (RW2 _ (by assumption)).mono ?_; rintro e w7 ⟨q, rfl, hR7, hb7⟩))
        go_roundw
        case rel => exact ⟨i + 1, T + n1, by go_num, by omega, hR7, hb7⟩
        case measure => simp [intOf]; omega
    · go_wp2
      go_ret
      exact ⟨rfl, hbi⟩
end Go.Proofs.YtpbpkhbmopjdjaaDoor
