/-
  WireBack: the walk.
-/
import Derived.Test.YtpbpkhbmopjdjaaDoorBk
import Derived.Laws.IdiomStrings
namespace Go.Proofs.YtpbpkhbmopjdjaaDoor
open Go.Shelf Go.RowKit
set_option maxRecDepth 100000

/-- A part, as it lies in memory. -/
structure PV where
  kd : Int
  mr : Int
  u : Nat
  iv : Int
  s : ByteArray
structure PV.Fits (p : PV) : Prop where
  k0 : -9223372036854775808 ≤ p.kd
  k1 : p.kd ≤ 9223372036854775807
  m0 : -9223372036854775808 ≤ p.mr
  m1 : p.mr ≤ 9223372036854775807
  u1 : p.u < 18446744073709551616
  i0 : -9223372036854775808 ≤ p.iv
  i1 : p.iv ≤ 9223372036854775807
  s1 : p.s.size ≤ 140737488355328
structure IsParts (w : World) (b off n : Nat) (p : Nat → PV) : Prop where
  lt : b < w.heap.size
  c0 : ∀ i, i < n → w.cell? ⟨b, off + i * 5, none⟩ = some (.int .i64 (p i).kd)
  c1 : ∀ i, i < n → w.cell? ⟨b, off + i * 5 + 1, none⟩ = some (.int .i64 (p i).mr)
  c2 : ∀ i, i < n → w.cell? ⟨b, off + i * 5 + 2, none⟩ = some (.int .u64 (p i).u)
  c3 : ∀ i, i < n → w.cell? ⟨b, off + i * 5 + 3, none⟩ = some (.int .i64 (p i).iv)
  c4 : ∀ i, i < n → w.cell? ⟨b, off + i * 5 + 4, none⟩ = some (.string (p i).s)
  fits : ∀ i, i < n → (p i).Fits
theorem IsParts.below {w w' : World} {b off n : Nat} {p : Nat → PV} (h : IsParts w b off n p) (hb : Below w.heap.size w w') : IsParts w' b off n p := by
  have e : ∀ o, w'.cell? ⟨b, o, none⟩ = w.cell? ⟨b, o, none⟩ := fun o => hb.cell (p := ⟨b, o, none⟩) h.lt
  exact ⟨Nat.lt_of_lt_of_le h.lt hb.size, fun i hi => (e _).trans (h.c0 i hi), fun i hi => (e _).trans (h.c1 i hi), fun i hi => (e _).trans (h.c2 i hi), fun i hi => (e _).trans (h.c3 i hi), fun i hi => (e _).trans (h.c4 i hi), h.fits⟩

def sumP (p : Nat → PV) : Nat → Nat
  | 0 => 0
  | k + 1 => sumP p k + (10 + (p k).s.size)
def chunkP (p : PV) : List Int := chunk p.kd p.u p.iv p.s
def catP (p : Nat → PV) : Nat → List Int
  | 0 => []
  | k + 1 => catP p k ++ chunkP (p k)
theorem cat_len (p : Nat → PV) (n : Nat) (hf : ∀ i, i < n → (p i).Fits) : ∀ k, k ≤ n → (catP p k).length ≤ sumP p k := by
  intro k
  induction k with
  | zero => intro _; simp [catP]
  | succ k ih =>
    intro hk
    have h1 := ih (by omega)
    have hF := hf k (by omega)
    have h2 := chunk_len (p k).kd (p k).u (p k).iv (p k).s hF.u1 hF.i0 hF.i1 (by have := hF.s1; omega)
    simp only [catP, sumP, List.length_append, chunkP]
    omega
theorem sum_mono (p : Nat → PV) (k : Nat) : ∀ m, k ≤ m → sumP p k ≤ sumP p m := by
  intro m
  induction m with
  | zero => intro h; have : k = 0 := by omega
            subst this; omega
  | succ m ih =>
    intro h
    by_cases e : k = m + 1
    · subst e; omega
    · have := ih (by omega); simp only [sumP]; omega
theorem cat_split (p : Nat → PV) (k : Nat) : ∀ m, k < m → ∃ rest, catP p m = catP p k ++ (chunkP (p k) ++ rest) := by
  intro m
  induction m with
  | zero => intro h; omega
  | succ m ih =>
    intro h
    by_cases e : k = m
    · subst e; exact ⟨[], by simp [catP]⟩
    · obtain ⟨r, hr⟩ := ih (by omega)
      exact ⟨r ++ chunkP (p m), by simp [catP, hr]⟩
theorem cat_byte (p : Nat → PV) : ∀ k, ∀ x ∈ catP p k, 0 ≤ x ∧ x < 256 := by
  intro k
  induction k with
  | zero => intro x hx; simp [catP] at hx
  | succ k ih =>
    intro x hx
    simp only [catP] at hx
    rcases List.mem_append.1 hx with hx | hx
    · exact ih x hx
    · exact chunk_byte _ _ _ _ x hx

theorem str_bytes (s : ByteArray) (w : World) : ∃ (w1 : World) (cap : Nat), (convert 9 55 (.string s)).run Tryd.prog w = .ok (.slice (some ⟨w.heap.size, 0, none⟩) s.size cap) w1 ∧ Holds w1 (some ⟨w.heap.size, 0, none⟩) s.size (bytesI s) ∧ Below w.heap.size w w1 := by
  refine ⟨_, _, run_bytes_of_string (P := Tryd.prog) w 9 55 5 s Tryd.underlying9 Tryd.underlying55 Tryd.underlying5, ⟨bytesI_length s, fun j u hj => ⟨_, rfl, ?_⟩⟩, ((Below.refl _ _).drew).alloc (Nat.le_refl _) _⟩
  have hj' : j < s.data.size := by
    by_cases h : j < s.data.size
    · exact h
    · rw [List.getElem?_eq_none (by rw [List.length_map, bytesI_length]; exact Nat.le_of_not_lt h)] at hj; simp at hj
  have hcell : ∀ (X : Array Value) (fz : Nat × Nat), (w.drew.alloc (.cells X 5 fz)).cell? ⟨w.heap.size, j, none⟩ = X[j]? := by
    intro X fz
    have h1 : (w.drew.alloc (.cells X 5 fz)).heap[w.heap.size]? = some (.cells X 5 fz) := heap_alloc_new w.drew _
    unfold World.cell?; rw [h1]; rfl
  rw [Addr.add_lit, Nat.zero_add, hcell, bytesRow_at s _ j hj', ← hj]
  rw [List.getElem?_map, bytesI, List.getElem?_map, Array.getElem?_toList, Array.getElem?_eq_getElem hj']; rfl

theorem step_below {w wr w' : World} {B : Nat} {v : Value} {L : List Int} (hb : Below w.heap.size w wr) (hW : IsW w.heap.size wr B v L) (hB : w.heap.size ≤ B) (hU : Upd (fun k => k = B ∨ v.ownBlock = some k) wr w') : Below w.heap.size w w' :=
  hb.trans (hU.below hb.size (fun k hk hS => by
    rcases hS with h | h
    · omega
    · have := (hW.own.lt k h).1; omega))
theorem chunk0 (p : PV) (h : pickI p.kd 4 = 0) : chunkP p = encN p.u := by unfold chunkP chunk; rw [if_pos h]
theorem chunk1 (p : PV) (h : pickI p.kd 4 = 1) : chunkP p = encN (zigI p.iv).toNat := by unfold chunkP chunk; rw [if_neg (by omega), if_pos h]
theorem chunk2 (p : PV) (h : pickI p.kd 4 = 2) : chunkP p = encN (cleanL (bytesI p.s)).length ++ cleanL (bytesI p.s) := by unfold chunkP chunk; rw [if_neg (by omega), if_neg (by omega), if_pos h]
theorem chunk3 (p : PV) (h0 : ¬ pickI p.kd 4 = 0) (h1 : ¬ pickI p.kd 4 = 1) (h2 : ¬ pickI p.kd 4 = 2) : chunkP p = bytesI p.s := by unfold chunkP chunk; rw [if_neg h0, if_neg h1, if_neg h2]
theorem bytesI_strI (K : List Int) (hb : ∀ x ∈ K, 0 ≤ x ∧ x < 256) : bytesI (strI K) = K := by
  unfold bytesI strI
  simp only [List.map_map]
  refine (List.map_congr_left (g := id) ?_).trans (List.map_id _)
  intro x hx
  have := hb x hx
  simp
  omega

set_option maxHeartbeats 4000000 in
theorem back_walk (ad : Option Addr) (n cap : Nat) (p : Nat → PV) (w : World) (hn : n * 48 ≤ 140737488355328) (hP : 0 < n → ∃ b off, ad = some ⟨b, off, none⟩ ∧ IsParts w b off n p) (hT : Tabs w) :
    Calls Tryd.prog 4 #[.slice ad n cap] w fun e w' => e = .returned (.bool true) ∧ Below w.heap.size w w' := by
  go_enter Tryd.func4, Tryd.ntmps4
  go_wp2_with (first
    | (go_at_call 6; refine (awake_any _).mono ?_; rintro e w1 ⟨rfl, hb1⟩; have hz1 := hb1.size)
    | (go_at_call 14; refine (newWriter_any w.heap.size _).mono ?_; rintro e w2 ⟨rfl, hW2, hw2⟩; have hb2 : Below w.heap.size w w2 := (by rw [hw2]; exact hb1.alloc hz1 _); have hz2 := hb2.size; clear hw2))
  go_loopw [5, 6] (fun a c wr => wr = w2 ∧ ∃ k : Nat, c = .int .i64 k ∧ a = .int .i64 (sumP p k) ∧ k ≤ n ∧ sumP p k ≤ 281474976710656) (fun _ c _ => n - (intOf c).toNat)
  case atStart => exact ⟨rfl, 0, rfl, rfl, by omega, by simp [sumP]⟩
  case round =>
    obtain ⟨rfl, k, rfl, rfl, hk, hs⟩ := hrel
    by_cases c1 : 2147483647 < sumP p k
    · have d1 : decide ((sumP p k : Int) ≤ 2147483647) = false := by simp; omega
      go_wp2
      all_goals go_ret
      all_goals exact ⟨rfl, hb2⟩
    have d1 : decide ((sumP p k : Int) ≤ 2147483647) = true := by simp; omega
    by_cases c2 : k < n
    · obtain ⟨b, off, rfl, hPP⟩ := hP (by omega)
      have hPr := hPP.below hb2
      have hc4 := hPr.c4 k c2
      have hF := (hPP.fits k c2).s1
      have HS : Hid (sumP p (k + 1) = sumP p k + (10 + (p k).s.size)) := rfl
      go_wp2
      go_roundw
      case rel => exact ⟨by first | trivial | rfl, k + 1, by go_num, by rw [HS.out]; go_num, by omega, by rw [HS.out]; omega⟩
      case measure => simp [intOf]; omega
    · have hkn : k = n := by omega
      subst hkn
      have hfits : ∀ i, i < k → (p i).Fits := fun i hi => by
        obtain ⟨b, off, _, hPP⟩ := hP (by omega)
        exact hPP.fits i hi
      have hcl := cat_len p k hfits
      have hsm := sum_mono p
      have hcb := cat_byte p k
      have hcs := cat_split p
      have HCL : Hid (∀ j, j ≤ k → (catP p j).length ≤ sumP p j) := hcl
      have HSM : Hid (∀ k m, k ≤ m → sumP p k ≤ sumP p m) := hsm
      have HCB : Hid (∀ x ∈ catP p k, 0 ≤ x ∧ x < 256) := hcb
      have HCS : Hid (∀ k m, k < m → ∃ rest, catP p m = catP p k ++ (chunkP (p k) ++ rest)) := hcs
      have hW0 : ∃ v, IsW w.heap.size wr w1.heap.size v (catP p 0) := ⟨_, hW2⟩
      clear hcl hsm hcb hcs hW2
      go_wp2
      go_loopw [7] (fun c wr => ∃ (j : Nat) (v : Value), c = .int .i64 j ∧ j ≤ k ∧ IsW w.heap.size wr w1.heap.size v (catP p j) ∧ Below w.heap.size w wr) (fun c _ => k - (intOf c).toNat)
      case atStart =>
        obtain ⟨v, hv⟩ := hW0
        exact ⟨0, v, rfl, by omega, hv, hb2⟩
      case round =>
        obtain ⟨j, v, rfl, hj, hWj, hbj⟩ := hrel
        have hszj := hbj.size
        by_cases c3 : j < k
        · obtain ⟨b, off, rfl, hPP⟩ := hP (by omega)
          have hPr := hPP.below hbj
          have hF := hPP.fits j c3
          have h0 := hPr.c0 j c3
          have hlj : (catP p j).length + (10 + (p j).s.size) ≤ 2147483647 := by
            have e1 := HCL.out j (by omega)
            have e2 := HSM.out (j + 1) k (by omega)
            simp only [sumP] at e2
            omega
          have PK := pick_any (p j).kd 4 hF.k0 hF.k1 (by omega) (by omega)
          have fin : ∀ w' v', IsW w.heap.size w' w1.heap.size v' (catP p j ++ chunkP (p j)) → Upd (fun k => k = w1.heap.size ∨ v.ownBlock = some k) wr w' → ∃ v', IsW w.heap.size w' w1.heap.size v' (catP p (j + 1)) ∧ Below w.heap.size w w' :=
            fun w' v' h1 h2 => ⟨v', h1, step_below hbj hWj hz1 h2⟩
          by_cases q0 : pickI (p j).kd 4 = 0
          · have hch := chunk0 (p j) q0
            rw [q0] at PK
            rw [hch] at fin
            have h2 := hPr.c2 j c3
            have hel := encN_len10 (p j).u hF.u1
            have U := uint_any w.heap.size w1.heap.size v (catP p j) (p j).u hF.u1 _ hWj hszj (by omega)
            clear hch q0 hel
            go_wp2_with (first
              | (go_at_call 15; refine (PK _).mono ?_; rintro e w' ⟨rfl, hw⟩; obtain rfl := hw.symm)
              | (go_at_call 16; refine U.mono ?_; rintro e w' ⟨rfl, v', hW', hU', hM'⟩; obtain ⟨v3, hW3, hb3⟩ := fin w' v' hW' hU'))
            go_roundw
            case rel => exact ⟨j + 1, v3, by go_num, by omega, hW3, hb3⟩
            case measure => simp [intOf]; omega
          by_cases q1 : pickI (p j).kd 4 = 1
          · have hch := chunk1 (p j) q1
            rw [q1] at PK
            rw [hch] at fin
            have h3 := hPr.c3 j c3
            have hel := encN_len10 (zigI (p j).iv).toNat (by have := zig_hi _ hF.i0 hF.i1; have := zig_lo (p j).iv; omega)
            have U := int_any w.heap.size w1.heap.size v (catP p j) (p j).iv hF.i0 hF.i1 _ hWj hszj (by omega)
            clear hch q0 q1 hel
            go_wp2_with (first
              | (go_at_call 15; refine (PK _).mono ?_; rintro e w' ⟨rfl, hw⟩; obtain rfl := hw.symm)
              | (go_at_call 17; refine U.mono ?_; rintro e w' ⟨rfl, v', hW', hU', hM'⟩; obtain ⟨v3, hW3, hb3⟩ := fin w' v' hW' hU'))
            go_roundw
            case rel => exact ⟨j + 1, v3, by go_num, by omega, hW3, hb3⟩
            case measure => simp [intOf]; omega
          by_cases q2 : pickI (p j).kd 4 = 2
          · have hch := chunk2 (p j) q2
            rw [q2] at PK
            rw [hch] at fin
            have h4 := hPr.c4 j c3
            have hcl := clean_le (p j).s
            have hcb := clean_byte (p j).s
            have CL := clean_any (p j).s hF.s1 wr
            obtain ⟨C, hC⟩ : ∃ C, cleanL (bytesI (p j).s) = C := ⟨_, rfl⟩
            rw [hC] at fin hcl hcb CL
            have hel := encN_len10 C.length (by omega)
            have hsz := strI_size C
            have hbI := bytesI_strI C hcb
            have TX : ∀ w', Below wr.heap.size wr w' → Calls Tryd.prog 18 #[.pointer (some ⟨w1.heap.size, 0, none⟩), .string (strI C)] w' fun e w'' => e = .returned (.tuple #[]) ∧ ∃ v3, IsW w.heap.size w'' w1.heap.size v3 (catP p (j + 1)) ∧ Below w.heap.size w w'' := by
              intro w' hbw
              refine (text_any w.heap.size w1.heap.size v (catP p j) (strI C) (by unfold maxLen; omega) w' (hWj.below hbw) (by have := hbw.size; omega) (by rw [hsz]; omega)).mono ?_
              rintro e w'' ⟨he, v3, hW3, hU3, _⟩
              rw [hsz, hbI, List.append_assoc] at hW3
              exact ⟨he, fin w'' v3 hW3 ((Upd.ofBelow hbw (fun k hk hk' => by omega)).trans hU3 (fun k _ hk => hk))⟩
            obtain ⟨sC, hsC⟩ : ∃ sC, strI C = sC := ⟨_, rfl⟩
            rw [hsC] at CL TX
            clear hch q0 q1 q2 hel hC hcb hbI hsz hsC hcl
            go_wp2_with (first
              | (go_at_call 15; refine (PK _).mono ?_; rintro e w' ⟨rfl, hw⟩; obtain rfl := hw.symm)
              | (go_at_call 19; refine CL.mono ?_; rintro e w' ⟨rfl, hbc⟩; have TX2 := TX w' hbc)
              | (go_at_call 18; refine TX2.mono ?_; rintro e w'' ⟨rfl, v3, hW3, hb3⟩))
            go_roundw
            case rel => exact ⟨j + 1, v3, by go_num, by omega, hW3, hb3⟩
            case measure => simp [intOf]; omega
          · have hch := chunk3 (p j) q0 q1 q2
            rw [hch] at fin
            have h4 := hPr.c4 j c3
            have g0 : ((pickI (p j).kd 4) == 0) = false := by simpa using q0
            have g1 : ((pickI (p j).kd 4) == 1) = false := by simpa using q1
            have g2 : ((pickI (p j).kd 4) == 2) = false := by simpa using q2
            obtain ⟨PKV, hPKV⟩ : ∃ PKV, pickI (p j).kd 4 = PKV := ⟨_, rfl⟩
            rw [hPKV] at PK g0 g1 g2
            obtain ⟨w3, cp, hcv, hH, hbc⟩ := str_bytes (p j).s wr
            have RX : Calls Tryd.prog 20 #[.pointer (some ⟨w1.heap.size, 0, none⟩), .slice (some ⟨wr.heap.size, 0, none⟩) (p j).s.size cp] w3 fun e w'' => e = .returned (.tuple #[]) ∧ ∃ v3, IsW w.heap.size w'' w1.heap.size v3 (catP p (j + 1)) ∧ Below w.heap.size w w'' := by
              refine (wraw_any w.heap.size w1.heap.size v (catP p j) _ _ cp (bytesI (p j).s) w3 (hWj.below hbc) (by have := hbc.size; omega) hH (by omega)).mono ?_
              rintro e w'' ⟨he, v3, hW3, hU3, _⟩
              exact ⟨he, fin w'' v3 hW3 ((Upd.ofBelow hbc (fun k hk hk' => by omega)).trans hU3 (fun k _ hk => hk))⟩
            clear hch q0 q1 q2 hPKV hH hbc
            go_wp2_with (first
              | (go_at_call 15; refine (PK _).mono ?_; rintro e w' ⟨rfl, hw⟩; obtain rfl := hw.symm)
              | (go_at_call 20; refine RX.mono ?_; rintro e w'' ⟨rfl, v3, hW3, hb3⟩))
            go_roundw
            case rel => exact ⟨j + 1, v3, by go_num, by omega, hW3, hb3⟩
            case measure => simp [intOf]; omega
        · have hjk : j = k := by omega
          subst hjk
          have hKl : (catP p j).length ≤ 140737488355328 := by have := HCL.out j (by omega); omega
          have BY := bytes_any w.heap.size w1.heap.size v (catP p j) wr hWj hKl
          go_wp2_with (first
            | (go_at_call 22; refine BY.mono ?_; rintro e w3 ⟨rfl, hr3, hb3⟩; have hz3 := hb3.size; have hb3' := hbj.trans (hb3.mono hszj); have hW3 := hWj.below hb3)
            | (go_at_call 21; refine (newReader_any _ _ _ _ _ hr3.holds hKl HCB.out).mono ?_; rintro e w4 ⟨R, rfl, hRl, hR4, hb4⟩; have hb4' := hb3'.trans (hb4.mono (by omega)); have hW4 := hW3.below hb4))
          clear BY hr3 hb3 hW3 hWj hb4 hb3' hW0 hbj
          go_loopw [9] (fun c wr => ∃ i : Nat, c = .int .i64 i ∧ i ≤ j ∧ IsR wr R w3.heap.size (catP p j) (catP p i).length ∧ IsW w.heap.size wr w1.heap.size v (catP p j) ∧ Below w.heap.size w wr) (fun c _ => j - (intOf c).toNat)
          case atStart => exact ⟨0, rfl, by omega, hR4, hW4, hb4'⟩
          case round =>
            obtain ⟨i, rfl, hi, hRi, hWi, hbi⟩ := hrel
            by_cases c4 : i < j
            · obtain ⟨b, off, rfl, hPP⟩ := hP (by omega)
              have hPr := hPP.below hbi
              have hF := hPP.fits i c4
              have h0 := hPr.c0 i c4
              have h1 := hPr.c1 i c4
              have h2 := hPr.c2 i c4
              have h3 := hPr.c3 i c4
              have h4 := hPr.c4 i c4
              obtain ⟨rest, hrest⟩ := HCS.out i j c4
              have hss : (p i).s.size ≤ 2147483647 := by
                have e2 := HSM.out (i + 1) j (by omega)
                simp only [sumP] at e2
                omega
              have hdrop : (catP p j).drop (catP p i).length = chunk (p i).kd (p i).u (p i).iv (p i).s ++ rest := by
                rw [hrest, List.drop_left]; rfl
              have hRlt : w.heap.size ≤ R := by omega
              have BK : Calls Tryd.prog 23 #[.agg #[.int .i64 (p i).kd, .int .i64 (p i).mr, .int .u64 (p i).u, .int .i64 (p i).iv, .string (p i).s], .pointer (some ⟨R, 0, none⟩)] wr fun e w' => e = .returned (.bool true) ∧ IsR w' R w3.heap.size (catP p j) (catP p (i + 1)).length ∧ IsW w.heap.size w' w1.heap.size v (catP p j) ∧ Below w.heap.size w w' := by
                refine (back_any _ _ _ _ _ hF.k0 hF.k1 hF.m0 hF.m1 hF.i0 hF.i1 hF.u1 hss R _ _ _ rest wr hRi (hT.below hbi) hdrop).mono ?_
                rintro e w' ⟨he, hR', hU'⟩
                refine ⟨he, ?_, hWi.upd hU' (hWi.ne_R hRi).1 (hWi.ne_R hRi).2, hbi.trans (hU'.below hbi.size (fun k hk hS => by omega))⟩
                have e1 : (catP p (i + 1)).length = (catP p i).length + (chunk (p i).kd (p i).u (p i).iv (p i).s).length := by simp only [catP, List.length_append]; rfl
                rw [e1]; exact hR'
              clear hrest hdrop hss hRi hWi hbi hPr hPP
              go_wp2_with (go_at_call 23; refine BK.mono ?_; rintro e w' ⟨rfl, hR', hW', hb'⟩)
              go_roundw
              case rel => exact ⟨i + 1, by go_num, by omega, hR', hW', hb'⟩
              case measure => simp [intOf]; omega
            · have hij : i = j := by omega
              subst hij
              have LF := left_any R w3.heap.size (catP p i) _ wr hRi
              rw [Nat.sub_self] at LF
              have hdn : ∀ m, Below wr.heap.size wr (wr.drewN m) := fun m => below_drewN (Below.refl _ _) m
              have AT := fun m => at_any R w3.heap.size (catP p i) _ _ (hRi.below (hdn m))
              have LN := fun m => len_any w.heap.size w1.heap.size v (catP p i) _ (hWi.below (hdn m))
              have EN := fun m => end_any R w3.heap.size (catP p i) _ (hRi.below (hdn m))
              have hbd : ∀ m w', Below (wr.drewN m).heap.size (wr.drewN m) w' → Below w.heap.size w w' := fun m w' h => (below_drewN hbi m).trans (h.mono hbi.size)
              clear hRi hWi hdn
              go_wp2_with (first
                | (go_at_call 24; refine LF.mono ?_; rintro e w' ⟨rfl, nn, rfl⟩)
                | (go_at_call 25; refine (AT _).mono ?_; rintro e w' ⟨rfl, hw⟩; obtain rfl := hw.symm)
                | (go_at_call 26; refine (LN _).mono ?_; rintro e w' ⟨rfl, hw⟩; obtain rfl := hw.symm)
                | (go_at_call 27; refine (EN _).mono ?_; rintro e w' ⟨rfl, hb5⟩; have hb6 := hbd _ _ hb5))
              go_ret
              exact ⟨rfl, hb6⟩
end Go.Proofs.YtpbpkhbmopjdjaaDoor
