/-
  A part's bytes; what is written is read: Part.back.
-/
import Derived.Test.YtpbpkhbmopjdjaaDoorTx
import Derived.Test.YtpbpkhbmopjdjaaDoorRw
import Derived.Test.YtpbpkhbmopjdjaaDoorRz
namespace Go.Proofs.YtpbpkhbmopjdjaaDoor
open Go.Shelf Go.RowKit
set_option maxRecDepth 100000

theorem scan_enc_gen : ∀ (u s v : Nat) (rest : List Int), s ≤ 9 → (s = 0 ∨ 0 < u) → u * 128 ^ s < 18446744073709551616 →
    scanN (encN u ++ rest) s v = .ok (v + u * 128 ^ s) (s + (encN u).length) := by
  intro u
  induction u using Nat.strongRecOn with
  | _ u ih =>
    intro s v rest hs h0 hb
    by_cases hu : u < 128
    · rw [encN_lt hu]
      show scanN ((u : Int) :: rest) s v = _
      rw [scanN_last _ _ _ _ (by omega) (by omega), if_neg]
      · simp
      · simp [badLast]
        refine ⟨fun h => by omega, fun h9 => ?_⟩
        subst h9
        have : (128 : Nat) ^ 9 = 9223372036854775808 := by decide
        rw [this] at hb
        omega
    · rw [encN_ge (by omega)]
      show scanN (((u % 128 + 128 : Nat) : Int) :: (encN (u / 128) ++ rest)) s v = _
      rw [scanN_more _ _ _ _ (by omega) (by omega)]
      have hp : 128 ^ (s + 1) = 128 * 128 ^ s := by rw [Nat.pow_succ]; omega
      have h1 : 128 * 128 ^ s ≤ u * 128 ^ s := Nat.mul_le_mul_right _ (by omega)
      have hs9 : s + 1 ≤ 9 := by
        by_cases h9 : s = 9
        · subst h9
          have : (128 : Nat) ^ 9 = 9223372036854775808 := by decide
          rw [this] at h1 hb; omega
        · omega
      have hsplit : (u % 128) * 128 ^ s + (u / 128) * 128 ^ (s + 1) = u * 128 ^ s := by
        rw [hp, ← Nat.mul_assoc, ← Nat.add_mul]
        congr 1
        omega
      rw [ih (u / 128) (by omega) (s + 1) _ rest hs9 (Or.inr (by omega)) (by omega)]
      have e1 : (((u % 128 + 128 : Nat) : Int)).toNat - 128 = u % 128 := by omega
      rw [e1]
      congr 1
      · omega
      · simp; omega
theorem scan_enc (u : Nat) (rest : List Int) (hu : u < 18446744073709551616) : scanN (encN u ++ rest) 0 0 = .ok u (encN u).length := by
  have := scan_enc_gen u 0 0 rest (by omega) (Or.inl rfl) (by simpa using hu)
  simpa using this

/-- The bytes that a part lays down. -/
def chunk (kind : Int) (u : Nat) (i : Int) (s : ByteArray) : List Int :=
  if pickI kind 4 = 0 then encN u else if pickI kind 4 = 1 then encN (zigI i).toNat
  else if pickI kind 4 = 2 then encN (cleanL (bytesI s)).length ++ cleanL (bytesI s) else bytesI s
theorem bytesI_byte (s : ByteArray) : ∀ x ∈ bytesI s, 0 ≤ x ∧ x < 256 := by
  intro x hx
  unfold bytesI at hx
  obtain ⟨b, _, rfl⟩ := List.mem_map.1 hx
  have := b.toNat_lt
  omega
theorem clean_byte (s : ByteArray) : ∀ x ∈ cleanL (bytesI s), 0 ≤ x ∧ x < 256 := fun x hx => bytesI_byte s x (cleanL_mem _ _ (Nat.le_refl _) x hx)
theorem clean_le (s : ByteArray) : (cleanL (bytesI s)).length ≤ s.size := by
  have := cleanL_len _ (bytesI s) (Nat.le_refl _); rw [bytesI_length] at this; exact this
theorem chunk_byte (kind : Int) (u : Nat) (i : Int) (s : ByteArray) : ∀ x ∈ chunk kind u i s, 0 ≤ x ∧ x < 256 := by
  intro x hx
  unfold chunk at hx
  split at hx
  · exact encN_byte _ x hx
  split at hx
  · exact encN_byte _ x hx
  split at hx
  · rcases List.mem_append.1 hx with hx | hx
    · exact encN_byte _ x hx
    · exact clean_byte s x hx
  · exact bytesI_byte s x hx
theorem chunk_len (kind : Int) (u : Nat) (i : Int) (s : ByteArray) (hu : u < 18446744073709551616) (h0 : -9223372036854775808 ≤ i) (h1 : i ≤ 9223372036854775807) (hs : s.size < 18446744073709551616) :
    (chunk kind u i s).length ≤ 10 + s.size := by
  have hz := zig_hi i h0 h1
  have hz0 := zig_lo i
  have hc := clean_le s
  unfold chunk
  split
  · have := encN_len10 u hu; omega
  split
  · have := encN_len10 (zigI i).toNat (by omega); omega
  split
  · have := encN_len10 (cleanL (bytesI s)).length (by omega); simp; omega
  · rw [bytesI_length]; omega
theorem strI_bytesI (s : ByteArray) : strI (bytesI s) = s := by
  have : (bytesI s).map (fun n => UInt8.ofNat n.toNat) = s.data.toList := by
    unfold bytesI
    rw [List.map_map]
    have : ((fun n : Int => UInt8.ofNat n.toNat) ∘ fun b : UInt8 => (b.toNat : Int)) = id := by funext b; simp
    rw [this]; simp
  unfold strI
  rw [this]

theorem raw_any (R g : Nat) (K : List Int) (t n : Nat) (w : World) (h : IsR w R g K t) (hn : t + n ≤ K.length) :
    Calls Tryd.prog 31 #[.pointer (some ⟨R, 0, none⟩), .int .i64 n] w fun e w' => ∃ q, e = .returned (.tuple #[.slice (some ⟨q, 0, none⟩) n n, .nilIface]) ∧ RowAt w' q ((K.drop t).take n) ∧ w.heap.size ≤ q ∧ IsR w' R g K (t + n) ∧ Upd (fun k => k = R) w w' := by
  by_cases ht : t < K.length
  · exact raw_ok R g K t n w h hn ht
  · have e1 : t = K.length := by have := h.le; omega
    have e2 : n = 0 := by omega
    subst e1 e2
    have := raw_zero R g K w h
    simpa using this
theorem text_there (K : List Int) (t : Nat) (C rest : List Int) (most : Int) (hC : endL C = C.length) (hK : K.drop t = encN C.length ++ C ++ rest) (ht : t ≤ K.length) (hm : (C.length : Int) ≤ most) (hl : C.length < 18446744073709551616) :
    textR K t most = .ok (t + (encN C.length).length) C.length ∧ (K.drop (t + (encN C.length).length)).take C.length = C := by
  have hd : K.drop (t + (encN C.length).length) = C ++ rest := by
    rw [← List.drop_drop, hK, List.append_assoc, List.drop_left]
  have htk : (K.drop (t + (encN C.length).length)).take C.length = C := by rw [hd, List.take_left]
  have hlen : K.length = t + ((encN C.length).length + C.length + rest.length) := by
    have := congrArg List.length hK
    simp at this
    omega
  refine ⟨?_, htk⟩
  unfold textR
  rw [if_neg (by omega), hK, List.append_assoc, scan_enc C.length _ hl]
  show (if most < ((C.length : Nat) : Int) then TxtRes.bad t 13 else if K.length < t + (encN C.length).length + C.length then .bad K.length 11 else if endL ((K.drop (t + (encN C.length).length)).take C.length) < C.length then .bad (t + (encN C.length).length + endL ((K.drop (t + (encN C.length).length)).take C.length)) 14 else .ok (t + (encN C.length).length) C.length) = _
  rw [if_neg (by omega), if_neg (by omega), htk, hC, if_neg (by omega)]
theorem conv_raw {w : World} {q : Nat} {s : ByteArray} (h : RowAt w q (bytesI s)) (hl : (bytesI s).length = s.size) (hs : strI (bytesI s) = s) : (convert 55 9 (.slice (some ⟨q, 0, none⟩) s.size s.size)).run Tryd.prog w = .ok (.string s) w := by
  have := conv_holds h.holds s.size
  rw [hs, hl] at this
  exact this
theorem box_cell {S : Nat → Prop} {w w' : World} {cs : Array Value} {T : TypeId} (hu : Upd S (w.alloc (.cells cs T)) w') (hS : ¬ S w.heap.size) (j : Nat) : w'.cell? ⟨w.heap.size, j, none⟩ = cs[j]? := by
  have h1 : w'.heap[w.heap.size]? = some (.cells cs T (0, 0)) := (hu.block w.heap.size (by simp) hS).trans (heap_alloc_new w _)
  simp [World.cell?, h1]
theorem bytes_eq (s : ByteArray) : (s.toList == s.toList) = true := by simp

set_option maxHeartbeats 1600000 in
theorem back_any (kind more i : Int) (u : Nat) (s : ByteArray) (hk0 : -9223372036854775808 ≤ kind) (hk1 : kind ≤ 9223372036854775807) (hm0 : -9223372036854775808 ≤ more) (hm1 : more ≤ 9223372036854775807)
    (hi0 : -9223372036854775808 ≤ i) (hi1 : i ≤ 9223372036854775807) (hu : u < 18446744073709551616) (hs : s.size ≤ 2147483647)
    (R g : Nat) (K : List Int) (t : Nat) (rest : List Int) (w : World) (h : IsR w R g K t) (hT : Tabs w) (hK : K.drop t = chunk kind u i s ++ rest) :
    Calls Tryd.prog 23 #[.agg #[.int .i64 kind, .int .i64 more, .int .u64 u, .int .i64 i, .string s], .pointer (some ⟨R, 0, none⟩)] w fun e w' => e = .returned (.bool true) ∧ IsR w' R g K (t + (chunk kind u i s).length) ∧ Upd (fun k => k = R) w w' := by
  have P := pick_any kind 4 hk0 hk1 (by omega) (by omega)
  have p0 := pick_lo kind 4 (by omega)
  have p1 := pick_hi kind 4 (by omega)
  have hlt := lt_of_block h.block
  have hR1 : ∀ o, IsR (w.alloc o) R g K t := fun o => h.upd ((Upd.refl (fun _ => False) w).alloc o) (fun h => h) (fun h => h)
  have hT1 : ∀ o, Tabs (w.alloc o) := fun o => hT.upd ((Upd.refl (fun _ => False) w).alloc o) (fun h => h) (fun h => h)
  have hU1 : ∀ o w', Upd (fun k => k = R) (w.alloc o) w' → Upd (fun k => k = R) w w' := fun o w' hu => ((Upd.refl (fun k => k = R) w).alloc o).trans hu (fun k _ hk => hk)
  obtain ⟨PT, hPT⟩ : ∃ PT : Array Value, PT = #[.int .i64 kind, .int .i64 more, .int .u64 u, .int .i64 i, .string s] := ⟨_, rfl⟩
  have hne : ¬ w.heap.size = R := by omega
  by_cases c0 : pickI kind 4 = 0
  · have hch : chunk kind u i s = encN u := by unfold chunk; rw [if_pos c0]
    rw [hch] at hK ⊢
    have G := fun o => getUint_any R g K t _ (hR1 o)
    rw [hK, scan_enc u rest hu] at G
    rw [c0] at P
    clear hch c0 hK p0 p1 hPT PT hT1
    go_enter Tryd.func23, Tryd.ntmps23
    go_wp2_with (first
      | (go_at_call 15; refine (P _).mono ?_; rintro e w' ⟨rfl, hw⟩; obtain rfl := hw.symm)
      | (go_at_call 32; refine (G _).mono ?_; rintro e w' ⟨rfl, hR, hU⟩; have hp2 := box_cell hU hne 2; have hU2 := hU1 _ _ hU))
    go_ret
    exact ⟨rfl, hR, hU2⟩
  by_cases c1 : pickI kind 4 = 1
  · have hch : chunk kind u i s = encN (zigI i).toNat := by unfold chunk; rw [if_neg c0, if_pos c1]
    rw [hch] at hK ⊢
    have hz := zig_hi i hi0 hi1
    have hz0 := zig_lo i
    have G := fun o => getInt_any R g K t _ (hR1 o)
    rw [hK, scan_enc (zigI i).toNat rest (by omega)] at G
    have hzz : zagI ((zigI i).toNat : Int) = i := by rw [show ((zigI i).toNat : Int) = zigI i by omega]; exact zag_zig i
    have G2 : ∀ o, Calls Tryd.prog 51 #[.pointer (some ⟨R, 0, none⟩)] (w.alloc o) fun e w' => e = .returned (.tuple #[.int .i64 i, .nilIface]) ∧ IsR w' R g K (t + (encN (zigI i).toNat).length) ∧ Upd (fun k => k = R) (w.alloc o) w' := by
      intro o
      refine (G o).mono ?_
      rintro e w' ⟨h1, h2, h3⟩
      rw [hzz] at h1
      exact ⟨h1, h2, h3⟩
    rw [c1] at P
    obtain ⟨N, hN⟩ : ∃ N, t + (encN (zigI i).toNat).length = N := ⟨_, rfl⟩
    rw [hN] at G2 ⊢
    clear hch c0 c1 hK p0 p1 hPT PT hT1 G hzz hz hz0 hN
    go_enter Tryd.func23, Tryd.ntmps23
    go_wp2_with (first
      | (go_at_call 15; refine (P _).mono ?_; rintro e w' ⟨rfl, hw⟩; obtain rfl := hw.symm)
      | (go_at_call 51; refine (G2 _).mono ?_; rintro e w' ⟨rfl, hR, hU⟩; have hp2 := box_cell hU hne 3; have hU2 := hU1 _ _ hU))
    go_ret
    exact ⟨rfl, hR, hU2⟩
  by_cases c2 : pickI kind 4 = 2
  · have hch : chunk kind u i s = encN (cleanL (bytesI s)).length ++ cleanL (bytesI s) := by unfold chunk; rw [if_neg c0, if_neg c1, if_pos c2]
    rw [hch] at hK ⊢
    have hcl := clean_le s
    have hend := end_clean _ (bytesI s) (Nat.le_refl _)
    have CL := clean_any s (by omega)
    have P2 := pick_any more 1099511627776 hm0 hm1 (by omega) (by omega)
    have q0 := pick_lo more 1099511627776 (by omega)
    have q1 := pick_hi more 1099511627776 (by omega)
    obtain ⟨M, hM⟩ : ∃ M : Int, pickI more 1099511627776 = M := ⟨_, rfl⟩
    rw [hM] at P2 q0 q1
    obtain ⟨C, hC⟩ : ∃ C, cleanL (bytesI s) = C := ⟨_, rfl⟩
    rw [hC] at CL hend hcl hK ⊢
    obtain ⟨T1, T2⟩ := text_there K t C rest ((C.length : Int) + M) hend hK h.le (by omega) (by omega)
    have TX : ∀ w1, IsR w1 R g K t → Tabs w1 → Calls Tryd.prog 52 #[.pointer (some ⟨R, 0, none⟩), .int .i64 ((C.length : Int) + M)] w1 fun e w' => e = .returned (.tuple #[.string (strI C), .nilIface]) ∧ IsR w' R g K (t + (encN C.length ++ C).length) ∧ Upd (fun k => k = R) w1 w' := by
      intro w1 hw1 hT1'
      refine (getText_any R g K t ((C.length : Int) + M) w1 hw1 hT1' (by omega)).mono ?_
      rintro e w' hP
      rw [T1] at hP
      obtain ⟨h1, h2, h3⟩ := hP
      rw [T2] at h1
      refine ⟨h1, ?_, h3⟩
      rw [List.length_append, ← Nat.add_assoc]; exact h2
    have hcz := strI_size C
    obtain ⟨c, hc⟩ : ∃ c, strI C = c := ⟨_, rfl⟩
    rw [hc] at CL TX hcz
    rw [c2] at P
    obtain ⟨N, hN⟩ : ∃ N, t + (encN C.length ++ C).length = N := ⟨_, rfl⟩
    rw [hN] at TX ⊢
    rw [← hcz] at TX hcl
    clear hch c0 c1 c2 hK p0 p1 hPT PT hend hM hC T1 T2 hc hcz hN
    go_enter Tryd.func23, Tryd.ntmps23
    go_wp2_with (first
      | (go_at_call 19; refine (CL _).mono ?_; rintro e w1 ⟨rfl, hb1⟩; have hu1 := (Upd.ofBelow (S := fun _ => False) hb1 (fun k hk hk' => by omega)); have hp1 := box_cell hu1 (fun h => h) 1; have hR2 := (hR1 _).below hb1; have hT2 := (hT1 _).below hb1)
      | (go_at_call 15; have _q := hp1; refine (P2 _).mono ?_; rintro e w' ⟨rfl, hw⟩; obtain rfl := hw.symm)
      | (go_at_call 15; refine (P _).mono ?_; rintro e w' ⟨rfl, hw⟩; obtain rfl := hw.symm)
      | (go_at_call 52; refine (TX _ hR2 hT2).mono ?_; rintro e w' ⟨rfl, hR, hU⟩; have hU2 := hU1 _ _ ((hu1.mono (S' := fun k => k = R) (fun _ _ h => h.elim)).trans hU (fun k _ hk => hk))))
    go_ret
    exact ⟨rfl, hR, hU2⟩
  · have hch : chunk kind u i s = bytesI s := by unfold chunk; rw [if_neg c0, if_neg c1, if_neg c2]
    rw [hch] at hK ⊢
    have hlen : t + s.size ≤ K.length := by
      have h1 := congrArg List.length hK
      have h2 := h.le
      rw [List.length_drop, List.length_append, bytesI_length] at h1
      omega
    have htk : (K.drop t).take s.size = bytesI s := by rw [hK, ← bytesI_length, List.take_left]
    have G := fun o => raw_any R g K t s.size _ (hR1 o) hlen
    rw [htk] at G
    rw [bytesI_length]
    have hq0 : ((pickI kind 4) == 0) = false := by simpa using c0
    have hq1 : ((pickI kind 4) == 1) = false := by simpa using c1
    have hq2 : ((pickI kind 4) == 2) = false := by simpa using c2
    have hsb := strI_bytesI s
    have hbl := bytesI_length s
    obtain ⟨PK, hPK⟩ : ∃ PK, pickI kind 4 = PK := ⟨_, rfl⟩
    rw [hPK] at P hq0 hq1 hq2
    clear hch c0 c1 c2 hK p0 p1 hPT PT hT1 htk hPK
    go_enter Tryd.func23, Tryd.ntmps23
    go_wp2_with (first
      | (go_at_call 15; refine (P _).mono ?_; rintro e w' ⟨rfl, hw⟩; obtain rfl := hw.symm)
      | (go_at_call 31; refine (G _).mono ?_; rintro e w' ⟨q, rfl, hrow, hq, hR, hU⟩; have hp2 := box_cell hU hne 4; have hU2 := hU1 _ _ hU; have hcv := conv_raw hrow hbl hsb))
    go_ret
    exact ⟨rfl, hR, hU2⟩
end Go.Proofs.YtpbpkhbmopjdjaaDoor
