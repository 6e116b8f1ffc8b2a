/-
  The walk of BatchForm.
-/
import Derived.Test.YthcghpbkadlliaaGreatDoorMa37
namespace Go.Proofs.YthcghpbkadlliaaGreatDoor
open Go.Shelf Go.RowKit
set_option maxRecDepth 100000

theorem iter_sized {K : List Int} {b : Nat} : ∀ (n : Nat) (acc : List Sp) (s : Dst) (L : List Sp) (s' : Dst), Inv K b s → iterF (fun _ => spanC1) n acc K s = .ok (L, s') → (∀ a ∈ acc, a.Sized) → ∀ a ∈ L, a.Sized := by
  intro n
  induction n with
  | zero => intro acc s L s' _ h ha; simp [iterF] at h; rw [← h.1]; exact ha
  | succ n ih =>
    intro acc s L s' hI h ha
    obtain ⟨v, s1, h1, h2⟩ := bind_ok h
    obtain ⟨u, s0, h3, h4⟩ := step_ok h1
    have hv : v = u ∧ s1 = s0 := by
      split at h4
      · simp at h4; exact ⟨h4.1.symm, h4.2.symm⟩
      · simp at h4
    obtain ⟨rfl, rfl⟩ := hv
    refine ih _ s1 L s' (sound_span K b s v s1 hI h3).1 h2 ?_
    intro a hm; simp at hm; rcases hm with hm | rfl
    · exact ha a hm
    · exact span_fit hI h3
theorem dec_sized {K : List Int} (hK : ∀ x ∈ K, 0 ≤ x ∧ x < 256) {l : List Sp} (h : decB K = .ok l) : ∀ a ∈ l, a.Sized := by
  unfold decB at h
  split at h
  · simp at h
  rename_i g1
  split at h
  · simp at h
  rename_i g2
  have hl3 : 3 ≤ K.length := by
    have := congrArg List.length (Classical.not_not.mp g2)
    simp [headL] at this
    omega
  split at h
  · simp at h
  rename_i l' s ht
  have hll : l' = l := by
    split at h
    · simp at h
    split at h
    · simp at h
    split at h
    · simp at h
    · simpa using h
  subst hll
  obtain ⟨L1, s1, r1, h1⟩ := bind_ok ht
  obtain ⟨L2, s2, r2, h2⟩ := bind_ok h1
  have tr := top_read hK hl3 (by omega) r1 r2
  obtain ⟨n, t, u1, u2⟩ := bind_ok h2
  exact iter_sized n [] t l' s (sound_count 500 53 K _ s2 n t tr.1 u1).1 u2 (by simp)
theorem flat_sp : ∀ (A : List (Sp × Pl)) (i : Nat) (hi : i < A.length) (j : Nat) (u : Value), (spC A[i].1 A[i].2)[j]? = some u → (A.flatMap spCL)[i * 13 + j]? = some u := by
  intro A
  induction A with
  | nil => intro i hi; simp at hi
  | cons p r ih =>
    intro i hi j u hj
    have h13 : (spCL p).length = 13 := rfl
    have hjl : j < 13 := by have := (Array.getElem?_eq_some_iff.1 hj).1; simpa [spC] using this
    rw [List.flatMap_cons]
    cases i with
    | zero =>
      simp only [List.getElem_cons_zero] at hj
      rw [Nat.zero_mul, Nat.zero_add, List.getElem?_append_left (by omega)]
      unfold spCL
      rw [← Array.getElem?_toList] at hj
      exact hj
    | succ i =>
      simp only [List.getElem_cons_succ] at hj
      rw [List.getElem?_append_right (by omega), h13, show (i + 1) * 13 + j - 13 = i * 13 + j by omega]
      exact ih i (by simpa using hi) j u hj
theorem DecOk.sps {base : Nat} {l : List Sp} {ao : Option Addr} {n cp : Nat} {w : World} (h : DecOk base l (.slice ao n cp) w) : n = l.length ∧ n ≤ 500 ∧ ∃ P, SpsAt w ao l.length l P := by
  obtain ⟨A, rfl, h2, h3, h4⟩ := h
  have hn := own_len h3
  refine ⟨by simpa using hn, by omega, fun i => (A[i]?.map Prod.snd).getD ⟨none, 0, none, 0, none, 0⟩, ⟨rfl, fun hp => ?_, fun i hi => ?_⟩⟩
  · obtain ⟨g, cap, ev, _, _, _, hcl⟩ := own_some2 h3 (by simpa using hp)
    simp only [Value.slice.injEq] at ev
    refine ⟨g, 0, ev.1, fun i hi j u hu => ?_⟩
    have hi' : i < A.length := by simpa using hi
    rw [Nat.zero_add]
    refine hcl _ _ (flat_sp A i hi' j u ?_)
    simpa [hi'] using hu
  · have hi' : i < A.length := by simpa using hi
    have := (h4 A[i] (List.getElem_mem hi')).at
    simpa [hi'] using this
set_option maxHeartbeats 2000000 in
theorem form_ok (ad : Option Addr) (n cp : Nat) (K : List Int) (l : List Sp) (w : World) (hH : Holds w ad n K) (hK : ∀ x ∈ K, 0 ≤ x ∧ x < 256) (hc : n ≤ cp) (hT : Tabs w) (hd : decB K = .ok l) :
    Calls Tryz.prog 7 #[.slice ad n cp] w fun e w' => e = .returned (.bool true) ∧ Below w.heap.size w w' := by
  have S := shown_any w hT
  have D := fun W (b : Below w.heap.size w W) => decode_ok ad n cp K l W (holds_below hH b) hK hc (hT.below b) hd
  obtain ⟨e1, e2, e3, e4⟩ := dec_one hK hd
  have ez := dec_sized hK hd
  have EN := fun (W : World) (ao : Option Addr) (c : Nat) (P : Nat → Pl) (b : Below w.heap.size w W) (h : SpsAt W ao l.length l P) => encode_ok ao c l P W h (fun a ha => ⟨by have := (ez a ha).svc; omega, by have := (ez a ha).op; omega, fun x hx => by have := (ez a ha).attrs x hx; omega, fun x hx => by have := (ez a ha).events x hx; omega⟩) (hT.below b) e2 (fun a ha => (ez a ha).fits) e4 (by rw [e1]; exact e3)
  rw [e1] at EN
  have CV := fun W (b : Below w.heap.size w W) => conv_holds (holds_below hH b) cp
  have CW : ∀ (W : World) (q : Nat), RowAt W q K → (convert 37 9 (.slice (some ⟨q, 0, none⟩) K.length K.length)).run Tryz.prog W = .ok (.string (strI K)) W := fun W q h => conv_holds h.holds K.length
  have hl5 : (l.length : Int) ≤ 500 := by omega
  have B0 : Below w.heap.size w w := Below.refl _ _
  have hl5' : decide ((l.length : Int) ≤ 500) = true := decide_eq_true hl5
  have SP : ∀ (base : Nat) (x : Option Addr) (y z : Nat) (W : World), DecOk base l (.slice x y z) W → y = l.length ∧ ∃ P, SpsAt W x l.length l P := fun base x y z W h => ⟨h.sps.1, h.sps.2.2⟩
  generalize strI K = sk at CV CW
  generalize K.length = kl at EN CW
  clear e1 e2 e3 e4 ez hd hH hK hT
  generalize hll : l.length = ln at *
  clear hll
  go_enter Tryz.func7, Tryz.ntmps7
  go_wp2_with (first
    | (go_at_call 9; refine S.mono ?_; clear S; rintro e w1 ⟨rfl, b1⟩)
    | (go_at_call 21; refine (D _ b1).mono ?_; clear D; rintro e w2 ⟨v2, rfl, d2, b2⟩; obtain ⟨x2, y2, z2, rfl⟩ : ∃ x y z, v2 = .slice x y z := (by obtain ⟨A, _, _, h3, _⟩ := d2; exact row_shape h3); have B2 := b1.trans (b2.mono b1.size); obtain ⟨rfl, P2, s2⟩ := SP _ _ _ _ _ d2; clear SP d2)
    | (go_at_call 13; refine (EN _ _ _ _ B2 s2).mono ?_; clear EN; rintro e w3 ⟨q, rfl, r3, hq, b3⟩; have B3 := B2.trans (b3.mono B2.size); have cv := CV _ B3; have cw := CW _ _ r3; clear CV CW)
  )
  go_ret
  exact ⟨rfl, B3⟩
theorem as_new (p a no : Nat) (w : World) (hF : IsF w p a no) (hE : ErrT w) :
    Calls Tryz.prog 26 #[.iface 57 (.pointer (some ⟨p, 0, none⟩)), .iface 59 (.pointer (some ⟨w.heap.size, 0, none⟩))] (w.alloc (.cells #[.pointer none] 57)) fun e w' => e = .returned (.bool true) ∧ w'.cell? ⟨w.heap.size, 0, none⟩ = some (.pointer (some ⟨p, 0, none⟩)) ∧ IsF w' p a no ∧ Below w.heap.size w w' := by
  have hb0 : Below w.heap.size w (w.alloc (.cells #[.pointer none] 57)) := (Below.refl _ _).alloc (Nat.le_refl _) _
  refine (as_hit ⟨p, 0, none⟩ ⟨w.heap.size, 0, none⟩ (.pointer none) (w.alloc (.cells #[.pointer none] 57)) (hE.below hb0) (by simp [go_sem]) (by simp [go_sem])).mono ?_
  rintro e w' ⟨rfl, o1, o2, o3, o4, rfl⟩
  have hb : Below w.heap.size w (((((w.alloc (.cells #[.pointer none] 57)).alloc o1).alloc o2).alloc o3).alloc o4) := ((((((Below.refl _ _).alloc (Nat.le_refl _) _).alloc (by (try simp); (try omega)) _).alloc (by (try simp); (try omega)) _).alloc (by (try simp); (try omega)) _).alloc (by (try simp); (try omega)) _)
  have hb' := hb.setCell (p := ⟨w.heap.size, 0, none⟩) (Nat.le_refl _) (.pointer (some ⟨p, 0, none⟩))
  refine ⟨rfl, ?_, (hb'.block p (lt_of_block hF)).trans hF, hb'⟩
  simp [go_sem]
set_option maxHeartbeats 2000000 in
theorem form_bad (ad : Option Addr) (n cp : Nat) (K : List Int) (a no : Nat) (w : World) (hH : Holds w ad n K) (hK : ∀ x ∈ K, 0 ≤ x ∧ x < 256) (hc : n ≤ cp) (hT : Tabs w) (hE : ErrT w) (hd : decB K = .error (a, no)) :
    Calls Tryz.prog 7 #[.slice ad n cp] w fun e w' => e = .returned (.bool true) ∧ Below w.heap.size w w' := by
  have S := shown_any w hT
  have D := fun W (b : Below w.heap.size w W) => decode_bad ad n cp K a no W (holds_below hH b) hK hc (hT.below b) (hE.below b) hd
  obtain ⟨ha, hno⟩ := dec_err hK hd
  rw [hH.len] at ha
  have AS := fun W p (b : Below w.heap.size w W) (h : IsF W p a no) => as_new p a no W h (hE.below b)
  have k1 : decide ((0 : Int) ≤ (a : Int)) = true := decide_eq_true (by omega)
  have k2 : decide ((a : Int) ≤ (n : Int)) = true := decide_eq_true (by omega)
  have k3 : ¬ ((no : Int) = 0) := by omega
  clear hd hH hK hT hE
  go_enter Tryz.func7, Tryz.ntmps7
  go_wp2_with (first
    | (go_at_call 9; refine S.mono ?_; clear S; rintro e w1 ⟨rfl, b1⟩)
    | (go_at_call 21; refine (D _ b1).mono ?_; clear D; rintro e w2 ⟨p2, rfl, f2, b2⟩; have B2 := b1.trans (b2.mono b1.size))
    | (go_at_call 26; refine (AS _ _ B2 f2).mono ?_; clear AS; rintro e w3 ⟨rfl, c3, f3, b3⟩; have B3 := B2.trans (b3.mono B2.size); have g0 : w3.cell? ⟨p2, 0, none⟩ = some (.int .i64 a) := (by simp [World.cell?, show w3.heap[p2]? = _ from f3]); have g1 : w3.cell? ⟨p2, 1, none⟩ = some (.int .i64 no) := (by simp [World.cell?, show w3.heap[p2]? = _ from f3]); clear f2 f3)
  )
  go_ret
  exact ⟨by simp; omega, B3⟩
theorem form_any (ad : Option Addr) (n cp : Nat) (K : List Int) (w : World) (hH : Holds w ad n K) (hK : ∀ x ∈ K, 0 ≤ x ∧ x < 256) (hc : n ≤ cp) (hT : Tabs w) (hE : ErrT w) :
    Calls Tryz.prog 7 #[.slice ad n cp] w fun e w' => e = .returned (.bool true) ∧ Below w.heap.size w w' := by
  cases hd : decB K with
  | ok l => exact form_ok ad n cp K l w hH hK hc hT hd
  | error x => exact form_bad ad n cp K x.1 x.2 w hH hK hc hT hE hd
/-! Bytes that were handed in. -/
open Go.ChangeShapes Go.WideShapes Go.ChangeAt Go.Deep
theorem cells8 : Tryz.prog.cellsOf 5 = 1 := by kernel_rfl
theorem bytes8 : Tryz.prog.bytesOf 5 = 1 := by kernel_rfl

section
variable {H : Type} {enc : TypeId × Value → H} {W : World} {base : Nat} {spare : Nat → Bool} {held : Bool}
/-- A list of bytes that was handed in. -/
theorem open_bytes {n : Nat} {v : Value} {d : DataW H} {pl : List MemPlace} (h : DataW.trod enc Tryz.prog W base spare held n 37 [v] = some (d, pl)) :
    ∃ (ad : Option Addr) (len cap : Nat) (K : List Int), v = .slice ad len cap ∧ Holds W ad len K ∧ (∀ x ∈ K, 0 ≤ x ∧ x < 256) ∧ len ≤ cap ∧ cap ≤ maxLen ∧ ((len = 0 ∧ d = .nil) ∨ ∃ el sp, d = .slice el sp ∧ el.length = len) := by
  rcases open_slice1 Tryz.underlying37 cells8 h with ⟨hcs, hx⟩ | ⟨a, len, cap, m, n, V, D, Pl, hcs, hb, hl, hm, hmm, hx, hel⟩
  · simp at hcs
    subst hcs
    simp at hx
    exact ⟨none, 0, 0, [], rfl, ⟨rfl, fun j u hj => by simp at hj⟩, (fun x hx => by cases hx), Nat.le_refl _, by simp [maxLen], Or.inl ⟨rfl, hx.1⟩⟩
  · simp at hcs
    subst hcs
    simp only [Prod.mk.injEq] at hx
    have hlm : len ≤ m := by rw [hmm]; split <;> omega
    have each : ∀ i, i < len → ∃ x : Int, W.cell? (a.add i) = some (.int .u8 x) ∧ 0 ≤ x ∧ x < 256 := by
      intro i hi
      obtain ⟨h1, h2⟩ := hel i (by omega)
      obtain ⟨x, e1, _, w1⟩ := DataW.trod_int Tryz.underlying5 h2
      simp at e1
      rw [e1] at h1
      have := bounds_u8 w1
      exact ⟨x, h1, this.1, by omega⟩
    obtain ⟨X, hX⟩ := choose_lt each
    refine ⟨some a, len, cap, (List.range len).map X, rfl, ⟨by simp, fun j u hj => ?_⟩, ?_, hl, hm, Or.inr ⟨_, _, hx.1, by simp⟩⟩
    · have hj2 : j < len := by have := (List.getElem?_eq_some_iff.1 hj).1; simpa using this
      refine ⟨a, rfl, ?_⟩
      rw [(hX j hj2).1]
      simp [hj2] at hj
      rw [hj]
    · intro x hx
      simp at hx
      obtain ⟨i, hi, rfl⟩ := hx
      exact (hX i hi).2
end
theorem bytes_size {H : Type} {ts : List TypeId} {ds : List (DataW H)} {j : Nat} {d : DataW H} {len : Nat} (hsz : (DataW.weightsEach Tryz.prog ts ds).all (· ≤ reachBytes) = true) (ht : ts[j]? = some 37) (hd : ds[j]? = some d)
    (h : (len = 0 ∧ d = .nil) ∨ ∃ el sp, d = .slice el sp ∧ el.length = len) : len ≤ 140737488351232 := by
  rcases h with ⟨rfl, _⟩ | ⟨el, sp, rfl, rfl⟩
  · omega
  · have := sized_slice hsz ht hd Tryz.underlying37
    rw [bytes8] at this
    simp only [reachBytes] at this
    omega
end Go.Proofs.YthcghpbkadlliaaGreatDoor
