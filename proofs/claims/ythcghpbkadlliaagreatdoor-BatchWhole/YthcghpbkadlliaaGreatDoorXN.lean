/-
  pick, fault; the walk of BatchWhole.
-/
import Derived.Test.YthcghpbkadlliaaGreatDoorXM
namespace Go.Proofs.YthcghpbkadlliaaGreatDoor
open Go.Shelf Go.RowKit
set_option maxRecDepth 100000

def pickI (c n : Int) : Int := (if c < 0 then -(c + 1) else c) % n
theorem pick_lo (c n : Int) (h : 0 < n) : 0 ≤ pickI c n := Int.emod_nonneg _ (by omega)
theorem pick_hi (c n : Int) (h : 0 < n) : pickI c n < n := Int.emod_lt_of_pos _ h
theorem pick_any (c n : Int) (h0 : -9223372036854775808 ≤ c) (h1 : c ≤ 9223372036854775807) (hn : 0 < n) (hn' : n ≤ 9223372036854775807) (w : World) :
    Calls Tryz.prog 27 #[.int .i64 c, .int .i64 n] w fun e w' => e = .returned (.int .i64 (pickI c n)) ∧ w' = w := by
  by_cases h : c < 0
  · have e : pickI c n = -(c + 1) % n := by unfold pickI; rw [if_pos h]
    go_enter Tryz.func27, Tryz.ntmps27
    go_wp2
    go_ret
    exact ⟨ret_int (by rw [e, ← Int.neg_tmod]; exact Int.tmod_eq_emod_of_nonneg (by omega)), rfl⟩
  · have e : pickI c n = c % n := by unfold pickI; rw [if_neg h]
    go_enter Tryz.func27, Tryz.ntmps27
    go_wp2
    go_ret
    exact ⟨ret_int (by first | rfl | exact e.symm), rfl⟩

set_option maxHeartbeats 2000000 in
theorem fault_hit (p a no : Nat) (w : World) (hF : IsF w p a no) (hE : ErrT w) (hno : 0 < no) :
    Calls Tryz.prog 15 #[.iface 57 (.pointer (some ⟨p, 0, none⟩)), .int .i64 a, .int .i64 no] w fun e w' => e = .returned (.bool true) ∧ Below w.heap.size w w' := by
  have AS := as_new p a no w hF hE
  have k3 : ¬ ((no : Int) = 0) := by omega
  have k4 : ((no : Int) == 0) = false := by simpa using k3
  go_enter Tryz.func15, Tryz.ntmps15
  go_wp2_with (first
    | (go_at_call 26; refine AS.mono ?_; clear AS; rintro e w3 ⟨rfl, c3, f3, b3⟩; have g0 : w3.cell? ⟨p, 0, none⟩ = some (.int .i64 a) := (by simp [World.cell?, show w3.heap[p]? = _ from f3]); have g1 : w3.cell? ⟨p, 1, none⟩ = some (.int .i64 no) := (by simp [World.cell?, show w3.heap[p]? = _ from f3]); clear f3)
    | (go_at_call 41; refine (is_fault p no _ g1).mono ?_; rintro e w4 ⟨rfl, hw⟩; obtain rfl := hw.symm))
  go_ret
  exact ⟨rfl, b3⟩

/-- A list without bytes, just made. -/
theorem made_own (w : World) (base : Nat) (hb : base ≤ w.heap.size) : (w.alloc (.cells #[] 5)).ownsRow base 5 1 (.slice (some ⟨w.heap.size, 0, none⟩) 0 0) 0 [] := by
  have h : RowAt (w.alloc (.cells #[] 5)) w.heap.size [] := heap_alloc_new w _
  have := h.own base hb (by simp)
  simpa using this
theorem below_grown {base : Nat} {w w' : World} {e : TypeId} {size n : Nat} {v : Value} {xs : List Value} (h : w.grownBy w' v.ownBlock) (ho : w.ownsRow base e size v n xs) (hb : base ≤ w.heap.size) : Below base w w' :=
  ⟨h.os, h.tape, h.output, h.size, fun k hk => h.block k (by omega) (fun e => by have := (own_block ho e.symm).1; omega)⟩
theorem holds_src {w : World} {ad : Option Addr} {n : Nat} {K : List Int} (h : Holds w ad n K) (cap : Nat) : Src Tryz.prog 1 37 (.slice ad n cap) n (K.map (Value.int .u8)) w := by
  have hl := h.len
  cases ad with
  | none =>
    have hK0 : K = [] := by
      cases K with
      | nil => rfl
      | cons x r => obtain ⟨a, ha, _⟩ := h.cells 0 (.int .u8 x) (by simp); simp at ha
    subst hK0
    subst hl
    exact Src.ofNil _ Tryz.underlying37 cap
  | some a =>
    exact Src.ofSlice _ Tryz.underlying37 a n cap _ (by simpa using hl) (fun j u hj => by
      obtain ⟨a', ha, hc⟩ := h.cells j u hj
      simp at ha; subst ha; exact hc) (u8_one K)
/-- The first of them. -/
theorem Holds.take {w : World} {ad : Option Addr} {n : Nat} {K : List Int} (h : Holds w ad n K) (m : Nat) (hm : m ≤ n) : Holds w ad m (K.take m) := by
  refine ⟨by have := h.len; simp; omega, fun j u hj => h.cells j u ?_⟩
  rw [List.map_take] at hj
  have hj2 : j < m := by have := (List.getElem?_eq_some_iff.1 hj).1; simp at this; omega
  rwa [List.getElem?_take_of_lt hj2] at hj
theorem cutErr {X : List Sp} (ho : EncOk X) (hF : ∀ a ∈ X, a.Fits) (k : Nat) (hk : k < (encB X).length) : ∃ a no : Nat, decB ((encB X).take k) = .error (a, no) ∧ 0 < no ∧ ((k < 3 ∧ a = 0 ∧ no = 52) ∨ (3 ≤ k ∧ a = k ∧ no = 11)) := by
  have h := dec_cut X ho.1 (fun a ha => ⟨(span_can (hF a ha) (ho.2.1 a ha)).1, (span_can (hF a ha) (ho.2.1 a ha)).2, ho.2.1 a ha⟩) ho.2.2 (ho.byt hF) k hk
  by_cases h3 : k < 3
  · rw [if_pos h3] at h; exact ⟨0, 52, h, by omega, Or.inl ⟨h3, rfl, rfl⟩⟩
  · rw [if_neg h3] at h; exact ⟨k, 11, h, by omega, Or.inr ⟨by omega, rfl, rfl⟩⟩
theorem moreErr {X : List Sp} (ho : EncOk X) (hF : ∀ a ∈ X, a.Fits) (M : List Int) (hM : 0 < M.length) : ∃ a no : Nat, decB (encB X ++ M) = .error (a, no) ∧ 0 < no ∧ ((65536 < (encB X).length + M.length ∧ a = 0 ∧ no = 51) ∨ ((encB X).length + M.length ≤ 65536 ∧ a = (encB X).length ∧ no = 15)) := by
  have h := dec_more X ho.1 (fun a ha => ⟨(span_can (hF a ha) (ho.2.1 a ha)).1, (span_can (hF a ha) (ho.2.1 a ha)).2, ho.2.1 a ha⟩) ho.2.2 (ho.byt hF) M hM
  by_cases h3 : 65536 < (encB X).length + M.length
  · rw [if_pos h3] at h; exact ⟨0, 51, h, by omega, Or.inl ⟨h3, rfl, rfl⟩⟩
  · rw [if_neg h3] at h; exact ⟨(encB X).length, 15, h, by omega, Or.inr ⟨by omega, rfl, rfl⟩⟩
set_option maxHeartbeats 2000000 in
theorem whole_1000 (ad md : Option Addr) (cp mn mc : Nat) (X : List Sp) (P : Nat → Pl) (z : Int) (k : Nat) (w : World) (hX : SpsAt w ad X.length X P) (hS : ∀ a ∈ X, a.Small) (hF : ∀ a ∈ X, a.Fits) (hT : Tabs w) (hE : ErrT w) (ho : EncOk X) 
    (h0 : -9223372036854775808 ≤ z) (h1 : z ≤ 9223372036854775807) (hz : pickI z (encB X).length = k) (hk : k < (encB X).length) (hk3 : k < 3) (hm0 : mn = 0) :
    Calls Tryz.prog 8 #[.slice ad X.length cp, .int .i64 z, .slice md mn mc] w fun e w' => e = .returned (.bool true) ∧ Below w.heap.size w w' := by
  have S := shown_any w hT
  have EN := fun W (b : Below w.heap.size w W) => encode_ok ad cp X P W (hX.below b) hS (hT.below b) ho.1 hF ho.2.1 ho.2.2
  have PK := fun W => pick_any z (encB X).length h0 h1 (by omega) (by have := ho.2.2; omega) W
  rw [hz] at PK
  obtain ⟨a1, n1, hd1, hn1, hc1⟩ := cutErr ho hF k hk
  obtain ⟨rfl, rfl⟩ : a1 = 0 ∧ n1 = 52 := by omega
  have hby := ho.byt hF
  have D1 := fun W q (b : Below w.heap.size w W) (r : RowAt W q (encB X)) => decode_bad (some ⟨q, 0, none⟩) k (encB X).length ((encB X).take k) 0 52 W (r.holds.take k (by omega)) (fun x hx => hby x (List.mem_of_mem_take hx)) (by omega) (hT.below b) (hE.below b) hd1
  have F1 := fun W p (b : Below w.heap.size w W) (f : IsF W p (0 : Nat) (52 : Nat)) => fault_hit p 0 52 W f (hE.below b) (by omega)
  have k2 : decide ((k : Int) < 3) = true := decide_eq_true (by omega)
  have k2i : (k : Int) < 3 := by omega
  have k5 : (mn : Int) = 0 := by omega
  clear ho hS hF hT hX hE hby hz
  clear hd1 hc1
  generalize encB X = K at *
  generalize hkl2 : K.length = kl at *
  generalize X.length = ln at *
  go_enter Tryz.func8, Tryz.ntmps8
  go_wp2_with (first
    | (go_at_call 9; refine S.mono ?_; clear S; rintro e w1 ⟨rfl, b1⟩)
    | (go_at_call 13; refine (EN _ b1).mono ?_; clear EN; rintro e w2 ⟨q, rfl, r2, hq, b2⟩; have B2 := b1.trans (b2.mono b1.size))
    | (go_at_call 27; refine (PK _).mono ?_; clear PK; rintro e w3 ⟨rfl, hw⟩; obtain rfl := hw.symm)
    | (go_at_call 21; refine (D1 _ _ B2 r2).mono ?_; clear D1; rintro e w4 ⟨p4, rfl, f4, b4⟩; have B4 := B2.trans (b4.mono B2.size); have r4 : RowAt w4 q K := (b4.block q (lt_of_block r2)).trans r2)
    | (go_at_call 15; refine (F1 _ _ B4 f4).mono ?_; clear F1; rintro e w5 ⟨rfl, b5⟩; have B5 := B4.trans (b5.mono B4.size); have r5 : RowAt w5 q K := (b5.block q (lt_of_block r4)).trans r4)
  )
  go_ret
  exact ⟨rfl, B5⟩
set_option maxHeartbeats 2000000 in
theorem whole_1100 (ad md : Option Addr) (cp mn mc : Nat) (X : List Sp) (P : Nat → Pl) (M : List Int) (z : Int) (k : Nat) (w : World) (hX : SpsAt w ad X.length X P) (hS : ∀ a ∈ X, a.Small) (hF : ∀ a ∈ X, a.Fits) (hT : Tabs w) (hE : ErrT w) (ho : EncOk X) (hM : Holds w md mn M) (hMb : ∀ x ∈ M, 0 ≤ x ∧ x < 256)
    (h0 : -9223372036854775808 ≤ z) (h1 : z ≤ 9223372036854775807) (hz : pickI z (encB X).length = k) (hk : k < (encB X).length) (hk3 : k < 3) (hm0 : 0 < mn) (hml : mn ≤ 65537) (hov : (encB X).length + mn ≤ 65536) :
    Calls Tryz.prog 8 #[.slice ad X.length cp, .int .i64 z, .slice md mn mc] w fun e w' => e = .returned (.bool true) ∧ Below w.heap.size w w' := by
  have S := shown_any w hT
  have EN := fun W (b : Below w.heap.size w W) => encode_ok ad cp X P W (hX.below b) hS (hT.below b) ho.1 hF ho.2.1 ho.2.2
  have PK := fun W => pick_any z (encB X).length h0 h1 (by omega) (by have := ho.2.2; omega) W
  rw [hz] at PK
  obtain ⟨a1, n1, hd1, hn1, hc1⟩ := cutErr ho hF k hk
  obtain ⟨rfl, rfl⟩ : a1 = 0 ∧ n1 = 52 := by omega
  have hby := ho.byt hF
  have D1 := fun W q (b : Below w.heap.size w W) (r : RowAt W q (encB X)) => decode_bad (some ⟨q, 0, none⟩) k (encB X).length ((encB X).take k) 0 52 W (r.holds.take k (by omega)) (fun x hx => hby x (List.mem_of_mem_take hx)) (by omega) (hT.below b) (hE.below b) hd1
  have F1 := fun W p (b : Below w.heap.size w W) (f : IsF W p (0 : Nat) (52 : Nat)) => fault_hit p 0 52 W f (hE.below b) (by omega)
  have hMl := hM.len
  have hM2 : Holds w md mn (M.take mn) := hM.take mn (by omega)
  have hMl2 : (M.take mn).length = mn := hM2.len
  obtain ⟨a2, n2, hd2, hn2, hc2⟩ := moreErr ho hF (M.take mn) (by omega)
  rw [hMl2] at hc2
  obtain ⟨rfl, rfl⟩ : a2 = (encB X).length ∧ n2 = 15 := by omega
  have hby2 : ∀ x ∈ encB X ++ M.take mn, 0 ≤ x ∧ x < 256 := fun x hx => (List.mem_append.1 hx).elim (hby x) (fun h => hMb x (List.mem_of_mem_take h))
  have D2 := fun W ao n c (b : Below w.heap.size w W) (r : Holds W ao n (encB X ++ M.take mn)) (hc : n ≤ c) => decode_bad ao n c (encB X ++ M.take mn) (encB X).length 15 W r hby2 hc (hT.below b) (hE.below b) hd2
  have F2 := fun W p (b : Below w.heap.size w W) (f : IsF W p ((encB X).length : Nat) (15 : Nat)) => fault_hit p ((encB X).length) 15 W f (hE.below b) (by omega)
  have SM := fun W (b : Below w.heap.size w W) => holds_src (holds_below hM2 b) mc
  have SK : ∀ (W : World) (q : Nat), RowAt W q (encB X) → Src Tryz.prog 1 37 (.slice (some ⟨q, 0, none⟩) (encB X).length (encB X).length) (encB X).length ((encB X).map (Value.int .u8)) W := fun W q r => holds_src r.holds _
  have HO : ∀ (W : World) (b : Nat) (ao : Option Addr) (n c m : Nat), W.ownsRow b 5 1 (.slice ao n c) m ((encB X).map (Value.int .u8) ++ (M.take mn).map (Value.int .u8)) → n = (encB X).length + mn ∧ Holds W ao n (encB X ++ M.take mn) ∧ n ≤ c := by
    intro W b ao n c m h
    have hl := own_len h
    have hm2 : m = (encB X).length + mn := by
      have := h.1
      simp at this
      omega
    subst hm2
    refine ⟨hl, Holds.ofRow (base := b) (cap := c) ?_, ?_⟩
    · rw [List.length_append, hMl2, List.map_append]; rw [hl] at h ⊢; exact h
    · obtain ⟨g, cap, ev, h5, _⟩ := own_some2 h (by omega)
      simp only [Value.slice.injEq] at ev
      omega
  obtain ⟨i0, hi, hz0, hz1, hz2⟩ := info_parts Tryz.info5
  have hkl : (encB X).length ≤ 65536 := ho.2.2
  have k2 : decide ((k : Int) < 3) = true := decide_eq_true (by omega)
  have k2i : (k : Int) < 3 := by omega
  have k5 : ¬ ((mn : Int) = 0) := by omega
  have k6 : ¬ ((65537 : Int) < (mn : Int)) := by omega
  have k7 : ¬ ((65536 : Int) < ((encB X).length : Int) + (mn : Nat)) := by omega
  clear ho hS hF hT hX hE hby hz
  clear hby2 hM2 hd1 hd2 hc1 hc2 hMb hM
  generalize M.take mn = M2 at *
  generalize encB X = K at *
  generalize hkl2 : K.length = kl at *
  generalize X.length = ln at *
  go_enter Tryz.func8, Tryz.ntmps8
  go_wp2_with (first
    | (go_at_call 9; refine S.mono ?_; clear S; rintro e w1 ⟨rfl, b1⟩)
    | (go_at_call 13; refine (EN _ b1).mono ?_; clear EN; rintro e w2 ⟨q, rfl, r2, hq, b2⟩; have B2 := b1.trans (b2.mono b1.size))
    | (go_at_call 27; refine (PK _).mono ?_; clear PK; rintro e w3 ⟨rfl, hw⟩; obtain rfl := hw.symm)
    | (go_at_call 21; refine (D1 _ _ B2 r2).mono ?_; clear D1; rintro e w4 ⟨p4, rfl, f4, b4⟩; have B4 := B2.trans (b4.mono B2.size); have r4 : RowAt w4 q K := (b4.block q (lt_of_block r2)).trans r2)
    | (go_at_call 15; refine (F1 _ _ B4 f4).mono ?_; clear F1; rintro e w5 ⟨rfl, b5⟩; have B5 := B4.trans (b5.mono B4.size); have r5 : RowAt w5 q K := (b5.block q (lt_of_block r4)).trans r4)
    | (at_builtin; refine wpList_app _ rfl _ _ 37 37 rfl w.heap.size 5 i0 (.int .u8 0) 1 Tryz.underlying37 hi hz0 hz1 hz2 rfl (.slice (some ⟨w5.heap.size, 0, none⟩) 0 0) 0 [] rfl (made_own w5 _ B5.size) _ kl (K.map (Value.int .u8)) rfl (SK _ _ (r5.upd ((Upd.refl (fun _ => False) _).alloc _) (fun h => h))) (by unfold maxLen; omega) (by omega) (by rw [size_al]; have := B5.size; omega) ?_; clear SK; intro v6 w6 o6 g6 m6; clear m6; rw [List.nil_append, Nat.zero_add] at o6; obtain ⟨ao6, l6, c6, rfl⟩ := row_shape o6; have B6 : Below w.heap.size w w6 := (B5.alloc B5.size _).trans (below_grown g6 (made_own w5 _ B5.size) (by rw [size_al]; have := B5.size; omega)); clear g6)
    | (at_builtin; refine wpList_app _ rfl _ _ 37 37 rfl w.heap.size 5 i0 (.int .u8 0) 1 Tryz.underlying37 hi hz0 hz1 hz2 rfl (.slice ao6 l6 c6) kl _ rfl o6 _ mn (M2.map (Value.int .u8)) rfl (SM _ B6) (by unfold maxLen; omega) (by omega) B6.size ?_; clear SM; intro v7 w7 o7 g7 m7; clear m7; obtain ⟨ao7, l7, c7, rfl⟩ := row_shape o7; have B7 : Below w.heap.size w w7 := B6.trans (below_grown g7 o6 B6.size); obtain ⟨hl7, H7, hc7⟩ := HO _ _ _ _ _ _ o7; clear hl7 HO g7 o6 o7)
    | (go_at_call 21; refine (D2 _ _ _ _ B7 H7 hc7).mono ?_; clear D2; rintro e w8 ⟨p8, rfl, f8, b8⟩; have B8 := B7.trans (b8.mono B7.size); clear H7)
    | (go_at_call 15; refine (F2 _ _ B8 f8).mono ?_; clear F2; rintro e w9 ⟨rfl, b9⟩; have B9 := B8.trans (b9.mono B8.size))
  )
  go_ret
  exact ⟨rfl, B9⟩
set_option maxHeartbeats 2000000 in
theorem whole_1101 (ad md : Option Addr) (cp mn mc : Nat) (X : List Sp) (P : Nat → Pl) (M : List Int) (z : Int) (k : Nat) (w : World) (hX : SpsAt w ad X.length X P) (hS : ∀ a ∈ X, a.Small) (hF : ∀ a ∈ X, a.Fits) (hT : Tabs w) (hE : ErrT w) (ho : EncOk X) (hM : Holds w md mn M) (hMb : ∀ x ∈ M, 0 ≤ x ∧ x < 256)
    (h0 : -9223372036854775808 ≤ z) (h1 : z ≤ 9223372036854775807) (hz : pickI z (encB X).length = k) (hk : k < (encB X).length) (hk3 : k < 3) (hm0 : 0 < mn) (hml : mn ≤ 65537) (hov : 65536 < (encB X).length + mn) :
    Calls Tryz.prog 8 #[.slice ad X.length cp, .int .i64 z, .slice md mn mc] w fun e w' => e = .returned (.bool true) ∧ Below w.heap.size w w' := by
  have S := shown_any w hT
  have EN := fun W (b : Below w.heap.size w W) => encode_ok ad cp X P W (hX.below b) hS (hT.below b) ho.1 hF ho.2.1 ho.2.2
  have PK := fun W => pick_any z (encB X).length h0 h1 (by omega) (by have := ho.2.2; omega) W
  rw [hz] at PK
  obtain ⟨a1, n1, hd1, hn1, hc1⟩ := cutErr ho hF k hk
  obtain ⟨rfl, rfl⟩ : a1 = 0 ∧ n1 = 52 := by omega
  have hby := ho.byt hF
  have D1 := fun W q (b : Below w.heap.size w W) (r : RowAt W q (encB X)) => decode_bad (some ⟨q, 0, none⟩) k (encB X).length ((encB X).take k) 0 52 W (r.holds.take k (by omega)) (fun x hx => hby x (List.mem_of_mem_take hx)) (by omega) (hT.below b) (hE.below b) hd1
  have F1 := fun W p (b : Below w.heap.size w W) (f : IsF W p (0 : Nat) (52 : Nat)) => fault_hit p 0 52 W f (hE.below b) (by omega)
  have hMl := hM.len
  have hM2 : Holds w md mn (M.take mn) := hM.take mn (by omega)
  have hMl2 : (M.take mn).length = mn := hM2.len
  obtain ⟨a2, n2, hd2, hn2, hc2⟩ := moreErr ho hF (M.take mn) (by omega)
  rw [hMl2] at hc2
  obtain ⟨rfl, rfl⟩ : a2 = 0 ∧ n2 = 51 := by omega
  have hby2 : ∀ x ∈ encB X ++ M.take mn, 0 ≤ x ∧ x < 256 := fun x hx => (List.mem_append.1 hx).elim (hby x) (fun h => hMb x (List.mem_of_mem_take h))
  have D2 := fun W ao n c (b : Below w.heap.size w W) (r : Holds W ao n (encB X ++ M.take mn)) (hc : n ≤ c) => decode_bad ao n c (encB X ++ M.take mn) 0 51 W r hby2 hc (hT.below b) (hE.below b) hd2
  have F2 := fun W p (b : Below w.heap.size w W) (f : IsF W p (0 : Nat) (51 : Nat)) => fault_hit p (0) 51 W f (hE.below b) (by omega)
  have SM := fun W (b : Below w.heap.size w W) => holds_src (holds_below hM2 b) mc
  have SK : ∀ (W : World) (q : Nat), RowAt W q (encB X) → Src Tryz.prog 1 37 (.slice (some ⟨q, 0, none⟩) (encB X).length (encB X).length) (encB X).length ((encB X).map (Value.int .u8)) W := fun W q r => holds_src r.holds _
  have HO : ∀ (W : World) (b : Nat) (ao : Option Addr) (n c m : Nat), W.ownsRow b 5 1 (.slice ao n c) m ((encB X).map (Value.int .u8) ++ (M.take mn).map (Value.int .u8)) → n = (encB X).length + mn ∧ Holds W ao n (encB X ++ M.take mn) ∧ n ≤ c := by
    intro W b ao n c m h
    have hl := own_len h
    have hm2 : m = (encB X).length + mn := by
      have := h.1
      simp at this
      omega
    subst hm2
    refine ⟨hl, Holds.ofRow (base := b) (cap := c) ?_, ?_⟩
    · rw [List.length_append, hMl2, List.map_append]; rw [hl] at h ⊢; exact h
    · obtain ⟨g, cap, ev, h5, _⟩ := own_some2 h (by omega)
      simp only [Value.slice.injEq] at ev
      omega
  obtain ⟨i0, hi, hz0, hz1, hz2⟩ := info_parts Tryz.info5
  have hkl : (encB X).length ≤ 65536 := ho.2.2
  have k2 : decide ((k : Int) < 3) = true := decide_eq_true (by omega)
  have k2i : (k : Int) < 3 := by omega
  have k5 : ¬ ((mn : Int) = 0) := by omega
  have k6 : ¬ ((65537 : Int) < (mn : Int)) := by omega
  have k7 : (65536 : Int) < ((encB X).length : Int) + (mn : Nat) := by omega
  clear ho hS hF hT hX hE hby hz
  clear hby2 hM2 hd1 hd2 hc1 hc2 hMb hM
  generalize M.take mn = M2 at *
  generalize encB X = K at *
  generalize hkl2 : K.length = kl at *
  generalize X.length = ln at *
  go_enter Tryz.func8, Tryz.ntmps8
  go_wp2_with (first
    | (go_at_call 9; refine S.mono ?_; clear S; rintro e w1 ⟨rfl, b1⟩)
    | (go_at_call 13; refine (EN _ b1).mono ?_; clear EN; rintro e w2 ⟨q, rfl, r2, hq, b2⟩; have B2 := b1.trans (b2.mono b1.size))
    | (go_at_call 27; refine (PK _).mono ?_; clear PK; rintro e w3 ⟨rfl, hw⟩; obtain rfl := hw.symm)
    | (go_at_call 21; refine (D1 _ _ B2 r2).mono ?_; clear D1; rintro e w4 ⟨p4, rfl, f4, b4⟩; have B4 := B2.trans (b4.mono B2.size); have r4 : RowAt w4 q K := (b4.block q (lt_of_block r2)).trans r2)
    | (go_at_call 15; refine (F1 _ _ B4 f4).mono ?_; clear F1; rintro e w5 ⟨rfl, b5⟩; have B5 := B4.trans (b5.mono B4.size); have r5 : RowAt w5 q K := (b5.block q (lt_of_block r4)).trans r4)
    | (at_builtin; refine wpList_app _ rfl _ _ 37 37 rfl w.heap.size 5 i0 (.int .u8 0) 1 Tryz.underlying37 hi hz0 hz1 hz2 rfl (.slice (some ⟨w5.heap.size, 0, none⟩) 0 0) 0 [] rfl (made_own w5 _ B5.size) _ kl (K.map (Value.int .u8)) rfl (SK _ _ (r5.upd ((Upd.refl (fun _ => False) _).alloc _) (fun h => h))) (by unfold maxLen; omega) (by omega) (by rw [size_al]; have := B5.size; omega) ?_; clear SK; intro v6 w6 o6 g6 m6; clear m6; rw [List.nil_append, Nat.zero_add] at o6; obtain ⟨ao6, l6, c6, rfl⟩ := row_shape o6; have B6 : Below w.heap.size w w6 := (B5.alloc B5.size _).trans (below_grown g6 (made_own w5 _ B5.size) (by rw [size_al]; have := B5.size; omega)); clear g6)
    | (at_builtin; refine wpList_app _ rfl _ _ 37 37 rfl w.heap.size 5 i0 (.int .u8 0) 1 Tryz.underlying37 hi hz0 hz1 hz2 rfl (.slice ao6 l6 c6) kl _ rfl o6 _ mn (M2.map (Value.int .u8)) rfl (SM _ B6) (by unfold maxLen; omega) (by omega) B6.size ?_; clear SM; intro v7 w7 o7 g7 m7; clear m7; obtain ⟨ao7, l7, c7, rfl⟩ := row_shape o7; have B7 : Below w.heap.size w w7 := B6.trans (below_grown g7 o6 B6.size); obtain ⟨hl7, H7, hc7⟩ := HO _ _ _ _ _ _ o7; clear hl7 HO g7 o6 o7)
    | (go_at_call 21; refine (D2 _ _ _ _ B7 H7 hc7).mono ?_; clear D2; rintro e w8 ⟨p8, rfl, f8, b8⟩; have B8 := B7.trans (b8.mono B7.size); clear H7)
    | (go_at_call 15; refine (F2 _ _ B8 f8).mono ?_; clear F2; rintro e w9 ⟨rfl, b9⟩; have B9 := B8.trans (b9.mono B8.size))
  )
  go_ret
  exact ⟨rfl, B9⟩
set_option maxHeartbeats 2000000 in
theorem whole_1111 (ad md : Option Addr) (cp mn mc : Nat) (X : List Sp) (P : Nat → Pl) (M : List Int) (z : Int) (k : Nat) (w : World) (hX : SpsAt w ad X.length X P) (hS : ∀ a ∈ X, a.Small) (hF : ∀ a ∈ X, a.Fits) (hT : Tabs w) (hE : ErrT w) (ho : EncOk X) (hM : Holds w md mn M) (hMb : ∀ x ∈ M, 0 ≤ x ∧ x < 256) (hmc : mn ≤ mc)
    (h0 : -9223372036854775808 ≤ z) (h1 : z ≤ 9223372036854775807) (hz : pickI z (encB X).length = k) (hk : k < (encB X).length) (hk3 : k < 3) (hml : 65537 < mn) :
    Calls Tryz.prog 8 #[.slice ad X.length cp, .int .i64 z, .slice md mn mc] w fun e w' => e = .returned (.bool true) ∧ Below w.heap.size w w' := by
  have S := shown_any w hT
  have EN := fun W (b : Below w.heap.size w W) => encode_ok ad cp X P W (hX.below b) hS (hT.below b) ho.1 hF ho.2.1 ho.2.2
  have PK := fun W => pick_any z (encB X).length h0 h1 (by omega) (by have := ho.2.2; omega) W
  rw [hz] at PK
  obtain ⟨a1, n1, hd1, hn1, hc1⟩ := cutErr ho hF k hk
  obtain ⟨rfl, rfl⟩ : a1 = 0 ∧ n1 = 52 := by omega
  have hby := ho.byt hF
  have D1 := fun W q (b : Below w.heap.size w W) (r : RowAt W q (encB X)) => decode_bad (some ⟨q, 0, none⟩) k (encB X).length ((encB X).take k) 0 52 W (r.holds.take k (by omega)) (fun x hx => hby x (List.mem_of_mem_take hx)) (by omega) (hT.below b) (hE.below b) hd1
  have F1 := fun W p (b : Below w.heap.size w W) (f : IsF W p (0 : Nat) (52 : Nat)) => fault_hit p 0 52 W f (hE.below b) (by omega)
  obtain ⟨mL, hmL⟩ : ∃ m : Nat, m = 65537 := ⟨_, rfl⟩
  have hMl := hM.len
  have hM2 : Holds w md mL (M.take mL) := hM.take mL (by omega)
  have hMl2 : (M.take mL).length = mL := hM2.len
  obtain ⟨a2, n2, hd2, hn2, hc2⟩ := moreErr ho hF (M.take mL) (by omega)
  rw [hMl2] at hc2
  obtain ⟨rfl, rfl⟩ : a2 = 0 ∧ n2 = 51 := by omega
  have hby2 : ∀ x ∈ encB X ++ M.take mL, 0 ≤ x ∧ x < 256 := fun x hx => (List.mem_append.1 hx).elim (hby x) (fun h => hMb x (List.mem_of_mem_take h))
  have D2 := fun W ao n c (b : Below w.heap.size w W) (r : Holds W ao n (encB X ++ M.take mL)) (hc : n ≤ c) => decode_bad ao n c (encB X ++ M.take mL) 0 51 W r hby2 hc (hT.below b) (hE.below b) hd2
  have F2 := fun W p (b : Below w.heap.size w W) (f : IsF W p (0 : Nat) (51 : Nat)) => fault_hit p (0) 51 W f (hE.below b) (by omega)
  have SM := fun W (b : Below w.heap.size w W) => holds_src (holds_below hM2 b) mc
  have SK : ∀ (W : World) (q : Nat), RowAt W q (encB X) → Src Tryz.prog 1 37 (.slice (some ⟨q, 0, none⟩) (encB X).length (encB X).length) (encB X).length ((encB X).map (Value.int .u8)) W := fun W q r => holds_src r.holds _
  have HO : ∀ (W : World) (b : Nat) (ao : Option Addr) (n c m : Nat), W.ownsRow b 5 1 (.slice ao n c) m ((encB X).map (Value.int .u8) ++ (M.take mL).map (Value.int .u8)) → n = (encB X).length + mL ∧ Holds W ao n (encB X ++ M.take mL) ∧ n ≤ c := by
    intro W b ao n c m h
    have hl := own_len h
    have hm2 : m = (encB X).length + mL := by
      have := h.1
      simp at this
      omega
    subst hm2
    refine ⟨hl, Holds.ofRow (base := b) (cap := c) ?_, ?_⟩
    · rw [List.length_append, hMl2, List.map_append]; rw [hl] at h ⊢; exact h
    · obtain ⟨g, cap, ev, h5, _⟩ := own_some2 h (by omega)
      simp only [Value.slice.injEq] at ev
      omega
  obtain ⟨i0, hi, hz0, hz1, hz2⟩ := info_parts Tryz.info5
  have hkl : (encB X).length ≤ 65536 := ho.2.2
  have k2 : decide ((k : Int) < 3) = true := decide_eq_true (by omega)
  have k2i : (k : Int) < 3 := by omega
  have k5 : ¬ ((mn : Int) = 0) := by omega
  have k6 : (65537 : Int) < (mn : Int) := by omega
  have k7 : (65536 : Int) < ((encB X).length : Int) + (mL : Nat) := by omega
  have k8 : (65537 : Int) ≤ (mc : Int) := by omega
  have k9 : mL ≤ 100000 := by omega
  have HML : Hid (mL = 65537) := hmL
  clear hml hmc hMl hmL
  clear ho hS hF hT hX hE hby hz
  clear hby2 hM2 hd1 hd2 hc1 hc2 hMb hM
  generalize M.take mL = M2 at *
  generalize encB X = K at *
  generalize hkl2 : K.length = kl at *
  generalize X.length = ln at *
  go_enter Tryz.func8, Tryz.ntmps8
  go_wp2_with (first
    | (go_at_call 9; refine S.mono ?_; clear S; rintro e w1 ⟨rfl, b1⟩)
    | (go_at_call 13; refine (EN _ b1).mono ?_; clear EN; rintro e w2 ⟨q, rfl, r2, hq, b2⟩; have B2 := b1.trans (b2.mono b1.size))
    | (go_at_call 27; refine (PK _).mono ?_; clear PK; rintro e w3 ⟨rfl, hw⟩; obtain rfl := hw.symm)
    | (go_at_call 21; refine (D1 _ _ B2 r2).mono ?_; clear D1; rintro e w4 ⟨p4, rfl, f4, b4⟩; have B4 := B2.trans (b4.mono B2.size); have r4 : RowAt w4 q K := (b4.block q (lt_of_block r2)).trans r2)
    | (go_at_call 15; refine (F1 _ _ B4 f4).mono ?_; clear F1; rintro e w5 ⟨rfl, b5⟩; have B5 := B4.trans (b5.mono B4.size); have r5 : RowAt w5 q K := (b5.block q (lt_of_block r4)).trans r4)
    | (at_builtin; rw [← HML.out]; clear HML; refine wpList_app _ rfl _ _ 37 37 rfl w.heap.size 5 i0 (.int .u8 0) 1 Tryz.underlying37 hi hz0 hz1 hz2 rfl (.slice (some ⟨w5.heap.size, 0, none⟩) 0 0) 0 [] rfl (made_own w5 _ B5.size) _ kl (K.map (Value.int .u8)) rfl (SK _ _ (r5.upd ((Upd.refl (fun _ => False) _).alloc _) (fun h => h))) (by unfold maxLen; omega) (by omega) (by rw [size_al]; have := B5.size; omega) ?_; clear SK; intro v6 w6 o6 g6 m6; clear m6; rw [List.nil_append, Nat.zero_add] at o6; obtain ⟨ao6, l6, c6, rfl⟩ := row_shape o6; have B6 : Below w.heap.size w w6 := (B5.alloc B5.size _).trans (below_grown g6 (made_own w5 _ B5.size) (by rw [size_al]; have := B5.size; omega)); clear g6)
    | (at_builtin; refine wpList_app _ rfl _ _ 37 37 rfl w.heap.size 5 i0 (.int .u8 0) 1 Tryz.underlying37 hi hz0 hz1 hz2 rfl (.slice ao6 l6 c6) kl _ rfl o6 _ mL (M2.map (Value.int .u8)) rfl (SM _ B6) (by unfold maxLen; omega) (by omega) B6.size ?_; clear SM; intro v7 w7 o7 g7 m7; clear m7; obtain ⟨ao7, l7, c7, rfl⟩ := row_shape o7; have B7 : Below w.heap.size w w7 := B6.trans (below_grown g7 o6 B6.size); obtain ⟨hl7, H7, hc7⟩ := HO _ _ _ _ _ _ o7; clear hl7 HO g7 o6 o7)
    | (go_at_call 21; refine (D2 _ _ _ _ B7 H7 hc7).mono ?_; clear D2; rintro e w8 ⟨p8, rfl, f8, b8⟩; have B8 := B7.trans (b8.mono B7.size); clear H7)
    | (go_at_call 15; refine (F2 _ _ B8 f8).mono ?_; clear F2; rintro e w9 ⟨rfl, b9⟩; have B9 := B8.trans (b9.mono B8.size))
  )
  go_ret
  exact ⟨rfl, B9⟩
set_option maxHeartbeats 2000000 in
theorem whole_0000 (ad md : Option Addr) (cp mn mc : Nat) (X : List Sp) (P : Nat → Pl) (z : Int) (k : Nat) (w : World) (hX : SpsAt w ad X.length X P) (hS : ∀ a ∈ X, a.Small) (hF : ∀ a ∈ X, a.Fits) (hT : Tabs w) (hE : ErrT w) (ho : EncOk X) 
    (h0 : -9223372036854775808 ≤ z) (h1 : z ≤ 9223372036854775807) (hz : pickI z (encB X).length = k) (hk : k < (encB X).length) (hk3 : 3 ≤ k) (hm0 : mn = 0) :
    Calls Tryz.prog 8 #[.slice ad X.length cp, .int .i64 z, .slice md mn mc] w fun e w' => e = .returned (.bool true) ∧ Below w.heap.size w w' := by
  have S := shown_any w hT
  have EN := fun W (b : Below w.heap.size w W) => encode_ok ad cp X P W (hX.below b) hS (hT.below b) ho.1 hF ho.2.1 ho.2.2
  have PK := fun W => pick_any z (encB X).length h0 h1 (by omega) (by have := ho.2.2; omega) W
  rw [hz] at PK
  obtain ⟨a1, n1, hd1, hn1, hc1⟩ := cutErr ho hF k hk
  obtain ⟨rfl, rfl⟩ : k = a1 ∧ 11 = n1 := by omega
  have hby := ho.byt hF
  have D1 := fun W q (b : Below w.heap.size w W) (r : RowAt W q (encB X)) => decode_bad (some ⟨q, 0, none⟩) k (encB X).length ((encB X).take k) k 11 W (r.holds.take k (by omega)) (fun x hx => hby x (List.mem_of_mem_take hx)) (by omega) (hT.below b) (hE.below b) hd1
  have F1 := fun W p (b : Below w.heap.size w W) (f : IsF W p (k : Nat) (11 : Nat)) => fault_hit p k 11 W f (hE.below b) (by omega)
  have k2 : decide ((k : Int) < 3) = false := decide_eq_false (by omega)
  have k2i : ¬ ((k : Int) < 3) := by omega
  have k5 : (mn : Int) = 0 := by omega
  clear ho hS hF hT hX hE hby hz
  clear hd1 hc1
  generalize encB X = K at *
  generalize hkl2 : K.length = kl at *
  generalize X.length = ln at *
  go_enter Tryz.func8, Tryz.ntmps8
  go_wp2_with (first
    | (go_at_call 9; refine S.mono ?_; clear S; rintro e w1 ⟨rfl, b1⟩)
    | (go_at_call 13; refine (EN _ b1).mono ?_; clear EN; rintro e w2 ⟨q, rfl, r2, hq, b2⟩; have B2 := b1.trans (b2.mono b1.size))
    | (go_at_call 27; refine (PK _).mono ?_; clear PK; rintro e w3 ⟨rfl, hw⟩; obtain rfl := hw.symm)
    | (go_at_call 21; refine (D1 _ _ B2 r2).mono ?_; clear D1; rintro e w4 ⟨p4, rfl, f4, b4⟩; have B4 := B2.trans (b4.mono B2.size); have r4 : RowAt w4 q K := (b4.block q (lt_of_block r2)).trans r2)
    | (go_at_call 15; refine (F1 _ _ B4 f4).mono ?_; clear F1; rintro e w5 ⟨rfl, b5⟩; have B5 := B4.trans (b5.mono B4.size); have r5 : RowAt w5 q K := (b5.block q (lt_of_block r4)).trans r4)
  )
  go_ret
  exact ⟨rfl, B5⟩
set_option maxHeartbeats 2000000 in
theorem whole_0100 (ad md : Option Addr) (cp mn mc : Nat) (X : List Sp) (P : Nat → Pl) (M : List Int) (z : Int) (k : Nat) (w : World) (hX : SpsAt w ad X.length X P) (hS : ∀ a ∈ X, a.Small) (hF : ∀ a ∈ X, a.Fits) (hT : Tabs w) (hE : ErrT w) (ho : EncOk X) (hM : Holds w md mn M) (hMb : ∀ x ∈ M, 0 ≤ x ∧ x < 256)
    (h0 : -9223372036854775808 ≤ z) (h1 : z ≤ 9223372036854775807) (hz : pickI z (encB X).length = k) (hk : k < (encB X).length) (hk3 : 3 ≤ k) (hm0 : 0 < mn) (hml : mn ≤ 65537) (hov : (encB X).length + mn ≤ 65536) :
    Calls Tryz.prog 8 #[.slice ad X.length cp, .int .i64 z, .slice md mn mc] w fun e w' => e = .returned (.bool true) ∧ Below w.heap.size w w' := by
  have S := shown_any w hT
  have EN := fun W (b : Below w.heap.size w W) => encode_ok ad cp X P W (hX.below b) hS (hT.below b) ho.1 hF ho.2.1 ho.2.2
  have PK := fun W => pick_any z (encB X).length h0 h1 (by omega) (by have := ho.2.2; omega) W
  rw [hz] at PK
  obtain ⟨a1, n1, hd1, hn1, hc1⟩ := cutErr ho hF k hk
  obtain ⟨rfl, rfl⟩ : k = a1 ∧ 11 = n1 := by omega
  have hby := ho.byt hF
  have D1 := fun W q (b : Below w.heap.size w W) (r : RowAt W q (encB X)) => decode_bad (some ⟨q, 0, none⟩) k (encB X).length ((encB X).take k) k 11 W (r.holds.take k (by omega)) (fun x hx => hby x (List.mem_of_mem_take hx)) (by omega) (hT.below b) (hE.below b) hd1
  have F1 := fun W p (b : Below w.heap.size w W) (f : IsF W p (k : Nat) (11 : Nat)) => fault_hit p k 11 W f (hE.below b) (by omega)
  have hMl := hM.len
  have hM2 : Holds w md mn (M.take mn) := hM.take mn (by omega)
  have hMl2 : (M.take mn).length = mn := hM2.len
  obtain ⟨a2, n2, hd2, hn2, hc2⟩ := moreErr ho hF (M.take mn) (by omega)
  rw [hMl2] at hc2
  obtain ⟨rfl, rfl⟩ : a2 = (encB X).length ∧ n2 = 15 := by omega
  have hby2 : ∀ x ∈ encB X ++ M.take mn, 0 ≤ x ∧ x < 256 := fun x hx => (List.mem_append.1 hx).elim (hby x) (fun h => hMb x (List.mem_of_mem_take h))
  have D2 := fun W ao n c (b : Below w.heap.size w W) (r : Holds W ao n (encB X ++ M.take mn)) (hc : n ≤ c) => decode_bad ao n c (encB X ++ M.take mn) (encB X).length 15 W r hby2 hc (hT.below b) (hE.below b) hd2
  have F2 := fun W p (b : Below w.heap.size w W) (f : IsF W p ((encB X).length : Nat) (15 : Nat)) => fault_hit p ((encB X).length) 15 W f (hE.below b) (by omega)
  have SM := fun W (b : Below w.heap.size w W) => holds_src (holds_below hM2 b) mc
  have SK : ∀ (W : World) (q : Nat), RowAt W q (encB X) → Src Tryz.prog 1 37 (.slice (some ⟨q, 0, none⟩) (encB X).length (encB X).length) (encB X).length ((encB X).map (Value.int .u8)) W := fun W q r => holds_src r.holds _
  have HO : ∀ (W : World) (b : Nat) (ao : Option Addr) (n c m : Nat), W.ownsRow b 5 1 (.slice ao n c) m ((encB X).map (Value.int .u8) ++ (M.take mn).map (Value.int .u8)) → n = (encB X).length + mn ∧ Holds W ao n (encB X ++ M.take mn) ∧ n ≤ c := by
    intro W b ao n c m h
    have hl := own_len h
    have hm2 : m = (encB X).length + mn := by
      have := h.1
      simp at this
      omega
    subst hm2
    refine ⟨hl, Holds.ofRow (base := b) (cap := c) ?_, ?_⟩
    · rw [List.length_append, hMl2, List.map_append]; rw [hl] at h ⊢; exact h
    · obtain ⟨g, cap, ev, h5, _⟩ := own_some2 h (by omega)
      simp only [Value.slice.injEq] at ev
      omega
  obtain ⟨i0, hi, hz0, hz1, hz2⟩ := info_parts Tryz.info5
  have hkl : (encB X).length ≤ 65536 := ho.2.2
  have k2 : decide ((k : Int) < 3) = false := decide_eq_false (by omega)
  have k2i : ¬ ((k : Int) < 3) := by omega
  have k5 : ¬ ((mn : Int) = 0) := by omega
  have k6 : ¬ ((65537 : Int) < (mn : Int)) := by omega
  have k7 : ¬ ((65536 : Int) < ((encB X).length : Int) + (mn : Nat)) := by omega
  clear ho hS hF hT hX hE hby hz
  clear hby2 hM2 hd1 hd2 hc1 hc2 hMb hM
  generalize M.take mn = M2 at *
  generalize encB X = K at *
  generalize hkl2 : K.length = kl at *
  generalize X.length = ln at *
  go_enter Tryz.func8, Tryz.ntmps8
  go_wp2_with (first
    | (go_at_call 9; refine S.mono ?_; clear S; rintro e w1 ⟨rfl, b1⟩)
    | (go_at_call 13; refine (EN _ b1).mono ?_; clear EN; rintro e w2 ⟨q, rfl, r2, hq, b2⟩; have B2 := b1.trans (b2.mono b1.size))
    | (go_at_call 27; refine (PK _).mono ?_; clear PK; rintro e w3 ⟨rfl, hw⟩; obtain rfl := hw.symm)
    | (go_at_call 21; refine (D1 _ _ B2 r2).mono ?_; clear D1; rintro e w4 ⟨p4, rfl, f4, b4⟩; have B4 := B2.trans (b4.mono B2.size); have r4 : RowAt w4 q K := (b4.block q (lt_of_block r2)).trans r2)
    | (go_at_call 15; refine (F1 _ _ B4 f4).mono ?_; clear F1; rintro e w5 ⟨rfl, b5⟩; have B5 := B4.trans (b5.mono B4.size); have r5 : RowAt w5 q K := (b5.block q (lt_of_block r4)).trans r4)
    | (at_builtin; refine wpList_app _ rfl _ _ 37 37 rfl w.heap.size 5 i0 (.int .u8 0) 1 Tryz.underlying37 hi hz0 hz1 hz2 rfl (.slice (some ⟨w5.heap.size, 0, none⟩) 0 0) 0 [] rfl (made_own w5 _ B5.size) _ kl (K.map (Value.int .u8)) rfl (SK _ _ (r5.upd ((Upd.refl (fun _ => False) _).alloc _) (fun h => h))) (by unfold maxLen; omega) (by omega) (by rw [size_al]; have := B5.size; omega) ?_; clear SK; intro v6 w6 o6 g6 m6; clear m6; rw [List.nil_append, Nat.zero_add] at o6; obtain ⟨ao6, l6, c6, rfl⟩ := row_shape o6; have B6 : Below w.heap.size w w6 := (B5.alloc B5.size _).trans (below_grown g6 (made_own w5 _ B5.size) (by rw [size_al]; have := B5.size; omega)); clear g6)
    | (at_builtin; refine wpList_app _ rfl _ _ 37 37 rfl w.heap.size 5 i0 (.int .u8 0) 1 Tryz.underlying37 hi hz0 hz1 hz2 rfl (.slice ao6 l6 c6) kl _ rfl o6 _ mn (M2.map (Value.int .u8)) rfl (SM _ B6) (by unfold maxLen; omega) (by omega) B6.size ?_; clear SM; intro v7 w7 o7 g7 m7; clear m7; obtain ⟨ao7, l7, c7, rfl⟩ := row_shape o7; have B7 : Below w.heap.size w w7 := B6.trans (below_grown g7 o6 B6.size); obtain ⟨hl7, H7, hc7⟩ := HO _ _ _ _ _ _ o7; clear hl7 HO g7 o6 o7)
    | (go_at_call 21; refine (D2 _ _ _ _ B7 H7 hc7).mono ?_; clear D2; rintro e w8 ⟨p8, rfl, f8, b8⟩; have B8 := B7.trans (b8.mono B7.size); clear H7)
    | (go_at_call 15; refine (F2 _ _ B8 f8).mono ?_; clear F2; rintro e w9 ⟨rfl, b9⟩; have B9 := B8.trans (b9.mono B8.size))
  )
  go_ret
  exact ⟨rfl, B9⟩
set_option maxHeartbeats 2000000 in
theorem whole_0101 (ad md : Option Addr) (cp mn mc : Nat) (X : List Sp) (P : Nat → Pl) (M : List Int) (z : Int) (k : Nat) (w : World) (hX : SpsAt w ad X.length X P) (hS : ∀ a ∈ X, a.Small) (hF : ∀ a ∈ X, a.Fits) (hT : Tabs w) (hE : ErrT w) (ho : EncOk X) (hM : Holds w md mn M) (hMb : ∀ x ∈ M, 0 ≤ x ∧ x < 256)
    (h0 : -9223372036854775808 ≤ z) (h1 : z ≤ 9223372036854775807) (hz : pickI z (encB X).length = k) (hk : k < (encB X).length) (hk3 : 3 ≤ k) (hm0 : 0 < mn) (hml : mn ≤ 65537) (hov : 65536 < (encB X).length + mn) :
    Calls Tryz.prog 8 #[.slice ad X.length cp, .int .i64 z, .slice md mn mc] w fun e w' => e = .returned (.bool true) ∧ Below w.heap.size w w' := by
  have S := shown_any w hT
  have EN := fun W (b : Below w.heap.size w W) => encode_ok ad cp X P W (hX.below b) hS (hT.below b) ho.1 hF ho.2.1 ho.2.2
  have PK := fun W => pick_any z (encB X).length h0 h1 (by omega) (by have := ho.2.2; omega) W
  rw [hz] at PK
  obtain ⟨a1, n1, hd1, hn1, hc1⟩ := cutErr ho hF k hk
  obtain ⟨rfl, rfl⟩ : k = a1 ∧ 11 = n1 := by omega
  have hby := ho.byt hF
  have D1 := fun W q (b : Below w.heap.size w W) (r : RowAt W q (encB X)) => decode_bad (some ⟨q, 0, none⟩) k (encB X).length ((encB X).take k) k 11 W (r.holds.take k (by omega)) (fun x hx => hby x (List.mem_of_mem_take hx)) (by omega) (hT.below b) (hE.below b) hd1
  have F1 := fun W p (b : Below w.heap.size w W) (f : IsF W p (k : Nat) (11 : Nat)) => fault_hit p k 11 W f (hE.below b) (by omega)
  have hMl := hM.len
  have hM2 : Holds w md mn (M.take mn) := hM.take mn (by omega)
  have hMl2 : (M.take mn).length = mn := hM2.len
  obtain ⟨a2, n2, hd2, hn2, hc2⟩ := moreErr ho hF (M.take mn) (by omega)
  rw [hMl2] at hc2
  obtain ⟨rfl, rfl⟩ : a2 = 0 ∧ n2 = 51 := by omega
  have hby2 : ∀ x ∈ encB X ++ M.take mn, 0 ≤ x ∧ x < 256 := fun x hx => (List.mem_append.1 hx).elim (hby x) (fun h => hMb x (List.mem_of_mem_take h))
  have D2 := fun W ao n c (b : Below w.heap.size w W) (r : Holds W ao n (encB X ++ M.take mn)) (hc : n ≤ c) => decode_bad ao n c (encB X ++ M.take mn) 0 51 W r hby2 hc (hT.below b) (hE.below b) hd2
  have F2 := fun W p (b : Below w.heap.size w W) (f : IsF W p (0 : Nat) (51 : Nat)) => fault_hit p (0) 51 W f (hE.below b) (by omega)
  have SM := fun W (b : Below w.heap.size w W) => holds_src (holds_below hM2 b) mc
  have SK : ∀ (W : World) (q : Nat), RowAt W q (encB X) → Src Tryz.prog 1 37 (.slice (some ⟨q, 0, none⟩) (encB X).length (encB X).length) (encB X).length ((encB X).map (Value.int .u8)) W := fun W q r => holds_src r.holds _
  have HO : ∀ (W : World) (b : Nat) (ao : Option Addr) (n c m : Nat), W.ownsRow b 5 1 (.slice ao n c) m ((encB X).map (Value.int .u8) ++ (M.take mn).map (Value.int .u8)) → n = (encB X).length + mn ∧ Holds W ao n (encB X ++ M.take mn) ∧ n ≤ c := by
    intro W b ao n c m h
    have hl := own_len h
    have hm2 : m = (encB X).length + mn := by
      have := h.1
      simp at this
      omega
    subst hm2
    refine ⟨hl, Holds.ofRow (base := b) (cap := c) ?_, ?_⟩
    · rw [List.length_append, hMl2, List.map_append]; rw [hl] at h ⊢; exact h
    · obtain ⟨g, cap, ev, h5, _⟩ := own_some2 h (by omega)
      simp only [Value.slice.injEq] at ev
      omega
  obtain ⟨i0, hi, hz0, hz1, hz2⟩ := info_parts Tryz.info5
  have hkl : (encB X).length ≤ 65536 := ho.2.2
  have k2 : decide ((k : Int) < 3) = false := decide_eq_false (by omega)
  have k2i : ¬ ((k : Int) < 3) := by omega
  have k5 : ¬ ((mn : Int) = 0) := by omega
  have k6 : ¬ ((65537 : Int) < (mn : Int)) := by omega
  have k7 : (65536 : Int) < ((encB X).length : Int) + (mn : Nat) := by omega
  clear ho hS hF hT hX hE hby hz
  clear hby2 hM2 hd1 hd2 hc1 hc2 hMb hM
  generalize M.take mn = M2 at *
  generalize encB X = K at *
  generalize hkl2 : K.length = kl at *
  generalize X.length = ln at *
  go_enter Tryz.func8, Tryz.ntmps8
  go_wp2_with (first
    | (go_at_call 9; refine S.mono ?_; clear S; rintro e w1 ⟨rfl, b1⟩)
    | (go_at_call 13; refine (EN _ b1).mono ?_; clear EN; rintro e w2 ⟨q, rfl, r2, hq, b2⟩; have B2 := b1.trans (b2.mono b1.size))
    | (go_at_call 27; refine (PK _).mono ?_; clear PK; rintro e w3 ⟨rfl, hw⟩; obtain rfl := hw.symm)
    | (go_at_call 21; refine (D1 _ _ B2 r2).mono ?_; clear D1; rintro e w4 ⟨p4, rfl, f4, b4⟩; have B4 := B2.trans (b4.mono B2.size); have r4 : RowAt w4 q K := (b4.block q (lt_of_block r2)).trans r2)
    | (go_at_call 15; refine (F1 _ _ B4 f4).mono ?_; clear F1; rintro e w5 ⟨rfl, b5⟩; have B5 := B4.trans (b5.mono B4.size); have r5 : RowAt w5 q K := (b5.block q (lt_of_block r4)).trans r4)
    | (at_builtin; refine wpList_app _ rfl _ _ 37 37 rfl w.heap.size 5 i0 (.int .u8 0) 1 Tryz.underlying37 hi hz0 hz1 hz2 rfl (.slice (some ⟨w5.heap.size, 0, none⟩) 0 0) 0 [] rfl (made_own w5 _ B5.size) _ kl (K.map (Value.int .u8)) rfl (SK _ _ (r5.upd ((Upd.refl (fun _ => False) _).alloc _) (fun h => h))) (by unfold maxLen; omega) (by omega) (by rw [size_al]; have := B5.size; omega) ?_; clear SK; intro v6 w6 o6 g6 m6; clear m6; rw [List.nil_append, Nat.zero_add] at o6; obtain ⟨ao6, l6, c6, rfl⟩ := row_shape o6; have B6 : Below w.heap.size w w6 := (B5.alloc B5.size _).trans (below_grown g6 (made_own w5 _ B5.size) (by rw [size_al]; have := B5.size; omega)); clear g6)
    | (at_builtin; refine wpList_app _ rfl _ _ 37 37 rfl w.heap.size 5 i0 (.int .u8 0) 1 Tryz.underlying37 hi hz0 hz1 hz2 rfl (.slice ao6 l6 c6) kl _ rfl o6 _ mn (M2.map (Value.int .u8)) rfl (SM _ B6) (by unfold maxLen; omega) (by omega) B6.size ?_; clear SM; intro v7 w7 o7 g7 m7; clear m7; obtain ⟨ao7, l7, c7, rfl⟩ := row_shape o7; have B7 : Below w.heap.size w w7 := B6.trans (below_grown g7 o6 B6.size); obtain ⟨hl7, H7, hc7⟩ := HO _ _ _ _ _ _ o7; clear hl7 HO g7 o6 o7)
    | (go_at_call 21; refine (D2 _ _ _ _ B7 H7 hc7).mono ?_; clear D2; rintro e w8 ⟨p8, rfl, f8, b8⟩; have B8 := B7.trans (b8.mono B7.size); clear H7)
    | (go_at_call 15; refine (F2 _ _ B8 f8).mono ?_; clear F2; rintro e w9 ⟨rfl, b9⟩; have B9 := B8.trans (b9.mono B8.size))
  )
  go_ret
  exact ⟨rfl, B9⟩
set_option maxHeartbeats 2000000 in
theorem whole_0111 (ad md : Option Addr) (cp mn mc : Nat) (X : List Sp) (P : Nat → Pl) (M : List Int) (z : Int) (k : Nat) (w : World) (hX : SpsAt w ad X.length X P) (hS : ∀ a ∈ X, a.Small) (hF : ∀ a ∈ X, a.Fits) (hT : Tabs w) (hE : ErrT w) (ho : EncOk X) (hM : Holds w md mn M) (hMb : ∀ x ∈ M, 0 ≤ x ∧ x < 256) (hmc : mn ≤ mc)
    (h0 : -9223372036854775808 ≤ z) (h1 : z ≤ 9223372036854775807) (hz : pickI z (encB X).length = k) (hk : k < (encB X).length) (hk3 : 3 ≤ k) (hml : 65537 < mn) :
    Calls Tryz.prog 8 #[.slice ad X.length cp, .int .i64 z, .slice md mn mc] w fun e w' => e = .returned (.bool true) ∧ Below w.heap.size w w' := by
  have S := shown_any w hT
  have EN := fun W (b : Below w.heap.size w W) => encode_ok ad cp X P W (hX.below b) hS (hT.below b) ho.1 hF ho.2.1 ho.2.2
  have PK := fun W => pick_any z (encB X).length h0 h1 (by omega) (by have := ho.2.2; omega) W
  rw [hz] at PK
  obtain ⟨a1, n1, hd1, hn1, hc1⟩ := cutErr ho hF k hk
  obtain ⟨rfl, rfl⟩ : k = a1 ∧ 11 = n1 := by omega
  have hby := ho.byt hF
  have D1 := fun W q (b : Below w.heap.size w W) (r : RowAt W q (encB X)) => decode_bad (some ⟨q, 0, none⟩) k (encB X).length ((encB X).take k) k 11 W (r.holds.take k (by omega)) (fun x hx => hby x (List.mem_of_mem_take hx)) (by omega) (hT.below b) (hE.below b) hd1
  have F1 := fun W p (b : Below w.heap.size w W) (f : IsF W p (k : Nat) (11 : Nat)) => fault_hit p k 11 W f (hE.below b) (by omega)
  obtain ⟨mL, hmL⟩ : ∃ m : Nat, m = 65537 := ⟨_, rfl⟩
  have hMl := hM.len
  have hM2 : Holds w md mL (M.take mL) := hM.take mL (by omega)
  have hMl2 : (M.take mL).length = mL := hM2.len
  obtain ⟨a2, n2, hd2, hn2, hc2⟩ := moreErr ho hF (M.take mL) (by omega)
  rw [hMl2] at hc2
  obtain ⟨rfl, rfl⟩ : a2 = 0 ∧ n2 = 51 := by omega
  have hby2 : ∀ x ∈ encB X ++ M.take mL, 0 ≤ x ∧ x < 256 := fun x hx => (List.mem_append.1 hx).elim (hby x) (fun h => hMb x (List.mem_of_mem_take h))
  have D2 := fun W ao n c (b : Below w.heap.size w W) (r : Holds W ao n (encB X ++ M.take mL)) (hc : n ≤ c) => decode_bad ao n c (encB X ++ M.take mL) 0 51 W r hby2 hc (hT.below b) (hE.below b) hd2
  have F2 := fun W p (b : Below w.heap.size w W) (f : IsF W p (0 : Nat) (51 : Nat)) => fault_hit p (0) 51 W f (hE.below b) (by omega)
  have SM := fun W (b : Below w.heap.size w W) => holds_src (holds_below hM2 b) mc
  have SK : ∀ (W : World) (q : Nat), RowAt W q (encB X) → Src Tryz.prog 1 37 (.slice (some ⟨q, 0, none⟩) (encB X).length (encB X).length) (encB X).length ((encB X).map (Value.int .u8)) W := fun W q r => holds_src r.holds _
  have HO : ∀ (W : World) (b : Nat) (ao : Option Addr) (n c m : Nat), W.ownsRow b 5 1 (.slice ao n c) m ((encB X).map (Value.int .u8) ++ (M.take mL).map (Value.int .u8)) → n = (encB X).length + mL ∧ Holds W ao n (encB X ++ M.take mL) ∧ n ≤ c := by
    intro W b ao n c m h
    have hl := own_len h
    have hm2 : m = (encB X).length + mL := by
      have := h.1
      simp at this
      omega
    subst hm2
    refine ⟨hl, Holds.ofRow (base := b) (cap := c) ?_, ?_⟩
    · rw [List.length_append, hMl2, List.map_append]; rw [hl] at h ⊢; exact h
    · obtain ⟨g, cap, ev, h5, _⟩ := own_some2 h (by omega)
      simp only [Value.slice.injEq] at ev
      omega
  obtain ⟨i0, hi, hz0, hz1, hz2⟩ := info_parts Tryz.info5
  have hkl : (encB X).length ≤ 65536 := ho.2.2
  have k2 : decide ((k : Int) < 3) = false := decide_eq_false (by omega)
  have k2i : ¬ ((k : Int) < 3) := by omega
  have k5 : ¬ ((mn : Int) = 0) := by omega
  have k6 : (65537 : Int) < (mn : Int) := by omega
  have k7 : (65536 : Int) < ((encB X).length : Int) + (mL : Nat) := by omega
  have k8 : (65537 : Int) ≤ (mc : Int) := by omega
  have k9 : mL ≤ 100000 := by omega
  have HML : Hid (mL = 65537) := hmL
  clear hml hmc hMl hmL
  clear ho hS hF hT hX hE hby hz
  clear hby2 hM2 hd1 hd2 hc1 hc2 hMb hM
  generalize M.take mL = M2 at *
  generalize encB X = K at *
  generalize hkl2 : K.length = kl at *
  generalize X.length = ln at *
  go_enter Tryz.func8, Tryz.ntmps8
  go_wp2_with (first
    | (go_at_call 9; refine S.mono ?_; clear S; rintro e w1 ⟨rfl, b1⟩)
    | (go_at_call 13; refine (EN _ b1).mono ?_; clear EN; rintro e w2 ⟨q, rfl, r2, hq, b2⟩; have B2 := b1.trans (b2.mono b1.size))
    | (go_at_call 27; refine (PK _).mono ?_; clear PK; rintro e w3 ⟨rfl, hw⟩; obtain rfl := hw.symm)
    | (go_at_call 21; refine (D1 _ _ B2 r2).mono ?_; clear D1; rintro e w4 ⟨p4, rfl, f4, b4⟩; have B4 := B2.trans (b4.mono B2.size); have r4 : RowAt w4 q K := (b4.block q (lt_of_block r2)).trans r2)
    | (go_at_call 15; refine (F1 _ _ B4 f4).mono ?_; clear F1; rintro e w5 ⟨rfl, b5⟩; have B5 := B4.trans (b5.mono B4.size); have r5 : RowAt w5 q K := (b5.block q (lt_of_block r4)).trans r4)
    | (at_builtin; rw [← HML.out]; clear HML; refine wpList_app _ rfl _ _ 37 37 rfl w.heap.size 5 i0 (.int .u8 0) 1 Tryz.underlying37 hi hz0 hz1 hz2 rfl (.slice (some ⟨w5.heap.size, 0, none⟩) 0 0) 0 [] rfl (made_own w5 _ B5.size) _ kl (K.map (Value.int .u8)) rfl (SK _ _ (r5.upd ((Upd.refl (fun _ => False) _).alloc _) (fun h => h))) (by unfold maxLen; omega) (by omega) (by rw [size_al]; have := B5.size; omega) ?_; clear SK; intro v6 w6 o6 g6 m6; clear m6; rw [List.nil_append, Nat.zero_add] at o6; obtain ⟨ao6, l6, c6, rfl⟩ := row_shape o6; have B6 : Below w.heap.size w w6 := (B5.alloc B5.size _).trans (below_grown g6 (made_own w5 _ B5.size) (by rw [size_al]; have := B5.size; omega)); clear g6)
    | (at_builtin; refine wpList_app _ rfl _ _ 37 37 rfl w.heap.size 5 i0 (.int .u8 0) 1 Tryz.underlying37 hi hz0 hz1 hz2 rfl (.slice ao6 l6 c6) kl _ rfl o6 _ mL (M2.map (Value.int .u8)) rfl (SM _ B6) (by unfold maxLen; omega) (by omega) B6.size ?_; clear SM; intro v7 w7 o7 g7 m7; clear m7; obtain ⟨ao7, l7, c7, rfl⟩ := row_shape o7; have B7 : Below w.heap.size w w7 := B6.trans (below_grown g7 o6 B6.size); obtain ⟨hl7, H7, hc7⟩ := HO _ _ _ _ _ _ o7; clear hl7 HO g7 o6 o7)
    | (go_at_call 21; refine (D2 _ _ _ _ B7 H7 hc7).mono ?_; clear D2; rintro e w8 ⟨p8, rfl, f8, b8⟩; have B8 := B7.trans (b8.mono B7.size); clear H7)
    | (go_at_call 15; refine (F2 _ _ B8 f8).mono ?_; clear F2; rintro e w9 ⟨rfl, b9⟩; have B9 := B8.trans (b9.mono B8.size))
  )
  go_ret
  exact ⟨rfl, B9⟩
set_option maxHeartbeats 1000000 in
theorem whole_no (ad md : Option Addr) (cp mn mc : Nat) (X : List Sp) (P : Nat → Pl) (z : Int) (w : World) (hX : SpsAt w ad X.length X P) (hS : ∀ a ∈ X, a.Small) (hF : ∀ a ∈ X, a.Fits) (hT : Tabs w) (hE : ErrT w) (ho : ¬ EncOk X) :
    Calls Tryz.prog 8 #[.slice ad X.length cp, .int .i64 z, .slice md mn mc] w fun e w' => e = .returned (.bool true) ∧ Below w.heap.size w w' := by
  have S := shown_any w hT
  have EN := fun W (b : Below w.heap.size w W) => encode_no ad cp X P W (hX.below b) hS hF (hT.below b) (hE.below b) ho
  clear ho hS hF hT hX hE
  generalize X.length = ln at *
  go_enter Tryz.func8, Tryz.ntmps8
  go_wp2_with (first
    | (go_at_call 9; refine S.mono ?_; clear S; rintro e w1 ⟨rfl, b1⟩)
    | (go_at_call 13; refine (EN _ b1).mono ?_; clear EN; rintro e w2 ⟨p, rfl, b2⟩; have B2 := b1.trans (b2.mono b1.size))
  )
  go_ret
  exact ⟨rfl, B2⟩
theorem bwhole_any (ad md : Option Addr) (cp mn mc : Nat) (X : List Sp) (P : Nat → Pl) (M : List Int) (z : Int) (w : World) (hX : SpsAt w ad X.length X P) (hS : ∀ a ∈ X, a.Small) (hF : ∀ a ∈ X, a.Fits) (hT : Tabs w) (hE : ErrT w) (hM : Holds w md mn M) (hMb : ∀ x ∈ M, 0 ≤ x ∧ x < 256) (hmc : mn ≤ mc)
    (h0 : -9223372036854775808 ≤ z) (h1 : z ≤ 9223372036854775807) :
    Calls Tryz.prog 8 #[.slice ad X.length cp, .int .i64 z, .slice md mn mc] w fun e w' => e = .returned (.bool true) ∧ Below w.heap.size w w' := by
  by_cases ho : EncOk X
  · have hp : 3 ≤ (encB X).length := by obtain ⟨r, hr⟩ := enc_head X; rw [hr]; simp [headL]
    have p0 := pick_lo z (encB X).length (by omega)
    have p1 := pick_hi z (encB X).length (by omega)
    obtain ⟨k, hz⟩ : ∃ k : Nat, pickI z (encB X).length = k := ⟨(pickI z (encB X).length).toNat, by omega⟩
    have hk : k < (encB X).length := by omega
    have hkl := ho.2.2
    by_cases c0 : k < 3 <;> by_cases c1 : mn = 0
    · exact whole_1000 ad md cp mn mc X P z k w hX hS hF hT hE ho h0 h1 hz hk (by omega) c1
    · by_cases c2 : 65537 < mn
      · exact whole_1111 ad md cp mn mc X P M z k w hX hS hF hT hE ho hM hMb hmc h0 h1 hz hk (by omega) c2
      · by_cases c3 : 65536 < (encB X).length + mn
        · exact whole_1101 ad md cp mn mc X P M z k w hX hS hF hT hE ho hM hMb h0 h1 hz hk (by omega) (by omega) (by omega) c3
        · exact whole_1100 ad md cp mn mc X P M z k w hX hS hF hT hE ho hM hMb h0 h1 hz hk (by omega) (by omega) (by omega) (by omega)
    · exact whole_0000 ad md cp mn mc X P z k w hX hS hF hT hE ho h0 h1 hz hk (by omega) c1
    · by_cases c2 : 65537 < mn
      · exact whole_0111 ad md cp mn mc X P M z k w hX hS hF hT hE ho hM hMb hmc h0 h1 hz hk (by omega) c2
      · by_cases c3 : 65536 < (encB X).length + mn
        · exact whole_0101 ad md cp mn mc X P M z k w hX hS hF hT hE ho hM hMb h0 h1 hz hk (by omega) (by omega) (by omega) c3
        · exact whole_0100 ad md cp mn mc X P M z k w hX hS hF hT hE ho hM hMb h0 h1 hz hk (by omega) (by omega) (by omega) (by omega)
  · exact whole_no ad md cp mn mc X P z w hX hS hF hT hE ho
end Go.Proofs.YthcghpbkadlliaaGreatDoor
