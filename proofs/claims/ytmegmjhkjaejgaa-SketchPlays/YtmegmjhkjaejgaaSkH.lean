/-
  Contracts of layer 13: checkBoth, Add, Merge, Less.
-/
import Derived.Test.YtmegmjhkjaejgaaSkG
import Derived.Deep.WholeRow
namespace Go.Proofs.Ytmegmjhkjaejgaa.sk
open Go.RowKit
set_option maxRecDepth 100000

theorem Bin.bars {f : Nat → Nat} (hf : ∀ j, f j ≤ topC) : Bin (barsF f) := by
  intro b hb
  obtain ⟨i, h1, rfl, h2⟩ := barsN_mem hb
  have := hf i
  rw [topC_eq] at this
  simp only
  omega
theorem barsF_len (f : Nat → Nat) : (barsF f).length ≤ 1920 := barsN_le f 1920
theorem cntF_le {l : List (Int × Int)} (hi : Bin l) : ∀ j, cntF l j ≤ topC := by
  intro j
  induction l with
  | nil => exact Nat.zero_le _
  | cons b l ih =>
    rw [cntF_cons]
    split
    · have := hi b (List.mem_cons_self ..)
      rw [topC_eq]
      omega
    · exact ih fun y hy => hi y (List.mem_cons_of_mem _ hy)
/-- What a call that makes a sketch tells: the sketch of this function, as its own, or nothing and a number. -/
def MadeP (r : Option (Nat → Nat)) (err : Int) (w : World) (e : Ending) (w' : World) : Prop :=
  Below w.heap.size w w' ∧ match r with
    | some f => ∃ v, e = .returned (.tuple #[v, .int .i64 0]) ∧ OwnBar w.heap.size w' v (barsF f)
    | none => e = .returned (.tuple #[.slice none 0 0, .int .i64 err])
def addF (l : List (Int × Int)) (v t : Nat) : Nat → Nat := putF (cntF l) (idxN v) t
def mergeF (a b : List (Int × Int)) : Nat → Nat := fun i => min (cntF a i + cntF b i) topC
def lessF (a b : List (Int × Int)) : Nat → Nat := fun i => cntF a i - cntF b i
theorem puts_first {l : List (Int × Int)} (h : chkF (-1) l = true) (hi : Bin l) : putsF (fun _ => 0) l = cntF l := funext fun j => putsF_zero h (fun b hb => (hi b hb).2.2.2) j
theorem chk_in {l : List (Int × Int)} (h : chkF (-1) l = true) : ∀ b ∈ l, 0 ≤ b.1 ∧ b.1 < 1920 ∧ b.2 ≠ 0 := fun b hb => by
  have := (chkF_iff.mp h).1 b hb
  exact ⟨by omega, this.2.1, this.2.2⟩
theorem BarAt.ne {w : World} {ad : Option Addr} {n : Nat} {l : List (Int × Int)} (h : BarAt w ad n l) (hn : 0 < n) : ∀ a, ad = some a → a.block < w.heap.size := by
  obtain ⟨b, off, rfl, hc⟩ := h.lies hn
  rintro a ha
  injection ha with ha
  subst ha
  have := (hc 0 (by rw [h.len]; exact hn)).1
  exact World.block_lt_of_cell? w _ this
theorem BarAt.low {w : World} {ad : Option Addr} {n : Nat} {l : List (Int × Int)} (h : BarAt w ad n l) : ∃ ad', BarAt w ad' n l ∧ (∀ a, ad' = some a → a.block < w.heap.size) := by
  by_cases hn : 0 < n
  · exact ⟨ad, h, h.ne hn⟩
  · obtain rfl : n = 0 := by omega
    have := h.len
    obtain rfl : l = [] := List.eq_nil_of_length_eq_zero this
    exact ⟨none, BarAt.nil w none, fun a h => by cases h⟩
/-- Where a list lies that is read. -/
structure InAt (w : World) (ad : Option Addr) (n : Nat) (l : List (Int × Int)) : Prop where
  at_ : BarAt w ad n l
  lt : ∀ a, ad = some a → 0 < n → a.block < w.heap.size
  len : n ≤ maxLen
  bin : Bin l
theorem InAt.below {w w' : World} {ad : Option Addr} {n : Nat} {l : List (Int × Int)} (h : InAt w ad n l) (hb : Below w.heap.size w w') : InAt w' ad n l :=
  ⟨h.at_.below hb, fun a ha hp => Nat.lt_of_lt_of_le (h.lt a ha hp) hb.size, h.len, h.bin⟩
theorem InAt.upd {S : Nat → Prop} {w w' : World} {ad : Option Addr} {n : Nat} {l : List (Int × Int)} (h : InAt w ad n l) (hu : Upd S w w') (hS : ∀ a, ad = some a → ¬ S a.block) : InAt w' ad n l :=
  ⟨h.at_.upd hu hS, fun a ha hp => Nat.lt_of_lt_of_le (h.lt a ha hp) hu.size, h.len, h.bin⟩
theorem InAt.updN {S : Nat → Prop} {w w' : World} {ad : Option Addr} {n : Nat} {l : List (Int × Int)} (h : InAt w ad n l) (hu : Upd S w w') (hS : ∀ a, ad = some a → 0 < n → ¬ S a.block) : InAt w' ad n l :=
  ⟨h.at_.updN hu hS, fun a ha hp => Nat.lt_of_lt_of_le (h.lt a ha hp) hu.size, h.len, h.bin⟩
theorem InAt.nil (w : World) : InAt w none 0 [] := ⟨BarAt.nil w none, (fun a h => by cases h), Nat.zero_le _, (fun b hb => by cases hb)⟩
theorem InAt.own {base : Nat} {w : World} {v : Value} {f : Nat → Nat} (h : OwnBar base w v (barsF f)) (hf : ∀ j, f j ≤ topC) : ∃ ao c, v = .slice ao (barsF f).length c ∧ InAt w ao (barsF f).length (barsF f) ∧ ∀ a, ao = some a → base ≤ a.block := by
  obtain ⟨ao, c, rfl, hA, hb⟩ := BarAt_of h
  refine ⟨ao, c, rfl, ⟨hA, ?_, ?_, Bin.bars hf⟩, hb⟩
  · rintro a rfl _
    rcases h.2 with ⟨e, _⟩ | ⟨g, cap, cur, e, hg, hh, _⟩
    · simp at e
    · simp at e
      obtain ⟨rfl, _⟩ := e
      exact lt_of_block hh
  · have := barsF_len f
    unfold maxLen
    omega
set_option maxHeartbeats 400000 in
theorem add_no (ad : Option Addr) (n c : Nat) (l : List (Int × Int)) (v t : Nat) (w : World) (hI : InAt w ad n l) (hc : chkF (-1) l = false) :
    Calls Try.prog 10 #[.slice ad n c, .int .u64 (v : Int), .int .u64 (t : Int)] w (MadeP none 131 w) := by
  have K := check_any ad n c l w hI.at_ hI.len hI.bin
  rw [chkE_no hc] at K
  go_enter Try.func10, Try.ntmps10
  go_wp2_with (go_at_call 17; (with_reducible refine K.mono ?_); clear K; rintro e w1 ⟨rfl, b1⟩)
  go_returns
  exact ⟨b1, rfl⟩
set_option maxHeartbeats 1000000 in
theorem add_ok (ad : Option Addr) (n c : Nat) (l : List (Int × Int)) (v t : Nat) (hv : v < 18446744073709551616) (ht : t < 18446744073709551616) (w : World) (hI : InAt w ad n l) (hc : chkF (-1) l = true) :
    Calls Try.prog 10 #[.slice ad n c, .int .u64 (v : Int), .int .u64 (t : Int)] w (MadeP (some (addF l v t)) 0 w) := by
  obtain ⟨hv0, hi0⟩ := zero_of_info Try.info53
  have K := check_any ad n c l w hI.at_ hI.len hI.bin
  rw [chkE_ok hc] at K
  have IX := skIndex v hv
  have HI : Hid _ := hI
  have HC0 : Hid (chkF (-1) l = true) := hc
  have hix : idxN v < 1920 := idxN_lt hv
  clear hI hc
  go_enter Try.func10, Try.ntmps10
  go_wp2_with (go_at_call 17; (with_reducible refine K.mono ?_); clear K; rintro e w1 ⟨rfl, b1⟩)
  have u1 : Upd (fun _ => False) w1 (w1.alloc (.cells zeroC 53)) := (Upd.refl _ w1).alloc _
  have PA : Calls Try.prog 28 #[.pointer (some ⟨w1.heap.size, 0, none⟩), .slice ad n c] (w1.alloc (.cells zeroC 53)) (PutsP w1.heap.size (fun _ => 0) l (w1.alloc (.cells zeroC 53))) := by
    have hI1 := HI.out.below b1
    have hI2 := hI1.upd u1 (fun _ _ h => h)
    exact putAll_any w1.heap.size (fun _ => 0) ad n c l _ hI2.at_ hI2.len hI2.bin (fun b hb => ⟨(chk_in HC0.out b hb).1, (chk_in HC0.out b hb).2.1⟩) (fun a ha hp => Nat.ne_of_lt (hI1.lt a ha hp)) (fun _ => Nat.zero_le _) (CntAt.new w1)
  go_wp2_with (first
    | (go_at_call 28; (with_reducible refine PA.mono ?_); clear PA; rintro e w2 ⟨rfl, h2, u2⟩
       rw [puts_first HC0.out HI.out.bin] at h2
       have PU := put_any _ _ (idxN v) t hix ht (cntF_le HI.out.bin) w2 h2
       have HU2 : Hid _ := u2
       clear h2 u2)
    | (go_at_call 13; (with_reducible refine (IX _).mono ?_); clear IX; rintro e w' ⟨rfl, hw⟩; obtain rfl := hw.symm)
    | (go_at_call 29; (with_reducible refine PU.mono ?_); clear PU; rintro e w3 ⟨rfl, h3, u3⟩
       have BA := bars_any _ _ w3 h3
       have HU3 : Hid _ := u3
       clear h3 u3)
    | (go_at_call 30; (with_reducible refine BA.mono ?_); clear BA; rintro e w4 ⟨v4, rfl, h4, b4⟩
       have H4 : Hid _ := h4
       clear h4
       obtain ⟨a4, l4, c4, rfl⟩ := row_shape H4.out))
  go_returns
  have h12 : w.heap.size ≤ w1.heap.size := b1.size
  have u12 := ((Upd.ofBelow (S := fun k => w.heap.size ≤ k) b1 (fun _ _ h => h)).alloc (.cells zeroC 53)).trans HU2.out (fun i hi h => by show w.heap.size ≤ i; omega)
  have u13 := u12.trans HU3.out (fun i hi h => by show w.heap.size ≤ i; omega)
  have h3s := u13.size
  have u14 := u13.trans (Upd.ofBelow (S := fun k => w.heap.size ≤ k) b4 (fun i _ h => by show w.heap.size ≤ i; omega)) (fun _ _ h => h)
  exact ⟨u14.below (Nat.le_refl _) (fun k hk h => by omega), _, rfl, own_base H4.out h3s⟩
set_option maxHeartbeats 400000 in
theorem both_any (ad bd : Option Addr) (n m ca cb : Nat) (a b : List (Int × Int)) (w : World) (hA : InAt w ad n a) (hB : InAt w bd m b) :
    Calls Try.prog 35 #[.slice ad n ca, .slice bd m cb] w fun e w' => e = .returned (.int .i64 (if (chkF (-1) a && chkF (-1) b) = true then 0 else 131)) ∧ Below w.heap.size w w' := by
  have K := check_any ad n ca a w hA.at_ hA.len hA.bin
  cases ha : chkF (-1) a
  · rw [chkE_no ha] at K
    rw [Bool.false_and]
    rw [if_neg (by decide)]
    go_enter Try.func35, Try.ntmps35
    go_wp2_with (go_at_call 17; (with_reducible refine K.mono ?_); clear K; rintro e w1 ⟨rfl, b1⟩)
    go_ret
    exact ⟨rfl, b1⟩
  · rw [chkE_ok ha] at K
    rw [Bool.true_and]
    have HB : Hid _ := hB
    obtain ⟨E, hE⟩ : ∃ E, chkE b = E := ⟨_, rfl⟩
    have e1 : (if chkF (-1) b = true then (0 : Int) else 131) = E := by rw [← hE]; unfold chkE; rfl
    rw [e1]
    clear e1 hB
    go_enter Try.func35, Try.ntmps35
    go_wp2_with (first
      | (go_at_call 17; (with_reducible refine K.mono ?_); clear K; rintro e w1 ⟨rfl, b1⟩
         have L := check_any bd m cb b w1 (HB.out.below b1).at_ HB.out.len HB.out.bin
         rw [hE] at L
         clear hE)
      | (go_at_call 17; (with_reducible refine L.mono ?_); clear L; rintro e w2 ⟨rfl, b2⟩))
    go_ret
    exact ⟨rfl, b1.trans (b2.mono b1.size)⟩
theorem both_ok (ad bd : Option Addr) (n m ca cb : Nat) (a b : List (Int × Int)) (w : World) (hA : InAt w ad n a) (hB : InAt w bd m b) (ha : chkF (-1) a = true) (hb : chkF (-1) b = true) :
    Calls Try.prog 35 #[.slice ad n ca, .slice bd m cb] w fun e w' => e = .returned (.int .i64 0) ∧ Below w.heap.size w w' := by
  have := both_any ad bd n m ca cb a b w hA hB
  rw [ha, hb, if_pos (by decide)] at this
  exact this
theorem both_no (ad bd : Option Addr) (n m ca cb : Nat) (a b : List (Int × Int)) (w : World) (hA : InAt w ad n a) (hB : InAt w bd m b) (hc : (chkF (-1) a && chkF (-1) b) = false) :
    Calls Try.prog 35 #[.slice ad n ca, .slice bd m cb] w fun e w' => e = .returned (.int .i64 131) ∧ Below w.heap.size w w' := by
  have := both_any ad bd n m ca cb a b w hA hB
  rw [hc, if_neg (by decide)] at this
  exact this
set_option maxHeartbeats 400000 in
theorem merge_no (ad bd : Option Addr) (n m ca cb : Nat) (a b : List (Int × Int)) (w : World) (hA : InAt w ad n a) (hB : InAt w bd m b) (hc : (chkF (-1) a && chkF (-1) b) = false) :
    Calls Try.prog 21 #[.slice ad n ca, .slice bd m cb] w (MadeP none 131 w) := by
  have K := both_no ad bd n m ca cb a b w hA hB hc
  go_enter Try.func21, Try.ntmps21
  go_wp2_with (go_at_call 35; (with_reducible refine K.mono ?_); clear K; rintro e w1 ⟨rfl, b1⟩)
  go_returns
  exact ⟨b1, rfl⟩
set_option maxHeartbeats 400000 in
theorem less_no (ad bd : Option Addr) (n m ca cb : Nat) (a b : List (Int × Int)) (w : World) (hA : InAt w ad n a) (hB : InAt w bd m b) (hc : (chkF (-1) a && chkF (-1) b) = false) :
    Calls Try.prog 23 #[.slice ad n ca, .slice bd m cb] w (MadeP none 131 w) := by
  have K := both_no ad bd n m ca cb a b w hA hB hc
  go_enter Try.func23, Try.ntmps23
  go_wp2_with (go_at_call 35; (with_reducible refine K.mono ?_); clear K; rintro e w1 ⟨rfl, b1⟩)
  go_returns
  exact ⟨b1, rfl⟩
theorem mergeF_puts {a b : List (Int × Int)} (hb : chkF (-1) b = true) (ia : Bin a) : putsF (cntF a) b = mergeF a b := funext fun j => putsF_at (by omega) hb (cntF_le ia) j
set_option maxHeartbeats 1000000 in
theorem merge_ok (ad bd : Option Addr) (n m ca cb : Nat) (a b : List (Int × Int)) (w : World) (hA : InAt w ad n a) (hB : InAt w bd m b) (ha : chkF (-1) a = true) (hb : chkF (-1) b = true) :
    Calls Try.prog 21 #[.slice ad n ca, .slice bd m cb] w (MadeP (some (mergeF a b)) 0 w) := by
  obtain ⟨hv0, hi0⟩ := zero_of_info Try.info53
  have K := both_ok ad bd n m ca cb a b w hA hB ha hb
  have HA : Hid _ := hA
  have HB : Hid _ := hB
  have HCA : Hid (chkF (-1) a = true) := ha
  have HCB : Hid (chkF (-1) b = true) := hb
  clear hA hB ha hb
  go_enter Try.func21, Try.ntmps21
  go_wp2_with (go_at_call 35; (with_reducible refine K.mono ?_); clear K; rintro e w1 ⟨rfl, b1⟩)
  have u1 : Upd (fun _ => False) w1 (w1.alloc (.cells zeroC 53)) := (Upd.refl _ w1).alloc _
  have PA : Calls Try.prog 28 #[.pointer (some ⟨w1.heap.size, 0, none⟩), .slice ad n ca] (w1.alloc (.cells zeroC 53)) (PutsP w1.heap.size (fun _ => 0) a (w1.alloc (.cells zeroC 53))) := by
    have hI1 := HA.out.below b1
    have hI2 := hI1.upd u1 (fun _ _ h => h)
    exact putAll_any w1.heap.size (fun _ => 0) ad n ca a _ hI2.at_ hI2.len hI2.bin (fun b hb => ⟨(chk_in HCA.out b hb).1, (chk_in HCA.out b hb).2.1⟩) (fun a ha hp => Nat.ne_of_lt (hI1.lt a ha hp)) (fun _ => Nat.zero_le _) (CntAt.new w1)
  go_wp2_with (first
    | (go_at_call 28; (with_reducible refine PA.mono ?_); clear PA; rintro e w2 ⟨rfl, h2, u2⟩
       rw [puts_first HCA.out HA.out.bin] at h2
       have hI1 := HB.out.below b1
       have hI2 := (hI1.upd u1 (fun _ _ h => h)).updN u2 (fun a ha hp => Nat.ne_of_lt (hI1.lt a ha hp))
       have PU := putAll_any w1.heap.size (cntF a) bd m cb b _ hI2.at_ hI2.len hI2.bin (fun x hb => ⟨(chk_in HCB.out x hb).1, (chk_in HCB.out x hb).2.1⟩) (fun a ha hp => Nat.ne_of_lt (hI1.lt a ha hp)) (cntF_le HA.out.bin) h2
       have HU2 : Hid _ := u2
       clear h2 u2 hI1 hI2)
    | (go_at_call 28; (with_reducible refine PU.mono ?_); clear PU; rintro e w3 ⟨rfl, h3, u3⟩
       rw [mergeF_puts HCB.out HA.out.bin] at h3
       have BA := bars_any _ _ w3 h3
       have HU3 : Hid _ := u3
       clear h3 u3)
    | (go_at_call 30; (with_reducible refine BA.mono ?_); clear BA; rintro e w4 ⟨v4, rfl, h4, b4⟩
       have H4 : Hid _ := h4
       clear h4
       obtain ⟨a4, l4, c4, rfl⟩ := row_shape H4.out))
  go_returns
  have h12 : w.heap.size ≤ w1.heap.size := b1.size
  have u12 := ((Upd.ofBelow (S := fun k => w.heap.size ≤ k) b1 (fun _ _ h => h)).alloc (.cells zeroC 53)).trans HU2.out (fun i hi h => by show w.heap.size ≤ i; omega)
  have u13 := u12.trans HU3.out (fun i hi h => by show w.heap.size ≤ i; omega)
  have h3s := u13.size
  have u14 := u13.trans (Upd.ofBelow (S := fun k => w.heap.size ≤ k) b4 (fun i _ h => by show w.heap.size ≤ i; omega)) (fun _ _ h => h)
  exact ⟨u14.below (Nat.le_refl _) (fun k hk h => by omega), _, rfl, own_base H4.out h3s⟩
/-- What Less leaves, if there is as much. -/
def lessR (a b : List (Int × Int)) : Option (Nat → Nat) := takeL (cntF a) b
set_option maxHeartbeats 1000000 in
theorem less_ok (ad bd : Option Addr) (n m ca cb : Nat) (a b : List (Int × Int)) (w : World) (hA : InAt w ad n a) (hB : InAt w bd m b) (ha : chkF (-1) a = true) (hb : chkF (-1) b = true) :
    Calls Try.prog 23 #[.slice ad n ca, .slice bd m cb] w (MadeP (lessR a b) 134 w) := by
  obtain ⟨hv0, hi0⟩ := zero_of_info Try.info53
  have K := both_ok ad bd n m ca cb a b w hA hB ha hb
  have HA : Hid _ := hA
  have HB : Hid _ := hB
  have HCA : Hid (chkF (-1) a = true) := ha
  have HCB : Hid (chkF (-1) b = true) := hb
  clear hA hB ha hb
  go_enter Try.func23, Try.ntmps23
  go_wp2_with (go_at_call 35; (with_reducible refine K.mono ?_); clear K; rintro e w1 ⟨rfl, b1⟩)
  have u1 : Upd (fun _ => False) w1 (w1.alloc (.cells zeroC 53)) := (Upd.refl _ w1).alloc _
  have PA : Calls Try.prog 28 #[.pointer (some ⟨w1.heap.size, 0, none⟩), .slice ad n ca] (w1.alloc (.cells zeroC 53)) (PutsP w1.heap.size (fun _ => 0) a (w1.alloc (.cells zeroC 53))) := by
    have hI1 := HA.out.below b1
    have hI2 := hI1.upd u1 (fun _ _ h => h)
    exact putAll_any w1.heap.size (fun _ => 0) ad n ca a _ hI2.at_ hI2.len hI2.bin (fun b hb => ⟨(chk_in HCA.out b hb).1, (chk_in HCA.out b hb).2.1⟩) (fun a ha hp => Nat.ne_of_lt (hI1.lt a ha hp)) (fun _ => Nat.zero_le _) (CntAt.new w1)
  go_wp2_with (first
    | (go_at_call 28; (with_reducible refine PA.mono ?_); clear PA; rintro e w2 ⟨rfl, h2, u2⟩
       rw [puts_first HCA.out HA.out.bin] at h2
       have hI1 := HB.out.below b1
       have hI2 := (hI1.upd u1 (fun _ _ h => h)).updN u2 (fun a ha hp => Nat.ne_of_lt (hI1.lt a ha hp))
       have PU := takeAll_any w1.heap.size (cntF a) bd m cb b _ hI2.at_ hI2.len hI2.bin (chk_in HCB.out) (fun a ha hp => Nat.ne_of_lt (hI1.lt a ha hp)) (cntF_le HA.out.bin) h2
       have HU2 : Hid _ := u2
       clear h2 u2 hI1 hI2)
    | (go_at_call 37; (with_reducible refine PU.mono ?_); clear PU; rintro e w3 ⟨u3, h3⟩
       have HU3 : Hid _ := u3
       clear u3
       rcases h3 with ⟨rfl, HN⟩ | ⟨h, rfl, HS⟩)
    | (go_at_call 30; (with_reducible refine (bars_any _ _ w3 HS.out.2.1).mono ?_); rintro e w4 ⟨v4, rfl, h4, b4⟩
       have H4 : Hid _ := h4
       clear h4
       obtain ⟨a4, l4, c4, rfl⟩ := row_shape H4.out))
  all_goals go_returns
  all_goals (
    have h12 : w.heap.size ≤ w1.heap.size := b1.size
    have u12 := ((Upd.ofBelow (S := fun k => w.heap.size ≤ k) b1 (fun _ _ h => h)).alloc (.cells zeroC 53)).trans HU2.out (fun i hi h => by show w.heap.size ≤ i; omega)
    have u13 := u12.trans HU3.out (fun i hi h => by show w.heap.size ≤ i; omega)
    have h3s := u13.size)
  · unfold MadeP lessR
    rw [HN.out]
    exact ⟨u13.below (Nat.le_refl _) (fun k hk h => by omega), rfl⟩
  · have u14 := u13.trans (Upd.ofBelow (S := fun k => w.heap.size ≤ k) b4 (fun i _ h => by show w.heap.size ≤ i; omega)) (fun _ _ h => h)
    unfold MadeP lessR
    rw [HS.out.1]
    exact ⟨u14.below (Nat.le_refl _) (fun k hk h => by omega), _, rfl, own_base H4.out h3s⟩
end Go.Proofs.Ytmegmjhkjaejgaa.sk
