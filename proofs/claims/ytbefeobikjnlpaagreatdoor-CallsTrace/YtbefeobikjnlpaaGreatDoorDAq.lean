/-
  Merged: DA, EA.
-/
import Derived.Test.YtbefeobikjnlpaaGreatDoorCBq
import Derived.Test.YtbefeobikjnlpaaGreatDoorCEq
import Derived.Test.YtbefeobikjnlpaaGreatDoorCKq
import Derived.Test.YtbefeobikjnlpaaGreatDoorCUq
namespace Go.Proofs.YtbefeobikjnlpaaGreatDoor.sk
open Go Go.RowKit
set_option maxRecDepth 100000

/-- A tally in a block, with its bars. -/
structure SumAt (w : World) (tb B n e k : Nat) (f : Nat → Nat) : Prop where
  ex : ∃ ta tn tc, Blk w tb (talL (hi64 n) (lo64 n) (hi64 e) (lo64 e) (hi64 k) (lo64 k) ta tn tc).toArray 43 ∧ SkAt w ta tn f ∧ ∀ a, ta = some a → B ≤ a.block
theorem SumAt.of {w : World} {tb B n e k : Nat} {f : Nat → Nat} {z0 z1 z2 z3 z4 z5 : Int} {ta : Option Addr} {tn tc : Nat} (h0 : (hi64 n : Int) = z0) (h1 : (lo64 n : Int) = z1) (h2 : (hi64 e : Int) = z2) (h3 : (lo64 e : Int) = z3) (h4 : (hi64 k : Int) = z4) (h5 : (lo64 k : Int) = z5)
    (hb : Blk w tb (talL z0 z1 z2 z3 z4 z5 ta tn tc).toArray 43) (hs : SkAt w ta tn f) (hf : ∀ a, ta = some a → B ≤ a.block) : SumAt w tb B n e k f := by
  subst h0 h1 h2 h3 h4 h5
  exact ⟨ta, tn, tc, hb, hs, hf⟩
theorem took_top {x : Cal} (hx : 0 ≤ x.2.2.2.2 ∧ x.2.2.2.2 < 18446744073709551616) : tookN x ≤ top128 := by rw [top128_eq]; unfold tookN; omega
/-- How many calls a list may have. -/
theorem sumK_le {l : List Cal} (hX : ∀ c ∈ l, 0 ≤ c.2.2.2.2 ∧ c.2.2.2.2 < 18446744073709551616) : sumC tookN l ≤ l.length * 18446744073709551616 := sumC_le (fun c hc => by have := hX c hc; unfold tookN; omega)
theorem sum_bd {l : List Cal} (hX : ∀ c ∈ l, 0 ≤ c.2.2.2.2 ∧ c.2.2.2.2 < 18446744073709551616) (hl : l.length ≤ 9000000000000000000) : l.length ≤ top128 ∧ sumC failN l ≤ top128 ∧ sumC tookN l ≤ top128 := by
  have h1 := sumF_le l
  have h2 := sumK_le hX
  rw [top128_eq]
  omega
/-- A list's tally, and one call more. -/
theorem SumAt.more {w : World} {tb B B' : Nat} (hB : B ≤ B') {l : List Cal} {x : Cal} (hX : ∀ c ∈ l ++ [x], 0 ≤ c.2.2.2.2 ∧ c.2.2.2.2 < 18446744073709551616) (hl : l.length < 9000000000000000000) (h : SumAt w tb B' (addT l.length 1) (addT (sumC failN l) (failN x)) (addT (sumC tookN l) (tookN x)) (minF (histF l) (oneC x))) :
    SumAt w tb B (l ++ [x]).length (sumC failN (l ++ [x])) (sumC tookN (l ++ [x])) (histF (l ++ [x])) := by
  have h0 := sum_bd hX (by simp; omega)
  have e1 : addT l.length 1 = (l ++ [x]).length := by
    simp at h0 ⊢
    unfold addT
    omega
  have e2 : addT (sumC failN l) (failN x) = sumC failN (l ++ [x]) := by
    rw [sumC_append, sumC_cons, sumC_nil] at h0 ⊢
    unfold addT
    omega
  have e3 : addT (sumC tookN l) (tookN x) = sumC tookN (l ++ [x]) := by
    have h1 := h0.2.2
    rw [sumC_append, sumC_cons, sumC_nil] at h1 ⊢
    unfold addT
    omega
  rw [e1, e2, e3] at h
  obtain ⟨ta, tn, tc, hb, hs, hf⟩ := h.ex
  refine ⟨ta, tn, tc, hb, hs.congr (fun j => ?_) (fun i hi => ?_), fun a ha => Nat.le_trans hB (hf a ha)⟩
  · refine Nat.le_trans (histF_le _ j) ?_
    rw [topC_eq]
    simp
    omega
  · have e := sumC_append (fun c => oneC c i) l [x]
    have b := histF_le (l ++ [x]) i
    have c := topC_eq
    simp at b
    unfold histF at *
    rw [sumC_cons, sumC_nil] at e
    rw [e] at b ⊢
    simp only [minF]
    omega
/-- The tally of a list's calls, in a block. -/
def SumL (w : World) (tb B : Nat) (l : List Cal) : Prop := SumAt w tb B l.length (sumC failN l) (sumC tookN l) (histF l)
theorem histF_perm {l m : List Cal} (h : l.Perm m) : histF l = histF m := funext fun _ => sumC_perm _ h
theorem SumL.perm {w : World} {tb B : Nat} {l m : List Cal} (h : SumL w tb B l) (p : l.Perm m) : SumL w tb B m := by
  unfold SumL at *
  rw [p.length_eq, sumC_perm failN p, sumC_perm tookN p, histF_perm p] at h
  exact h
theorem SumAt.upd {S : Nat → Prop} {w w' : World} {tb B n e k : Nat} {f : Nat → Nat} (h : SumAt w tb B n e k f) (hu : Upd S w w') (h1 : ¬ S tb) (h2 : ∀ j, B ≤ j → ¬ S j) : SumAt w' tb B n e k f := by
  obtain ⟨ta, tn, tc, hb, hs, hf⟩ := h.ex
  exact ⟨ta, tn, tc, hb.upd hu h1, hs.upd hu (fun a ha => h2 _ (hf a ha)), hf⟩
theorem SumAt.below {w w' : World} {tb B n e k : Nat} {f : Nat → Nat} (h : SumAt w tb B n e k f) (hb : Below w.heap.size w w') : SumAt w' tb B n e k f :=
  h.upd (Upd.ofBelow (S := fun _ => False) hb (fun k hk hk' => by omega)) (fun h => h) (fun _ _ h => h)
/-- A tally is laid into a new block. -/
theorem SumAt.put {w2 w3 : World} {o : Obj} {B n e k : Nat} {f : Nat → Nat} {z0 z1 z2 z3 z4 z5 : Int} {ta : Option Addr} {tn tc : Nat} (h0 : (hi64 n : Int) = z0) (h1 : (lo64 n : Int) = z1) (h2 : (hi64 e : Int) = z2) (h3 : (lo64 e : Int) = z3) (h4 : (hi64 k : Int) = z4) (h5 : (lo64 k : Int) = z5)
    (hk : SkAt w2 ta tn f ∧ ∀ a, ta = some a → B ≤ a.block) (n9 : Blk w3 w2.heap.size (talL z0 z1 z2 z3 z4 z5 ta tn tc).toArray 43) (u9 : Upd (fun j => j = w2.heap.size) (w2.alloc o) w3) : SumAt w3 w2.heap.size B n e k f ∧ Below w2.heap.size w2 w3 := by
  have hb : Below w2.heap.size w2 (w2.alloc o) := (Below.refl _ _).alloc (Nat.le_refl _) _
  refine ⟨SumAt.of h0 h1 h2 h3 h4 h5 n9 ((hk.1.below hb).upd u9 (fun a ha => ?_)) hk.2, hb.trans (u9.below hb.size (fun j hj h => by omega))⟩
  have := hk.1.at_.lt a ha
  omega
/-- A call is taken from a list's tally. -/
theorem SumL.less {w : World} {tb B : Nat} {x : Cal} {l : List Cal} (hl : l.length < 9000000000000000000) (h : SumAt w tb B ((x :: l).length - 1) (sumC failN (x :: l) - failN x) (sumC tookN (x :: l) - tookN x) (fun i => histF (x :: l) i - oneC x i)) : SumL w tb B l := by
  rw [sumC_cons, sumC_cons, Nat.add_sub_cancel_left, Nat.add_sub_cancel_left, List.length_cons, Nat.add_sub_cancel] at h
  obtain ⟨ta, tn, tc, hb, hs, hf⟩ := h.ex
  refine ⟨ta, tn, tc, hb, hs.congr (fun j => ?_) (fun i hi => ?_), hf⟩
  · refine Nat.le_trans (histF_le _ j) ?_
    rw [topC_eq]
    omega
  · rw [histF_cons]
    omega
/-- The tally of a list's calls. -/
def SumP (l : List Cal) (w : World) (e : Ending) (w' : World) : Prop := ∃ ta tn tc, e = .returned (.tuple #[talV l.length (sumC failN l) (sumC tookN l) ta tn tc, .bool true]) ∧ Hid (SkAt w' ta tn (histF l) ∧ ∀ a, ta = some a → w.heap.size ≤ a.block) ∧ Below w.heap.size w w'
set_option maxHeartbeats 8000000 in
theorem summed_any (aa : Option Addr) (na ca : Nat) (l : List Cal) (w : World) (hA : CalAt w aa na l) (hX : ∀ c ∈ l, 0 ≤ c.2.2.2.2 ∧ c.2.2.2.2 < 18446744073709551616) (hz : na * 56 ≤ 140737488351232) :
    Calls Tryz.prog 12 #[.slice aa na ca] w (SumP l w) := by
  have HA : Hid _ := hA
  have HLA : Hid (l.length = na) := hA.len
  have HX : Hid _ := hX
  have HEnd : Hid (∀ w' n e k ta tn tc, n = l.length → e = sumC failN l → k = sumC tookN l → SkAt w' ta tn (histF l) → (∀ a, ta = some a → w.heap.size ≤ a.block) → Below w.heap.size w w' → SumP l w (.returned (.tuple #[talV n e k ta tn tc, .bool true])) w') := fun w' n e k ta tn tc h1 h2 h3 h4 h6 h5 => ⟨ta, tn, tc, by rw [h1, h2, h3], ⟨h4, h6⟩, h5⟩
  generalize SumP l w = R at *
  clear hA hX
  go_enter Tryz.func12, Tryz.ntmps12
  go_wp2
  go_loopw [5] (fun t wr => ∃ k0 : Nat, t = .int .i64 k0 ∧ k0 ≤ na ∧ Hid (SumAt wr (w.heap.size + 1) (w.heap.size + 2) (l.take k0).length (sumC failN (l.take k0)) (sumC tookN (l.take k0)) (histF (l.take k0))) ∧ Hid (Below w.heap.size w wr ∧ Blk wr w.heap.size (talL 0 0 0 0 0 0 none 0 0).toArray 43)) (fun t _ => na - (intOf t).toNat)
  case atStart =>
    refine ⟨0, rfl, Nat.zero_le _, ⟨none, 0, 0, ?_, SkAt.nil _, fun a ha => by simp at ha⟩, (((Below.refl _ _).alloc (Nat.le_refl _) _).alloc (by simp) _), (Blk.new _ _ _).alloc _⟩
    have h := Blk.new (w.alloc (.cells (talL 0 0 0 0 0 0 none 0 0).toArray 43)) (talL 0 0 0 0 0 0 none 0 0).toArray 43
    simp at h
    have z1 : hi64 0 = 0 := by decide
    have z2 : lo64 0 = 0 := by decide
    simp only [List.take_zero, List.length_nil, sumC_nil, z1, z2]
    exact h
  case round =>
    obtain ⟨k0, rfl, hk, HSUM, HW⟩ := hrel
    by_cases hlt : k0 < na
    · have hkA : k0 < l.length := by rw [HLA.out]; exact hlt
      obtain ⟨ab, aoff, rfl, hra⟩ := (HA.out.below HW.out.1).lies (by omega)
      have RG : Hid (wr.rangeAt ab (aoff + k0 * 5) (calL l[k0])) := hra k0 hkA
      have HTk : Hid (l.take (k0 + 1) = l.take k0 ++ [l[k0]]) := List.take_succ_eq_append_getElem hkA
      have hx := HX.out l[k0] (List.getElem_mem _)
      have HLk : Hid ((l.take k0).length = k0) := by show (l.take k0).length = k0; rw [List.length_take]; omega
      have HXk : Hid (∀ c ∈ l.take k0 ++ [l[k0]], 0 ≤ c.2.2.2.2 ∧ c.2.2.2.2 < 18446744073709551616) := fun c hc => HX.out c (by rw [← HTk.out] at hc; exact List.mem_of_mem_take hc)
      obtain ⟨x, ex⟩ : ∃ x, l[k0] = x := ⟨_, rfl⟩
      rw [ex] at RG HTk hx HXk
      clear ex hra
      obtain ⟨tb, htb⟩ : ∃ tb, w.heap.size + 1 = tb := ⟨_, rfl⟩
      have HTB0 : Hid (w.heap.size + 1 = tb) := htb
      rw [htb] at HSUM ⊢
      have HSz : Hid (w.heap.size + 2 ≤ wr.heap.size) := by obtain ⟨_, _, _, h, _⟩ := HSUM.out.ex; have h1 := Blk.lt h; show w.heap.size + 2 ≤ wr.heap.size; omega
      have HNEXT : Hid (∀ W, SumAt W tb wr.heap.size (addT (l.take k0).length 1) (addT (sumC failN (l.take k0)) (failN x)) (addT (sumC tookN (l.take k0)) (tookN x)) (minF (histF (l.take k0)) (oneC x)) → SumAt W tb (w.heap.size + 2) (l.take (k0 + 1)).length (sumC failN (l.take (k0 + 1))) (sumC tookN (l.take (k0 + 1))) (histF (l.take (k0 + 1)))) := fun W h => by
        rw [HTk.out]
        exact SumAt.more HSz.out HXk.out (by rw [HLk.out]; omega) h
      have HREST : Hid (∀ W, Upd (fun j => j = tb) wr W → Hid (Below w.heap.size w W ∧ Blk W w.heap.size (talL 0 0 0 0 0 0 none 0 0).toArray 43)) := fun W h => ⟨HW.out.1.trans (h.below HW.out.1.size (fun j hj e => by have := HTB0.out; omega)), HW.out.2.upd h (by have := HTB0.out; omega)⟩
      have HBD : Hid ((l.take k0).length ≤ top128 ∧ sumC failN (l.take k0) ≤ top128 ∧ sumC tookN (l.take k0) ≤ top128) := sum_bd (fun c hc => HXk.out c (List.mem_append_left _ hc)) (by rw [HLk.out]; omega)
      clear HSz htb HA HLA HX HEnd HTk HXk HLk HTB0 HW
      generalize (l.take k0).length = n at *
      generalize sumC failN (l.take k0) = e at *
      generalize sumC tookN (l.take k0) = k at *
      generalize histF (l.take k0) = f at *
      obtain ⟨ta, tn, tc, hTb, hTs, -⟩ := HSUM.out.ex
      have HTB : Hid (Blk wr tb (talL (hi64 n) (lo64 n) (hi64 e) (lo64 e) (hi64 k) (lo64 k) ta tn tc).toArray 43) := hTb
      have HTS : Hid (SkAt wr ta tn f) := hTs
      clear hTb hTs
      have ON := fun W => cOne_any x hx W
      have PL := fun W ao cp (h1 : SkAt W ta tn f) (h2 : SkAt W ao 1 (oneC x)) => cPlus_ok ta ao tn 1 tc cp f (oneC x) n e k 1 (failN x) (tookN x) W h1 h2 HBD.out.1 HBD.out.2.1 HBD.out.2.2 (by decide) (Nat.le_trans (failN_le x) (by decide)) (took_top hx)
      unfold OneP talV calV at ON
      unfold TalP talV at PL
      obtain ⟨z0, hz0⟩ : ∃ z : Int, (hi64 (addT n 1) : Int) = z := ⟨_, rfl⟩
      rw [hz0] at PL
      have HZ0 : Hid _ := hz0
      clear hz0
      obtain ⟨z1, hz1⟩ : ∃ z : Int, (lo64 (addT n 1) : Int) = z := ⟨_, rfl⟩
      rw [hz1] at PL
      have HZ1 : Hid _ := hz1
      clear hz1
      obtain ⟨z2, hz2⟩ : ∃ z : Int, (hi64 (addT e (failN x)) : Int) = z := ⟨_, rfl⟩
      rw [hz2] at PL
      have HZ2 : Hid _ := hz2
      clear hz2
      obtain ⟨z3, hz3⟩ : ∃ z : Int, (lo64 (addT e (failN x)) : Int) = z := ⟨_, rfl⟩
      rw [hz3] at PL
      have HZ3 : Hid _ := hz3
      clear hz3
      obtain ⟨z4, hz4⟩ : ∃ z : Int, (hi64 (addT k (tookN x)) : Int) = z := ⟨_, rfl⟩
      rw [hz4] at PL
      have HZ4 : Hid _ := hz4
      clear hz4
      obtain ⟨z5, hz5⟩ : ∃ z : Int, (lo64 (addT k (tookN x)) : Int) = z := ⟨_, rfl⟩
      rw [hz5] at PL
      have HZ5 : Hid _ := hz5
      clear hz5
      generalize (hi64 1 : Int) = q0 at ON PL
      generalize (lo64 1 : Int) = q1 at ON PL
      generalize (hi64 (failN x) : Int) = q2 at ON PL
      generalize (lo64 (failN x) : Int) = q3 at ON PL
      generalize (hi64 (tookN x) : Int) = q4 at ON PL
      generalize (lo64 (tookN x) : Int) = q5 at ON PL
      generalize (hi64 n : Int) = t0 at PL HTB
      generalize (lo64 n : Int) = t1 at PL HTB
      generalize (hi64 e : Int) = t2 at PL HTB
      generalize (lo64 e : Int) = t3 at PL HTB
      generalize (hi64 k : Int) = t4 at PL HTB
      generalize (lo64 k : Int) = t5 at PL HTB
      have HWd : Hid (Below wr.heap.size wr wr.drew) := (Below.refl _ _).drew
      go_wp2
      refine wp_region_held (S := fun W => W.rangeAt ab (aoff + k0 * 5) (calL x) ∧ Blk W tb (talL t0 t1 t2 t3 t4 t5 ta tn tc).toArray 43) (by kernel_rfl) ?_
      change wpAnyH _ _ _ _ _ _ _ _ (World.drew _)
      obtain ⟨wd, hwd⟩ : ∃ V, wr.drew = V := ⟨_, rfl⟩
      rw [hwd] at HWd ⊢
      clear hwd
      have HSd : Hid (wd.rangeAt ab (aoff + k0 * 5) (calL x) ∧ Blk wd tb (talL t0 t1 t2 t3 t4 t5 ta tn tc).toArray 43) := ⟨range_bel RG.out HWd.out, Blk.below HTB.out HWd.out (Blk.lt HTB.out)⟩
      have HTd : Hid (SkAt wd ta tn f) := SkAt.below HTS.out HWd.out
      have HBd : Hid (Below wr.heap.size wr wd) := HWd.out
      have HLE0 : Hid (wr.heap.size ≤ wd.heap.size) := HWd.out.size
      have HTL : Hid (tb < wr.heap.size) := Blk.lt HTB.out
      have HGL : Hid (ab < wr.heap.size) := range_lt RG.out
      refine takeC (i := 0) (v := .agg (talL t0 t1 t2 t3 t4 t5 ta tn tc).toArray) rfl (by kernel_rfl) (by kernel_rfl) (by kernel_rfl) (fun _ _ _ h => h) (yieldsIf_load_mid (by rfl) 43 _ rfl tb 0 rfl (talL t0 t1 t2 t3 t4 t5 ta tn tc) _ (fun W hW => range13C hW.2) Tryz.underlying43 rfl (by kernel_rfl)) (HSd.out) ?_
      simp only [Act.put, List.setIfInBounds_toArray, List.set_cons_zero, List.set_cons_succ]
      refine takeC (i := 1) (v := .slice (some ⟨ab, aoff, none⟩) na ca) rfl (by kernel_rfl) (by kernel_rfl) (by kernel_rfl) (fun _ _ _ h => h) (Or.inl ⟨by rfl, fun W hW => by go_simp⟩) (HSd.out) ?_
      simp only [Act.put, List.setIfInBounds_toArray, List.set_cons_zero, List.set_cons_succ]
      refine takeC (i := 2) (v := .int .i64 ((k0 : Nat) : Int)) rfl (by kernel_rfl) (by kernel_rfl) (by kernel_rfl) (fun _ _ _ h => h) (Or.inl ⟨by rfl, fun W hW => by go_simp⟩) (HSd.out) ?_
      simp only [Act.put, List.setIfInBounds_toArray, List.set_cons_zero, List.set_cons_succ]
      refine takeC (i := 3) (v := .pointer (some ⟨ab, aoff + k0 * 5, none⟩)) rfl (by kernel_rfl) (by kernel_rfl) (by kernel_rfl) (fun _ _ _ h => h) (Or.inl ⟨by rfl, fun W hW => by go_simp⟩) (HSd.out) ?_
      simp only [Act.put, List.setIfInBounds_toArray, List.set_cons_zero, List.set_cons_succ]
      refine takeC (i := 4) (v := .agg (calL x).toArray) rfl (by kernel_rfl) (by kernel_rfl) (by kernel_rfl) (fun _ _ _ h => h) (yieldsIf_load_mid (by rfl) 68 _ rfl ab (aoff + k0 * 5) rfl (calL x) _ (fun W hW => hW.1) Tryz.underlying68 rfl (by kernel_rfl)) (HSd.out) ?_
      simp only [Act.put, List.setIfInBounds_toArray, List.set_cons_zero, List.set_cons_succ]
      refine twoC (i := 5) (j := 10) rfl rfl (by kernel_rfl) (fun K hK => ?_) (fun K hK => ?_)
      · go_simp
        go_at_call 18
        (with_reducible refine (ON wd).mono ?_)
        rintro e w_1 ⟨ao, ca1, rfl, HQ0, b_1, -⟩
        have HS1 : Hid _ := And.intro (range_bel (HSd.out).1 b_1) (Blk.below (HSd.out).2 b_1 (Blk.lt (HSd.out).2))
        have HTS1 : Hid _ := SkAt.below HTd.out b_1
        have HB1 : Hid _ := Below.trans HBd.out (Below.mono b_1 (Below.size HBd.out))
        have HL1 : Hid _ := Nat.le_trans HLE0.out (Below.size b_1)
        refine hK _ _ ⟨HS1.out, ?_⟩
        clear hK K
        refine twoC (i := 6) (j := 10) rfl rfl (by kernel_rfl) (fun K hK => ?_) (fun K hK => ?_)
        · go_simp
          go_at_call 17
          (with_reducible refine (PL w_1 ao ca1 HTS1.out HQ0.out).mono ?_)
          rintro e w_2 ⟨mo, N, cm, rfl, HM, b_2, HO⟩
          have HS2 : Hid _ := And.intro (range_bel (HS1.out).1 b_2) (Blk.below (HS1.out).2 b_2 (Blk.lt (HS1.out).2))
          have HTS2 : Hid _ := SkAt.below HTS1.out b_2
          have HB2 : Hid _ := Below.trans HB1.out (Below.mono b_2 (Below.size HB1.out))
          have HL2 : Hid _ := Nat.le_trans HL1.out (Below.size b_2)
          have HQ2 : Hid _ := SkAt.below HQ0.out b_2
          refine hK _ _ ⟨HS2.out, ?_⟩
          clear hK K
          refine takeC (i := 7) (v := .tuple #[.agg (talL z0 z1 z2 z3 z4 z5 mo N cm).toArray, .int .i64 0]) rfl (by kernel_rfl) (by kernel_rfl) (by kernel_rfl) (fun _ _ _ h => h) (Or.inl ⟨by rfl, fun W hW => by go_simp⟩) (HS2.out) ?_
          simp only [Act.put, List.setIfInBounds_toArray, List.set_cons_zero, List.set_cons_succ]
          refine takeC (i := 8) (v := .agg (talL z0 z1 z2 z3 z4 z5 mo N cm).toArray) rfl (by kernel_rfl) (by kernel_rfl) (by kernel_rfl) (fun _ _ _ h => h) (Or.inl ⟨by rfl, fun W hW => by go_simp⟩) (HS2.out) ?_
          simp only [Act.put, List.setIfInBounds_toArray, List.set_cons_zero, List.set_cons_succ]
          refine takeC (i := 9) (v := .int .i64 0) rfl (by kernel_rfl) (by kernel_rfl) (by kernel_rfl) (fun _ _ _ h => h) (Or.inl ⟨by rfl, fun W hW => by go_simp⟩) (HS2.out) ?_
          simp only [Act.put, List.setIfInBounds_toArray, List.set_cons_zero, List.set_cons_succ]
          refine onlyC (i := 10) rfl (by kernel_rfl) (fun K hK => ?_)
          go_simp
          generalize hw_3 : w_2.alloc (.cells [.int .u64 0, .int .u64 0, .int .u64 0, .int .u64 0, .int .u64 0, .int .u64 0, .slice none 0 0].toArray 43) = w_3
          have b_3 : Below w_2.heap.size w_2 w_3 := by rw [← hw_3]; exact (Below.refl _ _).alloc (Nat.le_refl _) _
          have HA_3 : Blk w_3 w_2.heap.size [.int .u64 0, .int .u64 0, .int .u64 0, .int .u64 0, .int .u64 0, .int .u64 0, .slice none 0 0].toArray 43 := by rw [← hw_3]; exact Blk.new _ _ _
          clear hw_3
          have HS3 : Hid _ := And.intro (range_bel (HS2.out).1 b_3) (Blk.below (HS2.out).2 b_3 (Blk.lt (HS2.out).2))
          have HTS3 : Hid _ := SkAt.below HTS2.out b_3
          have HB3 : Hid _ := Below.trans HB2.out (Below.mono b_3 (Below.size HB2.out))
          have HL3 : Hid _ := Nat.le_trans HL2.out (Below.size b_3)
          have HQ3 : Hid _ := SkAt.below HQ2.out b_3
          have HM3 : Hid _ := SkAt.below HM.out b_3
          have HO3 : Hid _ := OwnBar.below HO.out b_3
          have HF3 : Hid _ := (fun a ha => Nat.le_trans HL1.out (own_fresh HO.out a ha) : ∀ a : Addr, mo = some a → wr.heap.size ≤ a.block)
          have HSB3 : Hid _ := HL2.out
          have HLL3 : Hid _ := (HM.out).at_.lt
          refine hK _ _ ⟨HS3.out, ?_⟩
          clear hK K
          refine onlyC (i := 11) rfl (by kernel_rfl) (fun K hK => ?_)
          refine step_stW (by rfl) 43 _ _ (by rfl) (w_2.heap.size) [.int .u64 0, .int .u64 0, .int .u64 0, .int .u64 0, .int .u64 0, .int .u64 0, .slice none 0 0] ((talL z0 z1 z2 z3 z4 z5 mo N cm)) 43 (HA_3) (by rfl) (by rfl) (by rfl) (by kernel_rfl) talL_one ?_
          intro w_4 n_4 u_4
          have hn1 : ¬ ab = w_2.heap.size := by have h2 := HSB3.out; have h3 := HGL.out; omega
          have hn2 : ¬ tb = w_2.heap.size := by have h2 := HSB3.out; have h3 := HTL.out; omega
          have HSx : w_4.rangeAt ab (aoff + k0 * 5) (calL x) ∧ Blk w_4 tb (talL t0 t1 t2 t3 t4 t5 ta tn tc).toArray 43 := ⟨range_updS HS3.out.1 u_4 hn1, Blk.upd HS3.out.2 u_4 hn2⟩
          have hnm : ∀ a, mo = some a → ¬ a.block = w_2.heap.size := fun a ha e => by have h1 := HLL3.out a ha; omega
          refine hK _ _ ⟨HSx, ?_⟩
          clear hK K
          refine takeC (i := 12) (v := .int .i64 0) rfl (by kernel_rfl) (by kernel_rfl) (by kernel_rfl) (fun _ _ _ h => h) (Or.inl ⟨by rfl, fun W hW => by go_simp⟩) HSx ?_
          simp only [Act.put, List.setIfInBounds_toArray, List.set_cons_zero, List.set_cons_succ]
          refine wpAnyH_done (by kernel_rfl) ?_ _
          have HMx : Hid (SkAt w_4 mo N (minF f (oneC x))) := (HM3.out).upd u_4 (fun a ha => hnm a ha)
          have HBx : Hid (Below wr.heap.size wr w_4) := (HB3.out).trans (u_4.below (Below.size HB3.out) (fun k hk e => by have h2 := HSB3.out; omega))
          have HGx : Hid (∀ a, mo = some a → wr.heap.size ≤ a.block) := HF3.out
          have HFx : Hid (∀ a, mo = some a → ¬ a.block = tb) := fun a ha e => by have h2 := HF3.out a ha; have h3 := HTL.out; omega
          have HNx : Hid (Blk w_4 (w_2.heap.size) (talL z0 z1 z2 z3 z4 z5 mo N cm).toArray 43) := n_4
          have HTx : Hid (Blk w_4 tb (talL t0 t1 t2 t3 t4 t5 ta tn tc).toArray 43) := HSx.2
          clear hnm HSx n_4 u_4 hn1 hn2
          obtain ⟨wv, hwv⟩ : ∃ V, w_4 = V := ⟨_, rfl⟩
          rw [hwv] at HMx HBx HNx HTx ⊢
          clear hwv
          go_wp2_with (first | (refine wpList_load_mid rfl 43 _ rfl (w_2.heap.size) 0 rfl (talL z0 z1 z2 z3 z4 z5 mo N cm) _ (range13C HNx.out) Tryz.underlying43 rfl (by kernel_rfl) ?_) | (refine wpList_stW rfl 43 _ _ rfl tb (talL t0 t1 t2 t3 t4 t5 ta tn tc) (talL z0 z1 z2 z3 z4 z5 mo N cm) 43 HTx.out rfl rfl rfl (by kernel_rfl) talL_one ?_; intro w9 n9 u9; have HT9 : Hid (Blk w9 tb (talL z0 z1 z2 z3 z4 z5 mo N cm).toArray 43) := n9; have HU9 : Hid (Upd (fun j => j = tb) wv w9) := u9; clear n9 u9))
          (try simp only [Act.put])
          have HU : Hid (Upd (fun j => j = tb) wr w9) := (Upd.ofBelow (S := fun j => j = tb) HBx.out (fun k hk hk2 => by omega)).trans HU9.out (fun _ _ h => h)
          have HK9 : Hid (SumAt w9 tb wr.heap.size (addT n 1) (addT e (failN x)) (addT k (tookN x)) (minF f (oneC x))) := SumAt.of HZ0.out HZ1.out HZ2.out HZ3.out HZ4.out HZ5.out HT9.out (SkAt.upd HMx.out HU9.out (fun a ha e => HFx.out a ha e)) HGx.out
          clear HU9 HT9 HMx HBx HNx HTx HFx HGx
          go_roundw
          case rel =>
            refine ⟨k0 + 1, by go_num, by omega, HNEXT.out _ HK9.out, HREST.out _ HU.out⟩
          case measure => simp [intOf]; omega
        · go_simp
          generalize hw_2 : w_1.alloc (.cells [.int .u64 0, .int .u64 0, .int .u64 0, .int .u64 0, .int .u64 0, .int .u64 0, .slice none 0 0].toArray 43) = w_2
          have b_2 : Below w_1.heap.size w_1 w_2 := by rw [← hw_2]; exact (Below.refl _ _).alloc (Nat.le_refl _) _
          have HA_2 : Blk w_2 w_1.heap.size [.int .u64 0, .int .u64 0, .int .u64 0, .int .u64 0, .int .u64 0, .int .u64 0, .slice none 0 0].toArray 43 := by rw [← hw_2]; exact Blk.new _ _ _
          clear hw_2
          have HS2 : Hid _ := And.intro (range_bel (HS1.out).1 b_2) (Blk.below (HS1.out).2 b_2 (Blk.lt (HS1.out).2))
          have HTS2 : Hid _ := SkAt.below HTS1.out b_2
          have HB2 : Hid _ := Below.trans HB1.out (Below.mono b_2 (Below.size HB1.out))
          have HL2 : Hid _ := Nat.le_trans HL1.out (Below.size b_2)
          have HQ2 : Hid _ := SkAt.below HQ0.out b_2
          have HSB2 : Hid _ := HL1.out
          refine hK _ _ ⟨HS2.out, ?_⟩
          clear hK K
          refine onlyC (i := 6) rfl (by kernel_rfl) (fun K hK => ?_)
          go_simp
          go_at_call 17
          (with_reducible refine (PL w_2 ao ca1 HTS2.out HQ2.out).mono ?_)
          rintro e w_3 ⟨mo, N, cm, rfl, HM, b_3, HO⟩
          have HS3 : Hid _ := And.intro (range_bel (HS2.out).1 b_3) (Blk.below (HS2.out).2 b_3 (Blk.lt (HS2.out).2))
          have HTS3 : Hid _ := SkAt.below HTS2.out b_3
          have HB3 : Hid _ := Below.trans HB2.out (Below.mono b_3 (Below.size HB2.out))
          have HL3 : Hid _ := Nat.le_trans HL2.out (Below.size b_3)
          have HQ3 : Hid _ := SkAt.below HQ2.out b_3
          have HSB3 : Hid _ := HSB2.out
          have HA3 : Hid _ := Blk.below HA_2 b_3 (Blk.lt HA_2)
          refine hK _ _ ⟨HS3.out, ?_⟩
          clear hK K
          refine takeC (i := 7) (v := .tuple #[.agg (talL z0 z1 z2 z3 z4 z5 mo N cm).toArray, .int .i64 0]) rfl (by kernel_rfl) (by kernel_rfl) (by kernel_rfl) (fun _ _ _ h => h) (Or.inl ⟨by rfl, fun W hW => by go_simp⟩) (HS3.out) ?_
          simp only [Act.put, List.setIfInBounds_toArray, List.set_cons_zero, List.set_cons_succ]
          refine takeC (i := 8) (v := .agg (talL z0 z1 z2 z3 z4 z5 mo N cm).toArray) rfl (by kernel_rfl) (by kernel_rfl) (by kernel_rfl) (fun _ _ _ h => h) (Or.inl ⟨by rfl, fun W hW => by go_simp⟩) (HS3.out) ?_
          simp only [Act.put, List.setIfInBounds_toArray, List.set_cons_zero, List.set_cons_succ]
          refine takeC (i := 9) (v := .int .i64 0) rfl (by kernel_rfl) (by kernel_rfl) (by kernel_rfl) (fun _ _ _ h => h) (Or.inl ⟨by rfl, fun W hW => by go_simp⟩) (HS3.out) ?_
          simp only [Act.put, List.setIfInBounds_toArray, List.set_cons_zero, List.set_cons_succ]
          refine onlyC (i := 11) rfl (by kernel_rfl) (fun K hK => ?_)
          refine step_stW (by rfl) 43 _ _ (by rfl) (w_1.heap.size) [.int .u64 0, .int .u64 0, .int .u64 0, .int .u64 0, .int .u64 0, .int .u64 0, .slice none 0 0] ((talL z0 z1 z2 z3 z4 z5 mo N cm)) 43 (HA3.out) (by rfl) (by rfl) (by rfl) (by kernel_rfl) talL_one ?_
          intro w_4 n_4 u_4
          have hn1 : ¬ ab = w_1.heap.size := by have h2 := HSB3.out; have h3 := HGL.out; omega
          have hn2 : ¬ tb = w_1.heap.size := by have h2 := HSB3.out; have h3 := HTL.out; omega
          have HSx : w_4.rangeAt ab (aoff + k0 * 5) (calL x) ∧ Blk w_4 tb (talL t0 t1 t2 t3 t4 t5 ta tn tc).toArray 43 := ⟨range_updS HS3.out.1 u_4 hn1, Blk.upd HS3.out.2 u_4 hn2⟩
          have hnm : ∀ a, mo = some a → ¬ a.block = w_1.heap.size := fun a ha e => by have h1 := own_fresh HO.out a ha; have h2 := Blk.lt HA_2; omega
          refine hK _ _ ⟨HSx, ?_⟩
          clear hK K
          refine takeC (i := 12) (v := .int .i64 0) rfl (by kernel_rfl) (by kernel_rfl) (by kernel_rfl) (fun _ _ _ h => h) (Or.inl ⟨by rfl, fun W hW => by go_simp⟩) HSx ?_
          simp only [Act.put, List.setIfInBounds_toArray, List.set_cons_zero, List.set_cons_succ]
          refine wpAnyH_done (by kernel_rfl) ?_ _
          have HMx : Hid (SkAt w_4 mo N (minF f (oneC x))) := (HM.out).upd u_4 (fun a ha => hnm a ha)
          have HBx : Hid (Below wr.heap.size wr w_4) := (HB3.out).trans (u_4.below (Below.size HB3.out) (fun k hk e => by have h2 := HSB3.out; omega))
          have HGx : Hid (∀ a, mo = some a → wr.heap.size ≤ a.block) := (fun a ha => Nat.le_trans HL2.out (own_fresh HO.out a ha) : ∀ a : Addr, mo = some a → wr.heap.size ≤ a.block)
          have HFx : Hid (∀ a, mo = some a → ¬ a.block = tb) := fun a ha e => by have h2 := (fun a ha => Nat.le_trans HL2.out (own_fresh HO.out a ha) : ∀ a : Addr, mo = some a → wr.heap.size ≤ a.block) a ha; have h3 := HTL.out; omega
          have HNx : Hid (Blk w_4 (w_1.heap.size) (talL z0 z1 z2 z3 z4 z5 mo N cm).toArray 43) := n_4
          have HTx : Hid (Blk w_4 tb (talL t0 t1 t2 t3 t4 t5 ta tn tc).toArray 43) := HSx.2
          clear hnm HSx n_4 u_4 hn1 hn2
          obtain ⟨wv, hwv⟩ : ∃ V, w_4 = V := ⟨_, rfl⟩
          rw [hwv] at HMx HBx HNx HTx ⊢
          clear hwv
          go_wp2_with (first | (refine wpList_load_mid rfl 43 _ rfl (w_1.heap.size) 0 rfl (talL z0 z1 z2 z3 z4 z5 mo N cm) _ (range13C HNx.out) Tryz.underlying43 rfl (by kernel_rfl) ?_) | (refine wpList_stW rfl 43 _ _ rfl tb (talL t0 t1 t2 t3 t4 t5 ta tn tc) (talL z0 z1 z2 z3 z4 z5 mo N cm) 43 HTx.out rfl rfl rfl (by kernel_rfl) talL_one ?_; intro w9 n9 u9; have HT9 : Hid (Blk w9 tb (talL z0 z1 z2 z3 z4 z5 mo N cm).toArray 43) := n9; have HU9 : Hid (Upd (fun j => j = tb) wv w9) := u9; clear n9 u9))
          (try simp only [Act.put])
          have HU : Hid (Upd (fun j => j = tb) wr w9) := (Upd.ofBelow (S := fun j => j = tb) HBx.out (fun k hk hk2 => by omega)).trans HU9.out (fun _ _ h => h)
          have HK9 : Hid (SumAt w9 tb wr.heap.size (addT n 1) (addT e (failN x)) (addT k (tookN x)) (minF f (oneC x))) := SumAt.of HZ0.out HZ1.out HZ2.out HZ3.out HZ4.out HZ5.out HT9.out (SkAt.upd HMx.out HU9.out (fun a ha e => HFx.out a ha e)) HGx.out
          clear HU9 HT9 HMx HBx HNx HTx HFx HGx
          go_roundw
          case rel =>
            refine ⟨k0 + 1, by go_num, by omega, HNEXT.out _ HK9.out, HREST.out _ HU.out⟩
          case measure => simp [intOf]; omega
      · go_simp
        generalize hw_1 : wd.alloc (.cells [.int .u64 0, .int .u64 0, .int .u64 0, .int .u64 0, .int .u64 0, .int .u64 0, .slice none 0 0].toArray 43) = w_1
        have b_1 : Below wd.heap.size wd w_1 := by rw [← hw_1]; exact (Below.refl _ _).alloc (Nat.le_refl _) _
        have HA_1 : Blk w_1 wd.heap.size [.int .u64 0, .int .u64 0, .int .u64 0, .int .u64 0, .int .u64 0, .int .u64 0, .slice none 0 0].toArray 43 := by rw [← hw_1]; exact Blk.new _ _ _
        clear hw_1
        have HS1 : Hid _ := And.intro (range_bel (HSd.out).1 b_1) (Blk.below (HSd.out).2 b_1 (Blk.lt (HSd.out).2))
        have HTS1 : Hid _ := SkAt.below HTd.out b_1
        have HB1 : Hid _ := Below.trans HBd.out (Below.mono b_1 (Below.size HBd.out))
        have HL1 : Hid _ := Nat.le_trans HLE0.out (Below.size b_1)
        have HSB1 : Hid _ := HLE0.out
        refine hK _ _ ⟨HS1.out, ?_⟩
        clear hK K
        refine onlyC (i := 5) rfl (by kernel_rfl) (fun K hK => ?_)
        go_simp
        go_at_call 18
        (with_reducible refine (ON w_1).mono ?_)
        rintro e w_2 ⟨ao, ca1, rfl, HQ0, b_2, -⟩
        have HS2 : Hid _ := And.intro (range_bel (HS1.out).1 b_2) (Blk.below (HS1.out).2 b_2 (Blk.lt (HS1.out).2))
        have HTS2 : Hid _ := SkAt.below HTS1.out b_2
        have HB2 : Hid _ := Below.trans HB1.out (Below.mono b_2 (Below.size HB1.out))
        have HL2 : Hid _ := Nat.le_trans HL1.out (Below.size b_2)
        have HSB2 : Hid _ := HSB1.out
        have HA2 : Hid _ := Blk.below HA_1 b_2 (Blk.lt HA_1)
        refine hK _ _ ⟨HS2.out, ?_⟩
        clear hK K
        refine onlyC (i := 6) rfl (by kernel_rfl) (fun K hK => ?_)
        go_simp
        go_at_call 17
        (with_reducible refine (PL w_2 ao ca1 HTS2.out HQ0.out).mono ?_)
        rintro e w_3 ⟨mo, N, cm, rfl, HM, b_3, HO⟩
        have HS3 : Hid _ := And.intro (range_bel (HS2.out).1 b_3) (Blk.below (HS2.out).2 b_3 (Blk.lt (HS2.out).2))
        have HTS3 : Hid _ := SkAt.below HTS2.out b_3
        have HB3 : Hid _ := Below.trans HB2.out (Below.mono b_3 (Below.size HB2.out))
        have HL3 : Hid _ := Nat.le_trans HL2.out (Below.size b_3)
        have HSB3 : Hid _ := HSB2.out
        have HA3 : Hid _ := Blk.below HA2.out b_3 (Blk.lt HA2.out)
        have HQ3 : Hid _ := SkAt.below HQ0.out b_3
        refine hK _ _ ⟨HS3.out, ?_⟩
        clear hK K
        refine takeC (i := 7) (v := .tuple #[.agg (talL z0 z1 z2 z3 z4 z5 mo N cm).toArray, .int .i64 0]) rfl (by kernel_rfl) (by kernel_rfl) (by kernel_rfl) (fun _ _ _ h => h) (Or.inl ⟨by rfl, fun W hW => by go_simp⟩) (HS3.out) ?_
        simp only [Act.put, List.setIfInBounds_toArray, List.set_cons_zero, List.set_cons_succ]
        refine takeC (i := 8) (v := .agg (talL z0 z1 z2 z3 z4 z5 mo N cm).toArray) rfl (by kernel_rfl) (by kernel_rfl) (by kernel_rfl) (fun _ _ _ h => h) (Or.inl ⟨by rfl, fun W hW => by go_simp⟩) (HS3.out) ?_
        simp only [Act.put, List.setIfInBounds_toArray, List.set_cons_zero, List.set_cons_succ]
        refine takeC (i := 9) (v := .int .i64 0) rfl (by kernel_rfl) (by kernel_rfl) (by kernel_rfl) (fun _ _ _ h => h) (Or.inl ⟨by rfl, fun W hW => by go_simp⟩) (HS3.out) ?_
        simp only [Act.put, List.setIfInBounds_toArray, List.set_cons_zero, List.set_cons_succ]
        refine onlyC (i := 11) rfl (by kernel_rfl) (fun K hK => ?_)
        refine step_stW (by rfl) 43 _ _ (by rfl) (wd.heap.size) [.int .u64 0, .int .u64 0, .int .u64 0, .int .u64 0, .int .u64 0, .int .u64 0, .slice none 0 0] ((talL z0 z1 z2 z3 z4 z5 mo N cm)) 43 (HA3.out) (by rfl) (by rfl) (by rfl) (by kernel_rfl) talL_one ?_
        intro w_4 n_4 u_4
        have hn1 : ¬ ab = wd.heap.size := by have h2 := HSB3.out; have h3 := HGL.out; omega
        have hn2 : ¬ tb = wd.heap.size := by have h2 := HSB3.out; have h3 := HTL.out; omega
        have HSx : w_4.rangeAt ab (aoff + k0 * 5) (calL x) ∧ Blk w_4 tb (talL t0 t1 t2 t3 t4 t5 ta tn tc).toArray 43 := ⟨range_updS HS3.out.1 u_4 hn1, Blk.upd HS3.out.2 u_4 hn2⟩
        have hnm : ∀ a, mo = some a → ¬ a.block = wd.heap.size := fun a ha e => by have h1 := own_fresh HO.out a ha; have h2 := Blk.lt HA2.out; omega
        refine hK _ _ ⟨HSx, ?_⟩
        clear hK K
        refine takeC (i := 12) (v := .int .i64 0) rfl (by kernel_rfl) (by kernel_rfl) (by kernel_rfl) (fun _ _ _ h => h) (Or.inl ⟨by rfl, fun W hW => by go_simp⟩) HSx ?_
        simp only [Act.put, List.setIfInBounds_toArray, List.set_cons_zero, List.set_cons_succ]
        refine wpAnyH_done (by kernel_rfl) ?_ _
        have HMx : Hid (SkAt w_4 mo N (minF f (oneC x))) := (HM.out).upd u_4 (fun a ha => hnm a ha)
        have HBx : Hid (Below wr.heap.size wr w_4) := (HB3.out).trans (u_4.below (Below.size HB3.out) (fun k hk e => by have h2 := HSB3.out; omega))
        have HGx : Hid (∀ a, mo = some a → wr.heap.size ≤ a.block) := (fun a ha => Nat.le_trans HL2.out (own_fresh HO.out a ha) : ∀ a : Addr, mo = some a → wr.heap.size ≤ a.block)
        have HFx : Hid (∀ a, mo = some a → ¬ a.block = tb) := fun a ha e => by have h2 := (fun a ha => Nat.le_trans HL2.out (own_fresh HO.out a ha) : ∀ a : Addr, mo = some a → wr.heap.size ≤ a.block) a ha; have h3 := HTL.out; omega
        have HNx : Hid (Blk w_4 (wd.heap.size) (talL z0 z1 z2 z3 z4 z5 mo N cm).toArray 43) := n_4
        have HTx : Hid (Blk w_4 tb (talL t0 t1 t2 t3 t4 t5 ta tn tc).toArray 43) := HSx.2
        clear hnm HSx n_4 u_4 hn1 hn2
        obtain ⟨wv, hwv⟩ : ∃ V, w_4 = V := ⟨_, rfl⟩
        rw [hwv] at HMx HBx HNx HTx ⊢
        clear hwv
        go_wp2_with (first | (refine wpList_load_mid rfl 43 _ rfl (wd.heap.size) 0 rfl (talL z0 z1 z2 z3 z4 z5 mo N cm) _ (range13C HNx.out) Tryz.underlying43 rfl (by kernel_rfl) ?_) | (refine wpList_stW rfl 43 _ _ rfl tb (talL t0 t1 t2 t3 t4 t5 ta tn tc) (talL z0 z1 z2 z3 z4 z5 mo N cm) 43 HTx.out rfl rfl rfl (by kernel_rfl) talL_one ?_; intro w9 n9 u9; have HT9 : Hid (Blk w9 tb (talL z0 z1 z2 z3 z4 z5 mo N cm).toArray 43) := n9; have HU9 : Hid (Upd (fun j => j = tb) wv w9) := u9; clear n9 u9))
        (try simp only [Act.put])
        have HU : Hid (Upd (fun j => j = tb) wr w9) := (Upd.ofBelow (S := fun j => j = tb) HBx.out (fun k hk hk2 => by omega)).trans HU9.out (fun _ _ h => h)
        have HK9 : Hid (SumAt w9 tb wr.heap.size (addT n 1) (addT e (failN x)) (addT k (tookN x)) (minF f (oneC x))) := SumAt.of HZ0.out HZ1.out HZ2.out HZ3.out HZ4.out HZ5.out HT9.out (SkAt.upd HMx.out HU9.out (fun a ha e => HFx.out a ha e)) HGx.out
        clear HU9 HT9 HMx HBx HNx HTx HFx HGx
        go_roundw
        case rel =>
          refine ⟨k0 + 1, by go_num, by omega, HNEXT.out _ HK9.out, HREST.out _ HU.out⟩
        case measure => simp [intOf]; omega
    · have ek : k0 = na := by omega
      subst ek
      have HTk : Hid (l.take k0 = l) := List.take_of_length_le (by have := HLA.out; omega)
      rw [HTk.out] at HSUM
      obtain ⟨ta, tn, tc, hTb, hTs, hTf⟩ := HSUM.out.ex
      have HTF : Hid _ := hTf
      have HTS : Hid _ := hTs
      have HE2 : Hid (∀ w', SkAt w' ta tn (histF l) → Below w.heap.size w w' → R (.returned (.tuple #[talV l.length (sumC failN l) (sumC tookN l) ta tn tc, .bool true])) w') := fun w' h1 h2 => HEnd.out w' _ _ _ ta tn tc rfl rfl rfl h1 (fun a ha => by have := HTF.out a ha; omega) h2
      have HR : Hid (Blk wr w.heap.size (talL 0 0 0 0 0 0 none 0 0).toArray 43) := HW.out.2
      have HB : Hid (Below w.heap.size w wr) := HW.out.1
      have HT : Hid _ := hTb
      unfold talV at HE2
      clear hTb hTs hTf HSUM HTk HEnd HLA HX HA HW
      generalize (hi64 l.length : Int) = t0 at *
      generalize (lo64 l.length : Int) = t1 at *
      generalize (hi64 (sumC failN l) : Int) = t2 at *
      generalize (lo64 (sumC failN l) : Int) = t3 at *
      generalize (hi64 (sumC tookN l) : Int) = t4 at *
      generalize (lo64 (sumC tookN l) : Int) = t5 at *
      go_wp2_with (first
        | (refine wpList_load_mid rfl 43 _ rfl (w.heap.size + 1) 0 rfl (talL t0 t1 t2 t3 t4 t5 ta tn tc) _ (range13C HT.out) Tryz.underlying43 rfl (by kernel_rfl) ?_)
        | (refine wpList_stW rfl 43 _ _ rfl w.heap.size (talL 0 0 0 0 0 0 none 0 0) (talL t0 t1 t2 t3 t4 t5 ta tn tc) 43 HR.out rfl rfl rfl (by kernel_rfl) talL_one ?_; intro w9 n9 u9; have HT9 : Hid _ := n9; have HU9 : Hid (Upd (fun j => j = w.heap.size) wr w9) := u9; clear n9 u9))
      (try simp only [Exit.inBlock, Exit.then])
      refine bodyPost_ret (v := .tuple #[.agg (talL t0 t1 t2 t3 t4 t5 ta tn tc).toArray, .bool true]) ?_ rfl (HE2.out _ (SkAt.upd HTS.out HU9.out (fun a ha e => by have := HTF.out a ha; omega)) (HB.out.trans (HU9.out.below HB.out.size (fun k hk e => by omega))))
      rw [results_cell_tmp rfl]
      have hld := blk_loadT HT9.out
      simp [asAddr, Result.andThen, hld]
end Go.Proofs.YtbefeobikjnlpaaGreatDoor.sk

namespace Go.Proofs.YtbefeobikjnlpaaGreatDoor.sk
open Go Go.RowKit
set_option maxRecDepth 100000

/-- What the reference's sum does, step by step. -/
theorem add_steps (n m : Nat) (hn : n ≤ top128) (hm : m ≤ top128) : ∃ s0 s1 c s2 : Int, IntKind.u64.wrap ((lo64 n : Int) + (lo64 m : Int)) = s0 ∧ IntKind.u64.wrap ((hi64 n : Int) + (hi64 m : Int)) = s1 ∧ ((s0 < (lo64 n : Int) ∧ c = 1) ∨ (¬ s0 < (lo64 n : Int) ∧ c = 0)) ∧ IntKind.u64.wrap (s1 + c) = s2 ∧
    (((s1 < (hi64 n : Int) ∨ s2 < c) ∧ addT n m = top128) ∨ (¬ s1 < (hi64 n : Int) ∧ ¬ s2 < c ∧ (hi64 (addT n m) : Int) = s2 ∧ (lo64 (addT n m) : Int) = s0)) := by
  have a1 := hilo n
  have a2 := hilo m
  have a3 := lo64_lt n
  have a4 := lo64_lt m
  have hn2 : hi64 n < 18446744073709551616 := by rw [top128_eq] at hn; unfold hi64; omega
  have hm2 : hi64 m < 18446744073709551616 := by rw [top128_eq] at hm; unfold hi64; omega
  have b1 := addT_over n m hn hm
  by_cases h : n + m ≤ top128
  · obtain ⟨e1, e2⟩ := addT_hi n m h
    rw [if_pos h] at b1
    by_cases hc : lo64 n + lo64 m < 18446744073709551616
    · refine ⟨_, _, 0, _, rfl, rfl, Or.inr ⟨?_, rfl⟩, rfl, Or.inr ⟨?_, ?_, ?_, ?_⟩⟩ <;> simp only [IntKind.wrap_u64] <;> omega
    · refine ⟨_, _, 1, _, rfl, rfl, Or.inl ⟨?_, rfl⟩, rfl, Or.inr ⟨?_, ?_, ?_, ?_⟩⟩ <;> simp only [IntKind.wrap_u64] <;> omega
  · rw [if_neg h] at b1
    have e : addT n m = top128 := by unfold addT; omega
    by_cases hc : lo64 n + lo64 m < 18446744073709551616
    · refine ⟨_, _, 0, _, rfl, rfl, Or.inr ⟨?_, rfl⟩, rfl, Or.inl ⟨?_, e⟩⟩ <;> simp only [IntKind.wrap_u64] <;> omega
    · refine ⟨_, _, 1, _, rfl, rfl, Or.inl ⟨?_, rfl⟩, rfl, Or.inl ⟨?_, e⟩⟩ <;> simp only [IntKind.wrap_u64] <;> omega
set_option maxHeartbeats 1000000 in
theorem rAdd (n m : Nat) (hn : n ≤ top128) (hm : m ≤ top128) (w : World) :
    Calls Tryz.prog 16 #[natV n, natV m] w fun e w' => e = .returned (natV (addT n m)) ∧ Below w.heap.size w w' := by
  obtain ⟨s0, s1, c, s2, h0, h1, hc, h2, hr⟩ := add_steps n m hn hm
  clear hn hm
  have HR : Hid (natV top128 = .agg #[.int .u64 18446744073709551615, .int .u64 18446744073709551615]) := natV_top
  rcases hr with ⟨ho, e⟩ | ⟨g1, g2, e1, e2⟩
  · rw [e, HR.out]
    clear e HR
    unfold natV
    generalize (hi64 n : Int) = x1 at *
    generalize (lo64 n : Int) = x0 at *
    generalize (hi64 m : Int) = y1 at *
    generalize (lo64 m : Int) = y0 at *
    rcases hc with ⟨g0, rfl⟩ | ⟨g0, rfl⟩
    all_goals (try simp only [Int.add_zero] at h2)
    all_goals by_cases g1 : s1 < x1
    all_goals (try (have ho' := ho.resolve_left g1))
    all_goals clear ho
    all_goals go_enter Tryz.func16, Tryz.ntmps16
    all_goals go_wp2
    all_goals go_returns
    all_goals exact ⟨rfl, (by repeat' first | exact Below.refl _ _ | refine Below.alloc ?_ (by first | exact Nat.le_refl _ | (simp; done) | (simp; omega)) _)⟩
  · clear HR
    unfold natV
    rw [e1, e2]
    clear e1 e2
    generalize (hi64 n : Int) = x1 at *
    generalize (lo64 n : Int) = x0 at *
    generalize (hi64 m : Int) = y1 at *
    generalize (lo64 m : Int) = y0 at *
    rcases hc with ⟨g0, rfl⟩ | ⟨g0, rfl⟩
    all_goals (try simp only [Int.add_zero] at h2)
    all_goals go_enter Tryz.func16, Tryz.ntmps16
    all_goals go_wp2
    all_goals go_returns
    all_goals exact ⟨rfl, (by repeat' first | exact Below.refl _ _ | refine Below.alloc ?_ (by first | exact Nat.le_refl _ | (simp; done) | (simp; omega)) _)⟩
end Go.Proofs.YtbefeobikjnlpaaGreatDoor.sk
