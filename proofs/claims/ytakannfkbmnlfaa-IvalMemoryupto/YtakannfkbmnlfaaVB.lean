/-
  Layer 6, the reference: rows of cuts; cuts.
-/
import Derived.Test.YtakannfkbmnlfaaVA
import Derived.Test.YtakannfkbmnlfaaVc
namespace Go.Proofs.Ytakannfkbmnlfaa
open Go.RowKit
set_option maxRecDepth 100000

theorem Try.info56 : (Try.prog.info? 56).map (fun i => (i.zero, i.size, i.bytes)) = some (some (.agg #[.int .i64 0, .int .i64 0, .int .i64 0]), 3, 24) := by kernel_rfl

def cuC (e : Int × Int × Int) : List Value := [.int .i64 e.1, .int .i64 (stepE e), .int .i64 e.2.2]
def OwnU (base : Nat) (w : World) (v : Value) (l : List (Int × Int × Int)) : Prop := w.ownsRow base 56 3 v l.length (l.flatMap cuC)
theorem cuC_len (l : List (Int × Int × Int)) : (l.flatMap cuC).length = l.length * 3 := by
  induction l with
  | nil => rfl
  | cons i l ih => rw [List.flatMap_cons, List.length_append, ih]; simp [cuC]; omega
theorem cuC_one (l : List (Int × Int × Int)) : ∀ u ∈ l.flatMap cuC, u.oneCell' = true := by
  intro u hu
  obtain ⟨i, _, hi⟩ := List.mem_flatMap.mp hu
  simp [cuC] at hi
  rcases hi with rfl | rfl | rfl <;> rfl
theorem cuC_at (l : List (Int × Int × Int)) : ∀ i (hi : i < l.length), (l.flatMap cuC)[i * 3]? = some (.int .i64 l[i].1) ∧ (l.flatMap cuC)[i * 3 + 1]? = some (.int .i64 (stepE l[i])) ∧ (l.flatMap cuC)[i * 3 + 2]? = some (.int .i64 l[i].2.2) := by
  induction l with
  | nil => intro i hi; simp at hi
  | cons p r ih =>
    intro i hi
    rw [List.flatMap_cons]
    cases i with
    | zero => exact ⟨rfl, rfl, rfl⟩
    | succ i =>
      have h2 : (cuC p).length = 3 := rfl
      rw [List.getElem?_append_right (by omega), List.getElem?_append_right (by omega), List.getElem?_append_right (by omega), h2, show (i + 1) * 3 - 3 = i * 3 by omega, show (i + 1) * 3 + 1 - 3 = i * 3 + 1 by omega, show (i + 1) * 3 + 2 - 3 = i * 3 + 2 by omega]
      exact ih i (by simpa using hi)
/-- Cuts lie here. -/
structure CuAt (w : World) (ad : Option Addr) (n : Nat) (l : List (Int × Int × Int)) : Prop where
  len : l.length = n
  lies : 0 < n → ∃ b off, ad = some ⟨b, off, none⟩ ∧ ∀ i (_ : i < l.length), w.cell? ⟨b, off + i * 3, none⟩ = some (.int .i64 l[i].1) ∧ w.cell? ⟨b, off + i * 3 + 1, none⟩ = some (.int .i64 (stepE l[i])) ∧ w.cell? ⟨b, off + i * 3 + 2, none⟩ = some (.int .i64 l[i].2.2)
theorem CuAt.upd {S : Nat → Prop} {w w' : World} {ad : Option Addr} {n : Nat} {l : List (Int × Int × Int)} (h : CuAt w ad n l) (hu : Upd S w w') (hS : ∀ a, ad = some a → ¬ S a.block) : CuAt w' ad n l := by
  refine ⟨h.len, fun hp => ?_⟩
  obtain ⟨b, off, ha, hc⟩ := h.lies hp
  refine ⟨b, off, ha, fun i hi => ?_⟩
  obtain ⟨c0, c1, c2⟩ := hc i hi
  exact ⟨cell_upd hu c0 (hS ⟨b, off, none⟩ ha), cell_upd hu c1 (hS ⟨b, off, none⟩ ha), cell_upd hu c2 (hS ⟨b, off, none⟩ ha)⟩
theorem CuAt.below {w w' : World} {ad : Option Addr} {n : Nat} {l : List (Int × Int × Int)} (h : CuAt w ad n l) (hb : Below w.heap.size w w') : CuAt w' ad n l :=
  h.upd (Upd.ofBelow (S := fun _ => False) hb (fun k hk hk' => by omega)) (fun _ _ h => h)
theorem OwnU.at {base : Nat} {w : World} {ao : Option Addr} {n c : Nat} {l : List (Int × Int × Int)} (h : OwnU base w (.slice ao n c) l) : CuAt w ao n l := by
  have hc := own_cap h
  refine ⟨hc.1.symm, fun hp => ?_⟩
  obtain ⟨g, cap, e, _, _, _, hx⟩ := own_some h (by omega)
  simp at e
  refine ⟨g, 0, e.1, fun i hi => ?_⟩
  obtain ⟨a, b, c⟩ := cuC_at l i hi
  rw [Nat.zero_add]
  exact ⟨hx _ _ a, hx _ _ b, hx _ _ c⟩
theorem OwnU.nil (base : Nat) (w : World) : OwnU base w (.slice none 0 0) [] := World.ownsRow_nil w base _ 3
theorem OwnU.len {base : Nat} {w : World} {ao : Option Addr} {n c : Nat} {l : List (Int × Int × Int)} (h : OwnU base w (.slice ao n c) l) : n = l.length := (own_cap h).1
theorem OwnU.below {base : Nat} {w w' : World} {v : Value} {l : List (Int × Int × Int)} (h : OwnU base w v l) (hb : Below w.heap.size w w') : OwnU base w' v l :=
  ownsRow_upd h (Upd.ofBelow (S := fun _ => False) hb (fun k hk hk' => by omega)) (fun _ _ h => h)
theorem OwnU.alloc {base : Nat} {w : World} {v : Value} {l : List (Int × Int × Int)} (h : OwnU base w v l) (o : Obj) : OwnU base (w.alloc o) v l :=
  ownsRow_upd h ((Upd.refl (fun _ => False) w).alloc o) (fun _ _ h => h)

theorem rEmp_any (f t : Int) (w : World) :
    Calls Try.prog 37 #[.agg #[.int .i64 f, .int .i64 t]] w fun e w' => e = .returned (.bool (decide (t ≤ f))) ∧ w' = w.alloc (.cells #[.int .i64 f, .int .i64 t] 35) := by
  go_enter Try.func37, Try.ntmps37
  go_wp2
  go_ret
  exact ⟨rfl, rfl⟩
/-- A row that was appended to: below it all is as it was. -/
theorem below_own {base : Nat} {w0 w w' : World} {e : TypeId} {s n : Nat} {v : Value} {xs : List Value} (hb : Below base w0 w) (ho : w.ownsRow base e s v n xs) (hbase : base ≤ w.heap.size) (hg : w.grownBy w' v.ownBlock) : Below base w0 w' := by
  refine hb.trans ⟨hg.os, hg.tape, hg.output, hg.size, fun k hk => hg.block k (by omega) (fun e => ?_)⟩
  obtain ⟨h1, _⟩ := own_block ho e.symm
  omega
set_option maxHeartbeats 2000000 in
theorem cuts_any (w0 : World) (ad : Option Addr) (n ca : Nat) (A : List (Int × Int)) (j : Int) (hA : IvAt w0 ad n A) (hn : n ≤ 274877906944) (v : Value) (E0 : List (Int × Int × Int)) (w : World) (hb0 : Below w0.heap.size w0 w) (ho : OwnU w0.heap.size w v E0) (hE : E0.length ≤ 1099511627776) :
    Calls Try.prog 35 #[v, .slice ad n ca, .int .i64 j] w fun e w' => ∃ v', e = .returned v' ∧ OwnU w0.heap.size w' v' (E0 ++ endsL j A) ∧ Below w0.heap.size w0 w' := by
  obtain ⟨i0, hi, hz0, hz1, hz2⟩ := info_parts Try.info56
  have HO : Hid (OwnU w0.heap.size w v E0) := ho
  have HB0 : Hid (Below w0.heap.size w0 w) := hb0
  have hAl := hA.len
  have HA : Hid (IvAt w0 ad n A) := hA
  obtain ⟨a0, l0, c0, hv0⟩ := row_shape ho
  subst hv0
  clear ho hb0 hA
  go_enter Try.func35, Try.ntmps35
  go_wp2
  go_loopw [0, 7] (fun a b wr => ∃ (i : Nat), b = .int .i64 i ∧ i ≤ n ∧ Hid (OwnU w0.heap.size wr a (E0 ++ endsL j (A.take i))) ∧ Hid (Below w0.heap.size w0 wr)) (fun _ b _ => n - (intOf b).toNat)
  case atStart => exact ⟨0, rfl, by omega, (show OwnU _ _ _ (E0 ++ endsL j []) by rw [show endsL j [] = [] from rfl, List.append_nil]; exact HO.out), HB0⟩
  case round =>
    obtain ⟨i, rfl, hin, HM, HB⟩ := hrel
    obtain ⟨ao, L, cp, hsh⟩ := row_shape HM.out
    subst hsh
    by_cases hlt : i < n
    · have hlt' : (i : Int) < (n : Int) := by omega
      obtain ⟨b, off, had, hc⟩ := (HA.out.below HB.out).lies (by omega)
      obtain ⟨k0, k1⟩ := hc i (by omega)
      have ht := cutU_take j A i (by omega)
      have hbd := cutU_len j (A.take i)
      have hbd2 : (A.take i).length = i := by rw [List.length_take]; omega
      generalize A[i]'(by omega) = x at k0 k1 ht
      obtain ⟨x1, x2⟩ := x
      simp only at k0 k1
      have HT : Hid _ := ht
      have hLl := HM.out.len
      rw [List.length_append] at hLl
      have hL3 : L + 2 ≤ 5629499534213 := by omega
      obtain ⟨w2, hw2⟩ : ∃ W, wr.alloc (.cells #[.int .i64 x1, .int .i64 x2] 35) = W := ⟨_, rfl⟩
      have hbw : Below wr.heap.size wr w2 := by rw [← hw2]; exact (Below.refl _ _).alloc (Nat.le_refl _) _
      have E := rEmp_any x1 x2 wr
      rw [hw2] at E
      have o2 : OwnU w0.heap.size w2 (.slice ao L cp) (E0 ++ endsL j (A.take i)) := HM.out.below hbw
      have HB2 : Hid (Below w0.heap.size w0 w2) := HB.out.trans (hbw.mono HB.out.size)
      have k0' := k0
      have k1' := k1
      subst had
      have d0 : w2.cell? ⟨b, off + i * 2, none⟩ = some (.int .i64 x1) := (cell_upd (Upd.ofBelow (S := fun _ => False) hbw (fun k hk hk' => by omega)) k0 (fun h => h))
      have d1 : w2.cell? ⟨b, off + i * 2 + 1, none⟩ = some (.int .i64 x2) := (cell_upd (Upd.ofBelow (S := fun _ => False) hbw (fun k hk hk' => by omega)) k1 (fun h => h))
      have HLL : Hid (L = (E0 ++ endsL j (A.take i)).length) := HM.out.len
      clear ht hc hbd hbd2 hLl hw2 k0' k1'
      by_cases he : x2 ≤ x1
      · have he' : decide (x2 ≤ x1) = true := decide_eq_true he
        have HO2 : Hid _ := o2
        clear o2
        go_wp2_with (go_at_call 37; (with_reducible refine E.mono ?_); clear E; rintro e w3 ⟨rfl, hw3⟩; obtain rfl := hw3.symm; clear hw3)
        go_roundw
        case rel =>
          refine ⟨i + 1, by go_num, by omega, ?_, HB2⟩
          have ht := HT.out
          show OwnU _ _ _ _
          rw [ht, if_pos he, List.append_nil]
          exact HO2.out
        case measure => simp [intOf]; omega
      · have he' : decide (x2 ≤ x1) = false := decide_eq_false he
        have ow : w2.ownsRow w0.heap.size 56 3 (.slice ao L cp) L ((E0 ++ endsL j (A.take i)).flatMap cuC) := by
          have := o2
          unfold OwnU at this
          rw [← HLL.out] at this
          exact this
        have HOW : Hid (w2.ownsRow w0.heap.size 56 3 (.slice ao L cp) L ((E0 ++ endsL j (A.take i)).flatMap cuC)) := ow
        have bw2 := HB2.out.size
        obtain ⟨o, ho⟩ : ∃ o : Obj, o = .cells #[.int .i64 x1, .int .i64 1, .int .i64 j, .int .i64 x2, .int .i64 (-1), .int .i64 j] 56 := ⟨_, rfl⟩
        have hc6 : ∀ q u, ([.int .i64 x1, .int .i64 1, .int .i64 j, .int .i64 x2, .int .i64 (-1), .int .i64 j] : List Value)[q]? = some u → ((w2.alloc (.cells #[.int .i64 x1, .int .i64 1, .int .i64 j, .int .i64 x2, .int .i64 (-1), .int .i64 j] 56)).drew).cell? ((⟨w2.heap.size, 0, none⟩ : Addr).add q) = some u := World.news_of_block (cs := #[.int .i64 x1, .int .i64 1, .int .i64 j, .int .i64 x2, .int .i64 (-1), .int .i64 j]) (t := 56) (fr := (0, 0)) (heap_alloc_new w2 _)
        have hc3 : L + 2 ≤ maxLen := by unfold maxLen; omega
        have hc4 : (L + 2) * 24 ≤ 140737488355328 := by omega
        have hc5 : w0.heap.size ≤ ((w2.alloc (.cells #[.int .i64 x1, .int .i64 1, .int .i64 j, .int .i64 x2, .int .i64 (-1), .int .i64 j] 56)).drew).heap.size := by show w0.heap.size ≤ (w2.alloc _).heap.size; simp; omega
        have hbn : Below w2.heap.size w2 (w2.alloc (.cells #[.int .i64 x1, .int .i64 1, .int .i64 j, .int .i64 x2, .int .i64 (-1), .int .i64 j] 56)) := (Below.refl _ _).alloc (Nat.le_refl _) _
        have f0 : (w2.alloc (.cells #[.int .i64 x1, .int .i64 1, .int .i64 j, .int .i64 x2, .int .i64 (-1), .int .i64 j] 56)).cell? ⟨b, off + i * 2, none⟩ = some (.int .i64 x1) := (cell_upd (Upd.ofBelow (S := fun _ => False) hbn (fun k hk hk' => by omega)) d0 (fun h => h))
        have f1 : (w2.alloc (.cells #[.int .i64 x1, .int .i64 1, .int .i64 j, .int .i64 x2, .int .i64 (-1), .int .i64 j] 56)).cell? ⟨b, off + i * 2 + 1, none⟩ = some (.int .i64 x2) := (cell_upd (Upd.ofBelow (S := fun _ => False) hbn (fun k hk hk' => by omega)) d1 (fun h => h))
        have HFIN : Hid (∀ gg cap w3, w3.ownsRow w0.heap.size 56 3 (.slice (some ⟨gg, 0, none⟩) (L + 2) cap) (L + 2) ((E0 ++ endsL j (A.take i)).flatMap cuC ++ [.int .i64 x1, .int .i64 1, .int .i64 j, .int .i64 x2, .int .i64 (-1), .int .i64 j]) → ((w2.alloc (.cells #[.int .i64 x1, .int .i64 1, .int .i64 j, .int .i64 x2, .int .i64 (-1), .int .i64 j] 56)).drew).grownBy w3 (Value.slice ao L cp).ownBlock → Hid (OwnU w0.heap.size w3 (.slice (some ⟨gg, 0, none⟩) (L + 2) cap) (E0 ++ endsL j (A.take (i + 1)))) ∧ Hid (Below w0.heap.size w0 w3)) := by
          intro gg cap w3 o3 g3
          refine ⟨?_, ?_⟩
          · show OwnU _ _ _ _
            have ht := HT.out
            rw [ht, if_neg he, ← List.append_assoc]
            unfold OwnU
            rw [List.length_append, ← HLL.out, List.flatMap_append]
            exact o3
          · exact below_own ((HB2.out.alloc HB2.out.size _).drew) ((HOW.out.alloc _).drew) hc5 g3
        clear o ho hbn o2 ow
        go_wp2_with (go_at_call 37; (with_reducible refine E.mono ?_); clear E; rintro e w3 ⟨rfl, hw3⟩; obtain rfl := hw3.symm; clear hw3)
        go_region_law ((refine step_append_lies _ (by rfl) _ _ _ (by rfl) w0.heap.size 56 i0 _ 3 24 Try.underlying52 hi hz0 hz1 hz2 rfl (by omega) (.slice ao L cp) L ((E0 ++ endsL j (A.take i)).flatMap cuC) (by rfl) ((HOW.out.alloc _).drew) ⟨w2.heap.size, 0, none⟩ 2 2 [.int .i64 x1, .int .i64 1, .int .i64 j, .int .i64 x2, .int .i64 (-1), .int .i64 j] (by rfl) (by rfl) hc6 (by simp [Value.oneCell']) (by omega) hc3 hc4 hc5 (w2.heap.size + 1) (by simp) ?_; intro gg cap w3 o3 g3 at3 lt3; obtain ⟨HO3, HB3⟩ := HFIN.out gg cap w3 o3 g3; clear o3 g3 at3 lt3))
        all_goals go_wp2
        all_goals go_roundw
        all_goals first
          | exact ⟨i + 1, by go_num, by omega, HO3, HB3⟩
          | (simp [intOf]; omega)
    · have hlt' : ¬ (i : Int) < (n : Int) := by omega
      have HT : Hid (A.take i = A) := List.take_of_length_le (by omega)
      go_wp2
      go_ret
      exact ⟨_, rfl, (by have := HM.out; rw [HT.out] at this; exact this), HB.out⟩
end Go.Proofs.Ytakannfkbmnlfaa
