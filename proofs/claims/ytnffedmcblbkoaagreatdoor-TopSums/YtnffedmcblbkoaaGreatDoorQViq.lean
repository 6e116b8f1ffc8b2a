/-
  Merged: QVi, QVj, QVl, QVp, QVs, QVE.
-/
import Derived.Test.YtnffedmcblbkoaaGreatDoorQVhq
import Derived.Test.YtnffedmcblbkoaaGreatDoorMwq
import Derived.Test.YtnffedmcblbkoaaGreatDoorZmq
import Derived.Laws.StructEq
namespace Go.Proofs.YtnffedmcblbkoaaGreatDoor.iv
open Go.Shelf Go.RowKit Go.Lib
set_option maxRecDepth 100000
theorem endsL_cons (j : Int) (i : Int × Int) (a : List (Int × Int)) : endsL j (i :: a) = if i.2 ≤ i.1 then endsL j a else (i.1, 0, j) :: (i.2, 1, j) :: endsL j a := rfl
theorem endsL_append (j : Int) : ∀ (a b : List (Int × Int)), endsL j (a ++ b) = endsL j a ++ endsL j b
 | [], _ => rfl
 | i :: a, b => by
  rw [List.cons_append, endsL_cons, endsL_cons, endsL_append j a b]
  split <;> rfl
theorem endsL_len (j : Int) : ∀ (a : List (Int × Int)), (endsL j a).length ≤ 2 * a.length
 | [] => Nat.le_refl _
 | i :: a => by
  have := endsL_len j a
  unfold endsL
  split <;> simp <;> omega
theorem endsL_take (j : Int) (A : List (Int × Int)) (i : Nat) (hi : i < A.length) : endsL j (A.take (i + 1)) = endsL j (A.take i) ++ if A[i].2 ≤ A[i].1 then [] else [(A[i].1, 0, j), (A[i].2, 1, j)] := by
 rw [List.take_succ_eq_append_getElem hi, endsL_append]
 rfl
theorem endsL_ok (j : Int) (hj : j = 0 ∨ j = 1) : ∀ (a : List (Int × Int)), ∀ e ∈ endsL j a, EndOk e
 | [], _, h => by cases h
 | i :: a, e, h => by
  unfold endsL at h
  split at h
  ·exact endsL_ok j hj a e h
  ·rcases List.mem_cons.mp h with rfl | h
   ·exact ⟨Or.inl rfl, hj⟩
   ·rcases List.mem_cons.mp h with rfl | h
    ·exact ⟨Or.inr rfl, hj⟩
    ·exact endsL_ok j hj a e h
theorem ownE_alloc {base : Nat} {w : World} {v : Value} {l : List (Int × Int × Int)} (h : OwnE base w v l) (o : Obj) : OwnE base (w.alloc o) v l :=
 ownsRow_upd h ((Upd.refl (fun _ => False) w).alloc o) (fun _ _ h => h)
def Mid (w wr : World) (v : Value) (N : Nat) (E : List (Int × Int × Int)) : Prop :=
 ∃ L, v = .slice (some ⟨w.heap.size, 0, none⟩) L (2 * N) ∧ OwnE w.heap.size wr v E ∧ Below w.heap.size w wr
set_option maxHeartbeats 2000000 in
theorem endsOf_any (ad bd : Option Addr) (n m ca cb : Nat) (A B : List (Int × Int)) (w : World) (hA : IvAt w ad n A) (hB : IvAt w bd m B) (hn : n + m ≤ 1099511627776) :
  Calls Tryz.prog 197 #[.slice ad n ca, .slice bd m cb] w fun e w' => ∃ g k cap E, e = .returned (.slice (some ⟨g, 0, none⟩) k cap) ∧ (endsL 0 A ++ endsL 1 B).Perm E ∧ E.Pairwise (fun e f => e.1 ≤ f.1) ∧ EnAt w' (some ⟨g, 0, none⟩) k E ∧ w.heap.size ≤ g ∧ Below w.heap.size w w' := by
 obtain ⟨i0, hi, hz0, hz1, hz2⟩ := info_parts Tryz.info279
 have hw1 : IntKind.i64.wrap ((n : Int) + m) = n + m := wrap_i64_in _ (by omega) (by omega)
 have hw2 : IntKind.i64.wrap (2 * ((n : Int) + m)) = 2 * (n + m) := wrap_i64_in _ (by omega) (by omega)
 have hx0 : ∀ W : World, (Instr.index 306 (.agg #[.slice ad n ca, .slice bd m cb]) (.int .i64 0)).run Tryz.prog W = .ok (.slice ad n ca) W := fun W => by kernel_rfl
 have hx1 : ∀ W : World, (Instr.index 306 (.agg #[.slice ad n ca, .slice bd m cb]) (.int .i64 1)).run Tryz.prog W = .ok (.slice bd m cb) W := fun W => by kernel_rfl
 go_enter Tryz.func197, Tryz.ntmps197
 go_wp2_with (at_make; refine wpList_make_own _ rfl _ _ 276 rfl w.heap.size 279 i0 _ 3 Tryz.underlying276 hi hz0 hz1 .i64 .i64 _ (2 * (n + m)) rfl rfl (by omega) (by rw [hz2]; omega) (by unfold maxLen; omega) (Nat.le_refl _) ?_; intro w1 o1 g1)
 clear hw1 hw2
 go_loopw [5, 20] (fun a b wr => (b = .int .i64 0 ∧ Mid w wr a (n + m) []) ∨ (b = .int .i64 1 ∧ Mid w wr a (n + m) (endsL 0 A)) ∨ (b = .int .i64 2 ∧ Mid w wr a (n + m) (endsL 0 A ++ endsL 1 B))) (fun _ b _ => 2 - (intOf b).toNat)
 case atStart => exact Or.inl ⟨rfl, 0, rfl, o1, g1.os, g1.tape, g1.output, g1.size, fun k hk => g1.block k hk (by simp)⟩
 case round =>
  rcases hrel with ⟨rfl, hm⟩ | ⟨rfl, hm⟩ | ⟨rfl, hm⟩
  ·have HM : Hid _ := hm
   have HP : Hid (([] : List (Int × Int × Int)).length ≤ 2 * m) := by show _ ≤ _; simp
   obtain ⟨L0, rfl, _, _⟩ := hm
   go_wp2
   go_wp2
   go_loopw [5, 26] (fun a b wi => ∃ (i : Nat), b = .int .i64 i ∧ i ≤ n ∧ Mid w wi a (n + m) ([] ++ endsL 0 (A.take i))) (fun _ b _ => n - (intOf b).toNat)
   case atStart => exact ⟨0, rfl, by omega, (show Mid _ _ _ _ ([] ++ endsL 0 []) by rw [show endsL 0 [] = [] from rfl, List.append_nil]; exact HM.out)⟩
   case round =>
    obtain ⟨i, rfl, hin, hm⟩ := hrel
    obtain ⟨L, rfl, ho, hb⟩ := hm
    have hLl := (own_cap ho).1
    have hsz := hb.size
    by_cases hlt : i < n
    ·have hlt' : (i : Int) < (n : Int) := by omega
     obtain ⟨b, off, had, hc⟩ := (hA.below hb).lies (by omega)
     obtain ⟨k0, k1⟩ := hc i (by rw [hA.len]; exact hlt)
     have ht := endsL_take 0 A i (by rw [hA.len]; exact hlt)
     have hbd := endsL_len 0 (A.take i)
     have hbd2 : (A.take i).length = i := by rw [List.length_take, hA.len]; omega
     generalize A[i]'(by rw [hA.len]; exact hlt) = x at k0 k1 ht
     obtain ⟨x1, x2⟩ := x
     have hl3 : L + 2 ≤ 2 * (n + m) := by rw [hLl, List.length_append]; have := HP.out; omega
     have E := empty_any x1 x2
     have HT : Hid _ := ht
     have HO : Hid _ := ho
     have HLL : Hid (L = ([] ++ endsL 0 (A.take i)).length) := hLl
     have HAD : Hid _ := had
     clear ht hc hbd hbd2 ho hLl
     subst had
     by_cases he : x2 ≤ x1
     ·have he' : decide (x2 ≤ x1) = true := decide_eq_true he
      go_wp2_with (go_at_call 97; refine (E _).mono ?_; rintro e w2 ⟨rfl, rfl⟩)
      go_roundw
      case rel =>
       refine ⟨i + 1, by go_num, by omega, ?_⟩
       have ht := HT.out
       rw [ht, if_pos he, List.append_nil]
       exact ⟨L, rfl, ownE_alloc (ownE_alloc HO.out _) _, (hb.alloc hb.size _).alloc (by simp; omega) _⟩
      case measure => simp [intOf]; omega
     ·have he' : decide (x2 ≤ x1) = false := decide_eq_false he
      have OW : (((wr.alloc (.cells #[.int .i64 x1, .int .i64 x2] 36)).alloc (.cells #[.int .i64 x1, .int .i64 x2] 36)).alloc (.cells #[.int .i64 x1, .int .i64 0, .int .i64 0, .int .i64 x2, .int .i64 1, .int .i64 0] 279)).ownsRow w.heap.size 279 3 (.slice (some ⟨w.heap.size, 0, none⟩) L (2 * (n + m))) L (([] ++ endsL 0 (A.take i)).flatMap enC) := by
       have := ownE_alloc (ownE_alloc (ownE_alloc HO.out (.cells #[.int .i64 x1, .int .i64 x2] 36)) (.cells #[.int .i64 x1, .int .i64 x2] 36)) (.cells #[.int .i64 x1, .int .i64 0, .int .i64 0, .int .i64 x2, .int .i64 1, .int .i64 0] 279)
       unfold OwnE at this
       rw [← HLL.out] at this
       exact this
      have hN : ∀ q u, ([.int .i64 x1, .int .i64 0, .int .i64 0, .int .i64 x2, .int .i64 1, .int .i64 0] : List Value)[q]? = some u → (((wr.alloc (.cells #[.int .i64 x1, .int .i64 x2] 36)).alloc (.cells #[.int .i64 x1, .int .i64 x2] 36)).alloc (.cells #[.int .i64 x1, .int .i64 0, .int .i64 0, .int .i64 x2, .int .i64 1, .int .i64 0] 279)).cell? ((⟨wr.heap.size + 1 + 1, 0, none⟩ : Addr).add q) = some u :=
       World.news_of_block (cs := #[.int .i64 x1, .int .i64 0, .int .i64 0, .int .i64 x2, .int .i64 1, .int .i64 0]) (t := 279) (fr := (0, 0)) (by have := heap_alloc_new ((wr.alloc (.cells #[.int .i64 x1, .int .i64 x2] 36)).alloc (.cells #[.int .i64 x1, .int .i64 x2] 36)) (.cells #[.int .i64 x1, .int .i64 0, .int .i64 0, .int .i64 x2, .int .i64 1, .int .i64 0] 279); simpa using this)
      go_wp2_with (first
       | (go_at_call 97; refine (E _).mono ?_; rintro e w2 ⟨rfl, rfl⟩)
       | (at_builtin; refine wpList_append_fits _ rfl _ _ 276 rfl w.heap.size 279 i0 3 Tryz.underlying276 hi hz1 w.heap.size L (2 * (n + m)) _ rfl OW ⟨wr.heap.size + 1 + 1, 0, none⟩ 2 2 [.int .i64 x1, .int .i64 0, .int .i64 0, .int .i64 x2, .int .i64 1, .int .i64 0] rfl rfl hN (by simp [Value.oneCell']) hl3 ?_; clear OW hN; intro w3 o3 g3))
      go_roundw
      case rel =>
       refine ⟨i + 1, by go_num, by omega, L + 2, rfl, ?_, ?_⟩
       ·have ht := HT.out
        rw [ht, if_neg (by show ¬ x2 ≤ x1; omega), ← List.append_assoc]
        unfold OwnE
        rw [List.length_append, ← HLL.out, List.flatMap_append]
        exact o3
       ·have b3 := ((hb.alloc hb.size (.cells #[.int .i64 x1, .int .i64 x2] 36)).alloc (by simp; omega) (.cells #[.int .i64 x1, .int .i64 x2] 36)).alloc (by simp; omega) (.cells #[.int .i64 x1, .int .i64 0, .int .i64 0, .int .i64 x2, .int .i64 1, .int .i64 0] 279)
        exact b3.trans ⟨g3.os, g3.tape, g3.output, g3.size, fun q hq => g3.block q (by simp; omega) (fun e => by cases e; omega)⟩
      case measure => simp [intOf]; omega
    ·have hlt' : ¬ (i : Int) < (n : Int) := by omega
     obtain ⟨_, hle⟩ : True ∧ n ≤ i := ⟨trivial, by omega⟩
     have HT : Hid (([] ++ endsL 0 (A.take i)) = [] ++ endsL 0 A) := by show _ = _; rw [List.take_of_length_le (by rw [hA.len]; exact hle)]
     have HO : Hid _ := ho
     clear ho hLl hle
     go_wp2
     go_roundw
     case rel =>
      have := HO.out
      rw [HT.out] at this
      exact Or.inr (Or.inl ⟨rfl, L, rfl, (by rw [List.nil_append] at this; exact this), hb⟩)
     case measure => simp [intOf]
  ·have HM : Hid _ := hm
   have HP : Hid ((endsL 0 A).length ≤ 2 * n) := by have := endsL_len 0 A; rw [hA.len] at this; exact this
   obtain ⟨L0, rfl, _, _⟩ := hm
   go_wp2
   go_wp2
   go_loopw [5, 26] (fun a b wi => ∃ (i : Nat), b = .int .i64 i ∧ i ≤ m ∧ Mid w wi a (n + m) (endsL 0 A ++ endsL 1 (B.take i))) (fun _ b _ => m - (intOf b).toNat)
   case atStart => exact ⟨0, rfl, by omega, (show Mid _ _ _ _ (endsL 0 A ++ endsL 1 []) by rw [show endsL 1 [] = [] from rfl, List.append_nil]; exact HM.out)⟩
   case round =>
    obtain ⟨i, rfl, hin, hm⟩ := hrel
    obtain ⟨L, rfl, ho, hb⟩ := hm
    have hLl := (own_cap ho).1
    have hsz := hb.size
    by_cases hlt : i < m
    ·have hlt' : (i : Int) < (m : Int) := by omega
     obtain ⟨b, off, had, hc⟩ := (hB.below hb).lies (by omega)
     obtain ⟨k0, k1⟩ := hc i (by rw [hB.len]; exact hlt)
     have ht := endsL_take 1 B i (by rw [hB.len]; exact hlt)
     have hbd := endsL_len 1 (B.take i)
     have hbd2 : (B.take i).length = i := by rw [List.length_take, hB.len]; omega
     generalize B[i]'(by rw [hB.len]; exact hlt) = x at k0 k1 ht
     obtain ⟨x1, x2⟩ := x
     have hl3 : L + 2 ≤ 2 * (n + m) := by rw [hLl, List.length_append]; have := HP.out; omega
     have E := empty_any x1 x2
     have HT : Hid _ := ht
     have HO : Hid _ := ho
     have HLL : Hid (L = (endsL 0 A ++ endsL 1 (B.take i)).length) := hLl
     have HAD : Hid _ := had
     clear ht hc hbd hbd2 ho hLl
     subst had
     by_cases he : x2 ≤ x1
     ·have he' : decide (x2 ≤ x1) = true := decide_eq_true he
      go_wp2_with (go_at_call 97; refine (E _).mono ?_; rintro e w2 ⟨rfl, rfl⟩)
      go_roundw
      case rel =>
       refine ⟨i + 1, by go_num, by omega, ?_⟩
       have ht := HT.out
       rw [ht, if_pos he, List.append_nil]
       exact ⟨L, rfl, ownE_alloc (ownE_alloc HO.out _) _, (hb.alloc hb.size _).alloc (by simp; omega) _⟩
      case measure => simp [intOf]; omega
     ·have he' : decide (x2 ≤ x1) = false := decide_eq_false he
      have OW : (((wr.alloc (.cells #[.int .i64 x1, .int .i64 x2] 36)).alloc (.cells #[.int .i64 x1, .int .i64 x2] 36)).alloc (.cells #[.int .i64 x1, .int .i64 0, .int .i64 1, .int .i64 x2, .int .i64 1, .int .i64 1] 279)).ownsRow w.heap.size 279 3 (.slice (some ⟨w.heap.size, 0, none⟩) L (2 * (n + m))) L ((endsL 0 A ++ endsL 1 (B.take i)).flatMap enC) := by
       have := ownE_alloc (ownE_alloc (ownE_alloc HO.out (.cells #[.int .i64 x1, .int .i64 x2] 36)) (.cells #[.int .i64 x1, .int .i64 x2] 36)) (.cells #[.int .i64 x1, .int .i64 0, .int .i64 1, .int .i64 x2, .int .i64 1, .int .i64 1] 279)
       unfold OwnE at this
       rw [← HLL.out] at this
       exact this
      have hN : ∀ q u, ([.int .i64 x1, .int .i64 0, .int .i64 1, .int .i64 x2, .int .i64 1, .int .i64 1] : List Value)[q]? = some u → (((wr.alloc (.cells #[.int .i64 x1, .int .i64 x2] 36)).alloc (.cells #[.int .i64 x1, .int .i64 x2] 36)).alloc (.cells #[.int .i64 x1, .int .i64 0, .int .i64 1, .int .i64 x2, .int .i64 1, .int .i64 1] 279)).cell? ((⟨wr.heap.size + 1 + 1, 0, none⟩ : Addr).add q) = some u :=
       World.news_of_block (cs := #[.int .i64 x1, .int .i64 0, .int .i64 1, .int .i64 x2, .int .i64 1, .int .i64 1]) (t := 279) (fr := (0, 0)) (by have := heap_alloc_new ((wr.alloc (.cells #[.int .i64 x1, .int .i64 x2] 36)).alloc (.cells #[.int .i64 x1, .int .i64 x2] 36)) (.cells #[.int .i64 x1, .int .i64 0, .int .i64 1, .int .i64 x2, .int .i64 1, .int .i64 1] 279); simpa using this)
      go_wp2_with (first
       | (go_at_call 97; refine (E _).mono ?_; rintro e w2 ⟨rfl, rfl⟩)
       | (at_builtin; refine wpList_append_fits _ rfl _ _ 276 rfl w.heap.size 279 i0 3 Tryz.underlying276 hi hz1 w.heap.size L (2 * (n + m)) _ rfl OW ⟨wr.heap.size + 1 + 1, 0, none⟩ 2 2 [.int .i64 x1, .int .i64 0, .int .i64 1, .int .i64 x2, .int .i64 1, .int .i64 1] rfl rfl hN (by simp [Value.oneCell']) hl3 ?_; clear OW hN; intro w3 o3 g3))
      go_roundw
      case rel =>
       refine ⟨i + 1, by go_num, by omega, L + 2, rfl, ?_, ?_⟩
       ·have ht := HT.out
        rw [ht, if_neg (by show ¬ x2 ≤ x1; omega), ← List.append_assoc]
        unfold OwnE
        rw [List.length_append, ← HLL.out, List.flatMap_append]
        exact o3
       ·have b3 := ((hb.alloc hb.size (.cells #[.int .i64 x1, .int .i64 x2] 36)).alloc (by simp; omega) (.cells #[.int .i64 x1, .int .i64 x2] 36)).alloc (by simp; omega) (.cells #[.int .i64 x1, .int .i64 0, .int .i64 1, .int .i64 x2, .int .i64 1, .int .i64 1] 279)
        exact b3.trans ⟨g3.os, g3.tape, g3.output, g3.size, fun q hq => g3.block q (by simp; omega) (fun e => by cases e; omega)⟩
      case measure => simp [intOf]; omega
    ·have hlt' : ¬ (i : Int) < (m : Int) := by omega
     obtain ⟨_, hle⟩ : True ∧ m ≤ i := ⟨trivial, by omega⟩
     have HT : Hid ((endsL 0 A ++ endsL 1 (B.take i)) = endsL 0 A ++ endsL 1 B) := by show _ = _; rw [List.take_of_length_le (by rw [hB.len]; exact hle)]
     have HO : Hid _ := ho
     clear ho hLl hle
     go_wp2
     go_roundw
     case rel =>
      have := HO.out
      rw [HT.out] at this
      exact Or.inr (Or.inr ⟨rfl, L, rfl, this, hb⟩)
     case measure => simp [intOf]
  ·obtain ⟨L, rfl, ho, hb⟩ := hm
   have hLl := (own_cap ho).1
   have hle : L ≤ 2 * (n + m) := by
    rw [hLl, List.length_append]
    have a := endsL_len 0 A
    have b := endsL_len 1 B
    rw [hA.len] at a
    rw [hB.len] at b
    omega
   have S := sort_own w.heap.size w.heap.size L (2 * (n + m)) _ wr ho (by omega)
   have HO : Hid _ := ho
   clear ho hLl hx0 hx1
   go_wp2_with (go_at_call 228; refine S.mono ?_; clear S; rintro e w2 ⟨rfl, ⟨E, p1, p2, p3⟩, u2⟩)
   go_ret
   exact ⟨w.heap.size, L, 2 * (n + m), E, rfl, p1, p2, p3, Nat.le_refl _, hb.trans (u2.below hb.size (fun q hq e => by omega))⟩
theorem tell_len (out : List (Int × Int)) (a : Int × Int) : (tellL out a).length ≤ out.length + 1 := by
 unfold tellL
 split
 ·simp
 ·split
  ·simp
  ·simp
theorem close_len (want : Bool → Bool → Bool) (s : Wk) (t : Int) : (closeL want s t).length ≤ s.out.length + 1 := by
 unfold closeL
 split
 ·exact tell_len _ _
 ·omega
theorem step_b (e : Int × Int × Int) : -1 ≤ stepE e ∧ stepE e ≤ 1 := by unfold stepE; split <;> omega
theorem run_b (want : Bool → Bool → Bool) : ∀ (n : Nat) (E : List (Int × Int × Int)), E.length = n → (-(n : Int) ≤ (runL want E).n0 ∧ (runL want E).n0 ≤ n) ∧ (-(n : Int) ≤ (runL want E).n1 ∧ (runL want E).n1 ≤ n) ∧ (runL want E).out.length ≤ n
 | 0, E, h => by
  have : E = [] := List.eq_nil_of_length_eq_zero h
  subst this
  exact ⟨⟨Int.le_refl _, Int.le_refl _⟩, ⟨Int.le_refl _, Int.le_refl _⟩, Nat.le_refl _⟩
 | n + 1, E, h => by
  rcases List.eq_nil_or_concat E with rfl | ⟨P, e, rfl⟩
  ·simp at h
  rw [List.concat_eq_append] at *
  have IH := run_b want n P (by simpa using h)
  rw [runL_snoc]
  have hs := step_b e
  have hc := close_len want (runL want P) e.1
  obtain ⟨⟨a, b⟩, ⟨c, d⟩, f⟩ := IH
  unfold passL
  refine ⟨?_, ?_, ?_⟩
  ·simp only
   split <;> omega
  ·simp only
   split <;> omega
  ·simp only
   omega
theorem run_take (want : Bool → Bool → Bool) (E : List (Int × Int × Int)) (i : Nat) (hi : i < E.length) : runL want (E.take (i + 1)) = passL want (runL want (E.take i)) E[i] := by
 rw [List.take_succ_eq_append_getElem hi, runL_snoc]
theorem form_in {L A B : List (Int × Int)} {want : Bool → Bool → Bool} (hw : want false false = false) (hF : Form L) (hm : ∀ x, memI L x = want (memI A x) (memI B x)) (hA : ∀ i ∈ A, In64 i) (hB : ∀ i ∈ B, In64 i) : ∀ i ∈ L, In64 i := by
 intro i hi
 have h0 := hF.1 i hi
 have key : ∀ x, i.1 ≤ x → x < i.2 → ∃ k, In64 k ∧ k.1 ≤ x ∧ x < k.2 := by
  intro x h1 h2
  have a : memI L x = true := memI_iff.mpr ⟨i, hi, h1, h2⟩
  rw [hm x] at a
  by_cases ha : memI A x = true
  ·obtain ⟨k, hk, k1, k2⟩ := memI_iff.mp ha
   exact ⟨k, hA k hk, k1, k2⟩
  ·by_cases hb : memI B x = true
   ·obtain ⟨k, hk, k1, k2⟩ := memI_iff.mp hb
    exact ⟨k, hB k hk, k1, k2⟩
   ·simp only [Bool.not_eq_true] at ha hb
    rw [ha, hb, hw] at a
    cases a
 obtain ⟨k, k0, k1, k2⟩ := key i.1 (Int.le_refl _) h0
 obtain ⟨l, l0, l1, l2⟩ := key (i.2 - 1) (by omega) (by omega)
 unfold In64 in64 at *
 omega
set_option maxHeartbeats 1000000 in
theorem gather_any (g : Nat) (want : Bool → Bool → Bool) (hg : Wants g want) (ad bd : Option Addr) (n m ca cb : Nat) (A B : List (Int × Int)) (w : World) (hA : IvAt w ad n A) (hB : IvAt w bd m B) (hn : n + m ≤ 274877906944) :
  Calls Tryz.prog 146 #[.slice ad n ca, .slice bd m cb, .func (.func g) #[] #[]] w fun e w' => ∃ v E, e = .returned v ∧ (endsL 0 A ++ endsL 1 B).Perm E ∧ E.Pairwise (fun e f => e.1 ≤ f.1) ∧ OwnI w.heap.size w' v (runL want E).out ∧ Below w.heap.size w w' := by
 have u1 : Below w.heap.size w (w.alloc (.cells #[.func (.func g) #[] #[], .int .i64 0, .int .i64 0, .int .i64 0, .slice none 0 0] 275)) := (Below.refl _ _).alloc (Nat.le_refl _) _
 have hst := fun (W : World) (a : Addr) => run_store Tryz.prog W a (.func (.func g) #[] #[]) .plain rfl
 go_enter Tryz.func146, Tryz.ntmps146
 go_wp2_with (go_at_call 197; refine (endsOf_any ad bd n m ca cb A B _ (hA.below u1) (hB.below u1) (by omega)).mono ?_; rintro e w2 ⟨gE, k, cap, E, rfl, p1, p2, p3, hlo, b2⟩)
 have z1 : (w.alloc (.cells #[.func (.func g) #[] #[], .int .i64 0, .int .i64 0, .int .i64 0, .slice none 0 0] 275)).heap.size = w.heap.size + 1 := by simp
 have K2 : IsWk w.heap.size w2 w.heap.size g 0 0 0 (.slice none 0 0) [] := by
  refine ⟨?_, World.ownsRow_nil _ _ _ _⟩
  exact (b2.block _ (by rw [z1]; omega)).trans (heap_alloc_new _ _)
 have bw2 : Below w.heap.size w w2 := u1.trans (b2.mono u1.size)
 have hE2 := p3.len
 have hkE : k ≤ 2 * (n + m) := by
  have := p1.length_eq
  rw [List.length_append] at this
  have a := endsL_len 0 A
  have b := endsL_len 1 B
  rw [hA.len] at a
  rw [hB.len] at b
  omega
 have HOK : Hid (∀ e ∈ E, EndOk e) := fun e he => by
  rcases List.mem_append.mp (p1.mem_iff.mpr he) with h | h
  ·exact endsL_ok 0 (Or.inl rfl) A e h
  ·exact endsL_ok 1 (Or.inr rfl) B e h
 have hgE : gE ≠ w.heap.size := by omega
 have HP1 : Hid _ := p1
 have HP2 : Hid _ := p2
 clear p1 p2 hst u1 b2 hA hB z1
 go_loopw [16] (fun a wr => ∃ (i : Nat) (v : Value), a = .int .i64 i ∧ i ≤ k ∧ IsWk w.heap.size wr w.heap.size g (runL want (E.take i)).n0 (runL want (E.take i)).n1 (runL want (E.take i)).at_ v (runL want (E.take i)).out ∧ Upd (fun q => q = w.heap.size) w2 wr ∧ (∀ q, v.ownBlock = some q → w2.heap.size ≤ q)) (fun a _ => k - (intOf a).toNat)
 case atStart => exact ⟨0, _, rfl, by omega, K2, Upd.refl _ _, fun q hq => by simp [Value.ownBlock] at hq⟩
 case round =>
  obtain ⟨i, v, rfl, hik, hW, hu, hv⟩ := hrel
  have HV : Hid _ := hv
  clear K2 hv
  have hsz := hu.size
  have hsw := bw2.size
  by_cases hlt : i < k
  ·have hlt' : (i : Int) < (k : Int) := by omega
   obtain ⟨b, off, ha, hc⟩ := (p3.upd hu (fun a e => by cases e; exact hgE)).lies (by omega)
   injection ha with ha
   injection ha with ha1 ha2
   subst ha1
   subst ha2
   obtain ⟨c0, c1, c2⟩ := hc i (by omega)
   simp only [Nat.zero_add] at c0 c1 c2
   have hrt := run_take want E i (by omega)
   have hok := HOK.out E[i] (List.getElem_mem (by omega))
   have hb := run_b want i (E.take i) (by rw [List.length_take]; omega)
   generalize E[i]'(by omega) = x at c0 c1 c2 hrt hok
   have HRT : Hid _ := hrt
   have h1 := hW.alloc (.cells #[.int .i64 x.1, .int .i64 x.2.1, .int .i64 x.2.2] 279)
   have P := pass_any w.heap.size w.heap.size g want (runL want (E.take i)) v x _ h1 hg (by simp; omega) (by omega) (by omega) (by omega) hok
   unfold PassP at P
   clear hrt hok hb hc
   go_wp2_with (go_at_call 198; refine P.mono ?_; clear P; rintro e w3 ⟨rfl, v3, h3, u3, m3⟩)
   go_roundw
   case rel =>
    refine ⟨i + 1, v3, by go_num, by omega, ?_, ?_, ?_⟩
    ·rw [show runL want (E.take (i + 1)) = _ from HRT.out]; exact h3
    ·exact (hu.alloc _).trans u3 (fun q hq e => e.elim id (fun e => by have := HV.out q e; omega))
    ·intro q hq
     rcases m3 with h | ⟨r, h, h'⟩
     ·exact HV.out q (by rw [← h]; exact hq)
     ·rw [hq] at h; cases h; simp at h'; omega
   case measure => simp [intOf]; omega
  ·have hlt' : ¬ (i : Int) < (k : Int) := by omega
   have HT : Hid (E.take i = E) := List.take_of_length_le (by omega)
   have HW : Hid _ := hW
   obtain ⟨ao, l, cp, rfl⟩ := row_shape hW.own
   have c4 : wr.cell? ⟨w.heap.size, 4, none⟩ = some (.slice ao l cp) := blk_cell hW.blk 4 rfl
   clear hW
   go_wp2
   go_ret
   refine ⟨_, rfl, E, HP1.out, HP2.out, ?_, bw2.trans (hu.below hsw (fun q hq e => by omega))⟩
   have := HW.out.own
   rw [HT.out] at this
   exact this
structure Tells (base : Nat) (w : World) (v : Value) (p : Int → Bool) (N : Nat) (L : List (Int × Int)) : Prop where
 own : OwnI base w v L
 form : Form L
 mem : ∀ x, memI L x = p x
 in64 : ∀ i ∈ L, In64 i
 few : L.length ≤ N
theorem gather_set (g : Nat) (want : Bool → Bool → Bool) (hg : Wants g want) (hw : want false false = false) (ad bd : Option Addr) (n m ca cb : Nat) (A B : List (Int × Int)) (w : World) (hA : IvAt w ad n A) (hB : IvAt w bd m B) (hn : n + m ≤ 274877906944) (iA : ∀ i ∈ A, In64 i) (iB : ∀ i ∈ B, In64 i) :
  Calls Tryz.prog 146 #[.slice ad n ca, .slice bd m cb, .func (.func g) #[] #[]] w fun e w' => ∃ v L, e = .returned v ∧ Tells w.heap.size w' v (fun x => want (memI A x) (memI B x)) (2 * (n + m)) L ∧ Below w.heap.size w w' := by
 refine (gather_any g want hg ad bd n m ca cb A B w hA hB hn).mono ?_
 rintro e w' ⟨v, E, rfl, p1, p2, o, b⟩
 obtain ⟨f, h⟩ := gather_form want hw A B E p1 p2
 refine ⟨v, _, rfl, ⟨o, f, h, form_in hw f h iA iB, ?_⟩, b⟩
 have hb := (run_b want E.length E rfl).2.2
 have := p1.length_eq
 rw [List.length_append] at this
 have a := endsL_len 0 A
 have b := endsL_len 1 B
 rw [hA.len] at a
 rw [hB.len] at b
 omega
theorem wantsN : Wants 147 (fun x _ => x) where
 calls x y w := by
  go_enter Tryz.func147, Tryz.ntmps147
  go_wp2
  go_ret
  exact ⟨rfl, rfl⟩
 enters := enters_of Tryz.func147 (by kernel_rfl) rfl
theorem normal_any (ad : Option Addr) (n ca : Nat) (A : List (Int × Int)) (w : World) (hA : IvAt w ad n A) (hn : n ≤ 274877906944) (iA : ∀ i ∈ A, In64 i) :
  Calls Tryz.prog 98 #[.slice ad n ca] w fun e w' => ∃ v L, e = .returned v ∧ Tells w.heap.size w' v (memI A) (2 * n) L ∧ Below w.heap.size w w' := by
 have G := gather_set _ _ wantsN rfl ad none n 0 ca 0 A [] w hA ⟨rfl, fun h => by omega⟩ (by omega) iA (fun _ h => by cases h)
 clear hA
 go_enter Tryz.func98, Tryz.ntmps98
 go_wp2_with (go_at_call 146; refine G.mono ?_; clear G; rintro e w' ⟨v, L, rfl, t, b⟩; obtain ⟨ao, l, cp, rfl⟩ := row_shape t.own)
 go_ret
 exact ⟨_, L, rfl, t, b⟩
theorem OwnI.len {base : Nat} {w : World} {ao : Option Addr} {n c : Nat} {l : List (Int × Int)} (h : OwnI base w (.slice ao n c) l) : n = l.length := (own_cap h).1
theorem Below.step {w w1 w2 : World} (h : Below w.heap.size w w1) (k : Below w1.heap.size w1 w2) : Below w.heap.size w w2 := h.trans (k.mono h.size)
theorem len_nonneg (i : Int × Int) : 0 ≤ lenI i := by unfold lenI; split <;> omega
theorem sum_append (a b : List (Int × Int)) : sumI (a ++ b) = sumI a + sumI b := by
 unfold sumI; rw [List.map_append, List.sum_append]
theorem sum_nonneg : ∀ l : List (Int × Int), 0 ≤ sumI l
 | [] => Int.le_refl _
 | i :: l => by
  have := sum_nonneg l
  have h := len_nonneg i
  show 0 ≤ lenI i + (l.map lenI).sum
  unfold sumI at this
  omega
theorem sum_take_le (l : List (Int × Int)) (k : Nat) : sumI (l.take k) ≤ sumI l := by
 have h : sumI l = sumI (l.take k) + sumI (l.drop k) := by rw [← sum_append, List.take_append_drop]
 have := sum_nonneg (l.drop k)
 omega
theorem big : ∃ N : Nat, (N : Int) = 18446744073709551615 := ⟨18446744073709551615, rfl⟩
theorem sum_is {N : Nat} (hN : (N : Int) = 18446744073709551615) {L : List (Int × Int)} (hf : Form L) (hi : ∀ i ∈ L, In64 i) : sumI L = cntM (memI L) (-9223372036854775808) N :=
 sum_cnt _ N L hf (fun i h => by have := hi i h; unfold In64 in64 at this; omega)
theorem sum_lt {L : List (Int × Int)} (hf : Form L) (hi : ∀ i ∈ L, In64 i) : sumI L ≤ 18446744073709551615 := by
 obtain ⟨N, hN⟩ := big
 rw [sum_is hN hf hi]
 have := (cntM_nonneg (memI L) (-9223372036854775808) N).2
 omega
theorem sum_step {l : List (Int × Int)} {k : Nat} (hk : k < l.length) : sumI (l.take (k + 1)) = sumI (l.take k) + lenI l[k] := by
 rw [List.take_succ_eq_append_getElem hk, sum_append]
 simp [sumI]
def MeasP (A : List (Int × Int)) (w : World) (e : Ending) (w' : World) : Prop :=
 ∃ L, e = .returned (.int .u64 (sumI L)) ∧ Form L ∧ (∀ x, memI L x = memI A x) ∧ (∀ i ∈ L, In64 i) ∧ Below w.heap.size w w'
set_option maxHeartbeats 1000000 in
theorem measure_any (ad : Option Addr) (n ca : Nat) (A : List (Int × Int)) (w : World) (hA : IvAt w ad n A) (hn : n ≤ 268435456) (iA : ∀ i ∈ A, In64 i) :
  Calls Tryz.prog 63 #[.slice ad n ca] w (MeasP A w) := by
 have G := normal_any ad n ca A w hA (by omega) iA
 unfold MeasP
 clear hA
 go_enter Tryz.func63, Tryz.ntmps63
 go_wp2_with (go_at_call 98; refine G.mono ?_; clear G; rintro e w1 ⟨v, L, rfl, t, b⟩; obtain ⟨ao, l, cp, rfl⟩ := row_shape t.own)
 have hL := t.own.len
 have hI := t.own.at
 have hlt := sum_lt t.form t.in64
 have HT : Hid _ := t
 have HLT : Hid _ := hlt
 have hfew : l ≤ 2 * n := by have := t.few; omega
 clear t hlt
 have HLl : Hid (l = L.length) := hL
 clear hL
 go_loopw [3, 9] (fun a c wr => ∃ (k : Nat), c = .int .i64 k ∧ k ≤ l ∧ a = .int .u64 (sumI (L.take k)) ∧ Below w1.heap.size w1 wr) (fun _ c _ => l - (intOf c).toNat)
 case atStart => exact ⟨0, rfl, by omega, rfl, Below.refl _ _⟩
 case round =>
  obtain ⟨k, rfl, hk, rfl, hb⟩ := hrel
  have hsz := hb.size
  by_cases hlt : k < l
  ·have hz : (k : Int) < (l : Int) := by omega
   obtain ⟨b1, o1, had, hc1⟩ := (hI.below hb).lies (by omega)
   subst had
   have hkL : k < L.length := by have := HLl.out; omega
   obtain ⟨c0, c1⟩ := hc1 k hkL
   have HS : Hid (sumI (L.take (k + 1)) = _) := sum_step hkL
   have hin := HT.out.in64 L[k] (List.getElem_mem hkL)
   have hup := sum_take_le L (k + 1)
   have h0 := sum_nonneg (L.take k)
   rw [HS.out] at hup
   have hl0 := len_nonneg L[k]
   generalize L[k] = y at c0 c1 HS hin hup hl0
   have wr1 : IntKind.u64.wrap (sumI (L.take k) + lenI y) = sumI (L.take k) + lenI y := by
    have := HLT.out
    rw [IntKind.wrap_u64]; omega
   have LN := fun W => length_any y W hin
   obtain ⟨x1, x2⟩ := y
   simp only at c0 c1 LN
   generalize lenI (x1, x2) = ll at *
   generalize sumI (L.take k) = ss at *
   clear hc1 hin hup h0 hl0
   go_wp2_with (go_at_call 62; refine (LN _).mono ?_; clear LN; rintro e w2 ⟨rfl, b2⟩)
   go_roundw
   case rel => exact ⟨k + 1, by go_num, by omega, by rw [HS.out], (hb.alloc hsz _).trans (b2.mono (by simp; omega))⟩
   case measure => simp [intOf]; omega
  ·have hz : ¬ (k : Int) < (l : Int) := by omega
   have HE : Hid (L.take k = L) := List.take_of_length_le (by have := HLl.out; omega)
   go_wp2
   go_ret
   refine ⟨L, by rw [HE.out]; rfl, HT.out.form, HT.out.mem, fun a b h => HT.out.in64 (a, b) h, Below.step b hb⟩
def muV (N : Nat) (p : Int → Bool) : Int := cntM p (-9223372036854775808) N
end Go.Proofs.YtnffedmcblbkoaaGreatDoor.iv
