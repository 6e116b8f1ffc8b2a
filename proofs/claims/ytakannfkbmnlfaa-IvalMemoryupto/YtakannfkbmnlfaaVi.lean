/-
  Contracts of layer 6: endsOf (written by gen_vi.py).
-/
import Derived.Test.YtakannfkbmnlfaaVg
namespace Go.Proofs.Ytakannfkbmnlfaa
open Go.Shelf Go.RowKit Go.Lib
set_option maxRecDepth 100000

theorem endsL_cons (j : Int) (i : Int × Int) (a : List (Int × Int)) : endsL j (i :: a) = if i.2 ≤ i.1 then endsL j a else (i.1, 0, j) :: (i.2, 1, j) :: endsL j a := rfl
theorem endsL_append (j : Int) : ∀ (a b : List (Int × Int)), endsL j (a ++ b) = endsL j a ++ endsL j b
  | [], _ => rfl
  | i :: a, b => by
    rw [List.cons_append, endsL_cons, endsL_cons, endsL_append j a b]
    split <;> rfl
theorem endsL_len (j : Int) : ∀ (a : List (Int × Int)), (endsL j a).length ≤ 2 * a.length
  | [] => Nat.le_refl _
  | i :: a => by
    have := endsL_len j a
    unfold endsL
    split <;> simp <;> omega
theorem endsL_take (j : Int) (A : List (Int × Int)) (i : Nat) (hi : i < A.length) : endsL j (A.take (i + 1)) = endsL j (A.take i) ++ if A[i].2 ≤ A[i].1 then [] else [(A[i].1, 0, j), (A[i].2, 1, j)] := by
  rw [List.take_succ_eq_append_getElem hi, endsL_append]
  rfl
theorem endsL_ok (j : Int) (hj : j = 0 ∨ j = 1) : ∀ (a : List (Int × Int)), ∀ e ∈ endsL j a, EndOk e
  | [], _, h => by cases h
  | i :: a, e, h => by
    unfold endsL at h
    split at h
    · exact endsL_ok j hj a e h
    · rcases List.mem_cons.mp h with rfl | h
      · exact ⟨Or.inl rfl, hj⟩
      · rcases List.mem_cons.mp h with rfl | h
        · exact ⟨Or.inr rfl, hj⟩
        · exact endsL_ok j hj a e h
theorem ownE_alloc {base : Nat} {w : World} {v : Value} {l : List (Int × Int × Int)} (h : OwnE base w v l) (o : Obj) : OwnE base (w.alloc o) v l :=
  ownsRow_upd h ((Upd.refl (fun _ => False) w).alloc o) (fun _ _ h => h)
/-- Midway: the ends so far. -/
def Mid (w wr : World) (v : Value) (N : Nat) (E : List (Int × Int × Int)) : Prop :=
  ∃ L, v = .slice (some ⟨w.heap.size, 0, none⟩) L (2 * N) ∧ OwnE w.heap.size wr v E ∧ Below w.heap.size w wr
set_option maxHeartbeats 2000000 in
theorem endsOf_any (ad bd : Option Addr) (n m ca cb : Nat) (A B : List (Int × Int)) (w : World) (hA : IvAt w ad n A) (hB : IvAt w bd m B) (hn : n + m ≤ 1099511627776) :
    Calls Try.prog 33 #[.slice ad n ca, .slice bd m cb] w fun e w' => ∃ g k cap E, e = .returned (.slice (some ⟨g, 0, none⟩) k cap) ∧ (endsL 0 A ++ endsL 1 B).Perm E ∧ E.Pairwise (fun e f => e.1 ≤ f.1) ∧ EnAt w' (some ⟨g, 0, none⟩) k E ∧ w.heap.size ≤ g ∧ Below w.heap.size w w' := by
  obtain ⟨i0, hi, hz0, hz1, hz2⟩ := info_parts Try.info50
  have hw1 : IntKind.i64.wrap ((n : Int) + m) = n + m := wrap_i64_in _ (by omega) (by omega)
  have hw2 : IntKind.i64.wrap (2 * ((n : Int) + m)) = 2 * (n + m) := wrap_i64_in _ (by omega) (by omega)
  have hx0 : ∀ W : World, (Instr.index 57 (.agg #[.slice ad n ca, .slice bd m cb]) (.int .i64 0)).run Try.prog W = .ok (.slice ad n ca) W := fun W => by kernel_rfl
  have hx1 : ∀ W : World, (Instr.index 57 (.agg #[.slice ad n ca, .slice bd m cb]) (.int .i64 1)).run Try.prog W = .ok (.slice bd m cb) W := fun W => by kernel_rfl
  go_enter Try.func33, Try.ntmps33
  go_wp2_with (at_make; refine wpList_make_own _ rfl _ _ 47 rfl w.heap.size 50 i0 _ 3 Try.underlying47 hi hz0 hz1 .i64 .i64 _ (2 * (n + m)) rfl rfl (by omega) (by rw [hz2]; omega) (by unfold maxLen; omega) (Nat.le_refl _) ?_; intro w1 o1 g1)
  clear hw1 hw2
  go_loopw [5, 20] (fun a b wr => (b = .int .i64 0 ∧ Mid w wr a (n + m) []) ∨ (b = .int .i64 1 ∧ Mid w wr a (n + m) (endsL 0 A)) ∨ (b = .int .i64 2 ∧ Mid w wr a (n + m) (endsL 0 A ++ endsL 1 B))) (fun _ b _ => 2 - (intOf b).toNat)
  case atStart => exact Or.inl ⟨rfl, 0, rfl, o1, g1.os, g1.tape, g1.output, g1.size, fun k hk => g1.block k hk (by simp)⟩
  case round =>
    rcases hrel with ⟨rfl, hm⟩ | ⟨rfl, hm⟩ | ⟨rfl, hm⟩
    · have HM : Hid _ := hm
      have HP : Hid (([] : List (Int × Int × Int)).length ≤ 2 * m) := by show _ ≤ _; simp
      obtain ⟨L0, rfl, _, _⟩ := hm
      go_wp2
      go_wp2
      go_loopw [5, 26] (fun a b wi => ∃ (i : Nat), b = .int .i64 i ∧ i ≤ n ∧ Mid w wi a (n + m) ([] ++ endsL 0 (A.take i))) (fun _ b _ => n - (intOf b).toNat)
      case atStart => exact ⟨0, rfl, by omega, (show Mid _ _ _ _ ([] ++ endsL 0 []) by rw [show endsL 0 [] = [] from rfl, List.append_nil]; exact HM.out)⟩
      case round =>
        obtain ⟨i, rfl, hin, hm⟩ := hrel
        obtain ⟨L, rfl, ho, hb⟩ := hm
        have hLl := (own_cap ho).1
        have hsz := hb.size
        by_cases hlt : i < n
        · have hlt' : (i : Int) < (n : Int) := by omega
          obtain ⟨b, off, had, hc⟩ := (hA.below hb).lies (by omega)
          obtain ⟨k0, k1⟩ := hc i (by rw [hA.len]; exact hlt)
          have ht := endsL_take 0 A i (by rw [hA.len]; exact hlt)
          have hbd := endsL_len 0 (A.take i)
          have hbd2 : (A.take i).length = i := by rw [List.length_take, hA.len]; omega
          generalize A[i]'(by rw [hA.len]; exact hlt) = x at k0 k1 ht
          obtain ⟨x1, x2⟩ := x
          have hl3 : L + 2 ≤ 2 * (n + m) := by rw [hLl, List.length_append]; have := HP.out; omega
          have E := empty_any x1 x2
          have HT : Hid _ := ht
          have HO : Hid _ := ho
          have HLL : Hid (L = ([] ++ endsL 0 (A.take i)).length) := hLl
          have HAD : Hid _ := had
          clear ht hc hbd hbd2 ho hLl
          subst had
          by_cases he : x2 ≤ x1
          · have he' : decide (x2 ≤ x1) = true := decide_eq_true he
            go_wp2_with (go_at_call 31; refine (E _).mono ?_; rintro e w2 ⟨rfl, rfl⟩)
            go_roundw
            case rel =>
              refine ⟨i + 1, by go_num, by omega, ?_⟩
              have ht := HT.out
              rw [ht, if_pos he, List.append_nil]
              exact ⟨L, rfl, ownE_alloc (ownE_alloc HO.out _) _, (hb.alloc hb.size _).alloc (by simp; omega) _⟩
            case measure => simp [intOf]; omega
          · have he' : decide (x2 ≤ x1) = false := decide_eq_false he
            have OW : (((wr.alloc (.cells #[.int .i64 x1, .int .i64 x2] 35)).alloc (.cells #[.int .i64 x1, .int .i64 x2] 35)).alloc (.cells #[.int .i64 x1, .int .i64 0, .int .i64 0, .int .i64 x2, .int .i64 1, .int .i64 0] 50)).ownsRow w.heap.size 50 3 (.slice (some ⟨w.heap.size, 0, none⟩) L (2 * (n + m))) L (([] ++ endsL 0 (A.take i)).flatMap enC) := by
              have := ownE_alloc (ownE_alloc (ownE_alloc HO.out (.cells #[.int .i64 x1, .int .i64 x2] 35)) (.cells #[.int .i64 x1, .int .i64 x2] 35)) (.cells #[.int .i64 x1, .int .i64 0, .int .i64 0, .int .i64 x2, .int .i64 1, .int .i64 0] 50)
              unfold OwnE at this
              rw [← HLL.out] at this
              exact this
            have hN : ∀ q u, ([.int .i64 x1, .int .i64 0, .int .i64 0, .int .i64 x2, .int .i64 1, .int .i64 0] : List Value)[q]? = some u → (((wr.alloc (.cells #[.int .i64 x1, .int .i64 x2] 35)).alloc (.cells #[.int .i64 x1, .int .i64 x2] 35)).alloc (.cells #[.int .i64 x1, .int .i64 0, .int .i64 0, .int .i64 x2, .int .i64 1, .int .i64 0] 50)).cell? ((⟨wr.heap.size + 1 + 1, 0, none⟩ : Addr).add q) = some u :=
              World.news_of_block (cs := #[.int .i64 x1, .int .i64 0, .int .i64 0, .int .i64 x2, .int .i64 1, .int .i64 0]) (t := 50) (fr := (0, 0)) (by have := heap_alloc_new ((wr.alloc (.cells #[.int .i64 x1, .int .i64 x2] 35)).alloc (.cells #[.int .i64 x1, .int .i64 x2] 35)) (.cells #[.int .i64 x1, .int .i64 0, .int .i64 0, .int .i64 x2, .int .i64 1, .int .i64 0] 50); simpa using this)
            go_wp2_with (first
              | (go_at_call 31; refine (E _).mono ?_; rintro e w2 ⟨rfl, rfl⟩)
              | (at_builtin; refine wpList_append_fits _ rfl _ _ 47 rfl w.heap.size 50 i0 3 Try.underlying47 hi hz1 w.heap.size L (2 * (n + m)) _ rfl OW ⟨wr.heap.size + 1 + 1, 0, none⟩ 2 2 [.int .i64 x1, .int .i64 0, .int .i64 0, .int .i64 x2, .int .i64 1, .int .i64 0] rfl rfl hN (by simp [Value.oneCell']) hl3 ?_; clear OW hN; intro w3 o3 g3))
            go_roundw
            case rel =>
              refine ⟨i + 1, by go_num, by omega, L + 2, rfl, ?_, ?_⟩
              · have ht := HT.out
                rw [ht, if_neg (by show ¬ x2 ≤ x1; omega), ← List.append_assoc]
                unfold OwnE
                rw [List.length_append, ← HLL.out, List.flatMap_append]
                exact o3
              · have b3 := ((hb.alloc hb.size (.cells #[.int .i64 x1, .int .i64 x2] 35)).alloc (by simp; omega) (.cells #[.int .i64 x1, .int .i64 x2] 35)).alloc (by simp; omega) (.cells #[.int .i64 x1, .int .i64 0, .int .i64 0, .int .i64 x2, .int .i64 1, .int .i64 0] 50)
                exact b3.trans ⟨g3.os, g3.tape, g3.output, g3.size, fun q hq => g3.block q (by simp; omega) (fun e => by cases e; omega)⟩
            case measure => simp [intOf]; omega
        · have hlt' : ¬ (i : Int) < (n : Int) := by omega
          obtain ⟨_, hle⟩ : True ∧ n ≤ i := ⟨trivial, by omega⟩
          have HT : Hid (([] ++ endsL 0 (A.take i)) = [] ++ endsL 0 A) := by show _ = _; rw [List.take_of_length_le (by rw [hA.len]; exact hle)]
          have HO : Hid _ := ho
          clear ho hLl hle
          go_wp2
          go_roundw
          case rel =>
            have := HO.out
            rw [HT.out] at this
            exact Or.inr (Or.inl ⟨rfl, L, rfl, (by rw [List.nil_append] at this; exact this), hb⟩)
          case measure => simp [intOf]
    · have HM : Hid _ := hm
      have HP : Hid ((endsL 0 A).length ≤ 2 * n) := by have := endsL_len 0 A; rw [hA.len] at this; exact this
      obtain ⟨L0, rfl, _, _⟩ := hm
      go_wp2
      go_wp2
      go_loopw [5, 26] (fun a b wi => ∃ (i : Nat), b = .int .i64 i ∧ i ≤ m ∧ Mid w wi a (n + m) (endsL 0 A ++ endsL 1 (B.take i))) (fun _ b _ => m - (intOf b).toNat)
      case atStart => exact ⟨0, rfl, by omega, (show Mid _ _ _ _ (endsL 0 A ++ endsL 1 []) by rw [show endsL 1 [] = [] from rfl, List.append_nil]; exact HM.out)⟩
      case round =>
        obtain ⟨i, rfl, hin, hm⟩ := hrel
        obtain ⟨L, rfl, ho, hb⟩ := hm
        have hLl := (own_cap ho).1
        have hsz := hb.size
        by_cases hlt : i < m
        · have hlt' : (i : Int) < (m : Int) := by omega
          obtain ⟨b, off, had, hc⟩ := (hB.below hb).lies (by omega)
          obtain ⟨k0, k1⟩ := hc i (by rw [hB.len]; exact hlt)
          have ht := endsL_take 1 B i (by rw [hB.len]; exact hlt)
          have hbd := endsL_len 1 (B.take i)
          have hbd2 : (B.take i).length = i := by rw [List.length_take, hB.len]; omega
          generalize B[i]'(by rw [hB.len]; exact hlt) = x at k0 k1 ht
          obtain ⟨x1, x2⟩ := x
          have hl3 : L + 2 ≤ 2 * (n + m) := by rw [hLl, List.length_append]; have := HP.out; omega
          have E := empty_any x1 x2
          have HT : Hid _ := ht
          have HO : Hid _ := ho
          have HLL : Hid (L = (endsL 0 A ++ endsL 1 (B.take i)).length) := hLl
          have HAD : Hid _ := had
          clear ht hc hbd hbd2 ho hLl
          subst had
          by_cases he : x2 ≤ x1
          · have he' : decide (x2 ≤ x1) = true := decide_eq_true he
            go_wp2_with (go_at_call 31; refine (E _).mono ?_; rintro e w2 ⟨rfl, rfl⟩)
            go_roundw
            case rel =>
              refine ⟨i + 1, by go_num, by omega, ?_⟩
              have ht := HT.out
              rw [ht, if_pos he, List.append_nil]
              exact ⟨L, rfl, ownE_alloc (ownE_alloc HO.out _) _, (hb.alloc hb.size _).alloc (by simp; omega) _⟩
            case measure => simp [intOf]; omega
          · have he' : decide (x2 ≤ x1) = false := decide_eq_false he
            have OW : (((wr.alloc (.cells #[.int .i64 x1, .int .i64 x2] 35)).alloc (.cells #[.int .i64 x1, .int .i64 x2] 35)).alloc (.cells #[.int .i64 x1, .int .i64 0, .int .i64 1, .int .i64 x2, .int .i64 1, .int .i64 1] 50)).ownsRow w.heap.size 50 3 (.slice (some ⟨w.heap.size, 0, none⟩) L (2 * (n + m))) L ((endsL 0 A ++ endsL 1 (B.take i)).flatMap enC) := by
              have := ownE_alloc (ownE_alloc (ownE_alloc HO.out (.cells #[.int .i64 x1, .int .i64 x2] 35)) (.cells #[.int .i64 x1, .int .i64 x2] 35)) (.cells #[.int .i64 x1, .int .i64 0, .int .i64 1, .int .i64 x2, .int .i64 1, .int .i64 1] 50)
              unfold OwnE at this
              rw [← HLL.out] at this
              exact this
            have hN : ∀ q u, ([.int .i64 x1, .int .i64 0, .int .i64 1, .int .i64 x2, .int .i64 1, .int .i64 1] : List Value)[q]? = some u → (((wr.alloc (.cells #[.int .i64 x1, .int .i64 x2] 35)).alloc (.cells #[.int .i64 x1, .int .i64 x2] 35)).alloc (.cells #[.int .i64 x1, .int .i64 0, .int .i64 1, .int .i64 x2, .int .i64 1, .int .i64 1] 50)).cell? ((⟨wr.heap.size + 1 + 1, 0, none⟩ : Addr).add q) = some u :=
              World.news_of_block (cs := #[.int .i64 x1, .int .i64 0, .int .i64 1, .int .i64 x2, .int .i64 1, .int .i64 1]) (t := 50) (fr := (0, 0)) (by have := heap_alloc_new ((wr.alloc (.cells #[.int .i64 x1, .int .i64 x2] 35)).alloc (.cells #[.int .i64 x1, .int .i64 x2] 35)) (.cells #[.int .i64 x1, .int .i64 0, .int .i64 1, .int .i64 x2, .int .i64 1, .int .i64 1] 50); simpa using this)
            go_wp2_with (first
              | (go_at_call 31; refine (E _).mono ?_; rintro e w2 ⟨rfl, rfl⟩)
              | (at_builtin; refine wpList_append_fits _ rfl _ _ 47 rfl w.heap.size 50 i0 3 Try.underlying47 hi hz1 w.heap.size L (2 * (n + m)) _ rfl OW ⟨wr.heap.size + 1 + 1, 0, none⟩ 2 2 [.int .i64 x1, .int .i64 0, .int .i64 1, .int .i64 x2, .int .i64 1, .int .i64 1] rfl rfl hN (by simp [Value.oneCell']) hl3 ?_; clear OW hN; intro w3 o3 g3))
            go_roundw
            case rel =>
              refine ⟨i + 1, by go_num, by omega, L + 2, rfl, ?_, ?_⟩
              · have ht := HT.out
                rw [ht, if_neg (by show ¬ x2 ≤ x1; omega), ← List.append_assoc]
                unfold OwnE
                rw [List.length_append, ← HLL.out, List.flatMap_append]
                exact o3
              · have b3 := ((hb.alloc hb.size (.cells #[.int .i64 x1, .int .i64 x2] 35)).alloc (by simp; omega) (.cells #[.int .i64 x1, .int .i64 x2] 35)).alloc (by simp; omega) (.cells #[.int .i64 x1, .int .i64 0, .int .i64 1, .int .i64 x2, .int .i64 1, .int .i64 1] 50)
                exact b3.trans ⟨g3.os, g3.tape, g3.output, g3.size, fun q hq => g3.block q (by simp; omega) (fun e => by cases e; omega)⟩
            case measure => simp [intOf]; omega
        · have hlt' : ¬ (i : Int) < (m : Int) := by omega
          obtain ⟨_, hle⟩ : True ∧ m ≤ i := ⟨trivial, by omega⟩
          have HT : Hid ((endsL 0 A ++ endsL 1 (B.take i)) = endsL 0 A ++ endsL 1 B) := by show _ = _; rw [List.take_of_length_le (by rw [hB.len]; exact hle)]
          have HO : Hid _ := ho
          clear ho hLl hle
          go_wp2
          go_roundw
          case rel =>
            have := HO.out
            rw [HT.out] at this
            exact Or.inr (Or.inr ⟨rfl, L, rfl, this, hb⟩)
          case measure => simp [intOf]
    · obtain ⟨L, rfl, ho, hb⟩ := hm
      have hLl := (own_cap ho).1
      have hle : L ≤ 2 * (n + m) := by
        rw [hLl, List.length_append]
        have a := endsL_len 0 A
        have b := endsL_len 1 B
        rw [hA.len] at a
        rw [hB.len] at b
        omega
      have S := sort_own w.heap.size w.heap.size L (2 * (n + m)) _ wr ho (by omega)
      have HO : Hid _ := ho
      clear ho hLl hx0 hx1
      go_wp2_with (go_at_call 38; refine S.mono ?_; clear S; rintro e w2 ⟨rfl, ⟨E, p1, p2, p3⟩, u2⟩)
      go_ret
      exact ⟨w.heap.size, L, 2 * (n + m), E, rfl, p1, p2, p3, Nat.le_refl _, hb.trans (u2.below hb.size (fun q hq e => by omega))⟩
end Go.Proofs.Ytakannfkbmnlfaa
