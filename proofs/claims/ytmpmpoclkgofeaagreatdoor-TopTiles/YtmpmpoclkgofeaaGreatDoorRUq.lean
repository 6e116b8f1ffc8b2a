/-
  Merged: RU, ToB.
-/
import Derived.Test.YtmpmpoclkgofeaaGreatDoorPAq
import Derived.Test.YtmpmpoclkgofeaaGreatDoorPMq
import Derived.Test.YtmpmpoclkgofeaaGreatDoorOXq
import Derived.Test.YtmpmpoclkgofeaaGreatDoorPIq
namespace Go.Proofs.YtmpmpoclkgofeaaGreatDoor
open Go Go.RowKit
set_option maxRecDepth 100000

def hgF (fin : Nat → Nod) (C : Nat → List Nat) (x : Int) : Nat → Nat → Int → Option Nat
  | 0, _, _ => none
  | n + 1, s, tt => match awaitM fin tt (C s) with
    | none => some s
    | some c => if untM (fin c) tt ≤ x then some s else if (fin c).fr ≤ x then hgF fin C x n c (untM (fin c) tt) else hgF fin C x n s (fin c).fr
theorem hgF_none {fin : Nat → Nod} {C : Nat → List Nat} {x : Int} {n s : Nat} {tt : Int} (h : awaitM fin tt (C s) = none) : hgF fin C x (n + 1) s tt = some s := by simp only [hgF, h]
theorem hgF_some {fin : Nat → Nod} {C : Nat → List Nat} {x : Int} {n s c : Nat} {tt : Int} (h : awaitM fin tt (C s) = some c) : hgF fin C x (n + 1) s tt = if untM (fin c) tt ≤ x then some s else if (fin c).fr ≤ x then hgF fin C x n c (untM (fin c) tt) else hgF fin C x n s (fin c).fr := by simp only [hgF, h]
theorem PathR.hang {fin : Nat → Nod} {C : Nat → List Nat} {T : Nat → Prop} {dp : Nat → Nat} (N : NestN fin C T) (D : ∀ s, T s → dp s ≤ 1000 ∧ ∀ c ∈ C s, dp c = dp s + 1) {x : Int} {s : Nat} {tt : Int} {L : List LegN} (h : PathR fin C s tt L) : T s → tt ≤ (fin s).til → (fin s).fr ≤ x → x < tt → ∀ n, L.length + (1000 - dp s) ≤ n → ∃ l ∈ L, l.2.1 ≤ x ∧ x < l.2.2 ∧ hgF fin C x n s tt = some l.1 := by
  induction h using PathR.ind with
  | stop h => intro _ _ h1 h2; omega
  | @own s tt h ha =>
    intro _ _ h1 h2 n hn
    obtain ⟨m, rfl⟩ : ∃ m, n = m + 1 := ⟨n - 1, by simp at hn; omega⟩
    exact ⟨(s, (fin s).fr, tt), by simp, h1, h2, hgF_none ha⟩
  | @via s tt c L M h ha p1 p2 i1 i2 =>
    intro hT hti h1 h2 n hn
    obtain ⟨hc, hcf, _⟩ := awaitM_some ha
    obtain ⟨n1, n2, n3⟩ := N.inn s hT c hc
    have hTc := N.sub s hT c hc
    have hd := (D s hT).2 c hc
    have hdc := (D c hTc).1
    have hun : untM (fin c) tt = min (fin c).til tt := rfl
    have hne : 1 ≤ L.length := by
      obtain ⟨t1, _⟩ := p1.tiles N hTc (by rw [hun]; omega) (by rw [hun]; omega)
      cases L with
      | nil => have e : untM (fin c) tt = (fin c).fr := t1; rw [hun] at e; omega
      | cons a r => simp
    simp only [List.length_append] at hn
    obtain ⟨m, rfl⟩ : ∃ m, n = m + 1 := ⟨n - 1, by omega⟩
    rw [hgF_some ha]
    by_cases hu : untM (fin c) tt ≤ x
    · rw [if_pos hu]
      refine ⟨(s, untM (fin c) tt, tt), ?_, hu, h2, rfl⟩
      unfold hangM
      rw [if_pos (by omega)]
      simp
    · rw [if_neg hu]
      by_cases hf : (fin c).fr ≤ x
      · rw [if_pos hf]
        obtain ⟨l, l1, l2, l3, l4⟩ := i1 hTc (by rw [hun]; omega) hf (by omega) m (by omega)
        exact ⟨l, by simp [l1], l2, l3, l4⟩
      · rw [if_neg hf]
        obtain ⟨l, l1, l2, l3, l4⟩ := i2 hT (by omega) h1 (by omega) m (by omega)
        exact ⟨l, by simp [l1], l2, l3, l4⟩
theorem FoB.hang {Y : List Sp} {C : List Int} {dp : Nat → Nat} {fin : Nat → Nod} {X : List Spot} {K : Nat → List Int} {R : List Int} (h : FoB Y C dp fin X K R) {x : Nat} (hx : x < Y.length) {L : List LegN} (hP : PathR fin (cnK fin K) x (fin x).til L) (hL : L.length ≤ 2000) {m : Int} (h1 : (fin x).fr ≤ m) (h2 : m < (fin x).til) (n : Nat) (hn : 3000 ≤ n) : ∃ l ∈ L, l.2.1 ≤ m ∧ m < l.2.2 ∧ hgF fin (cnK fin K) m n x (fin x).til = some l.1 := by
  have hcl : (cutX C (zs Y)).length = Y.length := by rw [cutX_len, zs_len]
  refine hP.hang h.nest (dp := dp) (fun s hs => ⟨(h.sh.bd s (by omega)).1, fun c hc => ?_⟩) hx (Int.le_refl _) h1 h2 n (by omega)
  obtain ⟨hi, hn⟩ := (h.mem s hs c).1 (List.mem_filter.1 hc).1
  exact (h.sh.kd c s (by omega) (by omega) hn).1
end Go.Proofs.YtmpmpoclkgofeaaGreatDoor

namespace Go.Proofs.YtmpmpoclkgofeaaGreatDoor
open Go Go.RowKit
set_option maxRecDepth 100000

theorem ivSize : (Tryz.prog.info? 30).map (·.size) = some 2 := by kernel_rfl
theorem clipT_any (f sb : Nat) (X : List Spot) (K : Nat → List Int) (rv : Value) (R : List Int) (W : World) (hF : ForestAt W f sb X K rv R) (y : Nat) (hy : y < X.length) (d : Nod) (hd : X[y].nd = d) :
    Calls Tryz.prog 7 #[.pointer (some ⟨f, 0, none⟩), .int .u64 d.id] W fun e w' => e = .returned (.agg #[.int .i64 d.fr, .int .i64 d.til]) ∧ Below W.heap.size W w' := by
  have N := fun o => node_at (hF.below ((Below.refl _ _).alloc (Nat.le_refl _) o)) y hy d.id (by rw [hd])
  rw [hd] at N
  unfold ndV at N
  clear hF hd
  go_enter Tryz.func7, Tryz.ntmps7
  go_wp2_with (go_at_call 15; (with_reducible refine (N _).mono ?_); clear N; rintro e w1 ⟨rfl, hb⟩; have R1 : (w1.alloc (.cells #[.int .u64 d.id, .int .u64 d.par, .int .i64 d.org, .int .u64 d.tree, .int .i64 d.dep, .int .i64 d.fr, .int .i64 d.til] 59)).heap[W.heap.size]? = some (.cells #[.int .i64 0, .int .i64 0] 30 (0, 0)) := Blk.alloc (T := 30) ((hb.block W.heap.size (by simp)).trans (alloc_at rfl)) _; have o0 := blk_cell R1 0 rfl; have g0 := blk_free R1 0; have o1 := blk_cell R1 1 rfl; have g1 := blk_free R1 1)
  (try simp only [Exit.inBlock, Exit.then])
  have hrow := set_block (set_block R1 0 (.int .i64 d.fr)) 1 (.int .i64 d.til)
  have hld := run_loadVar_row (P := Tryz.prog) _ W.heap.size 30 30 #[.int .i64 d.fr, .int .i64 d.til] (0, 0) _ hrow Tryz.underlying30 rfl ivSize
  have hb0 := ((Below.refl W.heap.size W).alloc (Nat.le_refl _) (.cells #[.int .i64 0, .int .i64 0] 30)).trans (hb.mono (by simp))
  refine bodyPost_ret (v := .agg #[.int .i64 d.fr, .int .i64 d.til]) ?_ rfl ⟨rfl, ((hb0.alloc hb0.size _).setCell (p := ⟨W.heap.size, 0, none⟩) (Nat.le_refl _) _).setCell (p := ⟨W.heap.size, 1, none⟩) (Nat.le_refl _) _⟩
  rw [results_cell1 rfl]
  simp [asAddr, Result.andThen, hld]
theorem long_any (a b : Int) (h : 0 ≤ a ∧ a ≤ 4611686018427387904 ∧ 0 ≤ b ∧ b ≤ 4611686018427387904) (W : World) :
    Calls Tryz.prog 21 #[.agg #[.int .i64 a, .int .i64 b]] W fun e w' => e = .returned (.int .u64 (lenI (a, b))) ∧ Below W.heap.size W w' := by
  have hl : lenI (a, b) = if b ≤ a then 0 else b - a := rfl
  have HL : Hid (lenI (a, b) = if b ≤ a then 0 else b - a) := hl
  have u1 : IntKind.u64.wrap a = a := by rw [IntKind.wrap_u64]; omega
  have u2 : IntKind.u64.wrap b = b := by rw [IntKind.wrap_u64]; omega
  generalize lenI (a, b) = ll at HL ⊢
  clear hl
  by_cases hab : b ≤ a
  · have e : ll = 0 := by rw [HL.out, if_pos hab]
    subst e
    clear HL
    go_enter Tryz.func21, Tryz.ntmps21
    go_wp2
    go_ret
    exact ⟨rfl, (Below.refl _ _).alloc (Nat.le_refl _) _⟩
  · have e : b - a = ll := by rw [HL.out, if_neg hab]
    have u3 : IntKind.u64.wrap (b - a) = ll := by rw [IntKind.wrap_u64]; omega
    clear HL
    go_enter Tryz.func21, Tryz.ntmps21
    go_wp2
    go_ret
    exact ⟨by rw [← e]; rfl, (Below.refl _ _).alloc (Nat.le_refl _) _⟩
end Go.Proofs.YtmpmpoclkgofeaaGreatDoor
