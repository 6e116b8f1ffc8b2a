/-
  Memory of layer 13: bars in a row; Check.
-/
import Derived.Test.YtmegmjhkjaejgaaSkC
import Derived.Test.YtmegmjhkjaejgaaSkM
namespace Go.Proofs.Ytmegmjhkjaejgaa.sk
open Go.RowKit
set_option maxRecDepth 100000

theorem Try.info46 : (Try.prog.info? 46).map (fun i => (i.zero, i.size, i.bytes)) = some (some (.agg #[.int .i64 0, .int .u64 0]), 2, 16) := by kernel_rfl

def barC (b : Int × Int) : List Value := [.int .i64 b.1, .int .u64 b.2]
def OwnBar (base : Nat) (w : World) (v : Value) (l : List (Int × Int)) : Prop := w.ownsRow base 46 2 v l.length (l.flatMap barC)
theorem barC_len (l : List (Int × Int)) : (l.flatMap barC).length = l.length * 2 := by
  induction l with
  | nil => rfl
  | cons i l ih => rw [List.flatMap_cons, List.length_append, ih]; simp [barC]; omega
theorem barC_one (l : List (Int × Int)) : ∀ u ∈ l.flatMap barC, u.oneCell' = true := by
  intro u hu
  obtain ⟨i, _, hi⟩ := List.mem_flatMap.mp hu
  simp [barC] at hi
  rcases hi with rfl | rfl <;> rfl
theorem barC_at (l : List (Int × Int)) : ∀ i (hi : i < l.length), (l.flatMap barC)[i * 2]? = some (.int .i64 l[i].1) ∧ (l.flatMap barC)[i * 2 + 1]? = some (.int .u64 l[i].2) := by
  induction l with
  | nil => intro i hi; simp at hi
  | cons p r ih =>
    intro i hi
    rw [List.flatMap_cons]
    cases i with
    | zero => exact ⟨rfl, rfl⟩
    | succ i =>
      have h2 : (barC p).length = 2 := rfl
      rw [List.getElem?_append_right (by omega), List.getElem?_append_right (by omega), h2, show (i + 1) * 2 - 2 = i * 2 by omega, show (i + 1) * 2 + 1 - 2 = i * 2 + 1 by omega]
      exact ih i (by simpa using hi)
/-- Bars lie here. -/
structure BarAt (w : World) (ad : Option Addr) (n : Nat) (l : List (Int × Int)) : Prop where
  len : l.length = n
  lies : 0 < n → ∃ b off, ad = some ⟨b, off, none⟩ ∧ ∀ i (_ : i < l.length), w.cell? ⟨b, off + i * 2, none⟩ = some (.int .i64 l[i].1) ∧ w.cell? ⟨b, off + i * 2 + 1, none⟩ = some (.int .u64 l[i].2)
theorem BarAt.upd {S : Nat → Prop} {w w' : World} {ad : Option Addr} {n : Nat} {l : List (Int × Int)} (h : BarAt w ad n l) (hu : Upd S w w') (hS : ∀ a, ad = some a → ¬ S a.block) : BarAt w' ad n l := by
  refine ⟨h.len, fun hp => ?_⟩
  obtain ⟨b, off, ha, hc⟩ := h.lies hp
  refine ⟨b, off, ha, fun i hi => ?_⟩
  obtain ⟨c0, c1⟩ := hc i hi
  exact ⟨cell_upd hu c0 (hS ⟨b, off, none⟩ ha), cell_upd hu c1 (hS ⟨b, off, none⟩ ha)⟩
theorem BarAt.updN {S : Nat → Prop} {w w' : World} {ad : Option Addr} {n : Nat} {l : List (Int × Int)} (h : BarAt w ad n l) (hu : Upd S w w') (hS : ∀ a, ad = some a → 0 < n → ¬ S a.block) : BarAt w' ad n l := by
  refine ⟨h.len, fun hp => ?_⟩
  obtain ⟨b, off, ha, hc⟩ := h.lies hp
  refine ⟨b, off, ha, fun i hi => ?_⟩
  obtain ⟨c0, c1⟩ := hc i hi
  exact ⟨cell_upd hu c0 (hS ⟨b, off, none⟩ ha hp), cell_upd hu c1 (hS ⟨b, off, none⟩ ha hp)⟩
theorem BarAt.below {w w' : World} {ad : Option Addr} {n : Nat} {l : List (Int × Int)} (h : BarAt w ad n l) (hb : Below w.heap.size w w') : BarAt w' ad n l :=
  h.upd (Upd.ofBelow (S := fun _ => False) hb (fun k hk hk' => by omega)) (fun _ _ h => h)
theorem BarAt.drewN {w : World} {ad : Option Addr} {n : Nat} {l : List (Int × Int)} (h : BarAt w ad n l) (m : Nat) : BarAt (w.drewN m) ad n l := ⟨h.len, h.lies⟩
theorem OwnBar.at {base : Nat} {w : World} {ao : Option Addr} {n c : Nat} {l : List (Int × Int)} (h : OwnBar base w (.slice ao n c) l) : BarAt w ao n l := by
  have hc := own_cap h
  refine ⟨hc.1.symm, fun hp => ?_⟩
  obtain ⟨g, cap, e, _, _, _, hx⟩ := own_some h (by omega)
  simp at e
  refine ⟨g, 0, e.1, fun i hi => ?_⟩
  obtain ⟨a, b⟩ := barC_at l i hi
  rw [Nat.zero_add]
  exact ⟨hx _ _ a, hx _ _ b⟩
theorem BarAt.nil (w : World) (ad : Option Addr) : BarAt w ad 0 [] := ⟨rfl, fun h => absurd h (Nat.lt_irrefl 0)⟩
/-- What a bar's two numbers may be. -/
def Bin (l : List (Int × Int)) : Prop := ∀ b ∈ l, -9223372036854775808 ≤ b.1 ∧ b.1 ≤ 9223372036854775807 ∧ 0 ≤ b.2 ∧ b.2 ≤ 18446744073709551615
theorem chk_drop {a c : Int} {l : List (Int × Int)} {k : Nat} (hk : k < l.length) (h : chkF a l = chkF c (l.drop k)) : chkF a l = (!(decide (l[k].1 ≤ c)) && !(decide (1920 ≤ l[k].1)) && !(l[k].2 == 0) && chkF l[k].1 (l.drop (k + 1))) := by
  rw [h, List.drop_eq_getElem_cons hk, chkF_cons]
def chkE (l : List (Int × Int)) : Int := if chkF (-1) l then 0 else 131
theorem chkE_ok {l : List (Int × Int)} (h : chkF (-1) l = true) : chkE l = 0 := by unfold chkE; rw [h]; rfl
theorem chkE_no {l : List (Int × Int)} (h : chkF (-1) l = false) : chkE l = 131 := by unfold chkE; rw [h]; rfl
theorem ret_chk {a b : Int} (h : b = a) : Ending.returned (.int .i64 a) = .returned (.int .i64 b) := by rw [h]
set_option maxHeartbeats 1000000 in
theorem check_any (ad : Option Addr) (n c : Nat) (l : List (Int × Int)) (w : World) (hA : BarAt w ad n l) (hn : n ≤ maxLen) (hi : Bin l) :
    Calls Try.prog 17 #[.slice ad n c] w fun e w' => e = .returned (.int .i64 (chkE l)) ∧ Below w.heap.size w w' := by
  unfold maxLen at hn
  have HL : Hid (l.length = n) := hA.len
  go_enter Try.func17, Try.ntmps17
  go_wp2
  go_loopw [3, 8] (fun a t wr => ∃ (k : Nat) (p : Int), t = .int .i64 k ∧ a = .int .i64 p ∧ k ≤ n ∧ Hid (chkF (-1) l = chkF p (l.drop k)) ∧ -1 ≤ p ∧ p < 1920 ∧ Below w.heap.size w wr) (fun _ t _ => n - (intOf t).toNat)
  case atStart => exact ⟨0, -1, rfl, rfl, by omega, rfl, by omega, by omega, Below.refl _ _⟩
  case round =>
    obtain ⟨k, p, rfl, rfl, hk, HC, hp1, hp2, hb⟩ := hrel
    by_cases hlt : k < n
    · obtain ⟨b, off, rfl, hc⟩ := (hA.below hb).lies (by omega)
      have hkl : k < l.length := by rw [HL.out]; exact hlt
      obtain ⟨c0, c1⟩ := hc k hkl
      clear hc
      have hik := hi l[k] (List.getElem_mem hkl)
      have HD : Hid _ := chk_drop hkl HC.out
      obtain ⟨x, hx⟩ : ∃ x, l[k] = x := ⟨_, rfl⟩
      rw [hx] at c0 c1 hik HD
      obtain ⟨i, m⟩ := x
      simp only at c0 c1 hik HD
      obtain ⟨i1, i2, m1, m2⟩ := hik
      clear hx hkl
      by_cases t1 : i ≤ p
      · have HN : Hid (chkE l = 131) := chkE_no (by rw [HD.out]; simp [t1])
        go_wp2
        go_ret
        exact ⟨ret_chk HN.out, hb.alloc hb.size _⟩
      · by_cases t2 : 1920 ≤ i
        · have HN : Hid (chkE l = 131) := chkE_no (by rw [HD.out]; simp [t2])
          go_wp2
          go_ret
          exact ⟨ret_chk HN.out, hb.alloc hb.size _⟩
        · by_cases t3 : m = 0
          · subst t3
            have HN : Hid (chkE l = 131) := chkE_no (by rw [HD.out]; simp)
            go_wp2
            go_ret
            exact ⟨ret_chk HN.out, hb.alloc hb.size _⟩
          · have HE : Hid (chkF (-1) l = chkF i (l.drop (k + 1))) := by
              have e1 : decide (i ≤ p) = false := by simpa using t1
              have e2 : decide (1920 ≤ i) = false := by simpa using t2
              have e3 : (m == 0) = false := by simpa using t3
              have := HD.out
              rw [e1, e2, e3] at this
              have h' : chkF (-1) l = chkF i (l.drop (k + 1)) := by simpa using this
              exact h'
            clear HD HC
            go_wp2
            go_roundw
            case rel => exact ⟨k + 1, i, by go_num, rfl, by omega, HE, by omega, by omega, hb.alloc hb.size _⟩
            case measure => simp [intOf]; omega
    · have HN : Hid (chkE l = 0) := chkE_ok (by rw [HC.out, List.drop_eq_nil_of_le (by rw [HL.out]; omega)]; rfl)
      go_wp2
      go_ret
      exact ⟨ret_chk HN.out, hb⟩
end Go.Proofs.Ytmegmjhkjaejgaa.sk
