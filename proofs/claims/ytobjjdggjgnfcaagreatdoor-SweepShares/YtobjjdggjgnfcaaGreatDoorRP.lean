/-
  RP.
-/
import Derived.Test.YtobjjdggjgnfcaaGreatDoorRD
import Derived.Test.YtobjjdggjgnfcaaGreatDoorRAq
namespace Go.Proofs.YtobjjdggjgnfcaaGreatDoor
open Go Go.RowKit
set_option maxRecDepth 100000

def lenL (l : Nat × Int × Int) : Int := lenI (l.2.1, l.2.2)
theorem lenL_nn (l : Nat × Int × Int) : 0 ≤ lenL l := by
  unfold lenL lenI
  split <;> simp only at * <;> omega
theorem tile_sum {hi : Int} : ∀ (lo : Int) (M : List (Nat × Int × Int)), TileF hi lo M → (M.map lenL).sum = hi - lo
  | lo, [], h => by
    have e : lo = hi := h
    simp [e]
  | lo, (y, a, b) :: r, h => by
    obtain ⟨h1, h2, h3⟩ := h
    have ih := tile_sum b r h3
    have e : lenL (y, a, b) = b - a := by unfold lenL lenI; simp only; rw [if_neg (by omega)]
    rw [List.map_cons, List.sum_cons, ih, e]
    omega
def sumN (f : Nat → Int) (n : Nat) : Int := ((List.range n).map f).sum
theorem sumN_succ (f : Nat → Int) (n : Nat) : sumN f (n + 1) = sumN f n + f n := by
  unfold sumN
  rw [List.range_succ, List.map_append, List.sum_append]
  simp
theorem sumN_add (f g : Nat → Int) : ∀ n, sumN (fun y => f y + g y) n = sumN f n + sumN g n
  | 0 => rfl
  | n + 1 => by rw [sumN_succ, sumN_succ, sumN_succ, sumN_add f g n]; omega
theorem sumN_one (k : Nat) (v : Int) : ∀ n, sumN (fun y => if k = y then v else 0) n = if k < n then v else 0
  | 0 => rfl
  | n + 1 => by
    rw [sumN_succ, sumN_one k v n]
    by_cases h1 : k = n
    · subst h1
      simp
    · by_cases h2 : k < n
      · rw [if_pos h2, if_neg h1, if_pos (by omega)]; omega
      · rw [if_neg h2, if_neg h1, if_neg (by omega)]; rfl
theorem sumN_zero : ∀ n, sumN (fun _ => 0) n = 0
  | 0 => rfl
  | n + 1 => by rw [sumN_succ, sumN_zero n]; rfl
theorem sumH_cons (l : Nat × Int × Int) (r : List (Nat × Int × Int)) (y : Nat) : sumH (l :: r) y = (if l.1 = y then lenL l else 0) + sumH r y := by simp [sumH, lenL]
theorem sumH_all : ∀ (L : List (Nat × Int × Int)) (n : Nat), (∀ l ∈ L, l.1 < n) → sumN (sumH L) n = (L.map lenL).sum
  | [], n, _ => by
    have : sumH [] = fun _ => 0 := by funext y; rfl
    rw [this, sumN_zero]; rfl
  | l :: r, n, h => by
    have : sumH (l :: r) = fun y => (if l.1 = y then lenL l else 0) + sumH r y := by funext y; exact sumH_cons l r y
    rw [this, sumN_add, sumN_one, sumH_all r n (fun m hm => h m (by simp [hm])), if_pos (h l (by simp)), List.map_cons, List.sum_cons]
theorem sumH_nn : ∀ (L : List (Nat × Int × Int)) (y : Nat), 0 ≤ sumH L y
  | [], _ => Int.le_refl _
  | l :: r, y => by
    rw [sumH_cons]
    have := sumH_nn r y
    have := lenL_nn l
    split <;> omega
theorem sumH_le : ∀ (L : List (Nat × Int × Int)) (y : Nat), sumH L y ≤ (L.map lenL).sum
  | [], _ => Int.le_refl _
  | l :: r, y => by
    rw [sumH_cons, List.map_cons, List.sum_cons]
    have := sumH_le r y
    have := lenL_nn l
    split <;> omega
def sumZ (h : Nat → Int) (zs : List Nat) : Int := (zs.map h).sum
theorem sumZ_filter (h : Nat → Int) (hn : ∀ y, 0 ≤ h y) : ∀ zs : List Nat, sumZ h (zs.filter (fun y => decide (0 < h y))) = sumZ h zs
  | [] => rfl
  | z :: r => by
    have ih := sumZ_filter h hn r
    have e2 : sumZ h (z :: r) = h z + sumZ h r := by simp [sumZ]
    by_cases h0 : 0 < h z
    · rw [List.filter_cons_of_pos (by simpa using h0)]
      have e1 : sumZ h (z :: r.filter (fun y => decide (0 < h y))) = h z + sumZ h (r.filter (fun y => decide (0 < h y))) := by simp [sumZ]
      rw [e1, ih, e2]
    · rw [List.filter_cons_of_neg (by simpa using h0), ih, e2]
      have := hn z
      omega
theorem sumS_names (A : Nat → Sp) (h : Nat → Int) : ∀ (zs : List Nat) (l : List (List UInt8)), l.Nodup → (∀ y ∈ zs, svB (A y) ∈ l) → (l.map (sumS A h zs)).sum = sumZ h zs
  | [], l, _, _ => by
    have : sumS A h [] = fun _ => 0 := by funext s; rfl
    have e : ∀ m : List (List UInt8), (m.map (fun _ => (0 : Int))).sum = 0 := fun m => by
      induction m with
      | nil => rfl
      | cons a r ih => rw [List.map_cons, List.sum_cons, ih]; rfl
    rw [this, e]
    rfl
  | z :: r, l, hn, hm => by
    have ih := sumS_names A h r l hn (fun y hy => hm y (by simp [hy]))
    have e2 : sumZ h (z :: r) = h z + sumZ h r := by simp [sumZ]
    have e1 : sumS A h (z :: r) = fun s => (if svB (A z) = s then h z else 0) + sumS A h r s := by funext s; simp [sumS]
    have e3 : ∀ m : List (List UInt8), (m.map (fun s => (if svB (A z) = s then h z else 0) + sumS A h r s)).sum = (m.map (fun s => if svB (A z) = s then h z else 0)).sum + (m.map (sumS A h r)).sum := fun m => by
      induction m with
      | nil => rfl
      | cons a r' ih' => simp only [List.map_cons, List.sum_cons, ih']; omega
    have e4 : ∀ m : List (List UInt8), m.Nodup → (m.map (fun s => if svB (A z) = s then h z else 0)).sum = if svB (A z) ∈ m then h z else 0 := fun m => by
      induction m with
      | nil => intro _; rfl
      | cons a r' ih' =>
        intro hd
        rw [List.nodup_cons] at hd
        simp only [List.map_cons, List.sum_cons, ih' hd.2, List.mem_cons]
        by_cases ea : svB (A z) = a
        · have : svB (A z) ∉ r' := by rw [ea]; exact hd.1
          simp [ea, hd.1]
        · simp [ea]
    rw [e1, e3, ih, e4 l hn, if_pos (hm z (by simp)), e2]
theorem sumS_nn (A : Nat → Sp) (h : Nat → Int) (hn : ∀ y, 0 ≤ h y) (s : List UInt8) : ∀ zs : List Nat, 0 ≤ sumS A h zs s
  | [] => Int.le_refl _
  | z :: r => by
    have := sumS_nn A h hn s r
    have := hn z
    have e : sumS A h (z :: r) s = (if svB (A z) = s then h z else 0) + sumS A h r s := by simp [sumS]
    rw [e]
    split <;> omega
theorem sumS_le (A : Nat → Sp) (h : Nat → Int) (hn : ∀ y, 0 ≤ h y) (s : List UInt8) : ∀ zs : List Nat, sumS A h zs s ≤ sumZ h zs
  | [] => Int.le_refl _
  | z :: r => by
    have := sumS_le A h hn s r
    have := hn z
    have e : sumS A h (z :: r) s = (if svB (A z) = s then h z else 0) + sumS A h r s := by simp [sumS]
    have e2 : sumZ h (z :: r) = h z + sumZ h r := by simp [sumZ]
    rw [e, e2]
    split <;> omega
theorem sumS_pos (A : Nat → Sp) (h : Nat → Int) (hn : ∀ y, 0 ≤ h y) (s : List UInt8) : ∀ (zs : List Nat) (y : Nat), y ∈ zs → svB (A y) = s → 0 < h y → 0 < sumS A h zs s
  | [], _, hm, _, _ => by cases hm
  | z :: r, y, hm, hs, h0 => by
    have hr := sumS_nn A h hn s r
    have := hn z
    have e : sumS A h (z :: r) s = (if svB (A z) = s then h z else 0) + sumS A h r s := by simp [sumS]
    rw [e]
    rcases List.mem_cons.1 hm with rfl | hm
    · rw [if_pos hs]; omega
    · have := sumS_pos A h hn s r y hm hs h0
      split <;> omega
theorem tile_cnt (y : Nat) {hi lo0 : Int} {n : Nat} : ∀ (lo : Int) (M : List (Nat × Int × Int)), TileF hi lo M → lo0 ≤ lo → hi ≤ lo0 + n → sumH M y = cntM (memI ((M.filter (fun l => decide (l.1 = y))).map (fun l => (l.2.1, l.2.2)))) lo0 n ∧ lo ≤ hi ∧ ∀ x, memI ((M.filter (fun l => decide (l.1 = y))).map (fun l => (l.2.1, l.2.2))) x = true → lo ≤ x
  | lo, [], h, h0, h1 => by
    have e : lo = hi := h
    refine ⟨?_, by omega, fun x hx => by simp [memI] at hx⟩
    have : ∀ k : Nat, cntM (memI []) lo0 k = 0 := fun k => by
      induction k with
      | zero => rfl
      | succ k ih => simp [cntM, ih, memI]
    simp [sumH, this]
  | lo, (z, a, b) :: r, h, h0, h1 => by
    obtain ⟨g1, g2, g3⟩ := h
    obtain ⟨i1, i2, i3⟩ := tile_cnt y b r g3 (by omega) h1
    rw [sumH_cons]
    have e : lenL (z, a, b) = b - a := by unfold lenL lenI; simp only; rw [if_neg (by omega)]
    by_cases hz : z = y
    · rw [List.filter_cons_of_pos (by simpa using hz), List.map_cons, if_pos hz, e]
      refine ⟨?_, by omega, fun x hx => ?_⟩
      · have ec : ∀ x, memI ((a, b) :: (r.filter (fun l => decide (l.1 = y))).map (fun l => (l.2.1, l.2.2))) x = ((decide (a ≤ x) && decide (x < b)) || memI ((r.filter (fun l => decide (l.1 = y))).map (fun l => (l.2.1, l.2.2))) x) := fun x => memI_cons _ _ _
        rw [cntM_congr ec, cntM_or _ _ _ (fun x hx => ?_), cntM_iv a b lo0 (by omega) (by omega), if_neg (by omega), i1]
        · split <;> omega
        · simp only [Bool.and_eq_true, decide_eq_true_eq] at hx
          cases hq : memI ((r.filter (fun l => decide (l.1 = y))).map (fun l => (l.2.1, l.2.2))) x with
          | false => rfl
          | true => have := i3 x hq; omega
      · rw [memI_cons] at hx
        simp only [Bool.or_eq_true, Bool.and_eq_true, decide_eq_true_eq] at hx
        rcases hx with hx | hx
        · omega
        · have := i3 x hx; omega
    · rw [List.filter_cons_of_neg (by simpa using hz), if_neg hz, Int.zero_add]
      exact ⟨i1, by omega, fun x hx => by have := i3 x hx; omega⟩
theorem cntM_le {p q : Int → Bool} (h : ∀ x, p x = true → q x = true) (lo : Int) : ∀ n, cntM p lo n ≤ cntM q lo n
  | 0 => Int.le_refl _
  | n + 1 => by
    have := cntM_le h lo n
    have hx := h (lo + n)
    unfold cntM
    cases hp : p (lo + n) <;> cases hq : q (lo + n) <;> simp_all <;> omega
section
variable {Y : List Sp} {C : List Int} {dp : Nat → Nat} {fin : Nat → Nod} {X : List Spot} {K : Nat → List Int} {R : List Int}
def kidI (fin : Nat → Nod) (K : Nat → List Int) (y : Nat) : List (Int × Int) := (knK K y).map (fun c => ((fin c).fr, (fin c).til))
theorem FoB.aloneLe (h : FoB Y C dp fin X K R) {x : Nat} (hx : x < Y.length) {L : List (Nat × Int × Int)} (hP : PathR fin (cnK fin K) x (fin x).til L) {y : Nat} (hy : y < Y.length) {N : Nat} (hN : (N : Int) = 18446744073709551615) : sumH L y + cntM (memI (kidI fin K y)) (-9223372036854775808) N ≤ lenI ((fin y).fr, (fin y).til) := by
  have hi := h.inn (dp x) x rfl hx
  have hiy := h.inn (dp y) y rfl hy
  obtain ⟨_, _, t3⟩ := hP.tiles h.nest hx hi.2.1 (Int.le_refl _)
  have T := (h.legs hx hP).1
  obtain ⟨c1, _, _⟩ := tile_cnt y (lo0 := -9223372036854775808) (n := N) _ _ T (by omega) (by omega)
  rw [sumH_rev] at c1
  rw [c1]
  have el : lenI ((fin y).fr, (fin y).til) = (fin y).til - (fin y).fr := by unfold lenI; simp only; split <;> omega
  have ec : cntM (fun x => decide ((fin y).fr ≤ x) && decide (x < (fin y).til)) (-9223372036854775808) N = (fin y).til - (fin y).fr := by
    rw [cntM_iv _ _ _ (by omega) (by omega), if_neg (by omega)]
    split <;> omega
  have kid : ∀ c ∈ knK K y, (fin c).fr < (fin c).til → c ∈ cnK fin K y := fun c hc h0 => List.mem_filter.2 ⟨hc, decide_eq_true h0⟩
  have hq : ∀ x, memI (kidI fin K y) x = true → (decide ((fin y).fr ≤ x) && decide (x < (fin y).til)) = true := fun x hx => by
    obtain ⟨i, hi, h1, h2⟩ := memI_iff.1 hx
    obtain ⟨c, hc, rfl⟩ := List.mem_map.1 hi
    simp only at h1 h2
    obtain ⟨n1, n2, n3⟩ := h.nest.inn y hy c (kid c hc (by omega))
    simp only [Bool.and_eq_true, decide_eq_true_eq]
    omega
  have hp : ∀ x, memI ((L.reverse.filter (fun l => decide (l.1 = y))).map (fun l => (l.2.1, l.2.2))) x = true → ((decide ((fin y).fr ≤ x) && decide (x < (fin y).til)) && !memI (kidI fin K y) x) = true := fun x hx => by
    obtain ⟨i, hi, h1, h2⟩ := memI_iff.1 hx
    obtain ⟨l, hl, rfl⟩ := List.mem_map.1 hi
    obtain ⟨hl1, hl2⟩ := List.mem_filter.1 hl
    have hly : l.1 = y := by simpa using hl2
    obtain ⟨g1, g2, g3⟩ := t3 l (List.mem_reverse.1 hl1)
    simp only at h1 h2
    rw [hly] at g1 g2 g3
    have hno : memI (kidI fin K y) x = false := by
      cases hk : memI (kidI fin K y) x with
      | false => rfl
      | true =>
        obtain ⟨j, hj, k1, k2⟩ := memI_iff.1 hk
        obtain ⟨c, hc, rfl⟩ := List.mem_map.1 hj
        simp only at k1 k2
        exact absurd ⟨by omega, by omega⟩ (g3 c (kid c hc (by omega)))
    simp only [hno, Bool.not_false, Bool.and_true, Bool.and_eq_true, decide_eq_true_eq]
    omega
  have s1 := cntM_split (fun x => decide ((fin y).fr ≤ x) && decide (x < (fin y).til)) (memI (kidI fin K y)) (-9223372036854775808) N
  have s2 := cntM_le hp (-9223372036854775808) N
  have s3 : cntM (memI (kidI fin K y)) (-9223372036854775808) N ≤ cntM (fun x => (decide ((fin y).fr ≤ x) && decide (x < (fin y).til)) && memI (kidI fin K y) x) (-9223372036854775808) N := cntM_le (fun x hx => by rw [hq x hx, hx]; rfl) _ N
  rw [ec] at s1
  rw [el]
  omega
theorem FoB.hung (h : FoB Y C dp fin X K R) {x : Nat} (hx : x < Y.length) {L : List (Nat × Int × Int)} (hP : PathR fin (cnK fin K) x (fin x).til L) (y : Nat) : hungI L y = sumH L y ∧ sumH L y ≤ 4611686018427387904 := by
  have hi := h.inn (dp x) x rfl hx
  have T := tile_sum _ _ (h.legs hx hP).1
  have e1 := sumH_le L.reverse y
  rw [sumH_rev, T] at e1
  have e2 := sumH_nn L y
  rw [hungI_sum, IntKind.wrap_u64]
  omega
theorem FoB.whole (h : FoB Y C dp fin X K R) {x : Nat} (hx : x < Y.length) {L : List (Nat × Int × Int)} (hP : PathR fin (cnK fin K) x (fin x).til L) : sumZ (hungI L) (shL L Y.length) = (fin x).til - (fin x).fr := by
  have T := tile_sum _ _ (h.legs hx hP).1
  have e0 : hungI L = sumH L := by funext y; exact (h.hung hx hP y).1
  unfold shL
  rw [sumZ_filter (hungI L) (fun y => (hungI_nn L y).1), e0]
  have e1 := sumH_all L.reverse Y.length (fun l hl => (h.legB hx hP (List.mem_reverse.1 hl)).1)
  have e2 : sumH L.reverse = sumH L := by funext y; exact sumH_rev y L
  rw [e2, T] at e1
  exact e1
end
end Go.Proofs.YtobjjdggjgnfcaaGreatDoor
