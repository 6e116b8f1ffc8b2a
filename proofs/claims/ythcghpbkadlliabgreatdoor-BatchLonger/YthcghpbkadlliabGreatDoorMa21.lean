/-
  Merged by merge.py: Xj, Xy.
-/
import Derived.Test.YthcghpbkadlliabGreatDoorXo
import Derived.Test.YthcghpbkadlliabGreatDoorMa16
import Derived.Test.YthcghpbkadlliabGreatDoorMa14
import Derived.Test.YthcghpbkadlliabGreatDoorMa10
namespace Go.Proofs.YthcghpbkadlliabGreatDoor
open Go.Shelf Go.RowKit Go.Maps Go.WideMaps
set_option maxRecDepth 100000

theorem enc1 (c : Nat) (v : Value) (R : Ending → World → Prop) (w : World) (hc : w.heap[c]? = some (.cells #[v] 22 (0, 0))) (ad : Option Addr) (n cp : Nat) (hv : v = .slice ad n cp)
    (hL : Calls Tryz.prog 12 #[.slice ad n cp] w R) (hR : ∀ e w', R e w' → (∃ x y z, e = .returned (.slice x y z)) ∨ (∃ ch, e = .panicked ch)) :
    Calls Tryz.prog 11 #[.pointer (some ⟨c, 0, none⟩)] w R := by
  subst hv
  have c0 := cell_of_one hc
  go_enter Tryz.func11, Tryz.ntmps11
  go_wp2_with (go_at_call 12; refine hL.mono ?_; intro e w' hr; rcases hR e w' hr with ⟨x, y, z, rfl⟩ | ⟨ch, rfl⟩)
  all_goals first | exact hr | exact ⟨rfl, hr⟩
/-- What Encode is asked: spans where they lie. -/
theorem encode_ok (ad : Option Addr) (cp : Nat) (X : List Sp) (P : Nat → Pl) (w : World) (hX : SpsAt w ad X.length X P) (hS : ∀ a ∈ X, a.Small) (hT : Tabs w) (hn : X.length ≤ 500) (hF : ∀ a ∈ X, a.Fits) (hc : ∀ a ∈ X, chkS a = 0) (hl : (encB X).length ≤ 65536) :
    Calls Tryz.prog 5 #[.slice ad X.length cp] w fun e w' => ∃ q, e = .returned (.tuple #[.slice (some ⟨q, 0, none⟩) (encB X).length (encB X).length, .nilIface]) ∧ RowAt w' q (encB X) ∧ w.heap.size ≤ q ∧ Below w.heap.size w w' := by
  have b1 : Below w.heap.size w (w.alloc (.cells #[.slice ad X.length cp] 22)) := (Below.refl _ _).alloc (Nat.le_refl _) _
  have X1 : (w.alloc (.cells #[.slice ad X.length cp] 22)).heap[w.heap.size]? = some (.cells #[.slice ad X.length cp] 22 (0, 0)) := heap_alloc_new _ _
  have z1 : (w.alloc (.cells #[.slice ad X.length cp] 22)).heap.size = w.heap.size + 1 := by simp
  have C : ∀ w1 : World, Below w.heap.size w w1 → w1.heap[w.heap.size]? = some (.cells #[.slice ad X.length cp] 22 (0, 0)) → Calls Tryz.prog 10 #[.func (.func 11) #[] #[.pointer (some ⟨w.heap.size, 0, none⟩)]] w1 fun e w' => ∃ v, e = .returned (.tuple #[v, .nilIface]) ∧ (∃ q, v = .slice (some ⟨q, 0, none⟩) (encB X).length (encB X).length ∧ RowAt w' q (encB X) ∧ w.heap.size ≤ q) ∧ Below w1.heap.size w1 w' := by
    intro w1 bw1 hx1
    have b2 : Below w1.heap.size w1 (w1.alloc (.cells #[.nilIface] 26)) := (Below.refl _ _).alloc (Nat.le_refl _) _
    have bw2 := bw1.trans (b2.mono bw1.size)
    refine caughtB_ok w.heap.size (fun v w' => ∃ q, v = .slice (some ⟨q, 0, none⟩) (encB X).length (encB X).length ∧ RowAt w' q (encB X) ∧ w.heap.size ≤ q) w1 ?_ ?_
    · refine (enc1 w.heap.size _ _ _ ((b2.block _ (lt_of_block hx1)).trans hx1) ad X.length cp rfl (laid_rest ad cp X P _ (hX.below bw2) hS (hT.below bw2) hn hF hc) ?_).mono ?_
      · intro e w' hr
        rw [if_neg (by omega)] at hr
        obtain ⟨⟨q, rfl, _⟩, _⟩ := hr
        exact Or.inl ⟨_, _, _, rfl⟩
      · intro e w' hr
        rw [if_neg (by omega)] at hr
        obtain ⟨⟨q, rfl, r, hq⟩, hb⟩ := hr
        rw [show (w1.alloc (.cells #[.nilIface] 26)).heap.size = w1.heap.size + 1 by simp] at hb hq
        exact ⟨_, rfl, ⟨q, rfl, r, by have := bw1.size; omega⟩, hb⟩
    · rintro v w' ⟨q, rfl, r, hq⟩ he
      refine ⟨q, rfl, ?_, hq⟩
      have hne : q ≠ w1.heap.size := ne_of_types r he (by decide)
      exact (Below.heap_setCell _ _ _ q hne).trans r
  have hmf : ∀ (fn : Fn) (first cap : Array Value) (w : World), (Instr.makeFunc fn first cap).run Tryz.prog w = .ok (.func fn first cap) w := fun _ _ _ _ => rfl
  have C1 := C _ b1 X1
  clear C hX hS hT hF hc X1
  generalize encB X = K at *
  generalize K.length = kl at *
  generalize X.length = xl at *
  go_enter Tryz.func5, Tryz.ntmps5
  go_wp2_with (go_at_call 10; refine C1.mono ?_; clear C1; rintro e w2 ⟨v, rfl, ⟨q, rfl, r2, hq⟩, b2⟩)
  go_ret2
  exact ⟨q, rfl, r2, hq, b1.trans (b2.mono (by rw [z1]; omega))⟩
/-- Something is wrong: a fault, and nothing. -/
theorem encode_up (ad : Option Addr) (n cp : Nat) (at_ no : Int) (w : World) (hE : ErrT w)
    (hL : ∀ w1, Below w.heap.size w w1 → Calls Tryz.prog 12 #[.slice ad n cp] w1 fun e w' => Ups w' at_ no e ∧ Below w1.heap.size w1 w') :
    Calls Tryz.prog 5 #[.slice ad n cp] w fun e w' => ∃ p, e = .returned (.tuple #[.slice none 0 0, .iface 95 (.pointer (some ⟨p, 0, none⟩))]) ∧ IsF w' p at_ no ∧ Below w.heap.size w w' := by
  have b1 : Below w.heap.size w (w.alloc (.cells #[.slice ad n cp] 22)) := (Below.refl _ _).alloc (Nat.le_refl _) _
  have X1 : (w.alloc (.cells #[.slice ad n cp] 22)).heap[w.heap.size]? = some (.cells #[.slice ad n cp] 22 (0, 0)) := heap_alloc_new _ _
  have z1 : (w.alloc (.cells #[.slice ad n cp] 22)).heap.size = w.heap.size + 1 := by simp
  have C1 : Calls Tryz.prog 10 #[.func (.func 11) #[] #[.pointer (some ⟨w.heap.size, 0, none⟩)]] (w.alloc (.cells #[.slice ad n cp] 22)) fun e w' => ∃ p, e = .returned (.tuple #[.slice none 0 0, errV p]) ∧ IsF w' p at_ no ∧ Below (w.alloc (.cells #[.slice ad n cp] 22)).heap.size (w.alloc (.cells #[.slice ad n cp] 22)) w' := by
    refine caughtB_bad w.heap.size at_ no _ (hE.below b1) ?_
    have b2 : Below (w.alloc (.cells #[.slice ad n cp] 22)).heap.size (w.alloc (.cells #[.slice ad n cp] 22)) ((w.alloc (.cells #[.slice ad n cp] 22)).alloc (.cells #[.nilIface] 26)) := (Below.refl _ _).alloc (Nat.le_refl _) _
    have bw2 := b1.trans (b2.mono b1.size)
    refine (enc1 w.heap.size _ _ _ ((b2.block _ (lt_of_block X1)).trans X1) ad n cp rfl (hL _ bw2) ?_).mono ?_
    · rintro e w' ⟨⟨q, p, rfl, _⟩, _⟩
      exact Or.inr ⟨_, rfl⟩
    · rintro e w' ⟨hU, hb⟩
      rw [show ((w.alloc (.cells #[.slice ad n cp] 22)).alloc (.cells #[.nilIface] 26)).heap.size = (w.alloc (.cells #[.slice ad n cp] 22)).heap.size + 1 by simp] at hb
      exact ⟨hU, hb⟩
  have hmf : ∀ (fn : Fn) (first cap : Array Value) (w : World), (Instr.makeFunc fn first cap).run Tryz.prog w = .ok (.func fn first cap) w := fun _ _ _ _ => rfl
  clear hL hE X1
  unfold errV at C1
  go_enter Tryz.func5, Tryz.ntmps5
  go_wp2_with (go_at_call 10; refine C1.mono ?_; clear C1; rintro e w2 ⟨p, rfl, hF, b2⟩)
  go_ret2
  exact ⟨p, rfl, hF, b1.trans (b2.mono (by rw [z1]; omega))⟩
end Go.Proofs.YthcghpbkadlliabGreatDoor

namespace Go.Proofs.YthcghpbkadlliabGreatDoor
open Go.Shelf Go.RowKit
set_option maxRecDepth 100000

/-- A taker's block. -/
def TkB (w : World) (T R : Nat) : Prop := ∃ x y st, w.heap[T]? = some (.cells #[.pointer (some ⟨R, 0, none⟩), x, y, .int .i64 st] 80 (0, 0))
theorem TkB.c0 {w : World} {T R : Nat} (h : TkB w T R) : w.cell? ⟨T, 0, none⟩ = some (.pointer (some ⟨R, 0, none⟩)) := by obtain ⟨x, y, st, h⟩ := h; exact blk_cell h 0 rfl
theorem TkB.ne {w : World} {T R g : Nat} {K : List Int} {t : Nat} (h : TkB w T R) (hR : IsR w R g K t) : T ≠ R := by obtain ⟨x, y, st, h⟩ := h; exact ne_of_types h hR.block (by decide)
theorem TkB.upd {w w' : World} {T R : Nat} {S : Nat → Prop} (h : TkB w T R) (hu : Upd S w w') (hS : ¬ S T) : TkB w' T R := by obtain ⟨x, y, st, h⟩ := h; exact ⟨x, y, st, (hu.block T (lt_of_block h) hS).trans h⟩
theorem TkB.below {w w' : World} {T R : Nat} (h : TkB w T R) (hb : Below w.heap.size w w') : TkB w' T R := h.upd (S := fun _ => False) (Upd.ofBelow hb (fun k hk hk' => by omega)) (fun h => h)
def PostR {α : Type} (R g : Nat) (K : List Int) (w : World) (enc : α → Value) (r : Res (α × Dst)) (e : Ending) (w' : World) : Prop := match r with
  | .ok (v, s') => e = .returned (enc v) ∧ IsR w' R g K s'.pos ∧ Upd (fun k => k = R) w w'
  | .error (a, n) => Ups w' a n e ∧ Upd (fun k => k = R) w w'
theorem upd_bel {R : Nat} {w w' : World} (h : Below w.heap.size w w') : Upd (fun k => k = R) w w' := Upd.ofBelow h (fun k hk hk' => by omega)
theorem upd_bel2 {R : Nat} {w w1 w' : World} (u : Upd (fun k => k = R) w w1) (h : Below w1.heap.size w1 w') : Upd (fun k => k = R) w w' := u.trans (upd_bel h) (fun _ _ h => h)

theorem bSmall_any (T R g : Nat) (K : List Int) (s : Dst) (w : World) (hT : TkB w T R) (h : IsR w R g K s.pos) :
    Calls Tryz.prog 87 #[.pointer (some ⟨T, 0, none⟩)] w fun e w' => PostR R g K w (fun v => .int .u8 v) (smallD K s) e w' := by
  have d0 := hT.c0
  unfold smallD stepD bytesD
  by_cases hn : s.pos + 1 ≤ K.length
  · rw [if_pos hn]
    simp only
    have N := raw_ok R g K s.pos 1 w h hn (by omega)
    have e1 : (K.drop s.pos).take 1 = [K[s.pos]] := by rw [List.drop_eq_getElem_cons (by omega)]; rfl
    rw [e1] at N ⊢
    generalize K[s.pos] = x at N ⊢
    unfold PostR
    simp only [List.headD_cons, Dst.to]
    clear e1
    go_enter Tryz.func87, Tryz.ntmps87
    go_wp2_with (first
      | (go_at_call 28; refine N.mono ?_; clear N; rintro e w1 ⟨q, rfl, r1, q1, h1, u1⟩; have c1 := r1.cell 0 (by simp))
      | (go_at_call 27; refine (mustB_ok _ _ _ _).mono ?_; rintro e w2 ⟨rfl, hw⟩; obtain rfl := hw.symm))
    go_ret
    exact ⟨rfl, h1, u1⟩
  · rw [if_neg hn]
    have N := raw_short R g K s.pos 1 w h (by omega)
    unfold PostR
    simp only
    go_enter Tryz.func87, Tryz.ntmps87
    go_wp2_with (first
      | (go_at_call 28; refine N.mono ?_; clear N; rintro e w1 ⟨p1, rfl, F1, q1, b1⟩)
      | (go_at_call 27; refine (mustB_bad _ _ _ p1 _ _ _ F1).mono ?_; rintro e w2 ⟨⟨q2, p2, rfl, G2⟩, b2⟩))
    exact ⟨rfl, ⟨q2, p2, rfl, G2⟩, upd_bel (b1.trans (b2.mono b1.size))⟩
set_option maxHeartbeats 1000000 in
theorem bRaw8_any (T R g : Nat) (K : List Int) (s : Dst) (w : World) (hT : TkB w T R) (h : IsR w R g K s.pos) (hK : ∀ x ∈ K, 0 ≤ x ∧ x < 256) :
    Calls Tryz.prog 35 #[.pointer (some ⟨T, 0, none⟩)] w fun e w' => PostR R g K w (fun v => .int .u64 v) (raw8D K s) e w' := by
  have d0 := hT.c0
  unfold raw8D stepD bytesD
  by_cases hn : s.pos + 8 ≤ K.length
  · rw [if_pos hn]
    simp only
    have N := raw_ok R g K s.pos 8 w h hn (by omega)
    have hby := fun x (hx : x ∈ (K.drop s.pos).take 8) => hK x (List.mem_of_mem_drop (List.mem_of_mem_take hx))
    obtain ⟨X, hX⟩ : ∃ X, (K.drop s.pos).take 8 = X := ⟨_, rfl⟩
    have hXl : X.length = 8 := by rw [← hX]; simp; omega
    rw [hX] at N hby ⊢
    unfold PostR
    simp only [Dst.to]
    clear hX hT
    obtain ⟨V, hV⟩ : ∃ V, unrawL X = V := ⟨_, rfl⟩
    rw [hV]
    have HV : Hid (unrawL X = V) := hV
    clear hV
    go_enter Tryz.func35, Tryz.ntmps35
    go_wp2_with (first
      | (go_at_call 28; refine N.mono ?_; clear N; rintro e w1 ⟨q, rfl, r5, q1, h1, u1⟩)
      | (go_at_call 27; refine (mustB_ok _ _ _ _).mono ?_; rintro e w2 ⟨rfl, hw⟩; obtain rfl := hw.symm))
    go_loop [3, 15] (fun a b => ∃ k : Nat, b = .int .i64 k ∧ k ≤ 8 ∧ a = .int .u64 (unrawL (X.take k))) (fun _ b => 8 - (intOf b).toNat)
    case atStart => exact ⟨0, rfl, by omega, by simp [unrawL]⟩
    case round =>
      obtain ⟨k, rfl, hk, rfl⟩ := hrel
      by_cases hlt : k < 8
      · have hkX : k < X.length := by omega
        have hc := r5.cell k hkX
        obtain ⟨x, hx⟩ : ∃ x, X.getD k 0 = x := ⟨_, rfl⟩
        rw [hx] at hc
        have hxk : X[k] = x := by rw [← hx, List.getD, List.getElem?_eq_getElem hkX]; rfl
        have hxb := hby X[k] (List.getElem_mem _)
        rw [hxk] at hxb
        obtain ⟨x0, x1⟩ := hxb
        have st : unrawL (X.take (k + 1)) = unrawL (X.take k) * 256 + x := by
          rw [List.take_add_one, List.getElem?_eq_getElem hkX, hxk]; exact unraw_snoc _ _
        have bd := unraw_bound k (X.take k) (by simp; omega) (fun y hy => hby y (List.mem_of_mem_take hy))
        have pk : (256 : Int) ^ k ≤ 72057594037927936 := by
          rcases (by omega : k = 0 ∨ k = 1 ∨ k = 2 ∨ k = 3 ∨ k = 4 ∨ k = 5 ∨ k = 6 ∨ k = 7) with rfl | rfl | rfl | rfl | rfl | rfl | rfl | rfl <;> decide
        obtain ⟨u, hu⟩ : ∃ u, unrawL (X.take k) = u := ⟨_, rfl⟩
        rw [hu] at st bd
        have b0 : 0 ≤ u := bd.1
        have b1 : u < 72057594037927936 := by omega
        have HO : Hid (bits .or .u64 (u * 256) x = u * 256 + x) := or_low u x b0 b1 x0 x1
        have HS : Hid (unrawL (X.take (k + 1)) = u * 256 + x) := st
        rw [hu]
        have ho := HO.out
        clear st bd pk hx hxk hu HO
        go_wp2
        go_round
        case rel => exact ⟨k + 1, by go_num, by omega, by rw [HS.out]⟩
        case measure => simp [intOf]; omega
      · obtain rfl : k = 8 := by omega
        have e8 : X.take 8 = X := List.take_of_length_le (by omega)
        rw [e8, HV.out]
        clear e8
        go_wp2
        go_ret
        exact ⟨rfl, h1, u1⟩
  · rw [if_neg hn]
    have N := raw_short R g K s.pos 8 w h (by omega)
    unfold PostR
    simp only
    go_enter Tryz.func35, Tryz.ntmps35
    go_wp2_with (first
      | (go_at_call 28; refine N.mono ?_; clear N; rintro e w1 ⟨p1, rfl, F1, q1, b1⟩)
      | (go_at_call 27; refine (mustB_bad _ _ _ p1 _ _ _ F1).mono ?_; rintro e w2 ⟨⟨q2, p2, rfl, G2⟩, b2⟩))
    exact ⟨rfl, ⟨q2, p2, rfl, G2⟩, upd_bel (b1.trans (b2.mono b1.size))⟩
theorem bAtMost_any (T R g : Nat) (K : List Int) (s : Dst) (m : Int) (w : World) (hT : TkB w T R) (h : IsR w R g K s.pos) :
    Calls Tryz.prog 111 #[.pointer (some ⟨T, 0, none⟩), .int .u8 m] w fun e w' => PostR R g K w (fun v => .int .u8 v) (atMostD m K s) e w' := by
  have d0 := hT.c0
  have A := at_any R g K s.pos w h
  have S := bSmall_any T R g K s w hT h
  unfold atMostD stepD
  generalize smallD K s = r at S ⊢
  rcases r with ⟨a, no⟩ | ⟨v, s'⟩
  · unfold PostR at S ⊢
    simp only at S ⊢
    go_enter Tryz.func111, Tryz.ntmps111
    go_wp2_with (first
      | (go_at_call 64; refine A.mono ?_; clear A; rintro e w1 ⟨rfl, hw⟩; obtain rfl := hw.symm)
      | (go_at_call 87; refine S.mono ?_; clear S; rintro e w2 ⟨⟨q2, p2, rfl, G2⟩, u2⟩))
    exact ⟨rfl, ⟨q2, p2, rfl, G2⟩, u2⟩
  · simp only
    by_cases hm : m < v
    · rw [if_pos hm]
      unfold PostR at S ⊢
      simp only at S ⊢
      go_enter Tryz.func111, Tryz.ntmps111
      go_wp2_with (first
        | (go_at_call 64; refine A.mono ?_; clear A; rintro e w1 ⟨rfl, hw⟩; obtain rfl := hw.symm)
        | (go_at_call 87; refine S.mono ?_; clear S; rintro e w2 ⟨rfl, h2, u2⟩)
        | (go_at_call 18; refine (giveUp_any _ _ _).mono ?_; rintro e w3 ⟨⟨q3, p3, rfl, G3⟩, b3⟩))
      exact ⟨rfl, ⟨q3, p3, rfl, G3⟩, upd_bel2 u2 b3⟩
    · rw [if_neg hm]
      unfold PostR at S ⊢
      simp only at S ⊢
      go_enter Tryz.func111, Tryz.ntmps111
      go_wp2_with (first
        | (go_at_call 64; refine A.mono ?_; clear A; rintro e w1 ⟨rfl, hw⟩; obtain rfl := hw.symm)
        | (go_at_call 87; refine S.mono ?_; clear S; rintro e w2 ⟨rfl, h2, u2⟩))
      go_ret
      exact ⟨rfl, h2, u2⟩
theorem bCount_any (T R g : Nat) (K : List Int) (s : Dst) (m no : Nat) (w : World) (hT : TkB w T R) (h : IsR w R g K s.pos) (hK : ∀ x ∈ K, 0 ≤ x ∧ x < 256) :
    Calls Tryz.prog 68 #[.pointer (some ⟨T, 0, none⟩), .int .u64 m, .int .i64 no] w fun e w' => PostR R g K w (fun v : Nat => .int .u64 v) (countD m no K s) e w' := by
  have d0 := hT.c0
  have hne := hT.ne h
  have A := at_any R g K s.pos w h
  have N := getUint_any R g K s.pos w h
  have hv := scan_val (K.drop s.pos) 0 0
  have hby : ∀ x ∈ K.drop s.pos, 0 ≤ x ∧ x < 256 := fun x hx => hK x (List.mem_of_mem_drop hx)
  have D0 : ∀ w', Upd (fun k => k = R) w w' → w'.cell? ⟨T, 0, none⟩ = some (.pointer (some ⟨R, 0, none⟩)) := fun w' u => (hT.upd u hne).c0
  unfold countD stepD uintD
  generalize scanN (K.drop s.pos) 0 0 = r at N hv ⊢
  cases r using NumRes.each with
  | ok v n =>
    have hv64 := hv v n hby (by omega) (fun _ => by simp) rfl
    clear hv
    simp only
    unfold UintPost at N
    by_cases hm : m < v
    · rw [if_pos hm]
      unfold PostR
      simp only
      have hmi : (m : Int) < (v : Int) := by omega
      clear hby hK hT
      go_enter Tryz.func68, Tryz.ntmps68
      go_wp2_with (first
        | (go_at_call 64; refine A.mono ?_; clear A; rintro e w1 ⟨rfl, hw⟩; obtain rfl := hw.symm)
        | (go_at_call 63; refine N.mono ?_; clear N; rintro e w2 ⟨rfl, h2, u2⟩)
        | (go_at_call 62; refine (mustU_ok _ _).mono ?_; rintro e w3 ⟨rfl, hw3⟩; obtain rfl := hw3.symm)
        | (go_at_call 18; refine (giveUp_any _ _ _).mono ?_; rintro e w4 ⟨⟨q4, p4, rfl, G4⟩, b4⟩))
      exact ⟨rfl, ⟨q4, p4, rfl, G4⟩, upd_bel2 u2 b4⟩
    · rw [if_neg hm]
      unfold PostR
      simp only [Dst.to]
      have hmi : ¬ (m : Int) < (v : Int) := by omega
      clear hby hK hT
      go_enter Tryz.func68, Tryz.ntmps68
      go_wp2_with (first
        | (go_at_call 64; refine A.mono ?_; clear A; rintro e w1 ⟨rfl, hw⟩; obtain rfl := hw.symm)
        | (go_at_call 63; refine N.mono ?_; clear N; rintro e w2 ⟨rfl, h2, u2⟩)
        | (go_at_call 62; refine (mustU_ok _ _).mono ?_; rintro e w3 ⟨rfl, hw3⟩; obtain rfl := hw3.symm))
      go_ret
      exact ⟨rfl, h2, u2⟩
  | form =>
    clear hv hby hK hT
    unfold UintPost at N
    unfold PostR
    simp only
    go_enter Tryz.func68, Tryz.ntmps68
    go_wp2_with (first
      | (go_at_call 64; refine A.mono ?_; clear A; rintro e w1 ⟨rfl, hw⟩; obtain rfl := hw.symm)
      | (go_at_call 63; refine N.mono ?_; clear N; rintro e w2 ⟨p2, rfl, F2, q2, b2⟩)
      | (go_at_call 62; refine (mustU_bad _ p2 _ _ _ F2).mono ?_; rintro e w3 ⟨⟨q3, p3, rfl, G3⟩, b3⟩))
    exact ⟨rfl, ⟨q3, p3, rfl, G3⟩, upd_bel (b2.trans (b3.mono b2.size))⟩
  | ended =>
    clear hv hby hK hT
    unfold UintPost at N
    unfold PostR
    simp only
    go_enter Tryz.func68, Tryz.ntmps68
    go_wp2_with (first
      | (go_at_call 64; refine A.mono ?_; clear A; rintro e w1 ⟨rfl, hw⟩; obtain rfl := hw.symm)
      | (go_at_call 63; refine N.mono ?_; clear N; rintro e w2 ⟨p2, rfl, F2, q2, b2⟩)
      | (go_at_call 62; refine (mustU_bad _ p2 _ _ _ F2).mono ?_; rintro e w3 ⟨⟨q3, p3, rfl, G3⟩, b3⟩))
    exact ⟨rfl, ⟨q3, p3, rfl, G3⟩, upd_bel (b2.trans (b3.mono b2.size))⟩
theorem bAbove_any (T R g : Nat) (K : List Int) (s : Dst) (o m : Int) (w : World) (hT : TkB w T R) (h : IsR w R g K s.pos) (hK : ∀ x ∈ K, 0 ≤ x ∧ x < 256) (h0 : 0 ≤ o) (h1 : o ≤ m) (h2 : m ≤ 18446744073709551615) :
    Calls Tryz.prog 105 #[.pointer (some ⟨T, 0, none⟩), .int .u64 o, .int .u64 m] w fun e w' => PostR R g K w (fun v => .int .u64 v) (aboveD o m K s) e w' := by
  have d0 := hT.c0
  have hne := hT.ne h
  have A := at_any R g K s.pos w h
  have N := getUint_any R g K s.pos w h
  have hv := scan_val (K.drop s.pos) 0 0
  have hby : ∀ x ∈ K.drop s.pos, 0 ≤ x ∧ x < 256 := fun x hx => hK x (List.mem_of_mem_drop hx)
  have D0 : ∀ w', Upd (fun k => k = R) w w' → w'.cell? ⟨T, 0, none⟩ = some (.pointer (some ⟨R, 0, none⟩)) := fun w' u => (hT.upd u hne).c0
  unfold aboveD stepD uintD
  generalize scanN (K.drop s.pos) 0 0 = r at N hv ⊢
  cases r using NumRes.each with
  | ok v n =>
    have hv64 := hv v n hby (by omega) (fun _ => by simp) rfl
    clear hv
    simp only
    unfold UintPost at N
    by_cases hm : m - o < (v : Int)
    · rw [if_pos hm]
      unfold PostR
      simp only

      clear hby hK hT
      go_enter Tryz.func105, Tryz.ntmps105
      go_wp2_with (first
        | (go_at_call 64; refine A.mono ?_; clear A; rintro e w1 ⟨rfl, hw⟩; obtain rfl := hw.symm)
        | (go_at_call 63; refine N.mono ?_; clear N; rintro e w2 ⟨rfl, h2, u2⟩)
        | (go_at_call 62; refine (mustU_ok _ _).mono ?_; rintro e w3 ⟨rfl, hw3⟩; obtain rfl := hw3.symm)
        | (go_at_call 18; refine (giveUp_any _ _ _).mono ?_; rintro e w4 ⟨⟨q4, p4, rfl, G4⟩, b4⟩))
      exact ⟨rfl, ⟨q4, p4, rfl, G4⟩, upd_bel2 u2 b4⟩
    · rw [if_neg hm]
      unfold PostR
      simp only [Dst.to]
      have hs1 : o + (v : Int) ≤ 18446744073709551615 := by omega
      clear hby hK hT
      go_enter Tryz.func105, Tryz.ntmps105
      go_wp2_with (first
        | (go_at_call 64; refine A.mono ?_; clear A; rintro e w1 ⟨rfl, hw⟩; obtain rfl := hw.symm)
        | (go_at_call 63; refine N.mono ?_; clear N; rintro e w2 ⟨rfl, h2, u2⟩)
        | (go_at_call 62; refine (mustU_ok _ _).mono ?_; rintro e w3 ⟨rfl, hw3⟩; obtain rfl := hw3.symm))
      go_ret
      exact ⟨rfl, h2, u2⟩
  | form =>
    clear hv hby hK hT
    unfold UintPost at N
    unfold PostR
    simp only
    go_enter Tryz.func105, Tryz.ntmps105
    go_wp2_with (first
      | (go_at_call 64; refine A.mono ?_; clear A; rintro e w1 ⟨rfl, hw⟩; obtain rfl := hw.symm)
      | (go_at_call 63; refine N.mono ?_; clear N; rintro e w2 ⟨p2, rfl, F2, q2, b2⟩)
      | (go_at_call 62; refine (mustU_bad _ p2 _ _ _ F2).mono ?_; rintro e w3 ⟨⟨q3, p3, rfl, G3⟩, b3⟩))
    exact ⟨rfl, ⟨q3, p3, rfl, G3⟩, upd_bel (b2.trans (b3.mono b2.size))⟩
  | ended =>
    clear hv hby hK hT
    unfold UintPost at N
    unfold PostR
    simp only
    go_enter Tryz.func105, Tryz.ntmps105
    go_wp2_with (first
      | (go_at_call 64; refine A.mono ?_; clear A; rintro e w1 ⟨rfl, hw⟩; obtain rfl := hw.symm)
      | (go_at_call 63; refine N.mono ?_; clear N; rintro e w2 ⟨p2, rfl, F2, q2, b2⟩)
      | (go_at_call 62; refine (mustU_bad _ p2 _ _ _ F2).mono ?_; rintro e w3 ⟨⟨q3, p3, rfl, G3⟩, b3⟩))
    exact ⟨rfl, ⟨q3, p3, rfl, G3⟩, upd_bel (b2.trans (b3.mono b2.size))⟩
theorem bLater_pos (T R g : Nat) (K : List Int) (s : Dst) (o : Int) (w : World) (hT : TkB w T R) (h : IsR w R g K s.pos) (hK : ∀ x ∈ K, 0 ≤ x ∧ x < 256) (h0 : 0 ≤ o) (h1 : o ≤ 9223372036854775807) :
    Calls Tryz.prog 89 #[.pointer (some ⟨T, 0, none⟩), .int .i64 o] w fun e w' => PostR R g K w (fun v => .int .i64 v) (laterD o K s) e w' := by
  have B := bAbove_any T R g K s o 9223372036854775807 w hT h hK h0 h1 (by omega)
  have hr : ∀ v s', aboveD o 9223372036854775807 K s = .ok (v, s') → 0 ≤ v ∧ v ≤ 9223372036854775807 := by
    intro v s' hh
    obtain ⟨u, s1, _, h4⟩ := step_ok hh
    split at h4
    · simp at h4
    · simp at h4; omega
  unfold laterD
  generalize aboveD o 9223372036854775807 K s = r at B hr ⊢
  rcases r with ⟨a, no⟩ | ⟨v, s'⟩
  · unfold PostR at B ⊢
    simp only at B ⊢
    go_enter Tryz.func89, Tryz.ntmps89
    go_wp2_with (go_at_call 105; refine B.mono ?_; clear B; rintro e w2 ⟨⟨q2, p2, rfl, G2⟩, u2⟩)
    exact ⟨rfl, ⟨q2, p2, rfl, G2⟩, u2⟩
  · obtain ⟨r0, r1⟩ := hr v s' rfl
    clear hr
    unfold PostR at B ⊢
    simp only at B ⊢
    go_enter Tryz.func89, Tryz.ntmps89
    go_wp2_with (go_at_call 105; refine B.mono ?_; clear B; rintro e w2 ⟨rfl, h2, u2⟩)
    go_ret
    exact ⟨rfl, h2, u2⟩
end Go.Proofs.YthcghpbkadlliabGreatDoor
