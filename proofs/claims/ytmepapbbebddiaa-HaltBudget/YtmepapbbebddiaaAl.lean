/-
  spoorlaw03: alive.
-/
import Derived.Test.YtmepapbbebddiaaUo
namespace Go.Proofs.Ytmepapbbebddiaa
open Go Go.Conc Go.RowKit Go.MuLone

theorem anc_two {a c : Nat} (hne : a ≠ c) : ∀ j y, anc (pgX (fun _ => none) c a) j c = some y → (j = 0 ∧ y = c) ∨ (j = 1 ∧ y = a) := by
  intro j y h
  match j, h with
  | 0, h => simp only [anc, Option.some.injEq] at h; exact Or.inl ⟨rfl, h.symm⟩
  | 1, h => simp [anc, pgX] at h; exact Or.inr ⟨rfl, h.symm⟩
  | j + 2, h => simp [anc, pgX, hne] at h

theorem Upd.lower {lk n₀ : Nat} {S : List Nat} {N : Nat → Nd} {w w' : World} {pg : Nat → Option Nat} {q : Int} {w0 : World} (h : Fam w0 n₀ lk S N pg q) (hu : Upd (Foot lk S N) w w') (hs : n₀ ≤ w.heap.size) : Below n₀ w w' :=
  hu.below hs (fun k hk hf => by have := (Foot.range h hf).1; omega)

set_option maxRecDepth 100000 in
set_option maxHeartbeats 1000000 in
theorem alive_any (w : World) : Calls Try.prog 8 #[] w fun e w' => e = .returned (.bool true) ∧ Below w.heap.size w w' := by
  have HN := new_any 10 (by omega) w
  obtain ⟨w1, hw1⟩ : ∃ w1, newL w (budg 10) = w1 := ⟨_, rfl⟩
  have F1 := Fam.one w (budg 10)
  rw [hw1] at HN F1
  have b1 : Below w.heap.size w w1 := by
    rw [← hw1]; simp only [newL, newW]
    exact (((Below.refl _ w).alloc (Nat.le_refl _) _).alloc (by simp) _).alloc (by simp; omega) _
  have s1 := b1.size
  have HU := Under_any F1 (s := w.heap.size + 2) (by simp) 3 (by omega) (by simp)
  obtain ⟨a, ha⟩ : ∃ a, w.heap.size + 2 = a := ⟨_, rfl⟩
  obtain ⟨c, hc⟩ : ∃ c, w1.heap.size + 1 = c := ⟨_, rfl⟩
  rw [ha] at F1
  have hal : a < w1.heap.size := F1.lt (by simp)
  have hac : a ≠ c := by omega
  have hs2 : ∀ (N2 : Nat → Nd) (w2 : World), Grown1 w1 w2 w.heap.size w.heap.size [a] (fun _ => ndNew none 0 (budg 10)) N2 (fun _ => none) a (budg 3) →
      Calls Try.prog 18 #[ptrV c, .int .i64 2] w2 fun e w3 => e = .returned (.int .i64 0) ∧ Below w.heap.size w w3 ∧ ∃ N3, Fam w3 w.heap.size w.heap.size [a, c] N3 (pgX (fun _ => none) c a) 0 ∧ (N3 a).why = 0 ∧ (N3 a).left = 8 ∧ (N3 c).why = 0 ∧ (N3 c).left = 1 := by
    intro N2 w2 G
    have Gf := G.fam
    have Gw := G.why
    have Gl := G.left
    have Go := G.old a (by simp)
    rw [hc] at Gf Gw Gl
    simp only [List.cons_append, List.nil_append] at Gf
    have wc : (N2 c).why = 0 := Gw
    have lc : (N2 c).left = 3 := Gl
    have wa : (N2 a).why = 0 := Go.1
    have la : (N2 a).left = 10 := Go.2
    refine (Spend_live Gf (s := c) (by simp) wc 2 (by omega) (by omega) (fun b hb => by
      simp at hb
      rcases hb with rfl | rfl
      · omega
      · omega) (by simp)).mono ?_
    rintro e w3 (⟨_, k, x, N', x1, x2, _⟩ | ⟨rfl, _, N', x1, x2, x3, x4⟩)
    · exfalso
      rcases anc_two hac k x x1 with ⟨_, rfl⟩ | ⟨_, rfl⟩
      · have := x2.2; omega
      · have := x2.2; omega
    · have b2 : Below w.heap.size w w2 := b1.trans (G.upd.lower F1 s1)
      have ec := x1 c ⟨0, rfl⟩
      have ea := x1 a ⟨1, by simp [anc, pgX]⟩
      refine ⟨rfl, b2.trans (x4.upd.lower Gf b2.size), N', x3, ?_, ?_, ?_, ?_⟩
      · rw [ea]; simp [Nd.spent, la, wa]
      · rw [ea]; simp [Nd.spent, la]
      · rw [ec]; simp [Nd.spent, lc, wc]
      · rw [ec]; simp [Nd.spent, lc]
  have hs3 : ∀ (N3 : Nat → Nd) (w3 : World), Below w.heap.size w w3 → Fam w3 w.heap.size w.heap.size [a, c] N3 (pgX (fun _ => none) c a) 0 → (N3 a).why = 0 → (N3 a).left = 8 → (N3 c).why = 0 → (N3 c).left = 1 →
      Calls Try.prog 18 #[ptrV c, .int .i64 2] w3 fun e w4 => e = .returned (.int .i64 31) ∧ Below w.heap.size w w4 ∧ ∃ N4, Fam w4 w.heap.size w.heap.size [a, c] N4 (pgX (fun _ => none) c a) 0 ∧ (N4 a).why = 0 ∧ (N4 a).left = 8 ∧ (N4 c).why = 31 ∧ (N4 c).left = 1 := by
    intro N3 w3 b3 F3 wa la wc lc
    refine (Spend_live F3 (s := c) (by simp) wc 2 (by omega) (by omega) (fun b hb => by
      simp at hb
      rcases hb with rfl | rfl
      · omega
      · omega) (by simp)).mono ?_
    rintro e w4 (⟨rfl, k, x, N', x1, x2, x3, x4, x5, x6⟩ | ⟨_, x1, _⟩)
    · have hx : x = c := by
        rcases anc_two hac k x x1 with ⟨_, rfl⟩ | ⟨_, rfl⟩
        · rfl
        · have := x2.2; omega
      subst hx
      refine ⟨rfl, b3.trans (x6.upd.lower F3 b3.size), N', x4, ?_, ?_, ?_, ?_⟩
      · rw [x5.miss a (by simp) (Or.inr ?_)]; exact wa
        rintro ⟨n, hn⟩
        match n, hn with
        | 0, hn => simp only [anc, Option.some.injEq] at hn; exact hac hn
        | n + 1, hn => simp [anc, pgX, hac] at hn
      · rw [x5.left a (by simp)]; exact la
      · exact x5.hit x (by simp) wc ⟨0, rfl⟩
      · rw [x5.left x (by simp)]; exact lc
    · exfalso
      exact x1 0 c rfl ⟨by omega, by omega⟩
  rw [ha, hc] at HU
  rw [ha] at HN
  go_enter Try.func8, Try.ntmps8
  go_wp2_with (first
    | (go_at_call 19; refine HN.mono ?_; clear HN; rintro e w' ⟨rfl, hw⟩; obtain rfl := hw.symm)
    | (go_at_call 19; refine (new_neg (-1) (by omega) _).mono ?_; rintro e w' ⟨rfl, hw⟩; obtain rfl := hw.symm)
    | (go_at_call 15; refine HU.mono ?_; clear HU; rintro e w2 ⟨rfl, N2, G2⟩; have HS1 := hs2 N2 w2 G2; clear G2 hs2)
    | (go_at_call 18; refine HS1.mono ?_; clear HS1; rintro e w3 ⟨rfl, b3, N3, F3, wa3, la3, wc3, lc3⟩; have HS2 := hs3 N3 w3 b3 F3 wa3 la3 wc3 lc3; clear hs3 F3 b3)
    | (go_at_call 18; refine HS2.mono ?_; clear HS2; rintro e w4 ⟨rfl, b4, N4, F4, wa4, la4, wc4, lc4⟩; have HWa := F4.Why (s := a) (by simp); have HWc := F4.Why (s := c) (by simp); have HLa := F4.Left (s := a) (by simp); have HLc := F4.Left (s := c) (by simp); rw [wa4] at HWa; rw [wc4] at HWc; rw [la4] at HLa; rw [lc4] at HLc; clear F4))
  go_wp2_with (first
    | (go_at_call 16; refine HWc.mono ?_; clear HWc; rintro e w' ⟨rfl, hw⟩; obtain rfl := hw.symm)
    | (go_at_call 16; refine HWa.mono ?_; clear HWa; rintro e w' ⟨rfl, hw⟩; obtain rfl := hw.symm)
    | (go_at_call 17; refine HLa.mono ?_; clear HLa; rintro e w' ⟨rfl, hw⟩; obtain rfl := hw.symm)
    | (go_at_call 17; refine HLc.mono ?_; clear HLc; rintro e w' ⟨rfl, hw⟩; obtain rfl := hw.symm))
  go_ret
  exact ⟨rfl, b4⟩
end Go.Proofs.Ytmepapbbebddiaa
