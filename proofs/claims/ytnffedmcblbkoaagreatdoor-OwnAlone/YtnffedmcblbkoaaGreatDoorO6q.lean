/-
  Merged: O6, O7.
-/
import Derived.Test.YtnffedmcblbkoaaGreatDoorO5
import Derived.Test.YtnffedmcblbkoaaGreatDoorTVq
import Derived.Test.YtnffedmcblbkoaaGreatDoorTQq
import Derived.Test.YtnffedmcblbkoaaGreatDoorOMq
namespace Go.Proofs.YtnffedmcblbkoaaGreatDoor
open Go Go.RowKit
set_option maxRecDepth 100000

def ShP (fin : Nat → Nod) (kn : List Nat) (tr : Int) (S : List Int) (a b : Nat) : Prop := ∀ p q, ∀ hq : q < p, ∀ h : p < kn.length, (p < a ∨ p = a ∧ q < b) → ∀ t, runB fin t kn[p] = true → runB fin t (kn[q]'(by omega)) = true → tr ∈ S
def ShA (fin : Nat → Nod) (K : Nat → List Int) (S : List Int) (i : Nat) : Prop := ∀ y, y < i → ShP fin (knK K y) (fin y).tree S (knK K y).length 0
theorem ShP.zero (fin : Nat → Nod) (kn : List Nat) (tr : Int) (S : List Int) : ShP fin kn tr S 0 0 := fun p q hq _ h => by omega
theorem ShP.more {fin : Nat → Nod} {kn : List Nat} {tr : Int} {S : List Int} {a b : Nat} (h : ShP fin kn tr S a b) (x : Int) : ShP fin kn tr (S ++ [x]) a b := fun p q hq hp h1 t h2 h3 => List.mem_append_left _ (h p q hq hp h1 t h2 h3)
theorem ShA.more {fin : Nat → Nod} {K : Nat → List Int} {S : List Int} {i : Nat} (h : ShA fin K S i) (x : Int) : ShA fin K (S ++ [x]) i := fun y hy => (h y hy).more x
theorem ShP.yes (fin : Nat → Nod) (kn : List Nat) (tr : Int) (S : List Int) (a b : Nat) : ShP fin kn tr (S ++ [tr]) a (b + 1) := fun _ _ _ _ _ _ _ _ => by simp
theorem ShP.no {fin : Nat → Nod} {kn : List Nat} {tr : Int} {S : List Int} {a b : Nat} (h : ShP fin kn tr S a b) (hba : b < a) (ha : a < kn.length) (m : Int) (hm : m = (if (fin kn[a]).fr < (fin (kn[b]'(by omega))).fr then (fin (kn[b]'(by omega))).fr else (fin kn[a]).fr)) (hno : ¬ (runB fin m kn[a] = true ∧ runB fin m (kn[b]'(by omega)) = true)) : ShP fin kn tr S a (b + 1) := fun p q hq hp h1 t h2 h3 => by
  by_cases e : p = a ∧ q = b
  · obtain ⟨rfl, rfl⟩ := e
    refine absurd ⟨?_, ?_⟩ hno <;> (simp only [runB, Bool.and_eq_true, decide_eq_true_eq] at h2 h3 ⊢; split at hm <;> omega)
  · exact h p q hq hp (by omega) t h2 h3
theorem ShP.next {fin : Nat → Nod} {kn : List Nat} {tr : Int} {S : List Int} {a : Nat} (h : ShP fin kn tr S a a) : ShP fin kn tr S (a + 1) 0 := fun p q hq hp h1 t h2 h3 => h p q hq hp (by omega) t h2 h3
theorem ShA.next {fin : Nat → Nod} {K : Nat → List Int} {S : List Int} {i : Nat} (h : ShA fin K S i) (h2 : ShP fin (knK K i) (fin i).tree S (knK K i).length 0) : ShA fin K S (i + 1) := fun y hy => by
  by_cases e : y = i
  · subst e
    exact h2
  · exact h y (by omega)
section
variable {Y : List Sp} {C : List Int} {dp : Nat → Nat} {fin : Nat → Nod} {X : List Spot} {K : Nat → List Int} {R : List Int}
theorem ShA.plain (h : FoB Y C dp fin X K R) {S : List Int} (hS : ShA fin K S Y.length) {x : Nat} (hx : x < Y.length) (hno : (fin x).tree ∉ S) : PlainT fin K x := fun y hy a ha b hb t h1 h2 => by
  obtain ⟨hyl, _, _, _, e⟩ := h.inTlt hx y hy
  obtain ⟨p, hp, rfl⟩ := List.mem_iff_getElem.1 ha
  obtain ⟨q, hq, rfl⟩ := List.mem_iff_getElem.1 hb
  rcases Nat.lt_trichotomy p q with hpq | rfl | hpq
  · exact absurd (by rw [← e]; exact hS y hyl q p hpq hq (by omega) t h2 h1) hno
  · rfl
  · exact absurd (by rw [← e]; exact hS y hyl p q hpq hp (by omega) t h1 h2) hno
theorem FoB.aloneOk (h : FoB Y C dp fin X K R) {ro : Nat → Nat} (hro : RooF Y fin K R ro) {S : List Int} (hS : ShA fin K S Y.length) {N : Nat} (hN : (N : Int) = 18446744073709551615) {y : Nat} (hy : y < Y.length) : selfX fin K dp ro y ≤ lenI ((fin y).fr, (fin y).til) - iv.muV N (memI (kidI fin K y)) ∧ lenI ((fin y).fr, (fin y).til) - iv.muV N (memI (kidI fin K y)) ≤ lenI ((fin y).fr, (fin y).til) ∧ ((fin y).tree ∉ S → selfX fin K dp ro y = lenI ((fin y).fr, (fin y).til) - iv.muV N (memI (kidI fin K y))) := by
  obtain ⟨hx, h1, h2, h3, h4, _⟩ := hro y hy
  obtain ⟨_, n2, _, n4⟩ := h.legsO hx
  have le := h.ownLe hx n2.tile (fun l hl => (n4 l hl).2.2) hy hN
  have hc := (cntM_nonneg (memI (kidI fin K y)) (-9223372036854775808) N).1
  have e : iv.muV N (memI (kidI fin K y)) = cntM (memI (kidI fin K y)) (-9223372036854775808) N := rfl
  rw [e]
  unfold selfX
  refine ⟨by omega, by omega, fun hno => ?_⟩
  have hp : PlainT fin K (ro y) := hS.plain h hx (by rw [h2, ← h4]; exact hno)
  rcases h.ownEq hx hp n2 h3 hN with q | q <;> omega
end
end Go.Proofs.YtnffedmcblbkoaaGreatDoor

namespace Go.Proofs.YtnffedmcblbkoaaGreatDoor
open Go Go.RowKit
set_option maxRecDepth 100000

theorem both_yes (ad : Option Addr) (n cap : Nat) (X : List Sp) (P : Nat → Pl) (w : World) (hX : SpsAt w ad n X P) (hF : ∀ a ∈ X, a.Fits) (hS : ∀ a ∈ X, a.Small) (hT : Tabs w) (h1 : OneT X) : Calls Tryz.prog 7 #[.slice ad n cap] w fun e w' => ∃ f g sb Y C dp fin X' K rv R, e = .returned (.tuple #[.pointer (some ⟨f, 0, none⟩), .pointer (some ⟨g, 0, none⟩), .bool true]) ∧ Hid (BuT X w' f sb Y C dp fin X' K rv R) ∧ Below w.heap.size w w' := by
  have BD := build_one ad n cap X P w hX hF hS hT h1
  have RB : Hid (∀ w1 f sb Y C dp fin X' K rv R, Below w.heap.size w w1 → BuT X w1 f sb Y C dp fin X' K rv R → Calls Tryz.prog 30 #[.slice ad n cap] w1 fun e w' => ∃ g, e = .returned (.tuple #[.pointer (some ⟨g, 0, none⟩), .int .i64 0]) ∧ Hid (RFor w' g Y fin) ∧ Below w1.heap.size w1 w') := fun w1 f sb Y C dp fin X' K rv R hb hB => rBuild_one ad n cap X P w1 (hX.below hb) hF hS h1 hB
  clear hX hF hS hT h1
  go_enter Tryz.func7, Tryz.ntmps7
  go_wp2_with (first
    | (go_at_call 27; (with_reducible refine BD.mono ?_); clear BD; rintro e w2 ⟨f, sb, Y, C, dp, fin, X', K, rv, R, rfl, HB, b2⟩; have R1 := RB.out w2 f sb Y C dp fin X' K rv R b2 HB.out; have HB2 : Hid (Below w.heap.size w w2) := b2; clear b2 RB)
    | (go_at_call 30; (with_reducible refine R1.mono ?_); clear R1; rintro e w3 ⟨g, rfl, HG, b3⟩; have HB3 : Hid (BuT X w3 f sb Y C dp fin X' K rv R ∧ Below w.heap.size w w3) := ⟨HB.out.below b3, HB2.out.trans (b3.mono HB2.out.size)⟩; clear b3))
  go_ret3
  exact ⟨f, g, sb, Y, C, dp, fin, X', K, rv, R, rfl, HB3.out.1, HB3.out.2⟩
theorem both_no (ad : Option Addr) (n cap : Nat) (X : List Sp) (P : Nat → Pl) (w : World) (hX : SpsAt w ad n X P) (hF : ∀ a ∈ X, a.Fits) (hS : ∀ a ∈ X, a.Small) (hT : Tabs w) (h1 : ¬ OneT X) : Calls Tryz.prog 7 #[.slice ad n cap] w fun e w' => e = .returned (.tuple #[.pointer none, .pointer none, .bool true]) ∧ Below w.heap.size w w' := by
  have BD := build_none ad n cap X P w hX hF hS hT h1
  have RB : Hid (∀ w1, Below w.heap.size w w1 → Calls Tryz.prog 30 #[.slice ad n cap] w1 fun e w' => e = .returned (.tuple #[.pointer none, .int .i64 101]) ∧ Below w1.heap.size w1 w') := fun w1 hb => rBuild_none ad n cap X P w1 (hX.below hb) hF hS h1
  clear hX hF hS hT h1
  go_enter Tryz.func7, Tryz.ntmps7
  go_wp2_with (first
    | (go_at_call 27; (with_reducible refine BD.mono ?_); clear BD; rintro e w2 ⟨rfl, b2⟩; have R1 := RB.out w2 b2; have HB2 : Hid (Below w.heap.size w w2) := b2; clear b2 RB)
    | (go_at_call 30; (with_reducible refine R1.mono ?_); clear R1; rintro e w3 ⟨rfl, b3⟩; have HB3 : Hid (Below w.heap.size w w3) := HB2.out.trans (b3.mono HB2.out.size); clear b3))
  go_ret3
  exact ⟨rfl, HB3.out⟩
theorem running_any {f sb : Nat} {Y : List Sp} {C : List Int} {dp : Nat → Nat} {fin : Nat → Nod} {X : List Spot} {K : Nat → List Int} {rv : Value} {R : List Int} {w W : World} (hF : ForestAt w f sb X K rv R) (h : FoB Y C dp fin X K R) (hb : Below w.heap.size w W) (c : Nat) (hc : c < Y.length) (at_ : Int) : Calls Tryz.prog 16 #[.pointer (some ⟨f, 0, none⟩), .int .u64 (fin c).id, .int .i64 at_] W fun e w' => e = .returned (.bool (runB fin at_ c)) ∧ Below W.heap.size W w' := by
  have hl := h.fo.len
  have e0 := (h.fo.each c hc (by omega)).2
  have ND := node_at (hF.below hb) c (by omega) (fin c).id (by rw [e0])
  rw [e0] at ND
  clear hF h hb hl e0
  unfold runB
  unfold ndV at ND
  generalize (fin c).id = id at *
  generalize (fin c).par = q1 at *
  generalize (fin c).org = q2 at *
  generalize (fin c).tree = q3 at *
  generalize (fin c).dep = q4 at *
  generalize (fin c).fr = fr at *
  generalize (fin c).til = til at *
  go_enter Tryz.func16, Tryz.ntmps16
  go_upto_region 2 with (go_at_call 10; (with_reducible refine ND.mono ?_); clear ND; rintro e w5 ⟨rfl, hb5⟩; have HB5 : Hid (Below W.heap.size W w5) := hb5; clear hb5)
  obtain ⟨V5, hV5⟩ : ∃ V, w5.alloc (.cells #[.int .u64 id, .int .u64 q1, .int .i64 q2, .int .u64 q3, .int .i64 q4, .int .i64 fr, .int .i64 til] 38) = V := ⟨_, rfl⟩
  have bk : Blk V5 w5.heap.size #[.int .u64 id, .int .u64 q1, .int .i64 q2, .int .u64 q3, .int .i64 q4, .int .i64 fr, .int .i64 til] 38 := by rw [← hV5]; exact Blk.new _ _ _
  have k5 : V5.cell? ⟨w5.heap.size, 5, none⟩ = some (.int .i64 fr) := bk.cell 5 rfl
  have k6 : V5.cell? ⟨w5.heap.size, 5 + 1, none⟩ = some (.int .i64 til) := bk.cell 6 rfl
  have k7 : V5.cell? ⟨w5.heap.size, 6, none⟩ = some (.int .i64 til) := bk.cell 6 rfl
  have BV : Hid (Below W.heap.size W V5) := by rw [← hV5]; exact HB5.out.alloc HB5.out.size _
  rw [hV5]
  clear hV5 bk HB5
  by_cases a1 : fr ≤ at_
  · by_cases a2 : at_ < til
    · go_wp2
      go_ret
      exact ⟨by simp; omega, BV.out⟩
    · go_wp2
      go_ret
      exact ⟨by simp; omega, BV.out⟩
  · go_wp2
    go_ret
    exact ⟨by simp; omega, BV.out⟩
theorem wpList_appOs {ops : Array Oper} {rest : List Oper} {o : Oper} {a : Act} {Q : Exit → Act → World → Prop} (wr : World) (hgd : o.guard = none) (s x : Operand)
    (ho : o.op = .call { callee := .builtin .append, args := #[s, x], argTypes := #[30, 30] })
    (base : Nat) (v : Value) (n : Nat) (M : List Int) (y : Int) (b : Nat) (hb : b = wr.heap.size) (hv : a.eval s = v) (hown : wr.ownsRow base 33 1 v n (M.flatMap uL)) (hx : a.eval x = .slice (some ⟨b, 0, none⟩) 1 1) (hn : n ≤ 1000000000) (hbase : base ≤ wr.heap.size)
    (h : ∀ va vc w', w'.ownsRow base 33 1 (.slice va (n + 1) vc) (n + 1) ((M ++ [y]).flatMap uL) → Upd (fun q => v.ownBlock = some q) wr w' → Moved wr v (.slice va (n + 1) vc) → wpList Tryz.prog ops Q rest (a.put o.dst (.slice va (n + 1) vc)) w') : wpList Tryz.prog ops Q (o :: rest) a (wr.alloc (.cells #[.int .u64 y] 33)) := by
  subst hb
  obtain ⟨i0, hi0, hz0, hz1, hz2⟩ := infoU1
  have hown' : (wr.alloc (.cells #[.int .u64 y] 33)).ownsRow base 33 1 v n (M.flatMap uL) := ownsRow_upd hown ((Upd.refl (fun _ => False) wr).alloc _) (fun _ _ h => h)
  refine wpList_app _ hgd s x 30 30 ho base 33 i0 (.int .u64 0) 8 Tryz.underlying30 hi0 hz0 hz1 hz2 rfl v n _ hv hown' _ 1 [.int .u64 y] hx (src_one Tryz.underlying30 wr _ _ rfl) (by unfold maxLen; omega) (by omega) (by simp; omega) ?_
  intro v1 w1 o1 g1 m1
  have e : M.flatMap uL ++ [.int .u64 y] = (M ++ [y]).flatMap uL := by simp [uL]
  rw [e] at o1
  obtain ⟨va, vc, rfl⟩ := owns_sliceS o1
  refine h va vc w1 o1 (((Upd.refl _ wr).alloc _).grown g1 (fun k _ e => e)) ?_
  rcases m1 with m1 | ⟨k, m1, m2⟩
  · exact Or.inl m1
  · exact Or.inr ⟨k, m1, by rw [World.size_alloc] at m2; omega⟩
end Go.Proofs.YtnffedmcblbkoaaGreatDoor
