/-
  PK.
-/
import Derived.Test.YtplbaiibocgpnaaGreatDoorPJ
namespace Go.Proofs.YtplbaiibocgpnaaGreatDoor
open Go Go.RowKit
set_option maxRecDepth 100000

theorem legsIn_below {w w' : World} {g : Nat} {L : List (Int × Int × Int)} (h : LegsIn w g L) (hb : Below w.heap.size w w') (hg : g < w.heap.size) : LegsIn w' g L := fun i hi => by
  have k : ∀ j, w'.cell? ⟨g, j, none⟩ = w.cell? ⟨g, j, none⟩ := fun j => hb.cell (p := ⟨g, j, none⟩) hg
  rw [k, k, k]
  exact h i hi
/-- A root is not lacking. -/
theorem lacksW_any (f sb : Nat) (X : List Spot) (K : Nat → List Int) (rvv : Value) (R : List Int) (W : World) (h : ForestAt W f sb X K rvv R) (x : Nat) (hx : x < X.length) (d : Nod) (hd : X[x].nd = d) (ho : d.org ≠ 0) :
    Calls Tryz.prog 22 #[.pointer (some ⟨f, 0, none⟩), .int .u64 d.id] W fun e W' => e = .returned (.int .i64 0) ∧ Below W.heap.size W W' := by
  have N := node_at h x hx d.id (by rw [hd])
  rw [hd] at N
  unfold ndV at N
  have hne : (d.org == 0) = false := by simp [ho]
  clear h hd
  go_enter Tryz.func22, Tryz.ntmps22
  go_wp2_with (go_at_call 8; refine N.mono ?_; clear N; rintro e w1 ⟨rfl, hb⟩)
  go_ret
  exact ⟨rfl, hb.alloc hb.size _⟩
/-- What is none is lacking. -/
theorem lacksW_inner (f sb : Nat) (X : List Spot) (K : Nat → List Int) (rvv : Value) (R : List Int) (W : World) (h : ForestAt W f sb X K rvv R) (x : Nat) (hx : x < X.length) (d : Nod) (hd : X[x].nd = d) (ho : d.org = 0) :
    Calls Tryz.prog 22 #[.pointer (some ⟨f, 0, none⟩), .int .u64 d.id] W fun e W' => e = .returned (.int .i64 111) ∧ Below W.heap.size W W' := by
  have N := node_at h x hx d.id (by rw [hd])
  rw [hd] at N
  unfold ndV at N
  rw [ho] at N
  clear h hd
  go_enter Tryz.func22, Tryz.ntmps22
  go_wp2_with (go_at_call 8; refine N.mono ?_; clear N; rintro e w1 ⟨rfl, hb⟩)
  go_ret
  exact ⟨rfl, hb.alloc hb.size _⟩
theorem pathGone (f : Nat) (id : Int) (W : World) (LA : Calls Tryz.prog 22 #[.pointer (some ⟨f, 0, none⟩), .int .u64 id] W fun e W' => e = .returned (.int .i64 111) ∧ Below W.heap.size W W') : Calls Tryz.prog 9 #[.pointer (some ⟨f, 0, none⟩), .int .u64 id] W fun e W' => e = .returned (.tuple #[.slice none 0 0, .int .i64 111]) ∧ Below W.heap.size W W' := by
  go_enter Tryz.func9, Tryz.ntmps9
  go_wp2_with (go_at_call 22; refine LA.mono ?_; clear LA; rintro e w1 ⟨rfl, hb⟩)
  go_ret2
  exact ⟨rfl, hb⟩
/-- What Path tells. -/
def PathT (W W' : World) (A : Nat → Sp) (fin : Nat → Nod) (C : Nat → List Nat) (x : Nat) (ad : Option Addr) (L : List (Nat × Int × Int)) : Prop := PathR fin C x (fin x).til L ∧ L.length ≤ 2000 ∧ (L ≠ [] → ∃ g, ad = some ⟨g, 0, none⟩ ∧ g < W'.heap.size ∧ LegsIn W' g ((L.map (legX A)).reverse)) ∧ Below W.heap.size W W'
set_option maxHeartbeats 2000000 in
theorem path_any (f sb : Nat) (X : List Spot) (K : Nat → List Int) (rvv : Value) (R : List Int) (A : Nat → Sp) (fin : Nat → Nod) (KN C : Nat → List Nat) (fuel x : Nat) (W : World) (hF : ForestAt W f sb X K rvv R) (T : SvE X K A fin KN C fuel x) (ho : (fin x).org ≠ 0) :
    Calls Tryz.prog 9 #[.pointer (some ⟨f, 0, none⟩), .int .u64 (fin x).id] W fun e W' => ∃ ad cap L, e = .returned (.tuple #[.slice ad L.length cap, .int .i64 0]) ∧ PathT W W' A fin C x ad L := by
  have LA := lacksW_any f sb X K rvv R W hF x T.xX (fin x) (T.nd x T.xX) ho
  have SV : Hid (∀ w1, Below W.heap.size W w1 → Calls Tryz.prog 23 #[.pointer (some ⟨f, 0, none⟩), .int .u64 (fin x).id] w1 fun e W' => ∃ (ad : Option Addr) (cap : Nat) (L : List (Nat × Int × Int)), e = .returned (.pointer (some ⟨w1.heap.size, 0, none⟩)) ∧ W'.cell? ⟨w1.heap.size, 2, none⟩ = some (.slice ad L.length cap) ∧ PathT W W' A fin C x ad L) := fun w1 hb => by
    refine (swept_any f sb X K rvv R A fin KN C fuel x w1 (hF.below hb) T).mono ?_
    rintro e W' ⟨rfl, ⟨lv, L, h1⟩, hb2⟩
    obtain ⟨ad, cap, rfl, hl⟩ := h1.legs
    obtain ⟨B, sv, ht, _⟩ := h1.tree
    exact ⟨ad, cap, L, rfl, ht.cell 2 rfl, h1.path, h1.len, hl, hb.trans (hb2.mono hb.size)⟩
  obtain ⟨id, hid⟩ : ∃ id, (fin x).id = id := ⟨_, rfl⟩
  rw [hid] at LA SV ⊢
  clear hF T ho hid
  go_enter Tryz.func9, Tryz.ntmps9
  go_wp2_with (first
    | (go_at_call 22; refine LA.mono ?_; clear LA; rintro e w1 ⟨rfl, hb1⟩; have S1 := SV.out w1 hb1; clear hb1 SV)
    | (go_at_call 23; refine S1.mono ?_; clear S1; rintro e w2 ⟨ad, cap, L, rfl, e2, hT⟩; have HT : Hid (PathT W w2 A fin C x ad L) := hT; clear hT))
  go_ret2
  exact ⟨ad, cap, L, rfl, HT.out⟩
set_option maxHeartbeats 2000000 in
theorem sameLegsW_any (g h n c d : Nat) (L : List (Int × Int × Int)) (w : World) (hn : L.length = n) (hl : n ≤ 4000) (k1 : LegsIn w g L) (k2 : LegsIn w h L) :
    Calls Tryz.prog 12 #[.slice (some ⟨g, 0, none⟩) n c, .slice (some ⟨h, 0, none⟩) n d] w fun e w' => e = .returned (.bool true) ∧ Below w.heap.size w w' := by
  have KK : Hid (∀ (i : Nat) (hi : i < n), ∃ o a t : Int, (∀ m, (w.drewN m).cell? ⟨g, i * 3, none⟩ = some (.int .u64 o) ∧ (w.drewN m).cell? ⟨g, i * 3 + 1, none⟩ = some (.int .i64 a) ∧ (w.drewN m).cell? ⟨g, i * 3 + 2, none⟩ = some (.int .i64 t)) ∧ (∀ m, (w.drewN m).cell? ⟨h, i * 3, none⟩ = some (.int .u64 o) ∧ (w.drewN m).cell? ⟨h, i * 3 + 1, none⟩ = some (.int .i64 a) ∧ (w.drewN m).cell? ⟨h, i * 3 + 2, none⟩ = some (.int .i64 t))) := fun i hi => by
    have hi' : i < L.length := by omega
    exact ⟨L[i].1, L[i].2.1, L[i].2.2, fun m => k1 i hi', fun m => k2 i hi'⟩
  clear k1 k2 hn
  go_enter Tryz.func12, Tryz.ntmps12
  go_wp2
  go_loopw [5] (fun y wr => ∃ i m : Nat, y = .int .i64 i ∧ i ≤ n ∧ wr = w.drewN m) (fun y _ => n - (intOf y).toNat)
  case atStart => exact ⟨0, 0, rfl, by omega, rfl⟩
  case round =>
    obtain ⟨i, m, rfl, hi, rfl⟩ := hrel
    by_cases hlt : i < n
    · obtain ⟨o, a, t, q1, q2⟩ := KK.out i hlt
      have hin : (i : Int) < (n : Int) := by omega
      obtain ⟨a1, a2, a3⟩ := q1 m
      obtain ⟨b1, b2, b3⟩ := q2 m
      obtain ⟨c1, c2, c3⟩ := q1 0
      obtain ⟨d1, d2, d3⟩ := q2 0
      rw [World.drewN_zero] at c1 c2 c3 d1 d2 d3
      clear q1 q2
      go_wp2
      go_region
      go_wp2
      go_roundw
      case rel => exact ⟨i + 1, m + 1, by go_num, by omega, by simp⟩
      case measure => (simp [intOf]; try omega)
    · obtain rfl : i = n := by omega
      go_wp2
      go_ret
      exact ⟨rfl, (Upd.drewN (Upd.refl (fun _ => False) w) _).below (Nat.le_refl _) (fun _ _ h => h)⟩
end Go.Proofs.YtplbaiibocgpnaaGreatDoor
