/-
  Merged: PI, PJ, PK, PM, PP.
-/
import Derived.Test.YtnffedmcblbkoaaGreatDoorPBq
import Derived.Shelf.SlicesQ.Reverse
import Derived.Ground.SlgnProg
import Derived.Test.YtnffedmcblbkoaaGreatDoorPH
import Derived.Test.YtnffedmcblbkoaaGreatDoorPAq
import Derived.Test.YtnffedmcblbkoaaGreatDoorOXq
import Derived.Test.YtnffedmcblbkoaaGreatDoorPCq
namespace Go.Proofs.YtnffedmcblbkoaaGreatDoor
open Go Go.Shelf Go.RowKit Go.Lib Go.Sort
set_option maxRecDepth 100000
def Tryz.reverseLeg_ren : Go.Shelf.Ren := ⟨fun | 35 => 77 | n => n, fun | 22 => 41 | 23 => 50 | 3 => 3 | 4 => 4 | 0 => 0 | n => n, fun | n => n⟩
theorem Tryz.reverseLeg : Go.Proofs.SlLaysE0.n35 Tryz.prog Tryz.reverseLeg_ren := {
 mixed := by kernel_rfl
 f35 := ⟨Tryz.f77.name, by decide, Tryz.func77.trans (congrArg some (by kernel_rfl))⟩
 t0 := Tryz.underlying0
 a0 := Tryz.isAgg0
 z0 := Tryz.sizeOf0
 v0 := Tryz.zeroValue0
 t3 := Tryz.underlying3
 a3 := Tryz.isAgg3
 z3 := Tryz.sizeOf3
 v3 := Tryz.zeroValue3
 t4 := Tryz.underlying4
 a4 := Tryz.isAgg4
 z4 := Tryz.sizeOf4
 v4 := Tryz.zeroValue4
 t22 := Tryz.underlying41
 a22 := Tryz.isAgg41
 z22 := Tryz.sizeOf41
 v22 := Tryz.zeroValue41 }
theorem legs_at (L : List (Int × Int × Int)) (t : Nat) (ht : t < L.length * 3) : (L.flatMap legC)[t]? = some ((legC L.toArray[t / 3]!)[t % 3]!) := by
 have hi : t / 3 < L.length := by omega
 have e : L.toArray[t / 3]! = L[t / 3] := by simp [hi]
 have := legs_get L (t / 3) hi (t % 3) (by omega)
 rw [show t / 3 * 3 + t % 3 = t by omega] at this
 rw [this, e]
 have h3 : t % 3 < (legC L[t / 3]).length := by show t % 3 < 3; omega
 rw [List.getElem?_eq_getElem h3, getElem!_pos (legC L[t / 3]) (t % 3) h3]
theorem reverse_any (base g n cap : Nat) (L : List (Int × Int × Int)) (w : World) (h : w.ownsRow base 50 3 (.slice (some ⟨g, 0, none⟩) n cap) n (L.flatMap legC)) (hn : L.length = n) (hl : n ≤ 4000) :
  Calls Tryz.prog 77 #[.slice (some ⟨g, 0, none⟩) n cap] w fun e w' => e = .returned (.tuple #[]) ∧ LegsIn w' g L.reverse ∧ Upd (fun k => k = g) w w' := by
 obtain ⟨cur, hh⟩ := owns_typeS h (g := g) rfl
 have hB : Blk w g cur 50 := hh
 have hK : HoldsK legC 3 w g 0 L.toArray := by
  intro t ht
  rw [size_flatK] at ht
  have ht' : t < L.length * 3 := by simpa using ht
  rw [get_flatK legC 3 L.toArray t ht]
  refine ⟨?_, hB.frozen _⟩
  have := h.cells (g := g) rfl t _ (legs_at L t ht')
  rw [Addr.add_lit] at this
  exact this
 have hz : L.toArray.size = n := by simp [hn]
 have C := AnyQ.slices_Reverse Tryz.reverseLeg 3 Tryz.isAgg50 Tryz.sizeOf50 legC (fun _ => rfl) (fun x v hv => by simp [legC] at hv; rcases hv with rfl | rfl | rfl <;> rfl) g 0 cap L.toArray w hK (by omega)
 rw [hz] at C
 refine C.mono ?_
 rintro e w' ⟨rfl, m, rfl⟩
 have hR := holdsK_putRowK legC 3 (Sort.ahead w m) g 0 L.toArray L.toArray.reverse (holdsK_ahead legC 3 w m g 0 L.toArray hK) (by simp)
 refine ⟨rfl, fun i hi => ?_, ?_⟩
 ·have hi' : i < L.toArray.reverse.size := by simpa using hi
  have e : L.toArray.reverse[i]! = L.reverse[i] := by
   rw [getElem!_pos L.toArray.reverse i hi']
   simp
  have c0 := (hR.cell hi' (show 0 < 3 by omega)).1
  have c1 := (hR.cell hi' (show 1 < 3 by omega)).1
  have c2 := (hR.cell hi' (show 2 < 3 by omega)).1
  rw [e] at c0 c1 c2
  simp only [Nat.zero_add, Nat.add_zero] at c0 c1 c2
  exact ⟨c0, c1, c2⟩
 ·unfold putRowK
  refine ⟨rfl, rfl, rfl, ?_, fun k hk hn => ?_⟩
  ·rw [size_putRow]; exact Nat.le_refl _
  ·show (w.heap.modify g _)[k]? = _
   rw [Array.getElem?_modify, if_neg (fun e => hn e.symm)]
theorem reverse_none (ad : Option Addr) (cap : Nat) (w : World) : Calls Tryz.prog 77 #[.slice ad 0 cap] w fun e w' => e = .returned (.tuple #[]) ∧ w' = w :=
 AnyQ.slices_Reverse_empty Tryz.reverseLeg ad cap w
end Go.Proofs.YtnffedmcblbkoaaGreatDoor
namespace Go.Proofs.YtnffedmcblbkoaaGreatDoor
open Go Go.RowKit
set_option maxRecDepth 100000
structure SvE (X : List Spot) (K : Nat → List Int) (A : Nat → Sp) (fin : Nat → Nod) (KN C : Nat → List Nat) (fuel x : Nat) : Prop where
 nd : ∀ i (h : i < X.length), X[i].nd = fin i
 sp : ∀ i (h : i < X.length), X[i].a = A i
 kn : ∀ i, i < X.length → K i = (KN i).map (fun c : Nat => (c : Int)) ∧ (∀ c ∈ KN i, c < X.length) ∧ (KN i).length ≤ 1000
 cn : ∀ i, C i = (KN i).filter (fun c => decide ((fin c).fr < (fin c).til))
 dp : DeepN KN fuel [x]
 xX : x < X.length
 nd2 : (preN KN fuel [x]).Nodup
 ln : (preN KN fuel [x]).length ≤ 1000
 bk : BkE A fin C (preN KN fuel [x])
theorem DeepN_sub {K C : Nat → List Nat} (h : ∀ y, ∀ c ∈ C y, c ∈ K y) : ∀ (fu : Nat) (L M : List Nat), DeepN K fu L → (∀ y ∈ M, y ∈ L) → DeepN C fu M
 | 0, L, M, hL, hM => by
  have e : L = [] := hL
  show M = []
  cases M with
  | nil => rfl
  | cons y r => have := hM y (by simp); rw [e] at this; cases this
 | fu + 1, _, _, hL, hM => fun x hx => DeepN_sub h fu _ _ (hL x (hM x hx)) (h x)
theorem preN_sum (K : Nat → List Nat) (fu : Nat) : ∀ L : List Nat, (preN K fu L).length = (L.map (fun c => (preN K fu [c]).length)).sum := by
 cases fu with
 | zero =>
  intro L
  induction L with
  | nil => rfl
  | cons c r ih => simp only [preN, List.length_nil, List.map_cons, List.sum_cons] at ih ⊢; omega
 | succ fu =>
  intro L
  induction L with
  | nil => rfl
  | cons c r ih =>
   have e : preN K (fu + 1) (c :: r) = preN K (fu + 1) [c] ++ preN K (fu + 1) r := by simp [preN]
   rw [e, List.length_append, ih, List.map_cons, List.sum_cons]
theorem sum_filter_le (g h : Nat → Nat) (q : Nat → Bool) (hgh : ∀ c, g c ≤ h c) : ∀ L : List Nat, ((L.filter q).map g).sum ≤ (L.map h).sum
 | [] => by simp
 | c :: r => by
  have ih := sum_filter_le g h q hgh r
  have := hgh c
  by_cases e : q c = true
  ·rw [List.filter_cons_of_pos e]; simp only [List.map_cons, List.sum_cons]; omega
  ·rw [List.filter_cons_of_neg e]; simp only [List.map_cons, List.sum_cons]; omega
theorem szN_le {K C : Nat → List Nat} {fin : Nat → Nod} (h : ∀ i, C i = (K i).filter (fun c => decide ((fin c).fr < (fin c).til))) : ∀ (fu x : Nat), szN C fu x ≤ (preN K fu [x]).length
 | 0, x => by simp [szN]
 | fu + 1, x => by
  rw [preN_one, List.length_cons, preN_sum K fu (K x)]
  unfold szN
  rw [h x]
  have := sum_filter_le (szN C fu) (fun c => (preN K fu [c]).length) (fun c => decide ((fin c).fr < (fin c).til)) (szN_le h fu) (K x)
  omega
theorem SwS.setR {base : Nat} {W : World} {A : Nat → Sp} {fin : Nat → Nod} {C : Nat → List Nat} {tb : Nat} {D : List Nat} {p : Nat → Pl} {B : Nat → Nat} {cv : Nat → Value} {cb : Nat → Nat} {r sv : Value} {vs : List Value} {lv : Value} {L : List (Nat × Int × Int)} (h : SwS base W A fin C tb D p B cv cb r sv vs lv L) (v : Value) : SwS base (W.setCell ⟨tb, 0, none⟩ v) A fin C tb D p B cv cb v sv vs lv L := by
 have u : Upd (fun k => k = tb) W (W.setCell ⟨tb, 0, none⟩ v) := Upd.setCell (S := fun k => k = tb) (Upd.refl _ _) (p := ⟨tb, 0, none⟩) (fun _ => rfl) _
 refine ⟨fun y hy => (h.blk y hy).upd u (fun e => blk_ne (h.blk y hy) h.tree (by decide) e), h.low, h.inj, fun y hy => (h.kid y hy).upd u (fun hn e => ?_), ?_, ownsRow_upd h.row u (fun k e e' => ?_), ownsRow_upd h.legs u (fun k e e' => ?_), h.ap, h.cl, Nat.le_trans h.lb u.size⟩
 ·obtain ⟨c, fr, hc⟩ := h.kidT hy (fun e => hn (by rw [e]; rfl))
  have ht := h.tree
  unfold Blk at ht
  rw [e, ht] at hc
  simp at hc
 ·have := h.tree.set 0 v
  rwa [twL_set0] at this
 ·rw [e'] at e; exact row_type h.row h.tree (by decide) e
 ·rw [e'] at e; exact row_type h.legs h.tree (by decide) e
theorem ownsRow_base {W : World} {base base2 s n : Nat} {T : TypeId} {v : Value} {xs : List Value} (h : W.ownsRow base T s v n xs) (hs : ∀ g, v.ownBlock = some g → base2 ≤ g) : W.ownsRow base2 T s v n xs := by
 refine ⟨h.1, ?_⟩
 rcases h.2 with h2 | ⟨g, cap, cur, e1, _, h2⟩
 ·exact Or.inl h2
 ·exact Or.inr ⟨g, cap, cur, e1, hs g (by rw [e1]; rfl), h2⟩
theorem SwS.rebase {base : Nat} {W : World} {A : Nat → Sp} {fin : Nat → Nod} {C : Nat → List Nat} {tb : Nat} {D : List Nat} {p : Nat → Pl} {B : Nat → Nat} {cv : Nat → Value} {cb : Nat → Nat} {r sv : Value} {vs : List Value} (h : SwS base W A fin C tb D p B cv cb r sv vs nilV []) {base2 : Nat} (h1 : ∀ y ∈ D, base2 ≤ B y) (h2 : ∀ g, sv.ownBlock = some g → base2 ≤ g) (h3 : base2 ≤ W.heap.size) : SwS base2 W A fin C tb D p B cv cb r sv vs nilV [] :=
 ⟨h.blk, h1, h.inj, h.kid, h.tree, ownsRow_base h.row h2, ownsRow_base h.legs (fun g e => by simp [Value.ownBlock] at e), h.ap, h.cl, h3⟩
structure SwR (base : Nat) (W : World) (A : Nat → Sp) (fin : Nat → Nod) (C : Nat → List Nat) (tb x : Nat) (D : List Nat) (lv : Value) (L : List (Nat × Int × Int)) : Prop where
 path : PathR fin C x (fin x).til L
 len : L.length ≤ 2000
 tree : ∃ (B : Nat → Nat) (sv : Value), Blk W tb (twL (.pointer (some ⟨B x, 0, none⟩)) sv lv) 122 ∧ (∃ (p : Nat → Pl) (cv : Nat → Value), (∀ y ∈ D, Blk W (B y) (swL (A y) (p y) (fin y) (cv y) (hungI L y)) 128) ∧ (∀ w5 : World, (∀ j, base ≤ j → j < W.heap.size → w5.heap[j]? = W.heap[j]?) → SpAt w5 (A x) (p x)) ∧ x ∈ D ∧ base ≤ B x) ∧ W.ownsRow base 119 1 sv D.length (D.map (pB B))
 legs : ∃ ad cap, lv = .slice ad L.length cap ∧ (L ≠ [] → ∃ g, ad = some ⟨g, 0, none⟩ ∧ g < W.heap.size ∧ LegsIn W g ((L.map (legX A)).reverse))
set_option maxHeartbeats 4000000 in
theorem swept_any (f sb : Nat) (X : List Spot) (K : Nat → List Int) (rvv : Value) (R : List Int) (A : Nat → Sp) (fin : Nat → Nod) (KN C : Nat → List Nat) (fuel x : Nat) (W : World) (hF : ForestAt W f sb X K rvv R) (T : SvE X K A fin KN C fuel x) :
  Calls Tryz.prog 46 #[.pointer (some ⟨f, 0, none⟩), .int .u64 (fin x).id] W fun e W' => e = .returned (.pointer (some ⟨W.heap.size, 0, none⟩)) ∧ (∃ lv L, SwR W.heap.size W' A fin C W.heap.size x (preN KN fuel [x]) lv L) ∧ Below W.heap.size W W' := by
 obtain ⟨W1, hW1⟩ : ∃ W1, W.alloc (.cells #[.pointer none, .slice none 0 0, .slice none 0 0] 122) = W1 := ⟨_, rfl⟩
 have b1 : Below W.heap.size W W1 := by rw [← hW1]; exact (Below.refl _ _).alloc (Nat.le_refl _) _
 have s1 : W1.heap.size = W.heap.size + 1 := by rw [← hW1]; simp
 have t1 : Blk W1 W.heap.size (twL (.pointer none) nilV nilV) 122 := by rw [← hW1]; exact Blk.new _ _ _
 have G : SEnv W.heap.size f sb W X K rvv R A fin KN C := ⟨fun V hu => hF.below (hu.below (Nat.le_refl _) (fun k hk h => by omega)), T.nd, T.sp, T.kn, T.cn⟩
 have O1 : SwS W.heap.size W1 A fin C W.heap.size [] (fun _ => ⟨none, 0, none, 0, none, 0⟩) (fun _ => 0) (fun _ => nilV) (fun _ => 0) (.pointer none) nilV [] nilV [] := by
  refine ⟨fun y h => (by cases h), fun y h => (by cases h), fun y h => (by cases h), fun y h => (by cases h), t1, ?_, ?_, fun y h => (by cases h), fun y h => (by cases h), by omega⟩
  ·simpa using World.ownsRow_nil W1 W.heap.size 119 1
  ·simpa using World.ownsRow_nil W1 W.heap.size 50 3
 have GR := growS_any W.heap.size f sb W X K rvv R A fin KN C G W.heap.size (Nat.le_refl _) fuel W1 [] _ _ _ _ nilV [] x T.dp T.xX O1 (Upd.ofBelow b1 (fun k h1 h2 => h2)) (fun y _ h => by cases h) T.nd2 (by have := T.ln; simp; omega)
 simp only [List.nil_append] at GR
 have hxD : x ∈ preN KN fuel [x] := preN_mem KN fuel [x] T.dp x (by simp)
 have hDC : DeepN C fuel [x] := DeepN_sub (fun y c hc => by rw [T.cn y] at hc; exact (List.mem_filter.1 hc).1) fuel _ _ T.dp (fun y hy => hy)
 have hsz := szN_le T.cn fuel x
 have hln := T.ln
 have HBK : Hid (∀ w2 (p : Nat → Pl) (B : Nat → Nat) (cv : Nat → Value) (cb : Nat → Nat) (sv : Value), SwS W.heap.size w2 A fin C W.heap.size (preN KN fuel [x]) p B cv cb (.pointer none) sv ((preN KN fuel [x]).map (pB B)) nilV [] → RootK W1 A x (preN KN fuel [x]) W.heap.size nilV p B sv w2 →
   w2.cell? ⟨W.heap.size, 0, none⟩ = some (.pointer none) ∧ w2.frozen? ⟨W.heap.size, 0, none⟩ = false ∧ (w2.setCell ⟨W.heap.size, 0, none⟩ (.pointer (some ⟨B x, 0, none⟩))).cell? ⟨B x, 13 + 1, none⟩ = some (.int .i64 (fin x).til) ∧ (w2.setCell ⟨W.heap.size, 0, none⟩ (.pointer (some ⟨B x, 0, none⟩))).cell? ⟨W.heap.size, 0, none⟩ = some (.pointer (some ⟨B x, 0, none⟩)) ∧
   Calls Tryz.prog 76 #[.pointer (some ⟨W.heap.size, 0, none⟩), .pointer (some ⟨B x, 0, none⟩), .int .i64 (fin x).til] (w2.setCell ⟨W.heap.size, 0, none⟩ (.pointer (some ⟨B x, 0, none⟩))).drew fun e w3 => e = .returned (.tuple #[]) ∧ ∃ (ad : Option Addr) (L : List (Nat × Int × Int)) (cap : Nat), w3.cell? ⟨W.heap.size, 2, none⟩ = some (.slice ad L.length cap) ∧ Calls Tryz.prog 77 #[.slice ad L.length cap] w3 fun e w4 => e = .returned (.tuple #[]) ∧ SwR W.heap.size w4 A fin C W.heap.size x (preN KN fuel [x]) (.slice ad L.length cap) L ∧ Below W.heap.size W w4)   := fun w2 p B cv cb sv hO hU => by
  obtain ⟨w1, hb1, hrob, hu1, hlow, hsvl⟩ := hU
  have hsz1 := hb1.size
  have hsz2 := hu1.size
  have hO := hO.rebase hlow (fun g e => (hsvl g e).elim (fun h => by simp [Value.ownBlock] at h) id) hsz2
  have U2 : Upd (fun k => k = W.heap.size ∨ w1.heap.size ≤ k) w1 (w2.setCell ⟨W.heap.size, 0, none⟩ (.pointer (some ⟨B x, 0, none⟩))).drew := (Upd.setCell (hu1.mono (S' := fun k => k = W.heap.size ∨ w1.heap.size ≤ k) (fun k _ h => h.elim Or.inl (fun e => by simp [Value.ownBlock] at e))) (p := ⟨W.heap.size, 0, none⟩) (fun _ => Or.inl rfl) _).drew
  have HSP : ∀ w4, Upd (fun k => k = W.heap.size ∨ w1.heap.size ≤ k) w1 w4 → ∀ w5 : World, (∀ j, W.heap.size ≤ j → j < w4.heap.size → w5.heap[j]? = w4.heap[j]?) → SpAt w5 (A x) (p x) := fun w4 u w5 h5 => hrob w5 (fun j h1 h2 => (h5 j (by omega) (by have := u.size; omega)).trans (u.block j h2 (by omega)))
  have HBX : W.heap.size ≤ B x := by have := hlow x hxD; omega
  have hO2 := hO.setR (.pointer (some ⟨B x, 0, none⟩))
  refine ⟨hO.tree.cell 0 rfl, hO.tree.frozen 0, (hO2.blk x hxD).cell 14 rfl, hO2.tree.cell 0 rfl, ?_⟩
  have b2 : Below W.heap.size W w2 := (b1.trans (hb1.mono (by omega))).trans (hu1.below (by omega) (fun k hk h => by rcases h with h | h; omega; simp [Value.ownBlock] at h))
  have b3 := (b2.setCell (p := ⟨W.heap.size, 0, none⟩) (Nat.le_refl _) (.pointer (some ⟨B x, 0, none⟩))).drew
  have hO3 := hO2.below ((Below.refl _ _).drew)
  refine (back_any w1.heap.size A fin C W.heap.size (preN KN fuel [x]) p B cv cb _ sv _ T.bk fuel _ x (fin x).til nilV [] hDC hxD (T.bk.rg x hxD).2 hO3 (by simp; omega)).mono ?_
  rintro e w3 ⟨rfl, lv, L, h1, h2, h3, h4⟩
  simp only [List.nil_append] at h1
  obtain ⟨ad, cap, rfl⟩ := owns_sliceS h1.legs
  refine ⟨rfl, ad, L, cap, h1.tree.cell 2 rfl, ?_⟩
  have hmp : L.flatMap (fun l => legC (legX A l)) = (L.map (legX A)).flatMap legC := by rw [List.flatMap_map]
  have b4 : Below W.heap.size W w3 := b3.trans (h4.below b3.size (fun k hk h => by omega))
  have hrow := h1.legs
  rw [hmp] at hrow
  by_cases hL : L = []
  ·subst hL
   refine (reverse_none ad cap w3).mono ?_
   rintro e w4 ⟨rfl, rfl⟩
   exact ⟨rfl, ⟨h2, by simp, ⟨B, sv, h1.tree, ⟨p, cv, h1.blk, HSP _ (U2.trans h4 (fun _ _ h => h)), hxD, HBX⟩, by have := ownsRow_base (base2 := W.heap.size) h1.row (fun g e => by have := (owns_lt h1.row e).1; omega); rwa [List.length_map] at this⟩, ad, cap, rfl, fun hn => absurd rfl hn⟩, b4⟩
  ·obtain ⟨n, hn⟩ : ∃ n, L.length = n + 1 := ⟨L.length - 1, by have := List.length_pos_iff.2 hL; omega⟩
   obtain ⟨g, rfl⟩ : ∃ g, ad = some ⟨g, 0, none⟩ := owns_some (n := n) (by rw [hn] at hrow; exact hrow)
   have hgl := (owns_lt hrow (g := g) rfl)
   refine (reverse_any w1.heap.size g L.length cap (L.map (legX A)) w3 hrow (by simp) (by omega)).mono ?_
   rintro e w4 ⟨rfl, q1, q2⟩
   have ne : ∀ k c T fr, w3.heap[k]? = some (.cells c T fr) → T ≠ 50 → k ≠ g := fun k c T fr hk hT e => row_type hrow hk hT (by rw [e]; rfl)
   refine ⟨rfl, ⟨h2, by omega, ⟨B, sv, h1.tree.upd q2 (ne _ _ _ _ h1.tree (by decide)), ⟨p, cv, fun y hy => (h1.blk y hy).upd q2 (ne _ _ _ _ (h1.blk y hy) (by decide)), HSP _ ((U2.trans h4 (fun _ _ h => h)).trans q2 (fun k _ e => Or.inr (by rw [e]; exact hgl.1))), hxD, HBX⟩, ?_⟩, _, cap, rfl, fun _ => ⟨g, rfl, by have := q2.size; omega, q1⟩⟩, b4.trans (q2.below b4.size (fun k hk e => by omega))⟩
   have := ownsRow_upd (ownsRow_base (base2 := W.heap.size) h1.row (fun g e => by have := (owns_lt h1.row e).1; omega)) q2 (fun k e => by
    obtain ⟨cur, hh⟩ := owns_type h1.row e
    exact ne _ _ _ _ hh (by decide))
   rwa [List.length_map] at this
 clear b1 s1 t1 G O1 hxD T hF hDC hsz hln
 go_enter Tryz.func46, Tryz.ntmps46
 go_wp2_with (go_at_call 75; refine GR.mono ?_; clear GR; rintro e w2 ⟨p, B, cv, cb, sv, rfl, _, _, hO, _, _, hU⟩; obtain ⟨e0, f0, e14, e00, BK⟩ := HBK.out w2 p B cv cb sv hO hU; clear hO hU HBK; unfold pB)
 go_region_law (go_simp; go_at_call 76; (with_reducible refine BK.mono ?_); clear BK; rintro e w3 ⟨rfl, ad, L, cap, e2, RV⟩)
 all_goals
  go_wp2_with (go_at_call 77; refine RV.mono ?_; clear RV; rintro e w4 ⟨rfl, hR, hb⟩; have HR : Hid (SwR W.heap.size w4 A fin C W.heap.size x (preN KN fuel [x]) (.slice ad L.length cap) L ∧ Below W.heap.size W w4) := ⟨hR, hb⟩; clear hR hb)
  go_ret
  exact ⟨rfl, ⟨_, _, HR.out.1⟩, HR.out.2⟩
theorem lacksW_any (f sb : Nat) (X : List Spot) (K : Nat → List Int) (rvv : Value) (R : List Int) (W : World) (h : ForestAt W f sb X K rvv R) (x : Nat) (hx : x < X.length) (d : Nod) (hd : X[x].nd = d) (ho : d.org ≠ 0) :
  Calls Tryz.prog 45 #[.pointer (some ⟨f, 0, none⟩), .int .u64 d.id] W fun e W' => e = .returned (.int .i64 0) ∧ Below W.heap.size W W' := by
 have N := node_at h x hx d.id (by rw [hd])
 rw [hd] at N
 unfold ndV at N
 have hne : (d.org == 0) = false := by simp [ho]
 clear h hd
 go_enter Tryz.func45, Tryz.ntmps45
 go_wp2_with (go_at_call 10; refine N.mono ?_; clear N; rintro e w1 ⟨rfl, hb⟩)
 go_ret
 exact ⟨rfl, hb.alloc hb.size _⟩
theorem FoB.senv {Y : List Sp} {C : List Int} {dp : Nat → Nat} {fin : Nat → Nod} {X : List Spot} {K : Nat → List Int} {R : List Int} (h : FoB Y C dp fin X K R) (x : Nat) (hx : x < Y.length) : SvE X K (spAt Y) fin (knK K) (cnK fin K) 1001 x := by
 have T := h.tree
 have hlen := h.fo.len
 have hl := h.one.len
 have L := T.len 1001 x hx
 have inY : ∀ y ∈ preN (knK K) 1001 [x], y < Y.length := fun y hy => (T.above 1001 [x] (fun z hz => by simp at hz; subst hz; exact hx) y hy).1
 have kl : ∀ i, i < Y.length → (knK K i).length ≤ 1000 := fun i hi => by
  have := sub_len _ (List.range Y.length) (h.nodup i hi) (fun c hc => List.mem_range.2 ((h.mem i hi c).1 hc).1)
  simp only [List.length_range] at this
  omega
 refine ⟨fun i hi => (h.fo.each i (by omega) hi).2, fun i hi => ?_, fun i hi => ⟨?_, fun c hc => by rw [hlen]; exact ((h.mem i (by omega) c).1 hc).1, kl i (by omega)⟩, fun i => rfl, T.deep 1001 [x] (fun y hy => by simp at hy; subst hy; exact ⟨hx, by omega⟩), by omega, L.1, by omega, fun y hy => h.ids y (inY y hy), fun y hy => ?_, fun y hy => ?_⟩
 ·rw [(h.fo.each i (by omega) hi).1]
  simp [spAt, List.getD, show i < Y.length by omega]
 ·rw [List.map_map]
  have : ∀ z ∈ K i, ((fun c : Nat => (c : Int)) ∘ Int.toNat) z = z := fun z hz => by
   have := h.pos i (by omega) z hz
   show ((z.toNat : Nat) : Int) = z
   omega
  exact (List.map_congr_left this).trans (List.map_id _) |>.symm
 ·have := h.inn (dp y) y rfl (inY y hy)
  unfold In64 in64
  simp only
  omega
 ·exact Nat.le_trans (List.length_filter_le _ _) (kl y (inY y hy))
theorem FoB.bel {Y : List Sp} {C : List Int} {dp : Nat → Nat} {fin : Nat → Nod} {X : List Spot} {K : Nat → List Int} {R : List Int} (h : FoB Y C dp fin X K R) {s y : Nat} (hb : BelN (cnK fin K) s y) : s < Y.length → y < Y.length ∧ (fin y).tree = (fin s).tree ∧ ∃ k, upI (upK C Y) k y = s ∧ dp y = dp s + k := by
 induction hb using BelN.ind with
 | here => exact fun hs => ⟨hs, rfl, 0, rfl, rfl⟩
 | @down s c y hc _ ih =>
  intro hs
  have hk : c ∈ knK K s := (List.mem_filter.1 hc).1
  have hcl := ((h.mem s hs c).1 hk).1
  obtain ⟨h1, h2, k, h3, h4⟩ := ih hcl
  refine ⟨h1, h2.trans (h.kid s hs c hk).2.2, k + 1, ?_, ?_⟩
  ·show upK C Y (upI (upK C Y) k y) = s
   rw [h3]
   exact h.tree.hup s hs c hk
  ·have := h.tree.hdp s hs c hk
   omega
theorem FoB.nest {Y : List Sp} {C : List Int} {dp : Nat → Nat} {fin : Nat → Nod} {X : List Spot} {K : Nat → List Int} {R : List Int} (h : FoB Y C dp fin X K R) : NestN fin (cnK fin K) (fun s => s < Y.length) := by
 have T := h.tree
 refine ⟨fun s hs c hc => ((h.mem s hs c).1 (List.mem_filter.1 hc).1).1, fun s hs c hc => ?_, fun s hs c hc hb => ?_, fun s hs c hc d hd hcd y h1 h2 => ?_⟩
 ·obtain ⟨k1, k2⟩ := List.mem_filter.1 hc
  have := h.kid s hs c k1
  exact ⟨this.1, this.2.1, of_decide_eq_true k2⟩
 ·have hk := (List.mem_filter.1 hc).1
  obtain ⟨_, _, k, _, h4⟩ := h.bel hb (((h.mem s hs c).1 hk).1)
  have := T.hdp s hs c hk
  omega
 ·have hk := (List.mem_filter.1 hc).1
  have hk' := (List.mem_filter.1 hd).1
  obtain ⟨_, _, k, h3, h4⟩ := h.bel h1 (((h.mem s hs c).1 hk).1)
  obtain ⟨_, _, l, h5, h6⟩ := h.bel h2 (((h.mem s hs d).1 hk').1)
  have a1 := T.hdp s hs c hk
  have a2 := T.hdp s hs d hk'
  have : k = l := by omega
  subst this
  exact hcd (h3.symm.trans h5)
structure LegK (Y : List Sp) (fin : Nat → Nod) (K : Nat → List Int) (x : Nat) (M : List (Nat × Int × Int)) (k : Nat) (y : Nat) (a b : Int) : Prop where
 yY : y < Y.length
 tree : (fin y).tree = (fin x).tree
 fr : (fin y).fr ≤ a
 til : b ≤ (fin y).til
 ab : a < b
 adj : ∀ (_ : 0 < k) (h' : k - 1 < M.length), (fin M[k - 1].1).id ≠ (fin y).id
 free : ∀ c ∈ knK K y, ¬ ((fin c).fr < (fin c).til ∧ (fin c).fr < b ∧ a < (fin c).til)
theorem FoB.idInj {Y : List Sp} {C : List Int} {dp : Nat → Nat} {fin : Nat → Nod} {X : List Spot} {K : Nat → List Int} {R : List Int} (h : FoB Y C dp fin X K R) {i j : Nat} (hi : i < Y.length) (hj : j < Y.length) (e : (fin i).id = (fin j).id) : i = j := by
 have hl := h.fo.len
 refine rise_same h.rise (by omega) (by omega) ?_
 rw [(h.fo.each i hi (by omega)).2, (h.fo.each j hj (by omega)).2]
 exact e
theorem FoB.legs {Y : List Sp} {C : List Int} {dp : Nat → Nat} {fin : Nat → Nod} {X : List Spot} {K : Nat → List Int} {R : List Int} (h : FoB Y C dp fin X K R) {x : Nat} (hx : x < Y.length) {L : List (Nat × Int × Int)} (hP : PathR fin (cnK fin K) x (fin x).til L) :
  TileF (fin x).til (fin x).fr L.reverse ∧ ∀ k (hk : k < L.reverse.length) (at_ : Int), TileF (fin x).til at_ (L.reverse.drop k) → L.reverse[k].2.1 = at_ ∧ TileF (fin x).til L.reverse[k].2.2 (L.reverse.drop (k + 1)) ∧ LegK Y fin K x L.reverse k L.reverse[k].1 L.reverse[k].2.1 L.reverse[k].2.2 := by
 have hi := h.inn (dp x) x rfl hx
 obtain ⟨t1, t2, t3⟩ := hP.tiles h.nest hx hi.2.1 (Int.le_refl _)
 have t2' := AdjN.rev L t2
 refine ⟨t1.rev, fun k hk at_ hT => ?_⟩
 have hm : L.reverse[k] ∈ L := List.mem_reverse.1 (List.getElem_mem hk)
 have hb := h.bel (hP.bel _ hm) hx
 obtain ⟨g1, g2, g3⟩ := t3 _ hm
 rw [List.drop_eq_getElem_cons hk] at hT
 obtain ⟨e1, e2, e3⟩ := hT
 refine ⟨e1, e3, hb.1, hb.2.1, g1, g2, e2, fun h0 h1 e => ?_, fun c hc hh => ?_⟩
 ·have hm1 : L.reverse[k - 1] ∈ L := List.mem_reverse.1 (List.getElem_mem h1)
  have hb1 := h.bel (hP.bel _ hm1) hx
  have := t2'.at_ _ (k - 1) (by omega)
  have hk1 : k - 1 + 1 = k := by omega
  simp only [hk1] at this
  exact this (h.idInj hb1.1 hb.1 e)
 ·exact g3 c (List.mem_filter.2 ⟨hc, decide_eq_true hh.1⟩) ⟨hh.2.1, hh.2.2⟩
theorem FoB.root {Y : List Sp} {C : List Int} {dp : Nat → Nat} {fin : Nat → Nod} {X : List Spot} {K : Nat → List Int} {R : List Int} (h : FoB Y C dp fin X K R) (z : Int) (hz : z ∈ R) : ∃ x : Nat, z = (x : Int) ∧ x < Y.length ∧ (fin x).org ≠ 0 ∧ (fin x).tree = (fin x).id := by
 have hcl : (cutX C (zs Y)).length = Y.length := by rw [cutX_len, zs_len]
 obtain ⟨x, rfl, hx, hn⟩ := kidsF_iff.1 (h.fo.roots.1.mem_iff.2 hz)
 have := (h.sh.rt x (by omega) hn).2
 refine ⟨x, rfl, hx, ?_, ?_⟩
 ·rw [this]
  unfold rootN
  simp only
  split
  ·omega
  ·split <;> omega
 ·rw [this]
  rfl
theorem FoB.idsR {Y : List Sp} {C : List Int} {dp : Nat → Nat} {fin : Nat → Nod} {X : List Spot} {K : Nat → List Int} {R : List Int} (h : FoB Y C dp fin X K R) (i : Nat) (hi : i < R.length) : ∃ x : Nat, x < Y.length ∧ (fin x).org ≠ 0 ∧ (fin x).tree = (fin x).id ∧ ∀ w rc, Blk w rc (fillC .u64 (idsOf X R) 0) 33 → w.cell? ⟨rc, i, none⟩ = some (.int .u64 (fin x).id) := by
 obtain ⟨x, hz, hx, h1, h2⟩ := h.root R[i] (List.getElem_mem hi)
 refine ⟨x, hx, h1, h2, fun w rc hB => hB.cell i ?_⟩
 have hl := h.fo.len
 have e := (h.fo.each x hx (by omega)).2
 simp [fillC, idsOf, hi, hz, hl, hx, e]
end Go.Proofs.YtnffedmcblbkoaaGreatDoor
