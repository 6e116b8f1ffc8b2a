/-
  PJ.
-/
import Derived.Test.YtbbonnbcenhkeaaGreatDoorPF
import Derived.Test.YtbbonnbcenhkeaaGreatDoorPH
import Derived.Test.YtbbonnbcenhkeaaGreatDoorPI
namespace Go.Proofs.YtbbonnbcenhkeaaGreatDoor
open Go Go.RowKit
set_option maxRecDepth 100000

/-- What a root's tree stands on. -/
structure SvE (X : List Spot) (K : Nat → List Int) (A : Nat → Sp) (fin : Nat → Nod) (KN C : Nat → List Nat) (fuel x : Nat) : Prop where
  nd : ∀ i (h : i < X.length), X[i].nd = fin i
  sp : ∀ i (h : i < X.length), X[i].a = A i
  kn : ∀ i, i < X.length → K i = (KN i).map (fun c : Nat => (c : Int)) ∧ (∀ c ∈ KN i, c < X.length) ∧ (KN i).length ≤ 1000
  cn : ∀ i, C i = (KN i).filter (fun c => decide ((fin c).fr < (fin c).til))
  dp : DeepN KN fuel [x]
  xX : x < X.length
  nd2 : (preN KN fuel [x]).Nodup
  ln : (preN KN fuel [x]).length ≤ 1000
  bk : BkE A fin C (preN KN fuel [x])
theorem DeepN_sub {K C : Nat → List Nat} (h : ∀ y, ∀ c ∈ C y, c ∈ K y) : ∀ (fu : Nat) (L M : List Nat), DeepN K fu L → (∀ y ∈ M, y ∈ L) → DeepN C fu M
  | 0, L, M, hL, hM => by
    have e : L = [] := hL
    show M = []
    cases M with
    | nil => rfl
    | cons y r => have := hM y (by simp); rw [e] at this; cases this
  | fu + 1, _, _, hL, hM => fun x hx => DeepN_sub h fu _ _ (hL x (hM x hx)) (h x)
theorem preN_sum (K : Nat → List Nat) (fu : Nat) : ∀ L : List Nat, (preN K fu L).length = (L.map (fun c => (preN K fu [c]).length)).sum := by
  cases fu with
  | zero =>
    intro L
    induction L with
    | nil => rfl
    | cons c r ih => simp only [preN, List.length_nil, List.map_cons, List.sum_cons] at ih ⊢; omega
  | succ fu =>
    intro L
    induction L with
    | nil => rfl
    | cons c r ih =>
      have e : preN K (fu + 1) (c :: r) = preN K (fu + 1) [c] ++ preN K (fu + 1) r := by simp [preN]
      rw [e, List.length_append, ih, List.map_cons, List.sum_cons]
theorem sum_filter_le (g h : Nat → Nat) (q : Nat → Bool) (hgh : ∀ c, g c ≤ h c) : ∀ L : List Nat, ((L.filter q).map g).sum ≤ (L.map h).sum
  | [] => by simp
  | c :: r => by
    have ih := sum_filter_le g h q hgh r
    have := hgh c
    by_cases e : q c = true
    · rw [List.filter_cons_of_pos e]; simp only [List.map_cons, List.sum_cons]; omega
    · rw [List.filter_cons_of_neg e]; simp only [List.map_cons, List.sum_cons]; omega
theorem szN_le {K C : Nat → List Nat} {fin : Nat → Nod} (h : ∀ i, C i = (K i).filter (fun c => decide ((fin c).fr < (fin c).til))) : ∀ (fu x : Nat), szN C fu x ≤ (preN K fu [x]).length
  | 0, x => by simp [szN]
  | fu + 1, x => by
    rw [preN_one, List.length_cons, preN_sum K fu (K x)]
    unfold szN
    rw [h x]
    have := sum_filter_le (szN C fu) (fun c => (preN K fu [c]).length) (fun c => decide ((fin c).fr < (fin c).til)) (szN_le h fu) (K x)
    omega
theorem SwS.setR {base : Nat} {W : World} {A : Nat → Sp} {fin : Nat → Nod} {C : Nat → List Nat} {tb : Nat} {D : List Nat} {p : Nat → Pl} {B : Nat → Nat} {cv : Nat → Value} {cb : Nat → Nat} {r sv : Value} {vs : List Value} {lv : Value} {L : List (Nat × Int × Int)} (h : SwS base W A fin C tb D p B cv cb r sv vs lv L) (v : Value) : SwS base (W.setCell ⟨tb, 0, none⟩ v) A fin C tb D p B cv cb v sv vs lv L := by
  have u : Upd (fun k => k = tb) W (W.setCell ⟨tb, 0, none⟩ v) := Upd.setCell (S := fun k => k = tb) (Upd.refl _ _) (p := ⟨tb, 0, none⟩) (fun _ => rfl) _
  refine ⟨fun y hy => (h.blk y hy).upd u (fun e => blk_ne (h.blk y hy) h.tree (by decide) e), h.low, h.inj, fun y hy => (h.kid y hy).upd u (fun hn e => ?_), ?_, ownsRow_upd h.row u (fun k e e' => ?_), ownsRow_upd h.legs u (fun k e e' => ?_), h.ap, h.cl, h.tl, Nat.le_trans h.lb u.size⟩
  · obtain ⟨c, fr, hc⟩ := h.kidT hy (fun e => hn (by rw [e]; rfl))
    have ht := h.tree
    unfold Blk at ht
    rw [e, ht] at hc
    simp at hc
  · have := h.tree.set 0 v
    rwa [twL_set0] at this
  · rw [e'] at e; exact row_type h.row h.tree (by decide) e
  · rw [e'] at e; exact row_type h.legs h.tree (by decide) e
/-- A root's tree, swept: its spots, its path. -/
structure SwR (base : Nat) (W : World) (A : Nat → Sp) (fin : Nat → Nod) (C : Nat → List Nat) (tb x : Nat) (D : List Nat) (lv : Value) (L : List (Nat × Int × Int)) : Prop where
  path : PathR fin C x (fin x).til L
  len : L.length ≤ 2000
  tree : ∃ (B : Nat → Nat) (sv : Value), Blk W tb (twL (.pointer (some ⟨B x, 0, none⟩)) sv lv) 101 ∧ (∃ (p : Nat → Pl) (cv : Nat → Value), ∀ y ∈ D, Blk W (B y) (swL (A y) (p y) (fin y) (cv y) (hungI L y)) 111) ∧ W.ownsRow base 98 1 sv D.length (D.map (pB B))
  legs : ∃ ad cap, lv = .slice ad L.length cap ∧ (L ≠ [] → ∃ g, ad = some ⟨g, 0, none⟩ ∧ g < W.heap.size ∧ LegsIn W g ((L.map (legX A)).reverse))
set_option maxHeartbeats 4000000 in
theorem swept_any (f sb : Nat) (X : List Spot) (K : Nat → List Int) (rvv : Value) (R : List Int) (A : Nat → Sp) (fin : Nat → Nod) (KN C : Nat → List Nat) (fuel x : Nat) (W : World) (hF : ForestAt W f sb X K rvv R) (T : SvE X K A fin KN C fuel x) :
    Calls Tryz.prog 44 #[.pointer (some ⟨f, 0, none⟩), .int .u64 (fin x).id] W fun e W' => e = .returned (.pointer (some ⟨W.heap.size, 0, none⟩)) ∧ (∃ lv L, SwR W.heap.size W' A fin C W.heap.size x (preN KN fuel [x]) lv L) ∧ Below W.heap.size W W' := by
  obtain ⟨W1, hW1⟩ : ∃ W1, W.alloc (.cells #[.pointer none, .slice none 0 0, .slice none 0 0] 101) = W1 := ⟨_, rfl⟩
  have b1 : Below W.heap.size W W1 := by rw [← hW1]; exact (Below.refl _ _).alloc (Nat.le_refl _) _
  have s1 : W1.heap.size = W.heap.size + 1 := by rw [← hW1]; simp
  have t1 : Blk W1 W.heap.size (twL (.pointer none) nilV nilV) 101 := by rw [← hW1]; exact Blk.new _ _ _
  have G : SEnv W.heap.size f sb W X K rvv R A fin KN C := ⟨fun V hu => hF.below (hu.below (Nat.le_refl _) (fun k hk h => by omega)), T.nd, T.sp, T.kn, T.cn⟩
  have O1 : SwS W.heap.size W1 A fin C W.heap.size [] (fun _ => ⟨none, 0, none, 0, none, 0⟩) (fun _ => 0) (fun _ => nilV) (fun _ => 0) (.pointer none) nilV [] nilV [] := by
    refine ⟨fun y h => (by cases h), fun y h => (by cases h), fun y h => (by cases h), fun y h => (by cases h), t1, ?_, ?_, fun y h => (by cases h), fun y h => (by cases h), Nat.le_refl _, by omega⟩
    · simpa using World.ownsRow_nil W1 W.heap.size 98 1
    · simpa using World.ownsRow_nil W1 W.heap.size 69 3
  have GR := growS_any W.heap.size f sb W X K rvv R A fin KN C G W.heap.size fuel W1 [] _ _ _ _ nilV [] x T.dp T.xX O1 (Upd.ofBelow b1 (fun k h1 h2 => h2)) (fun y _ h => by cases h) T.nd2 (by have := T.ln; simp; omega)
  simp only [List.nil_append] at GR
  have hxD : x ∈ preN KN fuel [x] := preN_mem KN fuel [x] T.dp x (by simp)
  have hDC : DeepN C fuel [x] := DeepN_sub (fun y c hc => by rw [T.cn y] at hc; exact (List.mem_filter.1 hc).1) fuel _ _ T.dp (fun y hy => hy)
  have hsz := szN_le T.cn fuel x
  have hln := T.ln
  have HBK : Hid (∀ w2 (p : Nat → Pl) (B : Nat → Nat) (cv : Nat → Value) (cb : Nat → Nat) (sv : Value), SwS W.heap.size w2 A fin C W.heap.size (preN KN fuel [x]) p B cv cb (.pointer none) sv ((preN KN fuel [x]).map (pB B)) nilV [] → Upd (GrwV W.heap.size nilV) W1 w2 →
      w2.cell? ⟨W.heap.size, 0, none⟩ = some (.pointer none) ∧ w2.frozen? ⟨W.heap.size, 0, none⟩ = false ∧ (w2.setCell ⟨W.heap.size, 0, none⟩ (.pointer (some ⟨B x, 0, none⟩))).cell? ⟨B x, 13 + 1, none⟩ = some (.int .i64 (fin x).til) ∧ (w2.setCell ⟨W.heap.size, 0, none⟩ (.pointer (some ⟨B x, 0, none⟩))).cell? ⟨W.heap.size, 0, none⟩ = some (.pointer (some ⟨B x, 0, none⟩)) ∧
      Calls Tryz.prog 68 #[.pointer (some ⟨W.heap.size, 0, none⟩), .pointer (some ⟨B x, 0, none⟩), .int .i64 (fin x).til] (w2.setCell ⟨W.heap.size, 0, none⟩ (.pointer (some ⟨B x, 0, none⟩))).drew fun e w3 => e = .returned (.tuple #[]) ∧ ∃ (ad : Option Addr) (L : List (Nat × Int × Int)) (cap : Nat), w3.cell? ⟨W.heap.size, 2, none⟩ = some (.slice ad L.length cap) ∧ Calls Tryz.prog 69 #[.slice ad L.length cap] w3 fun e w4 => e = .returned (.tuple #[]) ∧ SwR W.heap.size w4 A fin C W.heap.size x (preN KN fuel [x]) (.slice ad L.length cap) L ∧ Below W.heap.size W w4) := fun w2 p B cv cb sv hO hU => by
    have hO2 := hO.setR (.pointer (some ⟨B x, 0, none⟩))
    refine ⟨hO.tree.cell 0 rfl, hO.tree.frozen 0, (hO2.blk x hxD).cell 14 rfl, hO2.tree.cell 0 rfl, ?_⟩
    have b2 : Below W.heap.size W w2 := b1.trans (hU.below (by omega) (fun k hk h => by rcases h with h | h; omega; simp [Value.ownBlock] at h))
    have b3 := (b2.setCell (p := ⟨W.heap.size, 0, none⟩) (Nat.le_refl _) (.pointer (some ⟨B x, 0, none⟩))).drew
    have hO3 := hO2.below ((Below.refl _ _).drew)
    refine (back_any W.heap.size A fin C W.heap.size (preN KN fuel [x]) p B cv cb _ sv _ T.bk fuel _ x (fin x).til nilV [] hDC hxD (T.bk.rg x hxD).2 hO3 (by simp; omega)).mono ?_
    rintro e w3 ⟨rfl, lv, L, h1, h2, h3, h4⟩
    simp only [List.nil_append] at h1
    obtain ⟨ad, cap, rfl⟩ := owns_sliceS h1.legs
    refine ⟨rfl, ad, L, cap, h1.tree.cell 2 rfl, ?_⟩
    have hmp : L.flatMap (fun l => legC (legX A l)) = (L.map (legX A)).flatMap legC := by rw [List.flatMap_map]
    have b4 : Below W.heap.size W w3 := b3.trans (h4.below b3.size (fun k hk h => by omega))
    have hrow := h1.legs
    rw [hmp] at hrow
    by_cases hL : L = []
    · subst hL
      refine (reverse_none ad cap w3).mono ?_
      rintro e w4 ⟨rfl, rfl⟩
      exact ⟨rfl, ⟨h2, by simp, ⟨B, sv, h1.tree, ⟨p, cv, h1.blk⟩, by have := h1.row; rwa [List.length_map] at this⟩, ad, cap, rfl, fun hn => absurd rfl hn⟩, b4⟩
    · obtain ⟨n, hn⟩ : ∃ n, L.length = n + 1 := ⟨L.length - 1, by have := List.length_pos_iff.2 hL; omega⟩
      obtain ⟨g, rfl⟩ : ∃ g, ad = some ⟨g, 0, none⟩ := owns_some (n := n) (by rw [hn] at hrow; exact hrow)
      have hgl := (owns_lt hrow (g := g) rfl)
      refine (reverse_any W.heap.size g L.length cap (L.map (legX A)) w3 hrow (by simp) (by omega)).mono ?_
      rintro e w4 ⟨rfl, q1, q2⟩
      have ne : ∀ k c T fr, w3.heap[k]? = some (.cells c T fr) → T ≠ 69 → k ≠ g := fun k c T fr hk hT e => row_type hrow hk hT (by rw [e]; rfl)
      refine ⟨rfl, ⟨h2, by omega, ⟨B, sv, h1.tree.upd q2 (ne _ _ _ _ h1.tree (by decide)), ⟨p, cv, fun y hy => (h1.blk y hy).upd q2 (ne _ _ _ _ (h1.blk y hy) (by decide))⟩, ?_⟩, _, cap, rfl, fun _ => ⟨g, rfl, by have := q2.size; omega, q1⟩⟩, b4.trans (q2.below b4.size (fun k hk e => by omega))⟩
      have := ownsRow_upd h1.row q2 (fun k e => by
        obtain ⟨cur, hh⟩ := owns_type h1.row e
        exact ne _ _ _ _ hh (by decide))
      rwa [List.length_map] at this
  clear b1 s1 t1 G O1 hxD T hF hDC hsz hln
  go_enter Tryz.func44, Tryz.ntmps44
  go_wp2_with (go_at_call 67; refine GR.mono ?_; clear GR; rintro e w2 ⟨p, B, cv, cb, sv, rfl, _, _, hO, hU, _⟩; obtain ⟨e0, f0, e14, e00, BK⟩ := HBK.out w2 p B cv cb sv hO hU; clear hO hU HBK; unfold pB)
  go_region_law (go_simp; go_at_call 68; (with_reducible refine BK.mono ?_); clear BK; rintro e w3 ⟨rfl, ad, L, cap, e2, RV⟩)
  all_goals
    go_wp2_with (go_at_call 69; refine RV.mono ?_; clear RV; rintro e w4 ⟨rfl, hR, hb⟩; have HR : Hid (SwR W.heap.size w4 A fin C W.heap.size x (preN KN fuel [x]) (.slice ad L.length cap) L ∧ Below W.heap.size W w4) := ⟨hR, hb⟩; clear hR hb)
    go_ret
    exact ⟨rfl, ⟨_, _, HR.out.1⟩, HR.out.2⟩
end Go.Proofs.YtbbonnbcenhkeaaGreatDoor
