/-
  Merged: HF, HH, HI.
-/
import Derived.Test.YtbdkaanmkegfiaaGreatDoorOY
import Derived.Test.YtbdkaanmkegfiaaGreatDoorFU
import Derived.Test.YtbdkaanmkegfiaaGreatDoorQAq
import Derived.Test.YtbdkaanmkegfiaaGreatDoorGE
import Derived.Test.YtbdkaanmkegfiaaGreatDoorGD
namespace Go.Proofs.YtbdkaanmkegfiaaGreatDoor
open Go Go.RowKit
set_option maxRecDepth 100000

set_option maxHeartbeats 4000000 in
theorem ordered_any (f sb : Nat) (X : List Spot) (K : Nat → List Int) (rvv : Value) (R : List Int) (fin : Nat → Nod) (L : List Nat) (rc n cap : Nat) (W : World) (hF : ForestAt W f sb X K rvv R) (nd : ∀ i (h : i < X.length), X[i].nd = fin i) (hL : ∀ c ∈ L, c < X.length) (hn : L.length = n) (hl : n ≤ 1000) (hB : 0 < n → Blk W rc (fillC .u64 (L.map (fun c => (fin c).id)) 0) 35)
    (hO : ∀ i (h : i + 1 < L.length), ltK (fin (L[i]'(by omega))) (fin L[i + 1])) :
    Calls Tryz.prog 19 #[.pointer (some ⟨f, 0, none⟩), .slice (some ⟨rc, 0, none⟩) n cap] W fun e W' => e = .returned (.bool true) ∧ Below W.heap.size W W' := by
  have ND : Hid (∀ (i : Nat) (hi : i + 1 < n), ∃ (a b : Nod), ltK a b ∧ (∀ wr, Below W.heap.size W wr → wr.cell? ⟨rc, i, none⟩ = some (.int .u64 a.id) ∧ wr.cell? ⟨rc, i + 1, none⟩ = some (.int .u64 b.id)) ∧ (∀ wr, Below W.heap.size W wr → Calls Tryz.prog 21 #[.pointer (some ⟨f, 0, none⟩), .int .u64 a.id] wr fun e w' => e = .returned (.tuple #[ndV a, .bool true]) ∧ Below wr.heap.size wr w') ∧ ∀ wr, Below W.heap.size W wr → Calls Tryz.prog 21 #[.pointer (some ⟨f, 0, none⟩), .int .u64 b.id] wr fun e w' => e = .returned (.tuple #[ndV b, .bool true]) ∧ Below wr.heap.size wr w') := fun i hi => by
    have hi0 : i < L.length := by omega
    have hi1 : i + 1 < L.length := by omega
    have hB' := hB (by omega)
    have h0 := hL _ (List.getElem_mem hi0)
    have h1 := hL _ (List.getElem_mem hi1)
    refine ⟨fin L[i], fin L[i + 1], hO i hi1, fun wr hb => ⟨(hB'.below hb hB'.lt).cell i (by simp [fillC, hi0]), (hB'.below hb hB'.lt).cell (i + 1) (by simp [fillC, hi1])⟩, fun wr hb => ?_, fun wr hb => ?_⟩
    · have := node_at (hF.below hb) _ h0 (fin L[i]).id (by rw [nd _ h0])
      rwa [nd _ h0] at this
    · have := node_at (hF.below hb) _ h1 (fin L[i + 1]).id (by rw [nd _ h1])
      rwa [nd _ h1] at this
  have hn1 : (n : Int) ≤ 1000 := by omega
  clear hF nd hL hn hB hO
  go_enter Tryz.func19, Tryz.ntmps19
  go_wp2
  go_loopw [5] (fun z wr => ∃ i : Nat, z = .int .i64 ((i : Int) + 1) ∧ i ≤ n ∧ Below W.heap.size W wr) (fun z _ => n + 1 - (intOf z).toNat)
  case atStart => exact ⟨0, rfl, by omega, Below.refl _ _⟩
  case round =>
    obtain ⟨i, rfl, hin, hb⟩ := hrel
    have HB : Hid (Below W.heap.size W wr) := hb
    by_cases hlt : i + 1 < n
    · obtain ⟨a, b, hab, hc, NA, NB⟩ := ND.out i hlt
      obtain ⟨c0, c1⟩ := hc wr hb
      have HC : Hid (∀ wr, Below W.heap.size W wr → wr.cell? ⟨rc, i, none⟩ = some (.int .u64 a.id) ∧ wr.cell? ⟨rc, i + 1, none⟩ = some (.int .u64 b.id)) := hc
      have N1 := NA wr hb
      have N2 : Hid (∀ wr, Below W.heap.size W wr → Calls Tryz.prog 21 #[.pointer (some ⟨f, 0, none⟩), .int .u64 b.id] wr fun e w' => e = .returned (.tuple #[ndV b, .bool true]) ∧ Below wr.heap.size wr w') := NB
      have hin1 : (i : Int) + 1 < (n : Int) := by omega
      have hin0 : (i : Int) < (n : Int) := by omega
      have hi1 : ((i : Int) + 1).toNat = i + 1 := by omega
      have HAB : Hid (ltK a b) := hab
      have hle : decide (b.fr < a.fr) = false := decide_eq_false (by rcases hab with h | h <;> omega)
      unfold ndV at N1 N2
      clear hb hc NA NB ND hab
      by_cases he : a.fr = b.fr
      · have d1 : (a.fr == b.fr) = true := by simp [he]
        have d2 : decide (b.id ≤ a.id) = false := decide_eq_false (by rcases HAB.out with h | h <;> omega)
        clear he
        go_wp2_with (first
          | (go_at_call 21; refine N1.mono ?_; clear N1; rintro e w6 ⟨rfl, hb6⟩; have H6 : Hid (∀ o, Below W.heap.size W (w6.alloc o)) := (fun o => (HB.out.trans (hb6.mono HB.out.size)).alloc (by have := HB.out.size; have := hb6.size; omega) o); have c26 := fun (o : Obj) => (HC.out _ (H6.out o)).2; clear hb6)
          | (go_at_call 21; refine (N2.out _ (H6.out _)).mono ?_; clear N2; rintro e w7 ⟨rfl, hb7⟩; have H7 : Hid (∀ o, Below W.heap.size W (w7.alloc o)) := (fun o => ((H6.out _).trans (hb7.mono (H6.out _).size)).alloc (Nat.le_trans (H6.out _).size hb7.size) o); have x5 := fun (o : Obj) => (Blk.alloc (Blk.below (Blk.new _ _ _) hb7 (by rw [World.size_alloc]; omega)) o).cell 5 rfl; have x0 := fun (o : Obj) => (Blk.alloc (Blk.below (Blk.new _ _ _) hb7 (by rw [World.size_alloc]; omega)) o).cell 0 rfl; clear hb7))
        go_roundw
        case rel => exact ⟨i + 1, by simp, by omega, H7.out _⟩
        case measure => (simp [intOf]; try omega)
      · have d1 : (a.fr == b.fr) = false := by simp [he]
        clear he
        go_wp2_with (first
          | (go_at_call 21; refine N1.mono ?_; clear N1; rintro e w6 ⟨rfl, hb6⟩; have H6 : Hid (∀ o, Below W.heap.size W (w6.alloc o)) := (fun o => (HB.out.trans (hb6.mono HB.out.size)).alloc (by have := HB.out.size; have := hb6.size; omega) o); have c26 := fun (o : Obj) => (HC.out _ (H6.out o)).2; clear hb6)
          | (go_at_call 21; refine (N2.out _ (H6.out _)).mono ?_; clear N2; rintro e w7 ⟨rfl, hb7⟩; have H7 : Hid (∀ o, Below W.heap.size W (w7.alloc o)) := (fun o => ((H6.out _).trans (hb7.mono (H6.out _).size)).alloc (Nat.le_trans (H6.out _).size hb7.size) o); have x5 := fun (o : Obj) => (Blk.alloc (Blk.below (Blk.new _ _ _) hb7 (by rw [World.size_alloc]; omega)) o).cell 5 rfl; have x0 := fun (o : Obj) => (Blk.alloc (Blk.below (Blk.new _ _ _) hb7 (by rw [World.size_alloc]; omega)) o).cell 0 rfl; clear hb7))
        go_roundw
        case rel => exact ⟨i + 1, by simp, by omega, H7.out _⟩
        case measure => (simp [intOf]; try omega)
    · have hni : ¬ (i : Int) + 1 < (n : Int) := by omega
      clear hb ND hlt
      go_wp2
      go_ret
      exact ⟨rfl, HB.out⟩
set_option maxHeartbeats 2000000 in
theorem find_list (L : List Int) (rc n cap : Nat) (id : Int) (w : World) (hn : L.length = n) (hl : n ≤ 1000) (hB : 0 < n → Blk w rc (fillC .u64 L 0) 35) :
    Calls Tryz.prog 23 #[.slice (some ⟨rc, 0, none⟩) n cap, .int .u64 id] w fun e w' => ∃ r, e = .returned (.int .i64 r) ∧ (0 ≤ r ↔ id ∈ L) ∧ w' = w := by
  have HC : Hid (∀ j, (hj : j < n) → ∃ a, L[j]? = some a ∧ w.cell? ⟨rc, j, none⟩ = some (.int .u64 a)) := fun j hj => by
    have hj' : j < L.length := by omega
    exact ⟨L[j], List.getElem?_eq_getElem hj', (hB (by omega)).cell j (by simp [fillC, hj'])⟩
  have HN : Hid (L.length = n) := hn
  have hn1 : (n : Int) ≤ 1000 := by omega
  clear hB hn
  go_enter Tryz.func23, Tryz.ntmps23
  go_wp2
  go_loopw [5] (fun z wr => ∃ j : Nat, z = .int .i64 j ∧ j ≤ n ∧ (∀ a ∈ L.take j, a ≠ id) ∧ wr = w) (fun z _ => n - (intOf z).toNat)
  case atStart => exact ⟨0, rfl, by omega, fun a ha => by simp at ha, rfl⟩
  case round =>
    obtain ⟨j, rfl, hj, hno, rfl⟩ := hrel
    have HNO : Hid (∀ a ∈ L.take j, a ≠ id) := hno
    clear hno
    by_cases hlt : j < n
    · obtain ⟨a, ha, ca⟩ := HC.out j hlt
      have HA : Hid (L[j]? = some a) := ha
      have hin : (j : Int) < (n : Int) := by omega
      clear ha HC
      by_cases he : a = id
      · have e1 : (a == id) = true := by simp [he]
        have HE : Hid (a = id) := he
        clear he
        go_wp2
        go_ret
        exact ⟨(j : Int), rfl, ⟨fun _ => by rw [← HE.out]; exact List.mem_of_getElem? HA.out, fun _ => by omega⟩, rfl⟩
      · have e1 : (a == id) = false := by simp [he]
        have HE : Hid (¬ a = id) := he
        clear he
        go_wp2
        go_roundw
        case rel =>
          refine ⟨j + 1, by simp, by omega, fun b hb => ?_, by first | rfl | trivial⟩
          rw [List.take_add_one, HA.out] at hb
          rcases List.mem_append.1 hb with hb | hb
          · exact HNO.out b hb
          · simp at hb
            subst hb
            exact HE.out
        case measure => (simp [intOf]; try omega)
    · have hni : ¬ (j : Int) < (n : Int) := by omega
      have HF : Hid (id ∉ L) := fun h => by
        have h1 := HNO.out id
        rw [List.take_of_length_le (by rw [HN.out]; omega)] at h1
        exact h1 h rfl
      clear HNO HC
      go_wp2
      go_ret
      exact ⟨-1, rfl, ⟨fun h => by omega, fun h => absurd h HF.out⟩, rfl⟩
end Go.Proofs.YtbdkaanmkegfiaaGreatDoor

namespace Go.Proofs.YtbdkaanmkegfiaaGreatDoor
open Go Go.RowKit
set_option maxRecDepth 100000

/-- May a node stand behind this way? -/
def OkN (fin : Nat → Nod) (P : List Nat) (x : Nat) : Prop := 0 ≤ (fin x).dep ∧ (fin x).dep ≤ P.length ∧ (0 < (fin x).dep → ∃ y, P[(fin x).dep.toNat - 1]? = some y ∧ (fin y).id = (fin x).par)
def nxP (fin : Nat → Nod) (P : List Nat) (x : Nat) : List Nat := P.take (fin x).dep.toNat ++ [x]
/-- May these nodes stand behind one another? -/
def OkL (fin : Nat → Nod) : List Nat → List Nat → Prop
  | _, [] => True
  | P, x :: r => OkN fin P x ∧ OkL fin (nxP fin P x) r
/-- How many children there are, up to a node. -/
def sumK (KN : Nat → List Nat) (L : List Nat) : Nat := (L.map (fun x => (KN x).length)).sum
theorem flat_ext {α β : Type} (f g : α → List β) : ∀ L : List α, (∀ x ∈ L, f x = g x) → L.flatMap f = L.flatMap g
  | [], _ => rfl
  | x :: r, h => by rw [List.flatMap_cons, List.flatMap_cons, h x (by simp), flat_ext f g r (fun y hy => h y (by simp [hy]))]
theorem cutX_depX (C : List Int) : ∀ (X : List Spot) (i : Nat) (h : i < X.length) (h' : i < (cutX C X).length), (cutX C X)[i].nd.dep = X[i].nd.dep := by
  induction C with
  | nil => exact fun _ _ _ _ => rfl
  | cons c r ih =>
    intro X i h h'
    have := ih (X.modify c.toNat loopS) i (by simpa using h) h'
    rw [List.getElem_modify] at this
    show (cutX r (X.modify c.toNat loopS))[i].nd.dep = _
    rw [this]
    split <;> rfl
section
variable {Y : List Sp} {C : List Int} {dp : Nat → Nat} {fin : Nat → Nod} {X : List Spot} {K : Nat → List Int} {R : List Int}
/-- Who stands beneath nobody, or beneath whom. -/
theorem FoB.two (h : FoB Y C dp fin X K R) (i : Nat) (hi : i < Y.length) : ((cutN C (nmOf (zs Y))).getD i (-1) = -1 ∧ dp i = 0 ∧ (fin i).dep = 0 ∧ (fin i).fr = Y[i].start ∧ (fin i).til = Y[i].fin ∧ (fin i).tree = (fin i).id ∧ (fin i).par = 0) ∨ ∃ j, j < Y.length ∧ (cutN C (nmOf (zs Y))).getD i (-1) = (j : Int) ∧ dp i = dp j + 1 ∧ (fin i).dep = (fin j).dep + 1 ∧ ((fin i).fr, (fin i).til) = clipI (Y[i].start, Y[i].fin) ((fin j).fr, (fin j).til) ∧ (fin i).tree = (fin j).tree ∧ (fin i).par = (fin j).id := by
  have hcl : (cutX C (zs Y)).length = Y.length := by rw [cutX_len, zs_len]
  have hi' : i < (cutX C (zs Y)).length := by omega
  obtain ⟨hz, z1, z2⟩ := zs_get Y i hi
  obtain ⟨s1, _, s3⟩ := cutX_same C (zs Y) i hz hi'
  have o1 := (cutX_org C (zs Y) i hz hi').1
  have d1 := cutX_depX C (zs Y) i hz hi'
  have zd : (zs Y)[i].nd.dep = 0 := by simp [zs, ndOf]
  have zp : (zs Y)[i].nd.par = 0 := by simp [zs, ndOf]
  rcases nmC_range Y C i hi with hn | ⟨j, hj, hn⟩
  · obtain ⟨e0, e⟩ := h.sh.rt i hi' hn
    refine Or.inl ⟨hn, e0, ?_⟩
    rw [e]
    unfold rootN
    simp only
    rw [s1, z1, d1, zd, o1, zp]
    refine ⟨?_, ?_, ?_, ?_, ?_⟩ <;> first | rfl | trivial
  · obtain ⟨e0, e⟩ := h.sh.kd i j hi' (by omega) hn
    refine Or.inr ⟨j, hj, hn, e0, ?_⟩
    rw [e]
    unfold hangN
    simp only
    rw [s1, z1]
    refine ⟨?_, ?_, ?_, ?_⟩ <;> first | rfl | trivial
theorem FoB.dep (h : FoB Y C dp fin X K R) : ∀ (d i : Nat), dp i = d → i < Y.length → (fin i).dep = (dp i : Int) := by
  intro d
  induction d using Nat.strongRecOn with
  | ind d ih =>
    intro i hd hi
    rcases h.two i hi with ⟨_, e1, e2, _⟩ | ⟨j, hj, _, e1, e2, _⟩
    · rw [e1, e2]; rfl
    · have := ih (dp j) (by omega) j rfl hj
      rw [e2, this, e1]
      omega
theorem FoB.kidPar (h : FoB Y C dp fin X K R) (i : Nat) (hi : i < Y.length) (c : Nat) (hc : c ∈ knK K i) : c < Y.length ∧ dp c = dp i + 1 ∧ (fin c).par = (fin i).id := by
  obtain ⟨h1, h2⟩ := (h.mem i hi c).1 hc
  rcases h.two c h1 with ⟨e, _⟩ | ⟨j, hj, e, e1, _, _, _, e2⟩
  · omega
  · have : j = i := by omega
    subst this
    exact ⟨h1, e1, e2⟩
/-- The roots, as places. -/
abbrev rtN (R : List Int) : List Nat := R.map Int.toNat
theorem FoB.rts (h : FoB Y C dp fin X K R) : (∀ z ∈ R, 0 ≤ z ∧ z < Y.length) ∧ (∀ x, x ∈ rtN R ↔ x < Y.length ∧ (cutN C (nmOf (zs Y))).getD x (-1) = -1) ∧ (rtN R).Nodup := by
  have hm : ∀ z ∈ R, ∃ q : Nat, z = (q : Int) ∧ q < Y.length ∧ (cutN C (nmOf (zs Y))).getD q (-1) = -1 := fun z hz => by
    obtain ⟨q, e, h1, h2⟩ := kidsF_iff.1 (h.fo.roots.1.mem_iff.2 hz)
    exact ⟨q, e, h1, h2⟩
  refine ⟨fun z hz => ?_, fun x => ⟨fun hx => ?_, fun hx => ?_⟩, ?_⟩
  · obtain ⟨q, rfl, h1, _⟩ := hm z hz
    omega
  · obtain ⟨z, hz, rfl⟩ := List.mem_map.1 hx
    obtain ⟨q, rfl, h1, h2⟩ := hm z hz
    exact ⟨by simpa using h1, by simpa using h2⟩
  · exact List.mem_map.2 ⟨(x : Int), h.fo.roots.1.mem_iff.1 (kidsF_iff.2 ⟨x, rfl, hx.1, hx.2⟩), by simp⟩
  · have h1 : R.Nodup := h.fo.roots.1.nodup_iff.1 (kidsF_nodup _ _ _)
    refine List.pairwise_map.2 (List.Pairwise.imp_of_mem ?_ h1)
    intro a b ha hb hab e
    obtain ⟨q, rfl, _⟩ := hm a ha
    obtain ⟨q', rfl, _⟩ := hm b hb
    omega
/-- All, in the order of the way down. -/
abbrev allN (K : Nat → List Int) (R : List Int) : List Nat := preN (knK K) 1001 (rtN R)
theorem FoB.all (h : FoB Y C dp fin X K R) : DeepN (knK K) 1001 (rtN R) ∧ (allN K R).Nodup ∧ (∀ x, x ∈ allN K R ↔ x < Y.length) ∧ (allN K R).length = Y.length := by
  have T := h.tree
  obtain ⟨_, r2, r3⟩ := h.rts
  have rd : ∀ x ∈ rtN R, x < Y.length ∧ dp x = 0 := fun x hx => by
    obtain ⟨h1, h2⟩ := (r2 x).1 hx
    rcases h.two x h1 with ⟨_, e, _⟩ | ⟨j, hj, e, _⟩
    · exact ⟨h1, e⟩
    · omega
  have hD := T.deep 1001 (rtN R) (fun x hx => ⟨(rd x hx).1, by omega⟩)
  have hN := T.nodup 1001 0 (rtN R) rd r3
  have hm : ∀ (d x : Nat), dp x = d → x < Y.length → x ∈ allN K R := by
    intro d
    induction d using Nat.strongRecOn with
    | ind d ih =>
      intro x hd hx
      rcases h.two x hx with ⟨e, _⟩ | ⟨j, hj, e, e1, _⟩
      · exact preN_mem _ _ _ hD x ((r2 x).2 ⟨hx, e⟩)
      · exact preN_down _ _ _ hD j (ih (dp j) (by omega) j rfl hj) x ((h.mem j hj x).2 ⟨hx, e⟩)
  have hi : ∀ x, x ∈ allN K R ↔ x < Y.length := fun x => ⟨fun hx => (T.above 1001 (rtN R) (fun y hy => (rd y hy).1) x hx).1, fun hx => hm (dp x) x rfl hx⟩
  refine ⟨hD, hN, hi, ?_⟩
  have l1 : (allN K R).length ≤ (List.range Y.length).length := sub_len _ (List.range Y.length) hN (fun x hx => List.mem_range.2 ((hi x).1 hx))
  have l2 : (List.range Y.length).length ≤ (allN K R).length := sub_len (List.range Y.length) (allN K R) List.nodup_range (fun x hx => (hi x).2 (List.mem_range.1 hx))
  simp only [List.length_range] at l1 l2
  omega
theorem FoB.preF_eq (h : FoB Y C dp fin X K R) : ∀ (fu : Nat) (L : List Int), (∀ z ∈ L, 0 ≤ z ∧ z < Y.length) → preF K fu L = (preN (knK K) fu (L.map Int.toNat)).map (fun c : Nat => (c : Int))
  | 0, L, _ => rfl
  | fu + 1, L, hL => by
    show L.flatMap (fun x => x :: preF K fu (K x.toNat)) = ((L.map Int.toNat).flatMap (fun x => x :: preN (knK K) fu (knK K x))).map _
    rw [List.map_flatMap, List.flatMap_map]
    refine flat_ext _ _ L fun x hx => ?_
    obtain ⟨x0, x1⟩ := hL x hx
    rw [List.map_cons, h.preF_eq fu (K x.toNat) (fun z hz => ?_)]
    · congr 1
      omega
    · have h0 := h.pos x.toNat (by omega) z hz
      have := ((h.mem x.toNat (by omega) z.toNat).1 (List.mem_map.2 ⟨z, hz, rfl⟩)).1
      omega
theorem FoB.deepF (h : FoB Y C dp fin X K R) : ∀ (fu : Nat) (L : List Int), (∀ z ∈ L, 0 ≤ z ∧ z < Y.length) → DeepN (knK K) fu (L.map Int.toNat) → Deep K fu L
  | 0, L, _, hD => by
    have : L.map Int.toNat = [] := hD
    show L = []
    simpa using this
  | fu + 1, L, hL, hD => fun x hx => by
    obtain ⟨x0, x1⟩ := hL x hx
    refine h.deepF fu (K x.toNat) (fun z hz => ?_) (hD x.toNat (List.mem_map.2 ⟨x, hx, rfl⟩))
    have h0 := h.pos x.toNat (by omega) z hz
    have := ((h.mem x.toNat (by omega) z.toNat).1 (List.mem_map.2 ⟨z, hz, rfl⟩)).1
    omega
end
theorem sum_pre (KN : Nat → List Nat) : ∀ (fu : Nat) (L : List Nat), DeepN KN fu L → (preN KN fu L).length = L.length + sumK KN (preN KN fu L)
  | 0, L, h => by
    have : L = [] := h
    subst this
    rfl
  | fu + 1, L, h => by
    have key : ∀ M : List Nat, (∀ x ∈ M, x ∈ L) → (M.flatMap (fun x => x :: preN KN fu (KN x))).length = M.length + sumK KN (M.flatMap (fun x => x :: preN KN fu (KN x))) := by
      intro M
      induction M with
      | nil => intro _; rfl
      | cons x r ih =>
        intro hM
        have h1 := ih (fun y hy => hM y (by simp [hy]))
        have h2 := sum_pre KN fu (KN x) (h x (hM x (by simp)))
        have e : sumK KN ((x :: r).flatMap (fun x => x :: preN KN fu (KN x))) = (KN x).length + sumK KN (preN KN fu (KN x)) + sumK KN (r.flatMap (fun x => x :: preN KN fu (KN x))) := by
          simp [sumK, List.flatMap_cons]
          omega
        rw [e, List.flatMap_cons, List.length_append, List.length_cons, List.length_cons, h1]
        omega
    exact key L (fun _ hx => hx)
end Go.Proofs.YtbdkaanmkegfiaaGreatDoor

namespace Go.Proofs.YtbdkaanmkegfiaaGreatDoor
open Go Go.RowKit
set_option maxRecDepth 100000

section
variable {Y : List Sp} {C : List Int} {dp : Nat → Nat} {fin : Nat → Nod} {X : List Spot} {K : Nat → List Int} {R : List Int}
theorem FoB.okPre (h : FoB Y C dp fin X K R) : ∀ (fu : Nat) (L : List Nat) (d : Nat) (P M : List Nat), (∀ x ∈ L, x < Y.length ∧ dp x = d ∧ (0 < d → ∃ y, P[d - 1]? = some y ∧ (fin y).id = (fin x).par)) → d ≤ P.length → (∀ P' : List Nat, P'.take d = P.take d → d ≤ P'.length → OkL fin P' M) → OkL fin P (preN (knK K) fu L ++ M)
  | 0, _, _, P, _, _, hd, hM => hM P rfl hd
  | fu + 1, [], _, P, _, _, hd, hM => hM P rfl hd
  | fu + 1, x :: r, d, P, M, hL, hd, hM => by
    obtain ⟨hx, hxd, hxp⟩ := hL x (by simp)
    have hdep := h.dep (dp x) x rfl hx
    have e : preN (knK K) (fu + 1) (x :: r) ++ M = x :: (preN (knK K) fu (knK K x) ++ (preN (knK K) (fu + 1) r ++ M)) := by
      simp [preN, List.flatMap_cons]
    rw [e]
    have hnx : nxP fin P x = P.take d ++ [x] := by
      unfold nxP
      rw [hdep, hxd, Int.toNat_natCast]
    have hl1 : (P.take d).length = d := by rw [List.length_take]; omega
    refine ⟨⟨by omega, by omega, fun h0 => ?_⟩, ?_⟩
    · rw [hdep, Int.toNat_natCast, hxd]
      exact hxp (by omega)
    · rw [hnx]
      refine h.okPre fu (knK K x) (d + 1) (P.take d ++ [x]) _ (fun c hc => ?_) (by simp; omega) (fun P' hP' hl' => ?_)
      · obtain ⟨c1, c2, c3⟩ := h.kidPar x hx c hc
        refine ⟨c1, by omega, fun _ => ⟨x, ?_, c3.symm⟩⟩
        rw [Nat.add_sub_cancel, List.getElem?_append_right (by omega), hl1]
        simp
      · have ht : P'.take d = P.take d := by
          have h1 := congrArg (List.take d) hP'
          rw [List.take_take, List.take_take, Nat.min_eq_left (by omega), List.take_append_of_le_length (by omega), List.take_take, Nat.min_self] at h1
          exact h1
        refine h.okPre (fu + 1) r d P' M (fun y hy => ?_) (by omega) (fun P'' hP'' hl'' => hM P'' (hP''.trans ht) hl'')
        obtain ⟨y1, y2, y3⟩ := hL y (by simp [hy])
        refine ⟨y1, y2, fun h0 => ?_⟩
        obtain ⟨z, z1, z2⟩ := y3 h0
        refine ⟨z, ?_, z2⟩
        have g1 : (P'.take d)[d - 1]? = P'[d - 1]? := by rw [List.getElem?_take, if_pos (by omega)]
        have g2 : (P.take d)[d - 1]? = P[d - 1]? := by rw [List.getElem?_take, if_pos (by omega)]
        rw [← g1, ht, g2]
        exact z1
theorem FoB.okAll (h : FoB Y C dp fin X K R) : OkL fin [] (allN K R) := by
  obtain ⟨_, r2, _⟩ := h.rts
  have := h.okPre 1001 (rtN R) 0 [] [] (fun x hx => ?_) (by simp) (fun _ _ _ => trivial)
  · simpa using this
  · obtain ⟨h1, h2⟩ := (r2 x).1 hx
    rcases h.two x h1 with ⟨_, e, _⟩ | ⟨j, hj, e, _⟩
    · exact ⟨h1, e, fun h0 => by omega⟩
    · omega
/-- Those above, the next one first. -/
def AncR (nm : List Int) (n : Nat) (i0 : Nat) (A0 : List Nat) : Prop := ∀ P : Nat → List Nat → Prop, (∀ i, nm.getD i (-1) = -1 → P i []) → (∀ (i j : Nat) (A : List Nat), nm.getD i (-1) = (j : Int) → j < n → P j A → P i (j :: A)) → P i0 A0
theorem AncR.root {nm : List Int} {n i : Nat} (h : nm.getD i (-1) = -1) : AncR nm n i [] := fun _ h1 _ => h1 i h
theorem AncR.up {nm : List Int} {n i j : Nat} {A : List Nat} (h : nm.getD i (-1) = (j : Int)) (hj : j < n) (hA : AncR nm n j A) : AncR nm n i (j :: A) := fun P h1 h2 => h2 i j A h hj (hA P h1 h2)
theorem AncR.ind {nm : List Int} {n : Nat} {motive : (i : Nat) → (A : List Nat) → AncR nm n i A → Prop} (root : ∀ {i : Nat} (h : nm.getD i (-1) = -1), motive i [] (.root h)) (up : ∀ {i j : Nat} {A : List Nat} (h : nm.getD i (-1) = (j : Int)) (hj : j < n) (hA : AncR nm n j A), motive j A hA → motive i (j :: A) (.up h hj hA)) {i : Nat} {A : List Nat} (h : AncR nm n i A) : motive i A h :=
  (h (fun i A => ∃ hp : AncR nm n i A, motive i A hp) (fun _ h => ⟨.root h, root h⟩) (fun _ _ _ h hj i => ⟨.up h hj i.1, up h hj i.1 i.2⟩)).2
theorem AncR.inv {nm : List Int} {n i : Nat} {A : List Nat} (h : AncR nm n i A) : (nm.getD i (-1) = -1 ∧ A = []) ∨ ∃ (j : Nat) (B : List Nat), nm.getD i (-1) = (j : Int) ∧ j < n ∧ AncR nm n j B ∧ A = j :: B := by
  induction h using AncR.ind with
  | root h => exact Or.inl ⟨h, rfl⟩
  | up h hj hA _ => exact Or.inr ⟨_, _, h, hj, hA, rfl⟩
theorem FoB.anc (h : FoB Y C dp fin X K R) : ∀ (d i : Nat), dp i = d → i < Y.length → ∃ A, AncR (cutN C (nmOf (zs Y))) Y.length i A := by
  intro d
  induction d using Nat.strongRecOn with
  | ind d ih =>
    intro i hd hi
    rcases h.two i hi with ⟨e, _⟩ | ⟨j, hj, e, e1, _⟩
    · exact ⟨[], .root e⟩
    · obtain ⟨A, hA⟩ := ih (dp j) (by omega) j rfl hj
      exact ⟨j :: A, .up e hj hA⟩
/-- What is in two intervals. -/
def meetI (a b : Int × Int) : Int × Int := (max a.1 b.1, min a.2 b.2)
theorem meet_fold (a : Int × Int) (f : Nat → Int × Int) : ∀ (A : List Nat) (b : Int × Int), A.foldl (fun c j => meetI c (f j)) (meetI a b) = meetI a (A.foldl (fun c j => meetI c (f j)) b)
  | [], _ => rfl
  | j :: r, b => by
    rw [List.foldl_cons, List.foldl_cons]
    have e : meetI (meetI a b) (f j) = meetI a (meetI b (f j)) := by
      unfold meetI
      simp only
      congr 1
      · omega
      · omega
    rw [e]
    exact meet_fold a f r (meetI b (f j))
theorem clip_meet {s e f t : Int} (h1 : s ≤ e) (h2 : f ≤ t) : (max s f < min e t → clipI (s, e) (f, t) = (max s f, min e t)) ∧ (¬ max s f < min e t → (clipI (s, e) (f, t)).1 = (clipI (s, e) (f, t)).2) := by
  unfold clipI brI
  obtain ⟨a, ha, a1, a2, a3⟩ : ∃ a, max s f = a ∧ s ≤ a ∧ f ≤ a ∧ (a = s ∨ a = f) := ⟨_, rfl, by omega, by omega, by omega⟩
  obtain ⟨b, hb, b1, b2, b3⟩ : ∃ b, min e t = b ∧ b ≤ e ∧ b ≤ t ∧ (b = e ∨ b = t) := ⟨_, rfl, by omega, by omega, by omega⟩
  obtain ⟨c, hc, c1, c2, c3⟩ : ∃ c, max e f = c ∧ e ≤ c ∧ f ≤ c ∧ (c = e ∨ c = f) := ⟨_, rfl, by omega, by omega, by omega⟩
  simp only [ha, hb, hc]
  obtain ⟨u, hu, u1, u2, u3⟩ : ∃ u, min a t = u ∧ u ≤ a ∧ u ≤ t ∧ (u = a ∨ u = t) := ⟨_, rfl, by omega, by omega, by omega⟩
  obtain ⟨v, hv, v1, v2, v3⟩ : ∃ v, min c t = v ∧ v ≤ c ∧ v ≤ t ∧ (v = c ∨ v = t) := ⟨_, rfl, by omega, by omega, by omega⟩
  simp only [hu, hv]
  clear ha hb hc hu hv
  by_cases k1 : t ≤ f
  · simp only [k1, if_true]
    exact ⟨fun hh => by omega, fun _ => by first | rfl | trivial⟩
  · by_cases k2 : e ≤ s
    · simp only [k1, k2, if_true, if_false]
      exact ⟨fun hh => by omega, fun _ => by first | rfl | trivial⟩
    · simp only [k1, k2, if_false]
      exact ⟨fun hh => by rw [show u = a by omega, show v = b by omega], fun hh => by omega⟩
def ivY (Y : List Sp) (j : Nat) : Int × Int := ((spAt Y j).start, (spAt Y j).fin)
/-- What is in all the intervals. -/
def inAll (Y : List Sp) (i : Nat) (A : List Nat) : Int × Int := A.foldl (fun c j => meetI c (ivY Y j)) (ivY Y i)
structure AncK (Y : List Sp) (dp : Nat → Nat) (fin : Nat → Nod) (X : List Spot) (i : Nat) (A : List Nat) : Prop where
  len : A.length = dp i
  mem : ∀ j ∈ A, j < Y.length ∧ dp j < dp i
  nod : A.Nodup
  upl : UpL X (fin i).id (A.map (fun j => (fin j).id))
  last : ∀ z, A.getLast? = some z → (fin i).tree = (fin z).id
  clip : ((inAll Y i A).1 < (inAll Y i A).2 → ((fin i).fr, (fin i).til) = inAll Y i A) ∧ (¬ (inAll Y i A).1 < (inAll Y i A).2 → (fin i).fr = (fin i).til)
theorem FoB.idz (h : FoB Y C dp fin X K R) (i : Nat) (hi : i < Y.length) : (fin i).id ≠ 0 := by
  rw [← h.ids i hi]
  have e : spAt Y i = Y[i] := by simp [spAt, List.getD, hi]
  rw [e]
  exact chk_id (h.one.chk _ (List.getElem_mem hi))
theorem FoB.ancK (h : FoB Y C dp fin X K R) {i : Nat} {A : List Nat} (hA : AncR (cutN C (nmOf (zs Y))) Y.length i A) : i < Y.length → AncK Y dp fin X i A := by
  have hsp : ∀ q (hq : q < Y.length), spAt Y q = Y[q] := fun q hq => by simp [spAt, List.getD, hq]
  have hX : ∀ q (hq : q < Y.length), ∃ hq' : q < X.length, X[q].nd = fin q := fun q hq => ⟨by rw [h.fo.len]; exact hq, (h.fo.each q hq _).2⟩
  induction hA using AncR.ind with
  | @root i hn =>
    intro hi
    rcases h.two i hi with ⟨_, e0, _, e2, e3, e4, e5⟩ | ⟨j, hj, e, _⟩
    · obtain ⟨hq, e6⟩ := hX i hi
      refine ⟨by simp [e0], fun j hj => absurd hj (by simp), List.nodup_nil, Or.inl ⟨i, hq, by rw [e6], by rw [e6, e5]⟩, fun z hz => absurd hz (by simp), ?_⟩
      have hm := chk_mom (h.one.chk Y[i] (List.getElem_mem hi))
      simp only [inAll, List.foldl_nil, ivY, hsp i hi]
      exact ⟨fun _ => by rw [e2, e3], fun hn => by rw [e2, e3]; omega⟩
    · omega
  | @up i j A hn hj hA ih =>
    intro hi
    have I := ih hj
    rcases h.two i hi with ⟨e, _⟩ | ⟨j', hj', e, e1, _, e3, e4, e5⟩
    · omega
    · have : j' = j := by omega
      subst this
      obtain ⟨hq, e6⟩ := hX i hi
      refine ⟨by rw [List.length_cons, I.len, e1], fun z hz => ?_, List.nodup_cons.2 ⟨fun hm => by have := (I.mem j' hm).2; omega, I.nod⟩, ⟨Or.inl ⟨i, hq, by rw [e6], by rw [e6, e5]⟩, h.idz j' hj, I.upl⟩, fun z hz => ?_, ?_⟩
      · rcases List.mem_cons.1 hz with rfl | hz
        · exact ⟨hj, by omega⟩
        · have := I.mem z hz
          exact ⟨this.1, by omega⟩
      · rw [e4]
        cases A with
        | nil =>
          simp at hz
          subst hz
          rcases hA.inv with ⟨hr, _⟩ | ⟨_, _, _, _, _, e9⟩
          · rcases h.two j' hj with ⟨_, _, _, _, _, g, _⟩ | ⟨q, hq, g, _⟩
            · exact g
            · omega
          · cases e9
        | cons a r =>
          rw [List.getLast?_cons_cons] at hz
          exact I.last z hz
      · have hm := chk_mom (h.one.chk Y[i] (List.getElem_mem hi))
        have hin := h.inn (dp j') j' rfl hj
        have ec : inAll Y i (j' :: A) = meetI (ivY Y i) (inAll Y j' A) := by
          unfold inAll
          rw [List.foldl_cons]
          exact meet_fold (ivY Y i) (ivY Y) A (ivY Y j')
        have ei : ivY Y i = (Y[i].start, Y[i].fin) := by unfold ivY; rw [hsp i hi]
        obtain ⟨c1, c2⟩ := clip_meet (s := Y[i].start) (e := Y[i].fin) (f := (fin j').fr) (t := (fin j').til) (by omega) (by omega)
        rw [← e3] at c1 c2
        rw [ec, ei]
        by_cases hne : (inAll Y j' A).1 < (inAll Y j' A).2
        · have hp := I.clip.1 hne
          rw [← hp]
          unfold meetI
          simp only
          exact ⟨c1, c2⟩
        · have hp := I.clip.2 hne
          refine ⟨fun hh => ?_, fun _ => c2 (by omega)⟩
          unfold meetI at hh
          simp only at hh
          omega
end
end Go.Proofs.YtbdkaanmkegfiaaGreatDoor
