/-
  Merged: HF, HH, HI.
-/
import Derived.Test.YtbefeobikjnlpaaGreatDoorOXq
import Derived.Test.YtbefeobikjnlpaaGreatDoorFSq
import Derived.Test.YtbefeobikjnlpaaGreatDoorQAq
import Derived.Test.YtbefeobikjnlpaaGreatDoorGDq
namespace Go.Proofs.YtbefeobikjnlpaaGreatDoor
open Go Go.RowKit
set_option maxRecDepth 100000

end Go.Proofs.YtbefeobikjnlpaaGreatDoor

namespace Go.Proofs.YtbefeobikjnlpaaGreatDoor
open Go Go.RowKit
set_option maxRecDepth 100000

theorem cutX_depX (C : List Int) : ∀ (X : List Spot) (i : Nat) (h : i < X.length) (h' : i < (cutX C X).length), (cutX C X)[i].nd.dep = X[i].nd.dep := by
  induction C with
  | nil => exact fun _ _ _ _ => rfl
  | cons c r ih =>
    intro X i h h'
    have := ih (X.modify c.toNat loopS) i (by simpa using h) h'
    rw [List.getElem_modify] at this
    show (cutX r (X.modify c.toNat loopS))[i].nd.dep = _
    rw [this]
    split <;> rfl
section
variable {Y : List Sp} {C : List Int} {dp : Nat → Nat} {fin : Nat → Nod} {X : List Spot} {K : Nat → List Int} {R : List Int}
/-- Who stands beneath nobody, or beneath whom. -/
theorem FoB.two (h : FoB Y C dp fin X K R) (i : Nat) (hi : i < Y.length) : ((cutN C (nmOf (zs Y))).getD i (-1) = -1 ∧ dp i = 0 ∧ (fin i).dep = 0 ∧ (fin i).fr = Y[i].start ∧ (fin i).til = Y[i].fin ∧ (fin i).tree = (fin i).id ∧ (fin i).par = 0) ∨ ∃ j, j < Y.length ∧ (cutN C (nmOf (zs Y))).getD i (-1) = (j : Int) ∧ dp i = dp j + 1 ∧ (fin i).dep = (fin j).dep + 1 ∧ ((fin i).fr, (fin i).til) = clipI (Y[i].start, Y[i].fin) ((fin j).fr, (fin j).til) ∧ (fin i).tree = (fin j).tree ∧ (fin i).par = (fin j).id := by
  have hcl : (cutX C (zs Y)).length = Y.length := by rw [cutX_len, zs_len]
  have hi' : i < (cutX C (zs Y)).length := by omega
  obtain ⟨hz, z1, z2⟩ := zs_get Y i hi
  obtain ⟨s1, _, s3⟩ := cutX_same C (zs Y) i hz hi'
  have o1 := (cutX_org C (zs Y) i hz hi').1
  have d1 := cutX_depX C (zs Y) i hz hi'
  have zd : (zs Y)[i].nd.dep = 0 := by simp [zs, ndOf]
  have zp : (zs Y)[i].nd.par = 0 := by simp [zs, ndOf]
  rcases nmC_range Y C i hi with hn | ⟨j, hj, hn⟩
  · obtain ⟨e0, e⟩ := h.sh.rt i hi' hn
    refine Or.inl ⟨hn, e0, ?_⟩
    rw [e]
    unfold rootN
    simp only
    rw [s1, z1, d1, zd, o1, zp]
    refine ⟨?_, ?_, ?_, ?_, ?_⟩ <;> first | rfl | trivial
  · obtain ⟨e0, e⟩ := h.sh.kd i j hi' (by omega) hn
    refine Or.inr ⟨j, hj, hn, e0, ?_⟩
    rw [e]
    unfold hangN
    simp only
    rw [s1, z1]
    refine ⟨?_, ?_, ?_, ?_⟩ <;> first | rfl | trivial
theorem FoB.dep (h : FoB Y C dp fin X K R) : ∀ (d i : Nat), dp i = d → i < Y.length → (fin i).dep = (dp i : Int) := by
  intro d
  induction d using Nat.strongRecOn with
  | ind d ih =>
    intro i hd hi
    rcases h.two i hi with ⟨_, e1, e2, _⟩ | ⟨j, hj, _, e1, e2, _⟩
    · rw [e1, e2]; rfl
    · have := ih (dp j) (by omega) j rfl hj
      rw [e2, this, e1]
      omega
/-- The roots, as places. -/
abbrev rtN (R : List Int) : List Nat := R.map Int.toNat
theorem FoB.rts (h : FoB Y C dp fin X K R) : (∀ z ∈ R, 0 ≤ z ∧ z < Y.length) ∧ (∀ x, x ∈ rtN R ↔ x < Y.length ∧ (cutN C (nmOf (zs Y))).getD x (-1) = -1) ∧ (rtN R).Nodup := by
  have hm : ∀ z ∈ R, ∃ q : Nat, z = (q : Int) ∧ q < Y.length ∧ (cutN C (nmOf (zs Y))).getD q (-1) = -1 := fun z hz => by
    obtain ⟨q, e, h1, h2⟩ := kidsF_iff.1 (h.fo.roots.1.mem_iff.2 hz)
    exact ⟨q, e, h1, h2⟩
  refine ⟨fun z hz => ?_, fun x => ⟨fun hx => ?_, fun hx => ?_⟩, ?_⟩
  · obtain ⟨q, rfl, h1, _⟩ := hm z hz
    omega
  · obtain ⟨z, hz, rfl⟩ := List.mem_map.1 hx
    obtain ⟨q, rfl, h1, h2⟩ := hm z hz
    exact ⟨by simpa using h1, by simpa using h2⟩
  · exact List.mem_map.2 ⟨(x : Int), h.fo.roots.1.mem_iff.1 (kidsF_iff.2 ⟨x, rfl, hx.1, hx.2⟩), by simp⟩
  · have h1 : R.Nodup := h.fo.roots.1.nodup_iff.1 (kidsF_nodup _ _ _)
    refine List.pairwise_map.2 (List.Pairwise.imp_of_mem ?_ h1)
    intro a b ha hb hab e
    obtain ⟨q, rfl, _⟩ := hm a ha
    obtain ⟨q', rfl, _⟩ := hm b hb
    omega
/-- All, in the order of the way down. -/
abbrev allN (K : Nat → List Int) (R : List Int) : List Nat := preN (knK K) 1001 (rtN R)
theorem FoB.all (h : FoB Y C dp fin X K R) : DeepN (knK K) 1001 (rtN R) ∧ (allN K R).Nodup ∧ (∀ x, x ∈ allN K R ↔ x < Y.length) ∧ (allN K R).length = Y.length := by
  have T := h.tree
  obtain ⟨_, r2, r3⟩ := h.rts
  have rd : ∀ x ∈ rtN R, x < Y.length ∧ dp x = 0 := fun x hx => by
    obtain ⟨h1, h2⟩ := (r2 x).1 hx
    rcases h.two x h1 with ⟨_, e, _⟩ | ⟨j, hj, e, _⟩
    · exact ⟨h1, e⟩
    · omega
  have hD := T.deep 1001 (rtN R) (fun x hx => ⟨(rd x hx).1, by omega⟩)
  have hN := T.nodup 1001 0 (rtN R) rd r3
  have hm : ∀ (d x : Nat), dp x = d → x < Y.length → x ∈ allN K R := by
    intro d
    induction d using Nat.strongRecOn with
    | ind d ih =>
      intro x hd hx
      rcases h.two x hx with ⟨e, _⟩ | ⟨j, hj, e, e1, _⟩
      · exact preN_mem _ _ _ hD x ((r2 x).2 ⟨hx, e⟩)
      · exact preN_down _ _ _ hD j (ih (dp j) (by omega) j rfl hj) x ((h.mem j hj x).2 ⟨hx, e⟩)
  have hi : ∀ x, x ∈ allN K R ↔ x < Y.length := fun x => ⟨fun hx => (T.above 1001 (rtN R) (fun y hy => (rd y hy).1) x hx).1, fun hx => hm (dp x) x rfl hx⟩
  refine ⟨hD, hN, hi, ?_⟩
  have l1 : (allN K R).length ≤ (List.range Y.length).length := sub_len _ (List.range Y.length) hN (fun x hx => List.mem_range.2 ((hi x).1 hx))
  have l2 : (List.range Y.length).length ≤ (allN K R).length := sub_len (List.range Y.length) (allN K R) List.nodup_range (fun x hx => (hi x).2 (List.mem_range.1 hx))
  simp only [List.length_range] at l1 l2
  omega
end
end Go.Proofs.YtbefeobikjnlpaaGreatDoor

namespace Go.Proofs.YtbefeobikjnlpaaGreatDoor
open Go Go.RowKit
set_option maxRecDepth 100000

section
variable {Y : List Sp} {C : List Int} {dp : Nat → Nat} {fin : Nat → Nod} {X : List Spot} {K : Nat → List Int} {R : List Int}
/-- Those above, the next one first. -/
def AncR (nm : List Int) (n : Nat) (i0 : Nat) (A0 : List Nat) : Prop := ∀ P : Nat → List Nat → Prop, (∀ i, nm.getD i (-1) = -1 → P i []) → (∀ (i j : Nat) (A : List Nat), nm.getD i (-1) = (j : Int) → j < n → P j A → P i (j :: A)) → P i0 A0
theorem AncR.root {nm : List Int} {n i : Nat} (h : nm.getD i (-1) = -1) : AncR nm n i [] := fun _ h1 _ => h1 i h
theorem AncR.up {nm : List Int} {n i j : Nat} {A : List Nat} (h : nm.getD i (-1) = (j : Int)) (hj : j < n) (hA : AncR nm n j A) : AncR nm n i (j :: A) := fun P h1 h2 => h2 i j A h hj (hA P h1 h2)
theorem AncR.ind {nm : List Int} {n : Nat} {motive : (i : Nat) → (A : List Nat) → AncR nm n i A → Prop} (root : ∀ {i : Nat} (h : nm.getD i (-1) = -1), motive i [] (.root h)) (up : ∀ {i j : Nat} {A : List Nat} (h : nm.getD i (-1) = (j : Int)) (hj : j < n) (hA : AncR nm n j A), motive j A hA → motive i (j :: A) (.up h hj hA)) {i : Nat} {A : List Nat} (h : AncR nm n i A) : motive i A h :=
  (h (fun i A => ∃ hp : AncR nm n i A, motive i A hp) (fun _ h => ⟨.root h, root h⟩) (fun _ _ _ h hj i => ⟨.up h hj i.1, up h hj i.1 i.2⟩)).2
theorem FoB.idz (h : FoB Y C dp fin X K R) (i : Nat) (hi : i < Y.length) : (fin i).id ≠ 0 := by
  rw [← h.ids i hi]
  have e : spAt Y i = Y[i] := by simp [spAt, List.getD, hi]
  rw [e]
  exact chk_id (h.one.chk _ (List.getElem_mem hi))
end
end Go.Proofs.YtbefeobikjnlpaaGreatDoor
