/-
  Merged: HG, HJ.
-/
import Derived.Test.YtbefeobikjnlpaaGreatDoorHAq
import Derived.Test.YtbefeobikjnlpaaGreatDoorHFq
import Derived.Test.YtbefeobikjnlpaaGreatDoorOXq
import Derived.Test.YtbefeobikjnlpaaGreatDoorQAq
import Derived.Test.YtbefeobikjnlpaaGreatDoorGH
namespace Go.Proofs.YtbefeobikjnlpaaGreatDoor
open Go Go.RowKit
set_option maxRecDepth 100000

end Go.Proofs.YtbefeobikjnlpaaGreatDoor

namespace Go.Proofs.YtbefeobikjnlpaaGreatDoor
open Go Go.RowKit
set_option maxRecDepth 100000

section
variable {Y : List Sp} {C : List Int} {dp : Nat → Nat} {fin : Nat → Nod} {X : List Spot} {K : Nat → List Int} {R : List Int}
theorem FoB.nd (h : FoB Y C dp fin X K R) (i : Nat) (hi : i < X.length) : X[i].nd = fin i := (h.fo.each i (by rw [← h.fo.len]; exact hi) hi).2
theorem FoB.kn (h : FoB Y C dp fin X K R) (i : Nat) (hi : i < X.length) : K i = (knK K i).map (fun c : Nat => (c : Int)) ∧ (∀ c ∈ knK K i, c < X.length) ∧ (knK K i).length ≤ 1000 := by
  have hi' : i < Y.length := by rw [← h.fo.len]; exact hi
  have hlen := h.fo.len
  have hl := h.one.len
  refine ⟨?_, fun c hc => by rw [hlen]; exact ((h.mem i hi' c).1 hc).1, ?_⟩
  · rw [List.map_map]
    have : ∀ z ∈ K i, ((fun c : Nat => (c : Int)) ∘ Int.toNat) z = z := fun z hz => by
      have := h.pos i hi' z hz
      show ((z.toNat : Nat) : Int) = z
      omega
    exact (List.map_congr_left this).trans (List.map_id _) |>.symm
  · have := sub_len _ (List.range Y.length) (h.nodup i hi') (fun c hc => List.mem_range.2 ((h.mem i hi' c).1 hc).1)
    simp only [List.length_range] at this
    omega
theorem FoB.idInjR (h : FoB Y C dp fin X K R) {i j : Nat} (hi : i < Y.length) (hj : j < Y.length) (e : (fin i).id = (fin j).id) : i = j := by
  have hl := h.fo.len
  refine rise_same h.rise (by omega) (by omega) ?_
  rw [h.nd i (by omega), h.nd j (by omega)]
  exact e
theorem FoB.ltOf (h : FoB Y C dp fin X K R) {a b : Nat} (ha : a < Y.length) (hb : b < Y.length) (hab : a ≠ b) (hn : ¬ ltK (fin b) (fin a)) : ltK (fin a) (fin b) := by
  have : (fin a).id ≠ (fin b).id := fun e => hab (h.idInjR ha hb e)
  unfold ltK at hn ⊢
  omega
theorem FoB.orgZ (h : FoB Y C dp fin X K R) (i : Nat) (hi : i < Y.length) : (dp i = 0 → (fin i).org ≠ 0) ∧ (0 < dp i → (fin i).org = 0) := by
  have hcl : (cutX C (zs Y)).length = Y.length := by rw [cutX_len, zs_len]
  have hi' : i < (cutX C (zs Y)).length := by omega
  obtain ⟨hz, z1, z2⟩ := zs_get Y i hi
  obtain ⟨o1, o2, o3⟩ := cutX_org C (zs Y) i hz hi'
  have zo : (zs Y)[i].nd.org = 0 := by simp [zs, ndOf]
  rcases nmC_range Y C i hi with hn | ⟨j, hj, hn⟩
  · obtain ⟨e0, e⟩ := h.sh.rt i hi' hn
    refine ⟨fun _ => ?_, fun h0 => by omega⟩
    rw [e]
    unfold rootN
    simp only
    split
    · omega
    · split <;> omega
  · obtain ⟨e0, e⟩ := h.sh.kd i j hi' (by omega) hn
    refine ⟨fun h0 => by omega, fun _ => ?_⟩
    rw [e]
    unfold hangN
    simp only
    rw [o3, zo]
    rintro ⟨c, hc, hci⟩
    have hg := cutN_get C (nmY Y) i (by rw [nmY_len]; exact hi)
    have hcn : i < (cutN C (nmY Y)).length := by rw [cutN_len, nmY_len]; exact hi
    rw [getD_eq hcn 0 (-1), if_pos ⟨c, hc, hci⟩] at hg
    have : (cutN C (nmY Y)).getD i (-1) = (j : Int) := hn
    omega
end
end Go.Proofs.YtbefeobikjnlpaaGreatDoor
