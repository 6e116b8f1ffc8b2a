/-
  Strings of bytes: as lists.
-/
import Derived.Test.YtdagoabapchniaaDoorAw
import Derived.Laws.Strings2
import Derived.Lib.IndexBytes
namespace Go.Proofs.YtdagoabapchniaaDoor
open Go

theorem strI_list (K : List Int) : (strI K).toList = K.map (fun n => UInt8.ofNat n.toNat) := by
  rw [Lib.toList_data]; simp [strI]
theorem strI_cut (K : List Int) (n : Nat) : ((strI K).extract 0 n).toList = (K.take n).map (fun n => UInt8.ofNat n.toNat) := by
  unfold strI
  rw [ByteArray.extract_mk, Lib.toList_data]
  simp [List.map_take]
theorem byte_inj {x y : Int} (hx : 0 ≤ x ∧ x < 256) (hy : 0 ≤ y ∧ y < 256) (h : UInt8.ofNat x.toNat = UInt8.ofNat y.toNat) : x = y := by
  have := congrArg UInt8.toNat h
  simp at this
  omega
theorem bytes_inj : ∀ (K L : List Int), (∀ x ∈ K, 0 ≤ x ∧ x < 256) → (∀ x ∈ L, 0 ≤ x ∧ x < 256) → K.map (fun n => UInt8.ofNat n.toNat) = L.map (fun n => UInt8.ofNat n.toNat) → K = L := by
  intro K
  induction K with
  | nil => intro L _ _ h; cases L with
    | nil => rfl
    | cons y r => simp at h
  | cons x r ih =>
    intro L hK hL h
    cases L with
    | nil => simp at h
    | cons y r' =>
      simp only [List.map_cons, List.cons.injEq] at h
      rw [byte_inj (hK x (by simp)) (hL y (by simp)) h.1, ih r' (fun z hz => hK z (by simp [hz])) (fun z hz => hL z (by simp [hz])) h.2]
end Go.Proofs.YtdagoabapchniaaDoor
