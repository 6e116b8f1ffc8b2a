/-
  Wa.
-/
import Derived.Test.YtpcfchbiohbcoaaDoorWr
import Derived.Test.YtpcfchbiohbcoaaDoorMath
import Derived.WalkMore
import Derived.Test.YtpcfchbiohbcoaaDoorUtf
import Derived.Laws.BytesString
import Derived.Laws.Strings2
import Derived.Lib.IndexBytes
namespace Go.Proofs.YtpcfchbiohbcoaaDoor
open Go.RowKit
set_option maxRecDepth 100000

/-- Bytes as a string. -/
def strI (K : List Int) : ByteArray := ⟨(K.map (fun n => UInt8.ofNat n.toNat)).toArray⟩
theorem strI_fold (K : List Int) : ∀ s : ByteArray, K.foldl (fun r n => r.push (UInt8.ofNat n.toNat)) s = ⟨s.data ++ (K.map (fun n => UInt8.ofNat n.toNat)).toArray⟩ := by
  induction K with
  | nil => intro s; simp
  | cons x r ih =>
    intro s
    rw [List.foldl_cons, ih]
    simp [ByteArray.push]
theorem strI_size (K : List Int) : (strI K).size = K.length := by show (K.map _).toArray.size = _; simp
theorem own_ne {base : Nat} {w : World} {e : TypeId} {v : Value} {n : Nat} {xs : List Value} (h : w.ownsRow base e 1 v n xs) {R : Nat} {cs : Array Value} {t : TypeId} (hR : w.heap[R]? = some (.cells cs t (0, 0))) (hne : e ≠ t) : v.ownBlock ≠ some R := by
  intro hk
  rcases h.2 with ⟨rfl, _⟩ | ⟨g, cap, cur, rfl, _, hg, _⟩
  · simp [Value.ownBlock] at hk
  · simp [Value.ownBlock] at hk
    subst hk
    rw [hR] at hg
    simp at hg
    exact hne hg.2.symm
theorem bytesI_get (s : ByteArray) (i : Nat) (h : i < s.size) : bt (bytesI s) i = (s[i].toNat : Int) := by
  have hl : i < (bytesI s).length := by rw [bytesI_length]; exact h
  unfold bt
  rw [List.getD, List.getElem?_eq_getElem hl]
  simp [bytesI]
  rfl
theorem bytesI_out (s : ByteArray) (i : Nat) (h : s.size ≤ i) : bt (bytesI s) i = -1 := by
  unfold bt
  rw [List.getD, List.getElem?_eq_none (by rw [bytesI_length]; exact h)]; rfl
theorem bt_drop (l : List Int) (a i : Nat) : bt (l.drop a) i = bt l (a + i) := by
  unfold bt; rw [List.getD, List.getD, List.getElem?_drop]

theorem ret_bool {b c : Bool} (h : b = c) : Ending.returned (.bool b) = .returned (.bool c) := by rw [h]
theorem bytesI_cut (s : ByteArray) (k n : Nat) : bytesI (s.extract k (k + n)) = ((bytesI s).drop k).take n := by
  have h : s.extract k (k + n) = ⟨((s.data.toList.drop k).take n).toArray⟩ := by
    have := ByteArray.extract_mk s.data.toList k (k + n)
    simpa using this
  rw [h]; unfold bytesI
  simp [List.map_take, List.map_drop]

theorem slice_str (s : ByteArray) (k r : Nat) (h : k + r ≤ s.size) (W : World) : (Instr.slice 9 (.string s) (some (.int .i64 k)) (some (.int .i64 ((k : Int) + (r : Int)))) none).run Tryd.prog W = .ok (.string (s.extract k (k + r))) W := by
  have := run_slice_string (P := Tryd.prog) (w := W) 9 s .i64 .i64 (k : Int) ((k : Int) + (r : Int)) Tryd.underlying9 (by omega) (by omega) (by omega)
  rw [this, show ((k : Int)).toNat = k by omega, show ((k : Int) + (r : Int)).toNat = k + r by omega]
theorem ret_str {a b : ByteArray} (h : a = b) : Ending.returned (.string a) = .returned (.string b) := by rw [h]
end Go.Proofs.YtpcfchbiohbcoaaDoor
