/-
  Contracts: first, awake (written by gen_yw.py).
-/
import Derived.Test.YtioibllopidilaaDoorYj
import Derived.Test.YtioibllopidilaaDoorYo
namespace Go.Proofs.YtioibllopidilaaDoor
open Go.Shelf Go.RowKit
set_option maxRecDepth 100000

def spF (e : Int) : Sp := ⟨0, 7, 1, 0, [], ⟨#[97]⟩, ⟨#[98]⟩, 0, 0, 5, e, [], []⟩
def spZ : Sp := ⟨0, 0, 0, 0, [], ⟨#[]⟩, ⟨#[]⟩, 0, 0, 0, 0, [], []⟩
def pl0 : Pl := ⟨none, 0, none, 0, none, 0⟩
theorem at0 (w : World) (a : Sp) (h1 : a.links = []) (h2 : a.attrs = []) (h3 : a.events = []) : SpAt w a pl0 := by
  refine ⟨?_, ?_, ?_, ?_, ?_, ?_⟩
  · rw [h1]; exact HoldsV.nil w
  · rw [h2]; exact ⟨rfl, fun h => by simp at h⟩
  · rw [h3]; exact ⟨rfl, fun h => by simp at h⟩
  · simp [h1]
  · simp [h2]
  · simp [h3]
theorem spF_small (e : Int) : (spF e).Small := ⟨(show (1 : Nat) ≤ 140737488355328 by omega), (show (1 : Nat) ≤ 140737488355328 by omega), (fun x hx => by simp [spF] at hx), (fun x hx => by simp [spF] at hx)⟩
theorem spZ_small : spZ.Small := ⟨by decide, by decide, (fun x hx => by simp [spZ] at hx), (fun x hx => by simp [spZ] at hx)⟩
theorem spF_fits (e : Int) : (spF e).Fits := ⟨by simp [spF], by simp [spF], by simp [spF], by simp [spF], (fun x hx => by simp [spF] at hx), (fun x hx => by simp [spF] at hx)⟩
theorem chk9 : chkS (spF 9) = 0 := by kernel_rfl
theorem chk10 : chkS (spF 10) = 0 := by kernel_rfl
theorem chkZ : chkS spZ = 41 := by kernel_rfl
theorem cmp910 : cmpP (spF 9) (spF 10) = -1 := by kernel_rfl
theorem len9 : (encS (spF 9)).length = 43 := by
  simp only [encS, spF, textL, catL, List.length_append, rawL_len, List.length_nil, List.append_nil, bytesI_length]
  rw [enc1 _ (by decide), enc1 _ (by decide), enc1 _ (by decide), enc1 _ (by decide), enc1 _ (by decide), enc1 _ (by decide)]
  rfl

theorem first_any (w : World) :
    Calls Tryd.prog 17 #[] w fun e w' => e = .returned (.agg #[.int .u64 0, .int .u64 7, .int .u64 1, .int .u64 0, .slice none 0 0, .string ⟨#[97]⟩, .string ⟨#[98]⟩, .int .i64 0, .int .i64 0, .int .i64 5, .int .i64 9, .slice none 0 0, .slice none 0 0]) ∧ w' = w.alloc (.cells #[.int .u64 0, .int .u64 7, .int .u64 1, .int .u64 0, .slice none 0 0, .string ⟨#[97]⟩, .string ⟨#[98]⟩, .int .i64 0, .int .i64 0, .int .i64 5, .int .i64 9, .slice none 0 0, .slice none 0 0] 33) := by
  go_enter Tryd.func17, Tryd.ntmps17
  go_wp2
  simp [bodyPost, results, Tryd.results17, go_sem]

end Go.Proofs.YtioibllopidilaaDoor
