/-
  ToA.
-/
import Derived.Test.YtmpmpoclkgofeaaGreatDoorPMq
import Derived.Test.YtmpmpoclkgofeaaGreatDoorOXq
namespace Go.Proofs.YtmpmpoclkgofeaaGreatDoor
open Go Go.RowKit
set_option maxRecDepth 100000

abbrev svDo : ByteArray := ⟨#[100, 111]⟩
abbrev svA1 : ByteArray := ⟨#[97]⟩
abbrev svB1 : ByteArray := ⟨#[98]⟩
def loY : List Sp := [⟨0, 7, 1, 0, [], svA1, svDo, 0, 0, 10, 30, [], []⟩, ⟨0, 7, 2, 1, [], svB1, svDo, 0, 0, 15, 40, [], []⟩]
theorem loAt (w : World) (a : Sp) (ha : a ∈ loY) : SpAt w a pl0 := by
  simp only [loY, List.mem_cons, List.not_mem_nil, or_false] at ha
  rcases ha with rfl | rfl <;> exact ⟨⟨rfl, fun j u hj => by simp [intsV] at hj⟩, ⟨rfl, fun h => by cases h⟩, ⟨rfl, fun h => by cases h⟩, by simp, by simp, by simp⟩
theorem loRise : loY.Pairwise (fun a b => a.id < b.id) := by
  simp [loY]
theorem loOne : OneT loY := by
  refine ⟨by simp [loY], fun a ha => ?_, fun a ha => ?_, fun a ha => ?_, fun a ha b hb => ?_, by simp [loY]⟩
  · simp only [loY, List.mem_cons, List.not_mem_nil, or_false] at ha
    rcases ha with rfl | rfl <;> decide +kernel
  · simp only [loY, List.mem_cons, List.not_mem_nil, or_false] at ha
    rcases ha with rfl | rfl <;> exact ⟨by simp, by simp, by simp, by simp, (fun _ h => by cases h), (fun _ h => by cases h)⟩
  · simp only [loY, List.mem_cons, List.not_mem_nil, or_false] at ha
    rcases ha with rfl | rfl <;> exact ⟨by decide, by decide, (fun _ h => by cases h), (fun _ h => by cases h)⟩
  · simp only [loY, List.mem_cons, List.not_mem_nil, or_false] at ha hb
    rcases ha with rfl | rfl <;> rcases hb with rfl | rfl <;> exact ⟨rfl, rfl⟩
theorem loNm : nmOf (zs loY) = [-1, 0] := by decide +kernel
def loDp : Nat → Nat
  | 1 => 1
  | _ => 0
def loFin : Nat → Nod
  | 0 => ⟨1, 0, 1, 1, 0, 10, 30⟩
  | _ => ⟨2, 1, 0, 1, 1, 15, 30⟩
theorem loTwo {i : Nat} (h : i < 2) : i = 0 ∨ i = 1 := by omega
theorem loNo : NoRing (nmOf (zs loY)) loY.length := by
  rw [loNm]
  intro i hi
  rcases loTwo (show i < 2 from hi) with rfl | rfl
  · exact Or.inl (by decide +kernel)
  · exact Or.inr (by decide +kernel)
theorem loShape : Shape (zs loY) (nmOf (zs loY)) loDp loFin := by
  rw [loNm]
  refine ⟨fun i hi hn => ?_, fun i j hi hj hn => ?_, fun i hi => ?_⟩
  · rcases loTwo (show i < 2 from hi) with rfl | rfl
    · exact ⟨rfl, rfl⟩
    · exact absurd hn (by decide)
  · rcases loTwo (show i < 2 from hi) with rfl | rfl
    · exact absurd hn (by simp)
    · have : j = 0 := by simp at hn; omega
      subst this
      exact ⟨rfl, rfl⟩
  · rcases loTwo (show i < 2 from hi) with rfl | rfl <;> exact ⟨by decide, by decide, by decide⟩
theorem buildLo (w w1 : World) (hT : Tabs w) (g : Nat) (hb : Below w.heap.size w w1) (hB : Blk w1 g (loY.flatMap enP).toArray 55) : Calls Tryz.prog 13 #[.slice (some ⟨g, 0, none⟩) 2 2] w1 fun e w' => ∃ f sb X K rv R, e = .returned (.tuple #[.pointer (some ⟨f, 0, none⟩), .int .i64 0]) ∧ ForestAt w' f sb X K rv R ∧ FoR loY loFin X K R ∧ Below w.heap.size w w' := by
  refine (build_any (some ⟨g, 0, none⟩) 2 2 loY loY (fun _ => pl0) w1 (spsFlat hB (fun a ha => loAt _ a ha)) loOne (hT.below hb) (List.Perm.refl _) loRise loNo loDp loFin loShape).mono ?_
  rintro e w' ⟨f, sb, X, K, rv, R, rfl, hF, hO, hb'⟩
  exact ⟨f, sb, X, K, rv, R, rfl, hF, hO, hb.trans (hb'.mono hb.size)⟩
theorem nodeLo {W : World} {f sb : Nat} {X : List Spot} {K : Nat → List Int} {rv : Value} {R : List Int} (hF : ForestAt W f sb X K rv R) (hO : FoR loY loFin X K R) : Calls Tryz.prog 15 #[.pointer (some ⟨f, 0, none⟩), .int .u64 2] W fun e w' => e = .returned (.tuple #[.agg #[.int .u64 2, .int .u64 1, .int .i64 0, .int .u64 1, .int .i64 1, .int .i64 15, .int .i64 30], .bool true]) ∧ Below W.heap.size W w' := by
  have hl : X.length = 2 := hO.len
  have e := (hO.each 1 (by decide) (by omega)).2
  have h := node_at hF 1 (by omega) 2 (by rw [e]; rfl)
  rw [e] at h
  exact h
theorem loFlat : (loY.flatMap enP).toArray = #[.int .u64 0, .int .u64 7, .int .u64 1, .int .u64 0, .slice none 0 0, .string svA1, .string svDo, .int .i64 0, .int .i64 0, .int .i64 10, .int .i64 30, .slice none 0 0, .slice none 0 0, .int .u64 0, .int .u64 7, .int .u64 2, .int .u64 1, .slice none 0 0, .string svB1, .string svDo, .int .i64 0, .int .i64 0, .int .i64 15, .int .i64 40, .slice none 0 0, .slice none 0 0] := by rfl
theorem plainLo (t id par s e : Int) (sv : ByteArray) (W : World) : Calls Tryz.prog 14 #[.int .u64 t, .int .u64 id, .int .u64 par, .string sv, .int .i64 s, .int .i64 e] W fun r w' => r = .returned (.agg #[.int .u64 0, .int .u64 t, .int .u64 id, .int .u64 par, .slice none 0 0, .string sv, .string svDo, .int .i64 0, .int .i64 0, .int .i64 s, .int .i64 e, .slice none 0 0, .slice none 0 0]) ∧ Below W.heap.size W w' := by
  have hld := run_loadVar_row (P := Tryz.prog) (W.alloc (.cells #[.int .u64 0, .int .u64 t, .int .u64 id, .int .u64 par, .slice none 0 0, .string sv, .string svDo, .int .i64 0, .int .i64 0, .int .i64 s, .int .i64 e, .slice none 0 0, .slice none 0 0] 55)) W.heap.size 55 55 #[.int .u64 0, .int .u64 t, .int .u64 id, .int .u64 par, .slice none 0 0, .string sv, .string svDo, .int .i64 0, .int .i64 0, .int .i64 s, .int .i64 e, .slice none 0 0, .slice none 0 0] (0, 0) _ (alloc_at (by simp)) Tryz.underlying55 rfl Tryz.info55
  go_enter Tryz.func14, Tryz.ntmps14
  go_wp2
  refine bodyPost_ret (v := .agg #[.int .u64 0, .int .u64 t, .int .u64 id, .int .u64 par, .slice none 0 0, .string sv, .string svDo, .int .i64 0, .int .i64 0, .int .i64 s, .int .i64 e, .slice none 0 0, .slice none 0 0]) ?_ rfl ⟨rfl, (Below.refl _ _).alloc (Nat.le_refl _) _⟩
  rw [results_cell1 rfl]
  simp [asAddr, Result.andThen, hld]
set_option maxHeartbeats 4000000 in
theorem lives_any (w : World) (hT : Tabs w) : Calls Tryz.prog 4 #[] w fun e w' => e = .returned (.bool true) ∧ Below w.heap.size w w' := by
  have BD : Hid (∀ w1 g, Below w.heap.size w w1 → Blk w1 g (loY.flatMap enP).toArray 55 → Calls Tryz.prog 13 #[.slice (some ⟨g, 0, none⟩) 2 2] w1 fun e w' => ∃ f sb X K rv R, e = .returned (.tuple #[.pointer (some ⟨f, 0, none⟩), .int .i64 0]) ∧ ForestAt w' f sb X K rv R ∧ FoR loY loFin X K R ∧ Below w.heap.size w w') := fun w1 g hb hB => buildLo w w1 hT g hb hB
  rw [loFlat] at BD
  have P1 := plainLo 7 1 0 10 30 svA1 w
  clear hT
  go_enter Tryz.func4, Tryz.ntmps4
  go_wp2_with (first
    | (go_at_call 14; (with_reducible refine P1.mono ?_); clear P1; rintro e w1 ⟨rfl, hb1⟩; have HB1 : Hid (Below w.heap.size w w1) := hb1; have P2 := plainLo 7 2 1 15 40 svB1 w1; clear hb1)
    | (go_at_call 14; (with_reducible refine P2.mono ?_); clear P2; rintro e w2 ⟨rfl, hb2⟩; have HB2 : Hid (Below w.heap.size w w2) := HB1.out.trans (hb2.mono HB1.out.size); clear hb2 HB1)
    | (go_at_call 13; refine (BD.out _ w2.heap.size (HB2.out.alloc HB2.out.size _) (Blk.new _ _ _)).mono ?_; clear BD; rintro e w3 ⟨f, sb, X, K, rv, R, rfl, hF, hO, hb3⟩; have N1 := nodeLo hF hO; have HB3 : Hid (Below w.heap.size w w3) := hb3; clear hF hO hb3 HB2)
    | (go_at_call 15; (with_reducible refine N1.mono ?_); clear N1; rintro e w4 ⟨rfl, hb4⟩; have HB4 : Hid (Below w.heap.size w w4) := HB3.out.trans (hb4.mono HB3.out.size); clear hb4 HB3))
  go_ret
  refine ⟨rfl, ?_⟩
  repeat' first | exact HB4.out | refine Below.alloc ?_ (by first | (have := HB4.out.size; simp; omega) | exact HB4.out.size) _
end Go.Proofs.YtmpmpoclkgofeaaGreatDoor
