/-
  GH.
-/
import Derived.Test.YtbefeobikjnlpaaGreatDoorGBq
import Derived.Test.YtbefeobikjnlpaaGreatDoorGFq
namespace Go.Proofs.YtbefeobikjnlpaaGreatDoor
open Go Go.RowKit Go.Shelf
set_option maxRecDepth 100000

theorem build_ex (w : World) (hT : Tabs w) : Calls Tryz.prog 6 #[.slice (some ⟨w.heap.size + 1 + 1 + 1 + 1, 0, none⟩) 4 4] ((((((((((w).alloc (.cells #[.int .u64 0, .int .u64 7, .int .u64 3, .int .u64 2, .slice none 0 0, .string ⟨#[97]⟩, .string ⟨#[98]⟩, .int .i64 0, .int .i64 0, .int .i64 0, .int .i64 5, .slice none 0 0, .slice none 0 0] 62))).alloc (.cells #[.int .u64 0, .int .u64 7, .int .u64 4, .int .u64 9, .slice none 0 0, .string ⟨#[97]⟩, .string ⟨#[98]⟩, .int .i64 0, .int .i64 0, .int .i64 2, .int .i64 4, .slice none 0 0, .slice none 0 0] 62))).alloc (.cells #[.int .u64 0, .int .u64 7, .int .u64 1, .int .u64 0, .slice none 0 0, .string ⟨#[97]⟩, .string ⟨#[98]⟩, .int .i64 0, .int .i64 0, .int .i64 0, .int .i64 10, .slice none 0 0, .slice none 0 0] 62))).alloc (.cells #[.int .u64 0, .int .u64 7, .int .u64 2, .int .u64 1, .slice none 0 0, .string ⟨#[97]⟩, .string ⟨#[98]⟩, .int .i64 0, .int .i64 0, .int .i64 3, .int .i64 12, .slice none 0 0, .slice none 0 0] 62))).alloc (.cells #[.int .u64 0, .int .u64 7, .int .u64 3, .int .u64 2, .slice none 0 0, .string ⟨#[97]⟩, .string ⟨#[98]⟩, .int .i64 0, .int .i64 0, .int .i64 0, .int .i64 5, .slice none 0 0, .slice none 0 0, .int .u64 0, .int .u64 7, .int .u64 4, .int .u64 9, .slice none 0 0, .string ⟨#[97]⟩, .string ⟨#[98]⟩, .int .i64 0, .int .i64 0, .int .i64 2, .int .i64 4, .slice none 0 0, .slice none 0 0, .int .u64 0, .int .u64 7, .int .u64 1, .int .u64 0, .slice none 0 0, .string ⟨#[97]⟩, .string ⟨#[98]⟩, .int .i64 0, .int .i64 0, .int .i64 0, .int .i64 10, .slice none 0 0, .slice none 0 0, .int .u64 0, .int .u64 7, .int .u64 2, .int .u64 1, .slice none 0 0, .string ⟨#[97]⟩, .string ⟨#[98]⟩, .int .i64 0, .int .i64 0, .int .i64 3, .int .i64 12, .slice none 0 0, .slice none 0 0] 62)) fun e w' => ∃ f sb X K rv R, e = .returned (.tuple #[.pointer (some ⟨f, 0, none⟩), .int .i64 0]) ∧ ForestAt w' f sb X K rv R ∧ ExF X K R ∧ Below w.heap.size w w' := by
  obtain ⟨W, hW⟩ : ∃ W, ((((((((((w).alloc (.cells #[.int .u64 0, .int .u64 7, .int .u64 3, .int .u64 2, .slice none 0 0, .string ⟨#[97]⟩, .string ⟨#[98]⟩, .int .i64 0, .int .i64 0, .int .i64 0, .int .i64 5, .slice none 0 0, .slice none 0 0] 62))).alloc (.cells #[.int .u64 0, .int .u64 7, .int .u64 4, .int .u64 9, .slice none 0 0, .string ⟨#[97]⟩, .string ⟨#[98]⟩, .int .i64 0, .int .i64 0, .int .i64 2, .int .i64 4, .slice none 0 0, .slice none 0 0] 62))).alloc (.cells #[.int .u64 0, .int .u64 7, .int .u64 1, .int .u64 0, .slice none 0 0, .string ⟨#[97]⟩, .string ⟨#[98]⟩, .int .i64 0, .int .i64 0, .int .i64 0, .int .i64 10, .slice none 0 0, .slice none 0 0] 62))).alloc (.cells #[.int .u64 0, .int .u64 7, .int .u64 2, .int .u64 1, .slice none 0 0, .string ⟨#[97]⟩, .string ⟨#[98]⟩, .int .i64 0, .int .i64 0, .int .i64 3, .int .i64 12, .slice none 0 0, .slice none 0 0] 62))).alloc (.cells #[.int .u64 0, .int .u64 7, .int .u64 3, .int .u64 2, .slice none 0 0, .string ⟨#[97]⟩, .string ⟨#[98]⟩, .int .i64 0, .int .i64 0, .int .i64 0, .int .i64 5, .slice none 0 0, .slice none 0 0, .int .u64 0, .int .u64 7, .int .u64 4, .int .u64 9, .slice none 0 0, .string ⟨#[97]⟩, .string ⟨#[98]⟩, .int .i64 0, .int .i64 0, .int .i64 2, .int .i64 4, .slice none 0 0, .slice none 0 0, .int .u64 0, .int .u64 7, .int .u64 1, .int .u64 0, .slice none 0 0, .string ⟨#[97]⟩, .string ⟨#[98]⟩, .int .i64 0, .int .i64 0, .int .i64 0, .int .i64 10, .slice none 0 0, .slice none 0 0, .int .u64 0, .int .u64 7, .int .u64 2, .int .u64 1, .slice none 0 0, .string ⟨#[97]⟩, .string ⟨#[98]⟩, .int .i64 0, .int .i64 0, .int .i64 3, .int .i64 12, .slice none 0 0, .slice none 0 0] 62)) = W := ⟨_, rfl⟩
  have hb : Below w.heap.size w W := by
    rw [← hW]
    exact (((((Below.refl _ w).alloc (Nat.le_refl _) _).alloc (by simp) _).alloc (by simp; omega) _).alloc (by simp; omega) _).alloc (by simp; omega) _
  have hB : Blk W (w.heap.size + 1 + 1 + 1 + 1) (eX.flatMap enP).toArray 62 := by
    rw [← hW]
    exact alloc_atS (by simp)
  rw [hW]
  refine (build_any (some ⟨w.heap.size + 1 + 1 + 1 + 1, 0, none⟩) 4 4 eX eY (fun _ => pl0) W (spsFlat hB (fun a ha => ?_)) eOne (hT.below hb) eXY eRise eNo eDp eFin eShape).mono ?_
  · simp only [eX, List.mem_cons, List.not_mem_nil, or_false] at ha
    rcases ha with rfl | rfl | rfl | rfl <;> exact atE _ _ _ _ _ _
  · rintro e w' ⟨f, sb, X, K, rv, R, rfl, hF, hO, hb'⟩
    exact ⟨f, sb, X, K, rv, R, rfl, hF, exF hO, hb.trans (hb'.mono hb.size)⟩
theorem StepsA.congr {F : Fence} {n : Nat} {P : Program} {g : Nat} {lb : Array Value} {N : Nat} {args args' : Nat → Array Value} {Kp : World → World → Prop} {w : World} (h : StepsA F n P g lb N args Kp w) (he : ∀ k, k < N → args k = args' k) : StepsA F n P g lb N args' Kp w :=
  fun l J W hW hJ hY h0 => h l J W hW hJ (fun k W1 hk hj => by rw [he k hk]; exact hY k W1 hk hj) h0
/-- What Down tells of the example. -/
def eArg (k : Nat) : Array Value := #[.agg #[.int .u64 ((k : Int) + 1), .int .u64 (eFin k).par, .int .i64 (eFin k).org, .int .u64 (eFin k).tree, .int .i64 (eFin k).dep, .int .i64 (eFin k).fr, .int .i64 (eFin k).til]]
theorem ExF.arg {X : List Spot} {K : Nat → List Int} {R : List Int} (h : ExF X K R) (k : Nat) (hk : k < 4) : #[ndV (nthN X (([0, 1, 2, 3] : List Int)[k]?.getD 0))] = eArg k := by
  have hl := h.len
  have e : ∀ j : Nat, j < 4 → nthN X (j : Int) = eFin j := fun j hj => by rw [nthN_get (by omega), (h.at_ j (by omega)).1]
  rcases four hk with rfl | rfl | rfl | rfl
  · have := e 0 (by omega); simp only [eArg]; rw [show (([0, 1, 2, 3] : List Int)[0]?.getD 0) = ((0 : Nat) : Int) from rfl, this]; rfl
  · have := e 1 (by omega); simp only [eArg]; rw [show (([0, 1, 2, 3] : List Int)[1]?.getD 0) = ((1 : Nat) : Int) from rfl, this]; rfl
  · have := e 2 (by omega); simp only [eArg]; rw [show (([0, 1, 2, 3] : List Int)[2]?.getD 0) = ((2 : Nat) : Int) from rfl, this]; rfl
  · have := e 3 (by omega); simp only [eArg]; rw [show (([0, 1, 2, 3] : List Int)[3]?.getD 0) = ((3 : Nat) : Int) from rfl, this]; rfl
end Go.Proofs.YtbefeobikjnlpaaGreatDoor
