/-
  Contracts: awake, bytesOf.
-/
import Derived.Test.YtpbpkhbmopjdjaaDoorRd
import Derived.Laws.BytesString
namespace Go.Proofs.YtpbpkhbmopjdjaaDoor
open Go.RowKit
set_option maxRecDepth 100000

theorem enc300 : encN 300 = [172, 2] := by rw [encN_ge (by omega), encN_lt (by omega)]; rfl

/-- Bytes as a string. -/
def strI (K : List Int) : ByteArray := ⟨(K.map (fun n => UInt8.ofNat n.toNat)).toArray⟩
theorem strI_fold (K : List Int) : ∀ s : ByteArray, K.foldl (fun r n => r.push (UInt8.ofNat n.toNat)) s = ⟨s.data ++ (K.map (fun n => UInt8.ofNat n.toNat)).toArray⟩ := by
  induction K with
  | nil => intro s; simp
  | cons x r ih =>
    intro s
    rw [List.foldl_cons, ih]
    simp [ByteArray.push]
theorem strI_size (K : List Int) : (strI K).size = K.length := by show (K.map _).toArray.size = _; simp
theorem conv_row {w : World} {g : Nat} {K : List Int} (h : RowAt w g K) (c : Nat) : (convert 55 9 (.slice (some ⟨g, 0, none⟩) K.length c)).run Tryd.prog w = .ok (.string (strI K)) w := by
  rw [run_convert_bytes_string w 55 9 5 _ _ _ Tryd.underlying55 Tryd.underlying5 Tryd.underlying9]
  rw [run_bytesToString w ⟨g, 0, none⟩ K.length c K]
  · rw [strI_fold]; simp [strI]
  · have := run_firstCells_some (P := Tryd.prog) w 1 K.length ⟨g, 0, none⟩ K.length c (K.map (Value.int .u8)) (by simp) (fun j u hj => by
      obtain ⟨a, ha, hc⟩ := h.holds.cells j u hj
      simp at ha; subst ha; exact hc)
    simpa [Builtin.firstCells] using this
theorem IsW.below {base B : Nat} {w w' : World} {v : Value} {L : List Int} (h : IsW base w B v L) (hb : Below w.heap.size w w') : IsW base w' B v L :=
  h.upd (Upd.ofBelow (S := fun _ => False) hb (fun k hk hk' => by omega)) (fun h => h) (fun _ _ h => h)
theorem own_ne {base : Nat} {w : World} {e : TypeId} {v : Value} {n : Nat} {xs : List Value} (h : w.ownsRow base e 1 v n xs) {R : Nat} {cs : Array Value} {t : TypeId} (hR : w.heap[R]? = some (.cells cs t (0, 0))) (hne : e ≠ t) : v.ownBlock ≠ some R := by
  intro hk
  rcases h.2 with ⟨rfl, _⟩ | ⟨g, cap, cur, rfl, _, hg, _⟩
  · simp [Value.ownBlock] at hk
  · simp [Value.ownBlock] at hk
    subst hk
    rw [hR] at hg
    simp at hg
    exact hne hg.2.symm
theorem IsW.ne_R {base B : Nat} {w : World} {v : Value} {L : List Int} (h : IsW base w B v L) {R g : Nat} {K : List Int} {t : Nat} (hR : IsR w R g K t) : B ≠ R ∧ ∀ k, v.ownBlock = some k → ¬ k = R := by
  refine ⟨?_, fun k hk e => own_ne h.own hR.block (by decide) (e ▸ hk)⟩
  intro e; subst e
  have h1 := h.block
  rw [hR.block] at h1
  simp at h1
theorem scan300 : scanN [172, 2] 0 0 = .ok 300 2 := by simp [scanN, badLast]

theorem awake_any (w : World) :
    Calls Tryd.prog 6 #[] w fun e w' => e = .returned (.bool true) ∧ Below w.heap.size w w' := by
  have hz3 : zigI (-2) = 3 := rfl
  have hz4 : zagI 3 = -2 := rfl
  have hby : ∀ x ∈ ([172, 2] : List Int), 0 ≤ x ∧ x < 256 := by intro x hx; simp at hx; omega
  go_enter Tryd.func6, Tryd.ntmps6
  go_wp2_with (first
    | (go_at_call 14; refine (newWriter_any w.heap.size _).mono ?_; rintro e w1 ⟨rfl, hW1, hw1⟩; have hb1 : Below w.heap.size w w1 := (by rw [hw1]; exact (Below.refl _ _).alloc (Nat.le_refl _) _); have hz1 := lt_of_block hW1.block; clear hw1)
    | (go_at_call 16; refine (uint_any w.heap.size w.heap.size _ [] 300 (by omega) _ hW1 (by omega) (by rw [enc300]; simp)).mono ?_; rintro e w2 ⟨rfl, v2, hW2, hU2, hM2⟩; have hb2 : Below w.heap.size w w2 := hb1.trans (hU2.below (by omega) (fun k hk hS => by rcases hS with h | h; omega; simp [Value.ownBlock] at h)); rw [enc300, List.nil_append] at hW2; have hz2 := lt_of_block hW2.block; clear hW1 hU2 hM2 hb1)
    | (go_at_call 22; refine (bytes_any w.heap.size w.heap.size _ _ _ hW5 (by simp)).mono ?_; rintro e w6 ⟨rfl, hr6, hb⟩; have hb6 := hb5.trans (hb.mono (by omega)); have hconv : (convert 55 9 (.slice (some ⟨w5.heap.size, 0, none⟩) 2 2)).run Tryd.prog w6 = .ok (.string ⟨#[172, 2]⟩) w6 := conv_row hr6 2; clear hb hW5)
    | (go_at_call 22; refine (bytes_any w.heap.size w.heap.size _ _ _ hW2 (by simp)).mono ?_; rintro e w3 ⟨rfl, hr3, hb⟩; have hb3 := hb2.trans (hb.mono (by omega)); have hW3 := hW2.below hb; have hz3' := lt_of_block hW3.block; clear hb hW2)
    | (go_at_call 21; refine (newReader_any _ 2 2 [172, 2] _ hr3.holds (by omega) hby).mono ?_; rintro e w4 ⟨R, rfl, hRl, hR4, hb⟩; have hb4 := hb3.trans (hb.mono (by omega)); have hW4 := hW3.below hb; have hz4' := lt_of_block hW4.block; clear hb hW3 hr3)
    | (go_at_call 32; refine (getUint_any R _ [172, 2] 0 _ hR4).mono ?_; rintro e w5 hP; rw [List.drop_zero, scan300] at hP; obtain ⟨rfl, hR5, hU5⟩ := hP; have hb5 := hb4.trans (hU5.below (by omega) (fun k hk hS => by omega)); have hW5 := hW4.upd hU5 (hW4.ne_R hR4).1 (hW4.ne_R hR4).2; have hz5 := lt_of_block hW5.block; clear hW4 hR4 hU5)
    | (go_at_call 33; refine (zig_any _ (by omega) (by omega) _).mono ?_; rintro e w' ⟨rfl, rfl⟩)
    | (go_at_call 34; refine (zag_any _ (by omega) (by omega) _).mono ?_; rintro e w' ⟨rfl, rfl⟩)
    )
  go_ret
  exact ⟨rfl, hb6⟩
end Go.Proofs.YtpbpkhbmopjdjaaDoor
