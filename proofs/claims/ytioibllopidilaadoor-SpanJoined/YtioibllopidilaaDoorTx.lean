/-
  Contracts: the Reader's Text.
-/
import Derived.Test.YtioibllopidilaaDoorRt
namespace Go.Proofs.YtioibllopidilaaDoor
open Go.Shelf Go.RowKit
set_option maxRecDepth 100000

/-- What Text answers: the text's place and length; or what is wrong, and where. -/
abbrev TxtRes := Except (Nat × Nat) (Nat × Nat)
abbrev TxtRes.ok (from_ v : Nat) : TxtRes := Except.ok (from_, v)
abbrev TxtRes.bad (at_ no : Nat) : TxtRes := Except.error (at_, no)
theorem TxtRes.each {motive : TxtRes → Prop} (ok : ∀ f v, motive (.ok f v)) (bad : ∀ a n, motive (.bad a n)) (r : TxtRes) : motive r := by
  rcases r with ⟨a, n⟩ | ⟨f, v⟩
  · exact bad a n
  · exact ok f v
def textR (K : List Int) (t : Nat) (most : Int) : TxtRes :=
  if most < 0 then .bad t 1
  else match scanN (K.drop t) 0 0 with
    | some none => .bad t 12
    | none => .bad K.length 11
    | some (some (v, s)) => if most < (v : Int) then .bad t 13 else if K.length < t + s + v then .bad K.length 11
      else if endL ((K.drop (t + s)).take v) < v then .bad (t + s + endL ((K.drop (t + s)).take v)) 14 else .ok (t + s) v
def TextPost (w : World) (R g : Nat) (K : List Int) : TxtRes → Ending → World → Prop
  | Except.ok (f, v), e, w' => e = .returned (.tuple #[.string (strI ((K.drop f).take v)), .nilIface]) ∧ IsR w' R g K (f + v) ∧ Upd (fun k => k = R) w w'
  | Except.error (a, no), e, w' => ∃ p, e = .returned (.tuple #[.string ByteArray.empty, .iface 87 (.pointer (some ⟨p, 0, none⟩))]) ∧ IsF w' p a no ∧ w.heap.size ≤ p ∧ Below w.heap.size w w'

theorem text_neg (R g : Nat) (K : List Int) (t : Nat) (most : Int) (w : World) (h : IsR w R g K t) (hm : most < 0) :
    Calls Tryd.prog 83 #[.pointer (some ⟨R, 0, none⟩), .int .i64 most] w fun e w' => TextPost w R g K (.bad t 1) e w' := by
  have hc1 := h.c1
  go_enter Tryd.func83, Tryd.ntmps83
  go_wp2_with (go_at_call 89; refine (fault_any _ _ _).mono ?_; rintro e w' ⟨rfl, rfl⟩)
  go_ret2
  exact ⟨w.heap.size, rfl, heap_alloc_new _ _, Nat.le_refl _, (Below.refl _ _).alloc (Nat.le_refl _) _⟩

theorem getText_any (R g : Nat) (K : List Int) (t : Nat) (most : Int) (w : World) (h : IsR w R g K t) (hT : Tabs w) (hmx : most ≤ 9223372036854775807) :
    Calls Tryd.prog 83 #[.pointer (some ⟨R, 0, none⟩), .int .i64 most] w fun e w' => TextPost w R g K (textR K t most) e w' := by
  unfold textR
  by_cases hm : most < 0
  · rw [if_pos hm]; exact text_neg R g K t most w h hm
  rw [if_neg hm]
  have N := number_any R g K t w h
  have hs := scan_size (K.drop t) 0 0
  have hv := scan_val (K.drop t) 0 0
  have hby : ∀ x ∈ K.drop t, 0 ≤ x ∧ x < 256 := fun x hx => h.byts x (List.mem_of_mem_drop hx)
  rw [List.length_drop] at hs
  have hsm := h.small
  have hle := h.le
  generalize scanN (K.drop t) 0 0 = r at N hs hv
  cases r using NumRes.each with
  | form =>
    clear hs hv
    go_enter Tryd.func83, Tryd.ntmps83
    go_wp2_with (go_at_call 97; refine N.mono ?_; rintro e w' ⟨p, rfl, hF, hp, hb⟩)
    go_ret2
    exact ⟨p, rfl, hF, hp, hb⟩
  | ended =>
    clear hs hv
    go_enter Tryd.func83, Tryd.ntmps83
    go_wp2_with (go_at_call 97; refine N.mono ?_; rintro e w' ⟨p, rfl, hF, hp, hb⟩)
    go_ret2
    exact ⟨p, rfl, hF, hp, hb⟩
  | ok v s =>
    obtain ⟨hs1, hs2⟩ := hs v s rfl
    have hv2 := hv v s hby (by omega) (by simp) rfl
    clear hs hv hby
    show Calls _ _ _ _ fun e w' => TextPost w R g K (if most < (v : Int) then .bad t 13 else if K.length < t + s + v then .bad K.length 11 else if endL ((K.drop (t + s)).take v) < v then .bad (t + s + endL ((K.drop (t + s)).take v)) 14 else .ok (t + s) v) e w'
    have hnw : ∀ w', Below w.heap.size w w' → w'.cell? ⟨R, 1, none⟩ = some (.int .i64 t) := fun w' hb => (h.below hb).c1
    by_cases c1 : most < (v : Int)
    · rw [if_pos c1]
      go_enter Tryd.func83, Tryd.ntmps83
      go_wp2_with (first
        | (go_at_call 97; refine N.mono ?_; rintro e w' ⟨rfl, hb⟩; have hc1 := (h.below hb).c1; have hsz := hb.size)
        | (go_at_call 89; refine (fault_any _ _ _).mono ?_; rintro e w2 ⟨rfl, rfl⟩))
      go_ret2
      exact ⟨_, rfl, heap_alloc_new _ _, hsz, hb.alloc hsz _⟩
    rw [if_neg c1]
    by_cases c2 : K.length < t + s + v
    · rw [if_pos c2]
      go_enter Tryd.func83, Tryd.ntmps83
      go_wp2_with (first
        | (go_at_call 97; refine N.mono ?_; rintro e w' ⟨rfl, hb⟩; have hc1 := (h.below hb).c1; have hc0 := (h.below hb).c0; have hsz := hb.size)
        | (go_at_call 89; refine (fault_any _ _ _).mono ?_; rintro e w2 ⟨rfl, rfl⟩))
      go_ret2
      exact ⟨_, rfl, heap_alloc_new _ _, hsz, hb.alloc hsz _⟩
    rw [if_neg c2]
    obtain ⟨X, hX⟩ : ∃ X, (K.drop (t + s)).take v = X := ⟨_, rfl⟩
    rw [hX]
    have hXl : X.length = v := by rw [← hX]; simp; omega
    have hXb : ∀ x ∈ X, 0 ≤ x ∧ x < 256 := by rw [← hX]; exact fun x hx => h.byts x (List.mem_of_mem_drop (List.mem_of_mem_take hx))
    have hXc : ∀ w', Below w.heap.size w w' → ∀ j, j < v → w'.cell? ⟨g, t + s + j, none⟩ = some (.int .u8 (X.getD j 0)) := by
      intro w' hb j hj
      have := (h.below hb).row.cell (t + s + j) (by omega)
      rw [this, ← hX]
      simp only [List.getD]
      rw [List.getElem?_take_of_lt hj, List.getElem?_drop]
    have hXh : ∀ w', Below w.heap.size w w' → Holds w' (some ⟨g, t + s, none⟩) v X := by
      intro w' hb
      refine ⟨hXl, fun j u hj => ⟨_, rfl, ?_⟩⟩
      have hj' : j < v := by
        by_cases hjn : j < v
        · exact hjn
        · rw [List.getElem?_eq_none (by simp; omega)] at hj; simp at hj
      rw [Addr.add_lit, hXc w' hb j hj']
      simp at hj
      obtain ⟨a, ha, rfl⟩ := hj
      simp [List.getD, ha]
    have hEl := endL_le X.length X (Nat.le_refl _)
    have HX : Hid ((K.drop (t + s)).take v = X) := hX
    obtain ⟨E, hE⟩ : ∃ E, endL X = E := ⟨_, rfl⟩
    rw [hE, hXl] at hEl
    rw [hE]
    clear hX
    by_cases c3 : t + s < K.length
    · have RE := fun (w' : World) (hb : Below w.heap.size w w') => runesEnd_any g (t + s) v (K.length - (t + s)) X w' (hT.below hb) hXb hXl (by omega) (by omega) (hXc w' hb)
      rw [hE] at RE
      have hkt : ¬ (K.length = t + s) := by omega
      by_cases c4 : E < v
      · rw [if_pos c4]
        clear hXc hXh
        go_enter Tryd.func83, Tryd.ntmps83
        go_wp2_with (first
          | (go_at_call 97; refine N.mono ?_; rintro e w' ⟨rfl, hb⟩; have hc1 := (h.below hb).c1; have hc0 := (h.below hb).c0; have hsz := hb.size; have RE1 := RE w' hb)
          | (go_at_call 98; refine RE1.mono ?_; rintro e w2 ⟨rfl, hb2⟩; have hb3 := hb.trans (hb2.mono hsz); have hsz3 := hb3.size)
          | (go_at_call 89; refine (fault_any _ _ _).mono ?_; rintro e w3 ⟨rfl, rfl⟩))
        go_ret2
        exact ⟨_, rfl, by unfold IsF; rw [Int.natCast_add, Int.natCast_add]; exact heap_alloc_new _ _, hsz3, hb3.alloc hsz3 _⟩
      · rw [if_neg c4]
        have hEv : E = v := by omega
        subst hEv
        have FIN : ∀ w2, Below w.heap.size w w2 → (convert 42 9 (.slice (some ⟨g, t + s, none⟩) E (K.length - (t + s)))).run Tryd.prog (w2.setCell ⟨R, 1, none⟩ (.int .i64 ((t : Int) + (s : Int) + (E : Int)))) = .ok (.string (strI X)) (w2.setCell ⟨R, 1, none⟩ (.int .i64 ((t : Int) + (s : Int) + (E : Int)))) ∧ TextPost w R g K (.ok (t + s) E) (.returned (.tuple #[.string (strI X), .nilIface])) (w2.setCell ⟨R, 1, none⟩ (.int .i64 ((t : Int) + (s : Int) + (E : Int)))) := by
          intro w2 hb
          have T := (h.below hb).take (u := t + s + E) (by omega)
          rw [Int.natCast_add, Int.natCast_add] at T
          refine ⟨conv_holds ⟨hXl, fun j u hj => ?_⟩ _, by rw [HX.out], T, Upd.setCell (S := fun k => k = R) (p := ⟨R, 1, none⟩) (Upd.ofBelow hb (fun k hk hk' => by omega)) (fun _ => rfl) _⟩
          obtain ⟨a, ha, hc⟩ := (hXh w2 hb).cells j u hj
          refine ⟨a, ha, ?_⟩
          simp at ha
          subst ha
          rw [← hc]
          exact World.cell?_of_block (w := w2) (Below.heap_setCell w2 ⟨R, 1, none⟩ _ _ (by rw [Addr.add_lit]; exact h.apart))
        clear hXc hXh
        go_enter Tryd.func83, Tryd.ntmps83
        go_wp2_with (first
          | (go_at_call 97; refine N.mono ?_; rintro e w' ⟨rfl, hb⟩; have hc1 := (h.below hb).c1; have hc0 := (h.below hb).c0; have hsz := hb.size; have RE1 := RE w' hb)
          | (go_at_call 98; refine RE1.mono ?_; rintro e w2 ⟨rfl, hb2⟩; have hb3 := hb.trans (hb2.mono hsz); have hc12 := (h.below hb3).c1; have hf12 := (h.below hb3).f1; have hcv := (FIN w2 hb3).1; have FIN2 := (FIN w2 hb3).2))
        go_ret2
        exact FIN2
    · have hfk : t + s = K.length := by omega
      have hv0 : v = 0 := by omega
      subst hv0
      have hX0 : X = [] := List.eq_nil_of_length_eq_zero hXl
      have hE0 : E = 0 := by omega
      subst hE0
      rw [if_neg (by omega)]
      have RE := fun (w' : World) (hb : Below w.heap.size w w') => runesEnd_any g 0 0 0 [] w' (hT.below hb) (by simp) rfl (by omega) (by omega) (fun j hj => by omega)
      rw [endL_zero [] rune_nil] at RE
      have hk2 : (K.length : Int) = (t : Int) + (s : Int) := by omega
      have FIN : ∀ w2, Below w.heap.size w w2 → (convert 42 9 (.slice (some ⟨g, 0, none⟩) 0 0)).run Tryd.prog (w2.setCell ⟨R, 1, none⟩ (.int .i64 ((t : Int) + (s : Int)))) = .ok (.string (strI [])) (w2.setCell ⟨R, 1, none⟩ (.int .i64 ((t : Int) + (s : Int)))) ∧ TextPost w R g K (.ok (t + s) 0) (.returned (.tuple #[.string (strI []), .nilIface])) (w2.setCell ⟨R, 1, none⟩ (.int .i64 ((t : Int) + (s : Int)))) := by
        intro w2 hb
        have T := (h.below hb).take (u := t + s) (by omega)
        rw [Int.natCast_add] at T
        exact ⟨conv_holds (n := 0) (K := []) ⟨rfl, fun j u hj => by simp at hj⟩ _, by rw [HX.out, hX0], T, Upd.setCell (S := fun k => k = R) (p := ⟨R, 1, none⟩) (Upd.ofBelow hb (fun k hk hk' => by omega)) (fun _ => rfl) _⟩
      clear hXc hXh HX hX0 hXl hXb
      go_enter Tryd.func83, Tryd.ntmps83
      go_wp2_with (first
        | (go_at_call 97; refine N.mono ?_; rintro e w' ⟨rfl, hb⟩; have hc1 := (h.below hb).c1; have hc0 := (h.below hb).c0; have hsz := hb.size; have RE1 := RE w' hb)
        | (go_at_call 98; refine RE1.mono ?_; rintro e w2 ⟨rfl, hb2⟩; have hb3 := hb.trans (hb2.mono hsz); have hc12 := (h.below hb3).c1; have hf12 := (h.below hb3).f1; have hcv := (FIN w2 hb3).1; have FIN2 := (FIN w2 hb3).2))
      go_ret2
      exact FIN2
end Go.Proofs.YtioibllopidilaaDoor
