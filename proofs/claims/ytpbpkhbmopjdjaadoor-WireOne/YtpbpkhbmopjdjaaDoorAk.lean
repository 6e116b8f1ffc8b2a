/-
  One form: what is read, written again, is just the bytes that were taken: mathematics; Ask.read; bytesOf.
-/
import Derived.Test.YtpbpkhbmopjdjaaDoorBa
import Derived.Test.YtpbpkhbmopjdjaaDoorFl
import Derived.Test.YtpbpkhbmopjdjaaDoorBo
namespace Go.Proofs.YtpbpkhbmopjdjaaDoor
open Go.Shelf Go.RowKit
set_option maxRecDepth 100000

theorem scan_form : ∀ (l : List Int) (s v v' s' : Nat), (∀ x ∈ l, 0 ≤ x ∧ x < 256) → scanN l s v = .ok v' s' →
    ∃ u, v' = v + u * 128 ^ s ∧ (0 < s → 0 < u) ∧ l.take (s' - s) = encN u := by
  intro l
  induction l with
  | nil => intro s v v' s' _ h; unfold scanN at h; split at h <;> simp at h
  | cons x r ih =>
    intro s v v' s' hl h
    have hx := hl x (by simp)
    unfold scanN at h
    split at h
    · simp at h
    · split at h
      · split at h
        · simp at h
        · rename_i hx128 hb
          simp at h
          obtain ⟨rfl, rfl⟩ := h
          refine ⟨x.toNat, rfl, fun hs => ?_, ?_⟩
          · by_cases h0 : x = 0
            · exact absurd (by simp [badLast]; omega) hb
            · omega
          · rw [encN_lt (by omega), show s + 1 - s = 1 by omega]
            simp; omega
      · obtain ⟨u, h1, h2, h3⟩ := ih (s + 1) _ v' s' (fun y hy => hl y (by simp [hy])) h
        have hs := scan_size r (s + 1) _ v' s' h
        have hu := h2 (by omega)
        refine ⟨(x.toNat - 128) + 128 * u, ?_, fun _ => by omega, ?_⟩
        · rw [h1, Nat.pow_succ, Nat.add_mul, Nat.add_assoc]
          congr 2
          rw [Nat.mul_comm (128 ^ s) 128, ← Nat.mul_assoc, Nat.mul_comm u 128]
        · rw [encN_ge (by omega), show s' - s = (s' - (s + 1)) + 1 by omega, List.take_succ_cons, h3]
          congr 1
          · omega
          · congr 1; omega

/-- What is read by one Ask. -/
abbrev AskRes := Except (Nat × Nat) (Nat × Int × List Int × Nat)
abbrev AskRes.ok (u : Nat) (v : Int) (S : List Int) (f : Nat) : AskRes := Except.ok (u, v, S, f)
abbrev AskRes.bad (a n : Nat) : AskRes := Except.error (a, n)
theorem AskRes.each {motive : AskRes → Prop} (ok : ∀ u v S f, motive (.ok u v S f)) (bad : ∀ a n, motive (.bad a n)) (r : AskRes) : motive r := by
  rcases r with ⟨a, n⟩ | ⟨u, v, S, f⟩
  · exact bad a n
  · exact ok u v S f
def askR (K : List Int) (t : Nat) (pk : Int) (N : Int) : AskRes :=
  if pk = 0 then (match scanN (K.drop t) 0 0 with | some (some (v, s)) => .ok v 0 [] (t + s) | some none => .bad t 12 | none => .bad K.length 11)
  else if pk = 1 then (match scanN (K.drop t) 0 0 with | some (some (v, s)) => .ok 0 (zagI v) [] (t + s) | some none => .bad t 12 | none => .bad K.length 11)
  else (match textR K t N with | Except.ok (f, v) => .ok 0 0 ((K.drop f).take v) (f + v) | Except.error (a, n) => .bad a n)
/-- The bytes that a writer lays down for it. -/
def layR (pk : Int) (u : Nat) (v : Int) (S : List Int) : List Int :=
  if pk = 0 then encN u else if pk = 1 then encN (zigI v).toNat else encN S.length ++ S

theorem textR_bad (K : List Int) (t : Nat) (N : Int) (a n : Nat) (ht : t ≤ K.length) (h : textR K t N = .bad a n) : ¬ (n : Int) = 0 ∧ t ≤ a ∧ a ≤ K.length := by
  have hs := scan_size (K.drop t) 0 0
  rw [List.length_drop] at hs
  by_cases hN : N < 0
  · rw [textR, if_pos hN] at h
    simp at h; omega
  rw [textR, if_neg hN] at h
  cases hr : scanN (K.drop t) 0 0 using NumRes.each with
  | form => rw [hr] at h; simp at h; omega
  | ended => rw [hr] at h; simp at h; omega
  | ok v s =>
    obtain ⟨hs1, hs2⟩ := hs v s hr
    have he := endL_le _ ((K.drop (t + s)).take v) (Nat.le_refl _)
    rw [hr] at h
    replace h : (if N < (v : Int) then TxtRes.bad t 13 else if K.length < t + s + v then .bad K.length 11 else if endL ((K.drop (t + s)).take v) < v then .bad (t + s + endL ((K.drop (t + s)).take v)) 14 else .ok (t + s) v) = .bad a n := h
    by_cases c1 : N < (v : Int)
    · rw [if_pos c1] at h; simp at h; omega
    rw [if_neg c1] at h
    by_cases c2 : K.length < t + s + v
    · rw [if_pos c2] at h; simp at h; omega
    rw [if_neg c2] at h
    have hl : ((K.drop (t + s)).take v).length = v := by simp; omega
    by_cases c3 : endL ((K.drop (t + s)).take v) < v
    · rw [if_pos c3] at h; simp at h; omega
    · rw [if_neg c3] at h; simp at h
theorem textR_ok (K : List Int) (t : Nat) (N : Int) (f v : Nat) (h : textR K t N = .ok f v) : ∃ s, scanN (K.drop t) 0 0 = .ok v s ∧ f = t + s ∧ t + s + v ≤ K.length := by
  by_cases hN : N < 0
  · rw [textR, if_pos hN] at h; simp at h
  rw [textR, if_neg hN] at h
  cases hr : scanN (K.drop t) 0 0 using NumRes.each with
  | form => rw [hr] at h; simp at h
  | ended => rw [hr] at h; simp at h
  | ok v1 s =>
    rw [hr] at h
    replace h : (if N < (v1 : Int) then TxtRes.bad t 13 else if K.length < t + s + v1 then .bad K.length 11 else if endL ((K.drop (t + s)).take v1) < v1 then .bad (t + s + endL ((K.drop (t + s)).take v1)) 14 else .ok (t + s) v1) = .ok f v := h
    by_cases c1 : N < (v1 : Int)
    · rw [if_pos c1] at h; simp at h
    rw [if_neg c1] at h
    by_cases c2 : K.length < t + s + v1
    · rw [if_pos c2] at h; simp at h
    rw [if_neg c2] at h
    by_cases c3 : endL ((K.drop (t + s)).take v1) < v1
    · rw [if_pos c3] at h; simp at h
    · rw [if_neg c3] at h
      simp at h
      obtain ⟨rfl, rfl⟩ := h
      exact ⟨s, rfl, rfl, by omega⟩

theorem ask_bad (K : List Int) (t : Nat) (pk N : Int) (a n : Nat) (ht : t ≤ K.length) (h : askR K t pk N = .bad a n) : ¬ (n : Int) = 0 ∧ t ≤ a ∧ a ≤ K.length := by
  have key : ∀ (r : NumRes) (f : Nat → Nat → AskRes), (∀ v s, f v s ≠ .bad a n) → (match r with | some (some (v, s)) => f v s | some none => .bad t 12 | none => .bad K.length 11) = AskRes.bad a n → ¬ (n : Int) = 0 ∧ t ≤ a ∧ a ≤ K.length := by
    intro r f hf hr
    cases r using NumRes.each with
    | ok v s => exact absurd hr (hf v s)
    | form => simp at hr; omega
    | ended => simp at hr; omega
  unfold askR at h
  split at h
  · exact key _ (fun v s => .ok v 0 [] (t + s)) (fun v s => by simp) h
  split at h
  · exact key _ (fun v s => .ok 0 (zagI v) [] (t + s)) (fun v s => by simp) h
  · cases hr : textR K t N using TxtRes.each with
    | ok f v => rw [hr] at h; simp at h
    | bad a1 n1 =>
      rw [hr] at h
      simp at h
      obtain ⟨rfl, rfl⟩ := h
      exact textR_bad K t N a1 n1 ht hr

theorem ask_ok (K : List Int) (t : Nat) (pk N : Int) (u : Nat) (v : Int) (S : List Int) (f : Nat) (ht : t ≤ K.length) (hb : ∀ x ∈ K, 0 ≤ x ∧ x < 256) (h : askR K t pk N = .ok u v S f) :
    t ≤ f ∧ f ≤ K.length ∧ (K.drop t).take (f - t) = layR pk u v S ∧ u < 18446744073709551616 ∧ -9223372036854775808 ≤ v ∧ v ≤ 9223372036854775807 ∧ (∀ x ∈ S, 0 ≤ x ∧ x < 256) ∧ S.length ≤ K.length := by
  have hby : ∀ x ∈ K.drop t, 0 ≤ x ∧ x < 256 := fun x hx => hb x (List.mem_of_mem_drop hx)
  have hs := scan_size (K.drop t) 0 0
  have hv := scan_val (K.drop t) 0 0
  have hf := scan_form (K.drop t) 0 0
  rw [List.length_drop] at hs
  unfold askR at h
  unfold layR
  split at h
  · rename_i h0
    rw [if_pos h0]
    generalize scanN (K.drop t) 0 0 = r at h hs hv hf
    cases r using NumRes.each with
    | form => simp at h
    | ended => simp at h
    | ok v1 s1 =>
      simp at h
      obtain ⟨rfl, rfl, rfl, rfl⟩ := h
      obtain ⟨hs1, hs2⟩ := hs v1 s1 rfl
      have hv2 := hv v1 s1 hby (by omega) (by simp) rfl
      obtain ⟨w1, e1, _, e3⟩ := hf v1 s1 hby rfl
      simp at e1 e3
      subst e1
      exact ⟨by omega, by omega, by rw [show t + s1 - t = s1 by omega]; exact e3, hv2, by omega, by omega, by simp, by simp⟩
  split at h
  · rename_i h0 h1
    rw [if_neg h0, if_pos h1]
    generalize scanN (K.drop t) 0 0 = r at h hs hv hf
    cases r using NumRes.each with
    | form => simp at h
    | ended => simp at h
    | ok v1 s1 =>
      simp at h
      obtain ⟨rfl, rfl, rfl, rfl⟩ := h
      obtain ⟨hs1, hs2⟩ := hs v1 s1 rfl
      have hv2 := hv v1 s1 hby (by omega) (by simp) rfl
      obtain ⟨w1, e1, _, e3⟩ := hf v1 s1 hby rfl
      simp at e1 e3
      subst e1
      refine ⟨by omega, by omega, ?_, by omega, zag_lo _ (by omega) (by omega), zag_hi _ (by omega) (by omega), by simp, by simp⟩
      rw [show t + s1 - t = s1 by omega, e3, zig_zag _ (by omega)]
      simp
  · rename_i h0 h1
    rw [if_neg h0, if_neg h1]
    cases hr : textR K t N using TxtRes.each with
    | bad a1 n1 => rw [hr] at h; simp at h
    | ok f1 v1 =>
      rw [hr] at h
      simp at h
      obtain ⟨rfl, rfl, rfl, rfl⟩ := h
      obtain ⟨s1, e1, rfl, e3⟩ := textR_ok K t N f1 v1 hr
      obtain ⟨hs1, hs2⟩ := hs v1 s1 e1
      obtain ⟨w1, g1, _, g3⟩ := hf v1 s1 hby e1
      simp at g1 g3
      subst g1
      have hl : ((K.drop (t + s1)).take v1).length = v1 := by simp; omega
      refine ⟨by omega, by omega, ?_, by omega, by omega, by omega, fun x hx => hb x (List.mem_of_mem_drop (List.mem_of_mem_take hx)), by omega⟩
      rw [hl, ← g3, show t + s1 + v1 - t = s1 + v1 by omega, List.take_add, List.drop_drop]
/-- What read leaves. -/
def AskPost (w : World) (R g : Nat) (K : List Int) : AskRes → Ending → World → Prop
  | Except.ok (u, v, S, f), e, w' => e = .returned (.tuple #[.int .u64 u, .int .i64 v, .string (strI S), .nilIface]) ∧ IsR w' R g K f ∧ Upd (fun k => k = R) w w'
  | Except.error (a, n), e, w' => ∃ p, e = .returned (.tuple #[.int .u64 0, .int .i64 0, .string ByteArray.empty, .iface 103 (.pointer (some ⟨p, 0, none⟩))]) ∧ IsF w' p a n ∧ w.heap.size ≤ p ∧ Below w.heap.size w w'
theorem ret4 {fn : Func} {a b c d : Tmp} (h : fn.results = #[.tmp a, .tmp b, .tmp c, .tmp d]) (tmps : Array Value) (P : Program) (w : World) :
    (results fn tmps).run P w = .ok (.tuple #[tmps.getD a undef, tmps.getD b undef, tmps.getD c undef, tmps.getD d undef]) w := by
  simp [results, h]

theorem read_any (kind N : Int) (hk0 : -9223372036854775808 ≤ kind) (hk1 : kind ≤ 9223372036854775807) (hN : N ≤ 9223372036854775807) (R g : Nat) (K : List Int) (t : Nat) (w : World) (h : IsR w R g K t) (hT : Tabs w) :
    Calls Tryd.prog 28 #[.agg #[.int .i64 kind, .int .i64 N], .pointer (some ⟨R, 0, none⟩)] w fun e w' => AskPost w R g K (askR K t (pickI kind 3) N) e w' := by
  have P := pick_any kind 3 hk0 hk1 (by omega) (by omega)
  have hlt := lt_of_block h.block
  have hR1 : ∀ o, IsR (w.alloc o) R g K t := fun o => h.upd ((Upd.refl (fun _ => False) w).alloc o) (fun h => h) (fun h => h)
  have hT1 : ∀ o, Tabs (w.alloc o) := fun o => hT.upd ((Upd.refl (fun _ => False) w).alloc o) (fun h => h) (fun h => h)
  have hU1 : ∀ o w', Upd (fun k => k = R) (w.alloc o) w' → Upd (fun k => k = R) w w' := fun o w' hu => ((Upd.refl (fun k => k = R) w).alloc o).trans hu (fun k _ hk => hk)
  have hB1 : ∀ o w', Below (w.alloc o).heap.size (w.alloc o) w' → Below w.heap.size w w' := fun o w' hb => ((Below.refl _ _).alloc (Nat.le_refl _) o).trans (hb.mono (by simp))
  have hP1 : ∀ (o : Obj) (p : Nat), (w.alloc o).heap.size ≤ p → w.heap.size ≤ p := fun o p hp => by simp at hp; omega
  unfold askR
  by_cases c0 : pickI kind 3 = 0
  · rw [if_pos c0]
    rw [c0] at P
    have G := fun o => getUint_any R g K t _ (hR1 o)
    generalize scanN (K.drop t) 0 0 = r at G
    clear c0 hT1
    cases r using NumRes.each with
    | ok v s =>
      go_enter Tryd.func28, Tryd.ntmps28
      go_wp2_with (first
        | (go_at_call 15; refine (P _).mono ?_; rintro e w' ⟨rfl, hw⟩; obtain rfl := hw.symm)
        | (go_at_call 32; refine (G _).mono ?_; rintro e w' ⟨rfl, hR, hU⟩; have hU2 := hU1 _ _ hU))
      refine bodyPost_ret (ret4 rfl _ _ _) rfl ?_
      exact ⟨rfl, hR, hU2⟩
    | form =>
      go_enter Tryd.func28, Tryd.ntmps28
      go_wp2_with (first
        | (go_at_call 15; refine (P _).mono ?_; rintro e w' ⟨rfl, hw⟩; obtain rfl := hw.symm)
        | (go_at_call 32; refine (G _).mono ?_; rintro e w' ⟨p, rfl, hF, hp, hb⟩; have hb2 := hB1 _ _ hb; have hp2 := hP1 _ _ hp))
      refine bodyPost_ret (ret4 rfl _ _ _) rfl ?_
      exact ⟨p, rfl, hF, hp2, hb2⟩
    | ended =>
      go_enter Tryd.func28, Tryd.ntmps28
      go_wp2_with (first
        | (go_at_call 15; refine (P _).mono ?_; rintro e w' ⟨rfl, hw⟩; obtain rfl := hw.symm)
        | (go_at_call 32; refine (G _).mono ?_; rintro e w' ⟨p, rfl, hF, hp, hb⟩; have hb2 := hB1 _ _ hb; have hp2 := hP1 _ _ hp))
      refine bodyPost_ret (ret4 rfl _ _ _) rfl ?_
      exact ⟨p, rfl, hF, hp2, hb2⟩
  rw [if_neg c0]
  by_cases c1 : pickI kind 3 = 1
  · rw [if_pos c1]
    rw [c1] at P
    have G := fun o => getInt_any R g K t _ (hR1 o)
    generalize scanN (K.drop t) 0 0 = r at G
    clear c0 c1 hT1
    cases r using NumRes.each with
    | ok v s =>
      go_enter Tryd.func28, Tryd.ntmps28
      go_wp2_with (first
        | (go_at_call 15; refine (P _).mono ?_; rintro e w' ⟨rfl, hw⟩; obtain rfl := hw.symm)
        | (go_at_call 51; refine (G _).mono ?_; rintro e w' ⟨rfl, hR, hU⟩; have hU2 := hU1 _ _ hU))
      refine bodyPost_ret (ret4 rfl _ _ _) rfl ?_
      exact ⟨rfl, hR, hU2⟩
    | form =>
      go_enter Tryd.func28, Tryd.ntmps28
      go_wp2_with (first
        | (go_at_call 15; refine (P _).mono ?_; rintro e w' ⟨rfl, hw⟩; obtain rfl := hw.symm)
        | (go_at_call 51; refine (G _).mono ?_; rintro e w' ⟨p, rfl, hF, hp, hb⟩; have hb2 := hB1 _ _ hb; have hp2 := hP1 _ _ hp))
      refine bodyPost_ret (ret4 rfl _ _ _) rfl ?_
      exact ⟨p, rfl, hF, hp2, hb2⟩
    | ended =>
      go_enter Tryd.func28, Tryd.ntmps28
      go_wp2_with (first
        | (go_at_call 15; refine (P _).mono ?_; rintro e w' ⟨rfl, hw⟩; obtain rfl := hw.symm)
        | (go_at_call 51; refine (G _).mono ?_; rintro e w' ⟨p, rfl, hF, hp, hb⟩; have hb2 := hB1 _ _ hb; have hp2 := hP1 _ _ hp))
      refine bodyPost_ret (ret4 rfl _ _ _) rfl ?_
      exact ⟨p, rfl, hF, hp2, hb2⟩
  · rw [if_neg c1]
    have p0 := pick_lo kind 3 (by omega)
    have p1 := pick_hi kind 3 (by omega)
    have c2 : pickI kind 3 = 2 := by omega
    rw [c2] at P
    have G := fun o => getText_any R g K t N _ (hR1 o) (hT1 o) hN
    have hne : ¬ w.heap.size = R := by omega
    generalize textR K t N = r at G
    clear c0 c1 c2 p0 p1 hT1
    cases r using TxtRes.each with
    | ok f v =>
      go_enter Tryd.func28, Tryd.ntmps28
      go_wp2_with (first
        | (go_at_call 15; refine (P _).mono ?_; rintro e w' ⟨rfl, hw⟩; obtain rfl := hw.symm)
        | (go_at_call 52; refine (G _).mono ?_; rintro e w' ⟨rfl, hR, hU⟩; have hU2 := hU1 _ _ hU))
      refine bodyPost_ret (ret4 rfl _ _ _) rfl ?_
      exact ⟨rfl, hR, hU2⟩
    | bad a n =>
      go_enter Tryd.func28, Tryd.ntmps28
      go_wp2_with (first
        | (go_at_call 15; refine (P _).mono ?_; rintro e w' ⟨rfl, hw⟩; obtain rfl := hw.symm)
        | (go_at_call 52; refine (G _).mono ?_; rintro e w' ⟨p, rfl, hF, hp, hb⟩; have hb2 := hB1 _ _ hb; have hp2 := hP1 _ _ hp))
      refine bodyPost_ret (ret4 rfl _ _ _) rfl ?_
      exact ⟨p, rfl, hF, hp2, hb2⟩

theorem bytesOf_int (u : Nat) (i : Int) (s : ByteArray) (h0 : -9223372036854775808 ≤ i) (h1 : i ≤ 9223372036854775807) (w : World) :
    Calls Tryd.prog 30 #[.int .i64 1, .int .u64 u, .int .i64 i, .string s] w fun e w' => e = .returned (.tuple #[.string (strI (encN (zigI i).toNat)), .bool true]) ∧ Below w.heap.size w w' := by
  have hl := encN_len10 (zigI i).toNat (by have := zig_hi i h0 h1; have := zig_lo i; omega)
  have U := int_any w.heap.size w.heap.size (.slice none 0 0) [] i h0 h1
  obtain ⟨L, hL⟩ : ∃ L, encN (zigI i).toNat = L := ⟨_, rfl⟩
  rw [hL] at U hl ⊢
  rw [List.nil_append] at U
  clear hL
  go_enter Tryd.func30, Tryd.ntmps30
  go_wp2_with (first
    | (go_at_call 14; refine (newWriter_any w.heap.size _).mono ?_; rintro e w1 ⟨rfl, hW1, hw1⟩; have hb1 : Below w.heap.size w w1 := (by rw [hw1]; exact (Below.refl _ _).alloc (Nat.le_refl _) _); have hz1 := lt_of_block hW1.block; clear hw1)
    | (go_at_call 17; refine (U _ hW1 (by omega) (by simp; omega)).mono ?_; rintro e w2 ⟨rfl, v2, hW2, hU2, hM2⟩; have hb2 : Below w.heap.size w w2 := hb1.trans (hU2.below (by omega) (fun k hk hS => by rcases hS with h | h; omega; simp [Value.ownBlock] at h)); have hz2 := lt_of_block hW2.block; clear hW1 hU2 hM2 hb1)
    | (go_at_call 22; refine (bytes_any w.heap.size w.heap.size _ _ _ hW2 (by omega)).mono ?_; rintro e w6 ⟨rfl, hr6, hb⟩; have hb6 := hb2.trans (hb.mono (by omega)); have hconv := conv_row hr6 L.length; clear hb hW2))
  go_ret2
  exact ⟨rfl, hb6⟩
theorem bytesOf_text (u : Nat) (i : Int) (S : List Int) (hS : ∀ x ∈ S, 0 ≤ x ∧ x < 256) (hl : S.length ≤ 140737488351232) (w : World) :
    Calls Tryd.prog 30 #[.int .i64 2, .int .u64 u, .int .i64 i, .string (strI S)] w fun e w' => e = .returned (.tuple #[.string (strI (encN S.length ++ S)), .bool true]) ∧ Below w.heap.size w w' := by
  have hle := encN_len10 S.length (by omega)
  have hsz := strI_size S
  have U := text_any w.heap.size w.heap.size (.slice none 0 0) [] (strI S) (by unfold maxLen; omega)
  rw [bytesI_strI S hS, hsz] at U
  obtain ⟨sS, hsS⟩ : ∃ sS, strI S = sS := ⟨_, rfl⟩
  rw [hsS] at U ⊢
  obtain ⟨L, hL⟩ : ∃ L, encN S.length ++ S = L := ⟨_, rfl⟩
  rw [List.nil_append, hL] at U
  rw [hL]
  have hLl : L.length ≤ 140737488355328 := by rw [← hL]; simp; omega
  have hLn : (encN S.length).length + S.length ≤ 140737488355328 := by omega
  clear hL hsS hsz
  go_enter Tryd.func30, Tryd.ntmps30
  go_wp2_with (first
    | (go_at_call 14; refine (newWriter_any w.heap.size _).mono ?_; rintro e w1 ⟨rfl, hW1, hw1⟩; have hb1 : Below w.heap.size w w1 := (by rw [hw1]; exact (Below.refl _ _).alloc (Nat.le_refl _) _); have hz1 := lt_of_block hW1.block; clear hw1)
    | (go_at_call 18; refine (U _ hW1 (by omega) (by simp; omega)).mono ?_; rintro e w2 ⟨rfl, v2, hW2, hU2, hM2⟩; have hb2 : Below w.heap.size w w2 := hb1.trans (hU2.below (by omega) (fun k hk hS => by rcases hS with h | h; omega; simp [Value.ownBlock] at h)); have hz2 := lt_of_block hW2.block; clear hW1 hU2 hM2 hb1)
    | (go_at_call 22; refine (bytes_any w.heap.size w.heap.size _ _ _ hW2 hLl).mono ?_; rintro e w6 ⟨rfl, hr6, hb⟩; have hb6 := hb2.trans (hb.mono (by omega)); have hconv := conv_row hr6 L.length; clear hb hW2))
  go_ret2
  exact ⟨rfl, hb6⟩
theorem bytesOf_any (pk : Int) (u : Nat) (v : Int) (S : List Int) (hpk : pk = 0 ∨ pk = 1 ∨ pk = 2) (hu : u < 18446744073709551616) (h0 : -9223372036854775808 ≤ v) (h1 : v ≤ 9223372036854775807) (hS : ∀ x ∈ S, 0 ≤ x ∧ x < 256) (hl : S.length ≤ 140737488351232) (w : World) :
    Calls Tryd.prog 30 #[.int .i64 pk, .int .u64 u, .int .i64 v, .string (strI S)] w fun e w' => e = .returned (.tuple #[.string (strI (layR pk u v S)), .bool true]) ∧ Below w.heap.size w w' := by
  rcases hpk with rfl | rfl | rfl
  · exact bytesOf_uint u v (strI S) hu w
  · exact bytesOf_int u v (strI S) h0 h1 w
  · exact bytesOf_text u v S hS hl w
end Go.Proofs.YtpbpkhbmopjdjaaDoor
