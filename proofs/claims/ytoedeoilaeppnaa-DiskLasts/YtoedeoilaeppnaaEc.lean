/-
  Layer 7 (disk), DiskLasts: its disk, call by call.
-/
import Derived.Test.YtoedeoilaeppnaaEb
import Derived.Test.YtoedeoilaeppnaaDv
namespace Go.Proofs.Ytoedeoilaeppnaa
open Go.RowKit Go.Shelf Go.Maps Go.WideMaps
set_option maxRecDepth 100000

def nmF (i : Nat) : ByteArray := strI (lettI i)
theorem nmF_size (i : Nat) (h : i < 10 ^ 39) : (nmF i).size ≤ 40 := by
  have hl := digL_len 39 i i h
  have h1 : (lettI i).length = (digL i i).length + 1 := rfl
  unfold nmF
  rw [strI_size]
  omega
theorem nmF_nms (n : Nat) (hn : n ≤ 10 ^ 39) : Nms nmF n :=
  ⟨fun i j _ _ hji e => hji (lett_inj j i (by
    have : (nmF j).data = (nmF i).data := Array.toList_inj.1 e
    show nmF j = nmF i
    cases h1 : nmF j
    cases h2 : nmF i
    rw [h1, h2] at this
    exact congrArg ByteArray.mk this)), fun i hi => by have := nmF_size i (by omega); omega⟩
theorem Many.oth {nm : Nat → ByteArray} {base : Nat} {w w' : World} {d N : Nat} {K : Dk} {Fs : List (Nat × Fl)} (h : Many nm base w d N K Fs) {S : Nat → Prop} (u : Upd S w w') (hS : ∀ k, S k → k < w.heap.size → Oth w k) : Many nm base w' d N K Fs :=
  h.upd u (fun k hk e => h.disk.oth (hS k e (h.disk.lt hk).2) hk) (fun i p hp k hk e => (h.files i p hp).oth (hS k e ((h.files i p hp).bw_lt hk).2) hk)
/-- The disk of the statement. -/
structure Lz (base : Nat) (w : World) (d N : Nat) (K : Dk) (Fs : List (Nat × Fl)) (m : Nat) : Prop where
  many : Many nmF base w d N K Fs
  cr : K.cr = Fs.length
  dn : K.DN = putL (.map []) (nmL nmF 0 Fs.length)
  dl : K.DL = putL (.map []) (nmL nmF 0 m)
  ns : K.ns = crL (nmL nmF m (Fs.length - m))
  le : m ≤ Fs.length
  num : N ≤ 2 * Fs.length + m
/-- What the statement's lists keep. -/
def KeepO (w w' : World) : Prop := Upd (fun k => ¬ Oth w k) w w'
theorem KeepO.of {S : Nat → Prop} {w w' : World} (u : Upd S w w') (h : ∀ k, S k → ¬ Oth w k) : KeepO w w' := u.mono (fun k _ hk => h k hk)
theorem Lz.upd {base : Nat} {w w' : World} {d N : Nat} {K : Dk} {Fs : List (Nat × Fl)} {m : Nat} (h : Lz base w d N K Fs m) {S : Nat → Prop} (u : Upd S w w') (hS : ∀ k, S k → k < w.heap.size → Oth w k) : Lz base w' d N K Fs m :=
  ⟨h.many.oth u hS, h.cr, h.dn, h.dl, h.ns, h.le, h.num⟩
theorem Lz.below {base : Nat} {w w' : World} {d N : Nat} {K : Dk} {Fs : List (Nat × Fl)} {m : Nat} (h : Lz base w d N K Fs m) (hb : Below w.heap.size w w') : Lz base w' d N K Fs m :=
  ⟨h.many.below hb, h.cr, h.dn, h.dl, h.ns, h.le, h.num⟩
theorem Lz.create {base : Nat} {w : World} {d N : Nat} {K : Dk} {Fs : List (Nat × Fl)} {m : Nat} (h : Lz base w d N K Fs m) (hb : base ≤ w.heap.size) (hn : Fs.length < 10000000000) :
    Calls Try.prog 7 #[.pointer (some ⟨d, 0, none⟩), .string (nmF Fs.length)] w fun e w' => e = .returned (.int .i64 0) ∧ (∃ N' K' f, Lz base w' d N' K' (Fs ++ [(f, noF)]) m) ∧ Below base w w' ∧ KeepO w w' := by
  have hs := nmF_size Fs.length (by omega)
  have hh := putL_has nmF (Fs.length + 1) (nmF_nms _ (by omega)) Fs.length (by omega)
  have hno : Maps.has K.DN (.string (nmF Fs.length).data.toList) = false := by
    rw [h.dn]
    cases e : Maps.has (putL (.map []) (nmL nmF 0 Fs.length)) (.string (nmF Fs.length).data.toList) with
    | false => rfl
    | true =>
      obtain ⟨i, hi, he⟩ := hh.2.1 _ e
      exact absurd (by injection he) ((nmF_nms (Fs.length + 1) (by omega)).inj i Fs.length (by omega) (by omega) (by omega))
  have hnum := h.num
  have hle := h.le
  refine (createN base d N K (nmF Fs.length) (by omega) (lett_ok _ (by omega)) w h.many.disk hb h.many.on h.many.arm hno (by unfold maxLen; omega) (by rw [h.cr]; omega) (by rw [h.ns]; simp [crL, nmL_len]; omega)).mono ?_
  rintro e w' ⟨rfl, f, sv, O, B, U, hf⟩
  refine ⟨rfl, ⟨N + 2, { K with cr := K.cr + 1, sv := sv, ns := K.ns ++ [crV (nmF Fs.length) K.cr], DF := K.DF.put (.int .i64 (K.cr : Int)) (.lit (.int .i64 (f : Int))), DN := K.DN.put (.string (nmF Fs.length).data.toList) (.lit (.int .i64 (K.cr : Int))) }, f, ?_⟩, B, KeepO.of U (fun k hk ho => h.many.disk.oth ho hk)⟩
  have key : ∀ (j : Nat) q, (Fs ++ [(f, noF)])[j]? = some q → (j < Fs.length ∧ Fs[j]? = some q) ∨ (j = Fs.length ∧ q = (f, noF)) := fun j q hq => by
    by_cases hj : j < Fs.length
    · rw [List.getElem?_append_left hj] at hq
      exact Or.inl ⟨hj, hq⟩
    · rw [List.getElem?_append_right (by omega)] at hq
      have : j - Fs.length = 0 := by
        have := (List.getElem?_eq_some_iff.1 hq).1
        simp at this
        omega
      rw [this] at hq
      simp at hq
      exact Or.inr ⟨by omega, hq.symm⟩
  have hnew : ∀ k, BW f noF k → w.heap.size ≤ k := by
    rintro k (hk | ⟨s, hs, _⟩)
    · rcases hk with rfl | hk | hk | hk
      · exact hf
      · simp [noF, Value.ownBlock] at hk
      · simp [noF, Value.ownBlock] at hk
      · simp [noF, Value.ownBlock] at hk
    · simp [noF] at hs
  have hcr := h.cr
  refine ⟨⟨O.disk, fun i p hp => ?_, fun i j p q hp hq hij k hk hk' => ?_, fun i p hp => ?_, fun i hi => ?_, h.many.on, h.many.arm⟩, ?_, ?_, h.dl, ?_, ?_, ?_⟩
  · rcases key i p hp with ⟨_, hp⟩ | ⟨_, rfl⟩
    · exact (h.many.files i p hp).upd U (fun k hk e => h.many.disk.bw_not (h.many.files i p hp) (Or.inl hk) e) (fun s hs k e hh => h.many.disk.bw_not (h.many.files i p hp) (Or.inr ⟨s, hs, e⟩) hh)
    · exact O.file
  · rcases key i p hp with ⟨_, hp⟩ | ⟨hi, rfl⟩
    · rcases key j q hq with ⟨_, hq⟩ | ⟨_, rfl⟩
      · exact h.many.apart i j p q hp hq hij k hk hk'
      · have := hnew k hk'
        have := ((h.many.files i p hp).bw_lt hk).2
        omega
    · rcases key j q hq with ⟨_, hq⟩ | ⟨hj, rfl⟩
      · have := hnew k hk
        have := ((h.many.files j q hq).bw_lt hk').2
        omega
      · omega
  · rcases key i p hp with ⟨hi, hp⟩ | ⟨rfl, rfl⟩
    · have q := h.many.has i p hp
      have hne : (Lit.string (nmF i).data.toList) ≠ .string (nmF Fs.length).data.toList := fun e => (nmF_nms (Fs.length + 1) (by omega)).inj Fs.length i (by omega) (by omega) (by omega) (by injection e)
      refine ⟨(has_put_other hne _).trans q.has, (atKey_put_other hne _ _).trans q.at_, (atKey_put_other (fun e => ?_) _ _).trans q.fat, q.lt⟩
      rw [hcr] at e
      simp at e
      omega
    · have q := O.has
      rw [hcr] at q ⊢
      exact q
  · have := nmF_size i (by simp at hi; omega)
    exact ⟨by omega, lett_ok i (by simp at hi; omega)⟩
  · simp [hcr]
  · show K.DN.put _ _ = _
    rw [h.dn, hcr, List.length_append, List.length_singleton, nmL_succ, Nat.zero_add, putL_snoc]
  · show K.ns ++ [crV _ _] = _
    rw [h.ns, hcr, List.length_append, List.length_singleton, show Fs.length + 1 - m = (Fs.length - m) + 1 by omega, nmL_succ]
    simp [crL, show m + (Fs.length - m) = Fs.length by omega]
  · simp; omega
  · simp; omega
/-- One file turned. -/
theorem Lz.turn {base : Nat} {w w' : World} {d N : Nat} {K : Dk} {Fs : List (Nat × Fl)} {m : Nat} (h : Lz base w d N K Fs m) {i f : Nat} {F G : Fl} (hi : Fs[i]? = some (f, F)) (O : OneN base w' d N K (nmF i) i f G) (nx : Next w f F G) (u : Upd (fun k => k = d ∨ FW f F k) w w') : Lz base w' d N K (Fs.set i (f, G)) m ∧ KeepO w w' := by
  refine ⟨⟨h.many.turn hi O.disk O.file nx u, ?_, ?_, h.dl, ?_, ?_, ?_⟩, KeepO.of u (fun k hk ho => ?_)⟩
  · rw [List.length_set]; exact h.cr
  · rw [List.length_set]; exact h.dn
  · rw [List.length_set]; exact h.ns
  · rw [List.length_set]; exact h.le
  · rw [List.length_set]; exact h.num
  · rcases hk with rfl | hk
    · exact h.many.disk.oth ho (Or.inl rfl)
    · exact (h.many.files i _ hi).oth ho (Or.inl hk)
theorem Lz.append {base : Nat} {w : World} {d N : Nat} {K : Dk} {Fs : List (Nat × Fl)} {m : Nat} (h : Lz base w d N K Fs m) (hb : base ≤ w.heap.size) {i f : Nat} {F : Fl} (hi : Fs[i]? = some (f, F)) (ad : Option Addr) (n c : Nat) (X : List Int) (hH : Holds w ad n X) (hc : n ≤ c) (hbig : F.B.length + n ≤ 140737488355328) (hmany : F.S.length ≤ 1000000000000) {s : Nat} {B : List Int} (hF : FilB F B s) :
    Calls Try.prog 11 #[.pointer (some ⟨d, 0, none⟩), .string (nmF i), .slice ad n c] w fun e w' => e = .returned (.int .i64 0) ∧ (∃ G, Lz base w' d N K (Fs.set i (f, G)) m ∧ FilB G (B ++ X) s ∧ G.S.length ≤ F.S.length + 1) ∧ Below base w w' ∧ KeepO w w' := by
  have hO := h.many.one hi
  by_cases hn : 0 < n
  · refine (appendN base d N K (nmF i) i f F ad n c X w hO hb hH hn hc hbig hmany).mono ?_
    rintro e w' ⟨rfl, ⟨bv, sv, t, O, t1, t2, t3, nx⟩, B1, U⟩
    obtain ⟨L1, k1⟩ := h.turn hi O nx U
    refine ⟨rfl, ⟨_, L1, ⟨by rw [← hF.bytes], ?_, by rw [List.length_append]; have := hF.le; omega, ?_⟩, by simp⟩, B1, k1⟩
    · show F.L = _
      rw [hF.lasts, List.take_append_of_le_length hF.le]
    · intro q hq
      simp at hq
      rcases hq with hq | rfl
      · exact hF.app q hq
      · exact t1
  · obtain rfl : n = 0 := by omega
    have hX : X = [] := by have := hH.len; cases X with
      | nil => rfl
      | cons a r => simp at this
    subst hX
    refine (appendN_none base d N K (nmF i) i f F ad c w hO).mono ?_
    rintro e w' ⟨rfl, O, same, U⟩
    obtain ⟨L1, k1⟩ := h.turn hi O ⟨fun k hk => Or.inl hk, fun s hs => Or.inl hs⟩ (U.mono (fun _ _ e => Or.inl e))
    refine ⟨rfl, ⟨F, L1, by rw [List.append_nil]; exact hF, by omega⟩, ?_, k1⟩
    exact U.below hb (fun k hk e => by have := h.many.disk.low.1; omega)
theorem Lz.sync {base : Nat} {w : World} {d N : Nat} {K : Dk} {Fs : List (Nat × Fl)} {m : Nat} (h : Lz base w d N K Fs m) (hb : base ≤ w.heap.size) {i f : Nat} {F : Fl} (hi : Fs[i]? = some (f, F)) {s : Nat} {B : List Int} (hF : FilB F B s) (hbig : B.length ≤ 140737488355328) :
    Calls Try.prog 9 #[.pointer (some ⟨d, 0, none⟩), .string (nmF i)] w fun e w' => e = .returned (.int .i64 0) ∧ (∃ G, Lz base w' d N K (Fs.set i (f, G)) m ∧ FilB G B B.length ∧ G.S.length ≤ F.S.length + 1) ∧ Below base w w' ∧ KeepO w w' := by
  have hO := h.many.one hi
  refine (syncN base d N K (nmF i) i f F w hO hb (by rw [hF.units hO.file]; exact hbig)).mono ?_
  rintro e w' ⟨rfl, ⟨lv, O, nx⟩, B1, U⟩
  obtain ⟨L1, k1⟩ := h.turn hi O nx U
  exact ⟨rfl, ⟨_, L1, ⟨hF.bytes, by rw [List.take_of_length_le (Nat.le_refl _)]; exact hF.bytes, Nat.le_refl _, by simp⟩, by simp⟩, B1, k1⟩
theorem Lz.names {base : Nat} {w : World} {d N : Nat} {K : Dk} {Fs : List (Nat × Fl)} {m : Nat} (h : Lz base w d N K Fs m) (hb : base ≤ w.heap.size) (hn : Fs.length < 10000000000) :
    Calls Try.prog 10 #[.pointer (some ⟨d, 0, none⟩)] w fun e w' => e = .returned (.int .i64 0) ∧ (∃ N' K', Lz base w' d N' K' Fs Fs.length) ∧ Below base w w' ∧ KeepO w w' := by
  have hnum := h.num
  have hle := h.le
  refine (syncNames_any base d N K (nmL nmF m (Fs.length - m)) w h.many.disk h.many.on h.many.arm h.ns (fun p hp => ?_) (by rw [nmL_len]; unfold maxLen; omega) (by rw [nmL_len]; omega)).mono ?_
  · unfold nmL at hp
    simp only [List.mem_map, List.mem_range'_1] at hp
    obtain ⟨i, hi, rfl⟩ := hp
    have := nmF_size i (by omega)
    exact ⟨by unfold maxLen; simp only; omega, by simp only; omega⟩
  rintro e w' ⟨rfl, D, U⟩
  rw [nmL_len] at D
  refine ⟨rfl, ⟨_, _, ⟨⟨D, fun i p hp => ?_, h.many.apart, fun i p hp => ⟨(h.many.has i p hp).has, (h.many.has i p hp).at_, (h.many.has i p hp).fat, (h.many.has i p hp).lt⟩, h.many.ok, h.many.on, h.many.arm⟩, h.cr, h.dn, ?_, ?_, Nat.le_refl _, by omega⟩⟩, ?_, KeepO.of U (fun k hk ho => h.many.disk.oth ho hk)⟩
  · exact (h.many.files i p hp).upd U (fun k hk e => h.many.disk.bw_not (h.many.files i p hp) (Or.inl hk) e) (fun s hs k e hh => h.many.disk.bw_not (h.many.files i p hp) (Or.inr ⟨s, hs, e⟩) hh)
  · show putL K.DL _ = _
    rw [h.dl, ← putL_app]
    have := nmL_add nmF 0 m (Fs.length - m)
    rw [Nat.zero_add, show m + (Fs.length - m) = Fs.length by omega] at this
    rw [← this]
  · simp [crL, nmL]
  · exact U.below hb (fun k hk e => by have := (h.many.disk.lt e).1; omega)
end Go.Proofs.Ytoedeoilaeppnaa
