/-
  Contracts: the taker's links, attributes, events (written by gen_zo.py).
-/
import Derived.Test.YtioibllopidilaaDoorZu
import Derived.Test.YtioibllopidilaaDoorZp
import Derived.Test.YtioibllopidilaaDoorMw
namespace Go.Proofs.YtioibllopidilaaDoor
open Go.Shelf Go.RowKit
set_option maxRecDepth 100000

/-- A taker, and the decoder's tables. -/
structure Tq (w : World) (T R g : Nat) (K : List Int) (s : Option Nat) : Prop where
  tk : Tk w T R g K s
  tabs : Tabs w
  lo : ∀ k, TR T R k → k ≠ 0 ∧ k ≠ 1
theorem Tq.step {w w' : World} {T R g : Nat} {K : List Int} {s s' : Option Nat} (h : Tq w T R g K s) (hk : Tk w' T R g K s') (hu : Upd (TR T R) w w') : Tq w' T R g K s' :=
  ⟨hk, h.tabs.upd hu (fun e => (h.lo _ e).1 rfl) (fun e => (h.lo _ e).2 rfl), h.lo⟩
theorem Tq.below {w w' : World} {T R g : Nat} {K : List Int} {s : Option Nat} (h : Tq w T R g K s) (hb : Below w.heap.size w w') : Tq w' T R g K s :=
  ⟨h.tk.below hb, h.tabs.below hb, h.lo⟩
theorem Tk.upd {w w' : World} {T R g : Nat} {K : List Int} {s : Option Nat} {S : Nat → Prop} (h : Tk w T R g K s) (hu : Upd S w w') (h1 : ¬ S T) (h2 : ¬ S R) (h3 : ¬ S g) : Tk w' T R g K s := by
  cases s with
  | some t => exact ⟨(hu.block T (lt_of_block h.1) h1).trans h.1, h.2.upd hu h2 h3⟩
  | none => obtain ⟨t, q, h4, h5⟩ := h; exact ⟨t, q, (hu.block T (lt_of_block h4) h1).trans h4, h5.upd hu h2 h3⟩
/-- A block of another kind than a taker's. -/
structure Far (w : World) (T R g E : Nat) : Prop where
  t : T ≠ E
  r : R ≠ E
  g : g ≠ E
  f : E ≠ 0
  a : E ≠ 1
theorem Tq.far {w : World} {T R g : Nat} {K : List Int} {s : Option Nat} (h : Tq w T R g K s) {E : Nat} (hE : w.heap.size ≤ E) : Far w T R g E := by
  obtain ⟨v, t, h1, h2⟩ := h.tk.shape
  have l1 := lt_of_block h1
  have l2 := lt_of_block h2.block
  have l3 := lt_of_block h2.row
  have l4 := h.tabs.lt
  exact ⟨by omega, by omega, by omega, by omega, by omega⟩
theorem Tq.set {w : World} {T R g : Nat} {K : List Int} {s : Option Nat} {E i : Nat} {v : Value} {W : World} (h : Tq w T R g K s) (hf : Far W T R g E) : Tq (w.setCell ⟨E, i, none⟩ v) T R g K s := by
  have u : Upd (fun k => k = E) w (w.setCell ⟨E, i, none⟩ v) := Upd.setCell (S := fun k => k = E) (p := ⟨E, i, none⟩) (Upd.refl _ _) (fun _ => rfl) v
  exact ⟨h.tk.upd u hf.t hf.r hf.g, h.tabs.upd u (fun e => hf.f e.symm) (fun e => hf.a e.symm), h.lo⟩
theorem own_neW {base : Nat} {w : World} {e : TypeId} {size : Nat} {v : Value} {n : Nat} {xs : List Value} (h : w.ownsRow base e size v n xs) {R : Nat} {cs : Array Value} {t : TypeId} {fz : Nat × Nat} (hR : w.heap[R]? = some (.cells cs t fz)) (hne : e ≠ t) : v.ownBlock ≠ some R := by
  intro hk
  rcases h.2 with ⟨rfl, _⟩ | ⟨g, cap, cur, rfl, _, hg, _⟩
  · simp [Value.ownBlock] at hk
  · simp [Value.ownBlock] at hk
    subst hk
    rw [hR] at hg
    simp at hg
    exact hne hg.2.1.symm
theorem Tq.grown {w w' : World} {T R g : Nat} {K : List Int} {s : Option Nat} {base e size : Nat} {v : Value} {n : Nat} {xs : List Value} (h : Tq w T R g K s) (ho : w.ownsRow base e size v n xs) (hg : w.grownBy w' v.ownBlock) (h1 : e ≠ 86) (h2 : e ≠ 109) (h3 : e ≠ 5) (hb : 0 < base ∧ 1 < base) : Tq w' T R g K s := by
  have u : Upd (fun k => v.ownBlock = some k) w w' := (Upd.refl _ w).grown hg (fun k _ e => e)
  obtain ⟨v', t, h4, h5⟩ := h.tk.shape
  have lo : ∀ k, v.ownBlock = some k → base ≤ k := by
    intro k hk
    rcases ho.2 with ⟨rfl, _⟩ | ⟨g, cap, cur, rfl, hbg, _⟩
    · simp [Value.ownBlock] at hk
    · simp [Value.ownBlock] at hk; omega
  refine ⟨h.tk.upd u (own_neW ho h4 h1) (own_neW ho h5.block h2) (own_neW ho h5.row h3), h.tabs.upd u (fun e => ?_) (fun e => ?_), h.lo⟩
  · have := lo _ e; omega
  · have := lo _ e; omega
theorem own_step {w w' : World} {T R g : Nat} {K : List Int} {s : Option Nat} {base e size : Nat} {v : Value} {n : Nat} {xs : List Value} (h : Tq w T R g K s) (ho : w.ownsRow base e size v n xs) (hu : Upd (TR T R) w w') (h1 : e ≠ 86) (h2 : e ≠ 109) : w'.ownsRow base e size v n xs := by
  obtain ⟨v', t, h4, h5⟩ := h.tk.shape
  refine ownsRow_upd ho hu (fun k hk hS => ?_)
  rcases hS with rfl | rfl
  · exact own_neW ho h4 h1 hk
  · exact own_neW ho h5.block h2 hk

/-- So many takings, one behind the other. -/
def iterS {α : Type} (f : Option Nat → α × Option Nat) : Nat → Option Nat → List α × Option Nat
  | 0, s => ([], s)
  | k + 1, s => ((iterS f k s).1 ++ [(f (iterS f k s).2).1], (f (iterS f k s).2).2)
theorem iterS_len {α : Type} (f : Option Nat → α × Option Nat) (k : Nat) (s : Option Nat) : (iterS f k s).1.length = k := by
  induction k with
  | zero => rfl
  | succ k ih => simp [iterS, ih]
theorem countP_le (K : List Int) (most : Nat) (s : Option Nat) : (countP K most s).1 ≤ most := by
  unfold countP; split <;> simp <;> omega
def linksP (K : List Int) (s : Option Nat) : List Int × Option Nat := iterS (rawP K) (countP K 16 s).1 (countP K 16 s).2
theorem rawP_rng (K : List Int) (s : Option Nat) (hK : ∀ x ∈ K, 0 ≤ x ∧ x < 256) : 0 ≤ (rawP K s).1 ∧ (rawP K s).1 < 18446744073709551616 := by
  cases s with
  | none => simp [rawP]
  | some t =>
    unfold rawP
    simp only
    split
    · have := unraw_bound 8 ((K.drop t).take 8) (by simp; omega) (fun x hx => hK x (List.mem_of_mem_drop (List.mem_of_mem_take hx)))
      simpa using this
    · simp
theorem Tryd.info26 : (Tryd.prog.info? 26).map (fun i => (i.zero, i.size, i.bytes)) = some (some (.int .u64 0), 1, 8) := by kernel_rfl
theorem upd_new {S : Nat → Prop} {a b c : World} {v : Value} {base e size n : Nat} {xs : List Value} (hu : Upd S a b) (ho : b.ownsRow base e size v n xs) (hb : a.heap.size ≤ base) (hg : b.grownBy c v.ownBlock) : Upd S a c :=
  hu.grown hg (fun k hk e => by
    rcases ho.2 with ⟨rfl, _⟩ | ⟨g, cap, cur, rfl, hbg, _⟩
    · simp [Value.ownBlock] at e
    · simp [Value.ownBlock] at e; omega)

set_option maxHeartbeats 1000000 in
theorem tkLinks_any (T R g : Nat) (K : List Int) (s : Option Nat) (w : World) (h : Tq w T R g K s) :
    Calls Tryd.prog 57 #[.pointer (some ⟨T, 0, none⟩)] w fun e w' => ∃ v, e = .returned v ∧ w'.ownsRow w.heap.size 26 1 v (linksP K s).1.length (intsV .u64 (linksP K s).1) ∧ Tq w' T R g K (linksP K s).2 ∧ Upd (TR T R) w w' := by
  obtain ⟨i0, hi, hz0, hz1, hz2⟩ := info_parts Tryd.info26
  have CN := count_any T R g K s 16 45 w h.tk
  have hN := countP_le K 16 s
  have hby := h.tk.byts
  have hlo := h.tabs.lt
  unfold linksP
  obtain ⟨N, hN1⟩ : ∃ N, (countP K 16 s).1 = N := ⟨_, rfl⟩
  obtain ⟨s1, hs1⟩ : ∃ s1, (countP K 16 s).2 = s1 := ⟨_, rfl⟩
  rw [hN1] at CN hN ⊢
  rw [hs1] at CN ⊢
  have HB : Hid (∀ x ∈ K, 0 ≤ x ∧ x < 256) := hby
  clear hN1 hs1 hby
  go_enter Tryd.func57, Tryd.ntmps57
  go_wp2_with (go_at_call 80; refine CN.mono ?_; rintro e w1 ⟨rfl, k1, u1⟩; have q1 := h.step k1 u1)
  clear CN
  go_loopw [3, 6] (fun a b wr => ∃ k : Nat, b = .int .u64 k ∧ k ≤ N ∧ wr.ownsRow w.heap.size 26 1 a k (intsV .u64 (iterS (rawP K) k s1).1) ∧ Tq wr T R g K (iterS (rawP K) k s1).2 ∧ Upd (TR T R) w wr) (fun _ b _ => N - (intOf b).toNat)
  case atStart => exact ⟨0, rfl, by omega, World.ownsRow_nil _ _ _ _, q1, u1⟩
  case round =>
    obtain ⟨k, rfl, hk, ho, hq, hu⟩ := hrel
    clear q1 k1 u1
    have hsz := hu.size
    by_cases hlt : k < N
    · have RW := tkRaw_any T R g K _ wr hq.tk
      have hx := rawP_rng K (iterS (rawP K) k s1).2 HB.out
      have e1 : (iterS (rawP K) (k + 1) s1).1 = (iterS (rawP K) k s1).1 ++ [(rawP K (iterS (rawP K) k s1).2).1] := rfl
      have e2 : (iterS (rawP K) (k + 1) s1).2 = (rawP K (iterS (rawP K) k s1).2).2 := rfl
      have hll := iterS_len (rawP K) k s1
      generalize (rawP K (iterS (rawP K) k s1).2).1 = x at RW hx e1
      generalize (rawP K (iterS (rawP K) k s1).2).2 = s2 at RW e2
      have HE : Hid ((iterS (rawP K) (k + 1) s1).1 = (iterS (rawP K) k s1).1 ++ [x] ∧ (iterS (rawP K) (k + 1) s1).2 = s2) := ⟨e1, e2⟩
      clear e1 e2
      have hki : (k : Int) < (N : Int) := by omega
      go_wp2_with (first
        | (go_at_call 56; refine RW.mono ?_; rintro e w5 ⟨rfl, k5, hu5⟩; have q5 := hq.step k5 hu5; have o5 := own_step hq ho hu5 (by decide) (by decide); have hsz5 := hu5.size; have uu5 := hu.trans hu5 (fun _ _ h => h))
        | (at_builtin; refine wpList_app _ rfl (.tmp 8) (.tmp 11) 27 27 rfl w.heap.size 26 i0 (.int .u64 0) 8 Tryd.underlying27 hi hz0 hz1 hz2 rfl _ _ _ rfl (o5.alloc _) _ 1 [.int .u64 x] rfl (Src.ofSlice _ Tryd.underlying27 ⟨w5.heap.size, 0, none⟩ 1 1 _ rfl ?c1 ?c2) ?c3 ?c4 ?c5 ?_))
      case c1 =>
        intro j u hj
        match j, hj with
        | 0, hj => simp at hj; subst hj; simp [Addr.add]
      case c2 => intro u hu; simp at hu; subst hu; rfl
      case c3 => unfold maxLen; omega
      case c4 => omega
      case c5 => simp; omega
      intro v' w6 ho6 hg6 hm6
      have qa := q5.below ((Below.refl _ _).alloc (Nat.le_refl _) (.cells #[.int .u64 x] 26))
      have q6 : Tq w6 T R g K s2 := qa.grown (o5.alloc _) hg6 (by decide) (by decide) (by decide) hlo
      have u6' := upd_new (uu5.alloc (.cells #[.int .u64 x] 26)) (o5.alloc _) (Nat.le_refl _) hg6
      have ho7 : w6.ownsRow w.heap.size 26 1 v' (k + 1) (intsV .u64 (iterS (rawP K) (k + 1) s1).1) := by
        rw [HE.out.1]; simpa [intsV] using ho6
      have q7 : Tq w6 T R g K (iterS (rawP K) (k + 1) s1).2 := by rw [HE.out.2]; exact q6
      obtain ⟨ao, l, c, rfl⟩ := row_shape ho7
      clear ho6 hg6 hm6 qa q6 q5 o5 k5
      go_wp2
      go_roundw
      case rel => exact ⟨k + 1, by go_num, by omega, ho7, q7, u6'⟩
      case measure => simp [intOf]; omega
    · have hkn : k = N := by omega
      subst hkn
      obtain ⟨ao, l, c, rfl⟩ := row_shape ho
      go_wp2
      go_ret
      exact ⟨_, rfl, by rw [iterS_len]; exact ho, hq, hu⟩
end Go.Proofs.YtioibllopidilaaDoor
