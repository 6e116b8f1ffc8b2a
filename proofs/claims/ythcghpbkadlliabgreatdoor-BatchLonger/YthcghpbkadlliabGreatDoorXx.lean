/-
  Xx.
-/
import Derived.Test.YthcghpbkadlliabGreatDoorMa21
import Derived.Test.YthcghpbkadlliabGreatDoorMa19
namespace Go.Proofs.YthcghpbkadlliabGreatDoor
open Go.Shelf Go.RowKit
set_option maxRecDepth 100000

/-- Where the taker's parts lie, and what its tables hold. -/
structure Dc where
  n0 : Nat
  T : Nat
  R : Nat
  g : Nat
  H1 : Nat
  H2 : Nat
  B1 : Nat
  B2 : Nat
  m1 : Value
  m2 : Value
  a1 : Option Addr
  p1 : Nat
  a2 : Option Addr
  p2 : Nat
  q1 : Option Addr
  z1 : Nat
  q2 : Option Addr
  z2 : Nat
  texts : List ByteArray
  tpl : List Nat
  traces : List (Int × Int)
  rpl : List Nat
def DSet (c : Dc) (k : Nat) : Prop := k = c.T ∨ k = c.R ∨ k = c.H1 ∨ k = c.H2
def natsV (l : List Nat) : List Value := l.map fun n : Nat => Value.int .i64 (n : Int)
/-- What stays while the spans are taken. -/
structure Dfx (c : Dc) (w0 : World) : Prop where
  tT : ∃ cs, w0.heap[c.T]? = some (.cells cs 80 (0, 0))
  tR : ∃ cs, w0.heap[c.R]? = some (.cells cs 130 (0, 0))
  tH1 : ∃ cs, w0.heap[c.H1]? = some (.cells cs 135 (0, 0))
  tH2 : ∃ cs, w0.heap[c.H2]? = some (.cells cs 144 (0, 0))
  b1 : w0.heap[c.B1]? = some (.cells #[.slice c.a1 c.texts.length c.p1, c.m1] 112 (0, 0))
  o1 : w0.ownsRow 0 9 1 (.slice c.a1 c.texts.length c.p1) c.texts.length (strsV c.texts)
  b2 : w0.heap[c.B2]? = some (.cells #[.slice c.a2 c.traces.length c.p2, c.m2] 116 (0, 0))
  o2 : w0.ownsRow 0 33 2 (.slice c.a2 c.traces.length c.p2) c.traces.length (trsV c.traces)
  e1 : w0.ownsRow 0 3 1 (.slice c.q1 c.tpl.length c.z1) c.tpl.length (natsV c.tpl)
  e2 : w0.ownsRow 0 3 1 (.slice c.q2 c.rpl.length c.z2) c.rpl.length (natsV c.rpl)
  l1 : c.tpl.length = c.texts.length
  l2 : c.rpl.length = c.traces.length
  tabs : Tabs w0
  lo : ∀ k, DSet c k → c.n0 ≤ k
  n0 : 1 < c.n0 ∧ 2 < c.n0
theorem Dfx.off {c : Dc} {w0 : World} (h : Dfx c w0) {k : Nat} {cs : Array Value} {t : TypeId} {fz : Nat × Nat} (hk : w0.heap[k]? = some (.cells cs t fz)) (h1 : t ≠ 80) (h2 : t ≠ 130) (h3 : t ≠ 135) (h4 : t ≠ 144) : ¬ DSet c k := by
  obtain ⟨c1, t1⟩ := h.tT
  obtain ⟨c2, t2⟩ := h.tR
  obtain ⟨c3, t3⟩ := h.tH1
  obtain ⟨c4, t4⟩ := h.tH2
  rintro (e | e | e | e)
  · exact ne_of_types hk t1 h1 e
  · exact ne_of_types hk t2 h2 e
  · exact ne_of_types hk t3 h3 e
  · exact ne_of_types hk t4 h4 e
theorem Dfx.own {c : Dc} {w0 w : World} (h : Dfx c w0) (hu : Upd (DSet c) w0 w) {b : Nat} {e : TypeId} {size : Nat} {v : Value} {n : Nat} {xs : List Value} (ho : w0.ownsRow b e size v n xs) (h1 : e ≠ 80) (h2 : e ≠ 130) (h3 : e ≠ 135) (h4 : e ≠ 144) : w.ownsRow b e size v n xs :=
  ownsRow_upd ho hu (fun k hk => by obtain ⟨_, cs, fz, hb⟩ := own_block ho hk; exact h.off hb h1 h2 h3 h4)
/-- Where the taker stands. -/
structure DS (c : Dc) (w0 w : World) (K : List Int) (s : Dst) : Prop where
  tb : w.heap[c.T]? = some (.cells #[.pointer (some ⟨c.R, 0, none⟩), .pointer (some ⟨c.H1, 0, none⟩), .pointer (some ⟨c.H2, 0, none⟩), .int .i64 s.start] 80 (0, 0))
  isR : IsR w c.R c.g K s.pos
  h1 : w.heap[c.H1]? = some (.cells #[.pointer (some ⟨c.B1, 0, none⟩), .slice c.q1 c.tpl.length c.z1, .int .u64 s.tsp] 135 (0, 0))
  h2 : w.heap[c.H2]? = some (.cells #[.pointer (some ⟨c.B2, 0, none⟩), .slice c.q2 c.rpl.length c.z2, .int .u64 s.rsp] 144 (0, 0))
  upd : Upd (DSet c) w0 w
  t1 : s.texts = c.texts
  t2 : s.tpl = c.tpl
  r1 : s.traces = c.traces
  r2 : s.rpl = c.rpl
  inv : Inv K 0 s
  fx : Dfx c w0
  gl : c.g < w0.heap.size
theorem DS.tk {c : Dc} {w0 w : World} {K : List Int} {s : Dst} (h : DS c w0 w K s) : TkB w c.T c.R := ⟨_, _, _, h.tb⟩
theorem DS.tabs {c : Dc} {w0 w : World} {K : List Int} {s : Dst} (h : DS c w0 w K s) : Tabs w :=
  h.fx.tabs.upd h.upd (fun e => by have := h.fx.lo _ e; have := h.fx.n0.1; omega) (fun e => by have := h.fx.lo _ e; have := h.fx.n0.2; omega)
/-- Something else changes, or is made. -/
theorem DS.step {c : Dc} {w0 w w' : World} {K : List Int} {s : Dst} (h : DS c w0 w K s) {S : Nat → Prop} (hu : Upd S w w') (h1 : ∀ k, S k → w0.heap.size ≤ k) : DS c w0 w' K s := by
  have big : ∀ k, k < w0.heap.size → ¬ S k := fun k hk hS => by have := h1 k hS; omega
  obtain ⟨c1, t1⟩ := h.fx.tT
  obtain ⟨c2, t2⟩ := h.fx.tR
  obtain ⟨c3, t3⟩ := h.fx.tH1
  obtain ⟨c4, t4⟩ := h.fx.tH2
  have hz := h.upd.size
  refine ⟨(hu.block _ (lt_of_block h.tb) (big _ (lt_of_block t1))).trans h.tb, ?_, (hu.block _ (lt_of_block h.h1) (big _ (lt_of_block t3))).trans h.h1, (hu.block _ (lt_of_block h.h2) (big _ (lt_of_block t4))).trans h.h2, h.upd.trans hu (fun k hk hS => by have := h1 k hS; omega), h.t1, h.t2, h.r1, h.r2, h.inv, h.fx, h.gl⟩
  exact h.isR.upd hu (big _ (lt_of_block t2)) (big _ h.gl)
theorem DS.below {c : Dc} {w0 w w' : World} {K : List Int} {s : Dst} (h : DS c w0 w K s) (hb : Below w.heap.size w w') : DS c w0 w' K s :=
  h.step (S := fun _ => False) (Upd.ofBelow hb (fun k hk hk' => by omega)) (fun _ h => h.elim)
/-- The Reader has moved. -/
theorem DS.move {c : Dc} {w0 w w' : World} {K : List Int} {s : Dst} {t : Nat} (h : DS c w0 w K s) (hR : IsR w' c.R c.g K t) (hu : Upd (fun k => k = c.R) w w') (hi : Inv K 0 (s.to t)) : DS c w0 w' K (s.to t) ∧ Upd (DSet c) w w' := by
  have n1 : c.T ≠ c.R := h.tk.ne h.isR
  have n2 : c.H1 ≠ c.R := ne_of_types h.h1 h.isR.block (by decide)
  have n3 : c.H2 ≠ c.R := ne_of_types h.h2 h.isR.block (by decide)
  have hu' : Upd (DSet c) w w' := hu.mono (fun k _ e => Or.inr (Or.inl e))
  exact ⟨⟨(hu.block _ (lt_of_block h.tb) n1).trans h.tb, hR, (hu.block _ (lt_of_block h.h1) n2).trans h.h1, (hu.block _ (lt_of_block h.h2) n3).trans h.h2, h.upd.trans hu' (fun _ _ h => h), h.t1, h.t2, h.r1, h.r2, hi, h.fx, h.gl⟩, hu'⟩
def PostD {α : Type} (c : Dc) (w0 : World) (K : List Int) (w : World) (enc : α → Value) (r : Res (α × Dst)) (e : Ending) (w' : World) : Prop := match r with
  | .ok (v, s') => e = .returned (enc v) ∧ DS c w0 w' K s' ∧ Upd (DSet c) w w'
  | .error (a, n) => Ups w' a n e ∧ Upd (DSet c) w w'
theorem toD {α : Type} {c : Dc} {w0 w : World} {K : List Int} {s : Dst} {enc : α → Value} {r : Res (α × Dst)} {e : Ending} {w' : World} (h : DS c w0 w K s) (hp : ∀ v s', r = .ok (v, s') → s' = s.to s'.pos ∧ Inv K 0 s') (hr : PostR c.R c.g K w enc r e w') : PostD c w0 K w enc r e w' := by
  rcases r with ⟨a, n⟩ | ⟨v, s'⟩
  · exact ⟨hr.1, hr.2.mono (fun k _ e => Or.inr (Or.inl e))⟩
  · obtain ⟨e1, e2, e3⟩ := hr
    obtain ⟨q1, q2⟩ := hp v s' rfl
    have := h.move e2 e3 (q1 ▸ q2)
    rw [← q1] at this
    exact ⟨e1, this.1, this.2⟩
theorem to_uint {K : List Int} {s : Dst} {v : Nat} {s' : Dst} (h : uintD K s = .ok (v, s')) : s' = s.to s'.pos := by
  unfold uintD at h
  split at h
  · simp at h; rw [← h.2]; rfl
  · simp at h
  · simp at h
theorem to_bytes {K : List Int} {s : Dst} {n : Nat} {v : List Int} {s' : Dst} (h : bytesD n K s = .ok (v, s')) : s' = s.to s'.pos := by
  unfold bytesD at h
  split at h
  · simp at h; rw [← h.2]; rfl
  · simp at h
theorem to_raw8 {K : List Int} {s : Dst} {v : Int} {s' : Dst} (h : raw8D K s = .ok (v, s')) : s' = s.to s'.pos := by
  obtain ⟨u, s1, h1, h2⟩ := step_ok h; simp at h2; rw [← h2.2]; exact to_bytes h1
theorem to_small {K : List Int} {s : Dst} {v : Int} {s' : Dst} (h : smallD K s = .ok (v, s')) : s' = s.to s'.pos := by
  obtain ⟨u, s1, h1, h2⟩ := step_ok h; simp at h2; rw [← h2.2]; exact to_bytes h1
theorem to_atMost {K : List Int} {s : Dst} {m v : Int} {s' : Dst} (h : atMostD m K s = .ok (v, s')) : s' = s.to s'.pos := by
  obtain ⟨u, s1, h1, h2⟩ := step_ok h
  split at h2
  · simp at h2
  · simp at h2; rw [← h2.2]; exact to_small h1
theorem to_count {K : List Int} {s : Dst} {m no v : Nat} {s' : Dst} (h : countD m no K s = .ok (v, s')) : s' = s.to s'.pos := by
  obtain ⟨u, s1, h1, h2⟩ := step_ok h
  split at h2
  · simp at h2
  · simp at h2; rw [← h2.2]; exact to_uint h1
theorem to_above {K : List Int} {s : Dst} {a m v : Int} {s' : Dst} (h : aboveD a m K s = .ok (v, s')) : s' = s.to s'.pos := by
  obtain ⟨u, s1, h1, h2⟩ := step_ok h
  split at h2
  · simp at h2
  · simp at h2; rw [← h2.2]; exact to_uint h1
theorem dCount {c : Dc} {w0 w : World} {K : List Int} {s : Dst} (h : DS c w0 w K s) (m no : Nat) : Calls Tryz.prog 68 #[.pointer (some ⟨c.T, 0, none⟩), .int .u64 m, .int .i64 no] w fun e w' => PostD c w0 K w (fun v : Nat => .int .u64 v) (countD m no K s) e w' :=
  (bCount_any c.T c.R c.g K s m no w h.tk h.isR h.inv.byts).mono fun _ _ hr => toD h (fun v s' e => ⟨to_count e, (sound_count m no K 0 s v s' h.inv e).1⟩) hr
theorem dRaw8 {c : Dc} {w0 w : World} {K : List Int} {s : Dst} (h : DS c w0 w K s) : Calls Tryz.prog 35 #[.pointer (some ⟨c.T, 0, none⟩)] w fun e w' => PostD c w0 K w (fun v => .int .u64 v) (raw8D K s) e w' :=
  (bRaw8_any c.T c.R c.g K s w h.tk h.isR h.inv.byts).mono fun _ _ hr => toD h (fun v s' e => ⟨to_raw8 e, (sound_raw8 K 0 s v s' h.inv e).1⟩) hr
theorem dSmall {c : Dc} {w0 w : World} {K : List Int} {s : Dst} (h : DS c w0 w K s) : Calls Tryz.prog 87 #[.pointer (some ⟨c.T, 0, none⟩)] w fun e w' => PostD c w0 K w (fun v => .int .u8 v) (smallD K s) e w' :=
  (bSmall_any c.T c.R c.g K s w h.tk h.isR).mono fun _ _ hr => toD h (fun v s' e => ⟨to_small e, (sound_small K 0 s v s' h.inv e).1⟩) hr
theorem dAtMost {c : Dc} {w0 w : World} {K : List Int} {s : Dst} (h : DS c w0 w K s) (m : Int) : Calls Tryz.prog 111 #[.pointer (some ⟨c.T, 0, none⟩), .int .u8 m] w fun e w' => PostD c w0 K w (fun v => .int .u8 v) (atMostD m K s) e w' :=
  (bAtMost_any c.T c.R c.g K s m w h.tk h.isR).mono fun _ _ hr => toD h (fun v s' e => ⟨to_atMost e, (sound_atMost m K 0 s v s' h.inv e).1⟩) hr
theorem dAbove {c : Dc} {w0 w : World} {K : List Int} {s : Dst} (h : DS c w0 w K s) (a m : Int) (h0 : 0 ≤ a) (h1 : a ≤ m) (h2 : m ≤ 18446744073709551615) : Calls Tryz.prog 105 #[.pointer (some ⟨c.T, 0, none⟩), .int .u64 a, .int .u64 m] w fun e w' => PostD c w0 K w (fun v => .int .u64 v) (aboveD a m K s) e w' :=
  (bAbove_any c.T c.R c.g K s a m w h.tk h.isR h.inv.byts h0 h1 h2).mono fun _ _ hr => toD h (fun v s' e => ⟨to_above e, (sound_above a m K 0 s v s' h.inv e).1⟩) hr
theorem dLater {c : Dc} {w0 w : World} {K : List Int} {s : Dst} (h : DS c w0 w K s) (a : Int) (h0 : 0 ≤ a) (h1 : a ≤ 9223372036854775807) : Calls Tryz.prog 89 #[.pointer (some ⟨c.T, 0, none⟩), .int .i64 a] w fun e w' => PostD c w0 K w (fun v => .int .i64 v) (laterD a K s) e w' :=
  (bLater_pos c.T c.R c.g K s a w h.tk h.isR h.inv.byts h0 h1).mono fun _ _ hr => toD h (fun v s' e => ⟨to_above e, (sound_later a K 0 s v s' h.inv e).1⟩) hr
/-- One of a table has been spoken of. -/
theorem DS.spoke1 {c : Dc} {w0 w : World} {K : List Int} {s : Dst} (h : DS c w0 w K s) (hl : s.tsp < s.texts.length) : DS c w0 (w.setCell ⟨c.H1, 2, none⟩ (.int .u64 ((s.tsp : Int) + 1))) K { s with tsp := s.tsp + 1 } ∧ Upd (DSet c) w (w.setCell ⟨c.H1, 2, none⟩ (.int .u64 ((s.tsp : Int) + 1))) := by
  have hu := upd_one w c.H1 2 (.int .u64 ((s.tsp : Int) + 1))
  have n1 : c.T ≠ c.H1 := ne_of_types h.tb h.h1 (by decide)
  have n2 : c.R ≠ c.H1 := ne_of_types h.isR.block h.h1 (by decide)
  have n3 : c.H2 ≠ c.H1 := ne_of_types h.h2 h.h1 (by decide)
  have n4 : c.g ≠ c.H1 := ne_of_types h.isR.row h.h1 (by decide)
  have hu' : Upd (DSet c) w (w.setCell ⟨c.H1, 2, none⟩ (.int .u64 ((s.tsp : Int) + 1))) := hu.mono (fun k _ e => Or.inr (Or.inr (Or.inl e)))
  refine ⟨⟨(hu.block _ (lt_of_block h.tb) n1).trans h.tb, h.isR.upd hu n2 n4, ?_, (hu.block _ (lt_of_block h.h2) n3).trans h.h2, h.upd.trans hu' (fun _ _ h => h), h.t1, h.t2, h.r1, h.r2, ⟨h.inv.byts, hl, h.inv.t2, h.inv.t3, h.inv.r1, h.inv.r2, h.inv.r3, h.inv.b1, h.inv.b2, h.inv.z1, h.inv.z2⟩, h.fx, h.gl⟩, hu'⟩
  rw [set_block h.h1 2]; rfl
theorem DS.spoke2 {c : Dc} {w0 w : World} {K : List Int} {s : Dst} (h : DS c w0 w K s) (hl : s.rsp < s.traces.length) : DS c w0 (w.setCell ⟨c.H2, 2, none⟩ (.int .u64 ((s.rsp : Int) + 1))) K { s with rsp := s.rsp + 1 } ∧ Upd (DSet c) w (w.setCell ⟨c.H2, 2, none⟩ (.int .u64 ((s.rsp : Int) + 1))) := by
  have hu := upd_one w c.H2 2 (.int .u64 ((s.rsp : Int) + 1))
  have n1 : c.T ≠ c.H2 := ne_of_types h.tb h.h2 (by decide)
  have n2 : c.R ≠ c.H2 := ne_of_types h.isR.block h.h2 (by decide)
  have n3 : c.H1 ≠ c.H2 := ne_of_types h.h1 h.h2 (by decide)
  have n4 : c.g ≠ c.H2 := ne_of_types h.isR.row h.h2 (by decide)
  have hu' : Upd (DSet c) w (w.setCell ⟨c.H2, 2, none⟩ (.int .u64 ((s.rsp : Int) + 1))) := hu.mono (fun k _ e => Or.inr (Or.inr (Or.inr e)))
  refine ⟨⟨(hu.block _ (lt_of_block h.tb) n1).trans h.tb, h.isR.upd hu n2 n4, (hu.block _ (lt_of_block h.h1) n3).trans h.h1, ?_, h.upd.trans hu' (fun _ _ h => h), h.t1, h.t2, h.r1, h.r2, ⟨h.inv.byts, h.inv.t1, h.inv.t2, h.inv.t3, hl, h.inv.r2, h.inv.r3, h.inv.b1, h.inv.b2, h.inv.z1, h.inv.z2⟩, h.fx, h.gl⟩, hu'⟩
  rw [set_block h.h2 2]; rfl
set_option maxHeartbeats 2000000 in
theorem dNextS (c : Dc) (w0 w : World) (K : List Int) (s : Dst) (h0 : DS c w0 w K s) :
    Calls Tryz.prog 86 #[.pointer (some ⟨c.H1, 0, none⟩), .pointer (some ⟨c.T, 0, none⟩)] w fun e w' => PostD c w0 K w (fun v => .string v) (nextT K s) e w' := by
  have h := h0
  have hD := h
  have d0 := h.tk.c0
  have A := at_any c.R c.g K s.pos _ h.isR
  have N := getUint_any c.R c.g K s.pos _ h.isR
  have hv := scan_val (K.drop s.pos) 0 0
  have hsz := scan_size (K.drop s.pos) 0 0
  have hby : ∀ x ∈ K.drop s.pos, 0 ≤ x ∧ x < 256 := fun x hx => h.inv.byts x (List.mem_of_mem_drop hx)
  have hps := h.inv.b2
  have hsp := h.inv.t1
  have hn64 := h.inv.t3
  have e1 := h.t1
  have TB : ∀ {w'} {s'} , DS c w0 w' K s' → w'.cell? ⟨c.B1, 0, none⟩ = some (.slice c.a1 c.texts.length c.p1) := fun hd => blk_cell ((hd.upd.block _ (lt_of_block hd.fx.b1) (hd.fx.off hd.fx.b1 (by decide) (by decide) (by decide) (by decide))).trans hd.fx.b1) 0 rfl
  unfold nextT stepD uintD
  generalize scanN (K.drop s.pos) 0 0 = r at N hv hsz ⊢
  cases r using NumRes.each with
  | ok v n =>
    have hv64 := hv v n hby (by omega) (fun _ => by simp) rfl
    have hs2 := hsz v n rfl
    simp only [List.length_drop] at hs2
    clear hv hsz
    simp only
    unfold UintPost at N
    have MV : ∀ w2, IsR w2 c.R c.g K (s.pos + n) → Upd (fun k => k = c.R) _ w2 → DS c w0 w2 K (s.to (s.pos + n)) ∧ Upd (DSet c) _ w2 := fun w2 h2 u2 => h.move h2 u2 (h.inv.to (by omega) (by omega))
    have hlen : s.texts.length = c.texts.length := by rw [e1]
    have ROW := fun w' s' (hd : DS c w0 w' K s') => hd.fx.own hd.upd hd.fx.o1 (by decide) (by decide) (by decide) (by decide)
    obtain ⟨L, hL⟩ : ∃ L, c.texts.length = L := ⟨_, rfl⟩
    have HLL : Hid (c.texts.length = L) := hL
    have hLI : (L : Int) ≤ 18446744073709551615 := by omega
    by_cases ht1 : s.texts.length ≤ v
    · rw [if_pos ht1]
      unfold PostD
      simp only
      have hi1 : (L : Int) ≤ (v : Int) := by omega
      rw [hL] at TB
      clear hby hlen hD h h0 ROW hps
      go_enter Tryz.func86, Tryz.ntmps86
      go_wp2_with (first
        | (go_at_call 64; refine A.mono ?_; clear A; rintro e w1 ⟨rfl, hw⟩; obtain rfl := hw.symm)
        | (go_at_call 63; refine N.mono ?_; clear N; rintro e w2 ⟨rfl, h2, u2⟩; obtain ⟨hd, ud⟩ := MV w2 h2 u2; have g0 := blk_cell hd.h1 0 rfl; have g2 := blk_cell hd.h1 2 rfl; have g1 := TB hd; clear MV)
        | (go_at_call 62; refine (mustU_ok _ _).mono ?_; rintro e w3 ⟨rfl, hw3⟩; obtain rfl := hw3.symm)
        | (go_at_call 18; refine (giveUp_any _ _ _).mono ?_; rintro e w4 ⟨⟨q4, p4, rfl, G4⟩, b4⟩))
      exact ⟨rfl, ⟨q4, p4, rfl, G4⟩, (ud.trans (S' := fun _ => False) (Upd.ofBelow b4 (fun k hk hk' => by omega)) (fun _ _ h => h.elim))⟩
    rw [if_neg ht1]
    have hi1 : (v : Int) < (L : Int) := by omega
    have hsi : ∀ (w' : World), (s.to (s.pos + n)).tsp = s.tsp := fun _ => rfl
    by_cases ht2 : s.tsp < v
    · rw [if_pos ht2]
      unfold PostD
      simp only
      have hi2 : (s.tsp : Int) < (v : Int) := by omega
      rw [hL] at TB
      clear hby hlen hD h h0 ROW hps
      go_enter Tryz.func86, Tryz.ntmps86
      go_wp2_with (first
        | (go_at_call 64; refine A.mono ?_; clear A; rintro e w1 ⟨rfl, hw⟩; obtain rfl := hw.symm)
        | (go_at_call 63; refine N.mono ?_; clear N; rintro e w2 ⟨rfl, h2, u2⟩; obtain ⟨hd, ud⟩ := MV w2 h2 u2; have g0 := blk_cell hd.h1 0 rfl; have g2 : w2.cell? ⟨c.H1, 2, none⟩ = some (.int .u64 s.tsp) := blk_cell hd.h1 2 rfl; have g1 := TB hd; clear MV)
        | (go_at_call 62; refine (mustU_ok _ _).mono ?_; rintro e w3 ⟨rfl, hw3⟩; obtain rfl := hw3.symm)
        | (go_at_call 18; refine (giveUp_any _ _ _).mono ?_; rintro e w4 ⟨⟨q4, p4, rfl, G4⟩, b4⟩))
      exact ⟨rfl, ⟨q4, p4, rfl, G4⟩, (ud.trans (S' := fun _ => False) (Upd.ofBelow b4 (fun k hk hk' => by omega)) (fun _ _ h => h.elim))⟩
    rw [if_neg ht2]
    have hi2 : ¬ (s.tsp : Int) < (v : Int) := by omega
    have hvl : v < c.texts.length := by omega
    have hget : s.texts.getD v ByteArray.empty = c.texts[v] := by rw [e1, List.getD_eq_getElem?_getD, List.getElem?_eq_getElem hvl]; rfl
    rw [hget]
    obtain ⟨x, hx⟩ : ∃ x, c.texts[v] = x := ⟨_, rfl⟩
    have CX : ∀ {w'} {s'}, DS c w0 w' K s' → ∃ b o, c.a1 = some ⟨b, o, none⟩ ∧ w'.cell? ⟨b, o + v, none⟩ = some (.string x) := fun hd => by
      obtain ⟨b, o, e2, e3⟩ := (holdsV_own (ROW _ _ hd)).plain (str_get hvl)
      exact ⟨b, o, e2, by rw [← hx]; exact e3 v _ (str_get hvl)⟩
    obtain ⟨ab, ao, ha1, _⟩ := CX h
    have CX : ∀ {w'} {s'}, DS c w0 w' K s' → w'.cell? ⟨ab, ao + v, none⟩ = some (.string x) := fun hd => by
      obtain ⟨b, o, e2, e3⟩ := CX hd
      rw [ha1] at e2; simp at e2; obtain ⟨rfl, rfl⟩ := e2; exact e3
    rw [ha1] at TB
    clear ROW
    rw [hx]
    rw [hL] at TB
    by_cases ht3 : v = s.tsp
    · rw [if_pos ht3]
      subst ht3
      have SPK : ∀ w2, DS c w0 w2 K (s.to (s.pos + n)) → DS c w0 (w2.setCell ⟨c.H1, 2, none⟩ (.int .u64 ((s.tsp : Int) + 1))) K { s.to (s.pos + n) with tsp := s.tsp + 1 } ∧ Upd (DSet c) w2 (w2.setCell ⟨c.H1, 2, none⟩ (.int .u64 ((s.tsp : Int) + 1))) := fun w2 hd => hd.spoke1 (by show s.tsp < s.texts.length; omega)
      have hsm : s.tsp + 1 < 18446744073709551616 := by omega
      unfold PostD
      simp only
      clear hby hlen hD h h0 hps hx hget
      go_enter Tryz.func86, Tryz.ntmps86
      go_wp2_with (first
        | (go_at_call 64; refine A.mono ?_; clear A; rintro e w1 ⟨rfl, hw⟩; obtain rfl := hw.symm)
        | (go_at_call 63; refine N.mono ?_; clear N; rintro e w2 ⟨rfl, h2, u2⟩; obtain ⟨hd, ud⟩ := MV w2 h2 u2; have g0 := blk_cell hd.h1 0 rfl; have g2 : w2.cell? ⟨c.H1, 2, none⟩ = some (.int .u64 s.tsp) := blk_cell hd.h1 2 rfl; have f2 := blk_free hd.h1 2; have g1 := TB hd; clear MV; obtain ⟨hd5, ud5⟩ := SPK w2 hd; have k0 := blk_cell hd5.h1 0 rfl; have k1 := TB hd5; have kx := CX hd5; clear SPK)
        | (go_at_call 62; refine (mustU_ok _ _).mono ?_; rintro e w3 ⟨rfl, hw3⟩; obtain rfl := hw3.symm))
      go_ret
      exact ⟨rfl, hd5, ud.trans ud5 (fun _ _ h => h)⟩
    · rw [if_neg ht3]
      have hi3 : ((v : Int) == (s.tsp : Int)) = false := by simp; omega
      unfold PostD
      simp only
      clear hby hlen hD h h0 hps hx hget
      go_enter Tryz.func86, Tryz.ntmps86
      go_wp2_with (first
        | (go_at_call 64; refine A.mono ?_; clear A; rintro e w1 ⟨rfl, hw⟩; obtain rfl := hw.symm)
        | (go_at_call 63; refine N.mono ?_; clear N; rintro e w2 ⟨rfl, h2, u2⟩; obtain ⟨hd, ud⟩ := MV w2 h2 u2; have g0 := blk_cell hd.h1 0 rfl; have g2 : w2.cell? ⟨c.H1, 2, none⟩ = some (.int .u64 s.tsp) := blk_cell hd.h1 2 rfl; have g1 := TB hd; clear MV; have kx := CX hd)
        | (go_at_call 62; refine (mustU_ok _ _).mono ?_; rintro e w3 ⟨rfl, hw3⟩; obtain rfl := hw3.symm))
      go_ret
      exact ⟨rfl, hd, ud⟩
  | form =>
    clear hv hsz hby hps
    unfold UintPost at N
    unfold PostD
    simp only
    go_enter Tryz.func86, Tryz.ntmps86
    go_wp2_with (first
      | (go_at_call 64; refine A.mono ?_; clear A; rintro e w1 ⟨rfl, hw⟩; obtain rfl := hw.symm)
      | (go_at_call 63; refine N.mono ?_; clear N; rintro e w2 ⟨p2, rfl, F2, q2, b2⟩)
      | (go_at_call 62; refine (mustU_bad _ p2 _ _ _ F2).mono ?_; rintro e w3 ⟨⟨q3, p3, rfl, G3⟩, b3⟩))
    exact ⟨rfl, ⟨q3, p3, rfl, G3⟩, (Upd.ofBelow (b2.trans (b3.mono b2.size)) (fun k hk hk' => by omega))⟩
  | ended =>
    clear hv hsz hby hps
    unfold UintPost at N
    unfold PostD
    simp only
    go_enter Tryz.func86, Tryz.ntmps86
    go_wp2_with (first
      | (go_at_call 64; refine A.mono ?_; clear A; rintro e w1 ⟨rfl, hw⟩; obtain rfl := hw.symm)
      | (go_at_call 63; refine N.mono ?_; clear N; rintro e w2 ⟨p2, rfl, F2, q2, b2⟩)
      | (go_at_call 62; refine (mustU_bad _ p2 _ _ _ F2).mono ?_; rintro e w3 ⟨⟨q3, p3, rfl, G3⟩, b3⟩))
    exact ⟨rfl, ⟨q3, p3, rfl, G3⟩, (Upd.ofBelow (b2.trans (b3.mono b2.size)) (fun k hk hk' => by omega))⟩
set_option maxHeartbeats 2000000 in
theorem dNextR (c : Dc) (w0 w : World) (K : List Int) (s : Dst) (h0 : DS c w0 w K s) :
    Calls Tryz.prog 85 #[.pointer (some ⟨c.H2, 0, none⟩), .pointer (some ⟨c.T, 0, none⟩)] w fun e w' => PostD c w0 K w trV (nextR K s) e w' := by
  have hal : Below w.heap.size w (w.alloc (.cells #[.int .u64 0, .int .u64 0] 33)) := (Below.refl _ _).alloc (Nat.le_refl _) _
  have h := h0.below hal
  have UAL : ∀ {w'}, Upd (DSet c) (w.alloc (.cells #[.int .u64 0, .int .u64 0] 33)) w' → Upd (DSet c) w w' := fun u => (Upd.ofBelow (S := DSet c) hal (fun k hk hk' => by omega)).trans u (fun _ _ h => h)
  have h00 : w0.heap.size ≤ w.heap.size := h0.upd.size
  have X0 : (w.alloc (.cells #[.int .u64 0, .int .u64 0] 33)).heap[w.heap.size]? = some (.cells #[.int .u64 0, .int .u64 0] 33 (0, 0)) := heap_alloc_new _ _
  have OFF : ¬ DSet c w.heap.size := fun e => by
    have l1 := lt_of_block h0.tb
    have l2 := lt_of_block h0.isR.block
    have l3 := lt_of_block h0.h1
    have l4 := lt_of_block h0.h2
    rcases e with e | e | e | e <;> omega
  have hD := h
  have d0 := h.tk.c0
  have A := at_any c.R c.g K s.pos _ h.isR
  have N := getUint_any c.R c.g K s.pos _ h.isR
  have hv := scan_val (K.drop s.pos) 0 0
  have hsz := scan_size (K.drop s.pos) 0 0
  have hby : ∀ x ∈ K.drop s.pos, 0 ≤ x ∧ x < 256 := fun x hx => h.inv.byts x (List.mem_of_mem_drop hx)
  have hps := h.inv.b2
  have hsp := h.inv.r1
  have hn64 := h.inv.r3
  have e1 := h.r1
  have TB : ∀ {w'} {s'} , DS c w0 w' K s' → w'.cell? ⟨c.B2, 0, none⟩ = some (.slice c.a2 c.traces.length c.p2) := fun hd => blk_cell ((hd.upd.block _ (lt_of_block hd.fx.b2) (hd.fx.off hd.fx.b2 (by decide) (by decide) (by decide) (by decide))).trans hd.fx.b2) 0 rfl
  unfold nextR stepD uintD
  generalize scanN (K.drop s.pos) 0 0 = r at N hv hsz ⊢
  cases r using NumRes.each with
  | ok v n =>
    have hv64 := hv v n hby (by omega) (fun _ => by simp) rfl
    have hs2 := hsz v n rfl
    simp only [List.length_drop] at hs2
    clear hv hsz
    simp only
    unfold UintPost at N
    have MV : ∀ w2, IsR w2 c.R c.g K (s.pos + n) → Upd (fun k => k = c.R) _ w2 → DS c w0 w2 K (s.to (s.pos + n)) ∧ Upd (DSet c) _ w2 := fun w2 h2 u2 => h.move h2 u2 (h.inv.to (by omega) (by omega))
    have hlen : s.traces.length = c.traces.length := by rw [e1]
    have ROW := fun w' s' (hd : DS c w0 w' K s') => hd.fx.own hd.upd hd.fx.o2 (by decide) (by decide) (by decide) (by decide)
    obtain ⟨L, hL⟩ : ∃ L, c.traces.length = L := ⟨_, rfl⟩
    have HLL : Hid (c.traces.length = L) := hL
    have hLI : (L : Int) ≤ 18446744073709551615 := by omega
    by_cases ht1 : s.traces.length ≤ v
    · rw [if_pos ht1]
      unfold PostD
      simp only
      have hi1 : (L : Int) ≤ (v : Int) := by omega
      rw [hL] at TB
      clear hby hlen hD h h0 ROW hps
      go_enter Tryz.func85, Tryz.ntmps85
      go_wp2_with (first
        | (go_at_call 64; refine A.mono ?_; clear A; rintro e w1 ⟨rfl, hw⟩; obtain rfl := hw.symm)
        | (go_at_call 63; refine N.mono ?_; clear N; rintro e w2 ⟨rfl, h2, u2⟩; obtain ⟨hd, ud⟩ := MV w2 h2 u2; have g0 := blk_cell hd.h2 0 rfl; have g2 := blk_cell hd.h2 2 rfl; have g1 := TB hd; clear MV)
        | (go_at_call 62; refine (mustU_ok _ _).mono ?_; rintro e w3 ⟨rfl, hw3⟩; obtain rfl := hw3.symm)
        | (go_at_call 18; refine (giveUp_any _ _ _).mono ?_; rintro e w4 ⟨⟨q4, p4, rfl, G4⟩, b4⟩))
      exact ⟨rfl, ⟨q4, p4, rfl, G4⟩, UAL (ud.trans (S' := fun _ => False) (Upd.ofBelow b4 (fun k hk hk' => by omega)) (fun _ _ h => h.elim))⟩
    rw [if_neg ht1]
    have hi1 : (v : Int) < (L : Int) := by omega
    have hsi : ∀ (w' : World), (s.to (s.pos + n)).rsp = s.rsp := fun _ => rfl
    by_cases ht2 : s.rsp < v
    · rw [if_pos ht2]
      unfold PostD
      simp only
      have hi2 : (s.rsp : Int) < (v : Int) := by omega
      rw [hL] at TB
      clear hby hlen hD h h0 ROW hps
      go_enter Tryz.func85, Tryz.ntmps85
      go_wp2_with (first
        | (go_at_call 64; refine A.mono ?_; clear A; rintro e w1 ⟨rfl, hw⟩; obtain rfl := hw.symm)
        | (go_at_call 63; refine N.mono ?_; clear N; rintro e w2 ⟨rfl, h2, u2⟩; obtain ⟨hd, ud⟩ := MV w2 h2 u2; have g0 := blk_cell hd.h2 0 rfl; have g2 : w2.cell? ⟨c.H2, 2, none⟩ = some (.int .u64 s.rsp) := blk_cell hd.h2 2 rfl; have g1 := TB hd; clear MV)
        | (go_at_call 62; refine (mustU_ok _ _).mono ?_; rintro e w3 ⟨rfl, hw3⟩; obtain rfl := hw3.symm)
        | (go_at_call 18; refine (giveUp_any _ _ _).mono ?_; rintro e w4 ⟨⟨q4, p4, rfl, G4⟩, b4⟩))
      exact ⟨rfl, ⟨q4, p4, rfl, G4⟩, UAL (ud.trans (S' := fun _ => False) (Upd.ofBelow b4 (fun k hk hk' => by omega)) (fun _ _ h => h.elim))⟩
    rw [if_neg ht2]
    have hi2 : ¬ (s.rsp : Int) < (v : Int) := by omega
    have hvl : v < c.traces.length := by omega
    have hget : s.traces.getD v (0, 0) = c.traces[v] := by rw [e1, List.getD_eq_getElem?_getD, List.getElem?_eq_getElem hvl]; rfl
    rw [hget]
    obtain ⟨x, hx⟩ : ∃ x, c.traces[v] = x := ⟨_, rfl⟩
    have CX : ∀ {w'} {s'}, DS c w0 w' K s' → ∃ b o, c.a2 = some ⟨b, o, none⟩ ∧ w'.cell? ⟨b, o + v * 2, none⟩ = some (.int .u64 x.1) ∧ w'.cell? ⟨b, o + v * 2 + 1, none⟩ = some (.int .u64 x.2) := fun hd => by
      obtain ⟨b, o, e2, e3⟩ := (trAt_own (ROW _ _ hd)).lies (by omega)
      exact ⟨b, o, e2, by rw [← hx]; exact e3 v hvl⟩
    obtain ⟨ab, ao, ha1, _⟩ := CX h
    have CX : ∀ {w'} {s'}, DS c w0 w' K s' → w'.cell? ⟨ab, ao + v * 2, none⟩ = some (.int .u64 x.1) ∧ w'.cell? ⟨ab, ao + v * 2 + 1, none⟩ = some (.int .u64 x.2) := fun hd => by
      obtain ⟨b, o, e2, e3⟩ := CX hd
      rw [ha1] at e2; simp at e2; obtain ⟨rfl, rfl⟩ := e2; exact e3
    rw [ha1] at TB
    clear ROW
    rw [hx]
    rw [hL] at TB
    by_cases ht3 : v = s.rsp
    · rw [if_pos ht3]
      subst ht3
      have SPK : ∀ w2, DS c w0 w2 K (s.to (s.pos + n)) → DS c w0 (w2.setCell ⟨c.H2, 2, none⟩ (.int .u64 ((s.rsp : Int) + 1))) K { s.to (s.pos + n) with rsp := s.rsp + 1 } ∧ Upd (DSet c) w2 (w2.setCell ⟨c.H2, 2, none⟩ (.int .u64 ((s.rsp : Int) + 1))) := fun w2 hd => hd.spoke2 (by show s.rsp < s.traces.length; omega)
      have hsm : s.rsp + 1 < 18446744073709551616 := by omega
      unfold PostD
      simp only
      clear hby hlen hD h h0 hps hx hget
      go_enter Tryz.func85, Tryz.ntmps85
      go_wp2_with (first
        | (go_at_call 64; refine A.mono ?_; clear A; rintro e w1 ⟨rfl, hw⟩; obtain rfl := hw.symm)
        | (go_at_call 63; refine N.mono ?_; clear N; rintro e w2 ⟨rfl, h2, u2⟩; obtain ⟨hd, ud⟩ := MV w2 h2 u2; have g0 := blk_cell hd.h2 0 rfl; have g2 : w2.cell? ⟨c.H2, 2, none⟩ = some (.int .u64 s.rsp) := blk_cell hd.h2 2 rfl; have f2 := blk_free hd.h2 2; have g1 := TB hd; clear MV; obtain ⟨hd5, ud5⟩ := SPK w2 hd; have k0 := blk_cell hd5.h2 0 rfl; have k1 := TB hd5; obtain ⟨kx, ky⟩ := CX hd5; have X5 := (ud5.block _ (lt_of_block ((ud.block _ (lt_of_block X0) OFF).trans X0)) OFF).trans ((ud.block _ (lt_of_block X0) OFF).trans X0); have x50 := blk_cell X5 0 rfl; have x51 := blk_cell X5 1 rfl; have y50 := blk_free X5 0; have y51 := blk_free X5 1; clear SPK)
        | (go_at_call 62; refine (mustU_ok _ _).mono ?_; rintro e w3 ⟨rfl, hw3⟩; obtain rfl := hw3.symm))
      obtain ⟨x1, x2⟩ := x
      have X6 := set_block X5 0 (.int .u64 x1)
      have X7 := set_block X6 1 (.int .u64 x2)
      have uf : Upd (fun k => k = w.heap.size) (w2.setCell ⟨c.H2, 2, none⟩ (.int .u64 ((s.rsp : Int) + 1))) (((w2.setCell ⟨c.H2, 2, none⟩ (.int .u64 ((s.rsp : Int) + 1))).setCell ⟨w.heap.size, 0, none⟩ (.int .u64 x1)).setCell ⟨w.heap.size, 1, none⟩ (.int .u64 x2)) := (upd_one (w2.setCell ⟨c.H2, 2, none⟩ (.int .u64 ((s.rsp : Int) + 1))) w.heap.size 0 _).trans (upd_one _ w.heap.size 1 _) (fun _ _ h => h)
      have cx0 := blk_cell X7 0 rfl
      have cx1 := blk_cell X7 1 rfl
      refine bodyPost_ret (v := .agg #[.int .u64 x1, .int .u64 x2]) ?_ rfl ⟨rfl, hd5.step uf (fun k e => by subst e; exact h00), (UAL (ud.trans ud5 (fun _ _ h => h))).trans uf (fun k hk e => by exfalso; omega)⟩
      rw [results_cell1 rfl]
      simp [asAddr, Result.andThen, go_sem, cx0, cx1]
    · rw [if_neg ht3]
      have hi3 : ((v : Int) == (s.rsp : Int)) = false := by simp; omega
      unfold PostD
      simp only
      clear hby hlen hD h h0 hps hx hget
      go_enter Tryz.func85, Tryz.ntmps85
      go_wp2_with (first
        | (go_at_call 64; refine A.mono ?_; clear A; rintro e w1 ⟨rfl, hw⟩; obtain rfl := hw.symm)
        | (go_at_call 63; refine N.mono ?_; clear N; rintro e w2 ⟨rfl, h2, u2⟩; obtain ⟨hd, ud⟩ := MV w2 h2 u2; have g0 := blk_cell hd.h2 0 rfl; have g2 : w2.cell? ⟨c.H2, 2, none⟩ = some (.int .u64 s.rsp) := blk_cell hd.h2 2 rfl; have g1 := TB hd; clear MV; obtain ⟨kx, ky⟩ := CX hd; have X5 := (ud.block _ (lt_of_block X0) OFF).trans X0; have x50 := blk_cell X5 0 rfl; have x51 := blk_cell X5 1 rfl; have y50 := blk_free X5 0; have y51 := blk_free X5 1)
        | (go_at_call 62; refine (mustU_ok _ _).mono ?_; rintro e w3 ⟨rfl, hw3⟩; obtain rfl := hw3.symm))
      obtain ⟨x1, x2⟩ := x
      have X6 := set_block X5 0 (.int .u64 x1)
      have X7 := set_block X6 1 (.int .u64 x2)
      have uf : Upd (fun k => k = w.heap.size) w2 ((w2.setCell ⟨w.heap.size, 0, none⟩ (.int .u64 x1)).setCell ⟨w.heap.size, 1, none⟩ (.int .u64 x2)) := (upd_one w2 w.heap.size 0 _).trans (upd_one _ w.heap.size 1 _) (fun _ _ h => h)
      have cx0 := blk_cell X7 0 rfl
      have cx1 := blk_cell X7 1 rfl
      refine bodyPost_ret (v := .agg #[.int .u64 x1, .int .u64 x2]) ?_ rfl ⟨rfl, hd.step uf (fun k e => by subst e; exact h00), (UAL ud).trans uf (fun k hk e => by exfalso; omega)⟩
      rw [results_cell1 rfl]
      simp [asAddr, Result.andThen, go_sem, cx0, cx1]
  | form =>
    clear hv hsz hby hps
    unfold UintPost at N
    unfold PostD
    simp only
    go_enter Tryz.func85, Tryz.ntmps85
    go_wp2_with (first
      | (go_at_call 64; refine A.mono ?_; clear A; rintro e w1 ⟨rfl, hw⟩; obtain rfl := hw.symm)
      | (go_at_call 63; refine N.mono ?_; clear N; rintro e w2 ⟨p2, rfl, F2, q2, b2⟩)
      | (go_at_call 62; refine (mustU_bad _ p2 _ _ _ F2).mono ?_; rintro e w3 ⟨⟨q3, p3, rfl, G3⟩, b3⟩))
    exact ⟨rfl, ⟨q3, p3, rfl, G3⟩, UAL (Upd.ofBelow (b2.trans (b3.mono b2.size)) (fun k hk hk' => by omega))⟩
  | ended =>
    clear hv hsz hby hps
    unfold UintPost at N
    unfold PostD
    simp only
    go_enter Tryz.func85, Tryz.ntmps85
    go_wp2_with (first
      | (go_at_call 64; refine A.mono ?_; clear A; rintro e w1 ⟨rfl, hw⟩; obtain rfl := hw.symm)
      | (go_at_call 63; refine N.mono ?_; clear N; rintro e w2 ⟨p2, rfl, F2, q2, b2⟩)
      | (go_at_call 62; refine (mustU_bad _ p2 _ _ _ F2).mono ?_; rintro e w3 ⟨⟨q3, p3, rfl, G3⟩, b3⟩))
    exact ⟨rfl, ⟨q3, p3, rfl, G3⟩, UAL (Upd.ofBelow (b2.trans (b3.mono b2.size)) (fun k hk hk' => by omega))⟩
end Go.Proofs.YthcghpbkadlliabGreatDoor
