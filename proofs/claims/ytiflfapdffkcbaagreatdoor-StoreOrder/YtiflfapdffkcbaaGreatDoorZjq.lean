/-
  Merged: Zj, Tx, Rw, Zd, Zt, Zu, Zo, Zx, Wy, Zy.
-/
import Derived.Test.YtiflfapdffkcbaaGreatDoorZiq
import Derived.Test.YtiflfapdffkcbaaGreatDoorZg
import Derived.Test.YtiflfapdffkcbaaGreatDoorFBq
import Derived.Deep.RegionHeld3
import Derived.Deep.RegionWith
import Derived.Test.YtiflfapdffkcbaaGreatDoorWaq
import Derived.Test.YtiflfapdffkcbaaGreatDoorMw
import Derived.Deep.MidRow
import Derived.Laws.ResultCell
namespace Go.Proofs.YtiflfapdffkcbaaGreatDoor
open Go.Shelf Go.RowKit
set_option maxRecDepth 100000

/-- Its numbers are of their types. -/
structure Sp.Fits (a : Sp) : Prop where
  hi : 0 ≤ a.hi ∧ a.hi < 18446744073709551616
  lo : 0 ≤ a.lo ∧ a.lo < 18446744073709551616
  id : 0 ≤ a.id ∧ a.id < 18446744073709551616
  par : 0 ≤ a.par ∧ a.par < 18446744073709551616
  links : ∀ x ∈ a.links, 0 ≤ x ∧ x < 18446744073709551616
  attrs : ∀ x ∈ a.attrs, -9223372036854775808 ≤ x.num ∧ x.num ≤ 9223372036854775807
/-- A span's bytes. -/
def encS (a : Sp) : List Int :=
  rawL a.hi ++ (rawL a.lo ++ (rawL a.id ++ (rawL a.par ++ (encN a.links.length ++ (catL rawL a.links ++ (textL a.svc ++ (textL a.op ++ (encN a.kind.toNat ++ (encN a.status.toNat ++ (encN a.start.toNat ++ (encN a.fin.toNat ++ ((encN a.attrs.length ++ catL attrL a.attrs) ++ (encN a.events.length ++ catL eventL a.events)))))))))))))
theorem plainB_ok {s : ByteArray} {m l : Int} (h : plainB s m l = true) : 1 ≤ s.size ∧ (s.size : Int) ≤ m ∧ Lib.validD s.data.toList = true := by
  simp only [plainB, Bool.and_eq_true, decide_eq_true_eq] at h
  exact ⟨h.1.1.1, h.1.1.2, h.1.2⟩
/-- What Check's word means. -/
structure Sp.Good (a : Sp) : Prop where
  id : ¬ (a.hi = 0 ∧ a.lo = 0) ∧ a.id ≠ 0
  start : 0 ≤ a.start ∧ a.start ≤ 4611686018427387904
  fin : 0 ≤ a.fin ∧ a.fin ≤ 4611686018427387904
  svc : 1 ≤ a.svc.size ∧ a.svc.size ≤ 60 ∧ Lib.validD a.svc.data.toList = true
  op : 1 ≤ a.op.size ∧ a.op.size ≤ 100 ∧ Lib.validD a.op.data.toList = true
  kind : 0 ≤ a.kind ∧ a.kind ≤ 4
  status : 0 ≤ a.status ∧ a.status ≤ 2
  links : a.links.length ≤ 16
  attrs : a.attrs.length ≤ 32
  attr : ∀ x ∈ a.attrs, 1 ≤ x.key.size ∧ x.key.size ≤ 40 ∧ x.text.size ≤ 200 ∧ 0 ≤ x.kind ∧ x.kind ≤ 2
  events : a.events.length ≤ 32
  event : ∀ x ∈ a.events, 1 ≤ x.name.size ∧ x.name.size ≤ 100 ∧ 0 ≤ x.moment ∧ x.moment ≤ 4611686018427387904
theorem chk_good {a : Sp} (h : chkS a = 0) : a.Good := by
  unfold chkS at h
  split at h
  · omega
  rename_i h1
  split at h
  · omega
  rename_i h2
  split at h
  · omega
  rename_i h3
  split at h
  · omega
  rename_i h4
  split at h
  · omega
  rename_i h5
  split at h
  · omega
  rename_i h6
  split at h
  · omega
  rename_i h7
  simp only [Bool.or_eq_true, decide_eq_true_eq, Bool.not_eq_true', not_or, Bool.not_eq_false] at h1 h2 h3 h4 h5 h6 h7
  obtain ⟨⟨m1, m2⟩, _⟩ := h2
  simp only [momB, Bool.and_eq_true, decide_eq_true_eq] at m1 m2
  obtain ⟨p1, p2⟩ := h3
  have q1 := plainB_ok p1
  have q2 := plainB_ok p2
  simp only [linksB, attrsB, eventsB, Bool.and_eq_true, decide_eq_true_eq, List.all_eq_true] at h5 h6 h7
  refine ⟨h1, m1, m2, ⟨q1.1, by omega, q1.2.2⟩, ⟨q2.1, by omega, q2.2.2⟩, by omega, by omega, h5.1.1, h6.1.1, fun x hx => ?_, h7.1.1, fun x hx => ?_⟩
  · have := h6.2 x hx
    simp only [attrB, Bool.and_eq_true, keyB, decide_eq_true_eq] at this
    obtain ⟨⟨⟨⟨k1, k2⟩, _⟩, _⟩, v1⟩ := this
    refine ⟨k1, k2, ?_⟩
    unfold valB at v1
    split at v1
    · simp only [Bool.and_eq_true, decide_eq_true_eq] at v1; omega
    · split at v1
      · simp only [decide_eq_true_eq] at v1; omega
      · split at v1
        · simp only [Bool.and_eq_true, decide_eq_true_eq] at v1; omega
        · simp at v1
  · have := h7.2 x hx
    simp only [eventB, Bool.and_eq_true, momB, decide_eq_true_eq] at this
    have q := plainB_ok this.2
    exact ⟨q.1, by omega, this.1⟩

end Go.Proofs.YtiflfapdffkcbaaGreatDoor

namespace Go.Proofs.YtiflfapdffkcbaaGreatDoor
open Go.Shelf Go.RowKit
set_option maxRecDepth 100000

/-- What Text answers: the text's place and length; or what is wrong, and where. -/
abbrev TxtRes := Except (Nat × Nat) (Nat × Nat)
abbrev TxtRes.ok (from_ v : Nat) : TxtRes := Except.ok (from_, v)
abbrev TxtRes.bad (at_ no : Nat) : TxtRes := Except.error (at_, no)
theorem TxtRes.each {motive : TxtRes → Prop} (ok : ∀ f v, motive (.ok f v)) (bad : ∀ a n, motive (.bad a n)) (r : TxtRes) : motive r := by
  rcases r with ⟨a, n⟩ | ⟨f, v⟩
  · exact bad a n
  · exact ok f v
def textR (K : List Int) (t : Nat) (most : Int) : TxtRes :=
  if most < 0 then .bad t 1
  else match scanN (K.drop t) 0 0 with
    | some none => .bad t 12
    | none => .bad K.length 11
    | some (some (v, s)) => if most < (v : Int) then .bad t 13 else if K.length < t + s + v then .bad K.length 11
      else if endL ((K.drop (t + s)).take v) < v then .bad (t + s + endL ((K.drop (t + s)).take v)) 14 else .ok (t + s) v
end Go.Proofs.YtiflfapdffkcbaaGreatDoor

namespace Go.Proofs.YtiflfapdffkcbaaGreatDoor
open Go.Shelf Go.RowKit
set_option maxRecDepth 100000

theorem Holds.cut {w : World} {g : Nat} {K : List Int} (h : RowAt w g K) (t n : Nat) (hn : t + n ≤ K.length) (m : Nat) : Holds (w.drewN m) (some ⟨g, t, none⟩) n ((K.drop t).take n) := by
  refine ⟨by simp; omega, fun j u hj => ⟨_, rfl, ?_⟩⟩
  have hj' : j < n := by
    by_cases hjn : j < n
    · exact hjn
    · rw [List.getElem?_eq_none (by simp; omega)] at hj; simp at hj
  rw [Addr.add_lit]
  show w.cell? ⟨g, t + j, none⟩ = some u
  rw [h.cell (t + j) (by omega)]
  simp [List.getElem?_take_of_lt hj'] at hj
  obtain ⟨a, ha, rfl⟩ := hj
  simp [List.getD, ha]

end Go.Proofs.YtiflfapdffkcbaaGreatDoor

namespace Go.Proofs.YtiflfapdffkcbaaGreatDoor
open Go.Shelf Go.RowKit
set_option maxRecDepth 100000

theorem blk_cell {w : World} {g : Nat} {cs : Array Value} {t : TypeId} {fz : Nat × Nat} (h : w.heap[g]? = some (.cells cs t fz)) (j : Nat) {u : Value} (hu : cs[j]? = some u) : w.cell? ⟨g, j, none⟩ = some u := by
  simp [World.cell?, h, hu]
theorem blk_free {w : World} {g : Nat} {cs : Array Value} {t : TypeId} (h : w.heap[g]? = some (.cells cs t (0, 0))) (j : Nat) : w.frozen? ⟨g, j, none⟩ = false := by
  simp [World.frozen?, h]
abbrev TR (T R : Nat) : Nat → Prop := fun k => k = T ∨ k = R
theorem ne_of_types {w : World} {a b : Nat} {c d : Array Value} {s t : TypeId} {f h : Nat × Nat} (h1 : w.heap[a]? = some (.cells c s f)) (h2 : w.heap[b]? = some (.cells d t h)) (hne : s ≠ t) : a ≠ b := by
  rintro rfl
  rw [h1] at h2
  simp at h2
  exact hne h2.2.1
theorem upd_ok {T R : Nat} {w w' : World} {v : Value} (h : Upd (fun k => k = R) w w') : Upd (TR T R) w (w'.setCell ⟨T, 1, none⟩ v) :=
  Upd.setCell (S := TR T R) (p := ⟨T, 1, none⟩) (h.mono (fun _ _ e => Or.inr e)) (fun _ => Or.inl rfl) _
theorem upd_bad {T R : Nat} {w w' : World} {v : Value} (h : Below w.heap.size w w') : Upd (TR T R) w (w'.setCell ⟨T, 1, none⟩ v) :=
  Upd.setCell (S := TR T R) (p := ⟨T, 1, none⟩) (Upd.ofBelow h (fun k hk hk' => by omega)) (fun _ => Or.inl rfl) _

/-- A number is taken. -/
def uintP (K : List Int) : Option Nat → Int × Option Nat
  | none => (0, none)
  | some t => match scanN (K.drop t) 0 0 with
    | some (some (v, n)) => ((v : Int), some (t + n))
    | _ => (0, none)
def intP (K : List Int) (s : Option Nat) : Int × Option Nat :=
  match s with
  | none => (0, none)
  | some t => match scanN (K.drop t) 0 0 with
    | some (some (v, n)) => (zagI v, some (t + n))
    | _ => (0, none)
def textP (K : List Int) (most : Int) : Option Nat → ByteArray × Option Nat
  | none => (ByteArray.empty, none)
  | some t => match textR K t most with
    | Except.ok (f, v) => (strI ((K.drop f).take v), some (f + v))
    | Except.error _ => (ByteArray.empty, none)

end Go.Proofs.YtiflfapdffkcbaaGreatDoor

namespace Go.Proofs.YtiflfapdffkcbaaGreatDoor
open Go.Shelf Go.RowKit
set_option maxRecDepth 100000

theorem Upd.drewL {S : Nat → Prop} {a b : World} {m : Nat} (h : Upd S (a.drewN m) b) : Upd S a b := ⟨h.os, h.tape, h.output, h.size, h.block⟩
theorem below_drewL {B : Nat} {a b : World} {m : Nat} (h : Below B (a.drewN m) b) : Below B a b := ⟨h.os, h.tape, h.output, h.size, h.block⟩

def smallP (K : List Int) (s : Option Nat) : Int × Option Nat := (min (uintP K s).1 2147483647, (uintP K s).2)
def momP (K : List Int) (s : Option Nat) : Int × Option Nat := (min (uintP K s).1 4611686018427387905, (uintP K s).2)
theorem uintP_rng (K : List Int) (s : Option Nat) (hK : ∀ x ∈ K, 0 ≤ x ∧ x < 256) : 0 ≤ (uintP K s).1 ∧ (uintP K s).1 < 18446744073709551616 := by
  cases s with
  | none => simp [uintP]
  | some t =>
    unfold uintP
    simp only
    have hv := scan_val (K.drop t) 0 0
    generalize scanN (K.drop t) 0 0 = r at hv ⊢
    cases r using NumRes.each with
    | ok v n =>
      have := hv v n (fun x hx => hK x (List.mem_of_mem_drop hx)) (by omega) (by simp) rfl
      simp; omega
    | form => simp
    | ended => simp
/-- How many there are of a list that has at most so many. -/
def countP (K : List Int) (most : Nat) (s : Option Nat) : Nat × Option Nat := if (most : Int) < (uintP K s).1 then (0, none) else ((uintP K s).1.toNat, (uintP K s).2)
/-- All must be taken. -/
def endP (K : List Int) : Option Nat → Option Nat
  | none => none
  | some t => if t = K.length then some t else none
end Go.Proofs.YtiflfapdffkcbaaGreatDoor

namespace Go.Proofs.YtiflfapdffkcbaaGreatDoor
open Go.Shelf Go.RowKit
set_option maxRecDepth 100000

/-- Eight bytes as a number. -/
def unrawL (l : List Int) : Int := l.foldl (fun v c => v * 256 + c) 0
def rawP (K : List Int) : Option Nat → Int × Option Nat
  | none => (0, none)
  | some t => if t + 8 ≤ K.length then (unrawL ((K.drop t).take 8), some (t + 8)) else (0, none)
theorem or_low (v c : Int) (h0 : 0 ≤ v) (h1 : v < 72057594037927936) (h2 : 0 ≤ c) (h3 : c < 256) : bits .or .u64 (v * 256) c = v * 256 + c := by
  obtain ⟨a, rfl⟩ := Int.eq_ofNat_of_zero_le h0
  obtain ⟨b, rfl⟩ := Int.eq_ofNat_of_zero_le h2
  have h1' : a < 72057594037927936 := by omega
  have h3' : b < 256 := by omega
  rw [show ((a : Int) * 256) = ((a * 256 : Nat) : Int) by omega, u64_or_nat (a * 256) b (by omega) (by omega)]
  have := Nat.shiftLeft_add_eq_or_of_lt (i := 8) (b := b) (by omega) a
  rw [Nat.shiftLeft_eq] at this
  rw [← this]
  omega
theorem unraw_snoc (l : List Int) (c : Int) : unrawL (l ++ [c]) = unrawL l * 256 + c := by simp [unrawL]
theorem unraw_bound : ∀ (k : Nat) (l : List Int), l.length = k → (∀ x ∈ l, 0 ≤ x ∧ x < 256) → 0 ≤ unrawL l ∧ unrawL l < 256 ^ k := by
  intro k
  induction k with
  | zero => intro l hl _; have : l = [] := List.eq_nil_of_length_eq_zero hl; subst this; simp [unrawL]
  | succ k ih =>
    intro l hl hb
    have hne : l ≠ [] := by intro e; subst e; simp at hl
    obtain ⟨m, c, rfl⟩ : ∃ m c, l = m ++ [c] := ⟨l.dropLast, l.getLast hne, (List.dropLast_concat_getLast hne).symm⟩
    have hm := ih m (by simpa using hl) (fun x hx => hb x (by simp [hx]))
    have hc := hb c (by simp)
    rw [unraw_snoc, Int.pow_succ]
    omega

end Go.Proofs.YtiflfapdffkcbaaGreatDoor

namespace Go.Proofs.YtiflfapdffkcbaaGreatDoor
open Go.Shelf Go.RowKit
set_option maxRecDepth 100000

/-- A block of another kind than a taker's. -/
structure Far (w : World) (T R g E : Nat) : Prop where
  t : T ≠ E
  r : R ≠ E
  g : g ≠ E
  f : E ≠ 0
  a : E ≠ 1
theorem own_neW {base : Nat} {w : World} {e : TypeId} {size : Nat} {v : Value} {n : Nat} {xs : List Value} (h : w.ownsRow base e size v n xs) {R : Nat} {cs : Array Value} {t : TypeId} {fz : Nat × Nat} (hR : w.heap[R]? = some (.cells cs t fz)) (hne : e ≠ t) : v.ownBlock ≠ some R := by
  intro hk
  rcases h.2 with ⟨rfl, _⟩ | ⟨g, cap, cur, rfl, _, hg, _⟩
  · simp [Value.ownBlock] at hk
  · simp [Value.ownBlock] at hk
    subst hk
    rw [hR] at hg
    simp at hg
    exact hne hg.2.1.symm
/-- So many takings, one behind the other. -/
def iterS {α : Type} (f : Option Nat → α × Option Nat) : Nat → Option Nat → List α × Option Nat
  | 0, s => ([], s)
  | k + 1, s => ((iterS f k s).1 ++ [(f (iterS f k s).2).1], (f (iterS f k s).2).2)
theorem iterS_len {α : Type} (f : Option Nat → α × Option Nat) (k : Nat) (s : Option Nat) : (iterS f k s).1.length = k := by
  induction k with
  | zero => rfl
  | succ k ih => simp [iterS, ih]
theorem countP_le (K : List Int) (most : Nat) (s : Option Nat) : (countP K most s).1 ≤ most := by
  unfold countP; split <;> simp <;> omega
def linksP (K : List Int) (s : Option Nat) : List Int × Option Nat := iterS (rawP K) (countP K 16 s).1 (countP K 16 s).2
theorem rawP_rng (K : List Int) (s : Option Nat) (hK : ∀ x ∈ K, 0 ≤ x ∧ x < 256) : 0 ≤ (rawP K s).1 ∧ (rawP K s).1 < 18446744073709551616 := by
  cases s with
  | none => simp [rawP]
  | some t =>
    unfold rawP
    simp only
    split
    · have := unraw_bound 8 ((K.drop t).take 8) (by simp; omega) (fun x hx => hK x (List.mem_of_mem_drop (List.mem_of_mem_take hx)))
      simpa using this
    · simp
theorem Tryz.info34 : (Tryz.prog.info? 34).map (fun i => (i.zero, i.size, i.bytes)) = some (some (.int .u64 0), 1, 8) := by kernel_rfl
theorem upd_new {S : Nat → Prop} {a b c : World} {v : Value} {base e size n : Nat} {xs : List Value} (hu : Upd S a b) (ho : b.ownsRow base e size v n xs) (hb : a.heap.size ≤ base) (hg : b.grownBy c v.ownBlock) : Upd S a c :=
  hu.grown hg (fun k hk e => by
    rcases ho.2 with ⟨rfl, _⟩ | ⟨g, cap, cur, rfl, hbg, _⟩
    · simp [Value.ownBlock] at e
    · simp [Value.ownBlock] at e; omega)

end Go.Proofs.YtiflfapdffkcbaaGreatDoor

namespace Go.Proofs.YtiflfapdffkcbaaGreatDoor
open Go.Shelf Go.RowKit
set_option maxRecDepth 100000

theorem a4_0 (a b c d v : Value) : (#[a, b, c, d] : Array Value).setIfInBounds 0 v = #[v, b, c, d] := rfl
theorem a4_1 (a b c d v : Value) : (#[a, b, c, d] : Array Value).setIfInBounds 1 v = #[a, v, c, d] := rfl
theorem a4_2 (a b c d v : Value) : (#[a, b, c, d] : Array Value).setIfInBounds 2 v = #[a, b, v, d] := rfl
theorem a4_3 (a b c d v : Value) : (#[a, b, c, d] : Array Value).setIfInBounds 3 v = #[a, b, c, v] := rfl
theorem a2_0 (a b v : Value) : (#[a, b] : Array Value).setIfInBounds 0 v = #[v, b] := rfl
theorem a2_1 (a b v : Value) : (#[a, b] : Array Value).setIfInBounds 1 v = #[a, v] := rfl

def attrP (K : List Int) (s : Option Nat) : AttrD × Option Nat :=
  (⟨(textP K 40 s).1, (smallP K (textP K 40 s).2).1, (textP K 200 (smallP K (textP K 40 s).2).2).1, (intP K (textP K 200 (smallP K (textP K 40 s).2).2).2).1⟩, (intP K (textP K 200 (smallP K (textP K 40 s).2).2).2).2)
def eventP (K : List Int) (s : Option Nat) : EventD × Option Nat := (⟨(momP K s).1, (textP K 100 (momP K s).2).1⟩, (textP K 100 (momP K s).2).2)
def attrC (a : AttrD) : List Value := [.string a.key, .int .i64 a.kind, .string a.text, .int .i64 a.num]
def eventC (a : EventD) : List Value := [.int .i64 a.moment, .string a.name]
def attrsP (K : List Int) (s : Option Nat) : List AttrD × Option Nat := iterS (attrP K) (countP K 32 s).1 (countP K 32 s).2
def eventsP (K : List Int) (s : Option Nat) : List EventD × Option Nat := iterS (eventP K) (countP K 32 s).1 (countP K 32 s).2
theorem Tryz.info83 : (Tryz.prog.info? 83).map (fun i => (i.zero, i.size, i.bytes)) = some (some (.agg #[.string ⟨#[]⟩, .int .i64 0, .string ⟨#[]⟩, .int .i64 0]), 4, 48) := by kernel_rfl
theorem Tryz.info86 : (Tryz.prog.info? 86).map (fun i => (i.zero, i.size, i.bytes)) = some (some (.agg #[.int .i64 0, .string ⟨#[]⟩]), 2, 24) := by kernel_rfl
theorem upd_far {S : Nat → Prop} {w0 w : World} {E i : Nat} {v : Value} (hu : Upd S w0 w) (hE : w0.heap.size ≤ E) : Upd S w0 (w.setCell ⟨E, i, none⟩ v) :=
  Upd.setCell (p := ⟨E, i, none⟩) hu (fun h => by simp at h; omega) v

theorem own_fresh {base : Nat} {w : World} {e : TypeId} {size : Nat} {v : Value} {n : Nat} {xs : List Value} (h : w.ownsRow base e size v n xs) : v.ownBlock ≠ some w.heap.size := by
  intro hk
  rcases h.2 with ⟨rfl, _⟩ | ⟨g, cap, cur, rfl, _, hg, _⟩
  · simp [Value.ownBlock] at hk
  · simp [Value.ownBlock] at hk
    have := lt_of_block hg
    omega
theorem eventP_eq (K : List Int) (s : Option Nat) : eventP K s = (⟨(momP K s).1, (textP K 100 (momP K s).2).1⟩, (textP K 100 (momP K s).2).2) := rfl
theorem attrP_eq (K : List Int) (s : Option Nat) : attrP K s = (⟨(textP K 40 s).1, (smallP K (textP K 40 s).2).1, (textP K 200 (smallP K (textP K 40 s).2).2).1, (intP K (textP K 200 (smallP K (textP K 40 s).2).2).2).1⟩, (intP K (textP K 200 (smallP K (textP K 40 s).2).2).2).2) := rfl

end Go.Proofs.YtiflfapdffkcbaaGreatDoor

namespace Go.Proofs.YtiflfapdffkcbaaGreatDoor
open Go.RowKit
set_option maxRecDepth 100000

/-- A whole array into a block. -/
theorem wpList_store_row {P : Program} {ops : Array Oper} {rest : List Oper} {op : Oper} {a : Act} {w : World} {Q : Exit → Act → World → Prop} (hgd : op.guard = none) (ty : TypeId) (x y : Operand) (ho : op.op = .store ty x y)
    (g : Nat) (t : TypeId) (old cells : Array Value) (hx : a.eval x = .pointer (some ⟨g, 0, none⟩)) (hy : a.eval y = .agg cells)
    (hg : w.heap[g]? = some (.cells old t (0, 0))) (hi : (P.info? ty).map (·.size) = some cells.size) (hs : old.size = cells.size) (h1 : cells.all (·.oneCell') = true)
    (h : wpList P ops Q rest (a.put op.dst undef) (w.setRow g cells)) : wpList P ops Q (op :: rest) a w := by
  refine wpList_plain hgd fun _ hK => ?_
  unfold Oper.wp execOp
  simp only [ho, hx, hy, Instr.storeAt, Instr.sureAddr, Sem.run_bind, Sem.run_pure, Result.andThen_ok, run_storeVar_row w g t ty old cells hg hi hs h1]
  exact hK _ _ h
/-- A whole array out of a block. -/
theorem wpList_load_row {P : Program} {ops : Array Oper} {rest : List Oper} {op : Oper} {a : Act} {w : World} {Q : Exit → Act → World → Prop} (hgd : op.guard = none) (ty : TypeId) (x : Operand) (ho : op.op = .load ty x)
    (g : Nat) (t : TypeId) (cells : Array Value) (hx : a.eval x = .pointer (some ⟨g, 0, none⟩)) (d : TypeDesc)
    (hg : w.heap[g]? = some (.cells cells t (0, 0))) (hu : P.underlying ty = some d) (hd : (match d with | .struct _ | .array _ _ => true | _ => false) = true) (hi : (P.info? ty).map (·.size) = some cells.size)
    (h : wpList P ops Q rest (a.put op.dst (.agg cells)) w) : wpList P ops Q (op :: rest) a w := by
  refine wpList_plain hgd fun _ hK => ?_
  unfold Oper.wp execOp
  simp only [ho, hx, Instr.loadAt, Instr.sureAddr, Sem.run_bind, Sem.run_pure, Result.andThen_ok, run_loadVar_row w g t ty cells (0, 0) d hg hu hd hi]
  exact hK _ _ h
theorem results_cell1 {fn : Func} {p : Tmp} {ty : TypeId} (h : fn.results = #[.cell p ty]) (tmps : Array Value) (P : Program) (w : World) :
    (results fn tmps).run P w = ((asAddr (tmps.getD p undef)).run P w).andThen fun a w₁ => (loadVar ty a).run P w₁ := by
  simp only [results, h]
  simp [Sem.run_bind, Result.andThen]
end Go.Proofs.YtiflfapdffkcbaaGreatDoor

namespace Go.Proofs.YtiflfapdffkcbaaGreatDoor
open Go.Shelf Go.RowKit
set_option maxRecDepth 100000

theorem a13_0 (a0 a1 a2 a3 a4 a5 a6 a7 a8 a9 a10 a11 a12 v : Value) : (#[a0, a1, a2, a3, a4, a5, a6, a7, a8, a9, a10, a11, a12] : Array Value).setIfInBounds 0 v = #[v, a1, a2, a3, a4, a5, a6, a7, a8, a9, a10, a11, a12] := by simp
theorem a13_1 (a0 a1 a2 a3 a4 a5 a6 a7 a8 a9 a10 a11 a12 v : Value) : (#[a0, a1, a2, a3, a4, a5, a6, a7, a8, a9, a10, a11, a12] : Array Value).setIfInBounds 1 v = #[a0, v, a2, a3, a4, a5, a6, a7, a8, a9, a10, a11, a12] := by simp
theorem a13_2 (a0 a1 a2 a3 a4 a5 a6 a7 a8 a9 a10 a11 a12 v : Value) : (#[a0, a1, a2, a3, a4, a5, a6, a7, a8, a9, a10, a11, a12] : Array Value).setIfInBounds 2 v = #[a0, a1, v, a3, a4, a5, a6, a7, a8, a9, a10, a11, a12] := by simp
theorem a13_3 (a0 a1 a2 a3 a4 a5 a6 a7 a8 a9 a10 a11 a12 v : Value) : (#[a0, a1, a2, a3, a4, a5, a6, a7, a8, a9, a10, a11, a12] : Array Value).setIfInBounds 3 v = #[a0, a1, a2, v, a4, a5, a6, a7, a8, a9, a10, a11, a12] := by simp
theorem a13_4 (a0 a1 a2 a3 a4 a5 a6 a7 a8 a9 a10 a11 a12 v : Value) : (#[a0, a1, a2, a3, a4, a5, a6, a7, a8, a9, a10, a11, a12] : Array Value).setIfInBounds 4 v = #[a0, a1, a2, a3, v, a5, a6, a7, a8, a9, a10, a11, a12] := by simp
theorem a13_5 (a0 a1 a2 a3 a4 a5 a6 a7 a8 a9 a10 a11 a12 v : Value) : (#[a0, a1, a2, a3, a4, a5, a6, a7, a8, a9, a10, a11, a12] : Array Value).setIfInBounds 5 v = #[a0, a1, a2, a3, a4, v, a6, a7, a8, a9, a10, a11, a12] := by simp
theorem a13_6 (a0 a1 a2 a3 a4 a5 a6 a7 a8 a9 a10 a11 a12 v : Value) : (#[a0, a1, a2, a3, a4, a5, a6, a7, a8, a9, a10, a11, a12] : Array Value).setIfInBounds 6 v = #[a0, a1, a2, a3, a4, a5, v, a7, a8, a9, a10, a11, a12] := by simp
theorem a13_7 (a0 a1 a2 a3 a4 a5 a6 a7 a8 a9 a10 a11 a12 v : Value) : (#[a0, a1, a2, a3, a4, a5, a6, a7, a8, a9, a10, a11, a12] : Array Value).setIfInBounds 7 v = #[a0, a1, a2, a3, a4, a5, a6, v, a8, a9, a10, a11, a12] := by simp
theorem a13_8 (a0 a1 a2 a3 a4 a5 a6 a7 a8 a9 a10 a11 a12 v : Value) : (#[a0, a1, a2, a3, a4, a5, a6, a7, a8, a9, a10, a11, a12] : Array Value).setIfInBounds 8 v = #[a0, a1, a2, a3, a4, a5, a6, a7, v, a9, a10, a11, a12] := by simp
theorem a13_9 (a0 a1 a2 a3 a4 a5 a6 a7 a8 a9 a10 a11 a12 v : Value) : (#[a0, a1, a2, a3, a4, a5, a6, a7, a8, a9, a10, a11, a12] : Array Value).setIfInBounds 9 v = #[a0, a1, a2, a3, a4, a5, a6, a7, a8, v, a10, a11, a12] := by simp
theorem a13_10 (a0 a1 a2 a3 a4 a5 a6 a7 a8 a9 a10 a11 a12 v : Value) : (#[a0, a1, a2, a3, a4, a5, a6, a7, a8, a9, a10, a11, a12] : Array Value).setIfInBounds 10 v = #[a0, a1, a2, a3, a4, a5, a6, a7, a8, a9, v, a11, a12] := by simp
theorem a13_11 (a0 a1 a2 a3 a4 a5 a6 a7 a8 a9 a10 a11 a12 v : Value) : (#[a0, a1, a2, a3, a4, a5, a6, a7, a8, a9, a10, a11, a12] : Array Value).setIfInBounds 11 v = #[a0, a1, a2, a3, a4, a5, a6, a7, a8, a9, a10, v, a12] := by simp
theorem a13_12 (a0 a1 a2 a3 a4 a5 a6 a7 a8 a9 a10 a11 a12 v : Value) : (#[a0, a1, a2, a3, a4, a5, a6, a7, a8, a9, a10, a11, a12] : Array Value).setIfInBounds 12 v = #[a0, a1, a2, a3, a4, a5, a6, a7, a8, a9, a10, a11, v] := by simp
theorem set13_eq (w : World) (g : Nat) (t : TypeId) (z0 z1 z2 z3 z4 z5 z6 z7 z8 z9 z10 z11 z12 v0 v1 v2 v3 v4 v5 v6 v7 v8 v9 v10 v11 v12 : Value) (hg : w.heap[g]? = some (.cells #[z0, z1, z2, z3, z4, z5, z6, z7, z8, z9, z10, z11, z12] t (0, 0))) :
    (((((((((((((w.setCell ⟨g, 0, none⟩ v0).setCell ⟨g, 1, none⟩ v1).setCell ⟨g, 2, none⟩ v2).setCell ⟨g, 3, none⟩ v3).setCell ⟨g, 4, none⟩ v4).setCell ⟨g, 5, none⟩ v5).setCell ⟨g, 6, none⟩ v6).setCell ⟨g, 7, none⟩ v7).setCell ⟨g, 8, none⟩ v8).setCell ⟨g, 9, none⟩ v9).setCell ⟨g, 10, none⟩ v10).setCell ⟨g, 11, none⟩ v11).setCell ⟨g, 12, none⟩ v12) = w.setRow g #[v0, v1, v2, v3, v4, v5, v6, v7, v8, v9, v10, v11, v12] := by
  rw [setCell_eq_setRow w g 0 _ t (0, 0) v0 hg, a13_0,
    setCell_eq_setRow _ g 1 _ t (0, 0) v1 (setRow_heap w g _ _ t _ hg), setRow_setRow, a13_1,
    setCell_eq_setRow _ g 2 _ t (0, 0) v2 (setRow_heap w g _ _ t _ hg), setRow_setRow, a13_2,
    setCell_eq_setRow _ g 3 _ t (0, 0) v3 (setRow_heap w g _ _ t _ hg), setRow_setRow, a13_3,
    setCell_eq_setRow _ g 4 _ t (0, 0) v4 (setRow_heap w g _ _ t _ hg), setRow_setRow, a13_4,
    setCell_eq_setRow _ g 5 _ t (0, 0) v5 (setRow_heap w g _ _ t _ hg), setRow_setRow, a13_5,
    setCell_eq_setRow _ g 6 _ t (0, 0) v6 (setRow_heap w g _ _ t _ hg), setRow_setRow, a13_6,
    setCell_eq_setRow _ g 7 _ t (0, 0) v7 (setRow_heap w g _ _ t _ hg), setRow_setRow, a13_7,
    setCell_eq_setRow _ g 8 _ t (0, 0) v8 (setRow_heap w g _ _ t _ hg), setRow_setRow, a13_8,
    setCell_eq_setRow _ g 9 _ t (0, 0) v9 (setRow_heap w g _ _ t _ hg), setRow_setRow, a13_9,
    setCell_eq_setRow _ g 10 _ t (0, 0) v10 (setRow_heap w g _ _ t _ hg), setRow_setRow, a13_10,
    setCell_eq_setRow _ g 11 _ t (0, 0) v11 (setRow_heap w g _ _ t _ hg), setRow_setRow, a13_11,
    setCell_eq_setRow _ g 12 _ t (0, 0) v12 (setRow_heap w g _ _ t _ hg), setRow_setRow, a13_12]
/-- What is read. -/
def spanP (K : List Int) (s : Option Nat) : Sp × Option Nat :=
  let r0 := rawP K s
  let r1 := rawP K r0.2
  let r2 := rawP K r1.2
  let r3 := rawP K r2.2
  let r4 := linksP K r3.2
  let r5 := textP K 60 r4.2
  let r6 := textP K 100 r5.2
  let r7 := smallP K r6.2
  let r8 := smallP K r7.2
  let r9 := momP K r8.2
  let r10 := momP K r9.2
  let r11 := attrsP K r10.2
  let r12 := eventsP K r11.2
  (⟨r0.1, r1.1, r2.1, r3.1, r4.1, r5.1, r6.1, r7.1, r8.1, r9.1, r10.1, r11.1, r12.1⟩, r12.2)

theorem holdsV_own {w : World} {base e : Nat} {ad : Option Addr} {n cap : Nat} {xs : List Value} (h : w.ownsRow base e 1 (.slice ad n cap) n xs) : HoldsV w ad n xs := by
  have h1 := h.1
  refine ⟨by omega, fun j u hj => ?_⟩
  rcases h.2 with ⟨e, hn⟩ | ⟨g, cap', cur, e, _⟩
  · have : xs = [] := List.eq_nil_of_length_eq_zero (by omega)
    subst this; simp at hj
  · simp at e
    obtain ⟨rfl, rfl⟩ := e
    exact ⟨_, rfl, h.cells (g := g) rfl j u hj⟩
theorem flat_get {α : Type} (f : α → List Value) (m : Nat) (hf : ∀ a, (f a).length = m) : ∀ (X : List α) (i j : Nat) (hi : i < X.length), j < m → (X.flatMap f)[i * m + j]? = (f X[i])[j]? := by
  intro X
  induction X with
  | nil => intro i j hi; simp at hi
  | cons a r ih =>
    intro i j hi hj
    cases i with
    | zero => simp only [List.flatMap_cons, Nat.zero_mul, Nat.zero_add, List.getElem_cons_zero]; rw [List.getElem?_append_left (by rw [hf]; exact hj)]
    | succ i =>
      simp only [List.flatMap_cons, List.getElem_cons_succ]
      rw [List.getElem?_append_right (by rw [hf, Nat.succ_mul]; omega), hf, show (i + 1) * m + j - m = i * m + j by rw [Nat.succ_mul]; omega]
      exact ih i j (by simpa using hi) hj
theorem attrsAt_own {w : World} {base : Nat} {ad : Option Addr} {cap : Nat} {X : List AttrD} (h : w.ownsRow base 83 4 (.slice ad X.length cap) X.length (X.flatMap attrC)) : AttrsAt w ad X.length X := by
  refine ⟨rfl, fun hp => ?_⟩
  rcases h.2 with ⟨e, hn⟩ | ⟨g, cap', cur, e, _⟩
  · omega
  · simp at e
    obtain ⟨rfl, rfl⟩ := e
    have hc := h.cells (g := g) rfl
    refine ⟨g, 0, rfl, fun i hi => ?_⟩
    have k0 := hc (i * 4 + 0) _ ((flat_get attrC 4 (fun _ => rfl) X i 0 hi (by omega)).trans rfl)
    have k1 := hc (i * 4 + 1) _ ((flat_get attrC 4 (fun _ => rfl) X i 1 hi (by omega)).trans rfl)
    have k2 := hc (i * 4 + 2) _ ((flat_get attrC 4 (fun _ => rfl) X i 2 hi (by omega)).trans rfl)
    have k3 := hc (i * 4 + 3) _ ((flat_get attrC 4 (fun _ => rfl) X i 3 hi (by omega)).trans rfl)
    rw [Addr.add_lit] at k0 k1 k2 k3
    exact ⟨k0, k1, k2, k3⟩
theorem eventsAt_own {w : World} {base : Nat} {ad : Option Addr} {cap : Nat} {X : List EventD} (h : w.ownsRow base 86 2 (.slice ad X.length cap) X.length (X.flatMap eventC)) : EventsAt w ad X.length X := by
  refine ⟨rfl, fun hp => ?_⟩
  rcases h.2 with ⟨e, hn⟩ | ⟨g, cap', cur, e, _⟩
  · omega
  · simp at e
    obtain ⟨rfl, rfl⟩ := e
    have hc := h.cells (g := g) rfl
    refine ⟨g, 0, rfl, fun i hi => ?_⟩
    have k0 := hc (i * 2 + 0) _ ((flat_get eventC 2 (fun _ => rfl) X i 0 hi (by omega)).trans rfl)
    have k1 := hc (i * 2 + 1) _ ((flat_get eventC 2 (fun _ => rfl) X i 1 hi (by omega)).trans rfl)
    rw [Addr.add_lit] at k0 k1
    exact ⟨k0, k1⟩
theorem upd_row (W : World) (g : Nat) (cs : Array Value) : Upd (fun k => k = g) W (W.setRow g cs) :=
  ⟨rfl, rfl, rfl, by simp [World.setRow], fun k _ hk => setRow_other W g k _ hk⟩
theorem own_len {base e size : Nat} {w : World} {ad : Option Addr} {l cap n : Nat} {xs : List Value} (h : w.ownsRow base e size (.slice ad l cap) n xs) : l = n := by
  rcases h.2 with ⟨e, hn⟩ | ⟨g, cap', cur, e, _⟩
  · simp at e; omega
  · simp at e; exact e.2.1
theorem Tryz.info41 : (Tryz.prog.info? 41).map (·.size) = some 13 := by kernel_rfl
theorem iter_le16 (K : List Int) (s : Option Nat) : (linksP K s).1.length ≤ 16 := by unfold linksP; rw [iterS_len]; exact countP_le K 16 s
theorem iter_le32a (K : List Int) (s : Option Nat) : (attrsP K s).1.length ≤ 32 := by unfold attrsP; rw [iterS_len]; exact countP_le K 32 s
theorem iter_le32e (K : List Int) (s : Option Nat) : (eventsP K s).1.length ≤ 32 := by unfold eventsP; rw [iterS_len]; exact countP_le K 32 s

end Go.Proofs.YtiflfapdffkcbaaGreatDoor
