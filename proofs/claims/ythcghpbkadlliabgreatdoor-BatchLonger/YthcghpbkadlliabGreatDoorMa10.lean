/-
  Merged by merge.py: Ze, Zi, Zj, Zd, Zt, Zu, Zo, Zx, Zy, Ym, Yn.
-/
import Derived.Test.YthcghpbkadlliabGreatDoorMa03
import Derived.Test.YthcghpbkadlliabGreatDoorMa05
import Derived.Test.YthcghpbkadlliabGreatDoorZg
import Derived.Test.YthcghpbkadlliabGreatDoorRw
import Derived.Deep.RegionHeld3
import Derived.Test.YthcghpbkadlliabGreatDoorMa06
namespace Go.Proofs.YthcghpbkadlliabGreatDoor
open Go.Shelf Go.RowKit
set_option maxRecDepth 100000

theorem set_block {w : World} {B : Nat} {cs : Array Value} {t : TypeId} {fr : Nat × Nat} (h : w.heap[B]? = some (.cells cs t fr)) (i : Nat) (v : Value) : (w.setCell ⟨B, i, none⟩ v).heap[B]? = some (.cells (cs.setIfInBounds i v) t fr) := by
  have hlt := lt_of_block h
  have h' : w.heap[B] = .cells cs t fr := by simpa [Array.getElem?_eq_getElem hlt] using h
  show (w.heap.modify B _)[B]? = _
  rw [Array.getElem?_eq_getElem (by simpa using hlt), Array.getElem_modify_self, h']
  rfl

def rawA (v : Int) (i k : Nat) : Int := if i < k then v / 256 ^ i % 256 else 0
def rawK (v : Int) (k : Nat) : List Int := [rawA v 7 k, rawA v 6 k, rawA v 5 k, rawA v 4 k, rawA v 3 k, rawA v 2 k, rawA v 1 k, rawA v 0 k]
/-- A number in eight bytes, the highest first. -/
def rawL (v : Int) : List Int := rawK v 8
theorem rawL_len (v : Int) : (rawL v).length = 8 := rfl
theorem rawL_byte (v : Int) : ∀ x ∈ rawL v, 0 ≤ x ∧ x < 256 := by
  intro x hx
  simp only [rawL, rawK, rawA, List.mem_cons, List.not_mem_nil, or_false] at hx
  have h := fun i : Nat => Int.emod_nonneg (v / 256 ^ i) (by decide : (256 : Int) ≠ 0)
  have h2 := fun i : Nat => Int.emod_lt_of_pos (v / 256 ^ i) (by decide : (0 : Int) < 256)
  rcases hx with h | h | h | h | h | h | h | h <;> subst h <;> (split; exact ⟨by apply Int.emod_nonneg; decide, by apply Int.emod_lt_of_pos; decide⟩; omega)

theorem wrap_u8 (x : Int) : IntKind.u8.wrap x = x % 256 := by simp [IntKind.wrap, IntKind.bits, IntKind.signed]

theorem eight {l : List Value} (h : l.length = 8) : ∃ x : Nat → Value, l = [x 7, x 6, x 5, x 4, x 3, x 2, x 1, x 0] := by
  match l, h with
  | [a7, a6, a5, a4, a3, a2, a1, a0], _ => exact ⟨fun i => [a0, a1, a2, a3, a4, a5, a6, a7].getD i a0, rfl⟩
/-- What a Writer's call may change: the Writer, and rows of bytes behind it. -/
structure Wch (B : Nat) (w w' : World) : Prop where
  below : Below B w w'
  other : ∀ (k : Nat) (cs : Array Value) (t : TypeId) (fz : Nat × Nat), w.heap[k]? = some (.cells cs t fz) → t ≠ 5 → k ≠ B → w'.heap[k]? = some (.cells cs t fz)
theorem Wch.refl (B : Nat) (w : World) : Wch B w w := ⟨Below.refl _ _, fun _ _ _ _ h _ _ => h⟩
theorem Wch.trans {B : Nat} {a b c : World} (h : Wch B a b) (k : Wch B b c) : Wch B a c :=
  ⟨h.below.trans k.below, fun i cs t fz hi ht hB => k.other i cs t fz (h.other i cs t fz hi ht hB) ht hB⟩
theorem Wch.ofBelow {B : Nat} {w w' : World} (h : Below w.heap.size w w') (hB : B ≤ w.heap.size) : Wch B w w' :=
  ⟨h.mono hB, fun k _ _ _ hk _ _ => (h.block k (lt_of_block hk)).trans hk⟩
/-- A Writer at block B that has laid these bytes, at most c of them. -/
structure WrC (w : World) (B : Nat) (L : List Int) (c : Nat) : Prop where
  row : ∃ v, IsW B w B v L
  cap : L.length ≤ c
theorem WrC.lt {w : World} {B : Nat} {L : List Int} {c : Nat} (h : WrC w B L c) : B < w.heap.size := by
  obtain ⟨v, hv⟩ := h.row; exact lt_of_block hv.block
theorem WrC.below {w w' : World} {B : Nat} {L : List Int} {c : Nat} (h : WrC w B L c) (hb : Below w.heap.size w w') : WrC w' B L c := by
  obtain ⟨v, hv⟩ := h.row; exact ⟨⟨v, hv.below hb⟩, h.cap⟩
theorem wch_of {w w' : World} {B : Nat} {v : Value} {L : List Int} (h : IsW B w B v L) (hu : Upd (fun k => k = B ∨ v.ownBlock = some k) w w') : Wch B w w' := by
  have hlt := lt_of_block h.block
  refine ⟨hu.below (Nat.le_of_lt hlt) (fun k hk hS => ?_), fun k cs t fz hk ht hB => (hu.block k (lt_of_block hk) (fun hS => ?_)).trans hk⟩
  · rcases hS with e | e
    · omega
    · rcases h.own.2 with ⟨e', _⟩ | ⟨g, cap, cur, e', hg, _⟩
      · rw [e'] at e; simp [Value.ownBlock] at e
      · rw [e'] at e; simp [Value.ownBlock] at e; omega
  · rcases hS with e | e
    · exact hB e
    · rcases h.own.2 with ⟨e', _⟩ | ⟨g, cap, cur, e', _, hg, _⟩
      · rw [e'] at e; simp [Value.ownBlock] at e
      · rw [e'] at e; simp [Value.ownBlock] at e
        subst e
        rw [hk] at hg
        simp at hg
        exact ht hg.2.1
theorem wnew_any (w : World) :
    Calls Tryz.prog 20 #[] w fun e w' => e = .returned (.pointer (some ⟨w.heap.size, 0, none⟩)) ∧ WrC w' w.heap.size [] 0 ∧ Below w.heap.size w w' :=
  (newWriter_any w.heap.size w).mono fun _ w' ⟨he, hW, hw⟩ => ⟨he, ⟨⟨_, hW⟩, Nat.le_refl _⟩, by rw [hw]; exact (Below.refl _ _).alloc (Nat.le_refl _) _⟩
theorem wuint_any (B : Nat) (L : List Int) (c : Nat) (u : Int) (h0 : 0 ≤ u) (h1 : u < 18446744073709551616) (w : World) (h : WrC w B L c) (hc : c ≤ 100000) :
    Calls Tryz.prog 48 #[.pointer (some ⟨B, 0, none⟩), .int .u64 u] w fun e w' => e = .returned (.tuple #[]) ∧ WrC w' B (L ++ encN u.toNat) (c + 10) ∧ Wch B w w' := by
  obtain ⟨v, hv⟩ := h.row
  have hcap := h.cap
  obtain ⟨n, rfl⟩ := Int.eq_ofNat_of_zero_le h0
  have hl := encN_len10 n (by omega)
  refine (uint_any B B v L n (by omega) w hv (Nat.le_of_lt h.lt) (by omega)).mono ?_
  rintro e w' ⟨rfl, v', hv', hu, _⟩
  exact ⟨rfl, ⟨⟨v', hv'⟩, by simp; omega⟩, wch_of hv hu⟩
theorem wint_any (B : Nat) (L : List Int) (c : Nat) (x : Int) (h0 : -9223372036854775808 ≤ x) (h1 : x ≤ 9223372036854775807) (w : World) (h : WrC w B L c) (hc : c ≤ 100000) :
    Calls Tryz.prog 53 #[.pointer (some ⟨B, 0, none⟩), .int .i64 x] w fun e w' => e = .returned (.tuple #[]) ∧ WrC w' B (L ++ encN (zigI x).toNat) (c + 10) ∧ Wch B w w' := by
  obtain ⟨v, hv⟩ := h.row
  have hcap := h.cap
  have hz0 := zig_lo x
  have hz1 := zig_hi x h0 h1
  have hl := encN_len10 (zigI x).toNat (by omega)
  refine (int_any B B v L x h0 h1 w hv (Nat.le_of_lt h.lt) (by omega)).mono ?_
  rintro e w' ⟨rfl, v', hv', hu, _⟩
  exact ⟨rfl, ⟨⟨v', hv'⟩, by simp; omega⟩, wch_of hv hu⟩
theorem wtext_any (B : Nat) (L : List Int) (c : Nat) (s : ByteArray) (hs : s.size ≤ 200) (w : World) (h : WrC w B L c) (hc : c ≤ 100000) :
    Calls Tryz.prog 57 #[.pointer (some ⟨B, 0, none⟩), .string s] w fun e w' => e = .returned (.tuple #[]) ∧ WrC w' B (L ++ (encN s.size ++ bytesI s)) (c + 210) ∧ Wch B w w' := by
  obtain ⟨v, hv⟩ := h.row
  have hcap := h.cap
  have hl := encN_len10 s.size (by omega)
  have hl2 := bytesI_length s
  refine (text_any B B v L s (by unfold maxLen; omega) w hv (Nat.le_of_lt h.lt) (by omega)).mono ?_
  rintro e w' ⟨rfl, v', hv', hu, _⟩
  rw [List.append_assoc] at hv'
  exact ⟨rfl, ⟨⟨v', hv'⟩, by simp; omega⟩, wch_of hv hu⟩
theorem wraw8_any (B : Nat) (L : List Int) (c : Nat) (ad : Option Addr) (x : Int) (w : World) (h : WrC w B L c) (hc : c ≤ 100000) (hK : Holds w ad 8 (rawL x)) :
    Calls Tryz.prog 49 #[.pointer (some ⟨B, 0, none⟩), .slice ad 8 8] w fun e w' => e = .returned (.tuple #[]) ∧ WrC w' B (L ++ rawL x) (c + 8) ∧ Wch B w w' := by
  obtain ⟨v, hv⟩ := h.row
  have hcap := h.cap
  refine (wraw_any B B v L ad 8 8 (rawL x) w hv (Nat.le_of_lt h.lt) hK (by omega)).mono ?_
  rintro e w' ⟨rfl, v', hv', hu, _⟩
  exact ⟨rfl, ⟨⟨v', hv'⟩, by simp [rawL_len]; omega⟩, wch_of hv hu⟩
end Go.Proofs.YthcghpbkadlliabGreatDoor

namespace Go.Proofs.YthcghpbkadlliabGreatDoor
open Go.Shelf Go.RowKit
set_option maxRecDepth 100000

def textL (s : ByteArray) : List Int := encN s.size ++ bytesI s
def attrL (a : AttrD) : List Int := textL a.key ++ (encN a.kind.toNat ++ (textL a.text ++ encN (zigI a.num).toNat))
def eventL (a : EventD) : List Int := encN a.moment.toNat ++ textL a.name
def catL {α : Type} (f : α → List Int) : List α → List Int
  | [] => []
  | a :: r => f a ++ catL f r
theorem catL_snoc {α : Type} (f : α → List Int) (X : List α) (k : Nat) (hk : k < X.length) : catL f (X.take (k + 1)) = catL f (X.take k) ++ f X[k] := by
  induction X generalizing k with
  | nil => simp at hk
  | cons a r ih =>
    cases k with
    | zero => simp [catL]
    | succ k =>
      simp only [List.take_succ_cons, catL, List.getElem_cons_succ]
      rw [ih k (by simpa using hk), List.append_assoc]
theorem box_cells {w : World} {g : Nat} {cs : Array Value} {t : TypeId} (h : w.heap[g]? = some (.cells cs t (0, 0))) (j : Nat) {u : Value} (hu : cs[j]? = some u) : w.cell? ⟨g, j, none⟩ = some u := by
  simp [World.cell?, h, hu]

end Go.Proofs.YthcghpbkadlliabGreatDoor

namespace Go.Proofs.YthcghpbkadlliabGreatDoor
open Go.Shelf Go.RowKit
set_option maxRecDepth 100000

/-- Its numbers are of their types. -/
structure Sp.Fits (a : Sp) : Prop where
  hi : 0 ≤ a.hi ∧ a.hi < 18446744073709551616
  lo : 0 ≤ a.lo ∧ a.lo < 18446744073709551616
  id : 0 ≤ a.id ∧ a.id < 18446744073709551616
  par : 0 ≤ a.par ∧ a.par < 18446744073709551616
  links : ∀ x ∈ a.links, 0 ≤ x ∧ x < 18446744073709551616
  attrs : ∀ x ∈ a.attrs, -9223372036854775808 ≤ x.num ∧ x.num ≤ 9223372036854775807
/-- A span's bytes. -/
def encS (a : Sp) : List Int :=
  rawL a.hi ++ (rawL a.lo ++ (rawL a.id ++ (rawL a.par ++ (encN a.links.length ++ (catL rawL a.links ++ (textL a.svc ++ (textL a.op ++ (encN a.kind.toNat ++ (encN a.status.toNat ++ (encN a.start.toNat ++ (encN a.fin.toNat ++ ((encN a.attrs.length ++ catL attrL a.attrs) ++ (encN a.events.length ++ catL eventL a.events)))))))))))))
theorem plainB_ok {s : ByteArray} {m l : Int} (h : plainB s m l = true) : 1 ≤ s.size ∧ (s.size : Int) ≤ m ∧ Lib.validD s.data.toList = true := by
  simp only [plainB, Bool.and_eq_true, decide_eq_true_eq] at h
  exact ⟨h.1.1.1, h.1.1.2, h.1.2⟩
/-- What Check's word means. -/
structure Sp.Good (a : Sp) : Prop where
  id : ¬ (a.hi = 0 ∧ a.lo = 0) ∧ a.id ≠ 0
  start : 0 ≤ a.start ∧ a.start ≤ 4611686018427387904
  fin : 0 ≤ a.fin ∧ a.fin ≤ 4611686018427387904
  svc : 1 ≤ a.svc.size ∧ a.svc.size ≤ 60 ∧ Lib.validD a.svc.data.toList = true
  op : 1 ≤ a.op.size ∧ a.op.size ≤ 100 ∧ Lib.validD a.op.data.toList = true
  kind : 0 ≤ a.kind ∧ a.kind ≤ 4
  status : 0 ≤ a.status ∧ a.status ≤ 2
  links : a.links.length ≤ 16
  attrs : a.attrs.length ≤ 32
  attr : ∀ x ∈ a.attrs, 1 ≤ x.key.size ∧ x.key.size ≤ 40 ∧ x.text.size ≤ 200 ∧ 0 ≤ x.kind ∧ x.kind ≤ 2
  events : a.events.length ≤ 32
  event : ∀ x ∈ a.events, 1 ≤ x.name.size ∧ x.name.size ≤ 100 ∧ 0 ≤ x.moment ∧ x.moment ≤ 4611686018427387904
theorem chk_good {a : Sp} (h : chkS a = 0) : a.Good := by
  unfold chkS at h
  split at h
  · omega
  rename_i h1
  split at h
  · omega
  rename_i h2
  split at h
  · omega
  rename_i h3
  split at h
  · omega
  rename_i h4
  split at h
  · omega
  rename_i h5
  split at h
  · omega
  rename_i h6
  split at h
  · omega
  rename_i h7
  simp only [Bool.or_eq_true, decide_eq_true_eq, Bool.not_eq_true', not_or, Bool.not_eq_false] at h1 h2 h3 h4 h5 h6 h7
  obtain ⟨⟨m1, m2⟩, _⟩ := h2
  simp only [momB, Bool.and_eq_true, decide_eq_true_eq] at m1 m2
  obtain ⟨p1, p2⟩ := h3
  have q1 := plainB_ok p1
  have q2 := plainB_ok p2
  simp only [linksB, attrsB, eventsB, Bool.and_eq_true, decide_eq_true_eq, List.all_eq_true] at h5 h6 h7
  refine ⟨h1, m1, m2, ⟨q1.1, by omega, q1.2.2⟩, ⟨q2.1, by omega, q2.2.2⟩, by omega, by omega, h5.1.1, h6.1.1, fun x hx => ?_, h7.1.1, fun x hx => ?_⟩
  · have := h6.2 x hx
    simp only [attrB, Bool.and_eq_true, keyB, decide_eq_true_eq] at this
    obtain ⟨⟨⟨⟨k1, k2⟩, _⟩, _⟩, v1⟩ := this
    refine ⟨k1, k2, ?_⟩
    unfold valB at v1
    split at v1
    · simp only [Bool.and_eq_true, decide_eq_true_eq] at v1; omega
    · split at v1
      · simp only [decide_eq_true_eq] at v1; omega
      · split at v1
        · simp only [Bool.and_eq_true, decide_eq_true_eq] at v1; omega
        · simp at v1
  · have := h7.2 x hx
    simp only [eventB, Bool.and_eq_true, momB, decide_eq_true_eq] at this
    have q := plainB_ok this.2
    exact ⟨q.1, by omega, this.1⟩

theorem wbytes_any (B : Nat) (L : List Int) (c : Nat) (w : World) (h : WrC w B L c) (hc : c ≤ 100000) :
    Calls Tryz.prog 58 #[.pointer (some ⟨B, 0, none⟩)] w fun e w' => e = .returned (.slice (some ⟨w.heap.size, 0, none⟩) L.length L.length) ∧ RowAt w' w.heap.size L ∧ Below w.heap.size w w' := by
  obtain ⟨v, hv⟩ := h.row
  have := h.cap
  exact bytes_any B B v L w hv (by omega)
end Go.Proofs.YthcghpbkadlliabGreatDoor

namespace Go.Proofs.YthcghpbkadlliabGreatDoor
open Go.Shelf Go.RowKit
set_option maxRecDepth 100000

theorem blk_cell {w : World} {g : Nat} {cs : Array Value} {t : TypeId} {fz : Nat × Nat} (h : w.heap[g]? = some (.cells cs t fz)) (j : Nat) {u : Value} (hu : cs[j]? = some u) : w.cell? ⟨g, j, none⟩ = some u := by
  simp [World.cell?, h, hu]
theorem blk_free {w : World} {g : Nat} {cs : Array Value} {t : TypeId} (h : w.heap[g]? = some (.cells cs t (0, 0))) (j : Nat) : w.frozen? ⟨g, j, none⟩ = false := by
  simp [World.frozen?, h]
abbrev TR (T R : Nat) : Nat → Prop := fun k => k = T ∨ k = R
theorem ne_of_types {w : World} {a b : Nat} {c d : Array Value} {s t : TypeId} {f h : Nat × Nat} (h1 : w.heap[a]? = some (.cells c s f)) (h2 : w.heap[b]? = some (.cells d t h)) (hne : s ≠ t) : a ≠ b := by
  rintro rfl
  rw [h1] at h2
  simp at h2
  exact hne h2.2.1
theorem upd_ok {T R : Nat} {w w' : World} {v : Value} (h : Upd (fun k => k = R) w w') : Upd (TR T R) w (w'.setCell ⟨T, 1, none⟩ v) :=
  Upd.setCell (S := TR T R) (p := ⟨T, 1, none⟩) (h.mono (fun _ _ e => Or.inr e)) (fun _ => Or.inl rfl) _
theorem upd_bad {T R : Nat} {w w' : World} {v : Value} (h : Below w.heap.size w w') : Upd (TR T R) w (w'.setCell ⟨T, 1, none⟩ v) :=
  Upd.setCell (S := TR T R) (p := ⟨T, 1, none⟩) (Upd.ofBelow h (fun k hk hk' => by omega)) (fun _ => Or.inl rfl) _

/-- A number is taken. -/
def uintP (K : List Int) : Option Nat → Int × Option Nat
  | none => (0, none)
  | some t => match scanN (K.drop t) 0 0 with
    | some (some (v, n)) => ((v : Int), some (t + n))
    | _ => (0, none)
def intP (K : List Int) (s : Option Nat) : Int × Option Nat :=
  match s with
  | none => (0, none)
  | some t => match scanN (K.drop t) 0 0 with
    | some (some (v, n)) => (zagI v, some (t + n))
    | _ => (0, none)
def textP (K : List Int) (most : Int) : Option Nat → ByteArray × Option Nat
  | none => (ByteArray.empty, none)
  | some t => match textR K t most with
    | Except.ok (f, v) => (strI ((K.drop f).take v), some (f + v))
    | Except.error _ => (ByteArray.empty, none)

end Go.Proofs.YthcghpbkadlliabGreatDoor

namespace Go.Proofs.YthcghpbkadlliabGreatDoor
open Go.Shelf Go.RowKit
set_option maxRecDepth 100000

theorem Upd.drewL {S : Nat → Prop} {a b : World} {m : Nat} (h : Upd S (a.drewN m) b) : Upd S a b := ⟨h.os, h.tape, h.output, h.size, h.block⟩
theorem below_drewL {B : Nat} {a b : World} {m : Nat} (h : Below B (a.drewN m) b) : Below B a b := ⟨h.os, h.tape, h.output, h.size, h.block⟩

def smallP (K : List Int) (s : Option Nat) : Int × Option Nat := (min (uintP K s).1 2147483647, (uintP K s).2)
def momP (K : List Int) (s : Option Nat) : Int × Option Nat := (min (uintP K s).1 4611686018427387905, (uintP K s).2)
theorem uintP_rng (K : List Int) (s : Option Nat) (hK : ∀ x ∈ K, 0 ≤ x ∧ x < 256) : 0 ≤ (uintP K s).1 ∧ (uintP K s).1 < 18446744073709551616 := by
  cases s with
  | none => simp [uintP]
  | some t =>
    unfold uintP
    simp only
    have hv := scan_val (K.drop t) 0 0
    generalize scanN (K.drop t) 0 0 = r at hv ⊢
    cases r using NumRes.each with
    | ok v n =>
      have := hv v n (fun x hx => hK x (List.mem_of_mem_drop hx)) (by omega) (by simp) rfl
      simp; omega
    | form => simp
    | ended => simp
/-- How many there are of a list that has at most so many. -/
def countP (K : List Int) (most : Nat) (s : Option Nat) : Nat × Option Nat := if (most : Int) < (uintP K s).1 then (0, none) else ((uintP K s).1.toNat, (uintP K s).2)
/-- All must be taken. -/
def endP (K : List Int) : Option Nat → Option Nat
  | none => none
  | some t => if t = K.length then some t else none
end Go.Proofs.YthcghpbkadlliabGreatDoor

namespace Go.Proofs.YthcghpbkadlliabGreatDoor
open Go.Shelf Go.RowKit
set_option maxRecDepth 100000

theorem raw_short (R g : Nat) (K : List Int) (t n : Nat) (w : World) (h : IsR w R g K t) (hn : K.length < t + n) :
    Calls Tryz.prog 28 #[.pointer (some ⟨R, 0, none⟩), .int .i64 n] w fun e w' => ∃ p, e = .returned (.tuple #[.slice none 0 0, .iface 95 (.pointer (some ⟨p, 0, none⟩))]) ∧ IsF w' p K.length 11 ∧ w.heap.size ≤ p ∧ Below w.heap.size w w' := by
  have L := left_any R g K t w h
  have hc0 := h.c0
  have hsm := h.small
  have hle := h.le
  have hne : ¬ ((n : Int) ≤ ((K.length - t : Nat) : Int)) := by omega
  have hne2 : ((K.length - t : Nat) : Int) < (n : Int) := by omega
  go_enter Tryz.func28, Tryz.ntmps28
  go_wp2_with (first | (go_at_call 61; refine L.mono ?_; rintro e w' ⟨rfl, nn, rfl⟩) | (go_at_call 60; refine (fault_any _ _ _).mono ?_; rintro e w3 ⟨rfl, rfl⟩))
  go_ret2
  exact ⟨w.heap.size, rfl, heap_alloc_new _ _, Nat.le_refl _, (below_drewN (Below.refl _ _) _).alloc (Nat.le_refl _) _⟩

/-- Eight bytes as a number. -/
def unrawL (l : List Int) : Int := l.foldl (fun v c => v * 256 + c) 0
def rawP (K : List Int) : Option Nat → Int × Option Nat
  | none => (0, none)
  | some t => if t + 8 ≤ K.length then (unrawL ((K.drop t).take 8), some (t + 8)) else (0, none)
theorem or_low (v c : Int) (h0 : 0 ≤ v) (h1 : v < 72057594037927936) (h2 : 0 ≤ c) (h3 : c < 256) : bits .or .u64 (v * 256) c = v * 256 + c := by
  obtain ⟨a, rfl⟩ := Int.eq_ofNat_of_zero_le h0
  obtain ⟨b, rfl⟩ := Int.eq_ofNat_of_zero_le h2
  have h1' : a < 72057594037927936 := by omega
  have h3' : b < 256 := by omega
  rw [show ((a : Int) * 256) = ((a * 256 : Nat) : Int) by omega, u64_or_nat (a * 256) b (by omega) (by omega)]
  have := Nat.shiftLeft_add_eq_or_of_lt (i := 8) (b := b) (by omega) a
  rw [Nat.shiftLeft_eq] at this
  rw [← this]
  omega
theorem unraw_snoc (l : List Int) (c : Int) : unrawL (l ++ [c]) = unrawL l * 256 + c := by simp [unrawL]
theorem unraw_bound : ∀ (k : Nat) (l : List Int), l.length = k → (∀ x ∈ l, 0 ≤ x ∧ x < 256) → 0 ≤ unrawL l ∧ unrawL l < 256 ^ k := by
  intro k
  induction k with
  | zero => intro l hl _; have : l = [] := List.eq_nil_of_length_eq_zero hl; subst this; simp [unrawL]
  | succ k ih =>
    intro l hl hb
    have hne : l ≠ [] := by intro e; subst e; simp at hl
    obtain ⟨m, c, rfl⟩ : ∃ m c, l = m ++ [c] := ⟨l.dropLast, l.getLast hne, (List.dropLast_concat_getLast hne).symm⟩
    have hm := ih m (by simpa using hl) (fun x hx => hb x (by simp [hx]))
    have hc := hb c (by simp)
    rw [unraw_snoc, Int.pow_succ]
    omega

end Go.Proofs.YthcghpbkadlliabGreatDoor

namespace Go.Proofs.YthcghpbkadlliabGreatDoor
open Go.Shelf Go.RowKit
set_option maxRecDepth 100000

/-- A block of another kind than a taker's. -/
structure Far (w : World) (T R g E : Nat) : Prop where
  t : T ≠ E
  r : R ≠ E
  g : g ≠ E
  f : E ≠ 1
  a : E ≠ 2
theorem own_neW {base : Nat} {w : World} {e : TypeId} {size : Nat} {v : Value} {n : Nat} {xs : List Value} (h : w.ownsRow base e size v n xs) {R : Nat} {cs : Array Value} {t : TypeId} {fz : Nat × Nat} (hR : w.heap[R]? = some (.cells cs t fz)) (hne : e ≠ t) : v.ownBlock ≠ some R := by
  intro hk
  rcases h.2 with ⟨rfl, _⟩ | ⟨g, cap, cur, rfl, _, hg, _⟩
  · simp [Value.ownBlock] at hk
  · simp [Value.ownBlock] at hk
    subst hk
    rw [hR] at hg
    simp at hg
    exact hne hg.2.1.symm
/-- So many takings, one behind the other. -/
def iterS {α : Type} (f : Option Nat → α × Option Nat) : Nat → Option Nat → List α × Option Nat
  | 0, s => ([], s)
  | k + 1, s => ((iterS f k s).1 ++ [(f (iterS f k s).2).1], (f (iterS f k s).2).2)
theorem iterS_len {α : Type} (f : Option Nat → α × Option Nat) (k : Nat) (s : Option Nat) : (iterS f k s).1.length = k := by
  induction k with
  | zero => rfl
  | succ k ih => simp [iterS, ih]
theorem countP_le (K : List Int) (most : Nat) (s : Option Nat) : (countP K most s).1 ≤ most := by
  unfold countP; split <;> simp <;> omega
def linksP (K : List Int) (s : Option Nat) : List Int × Option Nat := iterS (rawP K) (countP K 16 s).1 (countP K 16 s).2
theorem rawP_rng (K : List Int) (s : Option Nat) (hK : ∀ x ∈ K, 0 ≤ x ∧ x < 256) : 0 ≤ (rawP K s).1 ∧ (rawP K s).1 < 18446744073709551616 := by
  cases s with
  | none => simp [rawP]
  | some t =>
    unfold rawP
    simp only
    split
    · have := unraw_bound 8 ((K.drop t).take 8) (by simp; omega) (fun x hx => hK x (List.mem_of_mem_drop (List.mem_of_mem_take hx)))
      simpa using this
    · simp
theorem Tryz.info34 : (Tryz.prog.info? 34).map (fun i => (i.zero, i.size, i.bytes)) = some (some (.int .u64 0), 1, 8) := by kernel_rfl
theorem upd_new {S : Nat → Prop} {a b c : World} {v : Value} {base e size n : Nat} {xs : List Value} (hu : Upd S a b) (ho : b.ownsRow base e size v n xs) (hb : a.heap.size ≤ base) (hg : b.grownBy c v.ownBlock) : Upd S a c :=
  hu.grown hg (fun k hk e => by
    rcases ho.2 with ⟨rfl, _⟩ | ⟨g, cap, cur, rfl, hbg, _⟩
    · simp [Value.ownBlock] at e
    · simp [Value.ownBlock] at e; omega)

end Go.Proofs.YthcghpbkadlliabGreatDoor

namespace Go.Proofs.YthcghpbkadlliabGreatDoor
open Go.Shelf Go.RowKit
set_option maxRecDepth 100000

theorem a4_0 (a b c d v : Value) : (#[a, b, c, d] : Array Value).setIfInBounds 0 v = #[v, b, c, d] := rfl
theorem a4_1 (a b c d v : Value) : (#[a, b, c, d] : Array Value).setIfInBounds 1 v = #[a, v, c, d] := rfl
theorem a4_2 (a b c d v : Value) : (#[a, b, c, d] : Array Value).setIfInBounds 2 v = #[a, b, v, d] := rfl
theorem a4_3 (a b c d v : Value) : (#[a, b, c, d] : Array Value).setIfInBounds 3 v = #[a, b, c, v] := rfl
theorem a2_0 (a b v : Value) : (#[a, b] : Array Value).setIfInBounds 0 v = #[v, b] := rfl
theorem a2_1 (a b v : Value) : (#[a, b] : Array Value).setIfInBounds 1 v = #[a, v] := rfl

def attrP (K : List Int) (s : Option Nat) : AttrD × Option Nat :=
  (⟨(textP K 40 s).1, (smallP K (textP K 40 s).2).1, (textP K 200 (smallP K (textP K 40 s).2).2).1, (intP K (textP K 200 (smallP K (textP K 40 s).2).2).2).1⟩, (intP K (textP K 200 (smallP K (textP K 40 s).2).2).2).2)
def eventP (K : List Int) (s : Option Nat) : EventD × Option Nat := (⟨(momP K s).1, (textP K 100 (momP K s).2).1⟩, (textP K 100 (momP K s).2).2)
def attrC (a : AttrD) : List Value := [.string a.key, .int .i64 a.kind, .string a.text, .int .i64 a.num]
def eventC (a : EventD) : List Value := [.int .i64 a.moment, .string a.name]
def attrsP (K : List Int) (s : Option Nat) : List AttrD × Option Nat := iterS (attrP K) (countP K 32 s).1 (countP K 32 s).2
def eventsP (K : List Int) (s : Option Nat) : List EventD × Option Nat := iterS (eventP K) (countP K 32 s).1 (countP K 32 s).2
theorem Tryz.info56 : (Tryz.prog.info? 56).map (fun i => (i.zero, i.size, i.bytes)) = some (some (.agg #[.string ⟨#[]⟩, .int .i64 0, .string ⟨#[]⟩, .int .i64 0]), 4, 48) := by kernel_rfl
theorem Tryz.info58 : (Tryz.prog.info? 58).map (fun i => (i.zero, i.size, i.bytes)) = some (some (.agg #[.int .i64 0, .string ⟨#[]⟩]), 2, 24) := by kernel_rfl
theorem upd_far {S : Nat → Prop} {w0 w : World} {E i : Nat} {v : Value} (hu : Upd S w0 w) (hE : w0.heap.size ≤ E) : Upd S w0 (w.setCell ⟨E, i, none⟩ v) :=
  Upd.setCell (p := ⟨E, i, none⟩) hu (fun h => by simp at h; omega) v

theorem own_fresh {base : Nat} {w : World} {e : TypeId} {size : Nat} {v : Value} {n : Nat} {xs : List Value} (h : w.ownsRow base e size v n xs) : v.ownBlock ≠ some w.heap.size := by
  intro hk
  rcases h.2 with ⟨rfl, _⟩ | ⟨g, cap, cur, rfl, _, hg, _⟩
  · simp [Value.ownBlock] at hk
  · simp [Value.ownBlock] at hk
    have := lt_of_block hg
    omega
theorem eventP_eq (K : List Int) (s : Option Nat) : eventP K s = (⟨(momP K s).1, (textP K 100 (momP K s).2).1⟩, (textP K 100 (momP K s).2).2) := rfl
theorem attrP_eq (K : List Int) (s : Option Nat) : attrP K s = (⟨(textP K 40 s).1, (smallP K (textP K 40 s).2).1, (textP K 200 (smallP K (textP K 40 s).2).2).1, (intP K (textP K 200 (smallP K (textP K 40 s).2).2).2).1⟩, (intP K (textP K 200 (smallP K (textP K 40 s).2).2).2).2) := rfl

end Go.Proofs.YthcghpbkadlliabGreatDoor

namespace Go.Proofs.YthcghpbkadlliabGreatDoor
open Go.Shelf Go.RowKit
set_option maxRecDepth 100000

theorem a13_0 (a0 a1 a2 a3 a4 a5 a6 a7 a8 a9 a10 a11 a12 v : Value) : (#[a0, a1, a2, a3, a4, a5, a6, a7, a8, a9, a10, a11, a12] : Array Value).setIfInBounds 0 v = #[v, a1, a2, a3, a4, a5, a6, a7, a8, a9, a10, a11, a12] := by simp
theorem a13_1 (a0 a1 a2 a3 a4 a5 a6 a7 a8 a9 a10 a11 a12 v : Value) : (#[a0, a1, a2, a3, a4, a5, a6, a7, a8, a9, a10, a11, a12] : Array Value).setIfInBounds 1 v = #[a0, v, a2, a3, a4, a5, a6, a7, a8, a9, a10, a11, a12] := by simp
theorem a13_2 (a0 a1 a2 a3 a4 a5 a6 a7 a8 a9 a10 a11 a12 v : Value) : (#[a0, a1, a2, a3, a4, a5, a6, a7, a8, a9, a10, a11, a12] : Array Value).setIfInBounds 2 v = #[a0, a1, v, a3, a4, a5, a6, a7, a8, a9, a10, a11, a12] := by simp
theorem a13_3 (a0 a1 a2 a3 a4 a5 a6 a7 a8 a9 a10 a11 a12 v : Value) : (#[a0, a1, a2, a3, a4, a5, a6, a7, a8, a9, a10, a11, a12] : Array Value).setIfInBounds 3 v = #[a0, a1, a2, v, a4, a5, a6, a7, a8, a9, a10, a11, a12] := by simp
theorem a13_4 (a0 a1 a2 a3 a4 a5 a6 a7 a8 a9 a10 a11 a12 v : Value) : (#[a0, a1, a2, a3, a4, a5, a6, a7, a8, a9, a10, a11, a12] : Array Value).setIfInBounds 4 v = #[a0, a1, a2, a3, v, a5, a6, a7, a8, a9, a10, a11, a12] := by simp
theorem a13_5 (a0 a1 a2 a3 a4 a5 a6 a7 a8 a9 a10 a11 a12 v : Value) : (#[a0, a1, a2, a3, a4, a5, a6, a7, a8, a9, a10, a11, a12] : Array Value).setIfInBounds 5 v = #[a0, a1, a2, a3, a4, v, a6, a7, a8, a9, a10, a11, a12] := by simp
theorem a13_6 (a0 a1 a2 a3 a4 a5 a6 a7 a8 a9 a10 a11 a12 v : Value) : (#[a0, a1, a2, a3, a4, a5, a6, a7, a8, a9, a10, a11, a12] : Array Value).setIfInBounds 6 v = #[a0, a1, a2, a3, a4, a5, v, a7, a8, a9, a10, a11, a12] := by simp
theorem a13_7 (a0 a1 a2 a3 a4 a5 a6 a7 a8 a9 a10 a11 a12 v : Value) : (#[a0, a1, a2, a3, a4, a5, a6, a7, a8, a9, a10, a11, a12] : Array Value).setIfInBounds 7 v = #[a0, a1, a2, a3, a4, a5, a6, v, a8, a9, a10, a11, a12] := by simp
theorem a13_8 (a0 a1 a2 a3 a4 a5 a6 a7 a8 a9 a10 a11 a12 v : Value) : (#[a0, a1, a2, a3, a4, a5, a6, a7, a8, a9, a10, a11, a12] : Array Value).setIfInBounds 8 v = #[a0, a1, a2, a3, a4, a5, a6, a7, v, a9, a10, a11, a12] := by simp
theorem a13_9 (a0 a1 a2 a3 a4 a5 a6 a7 a8 a9 a10 a11 a12 v : Value) : (#[a0, a1, a2, a3, a4, a5, a6, a7, a8, a9, a10, a11, a12] : Array Value).setIfInBounds 9 v = #[a0, a1, a2, a3, a4, a5, a6, a7, a8, v, a10, a11, a12] := by simp
theorem a13_10 (a0 a1 a2 a3 a4 a5 a6 a7 a8 a9 a10 a11 a12 v : Value) : (#[a0, a1, a2, a3, a4, a5, a6, a7, a8, a9, a10, a11, a12] : Array Value).setIfInBounds 10 v = #[a0, a1, a2, a3, a4, a5, a6, a7, a8, a9, v, a11, a12] := by simp
theorem a13_11 (a0 a1 a2 a3 a4 a5 a6 a7 a8 a9 a10 a11 a12 v : Value) : (#[a0, a1, a2, a3, a4, a5, a6, a7, a8, a9, a10, a11, a12] : Array Value).setIfInBounds 11 v = #[a0, a1, a2, a3, a4, a5, a6, a7, a8, a9, a10, v, a12] := by simp
theorem a13_12 (a0 a1 a2 a3 a4 a5 a6 a7 a8 a9 a10 a11 a12 v : Value) : (#[a0, a1, a2, a3, a4, a5, a6, a7, a8, a9, a10, a11, a12] : Array Value).setIfInBounds 12 v = #[a0, a1, a2, a3, a4, a5, a6, a7, a8, a9, a10, a11, v] := by simp
theorem set13_eq (w : World) (g : Nat) (t : TypeId) (z0 z1 z2 z3 z4 z5 z6 z7 z8 z9 z10 z11 z12 v0 v1 v2 v3 v4 v5 v6 v7 v8 v9 v10 v11 v12 : Value) (hg : w.heap[g]? = some (.cells #[z0, z1, z2, z3, z4, z5, z6, z7, z8, z9, z10, z11, z12] t (0, 0))) :
    (((((((((((((w.setCell ⟨g, 0, none⟩ v0).setCell ⟨g, 1, none⟩ v1).setCell ⟨g, 2, none⟩ v2).setCell ⟨g, 3, none⟩ v3).setCell ⟨g, 4, none⟩ v4).setCell ⟨g, 5, none⟩ v5).setCell ⟨g, 6, none⟩ v6).setCell ⟨g, 7, none⟩ v7).setCell ⟨g, 8, none⟩ v8).setCell ⟨g, 9, none⟩ v9).setCell ⟨g, 10, none⟩ v10).setCell ⟨g, 11, none⟩ v11).setCell ⟨g, 12, none⟩ v12) = w.setRow g #[v0, v1, v2, v3, v4, v5, v6, v7, v8, v9, v10, v11, v12] := by
  rw [setCell_eq_setRow w g 0 _ t (0, 0) v0 hg, a13_0,
    setCell_eq_setRow _ g 1 _ t (0, 0) v1 (setRow_heap w g _ _ t _ hg), setRow_setRow, a13_1,
    setCell_eq_setRow _ g 2 _ t (0, 0) v2 (setRow_heap w g _ _ t _ hg), setRow_setRow, a13_2,
    setCell_eq_setRow _ g 3 _ t (0, 0) v3 (setRow_heap w g _ _ t _ hg), setRow_setRow, a13_3,
    setCell_eq_setRow _ g 4 _ t (0, 0) v4 (setRow_heap w g _ _ t _ hg), setRow_setRow, a13_4,
    setCell_eq_setRow _ g 5 _ t (0, 0) v5 (setRow_heap w g _ _ t _ hg), setRow_setRow, a13_5,
    setCell_eq_setRow _ g 6 _ t (0, 0) v6 (setRow_heap w g _ _ t _ hg), setRow_setRow, a13_6,
    setCell_eq_setRow _ g 7 _ t (0, 0) v7 (setRow_heap w g _ _ t _ hg), setRow_setRow, a13_7,
    setCell_eq_setRow _ g 8 _ t (0, 0) v8 (setRow_heap w g _ _ t _ hg), setRow_setRow, a13_8,
    setCell_eq_setRow _ g 9 _ t (0, 0) v9 (setRow_heap w g _ _ t _ hg), setRow_setRow, a13_9,
    setCell_eq_setRow _ g 10 _ t (0, 0) v10 (setRow_heap w g _ _ t _ hg), setRow_setRow, a13_10,
    setCell_eq_setRow _ g 11 _ t (0, 0) v11 (setRow_heap w g _ _ t _ hg), setRow_setRow, a13_11,
    setCell_eq_setRow _ g 12 _ t (0, 0) v12 (setRow_heap w g _ _ t _ hg), setRow_setRow, a13_12]
/-- What is read. -/
def spanP (K : List Int) (s : Option Nat) : Sp × Option Nat :=
  let r0 := rawP K s
  let r1 := rawP K r0.2
  let r2 := rawP K r1.2
  let r3 := rawP K r2.2
  let r4 := linksP K r3.2
  let r5 := textP K 60 r4.2
  let r6 := textP K 100 r5.2
  let r7 := smallP K r6.2
  let r8 := smallP K r7.2
  let r9 := momP K r8.2
  let r10 := momP K r9.2
  let r11 := attrsP K r10.2
  let r12 := eventsP K r11.2
  (⟨r0.1, r1.1, r2.1, r3.1, r4.1, r5.1, r6.1, r7.1, r8.1, r9.1, r10.1, r11.1, r12.1⟩, r12.2)

theorem holdsV_own {w : World} {base e : Nat} {ad : Option Addr} {n cap : Nat} {xs : List Value} (h : w.ownsRow base e 1 (.slice ad n cap) n xs) : HoldsV w ad n xs := by
  have h1 := h.1
  refine ⟨by omega, fun j u hj => ?_⟩
  rcases h.2 with ⟨e, hn⟩ | ⟨g, cap', cur, e, _⟩
  · have : xs = [] := List.eq_nil_of_length_eq_zero (by omega)
    subst this; simp at hj
  · simp at e
    obtain ⟨rfl, rfl⟩ := e
    exact ⟨_, rfl, h.cells (g := g) rfl j u hj⟩
theorem flat_get {α : Type} (f : α → List Value) (m : Nat) (hf : ∀ a, (f a).length = m) : ∀ (X : List α) (i j : Nat) (hi : i < X.length), j < m → (X.flatMap f)[i * m + j]? = (f X[i])[j]? := by
  intro X
  induction X with
  | nil => intro i j hi; simp at hi
  | cons a r ih =>
    intro i j hi hj
    cases i with
    | zero => simp only [List.flatMap_cons, Nat.zero_mul, Nat.zero_add, List.getElem_cons_zero]; rw [List.getElem?_append_left (by rw [hf]; exact hj)]
    | succ i =>
      simp only [List.flatMap_cons, List.getElem_cons_succ]
      rw [List.getElem?_append_right (by rw [hf, Nat.succ_mul]; omega), hf, show (i + 1) * m + j - m = i * m + j by rw [Nat.succ_mul]; omega]
      exact ih i j (by simpa using hi) hj
theorem attrsAt_own {w : World} {base : Nat} {ad : Option Addr} {cap : Nat} {X : List AttrD} (h : w.ownsRow base 56 4 (.slice ad X.length cap) X.length (X.flatMap attrC)) : AttrsAt w ad X.length X := by
  refine ⟨rfl, fun hp => ?_⟩
  rcases h.2 with ⟨e, hn⟩ | ⟨g, cap', cur, e, _⟩
  · omega
  · simp at e
    obtain ⟨rfl, rfl⟩ := e
    have hc := h.cells (g := g) rfl
    refine ⟨g, 0, rfl, fun i hi => ?_⟩
    have k0 := hc (i * 4 + 0) _ ((flat_get attrC 4 (fun _ => rfl) X i 0 hi (by omega)).trans rfl)
    have k1 := hc (i * 4 + 1) _ ((flat_get attrC 4 (fun _ => rfl) X i 1 hi (by omega)).trans rfl)
    have k2 := hc (i * 4 + 2) _ ((flat_get attrC 4 (fun _ => rfl) X i 2 hi (by omega)).trans rfl)
    have k3 := hc (i * 4 + 3) _ ((flat_get attrC 4 (fun _ => rfl) X i 3 hi (by omega)).trans rfl)
    rw [Addr.add_lit] at k0 k1 k2 k3
    exact ⟨k0, k1, k2, k3⟩
theorem eventsAt_own {w : World} {base : Nat} {ad : Option Addr} {cap : Nat} {X : List EventD} (h : w.ownsRow base 58 2 (.slice ad X.length cap) X.length (X.flatMap eventC)) : EventsAt w ad X.length X := by
  refine ⟨rfl, fun hp => ?_⟩
  rcases h.2 with ⟨e, hn⟩ | ⟨g, cap', cur, e, _⟩
  · omega
  · simp at e
    obtain ⟨rfl, rfl⟩ := e
    have hc := h.cells (g := g) rfl
    refine ⟨g, 0, rfl, fun i hi => ?_⟩
    have k0 := hc (i * 2 + 0) _ ((flat_get eventC 2 (fun _ => rfl) X i 0 hi (by omega)).trans rfl)
    have k1 := hc (i * 2 + 1) _ ((flat_get eventC 2 (fun _ => rfl) X i 1 hi (by omega)).trans rfl)
    rw [Addr.add_lit] at k0 k1
    exact ⟨k0, k1⟩
theorem upd_row (W : World) (g : Nat) (cs : Array Value) : Upd (fun k => k = g) W (W.setRow g cs) :=
  ⟨rfl, rfl, rfl, by simp [World.setRow], fun k _ hk => setRow_other W g k _ hk⟩
theorem own_len {base e size : Nat} {w : World} {ad : Option Addr} {l cap n : Nat} {xs : List Value} (h : w.ownsRow base e size (.slice ad l cap) n xs) : l = n := by
  rcases h.2 with ⟨e, hn⟩ | ⟨g, cap', cur, e, _⟩
  · simp at e; omega
  · simp at e; exact e.2.1
theorem Tryz.info41 : (Tryz.prog.info? 41).map (·.size) = some 13 := by kernel_rfl
theorem iter_le16 (K : List Int) (s : Option Nat) : (linksP K s).1.length ≤ 16 := by unfold linksP; rw [iterS_len]; exact countP_le K 16 s
theorem iter_le32a (K : List Int) (s : Option Nat) : (attrsP K s).1.length ≤ 32 := by unfold attrsP; rw [iterS_len]; exact countP_le K 32 s
theorem iter_le32e (K : List Int) (s : Option Nat) : (eventsP K s).1.length ≤ 32 := by unfold eventsP; rw [iterS_len]; exact countP_le K 32 s

end Go.Proofs.YthcghpbkadlliabGreatDoor

namespace Go.Proofs.YthcghpbkadlliabGreatDoor
open Go.Shelf Go.RowKit
set_option maxRecDepth 100000

theorem drop_app {K A B : List Int} {t : Nat} (h : K.drop t = A ++ B) : K.drop (t + A.length) = B := by
  rw [← List.drop_drop, h, List.drop_left]
theorem uintP_back {K rest : List Int} {t u : Nat} (h : K.drop t = encN u ++ rest) (hu : u < 18446744073709551616) : uintP K (some t) = ((u : Int), some (t + (encN u).length)) := by
  unfold uintP; simp only; rw [h, scan_enc u rest hu]
theorem uintP_one {K : List Int} {t t' : Nat} {v : Int} (hK : ∀ x ∈ K, 0 ≤ x ∧ x < 256) (h : uintP K (some t) = (v, some t')) : 0 ≤ v ∧ K.drop t = encN v.toNat ++ K.drop t' := by
  unfold uintP at h
  simp only at h
  have hf := scan_form (K.drop t) 0 0
  generalize hr : scanN (K.drop t) 0 0 = r at h hf
  cases r using NumRes.each with
  | ok v0 n =>
    simp at h
    obtain ⟨rfl, rfl⟩ := h
    obtain ⟨u, h1, _, h3⟩ := hf v0 n (fun x hx => hK x (List.mem_of_mem_drop hx)) rfl
    have hu : v0 = u := by simpa using h1
    subst hu
    refine ⟨by omega, ?_⟩
    rw [show ((v0 : Int)).toNat = v0 by omega, ← h3, Nat.sub_zero, ← List.drop_drop, List.take_append_drop]
  | form => simp at h
  | ended => simp at h
theorem intP_back {K rest : List Int} {t : Nat} {x : Int} (h0 : -9223372036854775808 ≤ x) (h1 : x ≤ 9223372036854775807) (h : K.drop t = encN (zigI x).toNat ++ rest) : intP K (some t) = (x, some (t + (encN (zigI x).toNat).length)) := by
  have z0 := zig_lo x
  have z1 := zig_hi x h0 h1
  unfold intP; simp only; rw [h, scan_enc _ rest (by omega)]
  simp only
  rw [show (((zigI x).toNat : Nat) : Int) = zigI x by omega, zag_zig]
theorem intP_one {K : List Int} {t t' : Nat} {v : Int} (hK : ∀ x ∈ K, 0 ≤ x ∧ x < 256) (h : intP K (some t) = (v, some t')) : K.drop t = encN (zigI v).toNat ++ K.drop t' := by
  unfold intP at h
  simp only at h
  have hf := scan_form (K.drop t) 0 0
  generalize hr : scanN (K.drop t) 0 0 = r at h hf
  cases r using NumRes.each with
  | ok v0 n =>
    simp at h
    obtain ⟨rfl, rfl⟩ := h
    obtain ⟨u, h1, _, h3⟩ := hf v0 n (fun x hx => hK x (List.mem_of_mem_drop hx)) rfl
    have hu : v0 = u := by simpa using h1
    subst hu
    rw [zig_zag _ (by omega), show ((v0 : Int)).toNat = v0 by omega, ← h3, Nat.sub_zero, ← List.drop_drop, List.take_append_drop]
  | form => simp at h
  | ended => simp at h
theorem raw_y (x : Int) : ∀ i : Nat, x / 256 ^ (i + 1) = x / 256 ^ i / 256 := by
  intro i
  rw [Int.pow_succ, Int.ediv_ediv_of_nonneg (by apply Int.pow_nonneg; decide)]
theorem unraw_raw (x : Int) (h0 : 0 ≤ x) (h1 : x < 18446744073709551616) : unrawL (rawL x) = x := by
  have y1 := raw_y x 0
  have y2 := raw_y x 1
  have y3 := raw_y x 2
  have y4 := raw_y x 3
  have y5 := raw_y x 4
  have y6 := raw_y x 5
  have y7 := raw_y x 6
  simp only [rawL, rawK, rawA, unrawL, List.foldl_cons, List.foldl_nil]
  simp only [show (7:Nat) < 8 by decide, show (6:Nat) < 8 by decide, show (5:Nat) < 8 by decide, show (4:Nat) < 8 by decide, show (3:Nat) < 8 by decide, show (2:Nat) < 8 by decide, show (1:Nat) < 8 by decide, show (0:Nat) < 8 by decide, if_true]
  simp only [Nat.zero_add, Int.pow_zero, Int.ediv_one] at *
  generalize x / 256 ^ 1 = a1 at *
  generalize x / 256 ^ 2 = a2 at *
  generalize x / 256 ^ 3 = a3 at *
  generalize x / 256 ^ 4 = a4 at *
  generalize x / 256 ^ 5 = a5 at *
  generalize x / 256 ^ 6 = a6 at *
  generalize x / 256 ^ 7 = a7 at *
  omega
theorem raw_unraw (l : List Int) (hl : l.length = 8) (hb : ∀ x ∈ l, 0 ≤ x ∧ x < 256) : rawL (unrawL l) = l := by
  match l, hl with
  | [b7, b6, b5, b4, b3, b2, b1, b0], _ =>
    have k7 := hb b7 (by simp)
    have k6 := hb b6 (by simp)
    have k5 := hb b5 (by simp)
    have k4 := hb b4 (by simp)
    have k3 := hb b3 (by simp)
    have k2 := hb b2 (by simp)
    have k1 := hb b1 (by simp)
    have k0 := hb b0 (by simp)
    obtain ⟨x, hx⟩ : ∃ x, unrawL [b7, b6, b5, b4, b3, b2, b1, b0] = x := ⟨_, rfl⟩
    rw [hx]
    simp only [unrawL, List.foldl_cons, List.foldl_nil] at hx
    have y1 := raw_y x 0
    have y2 := raw_y x 1
    have y3 := raw_y x 2
    have y4 := raw_y x 3
    have y5 := raw_y x 4
    have y6 := raw_y x 5
    have y7 := raw_y x 6
    simp only [rawL, rawK, rawA]
    simp only [show (7:Nat) < 8 by decide, show (6:Nat) < 8 by decide, show (5:Nat) < 8 by decide, show (4:Nat) < 8 by decide, show (3:Nat) < 8 by decide, show (2:Nat) < 8 by decide, show (1:Nat) < 8 by decide, show (0:Nat) < 8 by decide, if_true]
    simp only [Nat.zero_add, Int.pow_zero, Int.ediv_one] at *
    generalize x / 256 ^ 1 = a1 at *
    generalize x / 256 ^ 2 = a2 at *
    generalize x / 256 ^ 3 = a3 at *
    generalize x / 256 ^ 4 = a4 at *
    generalize x / 256 ^ 5 = a5 at *
    generalize x / 256 ^ 6 = a6 at *
    generalize x / 256 ^ 7 = a7 at *
    have e1 : a1 = (((((b7 * 256 + b6) * 256 + b5) * 256 + b4) * 256 + b3) * 256 + b2) * 256 + b1 := by omega
    have e2 : a2 = ((((b7 * 256 + b6) * 256 + b5) * 256 + b4) * 256 + b3) * 256 + b2 := by omega
    have e3 : a3 = (((b7 * 256 + b6) * 256 + b5) * 256 + b4) * 256 + b3 := by omega
    have e4 : a4 = ((b7 * 256 + b6) * 256 + b5) * 256 + b4 := by omega
    have e5 : a5 = (b7 * 256 + b6) * 256 + b5 := by omega
    have e6 : a6 = b7 * 256 + b6 := by omega
    have e7 : a7 = b7 := by omega
    rw [show a7 % 256 = b7 by omega, show a6 % 256 = b6 by omega, show a5 % 256 = b5 by omega, show a4 % 256 = b4 by omega, show a3 % 256 = b3 by omega, show a2 % 256 = b2 by omega, show a1 % 256 = b1 by omega, show x % 256 = b0 by omega]
theorem rawP_back {K rest : List Int} {t : Nat} {x : Int} (h0 : 0 ≤ x) (h1 : x < 18446744073709551616) (h : K.drop t = rawL x ++ rest) : rawP K (some t) = (x, some (t + (rawL x).length)) := by
  have hl : t + 8 ≤ K.length := by
    have := congrArg List.length h
    simp [rawL_len] at this
    omega
  unfold rawP; simp only; rw [if_pos hl, h, List.take_append_of_le_length (by rw [rawL_len]; omega), List.take_of_length_le (by rw [rawL_len]; omega), unraw_raw x h0 h1]
  rfl
theorem rawP_one {K : List Int} {t t' : Nat} {v : Int} (hK : ∀ x ∈ K, 0 ≤ x ∧ x < 256) (h : rawP K (some t) = (v, some t')) : K.drop t = rawL v ++ K.drop t' := by
  unfold rawP at h
  simp only at h
  split at h
  · simp at h
    obtain ⟨rfl, rfl⟩ := h
    rw [raw_unraw _ (by simp; omega) (fun x hx => hK x (List.mem_of_mem_drop (List.mem_of_mem_take hx))), ← List.drop_drop, List.take_append_drop]
  · simp at h
theorem textP_back {K rest : List Int} {t : Nat} {most : Int} {s : ByteArray} (hm : (s.size : Int) ≤ most) (hu : endL (bytesI s) = s.size) (hs : s.size < 18446744073709551616) (h : K.drop t = textL s ++ rest) : textP K most (some t) = (s, some (t + (textL s).length)) := by
  have hl := bytesI_length s
  unfold textL at h
  rw [List.append_assoc] at h
  have h2 := drop_app h
  have hlen : t + (encN s.size).length + s.size ≤ K.length := by
    have := congrArg List.length h
    have hp := encN_pos s.size
    simp [hl] at this
    omega
  have htk : (K.drop (t + (encN s.size).length)).take s.size = bytesI s := by
    rw [h2, List.take_append_of_le_length (by omega), List.take_of_length_le (by omega)]
  have hR : textR K t most = .ok (t + (encN s.size).length) s.size := by
    unfold textR
    rw [if_neg (by omega), h, scan_enc _ _ hs]
    simp only
    rw [if_neg (by omega), if_neg (by omega), htk, hu, if_neg (by omega)]
  unfold textP; simp only; rw [hR]; simp only; rw [htk, strI_bytesI]
  simp [textL, hl, Nat.add_assoc]
theorem textP_one {K : List Int} {t t' : Nat} {most : Int} {s : ByteArray} (hK : ∀ x ∈ K, 0 ≤ x ∧ x < 256) (h : textP K most (some t) = (s, some t')) : K.drop t = textL s ++ K.drop t' := by
  unfold textP at h
  simp only at h
  generalize hr : textR K t most = r at h
  cases r using TxtRes.each with
  | ok f v =>
    simp at h
    obtain ⟨rfl, rfl⟩ := h
    obtain ⟨n, h1, rfl, h3⟩ := textR_ok K t most f v hr
    obtain ⟨u, k1, _, k3⟩ := scan_form (K.drop t) 0 0 v n (fun x hx => hK x (List.mem_of_mem_drop hx)) h1
    have hu : v = u := by simpa using k1
    subst hu
    have hby : ∀ x ∈ (K.drop (t + n)).take v, 0 ≤ x ∧ x < 256 := fun x hx => hK x (List.mem_of_mem_drop (List.mem_of_mem_take hx))
    have e1 := bytesI_strI _ hby
    have e2 : (strI ((K.drop (t + n)).take v)).size = v := by rw [strI_size]; simp; omega
    unfold textL
    have d1 : K.drop (t + n) = (K.drop t).drop n := by rw [List.drop_drop]
    have d2 : K.drop (t + n + v) = ((K.drop t).drop n).drop v := by rw [List.drop_drop, List.drop_drop, Nat.add_assoc]
    rw [e1, e2, ← k3, Nat.sub_zero, List.append_assoc, d1, d2, List.take_append_drop, List.take_append_drop]
  | bad a n => simp at h
theorem textP_size (K : List Int) (most : Int) (s : Option Nat) : (textP K most s).1.size ≤ K.length := by
  cases s with
  | none => simp [textP]
  | some t =>
    unfold textP
    simp only
    generalize textR K t most = r
    cases r using TxtRes.each with
    | ok f v => simp only [strI_size]; simp; omega
    | bad a n => simp
theorem smallP_back {K rest : List Int} {t u : Nat} (h : K.drop t = encN u ++ rest) (hu : u ≤ 2147483647) : smallP K (some t) = ((u : Int), some (t + (encN u).length)) := by
  unfold smallP; rw [uintP_back h (by omega)]; simp; omega
theorem smallP_one {K : List Int} {t t' : Nat} {v : Int} (hK : ∀ x ∈ K, 0 ≤ x ∧ x < 256) (h : smallP K (some t) = (v, some t')) (hv : v ≤ 100) : K.drop t = encN v.toNat ++ K.drop t' := by
  unfold smallP at h
  simp only [Prod.mk.injEq] at h
  obtain ⟨h1, h2⟩ := h
  have := uintP_one (v := (uintP K (some t)).1) (t' := t') hK (Prod.ext rfl h2)
  rw [show (uintP K (some t)).1 = v by omega] at this
  exact this.2
theorem momP_back {K rest : List Int} {t u : Nat} (h : K.drop t = encN u ++ rest) (hu : u ≤ 4611686018427387904) : momP K (some t) = ((u : Int), some (t + (encN u).length)) := by
  unfold momP; rw [uintP_back h (by omega)]; simp; omega
theorem momP_one {K : List Int} {t t' : Nat} {v : Int} (hK : ∀ x ∈ K, 0 ≤ x ∧ x < 256) (h : momP K (some t) = (v, some t')) (hv : v ≤ 4611686018427387904) : K.drop t = encN v.toNat ++ K.drop t' := by
  unfold momP at h
  simp only [Prod.mk.injEq] at h
  obtain ⟨h1, h2⟩ := h
  have := uintP_one (v := (uintP K (some t)).1) (t' := t') hK (Prod.ext rfl h2)
  rw [show (uintP K (some t)).1 = v by omega] at this
  exact this.2
theorem countP_back {K rest : List Int} {t u most : Nat} (h : K.drop t = encN u ++ rest) (hu : u ≤ most) (hm : most ≤ 1000) : countP K most (some t) = (u, some (t + (encN u).length)) := by
  unfold countP; rw [uintP_back h (by omega), if_neg (by simp; omega)]; simp
theorem countP_one {K : List Int} {t t' most n : Nat} (hK : ∀ x ∈ K, 0 ≤ x ∧ x < 256) (h : countP K most (some t) = (n, some t')) : K.drop t = encN n ++ K.drop t' := by
  unfold countP at h
  split at h
  · simp at h
  · simp only [Prod.mk.injEq] at h
    obtain ⟨h1, h2⟩ := h
    have := uintP_one (v := (uintP K (some t)).1) (t' := t') hK (Prod.ext rfl h2)
    rw [h1] at this
    exact this.2
theorem iterS_cons {α : Type} (f : Option Nat → α × Option Nat) (k : Nat) : ∀ s, iterS f (k + 1) s = ((f s).1 :: (iterS f k (f s).2).1, (iterS f k (f s).2).2) := by
  induction k with
  | zero => intro s; rfl
  | succ k ih => intro s; rw [iterS, ih s]; rfl
theorem iter_back {α : Type} {f : Option Nat → α × Option Nat} {enc : α → List Int} {K : List Int} {ok : α → Prop} (hf : ∀ t x rest, ok x → K.drop t = enc x ++ rest → f (some t) = (x, some (t + (enc x).length))) :
    ∀ (X : List α) (t : Nat) (rest : List Int), (∀ x ∈ X, ok x) → K.drop t = catL enc X ++ rest → iterS f X.length (some t) = (X, some (t + (catL enc X).length)) := by
  intro X
  induction X with
  | nil => intro t rest _ _; simp [iterS, catL]
  | cons x r ih =>
    intro t rest hok h
    simp only [catL, List.append_assoc] at h
    have h1 := hf t x _ (hok x (by simp)) h
    rw [List.length_cons, iterS_cons, h1]
    simp only
    rw [ih (t + (enc x).length) rest (fun y hy => hok y (by simp [hy])) (drop_app h)]
    simp [catL, Nat.add_assoc]
theorem iter_none {α : Type} {f : Option Nat → α × Option Nat} (h0 : (f none).2 = none) : ∀ n, (iterS f n none).2 = none := by
  intro n
  induction n with
  | zero => rfl
  | succ n ih => rw [iterS]; simp only; rw [ih]; exact h0
theorem iter_one {α : Type} {f : Option Nat → α × Option Nat} {enc : α → List Int} {K : List Int} {ok : α → Prop} (h0 : (f none).2 = none) (hf : ∀ t x t', f (some t) = (x, some t') → ok x → K.drop t = enc x ++ K.drop t') :
    ∀ (n t : Nat) (X : List α) (t' : Nat), iterS f n (some t) = (X, some t') → (∀ x ∈ X, ok x) → K.drop t = catL enc X ++ K.drop t' := by
  intro n
  induction n with
  | zero => intro t X t' h _; simp [iterS] at h; obtain ⟨rfl, rfl⟩ := h; simp [catL]
  | succ n ih =>
    intro t X t' h hok
    rw [iterS_cons] at h
    simp only [Prod.mk.injEq] at h
    obtain ⟨rfl, h2⟩ := h
    cases hs : (f (some t)).2 with
    | none => rw [hs, iter_none h0] at h2; simp at h2
    | some t1 =>
      rw [hs] at h2 hok
      have k1 := hf t (f (some t)).1 t1 (Prod.ext rfl hs) (hok _ (by simp))
      have k2 := ih t1 (iterS f n (some t1)).1 t' (Prod.ext rfl h2) (fun x hx => hok x (by simp [hx]))
      rw [k1, k2]
      simp [catL]
theorem iter_all {α : Type} {f : Option Nat → α × Option Nat} {ok : α → Prop} (hf : ∀ s, ok (f s).1) : ∀ n s, ∀ x ∈ (iterS f n s).1, ok x := by
  intro n
  induction n with
  | zero => intro s x hx; simp [iterS] at hx
  | succ n ih =>
    intro s x hx
    simp only [iterS, List.mem_append, List.mem_singleton] at hx
    rcases hx with hx | rfl
    · exact ih s x hx
    · exact hf _
end Go.Proofs.YthcghpbkadlliabGreatDoor

namespace Go.Proofs.YthcghpbkadlliabGreatDoor
open Go.Shelf Go.RowKit
set_option maxRecDepth 100000

def intsU (l : List UInt8) : List Int := l.map fun b => (b.toNat : Int)
theorem strI_intsU (l : List UInt8) : strI (intsU l) = ⟨l.toArray⟩ := by
  have := strI_bytesI ⟨l.toArray⟩
  simpa [bytesI, intsU] using this
theorem intsU_byte (l : List UInt8) : ∀ x ∈ intsU l, 0 ≤ x ∧ x < 256 := by
  intro x hx
  obtain ⟨b, _, rfl⟩ := List.mem_map.1 hx
  have := b.toNat_lt
  omega
theorem valid_endG : ∀ (n : Nat) (l : List UInt8), l.length ≤ n → Lib.validGoD n l = true → endL (intsU l) = l.length := by
  intro n
  induction n with
  | zero => intro l hl _; have : l = [] := List.eq_nil_of_length_eq_zero (by omega); subst this; rfl
  | succ n ih =>
    intro l hl h
    by_cases h0 : l = []
    · subst h0; rfl
    · have hpos : 0 < l.length := List.length_pos_iff.2 h0
      rw [Lib.validGoD, if_neg h0] at h
      split at h
      · simp at h
      · rename_i hv
        have hd : Lib.decodeGo (strI (intsU l)) = Lib.decodeL l := by
          rw [strI_intsU]
          unfold Lib.decodeGo Lib.decodeL
          rw [if_neg (by show ¬ l.toArray.size = 0; simp; exact h0)]
        obtain ⟨q1, q2⟩ := decode_rune (intsU l) (by simpa [intsU] using hpos) (intsU_byte l)
        rw [hd] at q1 q2
        have hr : runeL (intsU l) ≠ 0 := fun e => by
          have := q1 e
          exact hv ⟨by rw [this], by rw [this]⟩
        obtain ⟨q3, _⟩ := q2 (by omega)
        have hle := rune_le (intsU l)
        have hll : (intsU l).length = l.length := by simp [intsU]
        rw [hll] at hle
        rw [q3] at h
        rw [endL_step _ (by omega)]
        have e : (intsU l).drop (runeL (intsU l)) = intsU (l.drop (runeL (intsU l))) := by simp [intsU, List.map_drop]
        rw [e, ih (l.drop (runeL (intsU l))) (by simp; omega) h]
        simp; omega
theorem valid_end (s : ByteArray) (h : Lib.validD s.data.toList = true) : endL (bytesI s) = s.size := by
  have := valid_endG _ s.data.toList (Nat.le_refl _) h
  have e : (s.data.toList).length = s.size := by rw [Array.length_toList]; rfl
  rw [e] at this
  exact this
theorem ascii_end : ∀ (l : List Int), (∀ x ∈ l, 0 ≤ x ∧ x < 128) → endL l = l.length := by
  intro l
  induction l with
  | nil => intro _; rfl
  | cons x r ih =>
    intro h
    have hx := h x (by simp)
    have e : runeL (x :: r) = 1 := by
      unfold runeL
      rw [show bt (x :: r) 0 = x by rfl]
      unfold runeOf
      rw [if_neg (by omega), if_pos (by omega)]
    rw [endL_step _ (by omega), e]
    simp only [List.drop_one, List.tail_cons, List.length_cons]
    rw [ih (fun y hy => h y (by simp [hy]))]
    omega
theorem inF_ascii : ∀ c ∈ keyF, c.toNat < 128 := by decide
theorem inR_ascii : ∀ c ∈ keyR, c.toNat < 128 := by decide
theorem inL_lt {l : List UInt8} (hl : ∀ c ∈ l, c.toNat < 128) {x : Int} (h0 : 0 ≤ x) (h1 : x < 256) (h : inL l x = true) : x < 128 := by
  unfold inL at h
  have hm := List.contains_iff_mem.1 h
  have := hl _ hm
  have e : x.toNat.toUInt8.toNat = x.toNat := by simp; omega
  omega
theorem key_end (s : ByteArray) (h : keyB s = true) : endL (bytesI s) = s.size := by
  simp only [keyB, Bool.and_eq_true, decide_eq_true_eq, List.all_eq_true] at h
  obtain ⟨⟨⟨h1, _⟩, h3⟩, h4⟩ := h
  have hb := bytesI_byte s
  have hl := bytesI_length s
  rw [← hl]
  apply ascii_end
  intro x hx
  have hxb := hb x hx
  refine ⟨hxb.1, ?_⟩
  cases hs : bytesI s with
  | nil => rw [hs] at hx; simp at hx
  | cons y r =>
    rw [hs] at hx h3 h4
    simp only [List.mem_cons] at hx
    rcases hx with rfl | hx
    · exact inL_lt inF_ascii hxb.1 hxb.2 (by simpa [bt] using h3)
    · exact inL_lt inR_ascii hxb.1 hxb.2 (h4 x (by simpa using hx))
/-- All its texts are UTF-8. -/
structure Sp.Utf (a : Sp) : Prop where
  svc : endL (bytesI a.svc) = a.svc.size
  op : endL (bytesI a.op) = a.op.size
  attrs : ∀ x ∈ a.attrs, endL (bytesI x.key) = x.key.size ∧ endL (bytesI x.text) = x.text.size
  events : ∀ x ∈ a.events, endL (bytesI x.name) = x.name.size
theorem chk_parts {a : Sp} (h : chkS a = 0) : attrsB a.attrs = true ∧ eventsB a.events = true := by
  unfold chkS at h
  split at h
  · omega
  split at h
  · omega
  split at h
  · omega
  split at h
  · omega
  split at h
  · omega
  split at h
  · omega
  rename_i h6
  split at h
  · omega
  rename_i h7
  simpa using And.intro h6 h7
theorem chk_utf {a : Sp} (h : chkS a = 0) : a.Utf := by
  have hG := chk_good h
  obtain ⟨h6, h7⟩ := chk_parts h
  simp only [attrsB, eventsB, Bool.and_eq_true, decide_eq_true_eq, List.all_eq_true] at h6 h7
  refine ⟨valid_end _ hG.svc.2.2, valid_end _ hG.op.2.2, fun x hx => ?_, fun x hx => ?_⟩
  · have := h6.2 x hx
    simp only [attrB, Bool.and_eq_true] at this
    refine ⟨key_end _ this.1, ?_⟩
    have hz : x.text.size = 0 → endL (bytesI x.text) = x.text.size := fun e => by
      have : bytesI x.text = [] := List.eq_nil_of_length_eq_zero (by rw [bytesI_length]; exact e)
      rw [this, e]; rfl
    have v1 := this.2
    unfold valB at v1
    split at v1
    · simp only [Bool.and_eq_true, decide_eq_true_eq] at v1
      exact valid_end _ v1.2
    · split at v1
      · simp only [decide_eq_true_eq] at v1; exact hz v1
      · split at v1
        · simp only [Bool.and_eq_true, decide_eq_true_eq] at v1; exact hz v1.1
        · simp at v1
  · have := h7.2 x hx
    simp only [eventB, Bool.and_eq_true] at this
    exact valid_end _ (plainB_ok this.2).2.2

theorem attrP_back {K rest : List Int} {t : Nat} {x : AttrD} (h1 : x.key.size ≤ 40) (h2 : x.text.size ≤ 200) (h3 : 0 ≤ x.kind ∧ x.kind ≤ 2) (h4 : -9223372036854775808 ≤ x.num ∧ x.num ≤ 9223372036854775807) (u1 : endL (bytesI x.key) = x.key.size) (u2 : endL (bytesI x.text) = x.text.size)
    (h : K.drop t = attrL x ++ rest) : attrP K (some t) = (x, some (t + (attrL x).length)) := by
  unfold attrL at h
  simp only [List.append_assoc] at h
  have k1 := textP_back (most := 40) (by omega) u1 (by omega) h
  have d1 := drop_app h
  have k2 := smallP_back d1 (by omega)
  have d2 := drop_app d1
  have k3 := textP_back (most := 200) (by omega) u2 (by omega) d2
  have d3 := drop_app d2
  have k4 := intP_back h4.1 h4.2 d3
  rw [attrP_eq, k1]
  simp only
  rw [k2]
  simp only
  rw [k3]
  simp only
  rw [k4]
  simp only [attrL, List.length_append, Nat.add_assoc]
  rw [show ((x.kind.toNat : Nat) : Int) = x.kind by omega]
theorem eventP_back {K rest : List Int} {t : Nat} {x : EventD} (h1 : x.name.size ≤ 100) (h3 : 0 ≤ x.moment ∧ x.moment ≤ 4611686018427387904) (u1 : endL (bytesI x.name) = x.name.size)
    (h : K.drop t = eventL x ++ rest) : eventP K (some t) = (x, some (t + (eventL x).length)) := by
  unfold eventL at h
  simp only [List.append_assoc] at h
  have k1 := momP_back h (by omega)
  have d1 := drop_app h
  have k2 := textP_back (most := 100) (by omega) u1 (by omega) d1
  rw [eventP_eq, k1]
  simp only
  rw [k2]
  simp only [eventL, List.length_append, Nat.add_assoc]
  rw [show ((x.moment.toNat : Nat) : Int) = x.moment by omega]
set_option maxHeartbeats 1000000 in
theorem span_back (a : Sp) (hf : a.Fits) (hc : chkS a = 0) : spanP (encS a) (some 0) = (a, some (encS a).length) := by
  have hG := chk_good hc
  have hU := chk_utf hc
  have g := hG.kind; have g1 := hG.status; have g2 := hG.start; have g3 := hG.fin
  obtain ⟨K, hK⟩ : ∃ K, encS a = K := ⟨_, rfl⟩
  have D : K.drop 0 = rawL a.hi ++ (rawL a.lo ++ (rawL a.id ++ (rawL a.par ++ (encN a.links.length ++ (catL rawL a.links ++ (textL a.svc ++ (textL a.op ++ (encN a.kind.toNat ++ (encN a.status.toNat ++ (encN a.start.toNat ++ (encN a.fin.toNat ++ (encN a.attrs.length ++ (catL attrL a.attrs ++ (encN a.events.length ++ (catL eventL a.events ++ []))))))))))))))) := by
    rw [← hK]; simp [encS]
  have r0 := rawP_back hf.hi.1 hf.hi.2 D
  have d0 := drop_app D
  have r1 := rawP_back hf.lo.1 hf.lo.2 d0
  have d1 := drop_app d0
  have r2 := rawP_back hf.id.1 hf.id.2 d1
  have d2 := drop_app d1
  have r3 := rawP_back hf.par.1 hf.par.2 d2
  have d3 := drop_app d2
  have c4 := countP_back (most := 16) d3 hG.links (by omega)
  have d3' := drop_app d3
  have r4 := iter_back (f := rawP K) (enc := rawL) (ok := fun x => 0 ≤ x ∧ x < 18446744073709551616) (fun t x rest ok h => rawP_back ok.1 ok.2 h) a.links _ _ hf.links d3'
  have d4 := drop_app d3'
  have r5 := textP_back (most := 60) (by have := hG.svc.2.1; omega) hU.svc (by have := hG.svc.2.1; omega) d4
  have d5 := drop_app d4
  have r6 := textP_back (most := 100) (by have := hG.op.2.1; omega) hU.op (by have := hG.op.2.1; omega) d5
  have d6 := drop_app d5
  have r7 := smallP_back d6 (by omega)
  have d7 := drop_app d6
  have r8 := smallP_back d7 (by omega)
  have d8 := drop_app d7
  have r9 := momP_back d8 (by omega)
  have d9 := drop_app d8
  have r10 := momP_back d9 (by omega)
  have d10 := drop_app d9
  have c11 := countP_back (most := 32) d10 hG.attrs (by omega)
  have d10' := drop_app d10
  have r11 := iter_back (f := attrP K) (enc := attrL) (ok := fun x => x ∈ a.attrs) (fun t x rest ok h => by
    have h1 := hG.attr x ok
    have h2 := hU.attrs x ok
    exact attrP_back (by omega) (by omega) (by omega) (hf.attrs x ok) h2.1 h2.2 h) a.attrs _ _ (fun x hx => hx) d10'
  have d11 := drop_app d10'
  have c12 := countP_back (most := 32) d11 hG.events (by omega)
  have d11' := drop_app d11
  have r12 := iter_back (f := eventP K) (enc := eventL) (ok := fun x => x ∈ a.events) (fun t x rest ok h => by
    have h1 := hG.event x ok
    have h2 := hU.events x ok
    exact eventP_back (by omega) (by omega) h2 h) a.events _ _ (fun x hx => hx) d11'
  have R4 : linksP K (some (0 + (rawL a.hi).length + (rawL a.lo).length + (rawL a.id).length + (rawL a.par).length)) = (a.links, some (0 + (rawL a.hi).length + (rawL a.lo).length + (rawL a.id).length + (rawL a.par).length + (encN a.links.length).length + (catL rawL a.links).length)) := by
    unfold linksP; rw [c4]; exact r4
  rw [hK]
  unfold spanP
  simp only [r0, r1, r2, r3, R4, r5, r6, r7, r8, r9, r10]
  unfold attrsP
  simp only [c11, r11]
  unfold eventsP
  simp only [c12, r12]
  have L : K.length = 0 + (rawL a.hi).length + (rawL a.lo).length + (rawL a.id).length + (rawL a.par).length + (encN a.links.length).length + (catL rawL a.links).length + (textL a.svc).length + (textL a.op).length + (encN a.kind.toNat).length + (encN a.status.toNat).length + (encN a.start.toNat).length + (encN a.fin.toNat).length + (encN a.attrs.length).length + (catL attrL a.attrs).length + (encN a.events.length).length + (catL eventL a.events).length := by
    rw [← hK]; simp only [encS, List.length_append, Nat.add_assoc, Nat.zero_add]
  rw [L]
  rw [show ((a.kind.toNat : Nat) : Int) = a.kind by omega, show ((a.status.toNat : Nat) : Int) = a.status by omega, show ((a.start.toNat : Nat) : Int) = a.start by omega, show ((a.fin.toNat : Nat) : Int) = a.fin by omega]
end Go.Proofs.YthcghpbkadlliabGreatDoor
