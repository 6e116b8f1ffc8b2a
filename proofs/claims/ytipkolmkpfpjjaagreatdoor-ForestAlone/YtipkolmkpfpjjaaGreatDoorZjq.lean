/-
  Merged: Zj, Tx.
-/
import Derived.Test.YtipkolmkpfpjjaaGreatDoorZiq
import Derived.Test.YtipkolmkpfpjjaaGreatDoorZg
import Derived.Test.YtipkolmkpfpjjaaGreatDoorFBq
namespace Go.Proofs.YtipkolmkpfpjjaaGreatDoor
open Go.Shelf Go.RowKit
set_option maxRecDepth 100000

/-- Its numbers are of their types. -/
structure Sp.Fits (a : Sp) : Prop where
  hi : 0 ≤ a.hi ∧ a.hi < 18446744073709551616
  lo : 0 ≤ a.lo ∧ a.lo < 18446744073709551616
  id : 0 ≤ a.id ∧ a.id < 18446744073709551616
  par : 0 ≤ a.par ∧ a.par < 18446744073709551616
  links : ∀ x ∈ a.links, 0 ≤ x ∧ x < 18446744073709551616
  attrs : ∀ x ∈ a.attrs, -9223372036854775808 ≤ x.num ∧ x.num ≤ 9223372036854775807
/-- A span's bytes. -/
def encS (a : Sp) : List Int :=
  rawL a.hi ++ (rawL a.lo ++ (rawL a.id ++ (rawL a.par ++ (encN a.links.length ++ (catL rawL a.links ++ (textL a.svc ++ (textL a.op ++ (encN a.kind.toNat ++ (encN a.status.toNat ++ (encN a.start.toNat ++ (encN a.fin.toNat ++ ((encN a.attrs.length ++ catL attrL a.attrs) ++ (encN a.events.length ++ catL eventL a.events)))))))))))))
theorem plainB_ok {s : ByteArray} {m l : Int} (h : plainB s m l = true) : 1 ≤ s.size ∧ (s.size : Int) ≤ m ∧ Lib.validD s.data.toList = true := by
  simp only [plainB, Bool.and_eq_true, decide_eq_true_eq] at h
  exact ⟨h.1.1.1, h.1.1.2, h.1.2⟩
/-- What Check's word means. -/
structure Sp.Good (a : Sp) : Prop where
  id : ¬ (a.hi = 0 ∧ a.lo = 0) ∧ a.id ≠ 0
  start : 0 ≤ a.start ∧ a.start ≤ 4611686018427387904
  fin : 0 ≤ a.fin ∧ a.fin ≤ 4611686018427387904
  svc : 1 ≤ a.svc.size ∧ a.svc.size ≤ 60 ∧ Lib.validD a.svc.data.toList = true
  op : 1 ≤ a.op.size ∧ a.op.size ≤ 100 ∧ Lib.validD a.op.data.toList = true
  kind : 0 ≤ a.kind ∧ a.kind ≤ 4
  status : 0 ≤ a.status ∧ a.status ≤ 2
  links : a.links.length ≤ 16
  attrs : a.attrs.length ≤ 32
  attr : ∀ x ∈ a.attrs, 1 ≤ x.key.size ∧ x.key.size ≤ 40 ∧ x.text.size ≤ 200 ∧ 0 ≤ x.kind ∧ x.kind ≤ 2
  events : a.events.length ≤ 32
  event : ∀ x ∈ a.events, 1 ≤ x.name.size ∧ x.name.size ≤ 100 ∧ 0 ≤ x.moment ∧ x.moment ≤ 4611686018427387904
theorem chk_good {a : Sp} (h : chkS a = 0) : a.Good := by
  unfold chkS at h
  split at h
  · omega
  rename_i h1
  split at h
  · omega
  rename_i h2
  split at h
  · omega
  rename_i h3
  split at h
  · omega
  rename_i h4
  split at h
  · omega
  rename_i h5
  split at h
  · omega
  rename_i h6
  split at h
  · omega
  rename_i h7
  simp only [Bool.or_eq_true, decide_eq_true_eq, Bool.not_eq_true', not_or, Bool.not_eq_false] at h1 h2 h3 h4 h5 h6 h7
  obtain ⟨⟨m1, m2⟩, _⟩ := h2
  simp only [momB, Bool.and_eq_true, decide_eq_true_eq] at m1 m2
  obtain ⟨p1, p2⟩ := h3
  have q1 := plainB_ok p1
  have q2 := plainB_ok p2
  simp only [linksB, attrsB, eventsB, Bool.and_eq_true, decide_eq_true_eq, List.all_eq_true] at h5 h6 h7
  refine ⟨h1, m1, m2, ⟨q1.1, by omega, q1.2.2⟩, ⟨q2.1, by omega, q2.2.2⟩, by omega, by omega, h5.1.1, h6.1.1, fun x hx => ?_, h7.1.1, fun x hx => ?_⟩
  · have := h6.2 x hx
    simp only [attrB, Bool.and_eq_true, keyB, decide_eq_true_eq] at this
    obtain ⟨⟨⟨⟨k1, k2⟩, _⟩, _⟩, v1⟩ := this
    refine ⟨k1, k2, ?_⟩
    unfold valB at v1
    split at v1
    · simp only [Bool.and_eq_true, decide_eq_true_eq] at v1; omega
    · split at v1
      · simp only [decide_eq_true_eq] at v1; omega
      · split at v1
        · simp only [Bool.and_eq_true, decide_eq_true_eq] at v1; omega
        · simp at v1
  · have := h7.2 x hx
    simp only [eventB, Bool.and_eq_true, momB, decide_eq_true_eq] at this
    have q := plainB_ok this.2
    exact ⟨q.1, by omega, this.1⟩

end Go.Proofs.YtipkolmkpfpjjaaGreatDoor

namespace Go.Proofs.YtipkolmkpfpjjaaGreatDoor
open Go.Shelf Go.RowKit
set_option maxRecDepth 100000

/-- What Text answers: the text's place and length; or what is wrong, and where. -/
abbrev TxtRes := Except (Nat × Nat) (Nat × Nat)
abbrev TxtRes.ok (from_ v : Nat) : TxtRes := Except.ok (from_, v)
abbrev TxtRes.bad (at_ no : Nat) : TxtRes := Except.error (at_, no)
theorem TxtRes.each {motive : TxtRes → Prop} (ok : ∀ f v, motive (.ok f v)) (bad : ∀ a n, motive (.bad a n)) (r : TxtRes) : motive r := by
  rcases r with ⟨a, n⟩ | ⟨f, v⟩
  · exact bad a n
  · exact ok f v
def textR (K : List Int) (t : Nat) (most : Int) : TxtRes :=
  if most < 0 then .bad t 1
  else match scanN (K.drop t) 0 0 with
    | some none => .bad t 12
    | none => .bad K.length 11
    | some (some (v, s)) => if most < (v : Int) then .bad t 13 else if K.length < t + s + v then .bad K.length 11
      else if endL ((K.drop (t + s)).take v) < v then .bad (t + s + endL ((K.drop (t + s)).take v)) 14 else .ok (t + s) v
end Go.Proofs.YtipkolmkpfpjjaaGreatDoor
