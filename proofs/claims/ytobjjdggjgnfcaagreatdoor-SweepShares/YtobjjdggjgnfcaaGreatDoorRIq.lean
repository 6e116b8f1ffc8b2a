/-
  Merged: RI, RK.
-/
import Derived.Test.YtobjjdggjgnfcaaGreatDoorRAq
import Derived.Test.YtobjjdggjgnfcaaGreatDoorRD
import Derived.Sort.Walk0
import Derived.Deep.Cut
import Derived.Deep.RegionHeld3
namespace Go.Proofs.YtobjjdggjgnfcaaGreatDoor
open Go Go.RowKit
set_option maxRecDepth 100000

theorem infoSv_parts : ∃ i, Tryz.prog.info? 61 = some i ∧ i.zero = some (.agg #[.string ⟨#[]⟩, .int .u64 0]) ∧ i.size = 2 ∧ i.bytes = 24 := by
  have h : (Tryz.prog.info? 61).map (fun i => (i.zero, i.size, i.bytes)) = some (some (.agg #[.string ⟨#[]⟩, .int .u64 0]), 2, 24) := by kernel_rfl
  cases hi : Tryz.prog.info? 61 with
  | none => rw [hi] at h; simp at h
  | some i => rw [hi] at h; simp at h; exact ⟨i, rfl, h.1, h.2.1, h.2.2⟩
theorem wpList_appV {ops : Array Oper} {rest : List Oper} {o : Oper} {a : Act} {Q : Exit → Act → World → Prop} (wr : World) (hgd : o.guard = none) (s x : Operand)
    (ho : o.op = .call { callee := .builtin .append, args := #[s, x], argTypes := #[54, 54] })
    (base : Nat) (v : Value) (n : Nat) (xs : List Value) (p : ByteArray) (q : Int) (b : Nat) (hb : b = wr.heap.size) (hv : a.eval s = v) (hown : wr.ownsRow base 61 2 v n xs) (hx : a.eval x = .slice (some ⟨b, 0, none⟩) 1 1) (hn : n ≤ 1000000) (hbase : base ≤ wr.heap.size)
    (h : ∀ va vc w', w'.ownsRow base 61 2 (.slice va (n + 1) vc) (n + 1) (xs ++ [.string p, .int .u64 q]) → Upd (fun k => v.ownBlock = some k) wr w' → wpList Tryz.prog ops Q rest (a.put o.dst (.slice va (n + 1) vc)) w') : wpList Tryz.prog ops Q (o :: rest) a (wr.alloc (.cells #[.string p, .int .u64 q] 61)) := by
  subst hb
  obtain ⟨i0, hi0, hz0, hz1, hz2⟩ := infoSv_parts
  have hown' : (wr.alloc (.cells #[.string p, .int .u64 q] 61)).ownsRow base 61 2 v n xs := ownsRow_upd hown ((Upd.refl (fun _ => False) wr).alloc _) (fun _ _ h => h)
  refine wpList_appW _ hgd s x 54 54 ho base 61 i0 (.agg #[.string ⟨#[]⟩, .int .u64 0]) 2 24 Tryz.underlying54 hi0 hz0 hz1 hz2 rfl v n _ hv hown' _ 1 [.string p, .int .u64 q] hx (src_two Tryz.underlying54 (heap_alloc_new wr _) rfl rfl) (by unfold maxLen; omega) (by omega) (by simp; omega) ?_
  intro v1 w1 o1 g1 m1
  obtain ⟨va, vc, rfl⟩ := owns_sliceS o1
  exact h va vc w1 o1 (((Upd.refl _ wr).alloc _).grown g1 (fun k _ e => e))
theorem ba_list (s : List UInt8) : (⟨s.toArray⟩ : ByteArray).toList = s := by
  have : (⟨s.toArray⟩ : ByteArray).toList = (⟨s.toArray⟩ : ByteArray).data.toList := ByteArray.toList_eq _
  rw [this]
theorem less_str (s t : List UInt8) : Op.bytesLess (⟨s.toArray⟩ : ByteArray).toList (⟨t.toArray⟩ : ByteArray).toList = decide (s < t) := by
  rw [ba_list, ba_list, bytesLess_eq]
theorem same_str (s t : List UInt8) : ((⟨s.toArray⟩ : ByteArray).toList == (⟨t.toArray⟩ : ByteArray).toList) = decide (s = t) := by
  rw [ba_list, ba_list]
  by_cases h : s = t <;> simp [h]
end Go.Proofs.YtobjjdggjgnfcaaGreatDoor

namespace Go.Proofs.YtobjjdggjgnfcaaGreatDoor
open Go Go.RowKit
set_option maxRecDepth 100000

def SvcP (Y : List Sp) (fin : Nat → Nod) (K : Nat → List Int) (x : Nat) (W : World) (e : Ending) (W' : World) : Prop := ∃ ad n cap L l, e = .returned (.tuple #[.slice ad n cap, .int .i64 0]) ∧ Hid (PathR fin (cnK fin K) x (fin x).til L ∧ l.length = n ∧ SvL (spAt Y) (shL L Y.length) l ∧ LieIn (svC (spAt Y) (hungI L) (shL L Y.length)) 2 W' ad l ∧ n ≤ 1000) ∧ Below W.heap.size W W'
end Go.Proofs.YtobjjdggjgnfcaaGreatDoor
