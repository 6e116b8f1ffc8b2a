/-
  Merged: UA, UC.
-/
import Derived.Test.YtnffedmcblbkoaaGreatDoorQAq
import Derived.Test.YtnffedmcblbkoaaGreatDoorYcq
import Derived.Test.YtnffedmcblbkoaaGreatDoorSOq
import Derived.Test.YtnffedmcblbkoaaGreatDoorMwq
namespace Go.Proofs.YtnffedmcblbkoaaGreatDoor
open Go Go.RowKit
set_option maxRecDepth 100000
theorem sort_one {fin : Nat → Nod} {L M : List Int} (hp : L.Perm M) (hinj : ∀ a ∈ L, ∀ b ∈ L, (fin a.toNat).id = (fin b.toNat).id → a = b) (hL : L.Pairwise (fun a b => ¬ ltK (fin b.toNat) (fin a.toNat))) (hM : M.Pairwise (fun a b => ¬ ltK (fin b.toNat) (fin a.toNat))) : L = M := by
 refine List.Perm.eq_of_pairwise (le := fun a b => ¬ ltK (fin b.toNat) (fin a.toNat)) ?_ hL hM hp
 intro a b ha hb h1 h2
 refine hinj a ha b (hp.mem_iff.2 hb) ?_
 unfold ltK at h1 h2
 omega
theorem infoQ : (Tryz.prog.info? 102).map (fun i => (i.zero, i.size, i.bytes)) = some (some (.agg zSpL.toArray), 13, 168) := by kernel_rfl
abbrev Sq := Sp × Pl
def sqL (x : Sq) : List Value := (spC x.1 x.2).toList
theorem sqL_len (x : Sq) : (sqL x).length = 13 := rfl
theorem sqL_one (x : Sq) : ∀ v ∈ sqL x, v.oneCell' = true := by
 intro v hv
 unfold sqL spC at hv
 simp only [List.mem_cons, List.not_mem_nil, or_false] at hv
 rcases hv with rfl | rfl | rfl | rfl | rfl | rfl | rfl | rfl | rfl | rfl | rfl | rfl | rfl
 all_goals rfl
end Go.Proofs.YtnffedmcblbkoaaGreatDoor
