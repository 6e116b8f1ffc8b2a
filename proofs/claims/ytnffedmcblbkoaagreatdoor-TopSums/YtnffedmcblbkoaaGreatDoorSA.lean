/-
  SA.
-/
import Derived.Test.YtnffedmcblbkoaaGreatDoorRows
import Derived.WalkKit
import Derived.ProofKit
import Derived.OpenShut
import Derived.Test.YtnffedmcblbkoaaGreatDoorZmq
import Derived.Maps.OwnSet
import Derived.Maps.OwnOps
import Derived.Maps.Views
import Derived.Maps.RangeWalk
import Derived.DeepKeys4
namespace Go.Proofs.YtnffedmcblbkoaaGreatDoor
open Go.RowKit Go.Maps Go.WideMaps
set_option maxRecDepth 100000
def u64J (x : Int) : Prop := 0 ≤ x ∧ x < 18446744073709551616
def ikey (i : Int) : Lit := .int .u64 i
theorem lawD : Keyed Tryz.prog 33 := int_keyed Tryz.underlying33
theorem key_d (i : Int) (h : u64J i) : keyOf Tryz.prog 33 (.int .u64 i) = some (ikey i) := by
 have w1 := WalkArith.wf_u64 (n := i) ⟨h.1, by have := h.2; omega⟩
 simp [keyOf, Tryz.underlying33, mapKey, w1, ikey]
theorem ikey_inj {a b : Int} (h : ikey a = ikey b) : a = b := by
 unfold ikey at h
 simpa using h
def valR (v : Value) : Option (DataW Value × List MemPlace) := some (.held v, [])
theorem valR_mk (v : Value) : valR v = some (.held v, []) := rfl
def ownM (w : World) (k : TypeId) (b : Nat) (D : DataW Value) : Prop := w.ownsMap Tryz.prog k valR b (Maps.size D) D
theorem own_tight {w : World} {k : TypeId} {b n : Nat} {D : DataW Value} (h : w.ownsMap Tryz.prog k valR b n D) : ownM w k b D := by
 obtain ⟨es, clock, hb, F, hs, rfl⟩ := h
 exact ⟨es, clock, hb, F, by simp [Maps.size, length_sorted], rfl⟩
theorem ownM.upd {S : Nat → Prop} {w w' : World} {k : TypeId} {b : Nat} {D : DataW Value} (h : ownM w k b D) (hu : Upd S w w') (hS : ¬ S b) : ownM w' k b D := by
 have hlt := World.ownsMap.lt h
 obtain ⟨es, clock, hb, F, hs, hD⟩ := h
 exact ⟨es, clock, (hu.block b hlt hS).trans hb, F, hs, hD⟩
theorem turned_updM {w w' : World} {b : Nat} (h : w.mapTurned w' b) : Upd (fun k => k = b) w w' := by
 have hg := h.grown
 exact ⟨hg.os, hg.tape, hg.output, hg.size, fun k hk hn => hg.block k hk (by simpa using hn)⟩
end Go.Proofs.YtnffedmcblbkoaaGreatDoor
