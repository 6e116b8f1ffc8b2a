/-
  RzR.
-/
import Derived.Test.YtiflfapdffkcbaaDoorRzQ
namespace Go.Proofs.YtiflfapdffkcbaaDoor
open Go Go.RowKit Go.Maps Go.WideMaps
set_option maxRecDepth 100000

theorem lay1_9 {w W : World} {T : List Ent9} (h : QuE w W T) (lo id e : Int) : QuE w ((W.alloc (.cells #[.int .u64 0, .int .u64 lo, .int .u64 id, .int .u64 0, .slice none 0 0, .string ⟨#[115]⟩, .string ⟨#[111]⟩, .int .i64 0, .int .i64 0, .int .i64 0, .int .i64 e, .slice none 0 0, .slice none 0 0] 36)).alloc (.cells #[.int .u64 0, .int .u64 lo, .int .u64 id, .int .u64 0, .slice none 0 0, .string ⟨#[115]⟩, .string ⟨#[111]⟩, .int .i64 0, .int .i64 0, .int .i64 0, .int .i64 e, .slice none 0 0, .slice none 0 0] 36)) T ∧ ∀ (i : Nat) (x : Ent9), T[i]? = some x → ∀ V, Upd x.1 ((W.alloc (.cells #[.int .u64 0, .int .u64 lo, .int .u64 id, .int .u64 0, .slice none 0 0, .string ⟨#[115]⟩, .string ⟨#[111]⟩, .int .i64 0, .int .i64 0, .int .i64 0, .int .i64 e, .slice none 0 0, .slice none 0 0] 36)).alloc (.cells #[.int .u64 0, .int .u64 lo, .int .u64 id, .int .u64 0, .slice none 0 0, .string ⟨#[115]⟩, .string ⟨#[111]⟩, .int .i64 0, .int .i64 0, .int .i64 0, .int .i64 e, .slice none 0 0, .slice none 0 0] 36)) V → SpsAt V (some ⟨W.heap.size + 1, 0, none⟩) 1 [spO lo id e] (fun _ => pl0) := by
  have b1 : Below W.heap.size W ((W.alloc (.cells #[.int .u64 0, .int .u64 lo, .int .u64 id, .int .u64 0, .slice none 0 0, .string ⟨#[115]⟩, .string ⟨#[111]⟩, .int .i64 0, .int .i64 0, .int .i64 0, .int .i64 e, .slice none 0 0, .slice none 0 0] 36)).alloc (.cells #[.int .u64 0, .int .u64 lo, .int .u64 id, .int .u64 0, .slice none 0 0, .string ⟨#[115]⟩, .string ⟨#[111]⟩, .int .i64 0, .int .i64 0, .int .i64 0, .int .i64 e, .slice none 0 0, .slice none 0 0] 36)) := ((Below.refl _ _).alloc (Nat.le_refl _) _).alloc (by simp) _
  have hgb : ((W.alloc (.cells #[.int .u64 0, .int .u64 lo, .int .u64 id, .int .u64 0, .slice none 0 0, .string ⟨#[115]⟩, .string ⟨#[111]⟩, .int .i64 0, .int .i64 0, .int .i64 0, .int .i64 e, .slice none 0 0, .slice none 0 0] 36)).alloc (.cells #[.int .u64 0, .int .u64 lo, .int .u64 id, .int .u64 0, .slice none 0 0, .string ⟨#[115]⟩, .string ⟨#[111]⟩, .int .i64 0, .int .i64 0, .int .i64 0, .int .i64 e, .slice none 0 0, .slice none 0 0] 36)).heap[W.heap.size + 1]? = some (.cells #[.int .u64 0, .int .u64 lo, .int .u64 id, .int .u64 0, .slice none 0 0, .string ⟨#[115]⟩, .string ⟨#[111]⟩, .int .i64 0, .int .i64 0, .int .i64 0, .int .i64 e, .slice none 0 0, .slice none 0 0] 36 (0, 0)) := alloc_at (by rw [World.size_alloc])
  refine ⟨h.below b1, fun i x hi V hu => sps1 ((hu.block _ (lt_of_block hgb) (fun hs => ?_)).trans hgb)⟩
  have := (h.own i hi).lt _ hs
  omega
theorem lay2_9 {w W : World} {T : List Ent9} (h : QuE w W T) (lo id e lo' id' e' : Int) : QuE w (((W.alloc (.cells #[.int .u64 0, .int .u64 lo, .int .u64 id, .int .u64 0, .slice none 0 0, .string ⟨#[115]⟩, .string ⟨#[111]⟩, .int .i64 0, .int .i64 0, .int .i64 0, .int .i64 e, .slice none 0 0, .slice none 0 0] 36)).alloc (.cells #[.int .u64 0, .int .u64 lo', .int .u64 id', .int .u64 0, .slice none 0 0, .string ⟨#[115]⟩, .string ⟨#[111]⟩, .int .i64 0, .int .i64 0, .int .i64 0, .int .i64 e', .slice none 0 0, .slice none 0 0] 36)).alloc (.cells #[.int .u64 0, .int .u64 lo, .int .u64 id, .int .u64 0, .slice none 0 0, .string ⟨#[115]⟩, .string ⟨#[111]⟩, .int .i64 0, .int .i64 0, .int .i64 0, .int .i64 e, .slice none 0 0, .slice none 0 0, .int .u64 0, .int .u64 lo', .int .u64 id', .int .u64 0, .slice none 0 0, .string ⟨#[115]⟩, .string ⟨#[111]⟩, .int .i64 0, .int .i64 0, .int .i64 0, .int .i64 e', .slice none 0 0, .slice none 0 0] 36)) T ∧ ∀ (i : Nat) (x : Ent9), T[i]? = some x → ∀ V, Upd x.1 (((W.alloc (.cells #[.int .u64 0, .int .u64 lo, .int .u64 id, .int .u64 0, .slice none 0 0, .string ⟨#[115]⟩, .string ⟨#[111]⟩, .int .i64 0, .int .i64 0, .int .i64 0, .int .i64 e, .slice none 0 0, .slice none 0 0] 36)).alloc (.cells #[.int .u64 0, .int .u64 lo', .int .u64 id', .int .u64 0, .slice none 0 0, .string ⟨#[115]⟩, .string ⟨#[111]⟩, .int .i64 0, .int .i64 0, .int .i64 0, .int .i64 e', .slice none 0 0, .slice none 0 0] 36)).alloc (.cells #[.int .u64 0, .int .u64 lo, .int .u64 id, .int .u64 0, .slice none 0 0, .string ⟨#[115]⟩, .string ⟨#[111]⟩, .int .i64 0, .int .i64 0, .int .i64 0, .int .i64 e, .slice none 0 0, .slice none 0 0, .int .u64 0, .int .u64 lo', .int .u64 id', .int .u64 0, .slice none 0 0, .string ⟨#[115]⟩, .string ⟨#[111]⟩, .int .i64 0, .int .i64 0, .int .i64 0, .int .i64 e', .slice none 0 0, .slice none 0 0] 36)) V → SpsAt V (some ⟨W.heap.size + 1 + 1, 0, none⟩) 2 [spO lo id e, spO lo' id' e'] (fun _ => pl0) := by
  have b1 : Below W.heap.size W (((W.alloc (.cells #[.int .u64 0, .int .u64 lo, .int .u64 id, .int .u64 0, .slice none 0 0, .string ⟨#[115]⟩, .string ⟨#[111]⟩, .int .i64 0, .int .i64 0, .int .i64 0, .int .i64 e, .slice none 0 0, .slice none 0 0] 36)).alloc (.cells #[.int .u64 0, .int .u64 lo', .int .u64 id', .int .u64 0, .slice none 0 0, .string ⟨#[115]⟩, .string ⟨#[111]⟩, .int .i64 0, .int .i64 0, .int .i64 0, .int .i64 e', .slice none 0 0, .slice none 0 0] 36)).alloc (.cells #[.int .u64 0, .int .u64 lo, .int .u64 id, .int .u64 0, .slice none 0 0, .string ⟨#[115]⟩, .string ⟨#[111]⟩, .int .i64 0, .int .i64 0, .int .i64 0, .int .i64 e, .slice none 0 0, .slice none 0 0, .int .u64 0, .int .u64 lo', .int .u64 id', .int .u64 0, .slice none 0 0, .string ⟨#[115]⟩, .string ⟨#[111]⟩, .int .i64 0, .int .i64 0, .int .i64 0, .int .i64 e', .slice none 0 0, .slice none 0 0] 36)) := (((Below.refl _ _).alloc (Nat.le_refl _) _).alloc (by simp) _).alloc (by simp; omega) _
  have hgb : (((W.alloc (.cells #[.int .u64 0, .int .u64 lo, .int .u64 id, .int .u64 0, .slice none 0 0, .string ⟨#[115]⟩, .string ⟨#[111]⟩, .int .i64 0, .int .i64 0, .int .i64 0, .int .i64 e, .slice none 0 0, .slice none 0 0] 36)).alloc (.cells #[.int .u64 0, .int .u64 lo', .int .u64 id', .int .u64 0, .slice none 0 0, .string ⟨#[115]⟩, .string ⟨#[111]⟩, .int .i64 0, .int .i64 0, .int .i64 0, .int .i64 e', .slice none 0 0, .slice none 0 0] 36)).alloc (.cells #[.int .u64 0, .int .u64 lo, .int .u64 id, .int .u64 0, .slice none 0 0, .string ⟨#[115]⟩, .string ⟨#[111]⟩, .int .i64 0, .int .i64 0, .int .i64 0, .int .i64 e, .slice none 0 0, .slice none 0 0, .int .u64 0, .int .u64 lo', .int .u64 id', .int .u64 0, .slice none 0 0, .string ⟨#[115]⟩, .string ⟨#[111]⟩, .int .i64 0, .int .i64 0, .int .i64 0, .int .i64 e', .slice none 0 0, .slice none 0 0] 36)).heap[W.heap.size + 1 + 1]? = some (.cells #[.int .u64 0, .int .u64 lo, .int .u64 id, .int .u64 0, .slice none 0 0, .string ⟨#[115]⟩, .string ⟨#[111]⟩, .int .i64 0, .int .i64 0, .int .i64 0, .int .i64 e, .slice none 0 0, .slice none 0 0, .int .u64 0, .int .u64 lo', .int .u64 id', .int .u64 0, .slice none 0 0, .string ⟨#[115]⟩, .string ⟨#[111]⟩, .int .i64 0, .int .i64 0, .int .i64 0, .int .i64 e', .slice none 0 0, .slice none 0 0] 36 (0, 0)) := alloc_at (by rw [World.size_alloc, World.size_alloc])
  refine ⟨h.below b1, fun i x hi V hu => sps2 ((hu.block _ (lt_of_block hgb) (fun hs => ?_)).trans hgb)⟩
  have := (h.own i hi).lt _ hs
  omega
/-- Spans that the caller has just made. -/
theorem QuE.put1 {w W : World} {T : List Ent9} (h : QuE w W T) (i : Nat) {s : Nat} {S : Nat → Prop} {L : List Sp} (hi : T[i]? = some (stE s S L)) (lo id e : Int) (hu1 : 0 ≤ lo ∧ lo < 18446744073709551616) (hu2 : 0 ≤ id ∧ id < 18446744073709551616) (hT : Tabs w) (f : Int) (hf : fitsL L [spO lo id e] = f) (A : List Sp) (hA : aftL L [spO lo id e] = A) (cs : List Int) (hc : (runP L [spO lo id e]).2 = cs) :
    Calls Tryd.prog 7 #[.pointer (some ⟨s, 0, none⟩), .slice (some ⟨W.heap.size + 1, 0, none⟩) 1 1] ((W.alloc (.cells #[.int .u64 0, .int .u64 lo, .int .u64 id, .int .u64 0, .slice none 0 0, .string ⟨#[115]⟩, .string ⟨#[111]⟩, .int .i64 0, .int .i64 0, .int .i64 0, .int .i64 e, .slice none 0 0, .slice none 0 0] 36)).alloc (.cells #[.int .u64 0, .int .u64 lo, .int .u64 id, .int .u64 0, .slice none 0 0, .string ⟨#[115]⟩, .string ⟨#[111]⟩, .int .i64 0, .int .i64 0, .int .i64 0, .int .i64 e, .slice none 0 0, .slice none 0 0] 36)) fun r V => ∃ ad m c S', r = .returned (.tuple #[.slice ad m c, .int .i64 f]) ∧ QuE w V (T.set i (stE s S' A)) ∧ (f = 0 → ∃ r, ad = some ⟨r, 0, none⟩ ∧ m = 1 ∧ Blk V r (chC cs 0) 47) ∧ Upd S ((W.alloc (.cells #[.int .u64 0, .int .u64 lo, .int .u64 id, .int .u64 0, .slice none 0 0, .string ⟨#[115]⟩, .string ⟨#[111]⟩, .int .i64 0, .int .i64 0, .int .i64 0, .int .i64 e, .slice none 0 0, .slice none 0 0] 36)).alloc (.cells #[.int .u64 0, .int .u64 lo, .int .u64 id, .int .u64 0, .slice none 0 0, .string ⟨#[115]⟩, .string ⟨#[111]⟩, .int .i64 0, .int .i64 0, .int .i64 0, .int .i64 e, .slice none 0 0, .slice none 0 0] 36)) V :=
  (lay1_9 h lo id e).1.putC i hi _ 1 1 [spO lo id e] (fun _ => pl0) ((lay1_9 h lo id e).2 i _ hi) (fun a ha => by rw [List.mem_singleton.1 ha]; exact fits0 _ _ _ hu1 hu2) (fun a ha => by rw [List.mem_singleton.1 ha]; exact small0 _ _ _) hT (by omega) f hf A hA cs hc
theorem QuE.put2 {w W : World} {T : List Ent9} (h : QuE w W T) (i : Nat) {s : Nat} {S : Nat → Prop} {L : List Sp} (hi : T[i]? = some (stE s S L)) (lo id e lo' id' e' : Int) (hu1 : 0 ≤ lo ∧ lo < 18446744073709551616) (hu2 : 0 ≤ id ∧ id < 18446744073709551616) (hu3 : 0 ≤ lo' ∧ lo' < 18446744073709551616) (hu4 : 0 ≤ id' ∧ id' < 18446744073709551616) (hT : Tabs w) (f : Int) (hf : fitsL L [spO lo id e, spO lo' id' e'] = f) (A : List Sp) (hA : aftL L [spO lo id e, spO lo' id' e'] = A) (cs : List Int) (hc : (runP L [spO lo id e, spO lo' id' e']).2 = cs) :
    Calls Tryd.prog 7 #[.pointer (some ⟨s, 0, none⟩), .slice (some ⟨W.heap.size + 1 + 1, 0, none⟩) 2 2] (((W.alloc (.cells #[.int .u64 0, .int .u64 lo, .int .u64 id, .int .u64 0, .slice none 0 0, .string ⟨#[115]⟩, .string ⟨#[111]⟩, .int .i64 0, .int .i64 0, .int .i64 0, .int .i64 e, .slice none 0 0, .slice none 0 0] 36)).alloc (.cells #[.int .u64 0, .int .u64 lo', .int .u64 id', .int .u64 0, .slice none 0 0, .string ⟨#[115]⟩, .string ⟨#[111]⟩, .int .i64 0, .int .i64 0, .int .i64 0, .int .i64 e', .slice none 0 0, .slice none 0 0] 36)).alloc (.cells #[.int .u64 0, .int .u64 lo, .int .u64 id, .int .u64 0, .slice none 0 0, .string ⟨#[115]⟩, .string ⟨#[111]⟩, .int .i64 0, .int .i64 0, .int .i64 0, .int .i64 e, .slice none 0 0, .slice none 0 0, .int .u64 0, .int .u64 lo', .int .u64 id', .int .u64 0, .slice none 0 0, .string ⟨#[115]⟩, .string ⟨#[111]⟩, .int .i64 0, .int .i64 0, .int .i64 0, .int .i64 e', .slice none 0 0, .slice none 0 0] 36)) fun r V => ∃ ad m c S', r = .returned (.tuple #[.slice ad m c, .int .i64 f]) ∧ QuE w V (T.set i (stE s S' A)) ∧ (f = 0 → ∃ r, ad = some ⟨r, 0, none⟩ ∧ m = 2 ∧ Blk V r (chC cs 0) 47) ∧ Upd S (((W.alloc (.cells #[.int .u64 0, .int .u64 lo, .int .u64 id, .int .u64 0, .slice none 0 0, .string ⟨#[115]⟩, .string ⟨#[111]⟩, .int .i64 0, .int .i64 0, .int .i64 0, .int .i64 e, .slice none 0 0, .slice none 0 0] 36)).alloc (.cells #[.int .u64 0, .int .u64 lo', .int .u64 id', .int .u64 0, .slice none 0 0, .string ⟨#[115]⟩, .string ⟨#[111]⟩, .int .i64 0, .int .i64 0, .int .i64 0, .int .i64 e', .slice none 0 0, .slice none 0 0] 36)).alloc (.cells #[.int .u64 0, .int .u64 lo, .int .u64 id, .int .u64 0, .slice none 0 0, .string ⟨#[115]⟩, .string ⟨#[111]⟩, .int .i64 0, .int .i64 0, .int .i64 0, .int .i64 e, .slice none 0 0, .slice none 0 0, .int .u64 0, .int .u64 lo', .int .u64 id', .int .u64 0, .slice none 0 0, .string ⟨#[115]⟩, .string ⟨#[111]⟩, .int .i64 0, .int .i64 0, .int .i64 0, .int .i64 e', .slice none 0 0, .slice none 0 0] 36)) V :=
  (lay2_9 h lo id e lo' id' e').1.putC i hi _ 2 2 [spO lo id e, spO lo' id' e'] (fun _ => pl0) ((lay2_9 h lo id e lo' id' e').2 i _ hi) (fun a ha => by simp only [List.mem_cons, List.not_mem_nil, or_false] at ha; rcases ha with rfl | rfl <;> first | exact fits0 _ _ _ hu1 hu2 | exact fits0 _ _ _ hu3 hu4) (fun a ha => by simp only [List.mem_cons, List.not_mem_nil, or_false] at ha; rcases ha with rfl | rfl <;> exact small0 _ _ _) hT (by omega) f hf A hA cs hc
theorem QuE.no2 {w W : World} {T : List Ent9} (h : QuE w W T) (i : Nat) {s : Nat} {S : Nat → Prop} {L : List Sp} (hi : T[i]? = some (stE s S L)) (lo id e lo' id' e' : Int) (hu1 : 0 ≤ lo ∧ lo < 18446744073709551616) (hu2 : 0 ≤ id ∧ id < 18446744073709551616) (hu3 : 0 ≤ lo' ∧ lo' < 18446744073709551616) (hu4 : 0 ≤ id' ∧ id' < 18446744073709551616) (hT : Tabs w) (f : Int) (hf : fitsL L [spO lo id e, spO lo' id' e'] = f) (hne : f ≠ 0) :
    Calls Tryd.prog 7 #[.pointer (some ⟨s, 0, none⟩), .slice (some ⟨W.heap.size + 1 + 1, 0, none⟩) 2 2] (((W.alloc (.cells #[.int .u64 0, .int .u64 lo, .int .u64 id, .int .u64 0, .slice none 0 0, .string ⟨#[115]⟩, .string ⟨#[111]⟩, .int .i64 0, .int .i64 0, .int .i64 0, .int .i64 e, .slice none 0 0, .slice none 0 0] 36)).alloc (.cells #[.int .u64 0, .int .u64 lo', .int .u64 id', .int .u64 0, .slice none 0 0, .string ⟨#[115]⟩, .string ⟨#[111]⟩, .int .i64 0, .int .i64 0, .int .i64 0, .int .i64 e', .slice none 0 0, .slice none 0 0] 36)).alloc (.cells #[.int .u64 0, .int .u64 lo, .int .u64 id, .int .u64 0, .slice none 0 0, .string ⟨#[115]⟩, .string ⟨#[111]⟩, .int .i64 0, .int .i64 0, .int .i64 0, .int .i64 e, .slice none 0 0, .slice none 0 0, .int .u64 0, .int .u64 lo', .int .u64 id', .int .u64 0, .slice none 0 0, .string ⟨#[115]⟩, .string ⟨#[111]⟩, .int .i64 0, .int .i64 0, .int .i64 0, .int .i64 e', .slice none 0 0, .slice none 0 0] 36)) fun r V => r = .returned (.tuple #[.slice none 0 0, .int .i64 f]) ∧ Below W.heap.size W V := by
  have b1 : Below W.heap.size W (((W.alloc (.cells #[.int .u64 0, .int .u64 lo, .int .u64 id, .int .u64 0, .slice none 0 0, .string ⟨#[115]⟩, .string ⟨#[111]⟩, .int .i64 0, .int .i64 0, .int .i64 0, .int .i64 e, .slice none 0 0, .slice none 0 0] 36)).alloc (.cells #[.int .u64 0, .int .u64 lo', .int .u64 id', .int .u64 0, .slice none 0 0, .string ⟨#[115]⟩, .string ⟨#[111]⟩, .int .i64 0, .int .i64 0, .int .i64 0, .int .i64 e', .slice none 0 0, .slice none 0 0] 36)).alloc (.cells #[.int .u64 0, .int .u64 lo, .int .u64 id, .int .u64 0, .slice none 0 0, .string ⟨#[115]⟩, .string ⟨#[111]⟩, .int .i64 0, .int .i64 0, .int .i64 0, .int .i64 e, .slice none 0 0, .slice none 0 0, .int .u64 0, .int .u64 lo', .int .u64 id', .int .u64 0, .slice none 0 0, .string ⟨#[115]⟩, .string ⟨#[111]⟩, .int .i64 0, .int .i64 0, .int .i64 0, .int .i64 e', .slice none 0 0, .slice none 0 0] 36)) := (((Below.refl _ _).alloc (Nat.le_refl _) _).alloc (by simp) _).alloc (by simp; omega) _
  have hl := lay2_9 h lo id e lo' id' e'
  refine (put9 (hl.1.st i hi) _ 2 2 [spO lo id e, spO lo' id' e'] (fun _ => pl0) (hl.2 i _ hi) (fun a ha => by simp only [List.mem_cons, List.not_mem_nil, or_false] at ha; rcases ha with rfl | rfl <;> first | exact fits0 _ _ _ hu1 hu2 | exact fits0 _ _ _ hu3 hu4) (fun a ha => by simp only [List.mem_cons, List.not_mem_nil, or_false] at ha; rcases ha with rfl | rfl <;> exact small0 _ _ _) (hT.below hl.1.low) (by omega)).mono ?_
  rintro e V (⟨_, rfl, _, hb⟩ | ⟨h0, _⟩)
  · rw [hf]
    exact ⟨rfl, b1.trans (hb.mono b1.size)⟩
  · exact absurd (hf.symm.trans h0) hne
theorem QuE.fits1 {w W : World} {T : List Ent9} (h : QuE w W T) (i : Nat) {s : Nat} {S : Nat → Prop} {L : List Sp} (hi : T[i]? = some (stE s S L)) (lo id e : Int) (hu1 : 0 ≤ lo ∧ lo < 18446744073709551616) (hu2 : 0 ≤ id ∧ id < 18446744073709551616) (hT : Tabs w) (f : Int) (hf : fitsL L [spO lo id e] = f) :
    Calls Tryd.prog 9 #[.pointer (some ⟨s, 0, none⟩), .slice (some ⟨W.heap.size + 1, 0, none⟩) 1 1] ((W.alloc (.cells #[.int .u64 0, .int .u64 lo, .int .u64 id, .int .u64 0, .slice none 0 0, .string ⟨#[115]⟩, .string ⟨#[111]⟩, .int .i64 0, .int .i64 0, .int .i64 0, .int .i64 e, .slice none 0 0, .slice none 0 0] 36)).alloc (.cells #[.int .u64 0, .int .u64 lo, .int .u64 id, .int .u64 0, .slice none 0 0, .string ⟨#[115]⟩, .string ⟨#[111]⟩, .int .i64 0, .int .i64 0, .int .i64 0, .int .i64 e, .slice none 0 0, .slice none 0 0] 36)) fun r V => r = .returned (.int .i64 f) ∧ Below W.heap.size W V := by
  have b1 : Below W.heap.size W ((W.alloc (.cells #[.int .u64 0, .int .u64 lo, .int .u64 id, .int .u64 0, .slice none 0 0, .string ⟨#[115]⟩, .string ⟨#[111]⟩, .int .i64 0, .int .i64 0, .int .i64 0, .int .i64 e, .slice none 0 0, .slice none 0 0] 36)).alloc (.cells #[.int .u64 0, .int .u64 lo, .int .u64 id, .int .u64 0, .slice none 0 0, .string ⟨#[115]⟩, .string ⟨#[111]⟩, .int .i64 0, .int .i64 0, .int .i64 0, .int .i64 e, .slice none 0 0, .slice none 0 0] 36)) := ((Below.refl _ _).alloc (Nat.le_refl _) _).alloc (by simp) _
  have hl := lay1_9 h lo id e
  refine (fits9 (hl.1.st i hi) _ 1 1 [spO lo id e] (fun _ => pl0) (hl.2 i _ hi _ (Upd.refl _ _)) (fun a ha => by rw [List.mem_singleton.1 ha]; exact fits0 _ _ _ hu1 hu2) (fun a ha => by rw [List.mem_singleton.1 ha]; exact small0 _ _ _) (hT.below hl.1.low) (by omega)).mono ?_
  rintro e V ⟨rfl, hb⟩
  rw [hf]
  exact ⟨rfl, b1.trans (hb.mono b1.size)⟩
theorem QuE.fits2 {w W : World} {T : List Ent9} (h : QuE w W T) (i : Nat) {s : Nat} {S : Nat → Prop} {L : List Sp} (hi : T[i]? = some (stE s S L)) (lo id e lo' id' e' : Int) (hu1 : 0 ≤ lo ∧ lo < 18446744073709551616) (hu2 : 0 ≤ id ∧ id < 18446744073709551616) (hu3 : 0 ≤ lo' ∧ lo' < 18446744073709551616) (hu4 : 0 ≤ id' ∧ id' < 18446744073709551616) (hT : Tabs w) (f : Int) (hf : fitsL L [spO lo id e, spO lo' id' e'] = f) :
    Calls Tryd.prog 9 #[.pointer (some ⟨s, 0, none⟩), .slice (some ⟨W.heap.size + 1 + 1, 0, none⟩) 2 2] (((W.alloc (.cells #[.int .u64 0, .int .u64 lo, .int .u64 id, .int .u64 0, .slice none 0 0, .string ⟨#[115]⟩, .string ⟨#[111]⟩, .int .i64 0, .int .i64 0, .int .i64 0, .int .i64 e, .slice none 0 0, .slice none 0 0] 36)).alloc (.cells #[.int .u64 0, .int .u64 lo', .int .u64 id', .int .u64 0, .slice none 0 0, .string ⟨#[115]⟩, .string ⟨#[111]⟩, .int .i64 0, .int .i64 0, .int .i64 0, .int .i64 e', .slice none 0 0, .slice none 0 0] 36)).alloc (.cells #[.int .u64 0, .int .u64 lo, .int .u64 id, .int .u64 0, .slice none 0 0, .string ⟨#[115]⟩, .string ⟨#[111]⟩, .int .i64 0, .int .i64 0, .int .i64 0, .int .i64 e, .slice none 0 0, .slice none 0 0, .int .u64 0, .int .u64 lo', .int .u64 id', .int .u64 0, .slice none 0 0, .string ⟨#[115]⟩, .string ⟨#[111]⟩, .int .i64 0, .int .i64 0, .int .i64 0, .int .i64 e', .slice none 0 0, .slice none 0 0] 36)) fun r V => r = .returned (.int .i64 f) ∧ Below W.heap.size W V := by
  have b1 : Below W.heap.size W (((W.alloc (.cells #[.int .u64 0, .int .u64 lo, .int .u64 id, .int .u64 0, .slice none 0 0, .string ⟨#[115]⟩, .string ⟨#[111]⟩, .int .i64 0, .int .i64 0, .int .i64 0, .int .i64 e, .slice none 0 0, .slice none 0 0] 36)).alloc (.cells #[.int .u64 0, .int .u64 lo', .int .u64 id', .int .u64 0, .slice none 0 0, .string ⟨#[115]⟩, .string ⟨#[111]⟩, .int .i64 0, .int .i64 0, .int .i64 0, .int .i64 e', .slice none 0 0, .slice none 0 0] 36)).alloc (.cells #[.int .u64 0, .int .u64 lo, .int .u64 id, .int .u64 0, .slice none 0 0, .string ⟨#[115]⟩, .string ⟨#[111]⟩, .int .i64 0, .int .i64 0, .int .i64 0, .int .i64 e, .slice none 0 0, .slice none 0 0, .int .u64 0, .int .u64 lo', .int .u64 id', .int .u64 0, .slice none 0 0, .string ⟨#[115]⟩, .string ⟨#[111]⟩, .int .i64 0, .int .i64 0, .int .i64 0, .int .i64 e', .slice none 0 0, .slice none 0 0] 36)) := (((Below.refl _ _).alloc (Nat.le_refl _) _).alloc (by simp) _).alloc (by simp; omega) _
  have hl := lay2_9 h lo id e lo' id' e'
  refine (fits9 (hl.1.st i hi) _ 2 2 [spO lo id e, spO lo' id' e'] (fun _ => pl0) (hl.2 i _ hi _ (Upd.refl _ _)) (fun a ha => by simp only [List.mem_cons, List.not_mem_nil, or_false] at ha; rcases ha with rfl | rfl <;> first | exact fits0 _ _ _ hu1 hu2 | exact fits0 _ _ _ hu3 hu4) (fun a ha => by simp only [List.mem_cons, List.not_mem_nil, or_false] at ha; rcases ha with rfl | rfl <;> exact small0 _ _ _) (hT.below hl.1.low) (by omega)).mono ?_
  rintro e V ⟨rfl, hb⟩
  rw [hf]
  exact ⟨rfl, b1.trans (hb.mono b1.size)⟩
theorem QuE.mergeNo {w W : World} {T : List Ent9} (h : QuE w W T) (i j : Nat) (hne : i ≠ j) {s o : Nat} {S R : Nat → Prop} {L K : List Sp} (hi : T[i]? = some (stE s S L)) (hj : T[j]? = some (stE o R K)) (hT : Tabs w) (f : Int) (hf0 : f ≠ 0) (hf : ∀ Y, (Rise Y ∧ ∀ y, y ∈ Y ↔ y ∈ K) → fitsL L Y = f) :
    Calls Tryd.prog 11 #[.pointer (some ⟨s, 0, none⟩), .pointer (some ⟨o, 0, none⟩)] W fun e V => e = .returned (.int .i64 f) ∧ Below W.heap.size W V := by
  refine (merge9 (h.st i hi) (h.st j hj) (h.disj i j hi hj hne) (hT.below h.low)).mono ?_
  rintro e V ⟨Y, hY, ⟨_, rfl, _, h3⟩ | ⟨h0, _⟩⟩
  · rw [hf Y hY]
    exact ⟨rfl, h3⟩
  · exact absurd ((hf Y hY).symm.trans h0) hf0
/-- A row of made spans. -/
def sqC (X : List Sp) : List Sq := X.map (fun a => (a, pl0))
theorem kept_spO (W : World) (v : Value) (t i e : Int) : KeptSp W v (spO t i e, pl0) := ⟨0, 0, Nat.zero_le _, fun _ _ h => by omega, fun w5 _ => at0 w5 _ _ _⟩
theorem own_rowF {base : Nat} {V : World} {v : Value} {t n : Nat} (h : V.ownsRow base 36 13 v (sqC (rowF t n)).length ((sqC (rowF t n)).flatMap sqL)) : OwnSq base V v (sqC (rowF t n)) := by
  refine ⟨h, fun x hx => ?_⟩
  obtain ⟨a, ha, rfl⟩ := List.mem_map.1 hx
  obtain ⟨i, _, _, rfl⟩ := mem_rowF.1 ha
  exact kept_spO _ _ _ _ _
theorem sqC_len (X : List Sp) : (sqC X).length = X.length := by unfold sqC; rw [List.length_map]
/-- The row that the law makes. -/
structure RowI (wr wv : World) (t : Nat) (v : Value) (n : Nat) : Prop where
  row : OwnSq wr.heap.size wv v (sqC (rowF t n))
  low : Below wr.heap.size wr wv
theorem RowI.next {wr wv w8 : World} {t n : Nat} {v v8 : Value} (h : RowI wr wv t v n) (o : Obj) (ho : OwnSq wr.heap.size w8 v8 (sqC (rowF t n) ++ [(spO (t : Int) ((n + 1 : Nat) : Int) 5, pl0)])) (hu : Upd (fun k => v.ownBlock = some k) (wv.alloc o) w8) : RowI wr w8 t v8 (n + 1) := by
  have hb : Below wr.heap.size wr (wv.alloc o) := h.low.trans ((Below.refl _ _).alloc h.low.size _)
  refine ⟨?_, hb.trans (hu.below hb.size (fun k hk hs => by have := (h.row.block hs).1; omega))⟩
  unfold sqC at ho ⊢
  rw [rowF_next, List.map_append]
  exact ho
theorem RowI.sps {wr wv : World} {t : Nat} {v : Value} {w : World} {T : List Ent9} (h : RowI wr wv t v 1000) (hq : QuE w wr T) : ∃ ad c P, v = .slice ad 1000 c ∧ QuE w wv T ∧ ∀ (i : Nat) (x : Ent9), T[i]? = some x → ∀ V, Upd x.1 wv V → SpsAt V ad 1000 (rowF t 1000) P := by
  obtain ⟨ad, c, e, _, _⟩ := h.row.sps
  rw [sqC_len, rowF_len] at e
  refine ⟨ad, c, fun i => ((sqC (rowF t 1000)).map (·.2)).getD i plQ, e, hq.below h.low, fun i x hi V hu => ?_⟩
  have ho := own_rowF (ownsRow_upd h.row.row hu (fun k hk hs => by
    have h1 := (h.row.block hk).1
    have h2 := (hq.own i hi).lt k hs
    omega))
  obtain ⟨ad2, c2, e2, _, h3⟩ := ho.sps
  rw [e] at e2
  simp only [Value.slice.injEq] at e2
  obtain ⟨rfl, _, _⟩ := e2
  have h4 := h3 (rowF t 1000) (by unfold sqC; rw [List.map_map]; exact List.map_id _)
  rwa [sqC_len, rowF_len] at h4
theorem fits_row (t : Nat) : (∀ a ∈ rowF t 1000, a.Small) ∧ (t ≤ 100 → ∀ a ∈ rowF t 1000, a.Fits) := by
  refine ⟨fun a ha => ?_, fun ht a ha => ?_⟩
  · obtain ⟨i, _, _, rfl⟩ := mem_rowF.1 ha
    exact small0 _ _ _
  · obtain ⟨i, _, _, rfl⟩ := mem_rowF.1 ha
    exact fits0 _ _ _ (by omega) (by omega)
theorem getF {w W : World} {T : List Ent9} (h : QuE w W T) (i : Nat) {s : Nat} {S : Nat → Prop} {L : List Sp} (hi : T[i]? = some (stE s S L)) (hf : findL L ((0, 7), 8) = some (spO 7 8 5)) :
    Calls Tryd.prog 10 #[.pointer (some ⟨s, 0, none⟩), .agg #[.int .u64 0, .int .u64 7], .int .u64 8] W fun e V => ∃ p' : Pl, e = .returned (.tuple #[.agg #[.int .u64 0, .int .u64 7, .int .u64 8, .int .u64 0, .slice p'.la 0 p'.lc, .string ⟨#[115]⟩, .string ⟨#[111]⟩, .int .i64 0, .int .i64 0, .int .i64 0, .int .i64 5, .slice p'.aa 0 p'.ac, .slice p'.ea 0 p'.ec], .bool true]) ∧ Below W.heap.size W V := by
  refine (get9 (h.st i hi) ((0, 7), 8) ⟨⟨(by omega : (0 : Int) ≤ 0 ∧ (0 : Int) < 18446744073709551616), (by omega : (0 : Int) ≤ 7 ∧ (7 : Int) < 18446744073709551616)⟩, (by omega : (0 : Int) ≤ 8 ∧ (8 : Int) < 18446744073709551616)⟩ hf).mono ?_
  rintro e V ⟨p', rfl, _, hb⟩
  exact ⟨p', rfl, hb⟩
theorem chk_run {L Y : List Sp} (hL : ∀ a ∈ L, chkS a = 0) (hN : Names L) (hY : ∀ a ∈ Y, chkS a = 0) : ∀ a ∈ (runP L Y).1, chkS a = 0 := fun a ha => by
  rw [run_eq, (fold_top Y hN).2] at ha
  exact ha.1.elim (hL a) (hY a)
theorem chk_fulL (t : Nat) : ∀ a ∈ fulL t, chkS a = 0 := fun a ha => by
  obtain ⟨u, i, h1, h2, h3, h4, rfl⟩ := mem_fulL.1 ha
  exact chk_spO _ _ _ (by omega) (by omega) (Or.inl rfl)
theorem fits101 : fitsL [] [spO 101 1 5] = 0 := by decide +kernel
theorem aft101 : aftL [] [spO 101 1 5] = [spO 101 1 5] := by rw [aftL_ok fits101]; rfl
theorem round_fits {k t : Nat} (hk : k = t + 1) (ht : k ≤ 100) : fitsL (fulL t) (rowF k 1000) = 0 ∧ aftL (fulL t) (rowF k 1000) = fulL k := by
  subst hk
  exact ⟨fits_round (by omega), (aftL_ok (fits_round (by omega))).trans run_round⟩
theorem round_more {k t : Nat} (hk : k = t + 1) : fitsL (fulL k) [spO (k : Int) 1001 5] = 91 ∧ aftL (fulL k) [spO (k : Int) 1001 5] = fulL k := by
  subst hk
  exact ⟨fits_more, aftL_no (by rw [fits_more]; decide)⟩
theorem full_pack : ∃ F L1, fulL 100 = F ∧ fitsL F [spO 7 7 6, spO 7 7 6] = 0 ∧ aftL F [spO 7 7 6, spO 7 7 6] = L1 ∧ (runP F [spO 7 7 6, spO 7 7 6]).2 = [1, 2] ∧ LFul L1 ∧ findL L1 ((0, 7), 8) = some (spO 7 8 5) ∧ ∀ a ∈ L1, chkS a = 0 := by
  have h := full_twice
  exact ⟨_, _, rfl, h.1, aftL_ok h.1, h.2.1, h.2.2.1, h.2.2.2, chk_run (chk_fulL 100) (names_fulL 100) (fun a ha => by simp only [List.mem_cons, List.not_mem_nil, or_false, or_self] at ha; subst ha; exact chk_spO _ _ _ (by omega) (by omega) (by omega))⟩
set_option maxHeartbeats 8000000 in
theorem storeFull_any (w : World) (hT : Tabs w) :
    Calls Tryd.prog 3 #[] w fun e w' => e = .returned (.bool true) ∧ Below w.heap.size w w' := by
  have HT : Hid (Tabs w) := hT
  have AL := alive_any w hT
  clear hT
  go_enter Tryd.func3, Tryd.ntmps3
  go_upto_region 6 with (first
    | (go_at_call 4; (with_reducible refine AL.mono ?_); clear AL; rintro e w0 ⟨rfl, hb⟩; have H0 : Hid (QuE w w0 []) := QuE.nil hb; have NW0 := H0.out.new; clear hb)
    | (go_at_call 5; (with_reducible refine NW0.mono ?_); clear NW0 H0; rintro e w1 ⟨s, S, rfl, hq⟩; have H1 : Hid (QuE w w1 [stE s S []]) := hq; clear hq))
  go_loopw [3] (fun z wr => ∃ k : Nat, z = .int .i64 k ∧ 1 ≤ k ∧ k ≤ 101 ∧ Hid (∃ t S, k = t + 1 ∧ QuE w wr [stE s S (fulL t)])) (fun z _ => 101 - (intOf z).toNat)
  case atStart => exact ⟨1, rfl, by omega, by omega, 0, S, rfl, H1⟩
  case round =>
    obtain ⟨k, rfl, hk1, hk2, HI⟩ := hrel
    obtain ⟨t, S1, hkt, hq⟩ := HI.out
    have HK : Hid (k = t + 1) := hkt
    have HQ : Hid (QuE w wr [stE s S1 (fulL t)]) := hq
    clear hkt hq HI H1 S
    by_cases hlt : k ≤ 100
    · have hltd : (k : Int) ≤ 100 := by omega
      have wk : IntKind.u64.wrap (k : Int) = (k : Int) := by rw [IntKind.wrap_u64]; omega
      have I0 : Hid (RowI wr wr k (.slice none 0 0) 0) := ⟨OwnSq.nil _ _, Below.refl _ _⟩
      go_wp2
      go_loopw [4, 5] (fun z4 z5 wv => ∃ i n : Nat, z5 = .int .i64 i ∧ i ≤ 1001 ∧ Hid (i = n + 1) ∧ Hid (RowI wr wv k z4 n)) (fun _ z _ => 1001 - (intOf z).toNat)
      case atStart => exact ⟨1, 0, rfl, by omega, rfl, I0⟩
      case round =>
        obtain ⟨i, n, rfl, hi2, HIN, HR⟩ := hrel
        rename World => wv
        obtain ⟨ao, al, ac, hsh⟩ := row_shape HR.out.row.row
        subst hsh
        by_cases hlt5 : i ≤ 1000
        · have hltd5 : (i : Int) ≤ 1000 := by omega
          have wi : IntKind.u64.wrap (i : Int) = (i : Int) := by rw [IntKind.wrap_u64]; omega
          have HLN : Hid ((sqC (rowF k n)).length ≤ 2147483647) := (by rw [sqC_len, rowF_len]; have := HIN.out; omega : (sqC (rowF k n)).length ≤ 2147483647)
          have HOW : ∀ o, OwnSq wr.heap.size (wv.alloc o) (.slice ao al ac) (sqC (rowF k n)) := fun o => HR.out.row.below ((Below.refl _ _).alloc (Nat.le_refl _) o)
          have HLO : Hid (wr.heap.size ≤ wv.heap.size) := HR.out.low.size
          have HCI : Hid (((n + 1 : Nat) : Int) = (i : Int)) := (by have := HIN.out; omega : ((n + 1 : Nat) : Int) = (i : Int))
          go_wp2_with (first
            | (go_at_call 6; (with_reducible refine (one_any _ _ _ _).mono ?_); rintro e w' ⟨rfl, rfl⟩)
            | (at_builtin; refine wpList_appS (wv.alloc (.cells #[.int .u64 0, .int .u64 (k : Int), .int .u64 (i : Int), .int .u64 0, .slice none 0 0, .string ⟨#[115]⟩, .string ⟨#[111]⟩, .int .i64 0, .int .i64 0, .int .i64 0, .int .i64 5, .slice none 0 0, .slice none 0 0] 36)) rfl _ _ rfl wr.heap.size (.slice ao al ac) (sqC (rowF k n)) (spO (k : Int) (i : Int) 5, pl0) #[.int .u64 0, .int .u64 (k : Int), .int .u64 (i : Int), .int .u64 0, .slice none 0 0, .string ⟨#[115]⟩, .string ⟨#[111]⟩, .int .i64 0, .int .i64 0, .int .i64 0, .int .i64 5, .slice none 0 0, .slice none 0 0] rfl (wv.heap.size + 1) (World.size_alloc _ _).symm rfl (HOW _) (kept_spO _ _ _ _ _) rfl HLN.out (Nat.le_trans HLO.out (Nat.le_trans (Nat.le_add_right _ 1) (Nat.le_of_eq (World.size_alloc _ _).symm))) ?_; clear HOW; intro v8 w8 o8 u8; have HN8 : Hid (RowI wr w8 k v8 (n + 1)) := HR.out.next _ (by rw [HCI.out]; exact o8) u8; obtain ⟨bo, bl, bc, rfl⟩ := row_shape o8.row; clear o8 u8))
          have HIN2 : Hid (i + 1 = n + 1 + 1) := (by have := HIN.out; omega : i + 1 = n + 1 + 1)
          go_roundw
          case rel => exact ⟨i + 1, n + 1, by go_num, by omega, HIN2, HN8⟩
          case measure => (simp [intOf]; omega)
        · have hltd5 : ¬ (i : Int) ≤ 1000 := by omega
          have hn : n = 1000 := by have := HIN.out; omega
          subst hn
          obtain ⟨ad, c, P, he, hq2, hsp⟩ := HR.out.sps HQ.out
          simp only [Value.slice.injEq] at he
          obtain ⟨rfl, rfl, rfl⟩ := he
          have H2 : Hid (QuE w wv [stE s S1 (fulL t)]) := hq2
          have PT1 := H2.out.putC 0 rfl ao 1000 ac (rowF k 1000) P (hsp 0 _ rfl) ((fits_row k).2 hlt) (fits_row k).1 HT.out (by omega) 0 (round_fits HK.out hlt).1 (fulL k) (round_fits HK.out hlt).2 _ rfl
          have hC : ((fulL k).length : Int) = 1000 * (k : Int) := by rw [len_fulL]; omega
          have HC : Hid (((fulL k).length : Int) = 1000 * (k : Int)) := hC
          have wm : IntKind.i64.wrap (1000 * (k : Int)) = 1000 * (k : Int) := by rw [IntKind.wrap_i64]; omega
          have hne : ((1000 * (k : Int)) != (1000 * (k : Int))) = false := by simp
          clear hq2 hsp hC
          go_wp2_with (first
            | (go_at_call 6; (with_reducible refine (one_any _ _ _ _).mono ?_); rintro e w' ⟨rfl, rfl⟩)
            | (go_at_call 7; (with_reducible refine PT1.mono ?_); clear PT1; rintro e w3 ⟨xa1, xn1, xc1, S2, rfl, hq, -⟩; have H3 : Hid (QuE w w3 [stE s S2 (fulL k)]) := hq; have PT2 := H3.out.put1 0 rfl (k : Int) 1001 5 (by omega) (by omega) HT.out 91 (round_more HK.out).1 (fulL k) (round_more HK.out).2 _ rfl; clear hq)
            | (go_at_call 7; (with_reducible refine PT2.mono ?_); clear PT2; rintro e w4 ⟨xa2, xn2, xc2, S3, rfl, hq, -⟩; have H4 : Hid (QuE w w4 [stE s S3 (fulL k)]) := hq; have CT := H4.out.count 0 rfl; rw [HC.out] at CT; clear hq)
            | (go_at_call 8; (with_reducible refine CT.mono ?_); clear CT; rintro e w5 ⟨rfl, hw⟩; obtain rfl := hw.symm))
          go_roundw
          case rel => exact ⟨k + 1, by go_num, by omega, by omega, k, S3, rfl, H4⟩
          case measure => (simp [intOf]; omega)
    · have hltd : ¬ (k : Int) ≤ 100 := by omega
      have ht : t = 100 := by have := HK.out; omega
      subst ht
      clear HK hk1 hk2 hlt
      generalize wr = w2 at *
      obtain ⟨F, L1, hF, hf1, hf2, hf3, hf4, hf5, hf6⟩ := full_pack
      have HL1 : Hid (LFul L1 ∧ findL L1 ((0, 7), 8) = some (spO 7 8 5) ∧ ∀ a ∈ L1, chkS a = 0) := ⟨hf4, hf5, hf6⟩
      have hq0 := HQ.out
      rw [hF] at hq0
      have PT1 := hq0.put2 0 rfl 7 7 6 7 7 6 (by omega) (by omega) (by omega) (by omega) HT.out 0 hf1 L1 hf2 [1, 2] hf3
      clear hF hf1 hf2 hf3 hf4 hf5 hf6 hq0 HQ
      go_upto_region 22 with (first
        | (go_at_call 6; (with_reducible refine (one_any _ _ _ _).mono ?_); rintro e w' ⟨rfl, rfl⟩)
        | (go_at_call 7; (with_reducible refine PT1.mono ?_); clear PT1; rintro e w3 ⟨xa, xn, xc, S2, rfl, hq, hr, -⟩; obtain ⟨r, rfl, rfl, hB⟩ := hr trivial; have H3 : Hid (QuE w w3 [stE s S2 L1] ∧ Blk w3 r (chC [1, 2] 0) 47) := ⟨hq, hB⟩; have FT1 := H3.out.1.fits1 0 rfl 101 1 5 (by omega) (by omega) HT.out 92 HL1.out.1.fits2; clear hq hB hr)
        | (go_at_call 9; (with_reducible refine FT1.mono ?_); clear FT1; rintro e w4 ⟨rfl, hb⟩; have H4 : Hid (QuE w w4 [stE s S2 L1] ∧ Blk w4 r (chC [1, 2] 0) 47) := ⟨H3.out.1.below hb, H3.out.2.below hb H3.out.2.lt⟩; have PT2 := H4.out.1.no2 0 rfl 7 8 9 101 1 5 (by omega) (by omega) (by omega) (by omega) HT.out 92 HL1.out.1.fits3 (by decide); clear hb H3)
        | (go_at_call 7; (with_reducible refine PT2.mono ?_); clear PT2; rintro e w5 ⟨rfl, hb⟩; have H5 : Hid (QuE w w5 [stE s S2 L1] ∧ Blk w5 r (chC [1, 2] 0) 47) := ⟨H4.out.1.below hb, H4.out.2.below hb H4.out.2.lt⟩; have FT2 := H5.out.1.fits2 0 rfl 101 1 5 3 1001 5 (by omega) (by omega) (by omega) (by omega) HT.out 91 HL1.out.1.fits4; clear hb H4)
        | (go_at_call 9; (with_reducible refine FT2.mono ?_); clear FT2; rintro e w6 ⟨rfl, hb⟩; have H6 : Hid (QuE w w6 [stE s S2 L1] ∧ Blk w6 r (chC [1, 2] 0) 47) := ⟨H5.out.1.below hb, H5.out.2.below hb H5.out.2.lt⟩; have GT := getF H6.out.1 0 rfl HL1.out.2.1; clear hb H5)
        | (go_at_call 10; (with_reducible refine GT.mono ?_); clear GT; rintro e w7 ⟨p', rfl, hb⟩; have H7 : Hid (QuE w w7 [stE s S2 L1] ∧ Blk w7 r (chC [1, 2] 0) 47) := ⟨H6.out.1.below hb, H6.out.2.below hb H6.out.2.lt⟩; clear hb H6))
      obtain ⟨cx, hcx⟩ : ∃ x : Array Value, #[.int .u64 0, .int .u64 7, .int .u64 8, .int .u64 0, .slice p'.la 0 p'.lc, .string ⟨#[115]⟩, .string ⟨#[111]⟩, .int .i64 0, .int .i64 0, .int .i64 0, .int .i64 5, .slice p'.aa 0 p'.ac, .slice p'.ea 0 p'.ec] = x := ⟨_, rfl⟩
      have HCX : Hid (cx[10]? = some (.int .i64 5)) := by rw [← hcx]; rfl
      rw [hcx]
      clear hcx
      have B8 : Below w7.heap.size w7 (w7.alloc (.cells cx 36)) := (Below.refl _ _).alloc (Nat.le_refl _) _
      have N8 : Blk (w7.alloc (.cells cx 36)) w7.heap.size cx 36 := Blk.new _ _ _
      have S8 : (w7.alloc (.cells cx 36)).heap.size = w7.heap.size + 1 := World.size_alloc _ _
      obtain ⟨w8, hw8⟩ : ∃ x, w7.alloc (.cells cx 36) = x := ⟨_, rfl⟩
      obtain ⟨gx, hgx⟩ : ∃ x, w7.heap.size = x := ⟨_, rfl⟩
      rw [hw8, hgx] at N8
      rw [hw8] at B8 S8
      rw [hw8, hgx]
      have H8 : Hid (QuE w w8 [stE s S2 L1] ∧ Blk w8 r (chC [1, 2] 0) 47 ∧ Blk w8 gx cx 36) := ⟨H7.out.1.below B8, H7.out.2.below B8 H7.out.2.lt, N8⟩
      clear B8 N8 S8 hw8 hgx H7
      have NW := new9 w8
      have h22 : ((2 : Int) != 2) = false := by decide
      go_upto_region 28 with (first
        | (go_at_call 6; (with_reducible refine (one_any _ _ _ _).mono ?_); rintro e w' ⟨rfl, rfl⟩)
        | (go_at_call 5; (with_reducible refine NW.mono ?_); clear NW; rintro e w9 ⟨o, rfl, hst, hb⟩; have H9 : Hid (QuE w w9 [stE s S2 L1, stE o (fun k => w8.heap.size ≤ k ∧ k < w9.heap.size) []] ∧ Blk w9 r (chC [1, 2] 0) 47 ∧ Blk w9 gx cx 36 ∧ r < w8.heap.size ∧ gx < w8.heap.size) := ⟨H8.out.1.add hb (x := stE o _ []) hst.own (fun k hk => hk.1), H8.out.2.1.below hb H8.out.2.1.lt, H8.out.2.2.below hb H8.out.2.2.lt, H8.out.2.1.lt, H8.out.2.2.lt⟩; have PT3 := H9.out.1.put1 1 rfl 101 1 5 (by omega) (by omega) HT.out 0 fits101 [spO 101 1 5] aft101 _ rfl; clear hst hb H8)
        | (go_at_call 7; (with_reducible refine PT3.mono ?_); clear PT3; rintro e wa ⟨xa3, xn3, xc3, So, rfl, hq, -, hu⟩; have HA : Hid (QuE w wa [stE s S2 L1, stE o So [spO 101 1 5]] ∧ Blk wa r (chC [1, 2] 0) 47 ∧ Blk wa gx cx 36) := ⟨hq, (H9.out.2.1.below (((Below.refl _ _).alloc (Nat.le_refl _) _).alloc (by simp) _) H9.out.2.1.lt).upd hu (fun hs => by have := hs.1; have := H9.out.2.2.2.1; omega), (H9.out.2.2.1.below (((Below.refl _ _).alloc (Nat.le_refl _) _).alloc (by simp) _) H9.out.2.2.1.lt).upd hu (fun hs => by have := hs.1; have := H9.out.2.2.2.2; omega)⟩; have MG1 := HA.out.1.mergeNo 0 1 (by decide) rfl rfl HT.out 92 (by decide) (fun Y hY => HL1.out.1.fits101 (fun a ha => by have := (hY.2 a).1 ha; rw [List.mem_singleton.1 this]; exact chk_spO _ _ _ (by omega) (by omega) (Or.inl rfl)) (fun n => by simp only [hY.2, List.mem_singleton])); clear hq hu H9)
        | (go_at_call 11; (with_reducible refine MG1.mono ?_); clear MG1; rintro e wb ⟨rfl, hb⟩; have HB : Hid (QuE w wb [stE s S2 L1, stE o So [spO 101 1 5]] ∧ Blk wb r (chC [1, 2] 0) 47 ∧ Blk wb gx cx 36) := ⟨HA.out.1.below hb, HA.out.2.1.below hb HA.out.2.1.lt, HA.out.2.2.below hb HA.out.2.2.lt⟩; have MG2 := HB.out.1.mergeNo 1 0 (by decide) rfl rfl HT.out 92 (by decide) (fun Y hY => HL1.out.1.fits5 HL1.out.2.2 hY.2); clear hb HA)
        | (go_at_call 11; (with_reducible refine MG2.mono ?_); clear MG2; rintro e wc ⟨rfl, hb⟩; have HC : Hid (QuE w wc [stE s S2 L1, stE o So [spO 101 1 5]] ∧ Blk wc r (chC [1, 2] 0) 47 ∧ Blk wc gx cx 36) := ⟨HB.out.1.below hb, HB.out.2.1.below hb HB.out.2.1.lt, HB.out.2.2.below hb HB.out.2.2.lt⟩; clear hb HB))
      have c0 : wc.cell? ⟨r, 0, none⟩ = some (.int .i64 1) := HC.out.2.1.cell 0 rfl
      have c1 : wc.cell? ⟨r, 1, none⟩ = some (.int .i64 2) := HC.out.2.1.cell 1 rfl
      have c2 : wc.cell? ⟨gx, 10, none⟩ = some (.int .i64 5) := HC.out.2.2.cell 10 HCX.out
      have CS := HC.out.1.count 0 rfl
      have CO := HC.out.1.count 1 rfl
      have hl1 : ((L1.length : Nat) : Int) = 100000 := by rw [HL1.out.1.len]; rfl
      have hl2 : ((([spO 101 1 5] : List Sp).length : Nat) : Int) = 1 := rfl
      rw [hl1] at CS
      rw [hl2] at CO
      clear hl1 hl2
      go_wp2_with (first
        | (go_at_call 8; (with_reducible refine CS.mono ?_); clear CS; rintro e w5 ⟨rfl, hw⟩; obtain rfl := hw.symm)
        | (go_at_call 8; (with_reducible refine CO.mono ?_); clear CO; rintro e w5 ⟨rfl, hw⟩; obtain rfl := hw.symm))
      go_ret
      exact ⟨rfl, HC.out.1.low⟩
end Go.Proofs.YtiflfapdffkcbaaDoor
