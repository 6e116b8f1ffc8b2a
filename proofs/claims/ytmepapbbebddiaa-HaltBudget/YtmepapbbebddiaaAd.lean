/-
  halt: row.add, of stops: an append to the row that lies in a block's cells k, k + 1.
-/
import Derived.Test.YtmepapbbebddiaaEn
import Derived.Test.YtmepapbbebddiaaMem
namespace Go.Proofs.Ytmepapbbebddiaa
open Go Go.Conc Go.RowKit Go.MuLone

theorem ownsRow_sl {w : World} {base : Nat} {e : TypeId} {size : Nat} {v : Value} {n : Nat} {xs : List Value} (h : w.ownsRow base e size v (n + 1) xs) : ∃ g cap, v = .slice (some ⟨g, 0, none⟩) (n + 1) cap := by
  rcases h.2 with ⟨_, h0⟩ | ⟨g, cap, _, rfl, _⟩
  · omega
  · exact ⟨g, cap, rfl⟩
theorem ownsRow_ne {w : World} {base : Nat} {e : TypeId} {size : Nat} {v : Value} {n : Nat} {xs : List Value} (h : w.ownsRow base e size v n xs) {b : Nat} {c : Array Value} {T : TypeId} (hb : Blk w b c T) (hT : T ≠ e) {g : Nat} (hg : v.ownBlock = some g) : g ≠ b := by
  rcases h.2 with ⟨rfl, _⟩ | ⟨g', cap, cur, rfl, _, hh, _⟩
  · simp [Value.ownBlock] at hg
  · simp [Value.ownBlock] at hg
    subst hg
    exact (Blk.ne (w := w) (show Blk w g' cur _ from hh) hb (Ne.symm hT))
/-- A stop's pointer. -/
abbrev ptrV (b : Nat) : Value := .pointer (some ⟨b, 0, none⟩)
theorem infoPtr : (Try.prog.info? 46).map (fun i => (i.zero, i.size, i.bytes)) = some (some (.pointer none), 1, 8) := by kernel_rfl

set_option maxRecDepth 100000 in
set_option maxHeartbeats 400000 in
theorem add_any (base b k : Nat) (c : Array Value) (T : TypeId) (v : Value) (n x : Nat) (xs : List Value) (w : World) (hb : Blk w b c T) (hT : T ≠ 46) (hv : c[k]? = some v) (hown : w.ownsRow base 46 1 v n xs)
    (hn : (n + 1) * 8 ≤ 140737488355328) (hbase : base ≤ w.heap.size) :
    Calls Try.prog 40 #[.pointer (some ⟨b, k, none⟩), ptrV x] w fun e w' => e = .returned (.tuple #[]) ∧
      ∃ v', Blk w' b (c.setIfInBounds k v') T ∧ w'.ownsRow base 46 1 v' (n + 1) (xs ++ [ptrV x]) ∧ Upd (fun j => j = b ∨ v.ownBlock = some j) w w' ∧ Moved w v v' := by
  obtain ⟨i0, hi, hz0, hz1, hz2⟩ := info_parts infoPtr
  have hc := hb.cell k hv
  have hnb : ∀ g, v.ownBlock = some g → g ≠ b := fun g hg => ownsRow_ne hown hb hT hg
  go_enter Try.func40, Try.ntmps40
  go_wp2_with (at_builtin; refine wpList_app _ rfl (.tmp 8) (.tmp 10) 25 25 rfl base 46 i0 (.pointer none) 8 Try.underlying25 hi hz0 hz1 hz2 rfl _ _ _ rfl (hown.alloc _) _ 1 [ptrV x] rfl (Src.ofSlice _ Try.underlying25 ⟨w.heap.size, 0, none⟩ 1 1 _ rfl ?c1 ?c2) ?c3 ?c4 ?c5 ?_)
  case c1 =>
    intro j u hj
    match j, hj with
    | 0, hj => simp at hj; subst hj; simp [Addr.add]
  case c2 => intro u hu; simp at hu; subst hu; rfl
  case c3 => unfold maxLen; omega
  case c4 => omega
  case c5 => simp; omega
  intro v' w2 ho hg hm
  have hb2 : Blk w2 b c T := by
    refine Blk.upd (w := w.alloc _) (hb.alloc _) (hg.block b (by simp; have := hb.lt; omega) ?_)
    intro e
    exact hnb b e.symm rfl
  have hc2 := hb2.cell k hv
  have hf2 := hb2.frozen k
  have u2 : Upd (fun j => j = b ∨ v.ownBlock = some j) w w2 := ((Upd.refl _ w).alloc _).grown hg (fun i _ e => Or.inr e)
  obtain ⟨g', cap', rfl⟩ := ownsRow_sl ho
  go_wp2
  go_end0
  refine ⟨rfl, _, hb2.set k _, ?_, u2.setCell (p := ⟨b, k, none⟩) (fun _ => Or.inl rfl) _, ?_⟩
  · refine ownsRow_upd (S := fun j => j = b) ho ((Upd.refl (fun j => j = b) w2).setCell (p := ⟨b, k, none⟩) (fun _ => rfl) _) ?_
    intro g hg' e
    exact ownsRow_ne ho hb2 hT hg' e
  · rcases hm with m | ⟨g, m, hg'⟩
    · exact Or.inl m
    · exact Or.inr ⟨g, m, by simp at hg'; omega⟩
end Go.Proofs.Ytmepapbbebddiaa
