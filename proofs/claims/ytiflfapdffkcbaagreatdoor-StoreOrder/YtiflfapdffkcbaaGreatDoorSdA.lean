/-
  SdA.
-/
import Derived.Test.YtiflfapdffkcbaaGreatDoorQsN
import Derived.Test.YtiflfapdffkcbaaGreatDoorYcq
import Derived.Test.YtiflfapdffkcbaaGreatDoorSOq
import Derived.Deep.OwnRows
import Derived.Deep.RegionLaw
namespace Go.Proofs.YtiflfapdffkcbaaGreatDoor
open Go Go.RowKit
set_option maxRecDepth 100000

theorem takeH {P : Program} {Q : Exit → Act → World → Prop} {md : Region.Mode} {S : World → Prop} {l : List Oper} {i : Nat} {oi : Oper} {v : Value} {fuel : Nat} {listed : Array Bool} {a : Act} {w : World} (hi : l[i]? = some oi)
    (hs : Region.noSelect l.toArray = true) (hf : Region.free md l.toArray listed i = true) (hr : (Region.ready md l.toArray listed).contains i = true)
    (hQ : ∀ c a w, Q (.panic c) (a.put oi.dst v) w → Q (.panic c) a w) (hy : YieldsIf P l.toArray S oi v a) (hS : S w)
    (h : wpAnyH P md l.toArray Q S fuel (listed.setIfInBounds i true) (a.put oi.dst v) w) : wpAnyH P md l.toArray Q S (fuel + 1) listed a w :=
  wpAnyH_take (by simpa using hi) hs hf hr hQ hy hS h
theorem onlyH {P : Program} {Q : Exit → Act → World → Prop} {md : Region.Mode} {S : World → Prop} {l : List Oper} {i : Nat} {oi : Oper} {fuel : Nat} {listed : Array Bool} {a : Act} {w : World} (hi : l[i]? = some oi)
    (hr : Region.ready md l.toArray listed = [i])
    (h : ∀ K : Act → World → Prop, (∀ a' w', S w' ∧ wpAnyH P md l.toArray Q S fuel (listed.setIfInBounds i true) a' w' → K a' w') → if Region.wanted oi (yielded l.toArray a.tmps) = true then Oper.wp P oi a w K Q else K (a.put oi.dst undef) w) : wpAnyH P md l.toArray Q S (fuel + 1) listed a w := by
  refine wpAnyH_all hr (by simp) ?_
  intro j hj
  simp at hj
  subst hj
  have hi' : l.toArray[j]? = some oi := by simpa using hi
  unfold wpOp
  simp only [hi']
  have := h (fun a' w' => S w' ∧ wpAnyH P md l.toArray Q S fuel (listed.setIfInBounds j true) a' w') (fun _ _ h => h)
  split
  · rename_i hw; rw [if_pos hw] at this; exact Or.inl this
  · rename_i hw; rw [if_neg hw] at this; exact this
structure OneT (X : List Sp) : Prop where
  len : X.length ≤ 1000
  chk : ∀ a ∈ X, chkS a = 0
  fits : ∀ a ∈ X, a.Fits
  small : ∀ a ∈ X, a.Small
  tr : ∀ a ∈ X, ∀ b ∈ X, a.hi = b.hi ∧ a.lo = b.lo
  ids : (X.map (fun a => a.id)).Nodup
theorem SpsAt.range {w : World} {b off n : Nat} {X : List Sp} {P : Nat → Pl} (h : SpsAt w (some ⟨b, off, none⟩) n X P) (k : Nat) (hk : k < X.length) : w.rangeAt b (off + k * 13) (spC X[k] (P k)).toList := fun j v hv => by
  obtain ⟨b', o', he, hc⟩ := h.lies (by rw [← h.len]; omega)
  injection he with he
  injection he with h1 h2
  subst h1; subst h2
  exact hc k hk j v (by rw [Array.getElem?_toList] at hv; exact hv)
theorem sp_cells {w : World} {b : Nat} {a : Sp} {p : Pl} {T : TypeId} (h : Blk w b (spC a p).toList.toArray T) : w.cell? ⟨b, 0, none⟩ = some (.int .u64 a.hi) ∧ w.cell? ⟨b, 1, none⟩ = some (.int .u64 a.lo) ∧ w.cell? ⟨b, 2, none⟩ = some (.int .u64 a.id) ∧ w.cell? ⟨b, 3, none⟩ = some (.int .u64 a.par) ∧ w.cell? ⟨b, 4, none⟩ = some (.slice p.la a.links.length p.lc) ∧ w.cell? ⟨b, 5, none⟩ = some (.string a.svc) ∧ w.cell? ⟨b, 6, none⟩ = some (.string a.op) ∧ w.cell? ⟨b, 7, none⟩ = some (.int .i64 a.kind) ∧ w.cell? ⟨b, 8, none⟩ = some (.int .i64 a.status) ∧ w.cell? ⟨b, 9, none⟩ = some (.int .i64 a.start) ∧ w.cell? ⟨b, 10, none⟩ = some (.int .i64 a.fin) ∧ w.cell? ⟨b, 11, none⟩ = some (.slice p.aa a.attrs.length p.ac) ∧ w.cell? ⟨b, 12, none⟩ = some (.slice p.ea a.events.length p.ec) :=
  ⟨h.cell 0 rfl, h.cell 1 rfl, h.cell 2 rfl, h.cell 3 rfl, h.cell 4 rfl, h.cell 5 rfl, h.cell 6 rfl, h.cell 7 rfl, h.cell 8 rfl, h.cell 9 rfl, h.cell 10 rfl, h.cell 11 rfl, h.cell 12 rfl⟩
theorem PermOnU.perm {a b : Nat} {L L' : List Int} (h : qs.PermOn a b L L') (hb : b ≤ L.length) : L'.Perm L :=
  h (fun M => M.Perm L) (List.Perm.refl _) (fun M i j hM hl _ h2 _ h4 => (qs.swap_perm M i j (by omega) (by omega)).trans hM)
/-- The IDs as they are written. -/
def idsK (X : List Sp) (k : Nat) : List Int := (X.map (fun a => a.id)).take k ++ List.replicate (X.length - k) 0
theorem idsK_len (X : List Sp) (k : Nat) (hk : k ≤ X.length) : (idsK X k).length = X.length := by
  unfold idsK
  rw [List.length_append, List.length_take, List.length_map, List.length_replicate]
  omega
theorem idsK_next (X : List Sp) (k : Nat) (hk : k < X.length) : (idsK X k).set k X[k].id = idsK X (k + 1) := by
  unfold idsK
  rw [List.set_append_right _ _ (by rw [List.length_take, List.length_map]; omega), List.length_take, List.length_map, Nat.min_eq_left (by omega), Nat.sub_self, List.take_succ_eq_append_getElem (by simpa using hk), List.getElem_map, List.append_assoc]
  congr 1
  rw [show X.length - k = (X.length - (k + 1)) + 1 by omega, List.replicate_succ]
  rfl
theorem idsK_all (X : List Sp) : idsK X X.length = X.map (fun a => a.id) := by
  unfold idsK
  rw [Nat.sub_self, List.take_of_length_le (by simp)]
  simp
theorem infoSIx : (Tryz.prog.info? 34).map (fun i => (i.zero, i.size, i.bytes)) = some (some (.int .u64 0), 1, 8) := by kernel_rfl
theorem made_ids (n : Nat) (hn : n ≤ 1000) (w : World) : (Instr.makeSlice 35 (.int .i64 n) (.int .i64 n)).run Tryz.prog w = .ok (.slice (some ⟨w.heap.size, 0, none⟩) n n) (w.alloc (.cells (madeCells #[.int .u64 0] n) 34)) :=
  run_make_row' (P := Tryz.prog) 35 34 (.int .u64 0) 8 Tryz.underlying35 infoSIx rfl .i64 .i64 n (by omega) (by omega) w
theorem madeR (z : Value) (n : Nat) : madeCells #[z] n = (List.replicate n z).toArray := by
  apply Array.ext
  · simp [madeCells]
  · intro i h1 h2
    simp [madeCells, Nat.mod_one]
theorem made_idsR (X : List Sp) (w : World) : qs.U64R (w.alloc (.cells (madeCells #[.int .u64 0] X.length) 34)) w.heap.size (idsK X 0) [] := by
  unfold qs.U64R idsK
  rw [madeR]
  have : ((((X.map (fun a : Sp => a.id)).take 0 ++ List.replicate (X.length - 0) 0).map (Value.int .u64)) ++ []).toArray = (List.replicate X.length (Value.int .u64 0)).toArray := by simp
  rw [this]
  exact Blk.new _ _ _
end Go.Proofs.YtiflfapdffkcbaaGreatDoor
