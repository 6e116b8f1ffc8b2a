/-
  Merged: UA, UC.
-/
import Derived.Test.YtbefeobikjnlpaaGreatDoorHGq
import Derived.Test.YtbefeobikjnlpaaGreatDoorYcq
import Derived.Test.YtbefeobikjnlpaaGreatDoorSOq
import Derived.Test.YtbefeobikjnlpaaGreatDoorMwq
namespace Go.Proofs.YtbefeobikjnlpaaGreatDoor
open Go Go.RowKit
set_option maxRecDepth 100000

theorem cutN_same {C C' nm : List Int} (h : ∀ q : Nat, (∃ c ∈ C, c.toNat = q) ↔ (∃ c ∈ C', c.toNat = q)) : cutN C nm = cutN C' nm := by
  refine List.ext_getElem (by rw [cutN_len, cutN_len]) fun q h1 h2 => ?_
  have hq : q < nm.length := by rw [cutN_len] at h1; exact h1
  have g1 := cutN_get C nm q hq
  have g2 := cutN_get C' nm q hq
  have e1 : (cutN C nm).getD q 0 = (cutN C nm)[q] := by simp [List.getD, h1]
  have e2 : (cutN C' nm).getD q 0 = (cutN C' nm)[q] := by simp [List.getD, h2]
  rw [← e1, ← e2, g1, g2]
  by_cases hc : ∃ c ∈ C, c.toNat = q
  · rw [if_pos hc, if_pos ((h q).1 hc)]
  · rw [if_neg hc, if_neg (fun hh => hc ((h q).2 hh))]
theorem loopS_twice (s : Spot) : loopS (loopS s) = loopS s := rfl
theorem cutX_get (C : List Int) : ∀ (X : List Spot) (q : Nat) (h : q < X.length) (h' : q < (cutX C X).length), ((∃ c ∈ C, c.toNat = q) → (cutX C X)[q] = loopS X[q]) ∧ ((¬ ∃ c ∈ C, c.toNat = q) → (cutX C X)[q] = X[q]) := by
  induction C with
  | nil => intro X q h h'; exact ⟨(fun hh => by obtain ⟨c, hc, _⟩ := hh; cases hc), fun _ => rfl⟩
  | cons c C ih =>
    intro X q h h'
    have hm : q < (X.modify c.toNat loopS).length := by simpa using h
    have g := ih (X.modify c.toNat loopS) q hm h'
    have e : (X.modify c.toNat loopS)[q] = if c.toNat = q then loopS X[q] else X[q] := by
      rw [List.getElem_modify]
    constructor
    · rintro ⟨d, hd, hdq⟩
      by_cases hr : ∃ c ∈ C, c.toNat = q
      · have g1 := g.1 hr
        show (cutX C (X.modify c.toNat loopS))[q] = _
        rw [g1, e]
        split <;> rfl
      · have g2 := g.2 hr
        show (cutX C (X.modify c.toNat loopS))[q] = _
        rw [g2, e]
        rcases List.mem_cons.1 hd with rfl | hd
        · rw [if_pos hdq]
        · exact absurd ⟨d, hd, hdq⟩ hr
    · intro hn
      have hr : ¬ ∃ c ∈ C, c.toNat = q := fun ⟨d, hd, hdq⟩ => hn ⟨d, List.mem_cons_of_mem _ hd, hdq⟩
      show (cutX C (X.modify c.toNat loopS))[q] = _
      rw [g.2 hr, e, if_neg (fun e => hn ⟨c, List.mem_cons_self, e⟩)]
theorem cutX_eq {C C' : List Int} {X : List Spot} (h : ∀ q : Nat, (∃ c ∈ C, c.toNat = q) ↔ (∃ c ∈ C', c.toNat = q)) : cutX C X = cutX C' X := by
  refine List.ext_getElem (by rw [cutX_len, cutX_len]) fun q h1 h2 => ?_
  have hq : q < X.length := by rw [cutX_len] at h1; exact h1
  have g1 := cutX_get C X q hq h1
  have g2 := cutX_get C' X q hq h2
  by_cases hc : ∃ c ∈ C, c.toNat = q
  · rw [g1.1 hc, g2.1 ((h q).1 hc)]
  · rw [g1.2 hc, g2.2 (fun hh => hc ((h q).2 hh))]
theorem shape_one {X0 : List Spot} {nm : List Int} {dp dp' : Nat → Nat} {fin fin' : Nat → Nod} (h : Shape X0 nm dp fin) (h' : Shape X0 nm dp' fin') (hr : ∀ i, i < X0.length → nm.getD i (-1) = -1 ∨ ∃ j : Nat, j < X0.length ∧ nm.getD i (-1) = (j : Int)) : ∀ (d i : Nat), dp i = d → i < X0.length → fin i = fin' i := by
  intro d
  induction d using Nat.strongRecOn with
  | ind d ih =>
    intro i hd hi
    rcases hr i hi with e | ⟨j, hj, e⟩
    · rw [(h.rt i hi e).2, (h'.rt i hi e).2]
    · have k := h.kd i j hi hj e
      have k' := h'.kd i j hi hj e
      rw [k.2, k'.2, ih (dp j) (by omega) j rfl hj]
/-- What is sorted so is one list. -/
theorem sort_one {fin : Nat → Nod} {L M : List Int} (hp : L.Perm M) (hinj : ∀ a ∈ L, ∀ b ∈ L, (fin a.toNat).id = (fin b.toNat).id → a = b) (hL : L.Pairwise (fun a b => ¬ ltK (fin b.toNat) (fin a.toNat))) (hM : M.Pairwise (fun a b => ¬ ltK (fin b.toNat) (fin a.toNat))) : L = M := by
  refine List.Perm.eq_of_pairwise (le := fun a b => ¬ ltK (fin b.toNat) (fin a.toNat)) ?_ hL hM hp
  intro a b ha hb h1 h2
  refine hinj a ha b (hp.mem_iff.2 hb) ?_
  unfold ltK at h1 h2
  omega
section
variable {Y : List Sp} {C C' : List Int} {dp dp' : Nat → Nat} {fin fin' : Nat → Nod} {X X' : List Spot} {K K' : Nat → List Int} {R R' : List Int}
/-- Two forests of one list are one. -/
structure Twin (Y : List Sp) (fin fin' : Nat → Nod) (X X' : List Spot) (K K' : Nat → List Int) (R R' : List Int) : Prop where
  fin : ∀ i, i < Y.length → fin i = fin' i
  kids : ∀ i, i < Y.length → K i = K' i
  roots : R = R'
  spans : ∀ i, i < Y.length → ∀ (h1 : i < X.length) (h2 : i < X'.length), X[i].a = X'[i].a ∧ X[i].nd = X'[i].nd
theorem FoB.twin (h : FoB Y C dp fin X K R) (h' : FoB Y C' dp' fin' X' K' R') (hC : CutsL (nmOf (zs Y)) Y.length Y.length C) (hC' : CutsL (nmOf (zs Y)) Y.length Y.length C') : Twin Y fin fin' X X' K K' R R' := by
  have hnl : (nmOf (zs Y)).length = Y.length := by simp [nmOf, zs_len]
  have hr : ∀ x ∈ nmOf (zs Y), -1 ≤ x ∧ x < (Y.length : Int) := fun x hx => by
    unfold nmOf at hx
    obtain ⟨s, _, rfl⟩ := List.mem_map.1 hx
    have := idx_range (zs Y) s.a.par
    rw [zs_len] at this
    exact this
  have hm : ∀ q : Nat, (∃ c ∈ C, c.toNat = q) ↔ (∃ c ∈ C', c.toNat = q) := fun q => (cut_iff hr hnl hC q).trans (cut_iff hr hnl hC' q).symm
  have eN : cutN C (nmOf (zs Y)) = cutN C' (nmOf (zs Y)) := cutN_same hm
  have eX : cutX C (zs Y) = cutX C' (zs Y) := cutX_eq hm
  have hl : (cutX C (zs Y)).length = Y.length := by rw [cutX_len, zs_len]
  have hs' := h'.sh
  rw [← eN, ← eX] at hs'
  have hfin : ∀ i, i < Y.length → fin i = fin' i := fun i hi => shape_one h.sh hs' (fun i hi => by
    rw [hl] at hi ⊢
    exact nmC_range Y C i hi) (dp i) i rfl (by rw [hl]; exact hi)
  have hinj : ∀ (M : List Int), (∀ z ∈ M, 0 ≤ z ∧ z < Y.length) → ∀ a ∈ M, ∀ b ∈ M, (fin a.toNat).id = (fin b.toNat).id → a = b := fun M hM a ha b hb e => by
    have := hM a ha
    have := hM b hb
    have := h.idInjR (i := a.toNat) (j := b.toNat) (by omega) (by omega) e
    omega
  have hturn : ∀ (M : List Int), (∀ z ∈ M, 0 ≤ z ∧ z < Y.length) → M.Pairwise (fun a b => ¬ ltK (fin' b.toNat) (fin' a.toNat)) → M.Pairwise (fun a b => ¬ ltK (fin b.toNat) (fin a.toNat)) := fun M hM hp => by
    refine List.Pairwise.imp_of_mem ?_ hp
    intro a b ha hb hab
    have := hM a ha
    have := hM b hb
    rw [hfin a.toNat (by omega), hfin b.toNat (by omega)]
    exact hab
  have key : ∀ (L M Z : List Int), Z.Perm L → Z.Perm M → (∀ z ∈ Z, 0 ≤ z ∧ z < Y.length) → L.Pairwise (fun a b => ¬ ltK (fin b.toNat) (fin a.toNat)) → M.Pairwise (fun a b => ¬ ltK (fin' b.toNat) (fin' a.toNat)) → L = M := fun L M Z h1 h2 hz h3 h4 =>
    sort_one (h1.symm.trans h2) (hinj L (fun z hz' => hz z (h1.mem_iff.2 hz'))) h3 (hturn M (fun z hz' => hz z (h2.mem_iff.2 hz')) h4)
  have kr : ∀ (q : Int), ∀ z ∈ kidsF (cutN C (nmOf (zs Y))) Y.length q, 0 ≤ z ∧ z < Y.length := fun q z hz => by
    obtain ⟨i, rfl, h1, _⟩ := kidsF_iff.1 hz
    omega
  refine ⟨hfin, fun i hi => ?_, ?_, fun i hi h1 h2 => ?_⟩
  · have k1 := h.fo.kids i hi
    have k2 := h'.fo.kids i hi
    rw [← eN] at k2
    exact key _ _ _ k1.1 k2.1 (kr i) k1.2 k2.2
  · have k1 := h.fo.roots
    have k2 := h'.fo.roots
    rw [← eN] at k2
    exact key _ _ _ k1.1 k2.1 (kr (-1)) k1.2 k2.2
  · have a1 := h.fo.each i hi h1
    have a2 := h'.fo.each i hi h2
    exact ⟨a1.1.trans a2.1.symm, by rw [a1.2, a2.2, hfin i hi]⟩
end
end Go.Proofs.YtbefeobikjnlpaaGreatDoor

namespace Go.Proofs.YtbefeobikjnlpaaGreatDoor
open Go Go.RowKit
set_option maxRecDepth 100000

theorem infoQ : (Tryz.prog.info? 62).map (fun i => (i.zero, i.size, i.bytes)) = some (some (.agg zSpL.toArray), 13, 168) := by kernel_rfl
abbrev Sq := Sp × Pl
def sqL (x : Sq) : List Value := (spC x.1 x.2).toList
theorem sqL_len (x : Sq) : (sqL x).length = 13 := rfl
theorem sqL_one (x : Sq) : ∀ v ∈ sqL x, v.oneCell' = true := by
  intro v hv
  unfold sqL spC at hv
  simp only [List.mem_cons, List.not_mem_nil, or_false] at hv
  rcases hv with rfl | rfl | rfl | rfl | rfl | rfl | rfl | rfl | rfl | rfl | rfl | rfl | rfl
  all_goals rfl
theorem sqF_len (L : List Sq) : (L.flatMap sqL).length = L.length * 13 := by
  induction L with
  | nil => rfl
  | cons x L ih => rw [List.flatMap_cons, List.length_append, ih, sqL_len, List.length_cons]; omega
theorem sqF_one (L : List Sq) : ∀ v ∈ L.flatMap sqL, v.oneCell' = true := fun v hv => by
  obtain ⟨x, _, hx⟩ := List.mem_flatMap.mp hv
  exact sqL_one x v hx
theorem sqF_get (L : List Sq) : ∀ (i : Nat) (hi : i < L.length) (j : Nat), j < 13 → (L.flatMap sqL)[i * 13 + j]? = (sqL L[i])[j]? := by
  induction L with
  | nil => intro i hi; simp at hi
  | cons x L ih =>
    intro i hi j hj
    rw [List.flatMap_cons]
    cases i with
    | zero => rw [Nat.zero_mul, Nat.zero_add, List.getElem?_append_left (by rw [sqL_len]; exact hj)]; rfl
    | succ i =>
      rw [List.getElem?_append_right (by rw [sqL_len]; omega), sqL_len, show (i + 1) * 13 + j - 13 = i * 13 + j by omega]
      exact ih i (by simpa using hi) j hj
/-- A row of spans, in a block of its own, maybe with room behind it. -/
def RowQ (w : World) (g : Nat) (L : List Sq) : Prop := ∃ rest, Blk w g (L.flatMap sqL ++ rest).toArray 62
theorem RowQ.upd {S : Nat → Prop} {w w' : World} {g : Nat} {L : List Sq} (h : RowQ w g L) (hu : Upd S w w') (hS : ¬ S g) : RowQ w' g L := by
  obtain ⟨rest, hB⟩ := h
  exact ⟨rest, hB.upd hu hS⟩
theorem RowQ.lt {w : World} {g : Nat} {L : List Sq} (h : RowQ w g L) : g < w.heap.size := by
  obtain ⟨rest, hB⟩ := h
  exact hB.lt
theorem RowQ.cell {w : World} {g : Nat} {L : List Sq} (h : RowQ w g L) (i : Nat) (hi : i < L.length) (j : Nat) {u : Value} (hu : (spC L[i].1 L[i].2)[j]? = some u) : w.cell? ⟨g, i * 13 + j, none⟩ = some u := by
  obtain ⟨rest, hB⟩ := h
  have hj : j < 13 := (Array.getElem?_eq_some_iff.mp hu).1
  refine hB.cell _ ?_
  rw [List.getElem?_toArray, List.getElem?_append_left (by rw [sqF_len]; omega), sqF_get L i hi j hj]
  unfold sqL
  rw [Array.getElem?_toList]
  exact hu
theorem sq_put (L : List Sq) (rest : List Value) (i : Nat) (hi : i < L.length) (y : Sq) : putL (L.flatMap sqL ++ rest) (i * 13) (sqL y) = (L.set i y).flatMap sqL ++ rest := by
  have hs : L = L.take i ++ L[i] :: L.drop (i + 1) := by simp
  have hy : L.set i y = L.take i ++ y :: L.drop (i + 1) := List.set_eq_take_append_cons_drop.trans (by simp [hi])
  have hf : L.flatMap sqL ++ rest = (L.take i).flatMap sqL ++ (sqL L[i] ++ ((L.drop (i + 1)).flatMap sqL ++ rest)) := by
    conv => lhs; rw [hs]
    rw [List.flatMap_append, List.flatMap_cons, List.append_assoc, List.append_assoc]
  have hlen : ((L.take i).flatMap sqL).length = i * 13 := by rw [sqF_len]; simp; omega
  rw [putL_eq _ _ _ (by rw [List.length_append, sqF_len, sqL_len]; omega), hy, List.flatMap_append, List.flatMap_cons, hf]
  rw [List.take_append_of_le_length (by omega), List.take_of_length_le (by omega), sqL_len]
  rw [show i * 13 + 13 = ((L.take i).flatMap sqL).length + (sqL L[i]).length by rw [hlen, sqL_len], List.drop_append, List.drop_append]
  simp
/-- A span is written into a row. -/
theorem wpList_stQ {ops : Array Oper} {rest : List Oper} {op : Oper} {a : Act} {w : World} {Q : Exit → Act → World → Prop} (hgd : op.guard = none) (x y : Operand) (ho : op.op = .store 62 x y) (g i : Nat) (L : List Sq) (s : Sq) (hB : RowQ w g L) (hi : i < L.length) (hx : a.eval x = .pointer (some ⟨g, i * 13, none⟩)) (hy : a.eval y = .agg (spC s.1 s.2))
    (hK : ∀ w', RowQ w' g (L.set i s) → Upd (fun k => k = g) w w' → wpList Tryz.prog ops Q rest (a.put op.dst undef) w') : wpList Tryz.prog ops Q (op :: rest) a w := by
  obtain ⟨tl, hB⟩ := hB
  refine wpList_store_mid hgd 62 x y ho g (i * 13) (spC s.1 s.2) hx hy (Blk.there hB (i * 13) 13 (by rw [List.length_append, sqF_len]; omega)) (by kernel_rfl) (by have := all_oneCell_toArray (sqL_one s); simpa [sqL] using this) ?_
  refine hK _ ⟨tl, ?_⟩ (setCells_upd _ _ _ _)
  have := setCells_blk (sqL s) (i * 13) (L.flatMap sqL ++ tl) w hB
  rw [sq_put L tl i hi s] at this
  exact this
/-- A span is read out of a row, at a step of a region that draws its order. -/
theorem step_ldQ {ops : Array Oper} {o : Oper} {a : Act} {w : World} {K : Act → World → Prop} {Q : Exit → Act → World → Prop} {E : Prop} (hgd : o.guard = none) (x : Operand) (ho : o.op = .load 62 x) (g i : Nat) (L : List Sq) (hB : RowQ w g L) (hi : i < L.length) (hx : a.eval x = .pointer (some ⟨g, i * 13, none⟩))
    (h : K (a.put o.dst (.agg (sqL L[i]).toArray)) w) : if Region.wanted o (yielded ops a.tmps) = true then Oper.wp Tryz.prog o a w K Q else E := by
  have hw : Region.wanted o (yielded ops a.tmps) = true := by simp [Region.wanted, hgd]
  rw [if_pos hw]
  refine wp_load_mid 62 x ho g (i * 13) hx (sqL L[i]) _ (fun j v hv => ?_) Tryz.underlying62 rfl (by kernel_rfl) h
  refine hB.cell i hi j ?_
  unfold sqL at hv
  rw [Array.getElem?_toList] at hv
  exact hv
theorem step_stQ {ops : Array Oper} {o : Oper} {a : Act} {w : World} {K : Act → World → Prop} {Q : Exit → Act → World → Prop} {E : Prop} (hgd : o.guard = none) (x y : Operand) (ho : o.op = .store 62 x y) (g i : Nat) (L : List Sq) (s : Sq) (hB : RowQ w g L) (hi : i < L.length) (hx : a.eval x = .pointer (some ⟨g, i * 13, none⟩)) (hy : a.eval y = .agg (sqL s).toArray)
    (h : ∀ w', RowQ w' g (L.set i s) → Upd (fun k => k = g) w w' → K (a.put o.dst undef) w') : if Region.wanted o (yielded ops a.tmps) = true then Oper.wp Tryz.prog o a w K Q else E := by
  have hw : Region.wanted o (yielded ops a.tmps) = true := by simp [Region.wanted, hgd]
  rw [if_pos hw]
  obtain ⟨tl, hB⟩ := hB
  refine wp_store_mid 62 x y ho g (i * 13) (sqL s).toArray hx hy (Blk.there hB (i * 13) 13 (by rw [List.length_append, sqF_len]; omega)) (by kernel_rfl) (all_oneCell_toArray (sqL_one s)) ?_
  refine h _ ⟨tl, ?_⟩ (setCells_upd _ _ _ _)
  have := setCells_blk (sqL s) (i * 13) (L.flatMap sqL ++ tl) w hB
  rw [sq_put L tl i hi s] at this
  exact this
/-- A list of spans, with where each one's lists lie. -/
def zipQ : List Sp → (Nat → Pl) → List Sq
  | [], _ => []
  | a :: X, P => (a, P 0) :: zipQ X (fun i => P (i + 1))
theorem zipQ_len : ∀ (X : List Sp) (P : Nat → Pl), (zipQ X P).length = X.length
  | [], _ => rfl
  | a :: X, P => by rw [zipQ, List.length_cons, List.length_cons, zipQ_len X]
theorem zipQ_get : ∀ (X : List Sp) (P : Nat → Pl) (i : Nat) (h : i < (zipQ X P).length) (h' : i < X.length), (zipQ X P)[i] = (X[i], P i)
  | [], _, i, _, h' => by simp at h'
  | a :: X, P, 0, _, _ => rfl
  | a :: X, P, i + 1, h, h' => by
    have := zipQ_get X (fun i => P (i + 1)) i (by simpa [zipQ] using h) (by simpa using h')
    simpa [zipQ] using this
theorem zipQ_fst : ∀ (X : List Sp) (P : Nat → Pl), (zipQ X P).map (·.1) = X
  | [], _ => rfl
  | a :: X, P => by rw [zipQ, List.map_cons, zipQ_fst X]
theorem SpsAt.src {w : World} {ad : Option Addr} {n : Nat} {X : List Sp} {P : Nat → Pl} (h : SpsAt w ad n X P) (c : Nat) : Src Tryz.prog 13 22 (.slice ad n c) n ((zipQ X P).flatMap sqL) w := by
  by_cases hn : 0 < n
  · obtain ⟨b, off, rfl, hc⟩ := h.lies hn
    refine Src.ofSlice _ Tryz.underlying22 _ n c _ (by rw [sqF_len, zipQ_len, h.len]) ?_ (sqF_one _)
    intro j u hj
    have hjl : j < X.length * 13 := by
      have := (List.getElem?_eq_some_iff.mp hj).1
      rw [sqF_len, zipQ_len] at this
      exact this
    rw [Addr.add_lit]
    have e : j = j / 13 * 13 + j % 13 := by omega
    have h1 := sqF_get (zipQ X P) (j / 13) (by rw [zipQ_len]; omega) (j % 13) (by omega)
    rw [← e, hj, zipQ_get X P (j / 13) (by rw [zipQ_len]; omega) (by omega)] at h1
    have h2 := hc (j / 13) (by omega) (j % 13) u (by rw [← Array.getElem?_toList]; exact h1.symm)
    rw [Nat.add_assoc, ← e] at h2
    exact h2
  · obtain rfl : n = 0 := by omega
    obtain rfl : X = [] := List.eq_nil_of_length_eq_zero h.len
    cases ad with
    | none => exact Src.ofNil _ Tryz.underlying22 c
    | some a => exact Src.ofSlice _ Tryz.underlying22 a 0 c [] rfl (fun j u h => by simp at h) (fun u h => by cases h)
/-- A list's copy. -/
theorem wpList_appQ {ops : Array Oper} {rest : List Oper} {o : Oper} {a : Act} {Q : Exit → Act → World → Prop} (w : World) (hgd : o.guard = none) (s x : Operand)
    (ho : o.op = .call { callee := .builtin .append, args := #[s, x], argTypes := #[22, 22] })
    (ad : Option Addr) (n c : Nat) (X : List Sp) (P : Nat → Pl) (hs : a.eval s = .slice (some ⟨w.heap.size, 0, none⟩) 0 0) (hx : a.eval x = .slice ad n c) (hA : SpsAt w ad n X P) (hz : n * 168 ≤ 140737488351232)
    (h : ∀ ao cap w', n ≤ cap → cap ≤ maxLen → (0 < n → ∃ g, ao = some ⟨g, 0, none⟩ ∧ w.heap.size ≤ g ∧ RowQ w' g (zipQ X P)) → Below w.heap.size w w' → wpList Tryz.prog ops Q rest (a.put o.dst (.slice ao n cap)) w') : wpList Tryz.prog ops Q (o :: rest) a (w.alloc (.cells #[] 62)) := by
  obtain ⟨i0, hi0, hz0, hz1, hz2⟩ := info_parts infoQ
  have hb : Below w.heap.size w (w.alloc (.cells #[] 62)) := (Below.refl _ _).alloc (Nat.le_refl _) _
  have OW : (w.alloc (.cells #[] 62)).ownsRow w.heap.size 62 13 (.slice (some ⟨w.heap.size, 0, none⟩) 0 0) 0 [] := ⟨rfl, Or.inr ⟨w.heap.size, 0, #[], rfl, Nat.le_refl _, heap_alloc_new w _, Nat.le_refl _, Nat.zero_le _, rfl, rfl⟩⟩
  refine wpList_appW _ hgd s x 22 22 ho w.heap.size 62 i0 _ 13 168 Tryz.underlying22 hi0 hz0 hz1 hz2 rfl _ 0 [] hs OW _ n _ hx ((hA.below hb).src c) (by unfold maxLen; omega) (by omega) (by simp) ?_
  intro v1 w1 o1 g1 m1
  have hB : Below w.heap.size w w1 := (((Upd.refl (fun k => w.heap.size ≤ k) w).alloc (.cells #[] 62)).grown g1 (fun k hk e => by
      have : (Value.slice (some ⟨w.heap.size, 0, none⟩) 0 0).ownBlock = some k := e
      simp [Value.ownBlock] at this
      show w.heap.size ≤ k
      omega)).below (Nat.le_refl _) (fun k hk h => by omega)
  rw [List.nil_append, Nat.zero_add] at o1
  rcases o1.2 with ⟨rfl, h0⟩ | ⟨g, cap, cur, rfl, hbg, hg, hnc, hcm, hcs, ht⟩
  · subst h0
    exact h none 0 w1 (Nat.le_refl _) (Nat.zero_le _) (fun h => by omega) hB
  · refine h (some ⟨g, 0, none⟩) cap w1 hnc hcm (fun _ => ⟨g, rfl, hbg, cur.toList.drop (n * 13), ?_⟩) hB
    show w1.heap[g]? = _
    rw [hg, ← ht, List.take_append_drop]
end Go.Proofs.YtbefeobikjnlpaaGreatDoor
