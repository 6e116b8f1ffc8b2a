/-
  halt: fall: a stop and all that lives beneath it are cancelled.
-/
import Derived.Test.YtmepapbbebddiaaFk
import Derived.Stop.RegionWithIn
namespace Go.Proofs.Ytmepapbbebddiaa
open Go Go.Conc Go.RowKit Go.Shelf Go.MuLone

attribute [local go_sem] Oper.semAt_some

/-- A piece of code that never panics. -/
theorem wpIn_calm {F : Fence} {n : Nat} {P : Program} {c : Code} {K : Act → World → Prop} {Q : Exit → Act → World → Prop} {a : Act} {w : World} (h : c.wpIn F n P (Exit.then K (fun _ _ _ => False)) a w) : c.wpIn F n P (Exit.then K Q) a w :=
  Code.wpIn_mono (fun e a w q => by cases e <;> first | exact q | exact q.elim) h
theorem infoTask : (Try.prog.info? 95).map (fun i => (i.zero, i.size, i.bytes)) = some (some (.pointer none), 1, 8) := by kernel_rfl
/-- Nothing behind nothing is nothing. -/
theorem appNil (ty : TypeId) (w : World) : (Builtin.append_ #[73, 73] ty #[.slice none 0 0, .slice none 0 0]).run Try.prog w = .ok (.slice none 0 0) w := by
  obtain ⟨i0, hi, hz0, hz1, hz2⟩ := info_parts infoTask
  have hs := Src.ofNil (P := Try.prog) (size := 1) w Try.underlying73 0
  have hs' : Src Try.prog i0.size 73 (.slice none 0 0) 0 [] w := by rw [hz1]; exact hs
  have hc := hs'.cells
  simp [Builtin.append_, run_underlying Try.underlying73, sizeOf, typeInfo, hi, hs.len, hc]

/-- Who got which reason. -/
structure Fell (S : List Nat) (N N' : Nat → Nd) (pg : Nat → Option Nat) (s : Nat) (why : Int) : Prop where
  hit : ∀ b ∈ S, (N b).why = 0 → (∃ n, anc pg n b = some s) → (N' b).why = why
  miss : ∀ b ∈ S, ((N b).why ≠ 0 ∨ ¬ ∃ n, anc pg n b = some s) → (N' b).why = (N b).why
  left : ∀ b ∈ S, (N' b).left = (N b).left
/-- The heap, once those of E were ended. -/
def endG (lk : Nat) (N : Nat → Nd) (why : Int) (E : List Nat) (h0 : Nat → Option Obj) (j : Nat) : Option Obj :=
  if j ∈ E then some (.cells (((N j).ended why).cells lk j) 85 (0, 0)) else if j + 1 ∈ E then some (.chan 0 #[] true 0 0 false) else h0 j

set_option maxRecDepth 100000 in
set_option maxHeartbeats 2000000 in
theorem fall_any {w : World} {n₀ lk : Nat} {S : List Nat} {N : Nat → Nd} {pg : Nat → Option Nat} {q : Int} (h : Fam w n₀ lk S N pg q) {s : Nat} (hs : s ∈ S) (hl : (N s).why = 0) (why : Int) (hwhy : why ≠ 0) (hn : S.length * 8 ≤ 140737488355328) :
    Calls Try.prog 51 #[ptrV s, .int .i64 why] w fun e w' => e = .returned (.slice none 0 0) ∧ ∃ N', Fam w' n₀ lk S N' pg q ∧ Fell S N N' pg s why ∧ Upd (Foot lk S N) w w' ∧ (∀ k, Foot lk S N' k → Foot lk S N k ∨ w.heap.size ≤ k) := by
  have hB := h.stop s hs
  have c1 := hB.cell 1 rfl
  have d1 : (w.alloc (.cells #[.int .i64 why] 36)).cell? ⟨s, 1, none⟩ = some (ptrO (N s).up) := (hB.alloc _).cell 1 rfl
  have hsl := hB.lt
  have h1 : Fam (w.alloc (.cells #[.int .i64 why] 36)) n₀ lk S N pg q := h.alloc _
  obtain ⟨W1, hW1⟩ : ∃ W1, w.alloc (.cells #[.int .i64 why] 36) = W1 := ⟨_, rfl⟩
  rw [hW1] at h1 d1
  have hs1 : W1.heap.size = w.heap.size + 1 := by rw [← hW1]; simp
  have HBR : ∀ W', W'.heap = W1.heap → Calls Try.prog 58 #[ptrV s] W' fun e w' => ∃ v, e = .returned v ∧ w'.ownsRow W1.heap.size 46 1 v (BRof S N W1.heap.size s).length ((BRof S N W1.heap.size s).map ptrV) ∧ Below W1.heap.size W' w' := by
    intro W' e
    have := (h1.heap e).branch hs hn
    rw [e] at this
    exact this
  refine (callsIn_wide (n := 5)).1 ?_
  refine callsIn_of_wp_marks Try.func51 rfl trivial ?_
  simp only [Try.ntmps51, List.size_toArray, List.length_cons, List.length_nil, Nat.reduceAdd, Nat.reduceSub, Array.replicate_succ, Array.replicate_zero, List.push_toArray, List.append_toArray, List.nil_append, List.cons_append]
  gi_wp2
  refine wpIn_calm ?_
  have hsl1 : s < W1.heap.size := by omega
  have HX := HBR W1.drew rfl
  gi_region_with (first | (refine ⟨trivial, ?_⟩; gi_at_call 58; refine (callsIn_wide.2 HX).mono ?_; rintro e w2 ⟨v, rfl, o2, b2⟩; obtain ⟨va, vl, vc, rfl⟩ := row_sh o2; have d2 : w2.cell? ⟨s, 1, none⟩ = some (ptrO (N s).up) := (b2.cell (p := ⟨s, 1, none⟩) hsl1).trans d1) | (gi_at_call 58; refine (callsIn_wide.2 HX).mono ?_; rintro e w2 ⟨v, rfl, o2, b2⟩; obtain ⟨va, vl, vc, rfl⟩ := row_sh o2; have d2 : w2.cell? ⟨s, 1, none⟩ = some (ptrO (N s).up) := (b2.cell (p := ⟨s, 1, none⟩) hsl1).trans d1))
  all_goals
    obtain ⟨L, hL⟩ : ∃ L, BRof S N W1.heap.size s = L := ⟨_, rfl⟩
    obtain ⟨hLn, hsL, hLS⟩ := h1.br hs hl
    rw [hL] at o2 hLn hsL hLS
    obtain rfl : vl = L.length := lenV_own o2
    have hLpos : 0 < L.length := List.length_pos_of_mem hsL
    obtain ⟨gB, rfl⟩ : ∃ gB, va = some ⟨gB, 0, none⟩ := by
      rcases o2.2 with ⟨h, h0⟩ | ⟨g, cap', cur, h, _⟩
      · omega
      · injection h with h1
        exact ⟨g, h1⟩
    have hLl : L.length * 8 ≤ 140737488355328 := by
      have := nodup_le hLn (fun x hx => (hLS x hx).1)
      omega
    have F2 : Fam w2 n₀ lk S N pg q := h1.keep b2.size (fun k hk => b2.block k (Foot.range h1 hk).2)
    have hgBs := ownsRow_base o2 (g := gB) rfl
    have hLc : ∀ j, j < L.length → w2.cell? ⟨gB, j, none⟩ = some (ptrV (L[j]?.getD 0)) := by
      intro j hj
      have := o2.cells (g := gB) rfl j (ptrV (L[j]?.getD 0)) (by simp [hj])
      rwa [Addr.add_lit, Nat.zero_add] at this
    have HLC : Hid (∀ j, j < L.length → w2.cell? ⟨gB, j, none⟩ = some (ptrV (L[j]?.getD 0))) := hLc
    have HLS : Hid (∀ x, x ∈ L → x ∈ S ∧ s ≤ x ∧ (N x).why = 0 ∧ ∃ n, anc pg n x = some s) := hLS
    have hapn := appNil
    have hsz2 : W1.heap.size ≤ w2.heap.size := b2.size
    clear hLc hLS
    gi_wp2
    gi_loopw [7, 20] (fun t i wr => ∃ j : Nat, j ≤ L.length ∧ t = .slice none 0 0 ∧ i = .int .i64 j ∧ wr = w2) (fun _ i _ => L.length - (intOf i).toNat)
    case atStart => exact ⟨0, by omega, rfl, rfl, rfl⟩
    case round =>
      obtain ⟨j, hj, rfl, rfl, rfl⟩ := hrel
      by_cases hlt : j < L.length
      · have hcj := (show ∀ j, j < L.length → wr.cell? ⟨gB, j, none⟩ = some (ptrV (L[j]?.getD 0)) from HLC) j hlt
        obtain ⟨x, hx⟩ : ∃ x, L[j]? = some x := ⟨_, List.getElem?_eq_getElem hlt⟩
        have hxS := ((show ∀ x, x ∈ L → x ∈ S ∧ s ≤ x ∧ (N x).why = 0 ∧ ∃ n, anc pg n x = some s from HLS) x (List.mem_of_getElem? hx)).1
        rw [hx] at hcj
        simp only [Option.getD_some] at hcj
        have hx4 := (F2.stop x hxS).cell 4 rfl
        have hlz : (j : Int) < (L.length : Int) := by omega
        clear hx
        gi_wp2
        go_roundw
        case rel => refine ⟨j + 1, by omega, ?_, ?_, ?_⟩ <;> simp
        case measure => simp [intOf]; omega
      · obtain rfl : j = L.length := by omega
        clear hlt
        gi_wp2_with (first | (gi_at_call 59; refine (back_in Fence.wide _ trivial rfl _ _ _ _).mono ?_; rintro e w' ⟨rfl, rfl⟩) | (refine ⟨trivial, ?_⟩; gi_at_call 59; refine (back_in Fence.wide _ trivial rfl _ _ _ _).mono ?_; rintro e w' ⟨rfl, rfl⟩))
        obtain ⟨X0, hX0⟩ : ∃ X0, wr.alloc (.cells #[.slice (some ⟨gB, 0, none⟩) L.length vc] 25) = X0 := ⟨_, rfl⟩
        have FX : Fam X0 n₀ lk S N pg q := by rw [← hX0]; exact F2.alloc _
        have sX : X0.heap.size = wr.heap.size + 1 := by rw [← hX0]; simp
        have bX : Blk X0 wr.heap.size #[.slice (some ⟨gB, 0, none⟩) L.length vc] 25 := by rw [← hX0]; exact Blk.new wr _ _
        have lowX : ∀ k, k < W1.heap.size → X0.heap[k]? = W1.heap[k]? := fun k hk => by rw [← hX0]; exact (Below.heap_alloc wr _ k (by omega)).trans (b2.block k hk)
        have yX : Blk X0 w.heap.size #[.int .i64 why] 36 := by
          refine Blk.upd ?_ (lowX w.heap.size (by omega))
          rw [← hW1]; exact Blk.new w _ _
        have rX : RowIs X0 (.slice (some ⟨gB, 0, none⟩) L.length vc) gB L := by
          rw [← hX0]
          refine RowIs.same (W := wr) ?_ (Below.heap_alloc wr _ gB hgBs.2.1)
          exact Or.inr ⟨vc, rfl, HLC⟩
        have hslt : ∀ x ∈ S, x < w.heap.size := fun x hx => h.lt hx
        have hSL : ∀ x, x ∈ L → x ∈ S := fun x hx => ((show ∀ x, x ∈ L → x ∈ S ∧ s ≤ x ∧ (N x).why = 0 ∧ ∃ n, anc pg n x = some s from HLS) x hx).1
        rw [hX0]
        refine wpIn_steps (F := Fence.wide) rfl (by omega) (gf := 69) (lb := #[.pointer (some ⟨wr.heap.size, 0, none⟩)]) rfl trivial (enters_of Try.func69 (by kernel_rfl) rfl)
          (back_steps Fence.wide _ trivial rfl (by omega) wr.heap.size gB (.slice (some ⟨gB, 0, none⟩) L.length vc) L hLl (KpB wr.heap.size gB) (fun _ _ h => h) X0 (by omega) (by omega) (bX.cell 0 rfl) rX) KpB.trans (KpB.put (by omega) (by omega)) (fun _ => rfl)
          (fun k W => Upd (fun _ => True) X0 W ∧ ∀ j, j < X0.heap.size → W.heap[j]? = endG lk N why (L.reverse.take k) (fun j => X0.heap[j]?) j) ?_ ?_
          (fun k => { tmps := #[ptrV s, .int .i64 why, undef, .pointer (some ⟨w.heap.size, 0, none⟩), .slice none 0 0, ptrO (N s).up, .slice (some ⟨gB, 0, none⟩) L.length vc, .slice none 0 0, undef, u9, undef, ptrV (L[L.length - 1 - k]?.getD 0), ptrV s, .pointer (some ⟨s, 0, none⟩), .pointer (some ⟨s, 1, none⟩), ptrO (N s).up, ptrV s, .slice (some ⟨gB, 0, none⟩) L.length vc, .slice (some ⟨gB, 0, none⟩) L.length vc, .int .i64 (L.length : Int), .int .i64 (L.length : Int), .bool false, u22, u23, u24, u25, u26, u27, u28, u29, u30, u31, .slice (some ⟨gB, 0, none⟩) L.length vc, .func (.func 69) #[] #[.pointer (some ⟨wr.heap.size, 0, none⟩)], .int .i64 ((L.length - 1 - k : Nat) : Int), ptrV (L[L.length - 1 - k]?.getD 0), undef, undef, undef, undef, undef, undef, undef, undef, undef, undef], defers := [] }) ?_ ?_ ?_
        · skip
          rintro k A B row ⟨a1, a2⟩ hg hr
          refine ⟨a1.trans (S' := fun k => some k = row) ⟨hg.os, hg.tape, hg.output, hg.size, fun k hk hn => hg.block k hk hn⟩ (fun _ _ _ => trivial), fun j hj => ?_⟩
          rw [hg.block j (by have := a1.size; omega) (fun e => by have := (hr j e.symm).1; omega)]
          exact a2 j hj
        · skip
          exact ⟨Upd.refl _ _, fun j _ => by simp [endG]⟩
        · skip
          intro l k W K _ hK
          gi_wp2
          exact hK
        · skip
          rintro l k W hk ⟨a1, a2⟩
          have hil : L.length - 1 - k < L.length := by omega
          obtain ⟨b, hb⟩ : ∃ b, L[L.length - 1 - k]? = some b := ⟨_, List.getElem?_eq_getElem hil⟩
          have hbL : b ∈ L := List.mem_of_getElem? hb
          have hbS := hSL b hbL
          have hb1 := h.kin.low b hbS
          have hbl := hslt b hbS
          have hrev : L.reverse[k]? = some b := by rw [List.getElem?_reverse hk]; exact hb
          have htk : L.reverse.take (k + 1) = L.reverse.take k ++ [b] := by rw [List.take_add_one, hrev]; rfl
          have hbE : b ∉ L.reverse.take k := by
            have hnd : (L.reverse.take (k + 1)).Nodup := ((List.reverse_perm L).nodup_iff.2 hLn).sublist (List.take_sublist _ _)
            rw [htk, List.nodup_append] at hnd
            exact fun hc => hnd.2.2 b hc b (by simp) rfl
          have hES : ∀ x, x ∈ L.reverse.take k → x ∈ S := fun x hx => hSL x (List.mem_reverse.1 (List.mem_of_mem_take hx))
          -- no stop lies just ahead of a stop
          have hgap : ∀ x, x ∈ S → x + 1 ∉ S := fun x hx hc => by
            have c1 := FX.stop x hx
            have c2 := FX.chan (x + 1) hc
            unfold Blk at c1; unfold ChanAt at c2
            rw [Nat.add_sub_cancel, c1] at c2
            cases c2
          have hWb : Blk W b ((N b).cells lk b) 85 := by
            refine (FX.stop b hbS).upd ?_
            rw [a2 b (by omega), endG, if_neg hbE, if_neg (fun hc => hgap b hbS (hES _ hc))]
          have hWc : ChanAt W (b - 1) false := by
            have := FX.chan b hbS
            unfold ChanAt at this ⊢
            have hw0 : (N b).why = 0 := ((show ∀ x, x ∈ L → x ∈ S ∧ s ≤ x ∧ (N x).why = 0 ∧ ∃ n, anc pg n x = some s from HLS) b hbL).2.2.1
            rw [a2 (b - 1) (by omega), endG, if_neg (fun hc => hgap (b - 1) (hES _ hc) (by rw [Nat.sub_add_cancel (by omega)]; exact hbS)), if_neg (by rw [Nat.sub_add_cancel (by omega)]; exact hbE)]
            rw [this]; simp [hw0]
          have hWy : W.cell? ⟨w.heap.size, 0, none⟩ = some (.int .i64 why) := by
            refine Blk.cell (T := 36) (c := #[.int .i64 why]) (yX.upd ?_) 0 rfl
            rw [a2 w.heap.size (by omega), endG, if_neg (fun hc => by have := hslt _ (hES _ hc); omega), if_neg (fun hc => by have := hslt _ (hES _ hc); omega)]
          have HEND := end_any b lk (ptrO (N b).up) (N b).us (.slice none 0 0) ((N b).ug : Int) 0 (N b).why (N b).left why (b - 1) W hWb hWc
          have hszW := a1.size
          rw [hb]
          simp only [Option.getD_some]
          have HW : Hid (∀ j, j < X0.heap.size → W.heap[j]? = endG lk N why (L.reverse.take k) (fun j => X0.heap[j]?) j) := a2
          have HTK : Hid (L.reverse.take (k + 1) = L.reverse.take k ++ [b]) := htk
          have HGAP : Hid (∀ x, x ∈ S → x + 1 ∉ S) := hgap
          have HES : Hid (∀ x, x ∈ L.reverse.take k → x ∈ S) := hES
          clear a2 htk hgap hES hWb hWc hrev hb
          gi_wp2_with (first | (refine ⟨trivial, ?_⟩; gi_at_call 39; refine (CallsIn.inRound l (callsIn_wide.2 HEND)).mono ?_; rintro e w' ⟨rfl, e1, e2, e3, e4, e5, e6, e7⟩) | (gi_at_call 39; refine (CallsIn.inRound l (callsIn_wide.2 HEND)).mono ?_; rintro e w' ⟨rfl, e1, e2, e3, e4, e5, e6, e7⟩))
          have hoth : ∀ j, j ≠ b → j ≠ b - 1 → w'.heap[j]? = W.heap[j]? := e4
          have hgBl := hgBs.1
          have k1 : KeepsFrom X0.heap.size W w' := ⟨by omega, fun j o hj ho _ => (hoth j (by omega) (by omega)).trans ho⟩
          have k2 : KpB wr.heap.size gB W w' := ⟨hoth _ (by omega) (by omega), hoth _ (by omega) (by omega)⟩
          have k3 : Upd (fun _ => True) X0 w' := a1.trans (S' := fun _ => True) ⟨e5, e6, e7, by omega, fun _ _ hn => absurd trivial hn⟩ (fun _ _ _ => trivial)
          have k4 : ∀ j, j < X0.heap.size → w'.heap[j]? = endG lk N why (L.reverse.take (k + 1)) (fun j => X0.heap[j]?) j := by
            intro j hj
            rw [show L.reverse.take (k + 1) = L.reverse.take k ++ [b] from HTK]
            by_cases hjb : j = b
            · subst hjb
              rw [endG, if_pos (by simp)]
              exact e1
            · by_cases hjc : j = b - 1
              · have hj1 : j + 1 = b := by omega
                rw [endG, if_neg, if_pos (by rw [hj1]; simp), hjc]
                · exact e2
                · intro hc
                  rcases List.mem_append.1 hc with hc | hc
                  · exact (show ∀ x, x ∈ S → x + 1 ∉ S from HGAP) j ((show ∀ x, x ∈ L.reverse.take k → x ∈ S from HES) j hc) (by rw [hj1]; exact hbS)
                  · simp at hc; exact hjb hc
              · rw [hoth j hjb hjc, (show ∀ j, j < X0.heap.size → W.heap[j]? = endG lk N why (L.reverse.take k) (fun j => X0.heap[j]?) j from HW) j hj]
                have c1 : (j ∈ L.reverse.take k ++ [b]) = (j ∈ L.reverse.take k) := by simp [hjb]
                have c2 : (j + 1 ∈ L.reverse.take k ++ [b]) = (j + 1 ∈ L.reverse.take k) := by
                  have : ¬ j + 1 = b := by omega
                  simp [this]
                simp only [endG, c1, c2]
          clear e1 e2 e3 e4 e5 e6 e7
          exact ⟨k1, k2, k3, k4⟩
        · skip
          rintro D W hD ⟨a1, a2⟩ hK
          have hrl : L.reverse.take L.length = L.reverse := List.take_of_length_le (by rw [List.length_reverse]; exact Nat.le_refl _)
          rw [hrl] at a2
          have hall := h1.all hs
          rw [hL] at hall
          have hlow : ∀ j, j < w.heap.size → X0.heap[j]? = w.heap[j]? := fun j hj => (lowX j (by omega)).trans (by rw [← hW1]; exact Below.heap_alloc w _ j hj)
          have hszW := a1.size
          have hgap : ∀ x, x ∈ S → x + 1 ∉ S := fun x hx => h.gap hx
          have m1 : ∀ b ∈ L, Blk W b (((N b).ended why).cells lk b) 85 ∧ ChanAt W (b - 1) true := fun b hb => by
            have hbS := hSL b hb
            have := hslt b hbS
            have hb1 := h.kin.low b hbS
            constructor
            · have := a2 b (by omega)
              rw [endG, if_pos (List.mem_reverse.2 hb)] at this
              exact this
            · have := a2 (b - 1) (by omega)
              rw [endG, if_neg (fun hc => hgap (b - 1) (hSL _ (List.mem_reverse.1 hc)) (by rw [Nat.sub_add_cancel (by omega)]; exact hbS)), if_pos (by rw [Nat.sub_add_cancel (by omega)]; exact List.mem_reverse.2 hb)] at this
              exact this
          have m2 : ∀ j, j < w.heap.size → j ∉ L → j + 1 ∉ L → W.heap[j]? = w.heap[j]? := fun j hj h1 h2 => by
            rw [a2 j (by omega), endG, if_neg (fun hc => h1 (List.mem_reverse.1 hc)), if_neg (fun hc => h2 (List.mem_reverse.1 hc))]
            exact hlow j hj
          have hWall : Upd (fun _ => True) w W := by
            have u1 : Upd (fun _ => True) w W1 := by rw [← hW1]; exact (Upd.refl _ w).alloc _
            have u2 : Upd (fun _ => True) W1 X0 := by
              rw [← hX0]
              exact Upd.alloc (a := W1) ⟨b2.os, b2.tape, b2.output, hsz2, fun _ _ hn => absurd trivial hn⟩ _
            exact (u1.trans u2 (fun _ _ _ => trivial)).trans a1 (fun _ _ _ => trivial)
          have hup := (h.kin.up s hs hl).1
          have hfell : ∀ N' : Nat → Nd, (∀ b ∈ S, (N' b).why = (if b ∈ L then why else (N b).why) ∧ (N' b).left = (N b).left) → Fell S N N' pg s why := fun N' hN => ⟨fun b hb h0 hn => by rw [(hN b hb).1, if_pos (hall b hb h0 hn)], fun b hb hh => by
              rw [(hN b hb).1, if_neg]
              intro hc
              obtain ⟨_, _, x1, x2⟩ := (show ∀ x, x ∈ L → x ∈ S ∧ s ≤ x ∧ (N x).why = 0 ∧ ∃ n, anc pg n x = some s from HLS) b hc
              rcases hh with hh | hh
              · exact hh x1
              · exact hh x2, fun b hb => (hN b hb).2⟩
          have HM1 : Hid (∀ b ∈ L, Blk W b (((N b).ended why).cells lk b) 85 ∧ ChanAt W (b - 1) true) := m1
          have HM2 : Hid (∀ j, j < w.heap.size → j ∉ L → j + 1 ∉ L → W.heap[j]? = w.heap[j]?) := m2
          have HFELL : Hid (∀ N' : Nat → Nd, (∀ b ∈ S, (N' b).why = (if b ∈ L then why else (N b).why) ∧ (N' b).left = (N b).left) → Fell S N N' pg s why) := hfell
          clear m1 m2 hfell a2
          cases hpg : pg s with
          | none =>
            rw [hpg] at hup
            rw [hup]
            gi_wp2
            refine ⟨by simp, .inl ⟨_, _, rfl, run_takeDeferred hK, ?_⟩⟩
            have hput : ∀ j, j < X0.heap.size → (W.putObj D (.deferred none)).heap[j]? = W.heap[j]? := fun j hj => World.putObj_heap_other (by omega)
            obtain ⟨N', f1, f2, f3⟩ := h.fallen (w' := W.putObj D (.deferred none)) hs hl hwhy hsL HLS hall (.slice none 0 0) [] 0 (by rw [World.putObj_size]; omega)
              (fun b hb => by
                have hbS := hSL b hb
                have := hslt b hbS
                obtain ⟨x1, x2⟩ := (show ∀ b ∈ L, Blk W b (((N b).ended why).cells lk b) 85 ∧ ChanAt W (b - 1) true from HM1) b hb
                refine ⟨x1.upd (hput b (by omega)), ?_⟩
                unfold ChanAt at x2 ⊢
                rw [hput (b - 1) (by omega)]; exact x2)
              (fun j hj h1 h2 _ => (hput j (by omega)).trans ((show ∀ j, j < w.heap.size → j ∉ L → j + 1 ∉ L → W.heap[j]? = w.heap[j]? from HM2) j hj h1 h2)) (fun p hp => by rw [hpg] at hp; cases hp)
            refine ⟨_, results_tmp rfl _ _ _, rfl, N', f1, (show ∀ N' : Nat → Nd, (∀ b ∈ S, (N' b).why = (if b ∈ L then why else (N b).why) ∧ (N' b).left = (N b).left) → Fell S N N' pg s why from HFELL) N' f2, ?_, f3⟩
            refine ⟨hWall.os, hWall.tape, hWall.output, by rw [World.putObj_size]; omega, fun k hk hn => ?_⟩
            rw [hput k (by omega)]
            exact (show ∀ j, j < w.heap.size → j ∉ L → j + 1 ∉ L → W.heap[j]? = w.heap[j]? from HM2) k hk (fun hc => hn (Or.inr (Or.inl (hSL _ hc)))) (fun hc => hn (Or.inr (Or.inr (Or.inl (hSL _ hc)))))
          | some p =>
            rw [hpg] at hup
            rw [hup, show ptrO (some p) = ptrV p from rfl]
            obtain ⟨pS, p0, pk⟩ := (h.kin.up s hs hl).2 p hpg
            have pll := hslt p pS
            have pps := h.kin.pgl s p hpg
            have hpL : p ∉ L := fun hc => by
              have := ((show ∀ x, x ∈ L → x ∈ S ∧ s ≤ x ∧ (N x).why = 0 ∧ ∃ n, anc pg n x = some s from HLS) p hc).2.1
              omega
            have hWp : Blk W p ((N p).cells lk p) 85 := (h.stop p pS).upd ((show ∀ j, j < w.heap.size → j ∉ L → j + 1 ∉ L → W.heap[j]? = w.heap[j]? from HM2) p pll hpL (fun hc => hgap p pS (hSL _ hc)))
            have hWr : W.ownsRow n₀ 46 1 (N p).us (N p).kids.length ((N p).kids.map ptrV) := ownsRow_heap (h.row p pS) (fun g hg => by
              obtain ⟨r1, r2, c, r3⟩ := ownsRow_base (h.row p pS) hg
              refine (show ∀ j, j < w.heap.size → j ∉ L → j + 1 ∉ L → W.heap[j]? = w.heap[j]? from HM2) g r2 (fun hc => (Blk.ne r3 (h.stop g (hSL _ hc)) (by decide)) rfl) (fun hc => ?_)
              have := h.chan (g + 1) (hSL _ hc)
              unfold ChanAt at this; unfold Blk at r3
              rw [Nat.add_sub_cancel, r3] at this
              cases this)
            have hW6 : ∀ i ∈ (N p).kids, W.cell? ⟨i, 6, none⟩ = some (.int .i64 (if i ∈ L then why else (N i).why)) := fun i hi => by
              have hiS := (h.kin.kid p pS i hi).1
              by_cases hiL : i ∈ L
              · rw [if_pos hiL]
                exact ((show ∀ b ∈ L, Blk W b (((N b).ended why).cells lk b) 85 ∧ ChanAt W (b - 1) true from HM1) i hiL).1.cell 6 rfl
              · rw [if_neg hiL]
                exact ((h.stop i hiS).upd ((show ∀ j, j < w.heap.size → j ∉ L → j + 1 ∉ L → W.heap[j]? = w.heap[j]? from HM2) i (hslt i hiS) hiL (fun hc => hgap i hiS (hSL _ hc)))).cell 6 rfl
            have hgone : ((N p).kids.filter (fun i => decide ((if i ∈ L then why else (N i).why) ≠ 0))).length = (N p).ug + 1 := by
              rw [h.kin.gone p pS]
              refine count_one (h.kin.kidn p pS) pk ?_ ?_ ?_
              · simp [hsL, hwhy]
              · simp [hl]
              · intro k hk hne
                have hkL : k ∉ L := fun hc => by
                  obtain ⟨x1, x2, x3, n, x4⟩ := (show ∀ x, x ∈ L → x ∈ S ∧ s ≤ x ∧ (N x).why = 0 ∧ ∃ n, anc pg n x = some s from HLS) k hc
                  cases n with
                  | zero => simp only [anc, Option.some.injEq] at x4; exact hne x4
                  | succ n =>
                    rw [anc, (h.kin.kid p pS k hk).2.2] at x4
                    have := anc_le h.kin.pgl n p s x4
                    omega
                simp [hkL]
            have hkl : (N p).kids.length * 8 ≤ 140737488355328 := by
              have := nodup_le (h.kin.kidn p pS) (fun x hx => (h.kin.kid p pS x hx).1)
              omega
            have HLOSE := lose_any n₀ p 2 ((N p).cells lk p) 85 (N p).us (N p).ug (N p).kids (fun i => if i ∈ L then why else (N i).why) W hWp (by decide) rfl rfl hWr hW6 hgone hkl (by have := h.base; omega) (Or.inr (by decide))
            clear hWp hWr hW6 hgone
            gi_wp2_with (first | (refine ⟨trivial, ?_⟩; gi_at_call 60; refine (callsIn_wide.2 HLOSE).mono ?_; rintro e w4 ⟨rfl, v4, ids4, g4, l1, l2, l3, l4⟩) | (gi_at_call 60; refine (callsIn_wide.2 HLOSE).mono ?_; rintro e w4 ⟨rfl, v4, ids4, g4, l1, l2, l3, l4⟩))
            have hK4 : w4.heap[D]? = some (.deferred (some [])) := (l3.block D (Array.getElem?_eq_some_iff.1 hK).1 (by omega)).trans hK
            refine ⟨by simp, .inl ⟨_, _, rfl, run_takeDeferred hK4, ?_⟩⟩
            have hsz4 := l3.size
            have hput : ∀ j, j < X0.heap.size → j ≠ p → (w4.putObj D (.deferred none)).heap[j]? = W.heap[j]? := fun j hj hjp => (World.putObj_heap_other (by omega)).trans (l3.block j (by omega) hjp)
            have l1' : Blk (w4.putObj D (.deferred none)) p (Nd.cells { N p with us := v4, kids := ids4, ug := g4 } lk p) 85 := by
              have e : (((N p).cells lk p).setIfInBounds 2 v4).setIfInBounds (2 + 1) (.int .i64 (g4 : Int)) = Nd.cells { N p with us := v4, kids := ids4, ug := g4 } lk p := by
                rw [c9_2, c9_3]
              rw [e] at l1
              exact l1.upd (World.putObj_heap_other (by omega))
            have l2' : (w4.putObj D (.deferred none)).ownsRow n₀ 46 1 v4 ids4.length (ids4.map ptrV) := ownsRow_heap l2 (fun g hg => World.putObj_heap_other (fun e => by
              obtain ⟨_, _, c, r3⟩ := ownsRow_base l2 hg
              subst e
              unfold Blk at r3
              rw [r3] at hK4
              cases hK4))
            obtain ⟨N', f1, f2, f3⟩ := h.fallen (w' := w4.putObj D (.deferred none)) hs hl hwhy hsL HLS hall v4 ids4 g4 (by rw [World.putObj_size]; omega)
              (fun b hb => by
                have hbS := hSL b hb
                have := hslt b hbS
                have hbp : b ≠ p := fun e => hpL (e ▸ hb)
                have hb1 := h.kin.low b hbS
                have hbp1 : b - 1 ≠ p := fun e => hgap p pS (by rw [← e, Nat.sub_add_cancel (by omega)]; exact hbS)
                obtain ⟨x1, x2⟩ := (show ∀ b ∈ L, Blk W b (((N b).ended why).cells lk b) 85 ∧ ChanAt W (b - 1) true from HM1) b hb
                refine ⟨x1.upd (hput b (by omega) hbp), ?_⟩
                unfold ChanAt at x2 ⊢
                rw [hput (b - 1) (by omega) hbp1]; exact x2)
              (fun j hj h1 h2 h3 => (hput j (by omega) (fun e => h3 (by rw [hpg, e]))).trans ((show ∀ j, j < w.heap.size → j ∉ L → j + 1 ∉ L → W.heap[j]? = w.heap[j]? from HM2) j hj h1 h2))
              (fun p' hp' => by
                rw [hpg] at hp'
                injection hp' with e
                subst e
                refine ⟨l1', l2', ?_⟩
                rcases l4 with ⟨x1, x2, x3⟩ | ⟨x1, x2, x3⟩
                · exact Or.inl ⟨x1, x2, x3⟩
                · exact Or.inr ⟨x1, x2, fun j hj => by have := x3 j hj; omega⟩)
            refine ⟨_, results_tmp rfl _ _ _, rfl, N', f1, (show ∀ N' : Nat → Nd, (∀ b ∈ S, (N' b).why = (if b ∈ L then why else (N b).why) ∧ (N' b).left = (N b).left) → Fell S N N' pg s why from HFELL) N' f2, ?_, f3⟩
            refine ⟨l3.os.trans hWall.os, l3.tape.trans hWall.tape, l3.output.trans hWall.output, by rw [World.putObj_size]; omega, fun k hk hn => ?_⟩
            rw [hput k (by omega) (fun e => hn (Or.inr (Or.inl (e ▸ pS))))]
            exact (show ∀ j, j < w.heap.size → j ∉ L → j + 1 ∉ L → W.heap[j]? = w.heap[j]? from HM2) k hk (fun hc => hn (Or.inr (Or.inl (hSL _ hc)))) (fun hc => hn (Or.inr (Or.inr (Or.inl (hSL _ hc)))))
end Go.Proofs.Ytmepapbbebddiaa
