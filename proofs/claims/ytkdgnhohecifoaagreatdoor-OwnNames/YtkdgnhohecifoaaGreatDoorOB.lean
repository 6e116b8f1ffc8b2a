/-
  OB.
-/
import Derived.Test.YtkdgnhohecifoaaGreatDoorMa36
namespace Go.Proofs.YtkdgnhohecifoaaGreatDoor
open Go Go.RowKit
set_option maxRecDepth 100000

theorem infoPS : (Tryz.prog.info? 104).map (fun i => (i.zero, i.size, i.bytes)) = some (some (.pointer none), 1, 8) := by kernel_rfl
theorem infoPS_parts : ∃ i, Tryz.prog.info? 104 = some i ∧ i.zero = some (.pointer none) ∧ i.size = 1 ∧ i.bytes = 8 := by
  have h := infoPS
  cases hq : Tryz.prog.info? 104 with
  | none => rw [hq] at h; simp at h
  | some i =>
    rw [hq] at h
    simp at h
    exact ⟨i, rfl, h.1, h.2.1, h.2.2⟩
/-- A pointer to a spot, or nil. -/
def nxV (B : Nat → Nat) : Option Nat → Value
  | some c => pB B c
  | none => .pointer none
/-- How many wait, as memory has it. -/
def wlen (b : Nat) (W : World) : Nat := match W.cell? ⟨b, 3, none⟩ with | some (.slice _ n _) => n | _ => 0
theorem OwnS.wlen {base : Nat} {W : World} {fin : Nat → Nod} {D : List Nat} {B : Nat → Nat} {sw sr : Nat → List Nat} {wv rv : Nat → Value} {wb : Nat → Nat} (h : OwnS base W fin D B sw sr wv rv wb) {x : Nat} (hx : x ∈ D) : wlen (B x) W = (sw x).length := by
  have c3 : W.cell? ⟨B x, 3, none⟩ = some (wv x) := (h.blk x hx).cell 3 rfl
  unfold Go.Proofs.YtkdgnhohecifoaaGreatDoor.wlen
  rw [c3]
  rcases h.wait x hx with (⟨e, h2⟩ | ⟨off, cap, c, fr, e, _⟩) | ⟨h2, ad, cap, e⟩
  · rw [e, List.map_eq_nil_iff.1 h2]; rfl
  · rw [e]; simp
  · rw [e, h2]; rfl
theorem WaitAt.head {W : World} {v : Value} {g : Nat} {u : Value} {L : List Value} (h : WaitAt W v g (u :: L)) : ∃ off cap, v = .slice (some ⟨g, off, none⟩) (L.length + 1) cap ∧ L.length + 1 ≤ cap ∧ W.cell? ⟨g, off, none⟩ = some u ∧ ∀ W' : World, W'.heap[g]? = W.heap[g]? → WaitAt W' (.slice (some ⟨g, off + 1, none⟩) L.length (cap - 1)) g L := by
  rcases h with ⟨_, h2⟩ | ⟨off, cap, c, fr, e, hc, hh, hi⟩
  · cases h2
  · refine ⟨off, cap, e, hc, ?_, fun W' hW => Or.inr ⟨off + 1, cap - 1, c, fr, rfl, by simp at hc; omega, by rw [hW]; exact hh, fun i w hw => ?_⟩⟩
    · have := hi 0 u rfl
      simp only [World.cell?, hh]
      simpa using this
    · have := hi (i + 1) w (by simpa using hw)
      rw [show off + 1 + i = off + (i + 1) by omega]
      exact this
set_option maxHeartbeats 4000000 in
theorem next_any (base : Nat) (fin : Nat → Nod) (D : List Nat) (B : Nat → Nat) (sw sr : Nat → List Nat) (wv rv : Nat → Value) (wb : Nat → Nat) (x : Nat) (hx : x ∈ D) (at_ : Int) (W : World) (h : OwnS base W fin D B sw sr wv rv wb) (hwD : ∀ c ∈ sw x, c ∈ D) (hrD : ∀ c ∈ sr x, c ∈ D) (hl : (sw x).length + (sr x).length ≤ 1000) :
    Calls Tryz.prog 65 #[pB B x, .int .i64 at_] W fun e W' => e = .returned (nxV B (nextM fin at_ (sw x) (sr x)).1) ∧ (∃ wv' rv', OwnS base W' fin D B (upF sw x (nextM fin at_ (sw x) (sr x)).2.1) (upF sr x (nextM fin at_ (sw x) (sr x)).2.2) wv' rv' wb) ∧ UpO base W W' := by
  obtain ⟨i0, hi0, hz0, hz1, hz2⟩ := infoPS_parts
  have START : Hid (OwnS base W fin D B (upF sw x (sw x)) (upF sr x (sr x)) wv rv wb) := by rw [upF_self, upF_self]; exact h
  have HX : Hid (x ∈ D) := hx
  have HWD : Hid (∀ c ∈ sw x, c ∈ D) := hwD
  have HRD : Hid (∀ c ∈ sr x, c ∈ D) := hrD
  have HL : Hid ((sw x).length + (sr x).length ≤ 1000) := hl
  clear h hx hwD hrD hl
  have e0 : pB B x = .pointer (some ⟨B x, 0, none⟩) := rfl
  rw [e0]
  clear e0
  go_enter Tryz.func65, Tryz.ntmps65
  go_wp2
  go_loopw [6] (fun _ wr => ∃ w r wv' rv', OwnS base wr fin D B (upF sw x w) (upF sr x r) wv' rv' wb ∧ moveM fin at_ (sw x) (sr x) = moveM fin at_ w r ∧ (∀ c ∈ w, c ∈ D) ∧ (∀ c ∈ r, c ∈ D) ∧ w.length + r.length ≤ 1000 ∧ UpO base W wr) (fun _ wr => wlen (B x) wr)
  case atStart => exact ⟨sw x, sr x, wv, rv, START.out, rfl, HWD.out, HRD.out, HL.out, UpO.refl _ _⟩
  case round =>
    obtain ⟨w, r, wv', rv', hO, hM, hwD, hrD, hl, hU⟩ := hrel
    have HO : Hid (OwnS base wr fin D B (upF sw x w) (upF sr x r) wv' rv' wb) := hO
    have HM : Hid (moveM fin at_ (sw x) (sr x) = moveM fin at_ w r) := hM
    have HW2 : Hid (∀ c ∈ w, c ∈ D) := hwD
    have HR2 : Hid (∀ c ∈ r, c ∈ D) := hrD
    have HL2 : Hid (w.length + r.length ≤ 1000) := hl
    have HU : Hid (UpO base W wr) := hU
    have c3 : wr.cell? ⟨B x, 3, none⟩ = some (wv' x) := (hO.blk x HX.out).cell 3 rfl
    have c4 : wr.cell? ⟨B x, 4, none⟩ = some (rv' x) := (hO.blk x HX.out).cell 4 rfl
    -- whether a further one moves
    have hcase : (∃ c w2, w = c :: w2 ∧ (fin c).fr ≤ at_) ∨ (moveM fin at_ w r = (w, r) ∧ ((∃ ad cap, wv' x = .slice ad 0 cap ∧ w = []) ∨ ∃ c w2, w = c :: w2 ∧ ¬ (fin c).fr ≤ at_)) := by
      cases w with
      | nil =>
        right
        refine ⟨rfl, Or.inl ?_⟩
        rcases hO.wait x HX.out with (⟨e, _⟩ | ⟨off, cap, c, fr, e, _⟩) | ⟨_, ad, cap, e⟩
        · exact ⟨_, _, e, rfl⟩
        · exact ⟨_, _, by rw [e, upF_same]; rfl, rfl⟩
        · exact ⟨ad, cap, e, rfl⟩
      | cons c w2 =>
        by_cases hc : (fin c).fr ≤ at_
        · exact Or.inl ⟨c, w2, rfl, hc⟩
        · exact Or.inr ⟨by simp [moveM, hc], Or.inr ⟨c, w2, rfl, hc⟩⟩
    have hhead : ∀ c w2, w = c :: w2 → ∃ off cap, wv' x = .slice (some ⟨wb x, off, none⟩) (w2.length + 1) cap ∧ w2.length + 1 ≤ cap ∧ wr.cell? ⟨wb x, off, none⟩ = some (pB B c) ∧ wr.cell? ⟨B c, 1, none⟩ = some (.int .i64 (fin c).fr) ∧ ∀ W' : World, W'.heap[wb x]? = wr.heap[wb x]? → WaitAt W' (.slice (some ⟨wb x, off + 1, none⟩) w2.length (cap - 1)) (wb x) (w2.map (pB B)) := fun c w2 e => by
      subst e
      rcases hO.wait x HX.out with hw | ⟨e, _⟩
      · rw [upF_same] at hw
        obtain ⟨off, cap, e1, e2, e3, e4⟩ := WaitAt.head hw
        simp only [List.length_map] at e1 e2 e4
        exact ⟨off, cap, e1, e2, e3, (hO.blk c (HW2.out c (by simp))).cell 1 rfl, e4⟩
      · rw [upF_same] at e; cases e
    have HHEAD : Hid (∀ c w2, w = c :: w2 → ∃ off cap, wv' x = .slice (some ⟨wb x, off, none⟩) (w2.length + 1) cap ∧ w2.length + 1 ≤ cap ∧ wr.cell? ⟨wb x, off, none⟩ = some (pB B c) ∧ wr.cell? ⟨B c, 1, none⟩ = some (.int .i64 (fin c).fr) ∧ ∀ W' : World, W'.heap[wb x]? = wr.heap[wb x]? → WaitAt W' (.slice (some ⟨wb x, off + 1, none⟩) w2.length (cap - 1)) (wb x) (w2.map (pB B))) := hhead
    clear hO hM hwD hrD hl hU hhead
    rcases hcase with ⟨c, w2, rfl, hc⟩ | ⟨hst, hcase⟩
    · obtain ⟨off, cap, e1, e2, e3, e4, e5⟩ := HHEAD.out c w2 rfl
      have HE5 : Hid (∀ W' : World, W'.heap[wb x]? = wr.heap[wb x]? → WaitAt W' (.slice (some ⟨wb x, off + 1, none⟩) w2.length (cap - 1)) (wb x) (w2.map (pB B))) := e5
      rw [e1] at c3
      unfold pB at e3
      have HE1 : Hid (wv' x = .slice (some ⟨wb x, off, none⟩) (w2.length + 1) cap) := e1
      obtain ⟨n2, hn2⟩ : ∃ n2, w2.length = n2 := ⟨_, rfl⟩
      have HN2 : Hid (w2.length = n2) := hn2
      rw [hn2] at c3 e2
      have hn3 : (n2 : Int) + 1 ≤ 1000 := by have := HL2.out; simp at this; omega
      have hcap : (n2 : Int) + 1 ≤ (cap : Int) := by omega
      clear e1 e5 hn2 HHEAD
      have y4 := fun (o : Obj) => (World.cell?_alloc_lt wr o ⟨B x, 4, none⟩ (World.block_lt_of_cell? wr _ c4)).trans c4
      have HOK : Hid (∀ W', Below wr.heap.size wr W' → W'.ownsRow base 104 1 (rv' x) r.length (r.map (pB B))) := fun W' hb => by
        have := (OwnS.below HO.out hb).run x HX.out
        rwa [upF_same] at this
      have HAD : Hid (∀ (u2 u3 : World) (v' : Value), Below wr.heap.size wr u2 → u2.grownBy u3 (rv' x).ownBlock → Moved u2 (rv' x) v' → u3.ownsRow base 104 1 v' (r.length + 1) (r.map (pB B) ++ [pB B c]) → (OwnS base (u3.setCell ⟨B x, 4, none⟩ v') fin D B (upF sw x (c :: w2)) (upF sr x (r ++ [c])) wv' (upF rv' x v') wb ∧ UpO base wr (u3.setCell ⟨B x, 4, none⟩ v')) ∧ u3.cell? ⟨B x, 4, none⟩ = some (rv' x) ∧ (∀ j, u3.frozen? ⟨B x, j, none⟩ = false) ∧ u3.cell? ⟨B x, 3, none⟩ = some (.slice (some ⟨wb x, off, none⟩) (n2 + 1) cap)) := fun u2 u3 v' hb hg hm ho => by
        have := OwnS.append HO.out (c := c) HX.out hb hg hm (by rw [upF_same]; exact ho)
        rw [upF_same, upF_twice, HE1.out, HN2.out] at this
        exact ⟨⟨this.1, this.2.1⟩, this.2.2⟩
      have hlb : base ≤ wr.heap.size := HO.out.lb
      have hrl : Hid (r.length ≤ 1000) := by have h1 : (c :: w2).length + r.length ≤ 1000 := HL2.out; have h2 : r.length ≤ 1000 := (by omega); exact h2
      generalize hkv : rv' x = kv at c4 y4 HOK HAD
      go_wp2
      go_region_law (refine step_app _ (by rfl) _ _ 106 106 (by rfl) base 104 i0 (.pointer none) 8 Tryz.underlying106 hi0 hz0 hz1 hz2 rfl kv r.length (r.map (pB B)) (by rfl) (HOK.out _ (by repeat' first | exact Below.refl _ _ | refine Below.alloc ?_ (by first | omega | (simp; omega) | (simp; done)) _ | refine Below.drew ?_)) (.slice (some ⟨wr.heap.size, 0, none⟩) 1 1) 1 [.pointer (some ⟨B c, 0, none⟩)] (by rfl) (src_at Tryz.underlying106 (by first | exact heap_alloc_new _ _ | exact heap_alloc_new wr.drew _) rfl) (by have := hrl.out; unfold maxLen; omega) (by have := hrl.out; omega) (by first | (simp; omega) | omega) ?_; intro v8 w8 o8 g8 m8; obtain ⟨ad8, cap8, rfl⟩ := owns_slice o8; obtain ⟨A8, e8, f8, z8⟩ := HAD.out _ w8 _ (by repeat' first | exact Below.refl _ _ | refine Below.alloc ?_ (by first | omega | (simp; omega) | (simp; done)) _ | refine Below.drew ?_) g8 m8 o8; have HA8 : Hid (OwnS base (w8.setCell ⟨B x, 4, none⟩ (.slice ad8 (r.length + 1) cap8)) fin D B (upF sw x (c :: w2)) (upF sr x (r ++ [c])) wv' (upF rv' x (.slice ad8 (r.length + 1) cap8)) wb ∧ UpO base wr (w8.setCell ⟨B x, 4, none⟩ (.slice ad8 (r.length + 1) cap8))) := A8; clear A8 o8 g8 m8 HOK)
      all_goals
        go_wp2
        obtain ⟨v3, hv3⟩ : ∃ v3, Value.slice (if cap = 1 then some ⟨wb x, off, none⟩ else some ⟨wb x, off + 1, none⟩) n2 (cap - 1) = v3 := ⟨_, rfl⟩
        rw [hv3]
        have hO8 := HA8.out.1
        have hwt : WaitAt (w8.setCell ⟨B x, 4, none⟩ (.slice ad8 (r.length + 1) cap8)) v3 (wb x) (w2.map (pB B)) ∨ (w2 = [] ∧ Empt v3) := by
          by_cases hc1 : cap = 1
          · right
            have h0 : n2 = 0 := by omega
            rw [if_pos hc1, h0] at hv3
            exact ⟨List.eq_nil_of_length_eq_zero (HN2.out.trans h0), _, _, hv3.symm⟩
          · left
            rw [if_neg hc1] at hv3
            rcases hO8.wait x HX.out with hw | ⟨e, _⟩
            · rw [upF_same] at hw
              obtain ⟨o', c', f1, _, _, f4⟩ := WaitAt.head hw
              simp only [List.length_map] at f1 f4
              rw [HE1.out] at f1
              simp only [Value.slice.injEq, Option.some.injEq, Addr.mk.injEq, true_and, and_true] at f1
              obtain ⟨rfl, rfl⟩ := f1
              have := f4 (w8.setCell ⟨B x, 4, none⟩ (.slice ad8 (r.length + 1) cap8)) rfl
              rw [HN2.out, hv3] at this
              exact this
            · rw [upF_same] at e; cases e
        obtain ⟨hO9, hU9⟩ := hO8.setW HX.out v3 w2 (fun _ => by rw [upF_same]; simp) hwt
        rw [upF_twice] at hO9
        refine ⟨⟨w2, r ++ [c], _, _, hO9, ?_, fun y hy => HW2.out y (by simp [hy]), fun y hy => ?_, ?_, (HU.out.trans HA8.out.2).trans hU9⟩, ?_⟩
        · rw [HM.out]; simp [moveM, hc]
        · rcases List.mem_append.1 hy with hy | hy
          · exact HR2.out y hy
          · simp at hy; subst hy; exact HW2.out y (by simp)
        · have h1 : (c :: w2).length + r.length ≤ 1000 := HL2.out
          simp at h1 ⊢
          omega
        · rw [hO9.wlen HX.out, OwnS.wlen HO.out HX.out, upF_same, upF_same]
          simp
    · have HST : Hid (moveM fin at_ w r = (w, r)) := hst
      have HNX : Hid ((nextM fin at_ (sw x) (sr x)) = ((popM fin at_ r).getLast?, w, popM fin at_ r)) := by
        have e : nextM fin at_ (sw x) (sr x) = ((popM fin at_ r).getLast?, w, popM fin at_ r) := by
          unfold nextM
          rw [HM.out, HST.out]
        exact e
      clear hst
      -- behind the first loop: what is left
      have LEN : Hid (∃ ad cap, rv' x = .slice ad r.length cap) := by
        have := owns_slice (HO.out.run x HX.out)
        rw [upF_same] at this
        exact this
      obtain ⟨ad, capr, hrv⟩ := LEN.out
      have HRV : Hid (rv' x = .slice ad r.length capr) := hrv
      rw [hrv] at c4
      obtain ⟨nr, hnr⟩ : ∃ nr, r.length = nr := ⟨_, rfl⟩
      have HNR : Hid (r.length = nr) := hnr
      rw [hnr] at c4
      have hnr1 : (nr : Int) ≤ 1000 := by have := HL2.out; omega
      have REST : Hid (OwnS base wr fin D B (upF sw x w) (upF sr x r) wv' rv' wb ∧ UpO base W wr) := ⟨HO.out, HU.out⟩
      clear hrv hnr LEN
      rcases hcase with ⟨ad0, cap0, e1, rfl⟩ | ⟨c, w2, rfl, hc⟩
      · rw [e1] at c3
        clear e1 HHEAD
        go_wp2
        go_loopw [5] (fun y wq => ∃ r2 wv2 rv2, y = .int .i64 ((r2.length : Int) - 1) ∧ OwnS base wq fin D B (upF sw x []) (upF sr x r2) wv2 rv2 wb ∧ popM fin at_ r = popM fin at_ r2 ∧ (∀ c ∈ r2, c ∈ D) ∧ r2.length ≤ 1000 ∧ UpO base W wq) (fun y _ => ((intOf y) + 1).toNat)
        case atStart => exact ⟨r, wv', rv', by rw [HNR.out], REST.out.1, rfl, HR2.out, by have := HL2.out; omega, REST.out.2⟩
        case round =>
          obtain ⟨r2, wv2, rv2, rfl, hO2, hP2, hD2, hl2, hU2⟩ := hrel
          have HO2 : Hid (OwnS base wr fin D B (upF sw x []) (upF sr x r2) wv2 rv2 wb) := hO2
          have HU2 : Hid (UpO base W wr) := hU2
          have HP2 : Hid (popM fin at_ r = popM fin at_ r2) := hP2
          have HD2 : Hid (∀ c ∈ r2, c ∈ D) := hD2
          have d4 : wr.cell? ⟨B x, 4, none⟩ = some (rv2 x) := (hO2.blk x HX.out).cell 4 rfl
          have df : ∀ j, wr.frozen? ⟨B x, j, none⟩ = false := fun j => (hO2.blk x HX.out).frozen j
          have hrun := hO2.run x HX.out
          rw [upF_same] at hrun
          have hcat : r2 = [] ∨ ∃ r3 c3', r2 = r3 ++ [c3'] := by
            rcases List.eq_nil_or_concat r2 with e | ⟨r3, c3', e⟩
            · exact Or.inl e
            · exact Or.inr ⟨r3, c3', by rw [e, List.concat_eq_append]⟩
          rcases hcat with rfl | ⟨r3, c3', rfl⟩
          · clear hO2 hP2 hD2 hU2 d4 df hrun c3 c4
            simp only [List.length_nil]
            go_wp2
            go_ret
            refine ⟨?_, ⟨wv2, rv2, ?_⟩, HU2.out⟩
            · rw [HNX.out, HP2.out]; rfl
            · rw [HNX.out, HP2.out]; exact HO2.out
          · have hcD : c3' ∈ D := HD2.out c3' (by simp)
            have t2 : wr.cell? ⟨B c3', 2, none⟩ = some (.int .i64 (fin c3').til) := (hO2.blk c3' hcD).cell 2 rfl
            obtain ⟨n3, hn3'⟩ : ∃ n3, r3.length = n3 := ⟨_, rfl⟩
            have HN3 : Hid (r3.length = n3) := hn3'
            obtain ⟨g, cap3, hrv2, hcell⟩ : ∃ g cap3, rv2 x = .slice (some ⟨g, 0, none⟩) (n3 + 1) cap3 ∧ wr.cell? ⟨g, n3, none⟩ = some (pB B c3') ∧ n3 + 1 ≤ cap3 := by
              rcases hrun.2 with ⟨_, e⟩ | ⟨g, cap3, cur, e1, _, hh, hc, _⟩
              · simp at e
              · refine ⟨g, cap3, by rw [e1]; simp [hn3'], ?_, by simp [hn3'] at hc; omega⟩
                have := hrun.cells (g := g) (by rw [e1]; rfl) n3 (pB B c3') (by rw [List.getElem?_map, List.getElem?_append_right (by omega), hn3', Nat.sub_self]; rfl)
                rw [Addr.add_mid, Nat.zero_add] at this
                exact this
            obtain ⟨hcell, hcap3⟩ := hcell
            have HRV2 : Hid (rv2 x = .slice (some ⟨g, 0, none⟩) (n3 + 1) cap3) := hrv2
            rw [hrv2] at d4
            unfold pB at hcell
            have hidx : ((r3 ++ [c3']).length : Int) - 1 = (n3 : Int) := by simp; omega
            rw [hidx]
            have hl3 : (n3 : Int) + 1 ≤ 1000 := by simp at hl2; omega
            have hz3 : (0 : Int) ≤ (n3 : Int) := by omega
            have hc3' : (n3 : Int) + 1 ≤ (cap3 : Int) := by omega
            have hw3 : IntKind.i64.wrap ((n3 : Int) - 1) = (n3 : Int) - 1 := by unfold IntKind.wrap; simp [IntKind.signed, IntKind.bits]; omega
            clear hO2 hP2 hD2 hU2 hrun hn3' hidx hrv2 c3 c4 hl2 hcap3
            by_cases hta : at_ < (fin c3').til
            · go_wp2
              go_ret
              have hpk : popM fin at_ r = r3 ++ [c3'] := by rw [HP2.out, popM_keep _ _ _ _ hta]
              refine ⟨?_, ⟨wv2, rv2, ?_⟩, HU2.out⟩
              · rw [HNX.out, hpk]
                simp [nxV, pB]
              · rw [HNX.out, hpk]; exact HO2.out
            · go_wp2
              go_roundw
              case rel =>
                obtain ⟨q1, q2⟩ := OwnS.cut HO2.out HX.out g (n3 + 1) cap3 n3 HRV2.out (by rw [upF_same]; simp; have := HN3.out; omega)
                rw [upF_same, upF_twice, show (r3 ++ [c3']).take n3 = r3 by rw [← HN3.out]; simp] at q1
                refine ⟨r3, wv2, _, by rw [HN3.out], q1, by rw [HP2.out, popM_drop _ _ _ _ hta], fun c hc => HD2.out c (by simp [hc]), by have := HN3.out; omega, HU2.out.trans q2⟩
              case measure => (simp [intOf]; try omega)
      · obtain ⟨off, cap, e1, e2, e3, e4, -⟩ := HHEAD.out c w2 rfl
        rw [e1] at c3
        unfold pB at e3
        obtain ⟨n2, hn2⟩ : ∃ n2, w2.length = n2 := ⟨_, rfl⟩
        rw [hn2] at c3 e2
        have hn3 : (n2 : Int) + 1 ≤ 1000 := by have := HL2.out; simp at this; omega
        clear e1 HHEAD hn2
        go_wp2
        go_loopw [5] (fun y wq => ∃ r2 wv2 rv2, y = .int .i64 ((r2.length : Int) - 1) ∧ OwnS base wq fin D B (upF sw x (c :: w2)) (upF sr x r2) wv2 rv2 wb ∧ popM fin at_ r = popM fin at_ r2 ∧ (∀ c ∈ r2, c ∈ D) ∧ r2.length ≤ 1000 ∧ UpO base W wq) (fun y _ => ((intOf y) + 1).toNat)
        case atStart => exact ⟨r, wv', rv', by rw [HNR.out], REST.out.1, rfl, HR2.out, by have := HL2.out; omega, REST.out.2⟩
        case round =>
          obtain ⟨r2, wv2, rv2, rfl, hO2, hP2, hD2, hl2, hU2⟩ := hrel
          have HO2 : Hid (OwnS base wr fin D B (upF sw x (c :: w2)) (upF sr x r2) wv2 rv2 wb) := hO2
          have HU2 : Hid (UpO base W wr) := hU2
          have HP2 : Hid (popM fin at_ r = popM fin at_ r2) := hP2
          have HD2 : Hid (∀ c ∈ r2, c ∈ D) := hD2
          have d4 : wr.cell? ⟨B x, 4, none⟩ = some (rv2 x) := (hO2.blk x HX.out).cell 4 rfl
          have df : ∀ j, wr.frozen? ⟨B x, j, none⟩ = false := fun j => (hO2.blk x HX.out).frozen j
          have hrun := hO2.run x HX.out
          rw [upF_same] at hrun
          have hcat : r2 = [] ∨ ∃ r3 c3', r2 = r3 ++ [c3'] := by
            rcases List.eq_nil_or_concat r2 with e | ⟨r3, c3', e⟩
            · exact Or.inl e
            · exact Or.inr ⟨r3, c3', by rw [e, List.concat_eq_append]⟩
          rcases hcat with rfl | ⟨r3, c3', rfl⟩
          · clear hO2 hP2 hD2 hU2 d4 df hrun c3 c4
            simp only [List.length_nil]
            go_wp2
            go_ret
            refine ⟨?_, ⟨wv2, rv2, ?_⟩, HU2.out⟩
            · rw [HNX.out, HP2.out]; rfl
            · rw [HNX.out, HP2.out]; exact HO2.out
          · have hcD : c3' ∈ D := HD2.out c3' (by simp)
            have t2 : wr.cell? ⟨B c3', 2, none⟩ = some (.int .i64 (fin c3').til) := (hO2.blk c3' hcD).cell 2 rfl
            obtain ⟨n3, hn3'⟩ : ∃ n3, r3.length = n3 := ⟨_, rfl⟩
            have HN3 : Hid (r3.length = n3) := hn3'
            obtain ⟨g, cap3, hrv2, hcell⟩ : ∃ g cap3, rv2 x = .slice (some ⟨g, 0, none⟩) (n3 + 1) cap3 ∧ wr.cell? ⟨g, n3, none⟩ = some (pB B c3') ∧ n3 + 1 ≤ cap3 := by
              rcases hrun.2 with ⟨_, e⟩ | ⟨g, cap3, cur, e1, _, hh, hc, _⟩
              · simp at e
              · refine ⟨g, cap3, by rw [e1]; simp [hn3'], ?_, by simp [hn3'] at hc; omega⟩
                have := hrun.cells (g := g) (by rw [e1]; rfl) n3 (pB B c3') (by rw [List.getElem?_map, List.getElem?_append_right (by omega), hn3', Nat.sub_self]; rfl)
                rw [Addr.add_mid, Nat.zero_add] at this
                exact this
            obtain ⟨hcell, hcap3⟩ := hcell
            have HRV2 : Hid (rv2 x = .slice (some ⟨g, 0, none⟩) (n3 + 1) cap3) := hrv2
            rw [hrv2] at d4
            unfold pB at hcell
            have hidx : ((r3 ++ [c3']).length : Int) - 1 = (n3 : Int) := by simp; omega
            rw [hidx]
            have hl3 : (n3 : Int) + 1 ≤ 1000 := by simp at hl2; omega
            have hz3 : (0 : Int) ≤ (n3 : Int) := by omega
            have hc3' : (n3 : Int) + 1 ≤ (cap3 : Int) := by omega
            have hw3 : IntKind.i64.wrap ((n3 : Int) - 1) = (n3 : Int) - 1 := by unfold IntKind.wrap; simp [IntKind.signed, IntKind.bits]; omega
            clear hO2 hP2 hD2 hU2 hrun hn3' hidx hrv2 c3 c4 hl2 hcap3
            by_cases hta : at_ < (fin c3').til
            · go_wp2
              go_ret
              have hpk : popM fin at_ r = r3 ++ [c3'] := by rw [HP2.out, popM_keep _ _ _ _ hta]
              refine ⟨?_, ⟨wv2, rv2, ?_⟩, HU2.out⟩
              · rw [HNX.out, hpk]
                simp [nxV, pB]
              · rw [HNX.out, hpk]; exact HO2.out
            · go_wp2
              go_roundw
              case rel =>
                obtain ⟨q1, q2⟩ := OwnS.cut HO2.out HX.out g (n3 + 1) cap3 n3 HRV2.out (by rw [upF_same]; simp; have := HN3.out; omega)
                rw [upF_same, upF_twice, show (r3 ++ [c3']).take n3 = r3 by rw [← HN3.out]; simp] at q1
                refine ⟨r3, wv2, _, by rw [HN3.out], q1, by rw [HP2.out, popM_drop _ _ _ _ hta], fun c hc => HD2.out c (by simp [hc]), by have := HN3.out; omega, HU2.out.trans q2⟩
              case measure => (simp [intOf]; try omega)
end Go.Proofs.YtkdgnhohecifoaaGreatDoor
