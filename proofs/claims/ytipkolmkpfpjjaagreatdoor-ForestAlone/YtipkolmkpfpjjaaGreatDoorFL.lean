/-
  FL.
-/
import Derived.Test.YtipkolmkpfpjjaaGreatDoorFJq
namespace Go.Proofs.YtipkolmkpfpjjaaGreatDoor
open Go Go.RowKit
set_option maxRecDepth 100000

set_option maxHeartbeats 8000000 in
theorem down_any (base f sb bx bf bv bd N : Nat) (X0 : List Spot) (nm : List Int) (dp : Nat → Nat) (fin : Nat → Nod) (KV : Nat → Value) (rv : Value) (R : List Int) (G : Grow base f sb bx bf bv bd N X0 nm dp fin KV) : ∀ (fuel : Nat) (V : Nat → Prop) (w : World) (X : List Spot) (K : Nat → List Int) (L : List Int) (ad : Option Addr) (cap lv : Nat), 1002 ≤ fuel + lv → lv ≤ 1001 → Dn base f sb bx bf bv bd N X0 nm fin KV rv R V w X K → Lev N nm dp V lv L → Rd base f sb X0 nm fin KV rv R V K ad L → L.length ≤ 1000 →
    Calls Tryz.prog 48 #[.slice ad L.length cap, .pointer (some ⟨bf, 0, none⟩), .pointer (some ⟨bv, 0, none⟩), .pointer (some ⟨bd, 0, none⟩)] w fun e w' => e = .returned (.bool true) ∧ DnR base f sb bx bf bv bd N X0 nm fin KV rv R V K L w w' := by
  intro fuel
  induction fuel with
  | zero =>
    intro V w X K L ad cap lv hfu hlv
    omega
  | succ fuel ih =>
    intro V w X K L ad cap lv hfu hlv hD hLev hRd hLl
    have HIH : Hid _ := ih
    have HD : Hid (Dn base f sb bx bf bv bd N X0 nm fin KV rv R V w X K) := hD
    have HLev : Hid (Lev N nm dp V lv L) := hLev
    have HRd : Hid (Rd base f sb X0 nm fin KV rv R V K ad L) := hRd
    have HG : Hid (Grow base f sb bx bf bv bd N X0 nm dp fin KV) := G
    obtain ⟨m, hm⟩ : ∃ m, L.length = m := ⟨_, rfl⟩
    have HM : Hid (L.length = m) := hm
    rw [hm] at hLl ⊢
    clear ih hD hLev hRd hm
    go_enter Tryz.func48, Tryz.ntmps48
    go_wp2
    go_loopw [11] (fun y wr => ∃ (q : Nat), y = .int .i64 q ∧ q ≤ m ∧ DnR base f sb bx bf bv bd N X0 nm fin KV rv R V K (L.take q) w wr) (fun y _ => m - (intOf y).toNat)
    case atStart => exact ⟨0, rfl, by omega, V, X, K, HD.out, fun i _ => by simp, fun _ _ _ => rfl, Upd.refl _ _⟩
    case round =>
      obtain ⟨q, rfl, hqm, hR⟩ := hrel
      have HR : Hid (DnR base f sb bx bf bv bd N X0 nm fin KV rv R V K (L.take q) w wr) := hR
      clear hR
      by_cases hlt : q < m
      · have hq : q < L.length := by rw [HM.out]; exact hlt
        obtain ⟨V1, X1, K1, hD1, hV1, hK1, hU1⟩ := HR.out
        obtain ⟨g, rfl, gc⟩ := HRd.out _ _ wr X1 K1 hD1.g (fun i hi => hK1 i (by rw [← HG.out.n]; exact hi)) q hq
        obtain ⟨x, hxe, hxN, hxl, hxV, hxp⟩ := HLev.out.el _ (List.getElem_mem hq)
        rw [hxe] at gc
        have hxV1 : ¬ V1 x := fun hh => by
          rcases (hV1 x hxN).1 hh with h | ⟨y, hy, hd⟩
          · exact hxV h
          · obtain ⟨y', hye, hyN, hyl, _⟩ := HLev.out.el y (List.mem_of_mem_take hy)
            subst hye
            simp only [Int.toNat_natCast] at hd
            have he := desc_same HG.out.sh HG.out.hr (by rw [HG.out.n]; exact hxN) hd (by omega)
            subst he
            obtain ⟨p, hp, hpe⟩ := List.getElem_of_mem hy
            rw [List.getElem_take] at hpe
            have hpq : p < q := by simp at hp; omega
            exact (List.pairwise_iff_getElem.1 HLev.out.nodup) p q (by omega) hq hpq (by rw [hpe, hxe])
        have hxp1 : nm.getD x (-1) ≠ -1 → V1 (nm.getD x (-1)).toNat := fun hne => by
          have h1 := HG.out.hr x (by rw [HG.out.n]; exact hxN) hne
          have h2 := HG.out.n
          exact (hV1 _ (by omega)).2 (Or.inl (hxp hne))
        have VI := visit_dn (w := wr.drew) HG.out ⟨hD1.g.below ((Below.refl _ _).drew), hD1.up, ⟨hD1.box.cf, hD1.box.cv, hD1.box.cd⟩, hD1.bx⟩ hxN hxV1 hxp1
        have c1 := hD1.box.cf
        have c2 := hD1.box.cv
        have c3 := hD1.box.cd
        have c4 : wr.cell? ⟨f, 0, none⟩ = some (.slice (some ⟨sb, 0, none⟩) N N) := by
          have := hD1.g.at_.head.cell 0 rfl
          rwa [hD1.g.len, HG.out.n] at this
        have NEXT : Hid (∀ w5 X' K', Dn base f sb bx bf bv bd N X0 nm fin KV rv R (fun i => V1 i ∨ i = x) w5 X' K' → (∀ i, V1 i → K' i = K1 i) → Upd (GrW sb KV N) wr.drew w5 → ∃ ad5 m5 cap5, w5.cell? ⟨sb, x * 21 + 20, none⟩ = some (.slice ad5 m5 cap5) ∧ w5.cell? ⟨bd, 0, none⟩ = some (.func (.func 48) #[] #[.pointer (some ⟨bf, 0, none⟩), .pointer (some ⟨bv, 0, none⟩), .pointer (some ⟨bd, 0, none⟩)]) ∧ Calls Tryz.prog 48 #[.slice ad5 m5 cap5, .pointer (some ⟨bf, 0, none⟩), .pointer (some ⟨bv, 0, none⟩), .pointer (some ⟨bd, 0, none⟩)] w5 fun e w' => e = .returned (.bool true) ∧ DnR base f sb bx bf bv bd N X0 nm fin KV rv R V K (L.take (q + 1)) w w') := fun w5 X' K' hD5 hK5 hU5 => by
          obtain ⟨hL5, ⟨ad5, cap5, hkv5, h20, hrd5⟩, hfin⟩ := down_one (w2 := w5) (lv := lv) HG.out hxN hxl hxV1 hD1.up hD5 (K := K1) (fun i _ => hK5 i)
          refine ⟨ad5, (K' x).length, cap5, h20, hD5.box.cd, ?_⟩
          have hlen5 : (K' x).length ≤ 1000 := by
            have hp := (hD5.g.kv x (by rw [HG.out.n]; exact hxN) (Or.inr rfl)).1.length_eq
            have := kidsF_len nm X0.length x
            have := HG.out.n
            have := HG.out.l
            omega
          refine (HIH.out _ w5 X' K' (K' x) ad5 cap5 (lv + 1) (by omega) (by have := (HG.out.sh.bd x (by rw [HG.out.n]; exact hxN)).1; omega) hD5 hL5 hrd5 hlen5).mono ?_
          rintro e w' ⟨rfl, hR5⟩
          obtain ⟨V2, X2, K2, hD2, hV2, hK2, hU2⟩ := (down_one (w2 := w') (lv := lv) HG.out hxN hxl hxV1 hD1.up hD5 (K := K1) (fun i _ => hK5 i)).2.2 hR5
          refine ⟨rfl, V2, X2, K2, hD2, fun i hi => ?_, fun i hi hv => (hK2 i hi ((hV1 i hi).2 (Or.inl hv))).trans (hK1 i hi hv), (hU1.drew.trans hU5 (fun _ _ h => h)).trans hU2 (fun _ _ h => h)⟩
          · rw [hV2 i hi, hV1 i hi, List.take_succ_eq_append_getElem hq, hxe]
            constructor
            · rintro ((h | ⟨y, hy, hd⟩) | h)
              · exact Or.inl h
              · exact Or.inr ⟨y, List.mem_append_left _ hy, hd⟩
              · exact Or.inr ⟨(x : Int), List.mem_append_right _ (by simp), by simpa using h⟩
            · rintro (h | ⟨y, hy, hd⟩)
              · exact Or.inl (Or.inl h)
              · rcases List.mem_append.1 hy with hy | hy
                · exact Or.inl (Or.inr ⟨y, hy, hd⟩)
                · simp at hy
                  subst hy
                  exact Or.inr (by simpa using hd)
        clear hV1 hK1 hU1 hxe hxV hxp hxV1 hxp1 hD1
        go_wp2
        go_region_law (first
          | (go_simp; go_at_call 44; (with_reducible refine VI.mono ?_); clear VI; rintro e w5 ⟨rfl, X5, K5, hD5, hK5, hU5⟩; obtain ⟨ad5, m5, cap5, h20, hcd5, NX⟩ := NEXT.out w5 X5 K5 hD5 hK5 hU5; clear hD5 hK5 hU5 NEXT)
          | (go_simp; go_at_call 48; (with_reducible refine NX.mono ?_); clear NX; rintro e w6 ⟨rfl, h6⟩; have H6 : Hid _ := h6; clear h6))
        all_goals
          go_wp2
          go_roundw
          case rel => exact ⟨q + 1, by simp, by omega, H6.out⟩
          case measure => simp [intOf]; omega
      · obtain rfl : q = m := by omega
        go_wp2
        go_ret
        refine ⟨rfl, ?_⟩
        have := HR.out
        rwa [List.take_of_length_le (by rw [HM.out]; exact Nat.le_refl _)] at this
end Go.Proofs.YtipkolmkpfpjjaaGreatDoor
