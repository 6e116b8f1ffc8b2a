/-
  PF.
-/
import Derived.Test.YtmpmpoclkgofeaaGreatDoorPBq
namespace Go.Proofs.YtmpmpoclkgofeaaGreatDoor
open Go Go.RowKit
set_option maxRecDepth 100000

structure BkE (A : Nat → Sp) (fin : Nat → Nod) (C : Nat → List Nat) (D : List Nat) : Prop where
  ida : ∀ y ∈ D, (A y).id = (fin y).id
  rg : ∀ y ∈ D, In64 ((fin y).fr, (fin y).til)
  len : ∀ y ∈ D, (C y).length ≤ 1000
theorem AwR.of {base : Nat} {W : World} {A : Nat → Sp} {fin : Nat → Nod} {C : Nat → List Nat} {tb : Nat} {D : List Nat} {p : Nat → Pl} {B : Nat → Nat} {cv : Nat → Value} {cb : Nat → Nat} {r sv : Value} {vs : List Value} {lv : Value} {L : List (Nat × Int × Int)} (h : SwS base W A fin C tb D p B cv cb r sv vs lv L) (E : BkE A fin C D) {s : Nat} (hs : s ∈ D) : AwR W (B s) (cb s) (cv s) (C s) B fin := by
  refine ⟨(h.blk s hs).cell 15 rfl, ?_, fun c hc => ?_, E.len s hs⟩
  · obtain ⟨ad, cap, e, hc⟩ := (h.kid s hs).cell
    rw [List.length_map] at e
    exact ⟨ad, cap, e, fun i hi => hc i _ (by simp [hi, pB])⟩
  · have hb := h.blk c (h.cl s hs c hc)
    exact ⟨by rw [← E.ida c (h.cl s hs c hc)]; exact hb.cell 2 rfl, hb.cell 13 rfl, hb.cell 14 rfl⟩
theorem szN_pos {C : Nat → List Nat} {fu : Nat} {L : List Nat} (h : DeepN C fu L) {c : Nat} (hc : c ∈ L) : 1 ≤ szN C fu c := by
  cases fu with
  | zero => rw [show L = [] from h] at hc; cases hc
  | succ fu => unfold szN; omega
theorem sum_two (g : Nat → Nat) : ∀ L : List Nat, (L.map (fun c => 2 * g c)).sum = 2 * (L.map g).sum
  | [] => rfl
  | x :: r => by simp only [List.map_cons, List.sum_cons, sum_two g r]; omega
theorem unt_in {d : Nod} {to : Int} (h : In64 (d.fr, d.til)) (ht : in64 to) : in64 (min d.til to) := by
  obtain ⟨_, h2⟩ := h
  unfold in64 at *
  simp only at h2
  omega
def BkR (base : Nat) (W : World) (A : Nat → Sp) (fin : Nat → Nod) (C : Nat → List Nat) (tb : Nat) (D : List Nat) (p : Nat → Pl) (B : Nat → Nat) (cv : Nat → Value) (cb : Nat → Nat) (r sv : Value) (vs : List Value) (L : List (Nat × Int × Int)) (fu s : Nat) (to t : Int) (wr : World) : Prop :=
  ∃ lv M, in64 t ∧ SwS base wr A fin C tb D p B cv cb r sv vs lv (L ++ M) ∧ (∀ N, PathR fin C s t N → PathR fin C s to (M ++ N)) ∧ M.length + potN fin (fun c => 2 * szN C fu c) t (C s) + 2 ≤ 2 * szN C (fu + 1) s ∧ Upd (fun k => k = tb ∨ base ≤ k) W wr
set_option maxHeartbeats 8000000 in
theorem back_any (base : Nat) (A : Nat → Sp) (fin : Nat → Nod) (C : Nat → List Nat) (tb : Nat) (D : List Nat) (p : Nat → Pl) (B : Nat → Nat) (cv : Nat → Value) (cb : Nat → Nat) (r sv : Value) (vs : List Value) (E : BkE A fin C D) : ∀ (fuel : Nat) (W : World) (s : Nat) (to : Int) (lv : Value) (L : List (Nat × Int × Int)), DeepN C fuel [s] → s ∈ D → in64 to → SwS base W A fin C tb D p B cv cb r sv vs lv L → L.length + 2 * szN C fuel s ≤ 4000 →
    Calls Tryz.prog 35 #[.pointer (some ⟨tb, 0, none⟩), .pointer (some ⟨B s, 0, none⟩), .int .i64 to] W fun e W' => e = .returned (.tuple #[]) ∧ ∃ lv' M, SwS base W' A fin C tb D p B cv cb r sv vs lv' (L ++ M) ∧ PathR fin C s to M ∧ M.length + 1 ≤ 2 * szN C fuel s ∧ Upd (fun k => k = tb ∨ base ≤ k) W W' := by
  intro fuel
  induction fuel with
  | zero =>
    intro W s to lv L hD
    exact absurd (show [s] = [] from hD) (by simp)
  | succ fu ih =>
    intro W s to lv L hD hs hto hS hlen
    have hDk : DeepN C fu (C s) := hD s (by simp)
    have HST : Hid (BkR base W A fin C tb D p B cv cb r sv vs L fu s to to W) := by
      refine ⟨lv, [], hto, by rw [List.append_nil]; exact hS, fun N hN => hN, ?_, Upd.refl _ _⟩
      have h1 := potN_le fin (fun c => 2 * szN C fu c) to (C s)
      rw [sum_two] at h1
      have h2 : szN C (fu + 1) s = 1 + ((C s).map (szN C fu)).sum := rfl
      simp only [List.length_nil]
      omega
    have HE : Hid (BkE A fin C D) := E
    have HIH : Hid (∀ (W : World) (s : Nat) (to : Int) (lv : Value) (L : List (Nat × Int × Int)), DeepN C fu [s] → s ∈ D → in64 to → SwS base W A fin C tb D p B cv cb r sv vs lv L → L.length + 2 * szN C fu s ≤ 4000 →
      Calls Tryz.prog 35 #[.pointer (some ⟨tb, 0, none⟩), .pointer (some ⟨B s, 0, none⟩), .int .i64 to] W fun e W' => e = .returned (.tuple #[]) ∧ ∃ lv' M, SwS base W' A fin C tb D p B cv cb r sv vs lv' (L ++ M) ∧ PathR fin C s to M ∧ M.length + 1 ≤ 2 * szN C fu s ∧ Upd (fun k => k = tb ∨ base ≤ k) W W') := ih
    have HM : Hid (s ∈ D ∧ DeepN C fu (C s) ∧ L.length + 2 * szN C (fu + 1) s ≤ 4000) := ⟨hs, hDk, hlen⟩
    clear ih hD hs hto hS hlen hDk E
    go_enter Tryz.func35, Tryz.ntmps35
    go_wp2
    go_loopw [2] (fun y wr => ∃ t : Int, y = .int .i64 t ∧ BkR base W A fin C tb D p B cv cb r sv vs L fu s to t wr) (fun y _ => potN fin (fun c => 2 * szN C fu c) (intOf y) (C s))
    case atStart => exact ⟨to, rfl, HST.out⟩
    case round =>
      obtain ⟨t, rfl, lv1, M, ht, hS, hP, hl, hU⟩ := hrel
      obtain ⟨hs, hDk, hlen⟩ := HM.out
      have bs := hS.blk s hs
      have c13 : wr.cell? ⟨B s, 13, none⟩ = some (.int .i64 (fin s).fr) := bs.cell 13 rfl
      have HS : Hid (SwS base wr A fin C tb D p B cv cb r sv vs lv1 (L ++ M)) := hS
      have HP : Hid ((∀ N, PathR fin C s t N → PathR fin C s to (M ++ N)) ∧ M.length + potN fin (fun c => 2 * szN C fu c) t (C s) + 2 ≤ 2 * szN C (fu + 1) s ∧ Upd (fun k => k = tb ∨ base ≤ k) W wr ∧ in64 t) := ⟨hP, hl, hU, ht⟩
      by_cases hgt : (fin s).fr < t
      · have AW := awaited_any (B s) (cb s) (cv s) (C s) B fin t wr (AwR.of hS HE.out hs)
        cases hA : awaitM fin t (C s) with
        | none =>
          rw [hA] at AW
          have HG := fun m => hangW_any base A fin C tb D p B cv cb r sv vs lv1 (L ++ M) s hs (fin s).fr t ⟨(HE.out.rg s hs).1, ht⟩ (by rw [List.length_append]; omega) (wr.drewN m) (hS.below (below_drewN (Below.refl _ _) m))
          have HFIN : Hid (∀ m W', Upd (fun k => k = tb ∨ base ≤ k) (wr.drewN m) W' → (∃ lv', SwS base W' A fin C tb D p B cv cb r sv vs lv' (L ++ M ++ hangM s (fin s).fr t)) → ∃ lv' M', SwS base W' A fin C tb D p B cv cb r sv vs lv' (L ++ M') ∧ PathR fin C s to M' ∧ M'.length + 1 ≤ 2 * szN C (fu + 1) s ∧ Upd (fun k => k = tb ∨ base ≤ k) W W') := fun m W' hu hex => by
            obtain ⟨lv', h'⟩ := hex
            have e : hangM s (fin s).fr t = [(s, (fin s).fr, t)] := by unfold hangM; rw [if_pos hgt]
            rw [e, List.append_assoc] at h'
            refine ⟨lv', _, h', hP _ (PathR.own hgt hA), ?_, (hU.drewN m).trans hu (fun _ _ h => h)⟩
            rw [List.length_append]
            simp only [List.length_cons, List.length_nil]
            omega
          simp only [ptrO] at AW
          clear hS hP hl hU ht hA bs HP hlen hDk HIH
          go_wp2_with (first
            | (go_at_call 56; refine AW.mono ?_; clear AW; rintro e w1 ⟨rfl, m, rfl⟩)
            | (go_at_call 57; refine (HG m).mono ?_; clear HG; rintro e w2 ⟨rfl, lv2, hS2, hU2⟩; have HR := HFIN.out m w2 hU2 ⟨lv2, hS2⟩; clear HFIN hS2 hU2))
          (try simp only [Exit.inBlock, Exit.then])
          refine bodyPost_ret (results_none rfl _ _ _) rfl ?_
          exact ⟨rfl, HR⟩
        | some c =>
          rw [hA] at AW
          obtain ⟨a1, a2, _⟩ := awaitM_some hA
          have hc := hS.cl s hs c a1
          have bc := hS.blk c hc
          have c14 : wr.cell? ⟨B c, 13 + 1, none⟩ = some (.int .i64 (fin c).til) := bc.cell 14 rfl
          have UN := fun m => until_any (B c) (fin c).til t (wr.drewN m) c14
          have hun : in64 (min (fin c).til t) := unt_in (HE.out.rg c hc) ht
          have hz1 := szN_pos hDk a1
          have hpl := potN_less fin (fun c => 2 * szN C fu c) t c a2 (C s) a1
          have hpl : potN fin (fun c => 2 * szN C fu c) (fin c).fr (C s) + 2 * szN C fu c ≤ potN fin (fun c => 2 * szN C fu c) t (C s) := hpl
          have hge : (hangM s (min (fin c).til t) t).length ≤ 1 := by
            unfold hangM
            by_cases e : min (fin c).til t < t
            · rw [if_pos e]; simp
            · rw [if_neg e]; simp
          have HG := fun m => hangW_any base A fin C tb D p B cv cb r sv vs lv1 (L ++ M) s hs (min (fin c).til t) t ⟨hun, ht⟩ (by rw [List.length_append]; omega) (wr.drewN m) (hS.below (below_drewN (Below.refl _ _) m))
          have HBK : Hid (∀ m w2 lv2, Upd (fun k => k = tb ∨ base ≤ k) (wr.drewN m) w2 → SwS base w2 A fin C tb D p B cv cb r sv vs lv2 (L ++ M ++ hangM s (min (fin c).til t) t) → Calls Tryz.prog 35 #[.pointer (some ⟨tb, 0, none⟩), .pointer (some ⟨B c, 0, none⟩), .int .i64 (min (fin c).til t)] w2 fun e W' => e = .returned (.tuple #[]) ∧ W'.cell? ⟨B c, 13, none⟩ = some (.int .i64 (fin c).fr) ∧ BkR base W A fin C tb D p B cv cb r sv vs L fu s to (fin c).fr W') := fun m w2 lv2 hu2 hS2 => by
            refine (HIH.out w2 c (min (fin c).til t) lv2 _ (hDk.one a1) hc hun hS2 ?_).mono ?_
            · simp only [List.length_append]
              omega
            · rintro e W' ⟨rfl, lv3, N, h1, h2, h3, h4⟩
              refine ⟨rfl, (h1.blk c hc).cell 13 rfl, lv3, M ++ hangM s (min (fin c).til t) t ++ N, (HE.out.rg c hc).1, ?_, fun N' hN' => ?_, ?_, ((hU.drewN m).trans hu2 (fun _ _ h => h)).trans h4 (fun _ _ h => h)⟩
              · rw [← List.append_assoc, ← List.append_assoc]
                exact h1
              · have := hP _ (PathR.via hgt hA h2 hN')
                simp only [List.append_assoc] at this ⊢
                exact this
              · simp only [List.length_append]
                omega
          have HME : Hid (potN fin (fun c => 2 * szN C fu c) (fin c).fr (C s) < potN fin (fun c => 2 * szN C fu c) t (C s)) := by
            have h : potN fin (fun c => 2 * szN C fu c) (fin c).fr (C s) < potN fin (fun c => 2 * szN C fu c) t (C s) := by omega
            exact h
          simp only [ptrO] at AW
          clear hS hP hl hU ht hA bs HP hlen hDk HIH c14 bc hz1 hpl hge hun
          obtain ⟨mn, hmn⟩ : ∃ mn, min (fin c).til t = mn := ⟨_, rfl⟩
          rw [hmn] at UN HG HBK
          clear hmn
          go_wp2_with (first
            | (go_at_call 56; refine AW.mono ?_; clear AW; rintro e w1 ⟨rfl, m, rfl⟩)
            | (go_at_call 58; refine (UN m).mono ?_; clear UN; rintro e w1 ⟨rfl, rfl⟩)
            | (go_at_call 57; refine (HG m).mono ?_; clear HG; rintro e w2 ⟨rfl, lv2, hS2, hU2⟩; have BK := HBK.out m w2 lv2 hU2 hS2; clear HBK hS2 hU2)
            | (go_at_call 35; refine BK.mono ?_; clear BK; rintro e w3 ⟨rfl, d13, hR⟩; have HR : Hid (BkR base W A fin C tb D p B cv cb r sv vs L fu s to (fin c).fr w3) := hR; clear hR))
          go_roundw
          case rel => exact ⟨_, rfl, HR.out⟩
          case measure => exact HME.out
      · have HFIN : Hid (∃ lv' M', SwS base wr A fin C tb D p B cv cb r sv vs lv' (L ++ M') ∧ PathR fin C s to M' ∧ M'.length + 1 ≤ 2 * szN C (fu + 1) s ∧ Upd (fun k => k = tb ∨ base ≤ k) W wr) := ⟨lv1, M, hS, by have := hP [] (PathR.stop (by omega)); rwa [List.append_nil] at this, by omega, hU⟩
        clear hS hP hl hU ht bs HP hlen hDk HIH HS
        go_wp2
        go_end0
        exact ⟨rfl, HFIN.out⟩
end Go.Proofs.YtmpmpoclkgofeaaGreatDoor
