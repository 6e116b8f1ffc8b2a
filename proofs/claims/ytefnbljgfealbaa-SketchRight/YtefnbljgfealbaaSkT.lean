/-
  Layer 13: sketches that were made, as functions; put.
-/
import Derived.Test.YtefnbljgfealbaaSkS
namespace Go.Proofs.Ytefnbljgfealbaa.sk
open Go.RowKit
set_option maxRecDepth 100000

/-- The sketch of this function lies here. -/
structure SkAt (w : World) (ao : Option Addr) (L : Nat) (f : Nat → Nat) : Prop where
  len : L = (barsF f).length
  at_ : InAt w ao L (barsF f)
  le : ∀ j, f j ≤ topC
theorem SkAt.below {w w' : World} {ao : Option Addr} {L : Nat} {f : Nat → Nat} (h : SkAt w ao L f) (hb : Below w.heap.size w w') : SkAt w' ao L f := ⟨h.len, h.at_.below hb, h.le⟩
theorem SkAt.upd {S : Nat → Prop} {w w' : World} {ao : Option Addr} {L : Nat} {f : Nat → Nat} (h : SkAt w ao L f) (hu : Upd S w w') (hS : ∀ a, ao = some a → ¬ S a.block) : SkAt w' ao L f := ⟨h.len, h.at_.upd hu hS, h.le⟩
theorem SkAt.congr {w : World} {ao : Option Addr} {L : Nat} {f g : Nat → Nat} (h : SkAt w ao L f) (hg : ∀ j, g j ≤ topC) (e : ∀ i, i < 1920 → f i = g i) : SkAt w ao L g := by
  have := barsF_congr e
  exact ⟨by rw [← this]; exact h.len, by rw [← this]; exact h.at_, hg⟩
theorem bars_zero : barsF (fun _ => 0) = [] := List.eq_nil_of_length_eq_zero numF_zero
theorem SkAt.nil (w : World) : SkAt w none 0 (fun _ => 0) := by
  refine ⟨numF_zero.symm, ?_, fun _ => Nat.zero_le _⟩
  rw [bars_zero]
  exact InAt.nil w
theorem SkAt.few {w : World} {ao : Option Addr} {L : Nat} {f : Nat → Nat} (h : SkAt w ao L f) : L ≤ 1920 := by rw [h.len]; exact barsF_len f
/-- What a call that makes a sketch tells. -/
def SkP (f : Nat → Nat) (w : World) (e : Ending) (w' : World) : Prop := ∃ ao L c, e = .returned (.tuple #[.slice ao L c, .int .i64 0]) ∧ Hid (SkAt w' ao L f) ∧ Below w.heap.size w w'
theorem MadeP.sk {f : Nat → Nat} {err : Int} {w w' : World} {e : Ending} (h : MadeP (some f) err w e w') {g : Nat → Nat} (hf : ∀ j, f j ≤ topC) (hg : ∀ j, g j ≤ topC) (eq : ∀ i, i < 1920 → f i = g i) : SkP g w e w' := by
  obtain ⟨ao, c, h1, h2, _, h3⟩ := h.list hf rfl
  exact ⟨ao, _, c, h1, SkAt.congr ⟨rfl, h2, hf⟩ hg eq, h3⟩
theorem add_sk (ao : Option Addr) (L c : Nat) (f : Nat → Nat) (v t : Nat) (hv : v < 18446744073709551616) (ht : t < 18446744073709551616) (w : World) (h : SkAt w ao L f) :
    Calls Try.prog 24 #[.slice ao L c, .int .u64 (v : Int), .int .u64 (t : Int)] w (SkP (putF f (idxN v) t) w) := by
  refine (add_ok ao L c (barsF f) v t hv ht w h.at_ (barsF_chk f)).mono fun e w' hm => ?_
  refine hm.sk (addF_le h.at_.bin v t) (putF_le h.le _ _) fun i hi => ?_
  unfold addF
  rw [putF_at, putF_at, barsF_cnt f hi, barsF_cnt f (idxN_lt hv)]
def minF (f g : Nat → Nat) : Nat → Nat := fun i => min (f i + g i) topC
theorem minF_le (f g : Nat → Nat) : ∀ j, minF f g j ≤ topC := fun _ => Nat.min_le_right _ _
theorem merge_sk (ao bo : Option Addr) (L M ca cb : Nat) (f g : Nat → Nat) (w : World) (h : SkAt w ao L f) (k : SkAt w bo M g) :
    Calls Try.prog 20 #[.slice ao L ca, .slice bo M cb] w (SkP (minF f g) w) := by
  refine (merge_ok ao bo L M ca cb (barsF f) (barsF g) w h.at_ k.at_ (barsF_chk f) (barsF_chk g)).mono fun e w' hm => ?_
  refine hm.sk (fun j => Nat.min_le_right _ _) (minF_le f g) fun i hi => ?_
  unfold mergeF minF
  rw [barsF_cnt f hi, barsF_cnt g hi]
theorem barsF_out {f : Nat → Nat} {i : Nat} (h : 1920 ≤ i) : cntF (barsF f) i = 0 := by rw [barsF_eq, barsN_cnt, if_neg (by omega)]
theorem less_sk (ao bo : Option Addr) (L M ca cb : Nat) (f g : Nat → Nat) (w : World) (h : SkAt w ao L f) (k : SkAt w bo M g) (hle : ∀ i, i < 1920 → g i ≤ f i) :
    Calls Try.prog 23 #[.slice ao L ca, .slice bo M cb] w (SkP (fun i => f i - g i) w) := by
  refine (less_ok ao bo L M ca cb (barsF f) (barsF g) w h.at_ k.at_ (barsF_chk f) (barsF_chk g)).mono fun e w' hm => ?_
  obtain ⟨r, er, hr⟩ := takeL_some (f := cntF (barsF f)) (by omega) (barsF_chk g) (fun j => by
    rcases Nat.lt_or_ge j 1920 with hj | hj
    · rw [barsF_cnt f hj, barsF_cnt g hj]; exact hle j hj
    · rw [barsF_out hj]; exact Nat.zero_le _)
  unfold lessR at hm
  rw [er] at hm
  refine hm.sk (fun j => ?_) (fun j => Nat.le_trans (Nat.sub_le _ _) (h.le j)) fun i hi => ?_
  · rw [hr j]
    exact Nat.le_trans (Nat.sub_le _ _) (cntF_le h.at_.bin j)
  · rw [hr i, barsF_cnt f hi, barsF_cnt g hi]
theorem less_not (ao bo : Option Addr) (L M ca cb : Nat) (f g : Nat → Nat) (w : World) (h : SkAt w ao L f) (k : SkAt w bo M g) (hle : ∃ i, i < 1920 ∧ f i < g i) :
    Calls Try.prog 23 #[.slice ao L ca, .slice bo M cb] w fun e w' => e = .returned (.tuple #[.slice none 0 0, .int .i64 134]) ∧ Below w.heap.size w w' := by
  refine (less_ok ao bo L M ca cb (barsF f) (barsF g) w h.at_ k.at_ (barsF_chk f) (barsF_chk g)).mono fun e w' hm => ?_
  obtain ⟨i, hi, hl⟩ := hle
  have er := takeL_none (f := cntF (barsF f)) (by omega) (barsF_chk g) ⟨i, by rw [barsF_cnt f hi, barsF_cnt g hi]; exact hl⟩
  unfold lessR at hm
  rw [er] at hm
  exact ⟨hm.2, hm.1⟩
theorem check_sk (ao : Option Addr) (L c : Nat) (f : Nat → Nat) (w : World) (h : SkAt w ao L f) :
    Calls Try.prog 21 #[.slice ao L c] w fun e w' => e = .returned (.int .i64 0) ∧ Below w.heap.size w w' := by
  have := check_any ao L c (barsF f) w h.at_.at_ h.at_.len h.at_.bin
  rw [chkE_ok (barsF_chk f)] at this
  exact this
theorem same_sk (ao bo : Option Addr) (L M ca cb : Nat) (f g : Nat → Nat) (w : World) (h : SkAt w ao L f) (k : SkAt w bo M g) (he : ∀ i, i < 1920 → f i = g i) :
    Calls Try.prog 22 #[.slice ao L ca, .slice bo M cb] w fun e w' => e = .returned (.bool true) ∧ ∃ n, w' = w.drewN n := by
  refine (same_any ao bo L M ca cb (barsF f) (barsF g) w h.at_ k.at_).mono fun e w' hm => ?_
  obtain ⟨h1, h2⟩ := hm
  rw [sameB_eq (barsF_congr he)] at h1
  exact ⟨h1, h2⟩
/-- What putting values in one by one leaves. -/
def foldP (l : List (Nat × Nat)) : Nat → Nat := l.foldl (fun f p => putF f (idxN p.1) p.2) (fun _ => 0)
theorem foldP_take (l : List (Nat × Nat)) (k : Nat) (h : k < l.length) : foldP (l.take (k + 1)) = putF (foldP (l.take k)) (idxN l[k].1) l[k].2 := by
  unfold foldP
  rw [List.take_succ_eq_append_getElem h, List.foldl_append]
  rfl
def LawPutP (f : Nat → Nat) (w : World) (e : Ending) (w' : World) : Prop := ∃ ao L c, e = .returned (.tuple #[.slice ao L c, .bool true]) ∧ Hid (SkAt w' ao L f) ∧ Below w.heap.size w w'
set_option maxHeartbeats 2000000 in
theorem put_law (ad : Option Addr) (n c : Nat) (l : List (Nat × Nat)) (w : World) (hP : PutAt w ad n l) :
    Calls Try.prog 18 #[.slice ad n c] w (LawPutP (foldP l) w) := by
  have HL : Hid (l.length = n) := hP.len
  have hsize := hP.size
  have HP : Hid _ := hP
  clear hP
  go_enter Try.func18, Try.ntmps18
  go_wp2
  go_loopw [4, 5] (fun a t wr => ∃ (k : Nat) (ao : Option Addr) (L co : Nat), t = .int .i64 k ∧ k ≤ n ∧ a = .slice ao L co ∧ Hid (SkAt wr ao L (foldP (l.take k))) ∧ Hid (Below w.heap.size w wr)) (fun _ t _ => n - (intOf t).toNat)
  case atStart => exact ⟨0, none, 0, 0, rfl, by omega, rfl, SkAt.nil w, Below.refl _ _⟩
  case round =>
    obtain ⟨k, ao, L, co, rfl, hk, rfl, HS, HB⟩ := hrel
    have hsz := HB.out.size
    have hL := HS.out.few
    have hL' : (L : Int) ≤ 1920 := by omega
    by_cases hlt : k < n
    · have hPr := HP.out.below HB.out
      obtain ⟨b, off, rfl, hc⟩ := hPr.lies (by omega)
      have hkl : k < l.length := by rw [HL.out]; exact hlt
      obtain ⟨c0, c1⟩ := hc k hkl
      have hbin := hPr.bin l[k] (List.getElem_mem hkl)
      have HT : Hid _ := foldP_take l k hkl
      obtain ⟨x, hx⟩ : ∃ x, l[k] = x := ⟨_, rfl⟩
      rw [hx] at c0 c1 hbin HT
      obtain ⟨v, t⟩ := x
      simp only at c0 c1 hbin HT
      have AD : ∀ W, Below wr.heap.size wr W → Calls Try.prog 24 #[.slice ao L co, .int .u64 (v : Int), .int .u64 (t : Int)] W (SkP (putF (foldP (l.take k)) (idxN v) t) W) := fun W hW => add_sk ao L co _ v t hbin.1 hbin.2 W (HS.out.below hW)
      rw [← HT.out] at AD
      clear hPr hc hkl hbin hx HT hL
      generalize (v : Int) = V at *
      generalize (t : Int) = T at *
      go_wp2
      go_region_held3 (fun W => W.cell? ⟨b, off + k * 2, none⟩ = some (.int .u64 V) ∧ W.cell? ⟨b, off + k * 2 + 1, none⟩ = some (.int .u64 T)) (first | (simp [go_sem, *]; done) | exact S5) (first | (go_at_call 24; (with_reducible refine (AD _ ((Below.refl _ _).drew)).mono ?_); clear AD; rintro e w2 ⟨ao2, L2, co2, rfl, HS2, b2⟩; have S5 : w2.cell? ⟨b, off + k * 2, none⟩ = some (.int .u64 V) ∧ w2.cell? ⟨b, off + k * 2 + 1, none⟩ = some (.int .u64 T) := ⟨(b2.cell (p := ⟨b, off + k * 2, none⟩) (World.block_lt_of_cell? wr _ c0)).trans c0, (b2.cell (p := ⟨b, off + k * 2 + 1, none⟩) (World.block_lt_of_cell? wr _ c1)).trans c1⟩))
      have CK := check_sk ao2 L2 co2 _ w2 HS2.out
      have HB2 : Hid (Below w.heap.size w w2) := HB.out.trans ((((Below.refl wr.heap.size wr).drew).trans b2).mono hsz)
      clear S5 c0 c1 b2
      go_wp2_with (go_at_call 21; (with_reducible refine CK.mono ?_); clear CK; rintro e w3 ⟨rfl, b3⟩)
      go_roundw
      case rel => exact ⟨k + 1, ao2, L2, co2, by go_num, by omega, rfl, HS2.out.below b3, HB2.out.trans (b3.mono HB2.out.size)⟩
      case measure => simp [intOf]; omega
    · have HE : Hid (LawPutP (foldP l) w (.returned (.tuple #[.slice ao L co, .bool true])) wr) := by
        have hs := HS.out
        rw [List.take_of_length_le (by rw [HL.out]; omega)] at hs
        exact ⟨ao, L, co, rfl, hs, HB.out⟩
      clear hL
      go_wp2
      go_returns
      exact HE.out
end Go.Proofs.Ytefnbljgfealbaa.sk
