/-
  Merged: TsA, TsB, ToE.
-/
import Derived.Test.YtnffedmcblbkoaaGreatDoorToBq
import Derived.Test.YtnffedmcblbkoaaGreatDoorOVq
import Derived.Test.YtnffedmcblbkoaaGreatDoorQAq
import Derived.Test.YtnffedmcblbkoaaGreatDoorRAq
import Derived.BigQuiet
namespace Go.Proofs.YtnffedmcblbkoaaGreatDoor
open Go Go.RowKit
set_option maxRecDepth 100000
def bstF (fin : Nat → Nod) : Option Nat → Int
 | none => 0
 | some c => (fin c).fr
def BstR (fin : Nat → Nod) (t : Int) (kn : List Nat) (i : Nat) : Option Nat → Prop
 | none => ∀ c ∈ kn.take i, runB fin t c = false
 | some c => c ∈ kn.take i ∧ runB fin t c = true ∧ ∀ d ∈ kn.take i, runB fin t d = true → d = c ∨ ltG (fin d) (fin c)
theorem BstR.mem {fin : Nat → Nod} {t : Int} {kn : List Nat} {i c : Nat} (h : BstR fin t kn i (some c)) : c ∈ kn := List.mem_of_mem_take h.1
theorem take_one {kn : List Nat} {i : Nat} (hi : i < kn.length) : kn.take (i + 1) = kn.take i ++ [kn[i]] := by
 rw [List.take_add_one, List.getElem?_eq_getElem hi]; rfl
theorem BstR.skip {fin : Nat → Nod} {t : Int} {kn : List Nat} {i : Nat} {b : Option Nat} (h : BstR fin t kn i b) (hi : i < kn.length) (hr : runB fin t kn[i] = false) : BstR fin t kn (i + 1) b := by
 cases b with
 | none =>
  intro c hc
  rw [take_one hi, List.mem_append, List.mem_singleton] at hc
  rcases hc with hc | rfl
  ·exact h c hc
  ·exact hr
 | some c =>
  obtain ⟨h1, h2, h3⟩ := h
  refine ⟨by rw [take_one hi]; exact List.mem_append_left _ h1, h2, fun d hd hd2 => ?_⟩
  rw [take_one hi, List.mem_append, List.mem_singleton] at hd
  rcases hd with hd | rfl
  ·exact h3 d hd hd2
  ·rw [hr] at hd2; cases hd2
theorem ltG_trans {a b c : Nod} (h1 : ltG a b) (h2 : ltG b c) : ltG a c := by
 unfold ltG at *
 omega
theorem BstR.put {fin : Nat → Nod} {t : Int} {kn : List Nat} {i : Nat} {b : Option Nat} (h : BstR fin t kn i b) (hi : i < kn.length) (hr : runB fin t kn[i] = true) (hb : ∀ c, b = some c → ltG (fin c) (fin kn[i])) : BstR fin t kn (i + 1) (some kn[i]) := by
 refine ⟨by rw [take_one hi]; exact List.mem_append_right _ (List.mem_singleton.2 rfl), hr, fun d hd hd2 => ?_⟩
 rw [take_one hi, List.mem_append, List.mem_singleton] at hd
 rcases hd with hd | rfl
 ·cases b with
  | none => have := h d hd; rw [this] at hd2; cases hd2
  | some c =>
   have hc := hb c rfl
   rcases h.2.2 d hd hd2 with rfl | hl
   ·exact Or.inr hc
   ·exact Or.inr (ltG_trans hl hc)
 ·exact Or.inl rfl
theorem BstR.keep {fin : Nat → Nod} {t : Int} {kn : List Nat} {i c : Nat} (h : BstR fin t kn i (some c)) (hi : i < kn.length) (hinj : (fin kn[i]).id = (fin c).id → kn[i] = c) (h1 : ¬ (fin c).fr < (fin kn[i]).fr) (h2 : ¬ ((fin kn[i]).fr = (fin c).fr ∧ (fin kn[i]).id < (fin c).id)) : BstR fin t kn (i + 1) (some c) := by
 obtain ⟨a1, a2, a3⟩ := h
 refine ⟨by rw [take_one hi]; exact List.mem_append_left _ a1, a2, fun d hd hd2 => ?_⟩
 rw [take_one hi, List.mem_append, List.mem_singleton] at hd
 rcases hd with hd | rfl
 ·exact a3 d hd hd2
 ·by_cases e : (fin kn[i]).id = (fin c).id
  ·exact Or.inl (hinj e)
  ·refine Or.inr ?_
   unfold ltG
   omega
theorem BstR.step {fin : Nat → Nod} {t : Int} {kn : List Nat} {i : Nat} {b : Option Nat} (h : BstR fin t kn i b) (hi : i < kn.length) (hid : ∀ c ∈ kn, (fin c).id ≠ 0) (hinj : ∀ a ∈ kn, ∀ c ∈ kn, (fin a).id = (fin c).id → a = c) {d : Nod} (hd : fin kn[i] = d) :
  ((t < d.fr ∨ d.til ≤ t) → BstR fin t kn (i + 1) b) ∧
  (d.fr ≤ t → t < d.til → (bstI fin b = 0 ∨ bstF fin b < d.fr ∨ (d.fr = bstF fin b ∧ d.id < bstI fin b)) → BstR fin t kn (i + 1) (some kn[i])) ∧
  (bstI fin b ≠ 0 → ¬ bstF fin b < d.fr → ¬ (d.fr = bstF fin b ∧ d.id < bstI fin b) → BstR fin t kn (i + 1) b) := by
 refine ⟨fun hn => h.skip hi ?_, fun h1 h2 h3 => h.put hi ?_ (fun c hc => ?_), fun h1 h2 h3 => ?_⟩
 ·unfold runB
  rw [hd, Bool.and_eq_false_iff]
  rcases hn with hn | hn
  ·exact Or.inl (decide_eq_false (by omega))
  ·exact Or.inr (decide_eq_false (by omega))
 ·unfold runB
  rw [hd, Bool.and_eq_true]
  exact ⟨decide_eq_true h1, decide_eq_true h2⟩
 ·subst hc
  have h0 := hid c h.mem
  simp only [bstI, bstF] at h3
  rw [hd]
  unfold ltG
  rcases h3 with h3 | h3 | h3
  ·exact absurd h3 h0
  ·exact Or.inl h3
  ·exact Or.inr ⟨h3.1.symm, h3.2⟩
 ·cases b with
  | none => exact absurd rfl h1
  | some c =>
   simp only [bstI, bstF] at h2 h3
   exact h.keep hi (hinj _ (List.getElem_mem hi) _ h.mem) (by rw [hd]; exact h2) (by rw [hd]; exact h3)
theorem last_max {α : Type} {R : α → α → Prop} {L : List α} (h : L.Pairwise R) {z : α} (hz : L.getLast? = some z) : ∀ x ∈ L, x = z ∨ R x z := by
 obtain ⟨L', rfl⟩ := List.getLast?_eq_some_iff.1 hz
 intro x hx
 rw [List.mem_append, List.mem_singleton] at hx
 rcases hx with hx | rfl
 ·exact Or.inr ((List.pairwise_append.1 h).2.2 x hx z (by simp))
 ·exact Or.inl rfl
theorem BstR.last {fin : Nat → Nod} {t : Int} {kn S : List Nat} {n : Nat} {b : Option Nat} (h : BstR fin t kn n b) (hn : kn.length = n) (hm : ∀ c, c ∈ S ↔ c ∈ kn) (hs : S.Pairwise (fun a b => ltG (fin a) (fin b))) : lastR fin t S = b := by
 have ht : kn.take n = kn := List.take_of_length_le (by omega)
 cases b with
 | none =>
  unfold lastR
  have : S.filter (runB fin t) = [] := List.filter_eq_nil_iff.2 (fun c hc => by
   have := h c (by rw [ht]; exact (hm c).1 hc)
   simp [this])
  rw [this]; rfl
 | some c =>
  obtain ⟨h1, h2, h3⟩ := h
  rw [ht] at h1 h3
  cases e : lastR fin t S with
  | none =>
   have := lastR_none e c ((hm c).2 h1)
   rw [this] at h2; cases h2
  | some z =>
   obtain ⟨z1, z2⟩ := lastR_some e
   have hf : (S.filter (runB fin t)).Pairwise (fun a b => ltG (fin a) (fin b)) := hs.filter _
   have q := last_max hf e c (List.mem_filter.2 ⟨(hm c).2 h1, h2⟩)
   rcases h3 z ((hm z).1 z1) z2 with r | r
   ·rw [r]
   ·rcases q with q | q
    ·rw [q]
    ·unfold ltG at q r
     omega
section
variable {Y : List Sp} {C : List Int} {dp : Nat → Nat} {fin : Nat → Nod} {X : List Spot} {K : Nat → List Int} {R : List Int}
theorem FoB.dpLt (h : FoB Y C dp fin X K R) {i : Nat} (hi : i < Y.length) : dp i < 1000 := by
 have key : ∀ (d i : Nat), i < Y.length → dp i = d → ∃ L : List Nat, L.length = d + 1 ∧ L.Nodup ∧ ∀ c ∈ L, c < Y.length ∧ dp c ≤ d := by
  intro d
  induction d with
  | zero => exact fun i hi hd => ⟨[i], rfl, by simp, fun c hc => by rw [List.mem_singleton.1 hc]; exact ⟨hi, by omega⟩⟩
  | succ d ih =>
   intro i hi hd
   rcases h.two i hi with ⟨_, h0, _⟩ | ⟨j, hj, _, h1, _⟩
   ·omega
   ·obtain ⟨L, l1, l2, l3⟩ := ih j hj (by omega)
    refine ⟨i :: L, by rw [List.length_cons, l1], List.nodup_cons.2 ⟨fun hm => ?_, l2⟩, fun c hc => ?_⟩
    ·have := (l3 i hm).2
     omega
    ·rcases List.mem_cons.1 hc with rfl | hc
     ·exact ⟨hi, by omega⟩
     ·have := l3 c hc
      exact ⟨this.1, by omega⟩
 obtain ⟨L, l1, l2, l3⟩ := key (dp i) i hi rfl
 have := sub_len L (List.range Y.length) l2 (fun c hc => List.mem_range.2 (l3 c hc).1)
 rw [List.length_range] at this
 have := h.one.len
 omega
end
set_option maxHeartbeats 8000000 in
theorem inner_any (f sb : Nat) (X : List Spot) (K : Nat → List Int) (rv : Value) (R : List Int) (Y : List Sp) (C : List Int) (dp : Nat → Nat) (fin : Nat → Nod) (W : World) (hF : ForestAt W f sb X K rv R) (hB : FoB Y C dp fin X K R) (x : Nat) (hx : x < Y.length) (t : Int) :
  Calls Tryz.prog 24 #[.pointer (some ⟨f, 0, none⟩), .int .u64 (fin x).id, .int .i64 t] W fun e w' => e = .returned (.int .u64 (fin (ownX fin K dp x t)).id) ∧ Below W.heap.size W w' := by
 have hl := hB.fo.len
 have EA : ∀ y, y < Y.length → ∃ hy : y < X.length, X[y].nd = fin y := fun y hy => ⟨by omega, (hB.fo.each y hy (by omega)).2⟩
 have CL : Hid (∀ y, y < Y.length → ∀ W1, Below W.heap.size W W1 → Calls Tryz.prog 19 #[.pointer (some ⟨f, 0, none⟩), .int .u64 (fin y).id] W1 fun e w' => e = .returned (.agg #[.int .i64 (fin y).fr, .int .i64 (fin y).til]) ∧ Below W1.heap.size W1 w') := fun y hy W1 hb => by
  obtain ⟨h, e⟩ := EA y hy
  exact clipT_any f sb X K rv R W1 (hF.below hb) y h (fin y) e
 have KL : Hid (∀ y, y < Y.length → (∀ c ∈ knK K y, c < Y.length) ∧ (knK K y).length ≤ 1000) := fun y hy => by
  have T := hB.senv y hy
  exact ⟨fun c hc => by have := (T.kn y T.xX).2.1 c hc; omega, (T.kn y T.xX).2.2⟩
 have CH : Hid (∀ y, y < Y.length → ∀ W1, Below W.heap.size W W1 → Calls Tryz.prog 15 #[.pointer (some ⟨f, 0, none⟩), .int .u64 (fin y).id] W1 fun e w' => ∃ r n, e = .returned (.slice (some ⟨r, 0, none⟩) n n) ∧ Hid ((knK K y).length = n ∧ Blk w' r (fillC .u64 ((knK K y).map (fun c => (fin c).id)) 0) 33) ∧ Below W1.heap.size W1 w') := fun y hy W1 hb => by
  have T := hB.senv y hy
  refine (children_at f sb X K rv R fin (knK K) W1 (hF.below hb) T.nd y T.xX (T.kn y T.xX).1 (T.kn y T.xX).2.1).mono ?_
  rintro e w' ⟨r, rfl, h1, _, h2⟩
  exact ⟨r, _, rfl, ⟨rfl, h1⟩, h2⟩
 have IDP : Hid (∀ c, c < Y.length → (fin c).id ≠ 0) := fun c hc => hB.idPos hc
 have HINJ : Hid (∀ a b, a < Y.length → b < Y.length → (fin a).id = (fin b).id → a = b) := fun a b ha hb e => hB.inj ha hb e
 have HST : Hid (∀ s fu n b, inT K x s → s < Y.length → (knK K s).length = n → BstR fin t (knK K s) n b → (b = none → ownF fin (swF fin K) t (fu + 1) s = s) ∧ ∀ c, b = some c → ownF fin (swF fin K) t (fu + 1) s = ownF fin (swF fin K) t fu c ∧ inT K x c ∧ c < Y.length ∧ 1000 - dp c < 1000 - dp s) := fun s fu n b hs hsl hn hb => by
  have ks := hB.kidS hx
  have e := hb.last (S := swF fin K s) hn (fun c => hB.swMem hsl c) (ks.sort s hs)
  constructor
  ·intro h0
   subst h0
   simp only [ownF, e]
  ·intro c h0
   subst h0
   have hcm : c ∈ swF fin K s := (hB.swMem hsl c).2 hb.mem
   obtain ⟨k1, k2⟩ := ks.kid s hs c hcm
   exact ⟨by simp only [ownF, e], k1, (hB.inTlt hx c k1).1, k2⟩
 obtain ⟨o, ho⟩ : ∃ o, ownX fin K dp x t = o := ⟨_, rfl⟩
 have HD : Hid (∀ s, s < Y.length → dp s < 1000) := fun s hs => hB.dpLt hs
 obtain ⟨mx, hmx⟩ : ∃ m, 1000 - dp x = m := ⟨_, rfl⟩
 have HG0 : Hid (inT K x x ∧ x < Y.length ∧ 0 + (1000 - dp x) ≤ mx ∧ ownF fin (swF fin K) t (mx - 0 + 1) x = o) := ⟨hB.inTx hx, hx, by omega, by rw [← hmx]; exact ho⟩
 rw [ho]
 clear hF hB hl EA ho
 have hmx1 : mx ≤ 1000 := by omega
 clear hmx hx
 go_enter Tryz.func24, Tryz.ntmps24
 go_wp2
 go_loopw [7, 8] (fun z7 z8 wr => ∃ (s : Nat) (k : Nat), z7 = .int .u64 (fin s).id ∧ z8 = .int .i64 k ∧ k ≤ 1000 ∧ Hid (inT K x s ∧ s < Y.length ∧ k + (1000 - dp s) ≤ mx ∧ ownF fin (swF fin K) t (mx - k + 1) s = o) ∧ Hid (Below W.heap.size W wr)) (fun _ z8 _ => 1000 - (intOf z8).toNat)
 case atStart => exact ⟨x, 0, rfl, rfl, by omega, HG0, Below.refl _ _⟩
 case round =>
  clear HG0
  obtain ⟨s, k, rfl, rfl, hk, HG, HB⟩ := hrel
  have hds := HD.out s HG.out.2.1
  have hkm := HG.out.2.2.1
  have hkn : (k : Int) < 1000 := by omega
  obtain ⟨fu, hfu⟩ : ∃ fu, mx - k = fu + 1 := ⟨mx - k - 1, by omega⟩
  have HFU : Hid (mx - k = fu + 1 ∧ mx - (k + 1) = fu ∧ k + 1 ≤ 1000) := ⟨hfu, by omega, by omega⟩
  have C1 := CH.out s HG.out.2.1 wr HB.out
  have hkl := (KL.out s HG.out.2.1).2
  clear hds hkm hfu
  go_upto_region 8 with (go_at_call 15; (with_reducible refine C1.mono ?_); clear C1; rintro e w4 ⟨r, n, rfl, HR, hb4⟩; have HB4 : Hid (Below W.heap.size W w4) := HB.out.trans (hb4.mono HB.out.size); clear hb4)
  have HKN : Hid ((knK K s).length = n ∧ ∀ c ∈ knK K s, c < Y.length) := ⟨HR.out.1, (KL.out s HG.out.2.1).1⟩
  have hn1 : n ≤ 1000 := by rw [← HR.out.1]; exact hkl
  have HRB : Hid (∀ i (hi : i < (knK K s).length) V, Below w4.heap.size w4 V → V.cell? ⟨r, i, none⟩ = some (.int .u64 (fin (knK K s)[i]).id)) := fun i hi V hV => (HR.out.2.below hV HR.out.2.lt).cell i (by simp [fillC]; exact ⟨_, List.getElem?_eq_getElem (by simpa [knK] using hi), rfl⟩)
  have HEX : Hid (∀ b, BstR fin t (knK K s) n b → (b = none → s = o) ∧ ∀ c, b = some c → inT K x c ∧ c < Y.length ∧ (k + 1) + (1000 - dp c) ≤ mx ∧ ownF fin (swF fin K) t (mx - (k + 1) + 1) c = o) := fun b hb => by
   obtain ⟨g1, g2, g3, g4⟩ := HG.out
   obtain ⟨q1, q2⟩ := HST.out s (mx - k) n b g1 g2 HR.out.1 hb
   refine ⟨fun h0 => ?_, fun c hc => ?_⟩
   ·rw [← q1 h0]; exact g4
   ·obtain ⟨r1, r2, r3, r4⟩ := q2 c hc
    refine ⟨r2, r3, by omega, ?_⟩
    rw [HFU.out.2.1, ← HFU.out.1, ← r1]
    exact g4
  clear HR HB hkl HG
  generalize hkn' : knK K s = kn at *
  clear hkn'
  have e0 : BstR fin t kn 0 none := fun c hc => by simp at hc
  have HE0 : Hid (BstR fin t kn 0 none) := e0
  clear e0
  go_wp2
  go_loopw [9, 10, 12] (fun z9 z10 z12 wq => ∃ (i : Nat) (b : Option Nat), z9 = .int .u64 (bstI fin b) ∧ z10 = .int .i64 (bstF fin b) ∧ z12 = .int .i64 i ∧ i ≤ n ∧ Hid (BstR fin t kn i b) ∧ Hid (Below w4.heap.size w4 wq)) (fun _ _ z12 _ => n - (intOf z12).toNat)
  case atStart => exact ⟨0, none, rfl, rfl, rfl, by omega, HE0, Below.refl _ _⟩
  case round =>
   clear HE0
   obtain ⟨i, b, rfl, rfl, rfl, hi, HBT, HBQ⟩ := hrel
   by_cases hin : i < n
   ·have hinn : (i : Int) < (n : Int) := by omega
    have hik : i < kn.length := by rw [HKN.out.1]; exact hin
    have hcY := HKN.out.2 _ (List.getElem_mem hik)
    have c0 := HRB.out i hik wr HBQ.out
    have CC := CL.out kn[i] hcY wr (HB4.out.trans (HBQ.out.mono HB4.out.size))
    have ST := HBT.out.step hik (fun c hc => IDP.out c (HKN.out.2 c hc)) (fun a ha c hc e => HINJ.out a c (HKN.out.2 a ha) (HKN.out.2 c hc) e) (d := fin kn[i]) rfl
    have HSC : Hid (bstI fin (some kn[i]) = (fin kn[i]).id ∧ bstF fin (some kn[i]) = (fin kn[i]).fr) := ⟨rfl, rfl⟩
    have HCR : Hid (∀ V, Below w4.heap.size w4 V → V.cell? ⟨r, i, none⟩ = some (.int .u64 (fin kn[i]).id)) := fun V hV => HRB.out i hik V hV
    have HS1 : Hid _ := ST
    clear ST HBT
    obtain ⟨cn, hcn⟩ : ∃ cn, kn[i] = cn := ⟨_, rfl⟩
    rw [hcn] at c0 CC HSC HCR HS1
    generalize fin cn = d at *
    obtain ⟨did, dpar, dorg, dtree, ddep, dfr, dtil⟩ := d
    simp only at c0 CC HSC HCR HS1
    go_upto_region 12 with (go_at_call 19; (with_reducible refine CC.mono ?_); clear CC; rintro e w5 ⟨rfl, hb5⟩; have HB5 : Hid (Below wr.heap.size wr w5) := hb5; clear hb5 c0)
    obtain ⟨V5, hV5⟩ : ∃ V, w5.alloc (.cells #[.int .i64 dfr, .int .i64 dtil] 36) = V := ⟨_, rfl⟩
    have bk : Blk V5 w5.heap.size #[.int .i64 dfr, .int .i64 dtil] 36 := by rw [← hV5]; exact Blk.new _ _ _
    have BV : Below w4.heap.size w4 V5 := by rw [← hV5]; exact (HBQ.out.trans (HB5.out.mono HBQ.out.size)).alloc (Nat.le_trans HBQ.out.size HB5.out.size) _
    have k0 : V5.cell? ⟨w5.heap.size, 0, none⟩ = some (.int .i64 dfr) := bk.cell 0 rfl
    have k1 : V5.cell? ⟨w5.heap.size, 1, none⟩ = some (.int .i64 dtil) := bk.cell 1 rfl
    have kr := HCR.out V5 BV
    have HBV : Hid (Below w4.heap.size w4 V5) := BV
    rw [hV5]
    obtain ⟨ib, hib⟩ : ∃ b, w5.heap.size = b := ⟨_, rfl⟩
    rw [hib] at k0 k1 ⊢
    clear hV5 HB5 HBQ bk BV HCR hib
    by_cases hr1 : t < dfr
    ·have HX : Hid (BstR fin t kn (i + 1) b) := HS1.out.1 (Or.inl hr1)
     clear HS1
     go_wp2
     go_roundw
     case rel => exact ⟨i + 1, b, rfl, rfl, by go_num, by omega, HX, HBV⟩
     case measure => (simp [intOf]; omega)
    ·by_cases hr2 : dtil ≤ t
     ·have HX : Hid (BstR fin t kn (i + 1) b) := HS1.out.1 (Or.inr hr2)
      clear HS1
      go_wp2
      go_roundw
      case rel => exact ⟨i + 1, b, rfl, rfl, by go_num, by omega, HX, HBV⟩
      case measure => (simp [intOf]; omega)
     ·have HTK : Hid ((bstI fin b = 0 ∨ bstF fin b < dfr ∨ (dfr = bstF fin b ∧ did < bstI fin b)) → BstR fin t kn (i + 1) (some cn)) := HS1.out.2.1 (by omega) (by omega)
      have HKE : Hid (bstI fin b ≠ 0 → ¬ bstF fin b < dfr → ¬ (dfr = bstF fin b ∧ did < bstI fin b) → BstR fin t kn (i + 1) b) := fun q1 q2 q3 => HS1.out.2.2 q1 (by omega) q3
      clear HS1
      generalize hbi : bstI fin b = bi at *
      generalize hbe : bstF fin b = be at *
      have HBI : Hid (bstI fin b = bi ∧ bstF fin b = be) := ⟨hbi, hbe⟩
      clear hbi hbe
      go_upto_region 13 with fail
      by_cases hb0 : bi = 0
      ·have z0 : (bi == 0) = true := by simp [hb0]
       have HX : Hid (BstR fin t kn (i + 1) (some cn)) := HTK.out (Or.inl hb0)
       clear HTK HKE hb0
       go_wp2
       go_roundw
       case rel => exact ⟨i + 1, some cn, by rw [HSC.out.1], by rw [HSC.out.2], by go_num, by omega, HX, HBV⟩
       case measure => (simp [intOf]; omega)
      ·have z0 : (bi == 0) = false := by simp [hb0]
       by_cases hb1 : be < dfr
       ·have z1 : decide (be < dfr) = true := decide_eq_true hb1
        have HX : Hid (BstR fin t kn (i + 1) (some cn)) := HTK.out (Or.inr (Or.inl hb1))
        clear HTK HKE hb0 hb1
        go_wp2
        go_roundw
        case rel => exact ⟨i + 1, some cn, by rw [HSC.out.1], by rw [HSC.out.2], by go_num, by omega, HX, HBV⟩
        case measure => (simp [intOf]; omega)
       ·have z1 : decide (be < dfr) = false := decide_eq_false hb1
        by_cases hb2 : dfr = be
        ·have z2 : (dfr == be) = true := by simp [hb2]
         by_cases hb3 : did < bi
         ·have z3 : decide (did < bi) = true := decide_eq_true hb3
          have HX : Hid (BstR fin t kn (i + 1) (some cn)) := HTK.out (Or.inr (Or.inr ⟨hb2, hb3⟩))
          clear HTK HKE hb0 hb1 hb2 hb3
          go_wp2
          go_roundw
          case rel => exact ⟨i + 1, some cn, by rw [HSC.out.1], by rw [HSC.out.2], by go_num, by omega, HX, HBV⟩
          case measure => (simp [intOf]; omega)
         ·have z3 : decide (did < bi) = false := decide_eq_false hb3
          have HX : Hid (BstR fin t kn (i + 1) b) := HKE.out hb0 hb1 (fun h => hb3 h.2)
          clear HTK HKE hb0 hb1 hb2 hb3
          go_wp2
          go_roundw
          case rel => exact ⟨i + 1, b, by rw [HBI.out.1], by rw [HBI.out.2], by go_num, by omega, HX, HBV⟩
          case measure => (simp [intOf]; omega)
        ·have z2 : (dfr == be) = false := by simp [hb2]
         have HX : Hid (BstR fin t kn (i + 1) b) := HKE.out hb0 hb1 (fun h => hb2 h.1)
         clear HTK HKE hb0 hb1 hb2
         go_wp2
         go_roundw
         case rel => exact ⟨i + 1, b, by rw [HBI.out.1], by rw [HBI.out.2], by go_num, by omega, HX, HBV⟩
         case measure => (simp [intOf]; omega)
   ·obtain rfl : n = i := by omega
    have hinn : ¬ (n : Int) < (n : Int) := by omega
    have HBW : Hid (Below W.heap.size W wr) := HB4.out.trans (HBQ.out.mono HB4.out.size)
    obtain ⟨hx1, hx2⟩ := HEX.out b HBT.out
    cases b with
    | none =>
     have HSO : Hid (s = o) := hx1 rfl
     clear hx1 hx2 HEX HBT
     simp only [bstI, bstF]
     go_wp2
     go_ret
     exact ⟨by rw [HSO.out]; rfl, HBW.out⟩
    | some c =>
     have HX : Hid (inT K x c ∧ c < Y.length ∧ (k + 1) + (1000 - dp c) ≤ mx ∧ ownF fin (swF fin K) t (mx - (k + 1) + 1) c = o) := hx2 c rfl
     have hne := IDP.out c HX.out.2.1
     have z0 : ((fin c).id == 0) = false := by simp [hne]
     simp only [bstI, bstF]
     have hk1 := HFU.out.2.2
     clear hx1 hx2 HEX HBT hne
     go_wp2
     go_roundw
     case rel => exact ⟨c, k + 1, rfl, by go_num, hk1, HX, HBW⟩
     case measure => (simp [intOf]; omega)
theorem below_drS {B : Nat} {a w : World} (h : Below B a w) (q : Nat) : Below B a (w.drewN q) := ⟨h.os, h.tape, h.output, h.size, h.block⟩
def ivT9 (i : Int × Int) : List Value := [.int .i64 i.1, .int .i64 i.2]
def covP (N : Nat) (l : List (Int × Int)) (a : Int) : Int := cntM (fun x => memI l x && decide (x < a)) (-9223372036854775808) N
theorem cntM_no {p : Int → Bool} (h : ∀ x, p x = false) (lo : Int) : ∀ n, cntM p lo n = 0
 | 0 => rfl
 | n + 1 => by unfold cntM; rw [cntM_no h lo n, h]; rfl
structure RnI (l : List (Int × Int)) (t B : Int) (k : Nat) (re ne : Int) : Prop where
 r1 : t ≤ re ∧ re ≤ B
 r2 : re = t ∨ ∃ i ∈ l, i.1 ≤ t ∧ t < i.2 ∧ re = i.2
 r3 : ∀ i ∈ l.take k, i.1 < i.2 → i.1 ≤ t → i.2 ≤ re
 n1 : t < ne ∧ ne ≤ B
 n2 : ne = B ∨ ∃ i ∈ l, t < i.1 ∧ ne = i.1
 n3 : ∀ i ∈ l.take k, i.1 < i.2 → t < i.1 → ne ≤ i.1
theorem RnI.start {l : List (Int × Int)} {t B : Int} (h : t < B) : RnI l t B 0 t B :=
 ⟨⟨Int.le_refl _, by omega⟩, Or.inl rfl, fun i hi => by simp at hi, ⟨h, Int.le_refl _⟩, Or.inl rfl, fun i hi => by simp at hi⟩
theorem take_oneI {l : List (Int × Int)} {k : Nat} (hk : k < l.length) (i : Int × Int) : i ∈ l.take (k + 1) ↔ i ∈ l.take k ∨ i = l[k] := by
 have : l.take (k + 1) = l.take k ++ [l[k]] := by rw [List.take_add_one, List.getElem?_eq_getElem hk]; rfl
 rw [this, List.mem_append, List.mem_singleton]
theorem RnI.step {l : List (Int × Int)} {t B : Int} {k : Nat} {re ne : Int} (h : RnI l t B k re ne) (hk : k < l.length) {a b : Int} (hi : l[k] = (a, b)) (hB : b ≤ B) :
  (b ≤ a → RnI l t B (k + 1) re ne) ∧ (a ≤ t → re < b → RnI l t B (k + 1) b ne) ∧ (a ≤ t → ¬ re < b → RnI l t B (k + 1) re ne) ∧ (a < b → t < a → a < ne → RnI l t B (k + 1) re a) ∧ (t < a → ¬ a < ne → RnI l t B (k + 1) re ne) := by
 have hm := List.getElem_mem hk
 rw [hi] at hm
 refine ⟨fun h1 => ?_, fun h1 h2 => ?_, fun h1 h2 => ?_, fun h0 h1 h2 => ?_, fun h1 h2 => ?_⟩
 ·refine ⟨h.r1, h.r2, fun i hx h3 h4 => ?_, h.n1, h.n2, fun i hx h3 h4 => ?_⟩
  ·rcases (take_oneI hk i).1 hx with hx | rfl
   ·exact h.r3 i hx h3 h4
   ·rw [hi] at h3; simp only at h3; omega
  ·rcases (take_oneI hk i).1 hx with hx | rfl
   ·exact h.n3 i hx h3 h4
   ·rw [hi] at h3; simp only at h3; omega
 ·have := h.r1
  refine ⟨by omega, Or.inr ⟨_, hm, h1, by show t < b; omega, rfl⟩, fun i hx h3 h4 => ?_, h.n1, h.n2, fun i hx h3 h4 => ?_⟩
  ·rcases (take_oneI hk i).1 hx with hx | rfl
   ·have := h.r3 i hx h3 h4; omega
   ·rw [hi]; exact Int.le_refl _
  ·rcases (take_oneI hk i).1 hx with hx | rfl
   ·exact h.n3 i hx h3 h4
   ·rw [hi] at h4; simp only at h4; omega
 ·refine ⟨h.r1, h.r2, fun i hx h3 h4 => ?_, h.n1, h.n2, fun i hx h3 h4 => ?_⟩
  ·rcases (take_oneI hk i).1 hx with hx | rfl
   ·exact h.r3 i hx h3 h4
   ·rw [hi]; simp only; omega
  ·rcases (take_oneI hk i).1 hx with hx | rfl
   ·exact h.n3 i hx h3 h4
   ·rw [hi] at h4; simp only at h4; omega
 ·have := h.n1
  refine ⟨h.r1, h.r2, fun i hx h3 h4 => ?_, by omega, Or.inr ⟨_, hm, h1, rfl⟩, fun i hx h3 h4 => ?_⟩
  ·rcases (take_oneI hk i).1 hx with hx | rfl
   ·exact h.r3 i hx h3 h4
   ·rw [hi] at h4; simp only at h4; omega
  ·rcases (take_oneI hk i).1 hx with hx | rfl
   ·have := h.n3 i hx h3 h4; omega
   ·rw [hi]; exact Int.le_refl _
 ·refine ⟨h.r1, h.r2, fun i hx h3 h4 => ?_, h.n1, h.n2, fun i hx h3 h4 => ?_⟩
  ·rcases (take_oneI hk i).1 hx with hx | rfl
   ·exact h.r3 i hx h3 h4
   ·rw [hi] at h4; simp only at h4; omega
  ·rcases (take_oneI hk i).1 hx with hx | rfl
   ·exact h.n3 i hx h3 h4
   ·rw [hi]; simp only; omega
def endsE (l : List (Int × Int)) (B : Int) : List Int := B :: (l.map (fun i => i.1) ++ l.map (fun i => i.2))
def remE (l : List (Int × Int)) (B t : Int) : Nat := ((endsE l B).filter (fun e => decide (t < e))).length
theorem rem_next : ∀ (L : List Int) (t u : Int), u ∈ L → t < u → (L.filter (fun e => decide (u < e))).length + 1 ≤ (L.filter (fun e => decide (t < e))).length
 | [], _, _, h, _ => by cases h
 | e :: L, t, u, h, htu => by
  have mono : (L.filter (fun e => decide (u < e))).length ≤ (L.filter (fun e => decide (t < e))).length := by
   rw [← List.countP_eq_length_filter, ← List.countP_eq_length_filter]
   exact List.countP_mono_left (fun x _ hx => by simp only [decide_eq_true_eq] at hx ⊢; omega)
  rw [List.filter_cons, List.filter_cons]
  by_cases q : e = u
  ·subst q
   rw [if_neg (by simp), if_pos (by simpa using htu), List.length_cons]
   omega
  ·have hL : u ∈ L := by
    rcases List.mem_cons.1 h with h | h
    ·exact absurd h.symm q
    ·exact h
   have ih := rem_next L t u hL htu
   by_cases c1 : u < e
   ·rw [if_pos (by simpa using c1), if_pos (by simp; omega), List.length_cons, List.length_cons]
    omega
   ·rw [if_neg (by simpa using c1)]
    split
    ·rw [List.length_cons]; omega
    ·exact ih
theorem rem_le (l : List (Int × Int)) (B t : Int) : remE l B t ≤ 2 * l.length + 1 := by
 unfold remE
 have := List.length_filter_le (fun e => decide (t < e)) (endsE l B)
 unfold endsE at *
 simp only [List.length_cons, List.length_append, List.length_map] at this
 omega
theorem rem_pos (l : List (Int × Int)) {B t : Int} (h : t < B) : 1 ≤ remE l B t := by
 unfold remE endsE
 rw [List.filter_cons, if_pos (by simpa using h), List.length_cons]
 omega
section
variable {l : List (Int × Int)} {A B : Int} {N : Nat}
theorem covP_start (hin : ∀ i ∈ l, A ≤ i.1 ∧ i.1 ≤ i.2 ∧ i.2 ≤ B) : covP N l A = 0 := by
 refine cntM_no (fun x => ?_) _ N
 cases h : memI l x with
 | false => rfl
 | true =>
  obtain ⟨i, hi, h1, h2⟩ := memI_iff.1 h
  have := hin i hi
  simp
  omega
theorem covP_end (hin : ∀ i ∈ l, A ≤ i.1 ∧ i.1 ≤ i.2 ∧ i.2 ≤ B) : covP N l B = cntM (memI l) (-9223372036854775808) N := by
 refine cntM_congr (fun x => ?_) _ _
 cases h : memI l x with
 | false => rfl
 | true =>
  obtain ⟨i, hi, h1, h2⟩ := memI_iff.1 h
  have := hin i hi
  simp
  omega
theorem covP_bd (hA : 0 ≤ A ∧ A ≤ B ∧ B ≤ 4611686018427387904) (hin : ∀ i ∈ l, A ≤ i.1 ∧ i.1 ≤ i.2 ∧ i.2 ≤ B) (hN : (N : Int) = 18446744073709551615) (t : Int) : 0 ≤ covP N l t ∧ covP N l t ≤ 4611686018427387904 := by
 refine ⟨(cntM_nonneg _ _ _).1, ?_⟩
 have h1 : covP N l t ≤ cntM (fun x => decide (A ≤ x) && decide (x < B)) (-9223372036854775808) N := cntM_le (fun x hx => by
  rw [Bool.and_eq_true] at hx
  obtain ⟨i, hi, h1, h2⟩ := memI_iff.1 hx.1
  have := hin i hi
  simp
  omega) _ _
 rw [cnt_clip hA.1 hA.2.1 hA.2.2 hN] at h1
 unfold lenI at h1
 simp only at h1
 split at h1 <;> omega
theorem RnI.go {t re ne : Int} (h : RnI l t B l.length re ne) (hA : 0 ≤ A ∧ A ≤ B ∧ B ≤ 4611686018427387904) (hN : (N : Int) = 18446744073709551615) (ht : A ≤ t) :
  (t < re → covP N l re = covP N l t + (re - t) ∧ remE l B re + 1 ≤ remE l B t) ∧ (¬ t < re → covP N l ne = covP N l t ∧ remE l B ne + 1 ≤ remE l B t) := by
 have htk : l.take l.length = l := List.take_length
 have r3 := h.r3
 have n3 := h.n3
 rw [htk] at r3 n3
 refine ⟨fun hlt => ⟨?_, ?_⟩, fun hlt => ⟨?_, ?_⟩⟩
 ·have e : cntM (fun x => memI l x && decide (x < re)) (-9223372036854775808) N = cntM (fun x => (memI l x && decide (x < t)) || (decide (t ≤ x) && decide (x < re))) (-9223372036854775808) N := by
   refine cntM_congr (fun x => ?_) _ _
   rcases h.r2 with q | ⟨i, hi, h1, h2, h3⟩
   ·omega
   ·by_cases c1 : t ≤ x ∧ x < re
    ·have : memI l x = true := memI_iff.2 ⟨i, hi, by omega, by omega⟩
     simp [this, c1.1, c1.2]
    ·by_cases c2 : x < t
     ·have : x < re := by omega
      simp [c2, this]
      intro; omega
     ·have c3 : ¬ x < re := by omega
      simp [c2, c3]
  show cntM _ _ _ = _
  rw [e, cntM_or _ _ _ (fun x hx => by
   simp only [Bool.and_eq_true, decide_eq_true_eq] at hx
   simp
   intro; omega), cnt_clip (a := t) (b := re) (by omega) (by omega) (by have := h.r1; omega) hN]
  unfold lenI covP
  simp only
  split <;> omega
 ·rcases h.r2 with q | ⟨i, hi, h1, h2, h3⟩
  ·omega
  ·exact rem_next _ t re (by unfold endsE; rw [h3]; exact List.mem_cons_of_mem _ (List.mem_append_right _ (List.mem_map.2 ⟨i, hi, rfl⟩))) hlt
 ·refine cntM_congr (fun x => ?_) _ _
  cases hm : memI l x with
  | false => rfl
  | true =>
   obtain ⟨i, hi, h1, h2⟩ := memI_iff.1 hm
   have hne := h.n1.1
   have hr1 := h.r1.1
   by_cases c1 : x < t
   ·have : x < ne := by omega
    simp [c1, this]
   ·have : ¬ x < ne := by
     intro c2
     by_cases c3 : i.1 ≤ t
     ·have := r3 i hi (by omega) c3
      omega
     ·have := n3 i hi (by omega) (by omega)
      omega
    simp [c1, this]
 ·refine rem_next _ t ne ?_ h.n1.1
  unfold endsE
  rcases h.n2 with q | ⟨i, hi, h1, h2⟩
  ·rw [q]; exact List.mem_cons_self
  ·rw [h2]; exact List.mem_cons_of_mem _ (List.mem_append_left _ (List.mem_map.2 ⟨i, hi, rfl⟩))
end
set_option maxHeartbeats 8000000 in
theorem covered_any (A B : Int) (l : List (Int × Int)) (ad : Option Addr) (m cap : Nat) (W : World) (HL : LieIn ivT9 2 W ad l) (hm : l.length = m) (hm1 : m ≤ 1000) (hA : 0 ≤ A ∧ A ≤ B ∧ B ≤ 4611686018427387904) (hin : ∀ i ∈ l, A ≤ i.1 ∧ i.1 ≤ i.2 ∧ i.2 ≤ B) {N : Nat} (hN : (N : Int) = 18446744073709551615) :
  Calls Tryz.prog 21 #[.agg #[.int .i64 A, .int .i64 B], .slice ad m cap] W fun e W' => e = .returned (.int .u64 (cntM (memI l) (-9223372036854775808) N)) ∧ Below W.heap.size W W' := by
 have HGO : Hid (∀ t re ne, RnI l t B m re ne → A ≤ t → (t < re → covP N l re = covP N l t + (re - t) ∧ remE l B re + 1 ≤ remE l B t) ∧ (¬ t < re → covP N l ne = covP N l t ∧ remE l B ne + 1 ≤ remE l B t)) := fun t re ne h ht => by
  rw [← hm] at h
  exact h.go hA hN ht
 have HBD : Hid (∀ t, 0 ≤ covP N l t ∧ covP N l t ≤ 4611686018427387904) := fun t => covP_bd hA hin hN t
 have HST : Hid (∀ t k re ne, RnI l t B k re ne → ∀ (hk : k < l.length) a b, l[k] = (a, b) → (b ≤ a → RnI l t B (k + 1) re ne) ∧ (a ≤ t → re < b → RnI l t B (k + 1) b ne) ∧ (a ≤ t → ¬ re < b → RnI l t B (k + 1) re ne) ∧ (a < b → t < a → a < ne → RnI l t B (k + 1) re a) ∧ (t < a → ¬ a < ne → RnI l t B (k + 1) re ne)) := fun t k re ne h hk a b e => h.step hk e (by have := hin l[k] (List.getElem_mem hk); rw [e] at this; exact this.2.2)
 have HIN : Hid (∀ k (hk : k < l.length), A ≤ l[k].1 ∧ l[k].1 ≤ l[k].2 ∧ l[k].2 ≤ B) := fun k hk => hin _ (List.getElem_mem hk)
 have HRE : Hid (remE l B A ≤ 2 * m + 1) := by rw [← hm]; exact rem_le l B A
 have HRP : Hid (∀ t, t < B → 1 ≤ remE l B t) := fun t ht => rem_pos l ht
 have e0 := covP_start (N := N) hin
 rw [← covP_end (N := N) hin]
 have HML : Hid (l.length = m) := hm
 obtain ⟨hA1, hA2, hA3⟩ := hA
 have HB0 : Hid (Below W.heap.size W (W.alloc (.cells #[.int .i64 A, .int .i64 B] 36))) := (Below.refl _ _).alloc (Nat.le_refl _) _
 have HK0 : Hid (Blk (W.alloc (.cells #[.int .i64 A, .int .i64 B] 36)) W.heap.size #[.int .i64 A, .int .i64 B] 36) := Blk.new _ _ _
 have g0 : (W.alloc (.cells #[.int .i64 A, .int .i64 B] 36)).cell? ⟨W.heap.size, 0, none⟩ = some (.int .i64 A) := HK0.out.cell 0 rfl
 have HLL : Hid (LieIn ivT9 2 (W.alloc (.cells #[.int .i64 A, .int .i64 B] 36)) ad l) := HL.below HB0.out
 have HE0 : Hid (covP N l A = 0) := e0
 clear hin hN HL hm e0
 go_enter Tryz.func21, Tryz.ntmps21
 go_upto_region 4 with fail
 obtain ⟨V0, hV0⟩ : ∃ V, W.alloc (.cells #[.int .i64 A, .int .i64 B] 36) = V := ⟨_, rfl⟩
 obtain ⟨ib, hib⟩ : ∃ b, W.heap.size = b := ⟨_, rfl⟩
 have HBW : Hid (∀ U, Below V0.heap.size V0 U → Below W.heap.size W U) := fun U hU => by
  rw [← hV0] at hU
  exact HB0.out.trans (hU.mono HB0.out.size)
 rw [hV0] at HK0 HLL ⊢
 rw [hib] at HK0 ⊢
 clear hV0 g0 HB0
 have HKU : Hid (∀ U, Below V0.heap.size V0 U → U.cell? ⟨ib, 1, none⟩ = some (.int .i64 B)) := fun U hU => (HK0.out.below hU HK0.out.lt).cell 1 rfl
 clear HK0 hib
 go_loopw [5, 6, 7] (fun z5 z6 z7 wr => ∃ (t : Int) (s : Nat), z5 = .int .u64 (covP N l t) ∧ z6 = .int .i64 t ∧ z7 = .int .i64 s ∧ A ≤ t ∧ t ≤ B ∧ s + remE l B t ≤ 2 * m + 1 ∧ Hid (Below V0.heap.size V0 wr)) (fun _ _ z7 _ => 3000 - (intOf z7).toNat)
 case atStart => exact ⟨A, 0, by rw [HE0.out], rfl, rfl, by omega, by omega, by have := HRE.out; omega, Below.refl _ _⟩
 case round =>
  clear HE0 HRE
  obtain ⟨t, s, rfl, rfl, rfl, ht1, ht2, hsr, HB⟩ := hrel
  have c1 := HKU.out wr HB.out
  have hs1 : (s : Int) < 2 * (m : Int) + 2 := by omega
  have w2 : IntKind.i64.wrap (2 * (m : Int)) = 2 * (m : Int) := by simp [IntKind.wrap, IntKind.bits, IntKind.signed]; omega
  have w3 : IntKind.i64.wrap (2 * (m : Int) + 2) = 2 * (m : Int) + 2 := by simp [IntKind.wrap, IntKind.bits, IntKind.signed]; omega
  have HSR : Hid (s + remE l B t ≤ 2 * m + 1 ∧ s ≤ 2001) := ⟨hsr, by omega⟩
  have hs2 : (s : Int) ≤ 2001 := by omega
  clear hsr
  by_cases hab : t < B
  ·have HX0 : Hid (RnI l t B 0 t B) := RnI.start hab
   have HRP1 := HRP.out t hab
   have HR1 : Hid (1 ≤ remE l B t) := HRP1
   clear HRP1
   go_wp2
   clear w2 w3 c1 hs1
   go_loopw [8, 9, 10] (fun z8 z9 z10 wq => ∃ (re ne : Int) (k : Nat), z8 = .int .i64 re ∧ z9 = .int .i64 ne ∧ z10 = .int .i64 k ∧ k ≤ m ∧ Hid (RnI l t B k re ne) ∧ Hid (Below V0.heap.size V0 wq)) (fun _ _ z10 _ => m - (intOf z10).toNat)
   case atStart => exact ⟨t, B, 0, rfl, rfl, rfl, by omega, HX0, HB⟩
   case round =>
    clear HX0 HB
    obtain ⟨re, ne, k, rfl, rfl, rfl, hk, HR, HBQ⟩ := hrel
    by_cases hlk : k < m
    ·have hkn : (k : Int) < (m : Int) := by omega
     have hkL : k < l.length := by rw [HML.out]; exact hlk
     obtain ⟨gb, rfl, hgl, hc⟩ := (HLL.out.below HBQ.out) (fun e => by rw [e] at hkL; simp at hkL)
     have d0 : wr.cell? ⟨gb, k * 2, none⟩ = some (.int .i64 l[k].1) := hc k hkL 0 _ rfl
     have d1 : wr.cell? ⟨gb, k * 2 + 1, none⟩ = some (.int .i64 l[k].2) := hc k hkL 1 _ rfl
     obtain ⟨hi1, hi2, hi3⟩ := HIN.out k hkL
     have HSP := HST.out t k re ne HR.out hkL l[k].1 l[k].2 rfl
     have LL := long_any l[k].1 l[k].2 (by omega) wr
     have lz : (lenI (l[k].1, l[k].2) == 0) = decide (l[k].2 ≤ l[k].1) := lenI_zero
     have HS9 : Hid _ := HSP
     clear HSP hc
     generalize l[k].1 = a at *
     generalize l[k].2 = b at *
     have HU : Hid (∀ U, Below wr.heap.size wr U → U.cell? ⟨gb, k * 2, none⟩ = some (.int .i64 a) ∧ U.cell? ⟨gb, k * 2 + 1, none⟩ = some (.int .i64 b) ∧ U.cell? ⟨ib, 1, none⟩ = some (.int .i64 B) ∧ Below V0.heap.size V0 U) := fun U hU => ⟨(hU.cell (p := ⟨gb, k * 2, none⟩) hgl).trans d0, (hU.cell (p := ⟨gb, k * 2 + 1, none⟩) hgl).trans d1, HKU.out U (HBQ.out.trans (hU.mono HBQ.out.size)), HBQ.out.trans (hU.mono HBQ.out.size)⟩
     clear hgl HBQ HR
     obtain ⟨ll, hll⟩ : ∃ x, lenI (a, b) = x := ⟨_, rfl⟩
     rw [hll] at LL lz
     clear hll
     by_cases hz : b ≤ a
     ·rw [decide_eq_true hz] at lz
      have HX : Hid (RnI l t B (k + 1) re ne) := HS9.out.1 hz
      clear HS9
      go_wp2_with (go_at_call 20; (with_reducible refine LL.mono ?_); clear LL; rintro e w6 ⟨rfl, hb6⟩; have HB6 : Hid (Below V0.heap.size V0 w6) := (HU.out w6 hb6).2.2.2; clear hb6 d0 d1 HU)
      go_roundw
      case rel => exact ⟨re, ne, k + 1, rfl, rfl, by go_num, by omega, HX, HB6⟩
      case measure => (simp [intOf]; omega)
     ·rw [decide_eq_false hz] at lz
      by_cases hat : a ≤ t
      ·have nat : ¬ t < a := by omega
       by_cases hrb : re < b
       ·have HX : Hid (RnI l t B (k + 1) b ne) := HS9.out.2.1 hat hrb
        have hmn : min b B = b := by omega
        have HMN : Hid (min b B = b) := hmn
        clear HS9 hmn
        go_upto_region 13 with (go_at_call 20; (with_reducible refine LL.mono ?_); clear LL; rintro e w6 ⟨rfl, hb6⟩; obtain ⟨j0, j1, j2, j3⟩ := HU.out w6 hb6; have HB6 : Hid (Below V0.heap.size V0 w6) := j3; clear hb6 d0 d1 j3)
        go_quiet (fail)
        go_wp2
        go_roundw
        case rel => exact ⟨b, ne, k + 1, by rw [HMN.out], rfl, by go_num, by omega, HX, below_drS HB6.out _⟩
        case measure => (simp [intOf]; omega)
       ·have HX : Hid (RnI l t B (k + 1) re ne) := HS9.out.2.2.1 hat (by omega)
        clear HS9
        go_wp2_with (go_at_call 20; (with_reducible refine LL.mono ?_); clear LL; rintro e w6 ⟨rfl, hb6⟩; obtain ⟨j0, j1, j2, j3⟩ := HU.out w6 hb6; have HB6 : Hid (Below V0.heap.size V0 w6) := j3; clear hb6 d0 d1 j3)
        go_roundw
        case rel => exact ⟨re, ne, k + 1, rfl, rfl, by go_num, by omega, HX, HB6⟩
        case measure => (simp [intOf]; omega)
      ·have nat : t < a := by omega
       by_cases hne : a < ne
       ·have HX : Hid (RnI l t B (k + 1) re a) := HS9.out.2.2.2.1 (by omega) nat hne
        clear HS9
        go_wp2_with (go_at_call 20; (with_reducible refine LL.mono ?_); clear LL; rintro e w6 ⟨rfl, hb6⟩; obtain ⟨j0, j1, j2, j3⟩ := HU.out w6 hb6; have HB6 : Hid (Below V0.heap.size V0 w6) := j3; clear hb6 d0 d1 j3)
        go_roundw
        case rel => exact ⟨re, a, k + 1, rfl, rfl, by go_num, by omega, HX, HB6⟩
        case measure => (simp [intOf]; omega)
       ·have HX : Hid (RnI l t B (k + 1) re ne) := HS9.out.2.2.2.2 nat (by omega)
        clear HS9
        go_wp2_with (go_at_call 20; (with_reducible refine LL.mono ?_); clear LL; rintro e w6 ⟨rfl, hb6⟩; obtain ⟨j0, j1, j2, j3⟩ := HU.out w6 hb6; have HB6 : Hid (Below V0.heap.size V0 w6) := j3; clear hb6 d0 d1 j3)
        go_roundw
        case rel => exact ⟨re, ne, k + 1, rfl, rfl, by go_num, by omega, HX, HB6⟩
        case measure => (simp [intOf]; omega)
    ·obtain rfl : k = m := by omega
     have hkn : ¬ (k : Int) < (k : Int) := by omega
     obtain ⟨q1, q2⟩ := HGO.out t re ne HR.out ht1
     have hr1 := HR.out.r1
     have hn1 := HR.out.n1
     clear HR
     by_cases hlt : t < re
     ·have LL := long_any t re (by omega) wr
      have hle : lenI (t, re) = re - t := by unfold lenI; simp only; split <;> omega
      rw [hle] at LL
      have hbd := HBD.out re
      have hwr : IntKind.u64.wrap (covP N l t + (re - t)) = covP N l re := by rw [(q1 hlt).1] at hbd ⊢; rw [IntKind.wrap_u64]; omega
      have HX : Hid (s + 1 + remE l B re ≤ 2 * k + 1) := by have := (q1 hlt).2; have := HSR.out.1; show s + 1 + remE l B re ≤ 2 * k + 1; omega
      clear q1 q2 hbd hle hn1
      generalize covP N l t = c0 at *
      obtain ⟨c1, hc1⟩ : ∃ c, covP N l re = c := ⟨_, rfl⟩
      have HC1 : Hid (covP N l re = c1) := hc1
      rw [hc1] at hwr
      clear hc1
      generalize re - t = dd at *
      go_wp2_with (go_at_call 20; (with_reducible refine LL.mono ?_); clear LL; rintro e w6 ⟨rfl, hb6⟩; have HB6 : Hid (Below V0.heap.size V0 w6) := HBQ.out.trans (hb6.mono HBQ.out.size); clear hb6)
      go_roundw
      case rel => exact ⟨re, s + 1, by rw [HC1.out], rfl, by go_num, by omega, by omega, HX.out, HB6⟩
      case measure => (simp [intOf]; omega)
     ·have HX : Hid (s + 1 + remE l B ne ≤ 2 * k + 1) := by have := (q2 (by omega)).2; have := HSR.out.1; show s + 1 + remE l B ne ≤ 2 * k + 1; omega
      have HC1 : Hid (covP N l ne = covP N l t) := (q2 (by omega)).1
      clear q1 q2
      go_wp2
      go_roundw
      case rel => exact ⟨ne, s + 1, by rw [HC1.out], rfl, by go_num, by omega, by omega, HX.out, HBQ⟩
      case measure => (simp [intOf]; omega)
  ·obtain rfl : t = B := by omega
   have hE := HBW.out wr HB.out
   have HEND : Hid (Below W.heap.size W wr) := hE
   clear hE HSR
   go_wp2
   go_ret
   exact ⟨rfl, HEND.out⟩
def atQ (Q : List (Int × Int × Int)) (fr : Int) : Nat → Int
 | 0 => fr
 | k + 1 => (Q.getD k (0, 0, 0)).2.2
structure TilQ (Q : List (Int × Int × Int)) (fr til : Int) : Prop where
 len : Q.length ≤ 2000
 each : ∀ k (h : k < Q.length), Q[k].2.1 = atQ Q fr k ∧ Q[k].2.1 < Q[k].2.2
 adj : ∀ k (h : k + 1 < Q.length), Q[k + 1].1 ≠ Q[k].1
 last : atQ Q fr Q.length = til
 some_ : fr < til → 0 < Q.length
 none_ : til ≤ fr → Q.length = 0
set_option maxHeartbeats 4000000 in
theorem tiled_any (ad : Option Addr) (q cap : Nat) (Q : List (Int × Int × Int)) (fr til : Int) (W : World) (hq : Q.length = q) (hT : TilQ Q fr til) (hA : LieIn legC 3 W ad Q) (hb : 0 ≤ fr ∧ fr ≤ 4611686018427387904 ∧ 0 ≤ til ∧ til ≤ 4611686018427387904) :
  Calls Tryz.prog 23 #[.slice ad q cap, .agg #[.int .i64 fr, .int .i64 til]] W fun e w' => e = .returned (.bool true) ∧ Below W.heap.size W w' := by
 have LO : Hid (∀ W1, Calls Tryz.prog 20 #[.agg #[.int .i64 fr, .int .i64 til]] W1 fun e w' => e = .returned (.int .u64 (lenI (fr, til))) ∧ Below W1.heap.size W1 w') := fun W1 => long_any fr til hb W1
 have lz : (lenI (fr, til) == 0) = decide (til ≤ fr) := lenI_zero
 have HT : Hid (TilQ Q fr til ∧ Q.length = q ∧ LieIn legC 3 W ad Q) := ⟨hT, hq, hA⟩
 have hq2 : q ≤ 2000 := by rw [← hq]; exact hT.len
 have HB0 : Hid (Below W.heap.size W (W.alloc (.cells #[.int .i64 fr, .int .i64 til] 36))) := (Below.refl _ _).alloc (Nat.le_refl _) _
 have HK0 : Hid (Blk (W.alloc (.cells #[.int .i64 fr, .int .i64 til] 36)) W.heap.size #[.int .i64 fr, .int .i64 til] 36) := Blk.new _ _ _
 have L1 := LO.out (W.alloc (.cells #[.int .i64 fr, .int .i64 til] 36))
 by_cases hz : til ≤ fr
 ·rw [decide_eq_true hz] at lz
  have e0 : q = 0 := by rw [← hq]; exact hT.none_ hz
  subst e0
  generalize lenI (fr, til) = ll at *
  clear hT hA hb hz HT hq LO
  go_enter Tryz.func23, Tryz.ntmps23
  go_wp2_with (go_at_call 20; (with_reducible refine L1.mono ?_); clear L1; rintro e w1 ⟨rfl, hb1⟩; have HB1 : Hid (Below W.heap.size W w1) := HB0.out.trans (hb1.mono HB0.out.size); clear hb1)
  go_ret
  exact ⟨rfl, HB1.out⟩
 ·rw [decide_eq_false hz] at lz
  have hq0 : 0 < q := by rw [← hq]; exact hT.some_ (by omega)
  generalize lenI (fr, til) = ll at *
  clear hT hA hb hz hq LO
  go_enter Tryz.func23, Tryz.ntmps23
  go_wp2_with (go_at_call 20; (with_reducible refine L1.mono ?_); clear L1; rintro e w1 ⟨rfl, hb1⟩; have HB1 : Hid (Below W.heap.size W w1) := HB0.out.trans (hb1.mono HB0.out.size); have HK1 : Hid (Blk w1 W.heap.size #[.int .i64 fr, .int .i64 til] 36) := HK0.out.below hb1 HK0.out.lt; have k0 : w1.cell? ⟨W.heap.size, 0, none⟩ = some (.int .i64 fr) := HK1.out.cell 0 rfl; clear hb1 HB0 HK0)
  clear k0
  go_loopw [5, 6] (fun z5 z6 wr => ∃ (k : Nat) (at_ : Int), z5 = .int .i64 at_ ∧ z6 = .int .i64 k ∧ k ≤ q ∧ Hid (at_ = atQ Q fr k) ∧ Hid (Below w1.heap.size w1 wr)) (fun _ z6 _ => q - (intOf z6).toNat)
  case atStart => exact ⟨0, fr, rfl, rfl, by omega, rfl, Below.refl _ _⟩
  case round =>
   obtain ⟨k, at_, rfl, rfl, hk, HAT, HBR⟩ := hrel
   by_cases hlt : k < q
   ·have hkn : (k : Int) < (q : Int) := by omega
    have hkQ : k < Q.length := by rw [HT.out.2.1]; exact hlt
    obtain ⟨g, e, hg, hc⟩ := (HT.out.2.2.below (HB1.out.trans (HBR.out.mono HB1.out.size))) (fun e => by rw [e] at hkQ; simp at hkQ)
    subst e
    obtain ⟨e1, e2⟩ := HT.out.1.each k hkQ
    rw [← HAT.out] at e1
    have c1 : wr.cell? ⟨g, k * 3 + 1, none⟩ = some (.int .i64 at_) := by rw [← e1]; exact hc k hkQ 1 _ rfl
    have HC : Hid (∀ j, (wr.drewN j).cell? ⟨g, k * 3 + 2, none⟩ = some (.int .i64 Q[k].2.2)) := fun j => hc k hkQ 2 _ rfl
    have c2 : wr.cell? ⟨g, k * 3 + 2, none⟩ = some (.int .i64 Q[k].2.2) := hc k hkQ 2 _ rfl
    have c0 : wr.cell? ⟨g, k * 3, none⟩ = some (.int .u64 Q[k].1) := hc k hkQ 0 _ rfl
    have HNX : Hid (Q[k].2.2 = atQ Q fr (k + 1)) := by
     show _ = _
     simp [atQ, List.getD, hkQ]
    have HPR : Hid (∀ j, k = j + 1 → ∃ o : Int, wr.cell? ⟨g, j * 3, none⟩ = some (.int .u64 o) ∧ (Q[k].1 == o) = false) := fun j hj => by
     subst hj
     exact ⟨Q[j].1, hc j (by omega) 0 _ rfl, by simpa using HT.out.1.adj j hkQ⟩
    have HBD : Hid (∀ j, Below w1.heap.size w1 (wr.drewN j)) := fun j => below_drewN HBR.out j
    have dl : decide (Q[k].2.2 ≤ at_) = false := decide_eq_false (by omega)
    clear hc e1 e2 HAT HBR
    generalize Q[k] = l at *
    obtain ⟨ow, lf, lt⟩ := l
    simp only at HC c2 c0 HNX HPR dl
    have da : (at_ == at_) = true := by simp
    by_cases hk0 : k = 0
    ·have z0 : decide (0 < k) = false := decide_eq_false (by omega)
     have z1 : decide ((0 : Int) < (k : Int)) = false := decide_eq_false (by omega)
     clear HPR hk0
     go_upto_region 7 with fail
     go_quiet (fail)
     go_upto_region 9 with fail
     obtain ⟨U, hU⟩ : ∃ U, wr.drewN nq = U := ⟨_, rfl⟩
     have c3 : U.cell? ⟨g, k * 3 + 2, none⟩ = some (.int .i64 lt) := by rw [← hU]; exact HC.out nq
     have HBU : Hid (Below w1.heap.size w1 U) := by rw [← hU]; exact HBD.out nq
     rw [hU]
     clear hU c0 c1 c2
     go_wp2
     go_roundw
     case rel => exact ⟨k + 1, lt, rfl, by go_num, by omega, HNX, HBU⟩
     case measure => (simp [intOf]; omega)
    ·obtain ⟨j, hkj⟩ : ∃ j, k = j + 1 := ⟨k - 1, by omega⟩
     obtain ⟨po, cp, zo⟩ := HPR.out j hkj
     have z0 : decide (0 < k) = true := decide_eq_true (by omega)
     have z1 : decide ((0 : Int) < (k : Int)) = true := decide_eq_true (by omega)
     have hsub : (k : Int) - 1 = (j : Int) := by omega
     have hwr : IntKind.i64.wrap (j : Int) = (j : Int) := by simp [IntKind.wrap, IntKind.bits, IntKind.signed]; omega
     have hin3 : (j : Int) < (q : Int) := by omega
     clear HPR hk0 hkj
     go_upto_region 7 with fail
     go_quiet (fail)
     go_upto_region 9 with fail
     obtain ⟨U, hU⟩ : ∃ U, wr.drewN nq = U := ⟨_, rfl⟩
     have c3 : U.cell? ⟨g, k * 3 + 2, none⟩ = some (.int .i64 lt) := by rw [← hU]; exact HC.out nq
     have HBU : Hid (Below w1.heap.size w1 U) := by rw [← hU]; exact HBD.out nq
     rw [hU]
     clear hU c0 c1 c2 cp
     go_wp2
     go_roundw
     case rel => exact ⟨k + 1, lt, rfl, by go_num, by omega, HNX, HBU⟩
     case measure => (simp [intOf]; omega)
   ·obtain rfl : q = k := by omega
    have e : at_ = til := by rw [HAT.out, ← HT.out.1.last, HT.out.2.1]
    subst e
    have k1 : wr.cell? ⟨W.heap.size, 1, none⟩ = some (.int .i64 at_) := (HK1.out.below HBR.out HK1.out.lt).cell 1 rfl
    have HBE : Hid (Below W.heap.size W wr) := HB1.out.trans (HBR.out.mono HB1.out.size)
    have z0 : decide (0 < q) = true := decide_eq_true hq0
    have z1 : decide ((0 : Int) < (q : Int)) = true := decide_eq_true (by omega)
    clear HAT HBR HT
    go_wp2
    go_ret
    exact ⟨rfl, HBE.out⟩
end Go.Proofs.YtnffedmcblbkoaaGreatDoor
