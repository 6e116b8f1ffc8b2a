/-
  O8.
-/
import Derived.Test.YtnffedmcblbkoaaGreatDoorO6q
import Derived.BigQuiet
namespace Go.Proofs.YtnffedmcblbkoaaGreatDoor
open Go Go.RowKit
set_option maxRecDepth 100000

def ShW (fin : Nat → Nod) (K : Nat → List Int) (w4 : World) (i m : Nat) (sa : Option Addr) (sc : Nat) (S : List Int) (wr : World) : Prop := wr.ownsRow w4.heap.size 33 1 (.slice sa m sc) m (S.flatMap uL) ∧ S.length = m ∧ m ≤ i * 1000000 ∧ ShA fin K S i ∧ Below w4.heap.size w4 wr
def ShX (fin : Nat → Nod) (K : Nat → List Int) (w4 w6 : World) (r nb i a b m : Nat) (kn : List Nat) (tr : Int) (sa : Option Addr) (sc : Nat) (S : List Int) (wr : World) : Prop := wr.ownsRow w4.heap.size 33 1 (.slice sa m sc) m (S.flatMap uL) ∧ S.length = m ∧ m ≤ i * 1000000 + a * 1000 + b ∧ ShA fin K S i ∧ ShP fin kn tr S a b ∧ (∀ k, (Value.slice sa m sc).ownBlock = some k → k ≠ r ∧ k ≠ nb) ∧ Upd (fun q => w4.heap.size ≤ q ∧ q ≠ r ∧ q ≠ nb) w6 wr
theorem ShX.mono {fin : Nat → Nod} {K : Nat → List Int} {w4 w6 : World} {r nb i a b m : Nat} {kn : List Nat} {tr : Int} {sa : Option Addr} {sc : Nat} {S : List Int} {wr wr' : World} (h : ShX fin K w4 w6 r nb i a b m kn tr sa sc S wr) (hb : Below wr.heap.size wr wr') : ShX fin K w4 w6 r nb i a b m kn tr sa sc S wr' := by
  obtain ⟨h1, h2, h3, h4, h5, h6, h7⟩ := h
  have u := Upd.ofBelow (S := fun _ => False) hb (fun k h1 h2 => by omega)
  exact ⟨ownsRow_upd h1 u (fun _ _ h => h), h2, h3, h4, h5, h6, h7.trans u (fun _ _ h => h.elim)⟩
theorem ShX.no {fin : Nat → Nod} {K : Nat → List Int} {w4 w6 : World} {r nb i a b m : Nat} {kn : List Nat} {tr : Int} {sa : Option Addr} {sc : Nat} {S : List Int} {wr : World} (h : ShX fin K w4 w6 r nb i a b m kn tr sa sc S wr) (hp : ShP fin kn tr S a (b + 1)) : ShX fin K w4 w6 r nb i a (b + 1) m kn tr sa sc S wr := by
  obtain ⟨h1, h2, h3, h4, h5, h6, h7⟩ := h
  exact ⟨h1, h2, by omega, h4, hp, h6, h7⟩
theorem ShX.yes {fin : Nat → Nod} {K : Nat → List Int} {w4 w6 : World} {r nb i a b m : Nat} {kn : List Nat} {tr : Int} {sa : Option Addr} {sc : Nat} {S : List Int} {wr wr' : World} (h : ShX fin K w4 w6 r nb i a b m kn tr sa sc S wr) (hr : r < w6.heap.size) (hn : nb < w6.heap.size) {va : Option Addr} {vc : Nat} (o : wr'.ownsRow w4.heap.size 33 1 (.slice va (m + 1) vc) (m + 1) ((S ++ [tr]).flatMap uL)) (u : Upd (fun q => (Value.slice sa m sc).ownBlock = some q) wr wr') (hm : Moved wr (.slice sa m sc) (.slice va (m + 1) vc)) : ShX fin K w4 w6 r nb i a (b + 1) (m + 1) kn tr va vc (S ++ [tr]) wr' := by
  obtain ⟨h1, h2, h3, h4, h5, h6, h7⟩ := h
  refine ⟨o, by rw [List.length_append, h2]; rfl, by omega, h4.more tr, ShP.yes _ _ _ _ _ _, fun k hk => ?_, h7.trans u (fun k _ e => ⟨(owns_lt h1 e).1, h6 k e⟩)⟩
  rcases hm with hm | ⟨k', hm, hs⟩
  · exact h6 k (hm ▸ hk)
  · rw [hm] at hk
    cases hk
    have := h7.size
    omega
theorem below_dr {B : Nat} {a w : World} (h : Below B a w) (q : Nat) : Below B a (w.drewN q) := ⟨h.os, h.tape, h.output, h.size, h.block⟩
theorem shx_0 {m i y z : Nat} (h : m ≤ i * 1000000) : m ≤ i * 1000000 + y * 1000 + z := Nat.le_trans h (Nat.le_trans (Nat.le_add_right _ (y * 1000)) (Nat.le_add_right _ z))
theorem shx_a {m i b z : Nat} (hz : z = 0) (h : m ≤ i * 1000000 + b * 1000 + b) (h2 : b ≤ 1000) : m ≤ i * 1000000 + (b + 1) * 1000 + z := by omega
theorem shx_i {m i a : Nat} (h : m ≤ i * 1000000 + a * 1000 + 0) (h2 : a ≤ 1000) : m ≤ (i + 1) * 1000000 := by omega
theorem shx_g {m i a b : Nat} (h : m ≤ i * 1000000 + a * 1000 + b) (h1 : i + 1 ≤ 1000) (h2 : a + 1 ≤ 1000) (h3 : b + 1 ≤ 1000) : m ≤ 1000000000 := by omega
set_option maxHeartbeats 16000000 in
theorem ownAlone_any (ad : Option Addr) (n0 cap : Nat) (XL : List Sp) (P : Nat → Pl) (w : World) (hX : SpsAt w ad n0 XL P) (hF : ∀ a ∈ XL, a.Fits) (hS : ∀ a ∈ XL, a.Small) (hT : Tabs w) :
    Calls Tryz.prog 4 #[.slice ad n0 cap] w fun e w' => e = .returned (.bool true) ∧ Below w.heap.size w w' := by
  have SH := shown_any w hT
  by_cases h1 : OneT XL
  · have BO : Hid (∀ W, Below w.heap.size w W → Calls Tryz.prog 7 #[.slice ad n0 cap] W fun e w' => ∃ f g sb Y C dp fin X' K rv R, e = .returned (.tuple #[.pointer (some ⟨f, 0, none⟩), .pointer (some ⟨g, 0, none⟩), .bool true]) ∧ Hid (BuT XL w' f sb Y C dp fin X' K rv R) ∧ Below W.heap.size W w') := fun W hb => both_yes ad n0 cap XL P W (hX.below hb) hF hS (hT.below hb) h1
    clear hX hF hS hT h1
    go_enter Tryz.func4, Tryz.ntmps4
    go_upto_region 3 with (first
      | (go_at_call 6; (with_reducible refine SH.mono ?_); clear SH; rintro e w1 ⟨rfl, b1⟩; have M1 := BO.out w1 b1; have HB1 : Hid (Below w.heap.size w w1) := b1; clear b1 BO)
      | (go_at_call 7; (with_reducible refine M1.mono ?_); clear M1; rintro e w2 ⟨f, g, sb, Y, C, dp, fin, X, K, rv, R, rfl, HBT, b2⟩; have HB2 : Hid (Below w.heap.size w w2) := HB1.out.trans (b2.mono HB1.out.size); clear b2))
    obtain ⟨ro, hro⟩ := HBT.out.fo.rootF9
    obtain ⟨N, hN⟩ : ∃ N : Nat, (N : Int) = 18446744073709551615 := ⟨18446744073709551615, rfl⟩
    have TI := times_any f sb X K rv R Y C dp fin w2 HBT.out.at_ HBT.out.fo ro hro hN
    have HD : Hid (∀ W1, Below w2.heap.size w2 W1 → Calls Tryz.prog 14 #[.pointer (some ⟨f, 0, none⟩)] W1 fun e w' => ∃ r, e = .returned (.slice (some ⟨r, 0, none⟩) Y.length Y.length) ∧ Blk w' r (fillC .u64 ((List.range Y.length).map (fun i => (fin i).id)) 0) 33 ∧ W1.heap.size ≤ r ∧ Below W1.heap.size W1 w') := fun W1 hb => by
      have hl := HBT.out.fo.fo.len
      have e : X.map (fun x => x.nd.id) = (List.range Y.length).map (fun i => (fin i).id) := by
        refine List.ext_getElem (by simp [hl]) (fun i h1 h2 => ?_)
        have hi : i < X.length := by simpa using h1
        simp [(HBT.out.fo.fo.each i (by omega) hi).2]
      have := ids_any f sb X K rv R W1 (HBT.out.at_.below hb)
      rw [e, hl] at this
      exact this
    have HND : Hid (∀ c, c < Y.length → ∀ W1, Below w2.heap.size w2 W1 → Calls Tryz.prog 10 #[.pointer (some ⟨f, 0, none⟩), .int .u64 (fin c).id] W1 fun e w' => e = .returned (.tuple #[ndV (fin c), .bool true]) ∧ Below W1.heap.size W1 w') := fun c hc W1 hb => by
      have hl := HBT.out.fo.fo.len
      have e := (HBT.out.fo.fo.each c hc (by omega)).2
      have h := node_at (HBT.out.at_.below hb) c (by omega) (fin c).id (by rw [e])
      rwa [e] at h
    have HCH : Hid (∀ c, c < Y.length → ∀ W1, Below w2.heap.size w2 W1 → Calls Tryz.prog 15 #[.pointer (some ⟨f, 0, none⟩), .int .u64 (fin c).id] W1 fun e w' => ∃ r, e = .returned (.slice (some ⟨r, 0, none⟩) (knK K c).length (knK K c).length) ∧ Blk w' r (fillC .u64 ((knK K c).map (fun c => (fin c).id)) 0) 33 ∧ W1.heap.size ≤ r ∧ Below W1.heap.size W1 w') := fun c hc W1 hb => by
      have T := HBT.out.fo.senv c hc
      exact children_at f sb X K rv R fin (knK K) W1 (HBT.out.at_.below hb) T.nd c T.xX (T.kn c T.xX).1 (T.kn c T.xX).2.1
    have HKN : Hid (∀ c, c < Y.length → (knK K c).length ≤ 1000 ∧ ∀ k ∈ knK K c, k < Y.length) := fun c hc => by
      have T := HBT.out.fo.senv c hc
      have hl := HBT.out.fo.fo.len
      exact ⟨(T.kn c T.xX).2.2, fun k hk => by have := (T.kn c T.xX).2.1 k hk; omega⟩
    have HRU : Hid (∀ c, c < Y.length → ∀ t W1, Below w2.heap.size w2 W1 → Calls Tryz.prog 16 #[.pointer (some ⟨f, 0, none⟩), .int .u64 (fin c).id, .int .i64 t] W1 fun e w' => e = .returned (.bool (runB fin t c)) ∧ Below W1.heap.size W1 w') := fun c hc t W1 hb => running_any HBT.out.at_ HBT.out.fo hb c hc t
    have HOK : Hid (∀ S, ShA fin K S Y.length → ∀ y, y < Y.length → selfX fin K dp ro y ≤ lenI ((fin y).fr, (fin y).til) - iv.muV N (memI (kidI fin K y)) ∧ lenI ((fin y).fr, (fin y).til) - iv.muV N (memI (kidI fin K y)) ≤ lenI ((fin y).fr, (fin y).til) ∧ ((fin y).tree ∉ S → selfX fin K dp ro y = lenI ((fin y).fr, (fin y).til) - iv.muV N (memI (kidI fin K y)))) := fun S hS y hy => HBT.out.fo.aloneOk hro hS hN hy
    have hn1 : Y.length ≤ 1000 := HBT.out.fo.one.len
    clear HBT hro hN
    generalize Y.length = n at *
    go_upto_region 13 with (first
      | (go_at_call 8; (with_reducible refine TI.mono ?_); clear TI; rintro e w3 ⟨tb0, oa, oc, rfl, hrow, hlo, b3⟩; have HT3 : Hid (w3.ownsRow tb0 52 4 (.slice oa n oc) n ((List.range n).flatMap (timC fin K dp ro N)) ∧ Below w2.heap.size w2 w3) := ⟨hrow, b3⟩; have D3 := HD.out w3 b3; clear hrow hlo b3 HD)
      | (go_at_call 14; (with_reducible refine D3.mono ?_); clear D3; rintro e w4 ⟨rid, rfl, hb4, hr4, b4⟩; have HB4 : Hid (Below w2.heap.size w2 w4) := HT3.out.2.trans (b4.mono HT3.out.2.size); have HI4 : Hid (Blk w4 rid (fillC .u64 ((List.range n).map (fun i => (fin i).id)) 0) 33) := hb4; have HT4 : Hid (w4.ownsRow tb0 52 4 (.slice oa n oc) n ((List.range n).flatMap (timC fin K dp ro N))) := ownsRow_upd HT3.out.1 (Upd.ofBelow (S := fun _ => False) b4 (fun k h1 h2 => by omega)) (fun _ _ h => h); clear hb4 hr4 b4))
    have HC0 : Hid (ShW fin K w4 0 0 none 0 [] w4) := ⟨World.ownsRow_nil _ _ _ _, rfl, by omega, fun y hy => by omega, Below.refl _ _⟩
    go_loopw [9, 10] (fun z9 z10 wr => ∃ (i m : Nat) (sa : Option Addr) (sc : Nat) (S : List Int), z9 = .slice sa m sc ∧ z10 = .int .i64 i ∧ i ≤ n ∧ Hid (ShW fin K w4 i m sa sc S wr)) (fun _ z10 _ => n - (intOf z10).toNat)
    case atStart => exact ⟨0, 0, none, 0, [], rfl, rfl, by omega, HC0⟩
    case round =>
      clear HC0
      obtain ⟨i, m, sa, sc, S, rfl, rfl, hi, HI⟩ := hrel
      by_cases hlt : i < n
      · have hin : (i : Int) < (n : Int) := by omega
        have c0 : wr.cell? ⟨rid, i, none⟩ = some (.int .u64 (fin i).id) := (HI4.out.below HI.out.2.2.2.2 HI4.out.lt).cell i (by simp [fillC, hlt])
        have HBR : Hid (Below w2.heap.size w2 wr) := HB4.out.trans (HI.out.2.2.2.2.mono HB4.out.size)
        have N1 := HND.out i hlt wr HBR.out
        unfold ndV at N1
        have HC1 : Hid (∀ U, Below wr.heap.size wr U → U.cell? ⟨rid, i, none⟩ = some (.int .u64 (fin i).id)) := fun U hU => ((HI4.out.below HI.out.2.2.2.2 HI4.out.lt).below hU (Nat.lt_of_lt_of_le HI4.out.lt HI.out.2.2.2.2.size)).cell i (by simp [fillC, hlt])
        have CH1 : Hid (∀ W1, Below wr.heap.size wr W1 → Calls Tryz.prog 15 #[.pointer (some ⟨f, 0, none⟩), .int .u64 (fin i).id] W1 fun e w' => ∃ r, e = .returned (.slice (some ⟨r, 0, none⟩) (knK K i).length (knK K i).length) ∧ Blk w' r (fillC .u64 ((knK K i).map (fun c => (fin c).id)) 0) 33 ∧ W1.heap.size ≤ r ∧ Below W1.heap.size W1 w') := fun W1 hb => HCH.out i hlt W1 (HBR.out.trans (hb.mono HBR.out.size))
        have HK1 : Hid ((knK K i).length ≤ 1000 ∧ ∀ k ∈ knK K i, k < n) := HKN.out i hlt
        obtain ⟨tr, htr⟩ : ∃ t, (fin i).tree = t := ⟨_, rfl⟩
        obtain ⟨kn, hkn⟩ : ∃ k, knK K i = k := ⟨_, rfl⟩
        have HTR : Hid ((fin i).tree = tr ∧ knK K i = kn) := ⟨htr, hkn⟩
        rw [hkn] at CH1 HK1
        rw [htr] at N1
        clear htr hkn
        go_upto_region 16 with (go_at_call 10; (with_reducible refine N1.mono ?_); clear N1; rintro e w5 ⟨rfl, b5⟩; have HB5 : Hid (Below wr.heap.size wr w5) := b5; clear b5)
        obtain ⟨V5, hV5⟩ : ∃ V, w5.alloc (.cells #[.int .u64 (fin i).id, .int .u64 (fin i).par, .int .i64 (fin i).org, .int .u64 tr, .int .i64 (fin i).dep, .int .i64 (fin i).fr, .int .i64 (fin i).til] 38) = V := ⟨_, rfl⟩
        have HBN : Hid (Blk V5 w5.heap.size #[.int .u64 (fin i).id, .int .u64 (fin i).par, .int .i64 (fin i).org, .int .u64 tr, .int .i64 (fin i).dep, .int .i64 (fin i).fr, .int .i64 (fin i).til] 38) := by rw [← hV5]; exact Blk.new _ _ _
        have BV : Hid (Below wr.heap.size wr V5) := by rw [← hV5]; exact HB5.out.alloc HB5.out.size _
        have hnb : Hid (wr.heap.size ≤ w5.heap.size) := HB5.out.size
        have c1 := HC1.out V5 BV.out
        have CH2 := CH1.out V5 BV.out
        rw [hV5]
        obtain ⟨nb, hnbe⟩ : ∃ b, w5.heap.size = b := ⟨_, rfl⟩
        rw [hnbe] at HBN hnb ⊢
        clear hV5 HB5 hnbe c0 CH1 HC1
        go_upto_region 18 with (go_at_call 15; (with_reducible refine CH2.mono ?_); clear CH2; rintro e w6 ⟨r, rfl, hb6, hr6, b6⟩; have HR6 : Hid (Blk w6 r (fillC .u64 (kn.map (fun c => (fin c).id)) 0) 33 ∧ Blk w6 nb #[.int .u64 (fin i).id, .int .u64 (fin i).par, .int .i64 (fin i).org, .int .u64 tr, .int .i64 (fin i).dep, .int .i64 (fin i).fr, .int .i64 (fin i).til] 38 ∧ Below wr.heap.size wr w6 ∧ wr.heap.size ≤ r) := ⟨hb6, HBN.out.below b6 HBN.out.lt, BV.out.trans (b6.mono BV.out.size), Nat.le_trans BV.out.size hr6⟩; clear hb6 hr6 b6)
        obtain ⟨q, hq⟩ : ∃ q, kn.length = q := ⟨_, rfl⟩
        have HQ : Hid (kn.length = q) := hq
        have hq1 : q ≤ 1000 := by rw [← hq]; exact HK1.out.1
        rw [hq]
        have HX0 : Hid (ShX fin K w4 w6 r nb i 0 0 m kn tr sa sc S w6) := by
          obtain ⟨a1, a2, a3, a4, a5⟩ := HI.out
          obtain ⟨_, _, a6, a7⟩ := HR6.out
          refine ⟨ownsRow_upd a1 (Upd.ofBelow (S := fun _ => False) a6 (fun k h1 h2 => by omega)) (fun _ _ h => h), a2, shx_0 a3, a4, ShP.zero _ _ _ _, fun k hk => ?_, Upd.refl _ _⟩
          have := (owns_lt a1 hk).2
          have := hnb.out
          omega
        have HW6 : Hid (w4.heap.size ≤ w6.heap.size ∧ Below w4.heap.size w4 w6 ∧ w4.heap.size ≤ r ∧ w4.heap.size ≤ nb) := by
          obtain ⟨_, _, _, _, a5⟩ := HI.out
          obtain ⟨_, _, a6, a7⟩ := HR6.out
          have b := a5.trans (a6.mono a5.size)
          exact ⟨b.size, b, Nat.le_trans a5.size a7, Nat.le_trans a5.size hnb.out⟩
        clear hq HI c1 HBN BV hnb HBR
        go_loopw [9, 14] (fun z9 z14 wr => ∃ (a m : Nat) (sa : Option Addr) (sc : Nat) (S : List Int), z9 = .slice sa m sc ∧ z14 = .int .i64 a ∧ a ≤ q ∧ Hid (ShX fin K w4 w6 r nb i a 0 m kn tr sa sc S wr)) (fun _ z14 _ => q - (intOf z14).toNat)
        case atStart => exact ⟨0, m, sa, sc, S, rfl, rfl, by omega, HX0⟩
        case round =>
          clear HX0
          obtain ⟨a, m, sa, sc, S, rfl, rfl, ha, HA⟩ := hrel
          by_cases hla : a < q
          · have hin2 : (a : Int) < (q : Int) := by omega
            go_upto_region 21 with fail
            go_loopw [9, 15] (fun z9 z15 wr => ∃ (b m : Nat) (sa : Option Addr) (sc : Nat) (S : List Int), z9 = .slice sa m sc ∧ z15 = .int .i64 b ∧ b ≤ a ∧ Hid (ShX fin K w4 w6 r nb i a b m kn tr sa sc S wr)) (fun _ z15 _ => a - (intOf z15).toNat)
            case atStart => exact ⟨0, m, sa, sc, S, rfl, rfl, by omega, HA⟩
            case round =>
              clear HA
              obtain ⟨b, m, sa, sc, S, rfl, rfl, hb, HB⟩ := hrel
              by_cases hlb : b < a
              · have hin3 : (b : Int) < (a : Int) := by omega
                have hin4 : (b : Int) < (q : Int) := by omega
                have hka : a < kn.length := by rw [HQ.out]; exact hla
                have hkb : b < kn.length := by rw [HQ.out]; omega
                have HUP : Hid (Upd (fun q => w4.heap.size ≤ q ∧ q ≠ r ∧ q ≠ nb) w6 wr) := HB.out.2.2.2.2.2.2
                have HKR : Hid (Blk wr r (fillC .u64 (kn.map (fun c => (fin c).id)) 0) 33 ∧ Blk wr nb #[.int .u64 (fin i).id, .int .u64 (fin i).par, .int .i64 (fin i).org, .int .u64 tr, .int .i64 (fin i).dep, .int .i64 (fin i).fr, .int .i64 (fin i).til] 38) := ⟨HR6.out.1.upd HUP.out (fun e => e.2.1 rfl), HR6.out.2.1.upd HUP.out (fun e => e.2.2 rfl)⟩
                have HB2W : Hid (Below w2.heap.size w2 wr) := HB4.out.trans ((HW6.out.2.1.trans (HUP.out.below HW6.out.1 (fun k hk e => by have := e.1; omega))).mono HB4.out.size)
                have CA : Hid (∀ U, Below wr.heap.size wr U → U.cell? ⟨r, a, none⟩ = some (.int .u64 (fin kn[a]).id)) := fun U hU => (HKR.out.1.below hU HKR.out.1.lt).cell a (by simp [fillC, hka])
                have CB : Hid (∀ U, Below wr.heap.size wr U → U.cell? ⟨r, b, none⟩ = some (.int .u64 (fin kn[b]).id)) := fun U hU => (HKR.out.1.below hU HKR.out.1.lt).cell b (by simp [fillC, hkb])
                have CN : Hid (∀ U, Below wr.heap.size wr U → U.cell? ⟨nb, 3, none⟩ = some (.int .u64 tr)) := fun U hU => (HKR.out.2.below hU HKR.out.2.lt).cell 3 rfl
                have hya : kn[a] < n := HK1.out.2 _ (List.getElem_mem hka)
                have hyb : kn[b] < n := HK1.out.2 _ (List.getElem_mem hkb)
                have NA : Hid (∀ U, Below wr.heap.size wr U → Calls Tryz.prog 10 #[.pointer (some ⟨f, 0, none⟩), .int .u64 (fin kn[a]).id] U fun e w' => e = .returned (.tuple #[ndV (fin kn[a]), .bool true]) ∧ Below U.heap.size U w') := fun U hU => HND.out _ hya U (HB2W.out.trans (hU.mono HB2W.out.size))
                have NB : Hid (∀ U, Below wr.heap.size wr U → Calls Tryz.prog 10 #[.pointer (some ⟨f, 0, none⟩), .int .u64 (fin kn[b]).id] U fun e w' => e = .returned (.tuple #[ndV (fin kn[b]), .bool true]) ∧ Below U.heap.size U w') := fun U hU => HND.out _ hyb U (HB2W.out.trans (hU.mono HB2W.out.size))
                obtain ⟨mm, hmm⟩ : ∃ mm, mm = (if (fin kn[a]).fr < (fin kn[b]).fr then (fin kn[b]).fr else (fin kn[a]).fr) := ⟨_, rfl⟩
                have RA : Hid (∀ U, Below wr.heap.size wr U → Calls Tryz.prog 16 #[.pointer (some ⟨f, 0, none⟩), .int .u64 (fin kn[a]).id, .int .i64 mm] U fun e w' => e = .returned (.bool (runB fin mm kn[a])) ∧ Below U.heap.size U w') := fun U hU => HRU.out _ hya mm U (HB2W.out.trans (hU.mono HB2W.out.size))
                have RB : Hid (∀ U, Below wr.heap.size wr U → Calls Tryz.prog 16 #[.pointer (some ⟨f, 0, none⟩), .int .u64 (fin kn[b]).id, .int .i64 mm] U fun e w' => e = .returned (.bool (runB fin mm kn[b])) ∧ Below U.heap.size U w') := fun U hU => HRU.out _ hyb mm U (HB2W.out.trans (hU.mono HB2W.out.size))
                have HNO : Hid (¬ (runB fin mm kn[a] = true ∧ runB fin mm kn[b] = true) → ShX fin K w4 w6 r nb i a (b + 1) m kn tr sa sc S wr) := fun hno => HB.out.no (HB.out.2.2.2.2.1.no hlb hka mm hmm hno)
                have hm9 : m ≤ 1000000000 := shx_g HB.out.2.2.1 (by omega) (by omega) (by omega)
                have hlr : r < w6.heap.size ∧ nb < w6.heap.size := ⟨HR6.out.1.lt, HR6.out.2.1.lt⟩
                have HLR : Hid (r < w6.heap.size ∧ nb < w6.heap.size ∧ w4.heap.size ≤ wr.heap.size) := ⟨hlr.1, hlr.2, by have := HUP.out.size; have := HW6.out.1; omega⟩
                clear hya hyb hlr HUP HKR
                generalize runB fin mm kn[a] = one at *
                generalize runB fin mm kn[b] = two at *
                unfold ndV at NA NB
                generalize kn[a] = ka at *
                generalize kn[b] = kb at *
                generalize fin ka = da at *
                generalize fin kb = db at *
                have c1 := CA.out wr (Below.refl _ _)
                have N1 := NA.out wr (Below.refl _ _)
                go_upto_region 24 with (go_at_call 10; (with_reducible refine N1.mono ?_); clear N1; rintro e w7 ⟨rfl, b7⟩; have HB7 : Hid (Below wr.heap.size wr w7) := b7; clear b7)
                obtain ⟨V7, hV7⟩ : ∃ V, w7.alloc (.cells #[.int .u64 da.id, .int .u64 da.par, .int .i64 da.org, .int .u64 da.tree, .int .i64 da.dep, .int .i64 da.fr, .int .i64 da.til] 38) = V := ⟨_, rfl⟩
                have bk : Blk V7 w7.heap.size #[.int .u64 da.id, .int .u64 da.par, .int .i64 da.org, .int .u64 da.tree, .int .i64 da.dep, .int .i64 da.fr, .int .i64 da.til] 38 := by rw [← hV7]; exact Blk.new _ _ _
                have k5 : V7.cell? ⟨w7.heap.size, 5, none⟩ = some (.int .i64 da.fr) := bk.cell 5 rfl
                have BV7 : Hid (Below wr.heap.size wr V7) := by rw [← hV7]; exact HB7.out.alloc HB7.out.size _
                have c2 := CB.out V7 BV7.out
                have N2 := NB.out V7 BV7.out
                rw [hV7]
                clear hV7 bk c1 NA NB
                go_upto_region 26 with (go_at_call 10; (with_reducible refine N2.mono ?_); clear N2; rintro e w8 ⟨rfl, b8⟩; have HB8 : Hid (Below wr.heap.size wr w8) := BV7.out.trans (b8.mono BV7.out.size); clear b8)
                obtain ⟨V8, hV8⟩ : ∃ V, w8.alloc (.cells #[.int .u64 db.id, .int .u64 db.par, .int .i64 db.org, .int .u64 db.tree, .int .i64 db.dep, .int .i64 db.fr, .int .i64 db.til] 38) = V := ⟨_, rfl⟩
                have bk : Blk V8 w8.heap.size #[.int .u64 db.id, .int .u64 db.par, .int .i64 db.org, .int .u64 db.tree, .int .i64 db.dep, .int .i64 db.fr, .int .i64 db.til] 38 := by rw [← hV8]; exact Blk.new _ _ _
                have k6 : V8.cell? ⟨w8.heap.size, 5, none⟩ = some (.int .i64 db.fr) := bk.cell 5 rfl
                have BV8 : Hid (Below wr.heap.size wr V8) := by rw [← hV8]; exact HB8.out.alloc HB8.out.size _
                have c3 := CA.out V8 BV8.out
                have R1 := RA.out V8 BV8.out
                rw [hV8]
                clear hV8 bk c2 k5 HB7 HB8 BV7 RA
                have rel_no : Hid (∀ U, ¬ (one = true ∧ two = true) → Below wr.heap.size wr U → ShX fin K w4 w6 r nb i a (b + 1) m kn tr sa sc S U) := fun U h hU => (HNO.out h).mono hU
                have R2 : Hid (∀ U, Below wr.heap.size wr U → U.cell? ⟨r, b, none⟩ = some (.int .u64 db.id) ∧ U.cell? ⟨nb, 3, none⟩ = some (.int .u64 tr)) := fun U hU => ⟨CB.out U hU, CN.out U hU⟩
                have HYS : Hid (∀ U va vc w', Below wr.heap.size wr U → w'.ownsRow w4.heap.size 33 1 (.slice va (m + 1) vc) (m + 1) ((S ++ [tr]).flatMap uL) → Upd (fun q => (Value.slice sa m sc).ownBlock = some q) U w' → Moved U (.slice sa m sc) (.slice va (m + 1) vc) → ShX fin K w4 w6 r nb i a (b + 1) (m + 1) kn tr va vc (S ++ [tr]) w') := fun U va vc w' hU o u mv => (HB.out.mono hU).yes HLR.out.1 HLR.out.2.1 o u mv
                have HOW : Hid (∀ U, Below wr.heap.size wr U → U.ownsRow w4.heap.size 33 1 (.slice sa m sc) m (S.flatMap uL) ∧ S.length = m ∧ w4.heap.size ≤ U.heap.size) := fun U hU => ⟨(HB.out.mono hU).1, HB.out.2.1, Nat.le_trans HLR.out.2.2 hU.size⟩
                clear HNO CB CN CA
                by_cases hgt : da.fr < db.fr
                all_goals (first | (rw [if_pos hgt] at hmm) | (rw [if_neg hgt] at hmm))
                all_goals subst hmm
                all_goals (cases one <;> cases two)
                all_goals
                  go_wp2_with (first
                    | (go_at_call 16; (with_reducible refine R1.mono ?_); clear R1; rintro e w9 ⟨rfl, b9⟩; have HB9 : Hid (Below wr.heap.size wr w9) := BV8.out.trans (b9.mono BV8.out.size); have c4 := (R2.out w9 HB9.out).1; have R1 := RB.out w9 HB9.out; clear b9)
                    | (go_at_call 16; (with_reducible refine R1.mono ?_); clear R1; rintro e w10 ⟨rfl, b10⟩; have HB10 : Hid (Below wr.heap.size wr w10) := HB9.out.trans (b10.mono HB9.out.size); have c5 := (R2.out w10 HB10.out).2; clear b10)
                    | (at_builtin; (refine wpList_appOs w10 rfl _ _ rfl w4.heap.size (.slice sa m sc) m S tr _ rfl rfl (HOW.out w10 HB10.out).1 rfl hm9 (HOW.out w10 HB10.out).2.2 ?_; intro va9 vc9 w11 o11 u11 m11); have HI9 : Hid (ShX fin K w4 w6 r nb i a (b + 1) (m + 1) kn tr va9 vc9 (S ++ [tr]) w11) := HYS.out w10 va9 vc9 w11 HB10.out o11 u11 m11; clear o11 u11 m11 HYS))
                  go_roundw
                  case rel => first
                    | exact ⟨b + 1, m + 1, va9, vc9, S ++ [tr], by go_num, by go_num, by omega, HI9⟩
                    | exact ⟨b + 1, m, sa, sc, S, by go_num, by go_num, by omega, rel_no.out w10 (by decide) HB10.out⟩
                    | exact ⟨b + 1, m, sa, sc, S, by go_num, by go_num, by omega, rel_no.out w9 (by decide) HB9.out⟩
                  case measure => (simp [intOf]; omega)
              · obtain rfl : b = a := by omega
                have hin3 : ¬ (b : Int) < (b : Int) := by omega
                have HA2 : Hid (ShX fin K w4 w6 r nb i (b + 1) 0 m kn tr sa sc S wr) := by
                  obtain ⟨a1, a2, a3, a4, a5, a6, a7⟩ := HB.out
                  exact ⟨a1, a2, shx_a rfl a3 (by omega), a4, a5.next, a6, a7⟩
                go_wp2
                go_roundw
                case rel => exact ⟨b + 1, m, sa, sc, S, by go_num, by go_num, by omega, HA2⟩
                case measure => (simp [intOf]; omega)
          · obtain rfl : a = q := by omega
            have hin2 : ¬ (a : Int) < (a : Int) := by omega
            have HI2 : Hid (ShW fin K w4 (i + 1) m sa sc S wr) := by
              obtain ⟨a1, a2, a3, a4, a5, a6, a7⟩ := HA.out
              refine ⟨a1, a2, shx_i a3 hq1, a4.next (by rw [HTR.out.1, HTR.out.2, HQ.out]; exact a5), HW6.out.2.1.trans (a7.below HW6.out.1 (fun k hk e => by omega))⟩
            go_wp2
            go_roundw
            case rel => exact ⟨i + 1, m, sa, sc, S, by go_num, by go_num, by omega, HI2⟩
            case measure => (simp [intOf]; omega)
      · obtain rfl : i = n := by omega
        have hin : ¬ (i : Int) < (i : Int) := by omega
        have HLI : Hid (LieIn uL 1 wr sa S) := LieIn.of_owns (f := uL) (fun _ => rfl) HI.out.1 HI.out.2.1
        have HSL : Hid (S.length = m) := HI.out.2.1
        have HOK2 : Hid (∀ y, y < i → selfX fin K dp ro y ≤ lenI ((fin y).fr, (fin y).til) - iv.muV N (memI (kidI fin K y)) ∧ lenI ((fin y).fr, (fin y).til) - iv.muV N (memI (kidI fin K y)) ≤ lenI ((fin y).fr, (fin y).til) ∧ ((fin y).tree ∉ S → selfX fin K dp ro y = lenI ((fin y).fr, (fin y).til) - iv.muV N (memI (kidI fin K y)))) := HOK.out S HI.out.2.2.2.1
        have HBR : Hid (Below w2.heap.size w2 wr) := HB4.out.trans (HI.out.2.2.2.2.mono HB4.out.size)
        have hT9 : wr.ownsRow tb0 52 4 (.slice oa i oc) i ((List.range i).flatMap (timC fin K dp ro N)) := ownsRow_upd HT4.out (Upd.ofBelow (S := fun _ => False) HI.out.2.2.2.2 (fun k h1 h2 => by omega)) (fun _ _ h => h)
        have HLT : Hid (LieIn (timC fin K dp ro N) 4 wr oa (List.range i)) := LieIn.of_owns (f := timC fin K dp ro N) (fun _ => rfl) hT9 List.length_range
        have HID9 : Hid (Blk wr rid (fillC .u64 ((List.range i).map (fun i => (fin i).id)) 0) 33) := HI4.out.below HI.out.2.2.2.2 HI4.out.lt
        have hm9 : m ≤ 1000000000 := by have := HI.out.2.2.1; omega
        clear hT9 HI HT4 HI4 HT3 HB4 HOK HKN HCH HRU
        generalize wr = wx at *
        go_upto_region 33 with fail
        go_loopw [23] (fun z23 wr => ∃ j : Nat, z23 = .int .i64 j ∧ j ≤ i ∧ Hid (Below wx.heap.size wx wr)) (fun z23 _ => i - (intOf z23).toNat)
        case atStart => exact ⟨0, rfl, by omega, Below.refl _ _⟩
        case round =>
          obtain ⟨j, rfl, hj, HW⟩ := hrel
          by_cases hlt : j < i
          · have hjn : (j : Int) < (i : Int) := by omega
            obtain ⟨tb, rfl, htl, hct⟩ := HLT.out (fun e => by have := congrArg List.length e; simp at this; omega)
            have CT : ∀ q v, (timC fin K dp ro N j)[q]? = some v → wr.cell? ⟨tb, j * 4 + q, none⟩ = some v := fun q v hv => (HW.out.cell (p := ⟨tb, j * 4 + q, none⟩) htl).trans (hct j (by simpa using hlt) q v (by simpa using hv))
            have t0 : wr.cell? ⟨tb, j * 4, none⟩ = some (.int .u64 (fin j).id) := CT 0 _ rfl
            have t1 : wr.cell? ⟨tb, j * 4 + 1, none⟩ = some (.int .u64 (lenI ((fin j).fr, (fin j).til))) := CT 1 _ rfl
            have t2 : wr.cell? ⟨tb, j * 4 + 2, none⟩ = some (.int .u64 (lenI ((fin j).fr, (fin j).til) - iv.muV N (memI (kidI fin K j)))) := CT 2 _ rfl
            have t3 : wr.cell? ⟨tb, j * 4 + 3, none⟩ = some (.int .u64 (selfX fin K dp ro j)) := CT 3 _ rfl
            have HCI : Hid (∀ U, Below wx.heap.size wx U → U.cell? ⟨rid, j, none⟩ = some (.int .u64 (fin j).id)) := fun U hU => (HID9.out.below hU HID9.out.lt).cell j (by simp [fillC, hlt])
            have HOJ := HOK2.out j hlt
            have HNJ : Hid (∀ U, Below wx.heap.size wx U → Calls Tryz.prog 10 #[.pointer (some ⟨f, 0, none⟩), .int .u64 (fin j).id] U fun e w' => e = .returned (.tuple #[ndV (fin j), .bool true]) ∧ Below U.heap.size U w') := fun U hU => HND.out j hlt U (HBR.out.trans (hU.mono HBR.out.size))
            clear hct CT
            unfold ndV at HNJ
            generalize selfX fin K dp ro j = se at *
            generalize lenI ((fin j).fr, (fin j).til) - iv.muV N (memI (kidI fin K j)) = ex at *
            generalize lenI ((fin j).fr, (fin j).til) = tl at *
            generalize fin j = d at *
            obtain ⟨h1, h2, h3⟩ := HOJ
            go_upto_region 36 with fail
            obtain ⟨V1, hV1⟩ : ∃ V, wr.alloc (.cells #[.int .u64 d.id, .int .u64 tl, .int .u64 ex, .int .u64 se] 52) = V := ⟨_, rfl⟩
            have HX1 : Hid (Blk V1 wr.heap.size #[.int .u64 d.id, .int .u64 tl, .int .u64 ex, .int .u64 se] 52 ∧ Below wx.heap.size wx V1 ∧ wx.heap.size ≤ wr.heap.size) := by rw [← hV1]; exact ⟨Blk.new _ _ _, HW.out.alloc HW.out.size _, HW.out.size⟩
            have x0 : V1.cell? ⟨wr.heap.size, 0, none⟩ = some (.int .u64 d.id) := HX1.out.1.cell 0 rfl
            have N1 := HNJ.out V1 HX1.out.2.1
            rw [hV1]
            obtain ⟨xb, hxb⟩ : ∃ b, wr.heap.size = b := ⟨_, rfl⟩
            rw [hxb] at HX1 x0 ⊢
            clear hV1 t0 t1 t2 t3 HNJ hxb
            go_upto_region 37 with (go_at_call 10; (with_reducible refine N1.mono ?_); clear N1; rintro e w5 ⟨rfl, b5⟩; have HB5 : Hid (Below V1.heap.size V1 w5) := b5; clear b5)
            obtain ⟨V2, hV2⟩ : ∃ V, w5.alloc (.cells #[.int .u64 d.id, .int .u64 d.par, .int .i64 d.org, .int .u64 d.tree, .int .i64 d.dep, .int .i64 d.fr, .int .i64 d.til] 38) = V := ⟨_, rfl⟩
            have HX2 : Hid (Blk V2 xb #[.int .u64 d.id, .int .u64 tl, .int .u64 ex, .int .u64 se] 52 ∧ Blk V2 w5.heap.size #[.int .u64 d.id, .int .u64 d.par, .int .i64 d.org, .int .u64 d.tree, .int .i64 d.dep, .int .i64 d.fr, .int .i64 d.til] 38 ∧ Below wx.heap.size wx V2) := by
              rw [← hV2]
              have e5 := HX1.out.1.below HB5.out HX1.out.1.lt
              exact ⟨e5.below ((Below.refl _ _).alloc (Nat.le_refl _) _) e5.lt, Blk.new _ _ _, (HX1.out.2.1.trans (HB5.out.mono HX1.out.2.1.size)).alloc (by have := HX1.out.2.1.size; have := HB5.out.size; omega) _⟩
            have y0 : V2.cell? ⟨xb, 0, none⟩ = some (.int .u64 d.id) := HX2.out.1.cell 0 rfl
            have y1 : V2.cell? ⟨xb, 1, none⟩ = some (.int .u64 tl) := HX2.out.1.cell 1 rfl
            have y2 : V2.cell? ⟨xb, 2, none⟩ = some (.int .u64 ex) := HX2.out.1.cell 2 rfl
            have y3 : V2.cell? ⟨xb, 3, none⟩ = some (.int .u64 se) := HX2.out.1.cell 3 rfl
            have i0 := HCI.out V2 HX2.out.2.2
            have nb0 : (d.id != d.id) = false := by simp
            have g1 : ¬ ex < se := by omega
            have g2 : ¬ tl < ex := by omega
            have HH3 : Hid (d.tree ∉ S → se = ex) := h3
            rw [hV2]
            obtain ⟨yb, hyb⟩ : ∃ b, w5.heap.size = b := ⟨_, rfl⟩
            rw [hyb] at HX2 ⊢
            clear hV2 hyb x0 HX1 HB5 h1 h2 h3
            go_quiet (fail)
            go_upto_region 41 with fail
            have HPL : Hid (∀ U, Below V2.heap.size V2 U → U.cell? ⟨xb, 2, none⟩ = some (.int .u64 ex) ∧ U.cell? ⟨xb, 3, none⟩ = some (.int .u64 se) ∧ U.cell? ⟨yb, 3, none⟩ = some (.int .u64 d.tree)) := fun U hU => ⟨(HX2.out.1.below hU HX2.out.1.lt).cell 2 rfl, (HX2.out.1.below hU HX2.out.1.lt).cell 3 rfl, (HX2.out.2.1.below hU HX2.out.2.1.lt).cell 3 rfl⟩
            have HSB : Hid (∀ k (hk : k < S.length) U, Below V2.heap.size V2 U → ∃ b, sa = some ⟨b, 0, none⟩ ∧ U.cell? ⟨b, k, none⟩ = some (.int .u64 S[k])) := fun k hk U hU => by
              obtain ⟨b, e, hbl, hc⟩ := HLI.out (fun e => by rw [e] at hk; simp at hk)
              refine ⟨b, e, ?_⟩
              have := hc k hk 0 _ rfl
              rw [Nat.mul_one, Nat.add_zero] at this
              exact ((HX2.out.2.2.trans (hU.mono HX2.out.2.2.size)).cell (p := ⟨b, k, none⟩) hbl).trans this
            have HW2 : Hid (Below wx.heap.size wx V2) := HX2.out.2.2
            clear y0 y1 y2 y3 i0 nb0 g1 g2
            go_loopw [27, 28] (fun z27 z28 wq => ∃ (k : Nat) (pl : Bool), z27 = .bool pl ∧ z28 = .int .i64 k ∧ k ≤ m ∧ Hid (pl = true → d.tree ∉ S.take k) ∧ Hid (Below V2.heap.size V2 wq)) (fun _ z28 _ => m - (intOf z28).toNat)
            case atStart => exact ⟨0, true, rfl, rfl, by omega, fun _ => by simp, below_dr (Below.refl _ _) _⟩
            case round =>
              obtain ⟨k, pl, rfl, rfl, hk, HP, HQ9⟩ := hrel
              by_cases hlk : k < m
              · have hkm : (k : Int) < (m : Int) := by omega
                have hkS : k < S.length := by rw [HSL.out]; exact hlk
                obtain ⟨b, rfl, cb⟩ := HSB.out k hkS wr HQ9.out
                have ct := (HPL.out wr HQ9.out).2.2
                have htk : S.take (k + 1) = S.take k ++ [S[k]] := by rw [List.take_add_one, List.getElem?_eq_getElem hkS]; rfl
                have HN9 : Hid (pl = true → S[k] ≠ d.tree → d.tree ∉ S.take (k + 1)) := fun h1 h2 h3 => by
                  rw [htk, List.mem_append, List.mem_singleton] at h3
                  rcases h3 with h3 | h3
                  · exact HP.out h1 h3
                  · exact h2 h3.symm
                clear htk
                have HFA : Hid (false = true → d.tree ∉ S.take (k + 1)) := fun h => by cases h
                generalize S[k] = sk at *
                cases pl with
                | false =>
                  go_wp2
                  go_quiet (fail)
                  go_wp2
                  go_roundw
                  case rel => exact ⟨k + 1, false, rfl, by go_num, by omega, HFA, below_dr HQ9.out _⟩
                  case measure => (simp [intOf]; omega)
                | true =>
                  by_cases hsk : sk = d.tree
                  · have nb1 : (sk != d.tree) = false := by simp [hsk]
                    go_wp2
                    go_quiet (fail)
                    go_wp2
                    go_roundw
                    case rel => exact ⟨k + 1, false, rfl, by go_num, by omega, HFA, below_dr HQ9.out _⟩
                    case measure => (simp [intOf]; omega)
                  · have nb1 : (sk != d.tree) = true := by simp [hsk]
                    have HTA : Hid (true = true → d.tree ∉ S.take (k + 1)) := fun h => HN9.out h hsk
                    go_wp2
                    go_quiet (fail)
                    go_wp2
                    go_roundw
                    case rel => exact ⟨k + 1, true, rfl, by go_num, by omega, (fun _ => HTA.out trivial), below_dr HQ9.out _⟩
                    case measure => (simp [intOf]; omega)
              · obtain rfl : k = m := by omega
                have hkm : ¬ (k : Int) < (k : Int) := by omega
                have HE1 : Hid (pl = true → se = ex) := fun h => HH3.out (by have := HP.out h; rwa [List.take_of_length_le (by rw [HSL.out]; omega)] at this)
                obtain ⟨z2, z3, _⟩ := HPL.out wr HQ9.out
                have HW9 : Hid (Below wx.heap.size wx wr) := HW2.out.trans (HQ9.out.mono HW2.out.size)
                cases pl with
                | false =>
                  go_wp2
                  go_roundw
                  case rel => exact ⟨j + 1, by go_num, by omega, HW9⟩
                  case measure => (simp [intOf]; omega)
                | true =>
                  have e1 := HE1.out rfl
                  subst e1
                  have nb1 : (se != se) = false := by simp
                  go_wp2
                  go_roundw
                  case rel => exact ⟨j + 1, by go_num, by omega, HW9⟩
                  case measure => (simp [intOf]; omega)
          · obtain rfl : j = i := by omega
            have hjn : ¬ (j : Int) < (j : Int) := by omega
            have HE : Hid (Below w.heap.size w wr) := HB2.out.trans ((HBR.out.trans (HW.out.mono HBR.out.size)).mono HB2.out.size)
            go_wp2
            go_ret
            exact ⟨rfl, HE.out⟩
  · have BO : Hid (∀ W, Below w.heap.size w W → Calls Tryz.prog 7 #[.slice ad n0 cap] W fun e w' => e = .returned (.tuple #[.pointer none, .pointer none, .bool true]) ∧ Below W.heap.size W w') := fun W hb => both_no ad n0 cap XL P W (hX.below hb) hF hS (hT.below hb) h1
    clear hX hF hS hT h1
    go_enter Tryz.func4, Tryz.ntmps4
    go_wp2_with (first
      | (go_at_call 6; (with_reducible refine SH.mono ?_); clear SH; rintro e w1 ⟨rfl, b1⟩; have M1 := BO.out w1 b1; have HB1 : Hid (Below w.heap.size w w1) := b1; clear b1 BO)
      | (go_at_call 7; (with_reducible refine M1.mono ?_); clear M1; rintro e w2 ⟨rfl, b2⟩; have HB2 : Hid (Below w.heap.size w w2) := HB1.out.trans (b2.mono HB1.out.size); clear b2))
    go_ret
    exact ⟨rfl, HB2.out⟩
end Go.Proofs.YtnffedmcblbkoaaGreatDoor
