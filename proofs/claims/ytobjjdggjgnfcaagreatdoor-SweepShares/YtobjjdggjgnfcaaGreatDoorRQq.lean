/-
  Merged: RQ, RR.
-/
import Derived.Test.YtobjjdggjgnfcaaGreatDoorRP
import Derived.Test.YtobjjdggjgnfcaaGreatDoorRAq
import Derived.Test.YtobjjdggjgnfcaaGreatDoorOXq
import Derived.Test.YtobjjdggjgnfcaaGreatDoorQViq
import Derived.Test.YtobjjdggjgnfcaaGreatDoorRIq
import Derived.Test.YtobjjdggjgnfcaaGreatDoorPCq
import Derived.Test.YtobjjdggjgnfcaaGreatDoorPIq
namespace Go.Proofs.YtobjjdggjgnfcaaGreatDoor
open Go Go.RowKit
set_option maxRecDepth 100000

theorem infoIv_parts : ∃ i, Tryz.prog.info? 46 = some i ∧ i.zero = some (.agg #[.int .i64 0, .int .i64 0]) ∧ i.size = 2 ∧ i.bytes = 16 := by
  have h : (Tryz.prog.info? 46).map (fun i => (i.zero, i.size, i.bytes)) = some (some (.agg #[.int .i64 0, .int .i64 0]), 2, 16) := by kernel_rfl
  cases hi : Tryz.prog.info? 46 with
  | none => rw [hi] at h; simp at h
  | some i => rw [hi] at h; simp at h; exact ⟨i, rfl, h.1, h.2.1, h.2.2⟩
theorem wpList_appJ {ops : Array Oper} {rest : List Oper} {o : Oper} {a : Act} {Q : Exit → Act → World → Prop} (wr : World) (hgd : o.guard = none) (s x : Operand)
    (ho : o.op = .call { callee := .builtin .append, args := #[s, x], argTypes := #[101, 101] })
    (base : Nat) (v : Value) (n : Nat) (xs : List Value) (p q : Int) (b : Nat) (hb : b = wr.heap.size) (hv : a.eval s = v) (hown : wr.ownsRow base 46 2 v n xs) (hx : a.eval x = .slice (some ⟨b, 0, none⟩) 1 1) (hn : n ≤ 1000000) (hbase : base ≤ wr.heap.size)
    (h : ∀ va vc w', w'.ownsRow base 46 2 (.slice va (n + 1) vc) (n + 1) (xs ++ [.int .i64 p, .int .i64 q]) → Upd (fun k => v.ownBlock = some k) wr w' → wpList Tryz.prog ops Q rest (a.put o.dst (.slice va (n + 1) vc)) w') : wpList Tryz.prog ops Q (o :: rest) a (wr.alloc (.cells #[.int .i64 p, .int .i64 q] 46)) := by
  subst hb
  obtain ⟨i0, hi0, hz0, hz1, hz2⟩ := infoIv_parts
  have hown' : (wr.alloc (.cells #[.int .i64 p, .int .i64 q] 46)).ownsRow base 46 2 v n xs := ownsRow_upd hown ((Upd.refl (fun _ => False) wr).alloc _) (fun _ _ h => h)
  refine wpList_appW _ hgd s x 101 101 ho base 46 i0 (.agg #[.int .i64 0, .int .i64 0]) 2 16 Tryz.underlying101 hi0 hz0 hz1 hz2 rfl v n _ hv hown' _ 1 [.int .i64 p, .int .i64 q] hx (src_two Tryz.underlying101 (heap_alloc_new wr _) rfl rfl) (by unfold maxLen; omega) (by omega) (by simp; omega) ?_
  intro v1 w1 o1 g1 m1
  obtain ⟨va, vc, rfl⟩ := owns_sliceS o1
  exact h va vc w1 o1 (((Upd.refl _ wr).alloc _).grown g1 (fun k _ e => e))
def AlI (w3 : World) (cs : List (Int × Int)) (i : Nat) (oa : Option Addr) (oc : Nat) (wr : World) : Prop := wr.ownsRow w3.heap.size 46 2 (.slice oa i oc) i ((cs.take i).flatMap iv.ivC) ∧ Below w3.heap.size w3 wr
set_option maxHeartbeats 4000000 in
theorem aloneW_any (f sb : Nat) (X : List Spot) (K : Nat → List Int) (rv : Value) (R : List Int) (Y : List Sp) (C : List Int) (dp : Nat → Nat) (fin : Nat → Nod) (W : World) (hF : ForestAt W f sb X K rv R) (hB : FoB Y C dp fin X K R) (y : Nat) (hy : y < Y.length) {N : Nat} (hN : (N : Int) = 18446744073709551615) (hmu : iv.muV N (memI (kidI fin K y)) ≤ lenI ((fin y).fr, (fin y).til)) (h0 : 0 ≤ iv.muV N (memI (kidI fin K y))) :
    Calls Tryz.prog 17 #[.pointer (some ⟨f, 0, none⟩), .int .u64 (fin y).id] W fun e W' => e = .returned (.int .u64 (lenI ((fin y).fr, (fin y).til) - iv.muV N (memI (kidI fin K y)))) ∧ Below W.heap.size W W' := by
  have hl := hB.fo.len
  have hiy := hB.inn (dp y) y rfl hy
  have ND : Hid (∀ c, c < Y.length → ∀ W1, Below W.heap.size W W1 → Calls Tryz.prog 14 #[.pointer (some ⟨f, 0, none⟩), .int .u64 (fin c).id] W1 fun e w' => e = .returned (.tuple #[ndV (fin c), .bool true]) ∧ Below W1.heap.size W1 w') := fun c hc W1 hb => by
    have e := (hB.fo.each c hc (by omega)).2
    have h := node_at (hF.below hb) c (by omega) (fin c).id (by rw [e])
    rwa [e] at h
  have T := hB.senv y hy
  have KL : Hid (∀ c ∈ knK K y, c < Y.length) := fun c hc => by have := (T.kn y T.xX).2.1 c hc; omega
  have CH : Hid (∀ W1, Below W.heap.size W W1 → Calls Tryz.prog 52 #[.pointer (some ⟨f, 0, none⟩), .int .u64 (fin y).id] W1 fun e w' => ∃ r n, e = .returned (.slice (some ⟨r, 0, none⟩) n n) ∧ Hid ((knK K y).length = n ∧ Blk w' r (fillC .u64 ((knK K y).map (fun c => (fin c).id)) 0) 24) ∧ Below W1.heap.size W1 w') := fun W1 hb => by
    refine (children_at f sb X K rv R fin (knK K) W1 (hF.below hb) T.nd y T.xX (T.kn y T.xX).1 (T.kn y T.xX).2.1).mono ?_
    rintro e w' ⟨r, rfl, h1, _, h2⟩
    exact ⟨r, _, rfl, ⟨rfl, h1⟩, h2⟩
  have hk1 : (knK K y).length ≤ 1000 := (T.kn y T.xX).2.2
  have IN : Hid (∀ c, c < Y.length → In64 ((fin c).fr, (fin c).til)) := fun c hc => by
    have := hB.inn (dp c) c rfl hc
    refine ⟨⟨?_, ?_⟩, ⟨?_, ?_⟩⟩ <;> simp only <;> omega
  have ewr : IntKind.u64.wrap (lenI ((fin y).fr, (fin y).til) - iv.muV N (memI (kidI fin K y))) = lenI ((fin y).fr, (fin y).til) - iv.muV N (memI (kidI fin K y)) := by
    have : lenI ((fin y).fr, (fin y).til) ≤ 4611686018427387904 := by unfold lenI; simp only; split <;> omega
    rw [IntKind.wrap_u64]
    omega
  have LN : Hid (∀ W1, Calls Tryz.prog 53 #[.agg #[.int .i64 (fin y).fr, .int .i64 (fin y).til]] W1 fun e w' => e = .returned (.int .u64 (lenI ((fin y).fr, (fin y).til))) ∧ Below W1.heap.size W1 w') := fun W1 => iv.refLength_any ((fin y).fr, (fin y).til) W1 (IN.out y hy)
  have ME : Hid (∀ ad n ca w1, iv.IvAt w1 ad n (kidI fin K y) → n ≤ 1000 → Calls Tryz.prog 54 #[.slice ad n ca] w1 fun e w' => e = .returned (.int .u64 (iv.muV N (memI (kidI fin K y)))) ∧ Below w1.heap.size w1 w') := fun ad n ca w1 h1 h2 => iv.refMeasV_any hN ad n ca (kidI fin K y) w1 h1 (by omega) (fun i hi => by
    obtain ⟨c, hc, rfl⟩ := List.mem_map.1 hi
    exact IN.out c (KL.out c hc))
  have N1 := ND.out y hy W (Below.refl _ _)
  have HKI : Hid (kidI fin K y = (knK K y).map (fun c => ((fin c).fr, (fin c).til))) := rfl
  clear hF hB hl hiy T IN hmu h0 hN
  generalize lenI ((fin y).fr, (fin y).til) = le at *
  generalize kidI fin K y = cs at *
  generalize iv.muV N (memI cs) = mu at *
  generalize knK K y = kn at *
  unfold ndV at N1
  go_enter Tryz.func17, Tryz.ntmps17
  go_wp2_with (first
    | (go_at_call 14; (with_reducible refine N1.mono ?_); clear N1; rintro e w1 ⟨rfl, hb1⟩; have HB1 : Hid (Below W.heap.size W (w1.alloc (.cells #[.int .u64 (fin y).id, .int .u64 (fin y).par, .int .i64 (fin y).org, .int .u64 (fin y).tree, .int .i64 (fin y).dep, .int .i64 (fin y).fr, .int .i64 (fin y).til] 48))) := hb1.alloc hb1.size _; have HBK : Hid (Blk (w1.alloc (.cells #[.int .u64 (fin y).id, .int .u64 (fin y).par, .int .i64 (fin y).org, .int .u64 (fin y).tree, .int .i64 (fin y).dep, .int .i64 (fin y).fr, .int .i64 (fin y).til] 48)) w1.heap.size #[.int .u64 (fin y).id, .int .u64 (fin y).par, .int .i64 (fin y).org, .int .u64 (fin y).tree, .int .i64 (fin y).dep, .int .i64 (fin y).fr, .int .i64 (fin y).til] 48) := Blk.new _ _ _; have C1 := CH.out _ HB1.out; clear hb1 CH)
    | (go_at_call 52; (with_reducible refine C1.mono ?_); clear C1; rintro e w3 ⟨r, n, rfl, HR, hb3⟩; have HB3 : Hid (Below W.heap.size W w3) := HB1.out.trans (hb3.mono HB1.out.size); have HBK3 : Hid (Blk w3 w1.heap.size #[.int .u64 (fin y).id, .int .u64 (fin y).par, .int .i64 (fin y).org, .int .u64 (fin y).tree, .int .i64 (fin y).dep, .int .i64 (fin y).fr, .int .i64 (fin y).til] 48) := HBK.out.below hb3 HBK.out.lt; clear hb3 HB1 HBK))
  obtain ⟨nb, hnb⟩ : ∃ nb, w1.heap.size = nb := ⟨_, rfl⟩
  rw [hnb] at HBK3 ⊢
  clear hnb
  have hn1 : n ≤ 1000 := by rw [← HR.out.1]; exact hk1
  have HI0 : Hid (AlI w3 cs 0 none 0 w3) := ⟨World.ownsRow_nil _ _ _ _, Below.refl _ _⟩
  go_loopw [8, 9] (fun z8 z9 wr => ∃ (i : Nat) (oa : Option Addr) (oc : Nat), z8 = .slice oa i oc ∧ z9 = .int .i64 i ∧ i ≤ n ∧ Hid (AlI w3 cs i oa oc wr)) (fun _ z9 _ => n - (intOf z9).toNat)
  case atStart => exact ⟨0, none, 0, rfl, rfl, by omega, HI0⟩
  case round =>
    clear HI0
    obtain ⟨i, oa, oc, rfl, rfl, hi, HI⟩ := hrel
    by_cases hlt : i < n
    · have hin : (i : Int) < (n : Int) := by omega
      have hik : i < kn.length := by rw [HR.out.1]; exact hlt
      have hrr := HR.out.2.below HI.out.2 HR.out.2.lt
      have c0 : wr.cell? ⟨r, i, none⟩ = some (.int .u64 (fin kn[i]).id) := hrr.cell i (by simp [fillC, hik])
      have N2 := ND.out kn[i] (KL.out _ (List.getElem_mem hik)) wr (HB3.out.trans (HI.out.2.mono HB3.out.size))
      have HTK : Hid (cs.take (i + 1) = cs.take i ++ [((fin kn[i]).fr, (fin kn[i]).til)]) := by
        have hic : i < cs.length := by rw [HKI.out, List.length_map]; exact hik
        have e : cs[i] = ((fin kn[i]).fr, (fin kn[i]).til) := by simp [HKI.out]
        show _ = _
        rw [List.take_add_one, List.getElem?_eq_getElem hic, e]
        rfl
      unfold ndV at N2
      generalize kn[i] = c at *
      clear hrr
      go_upto_region 8 with (go_at_call 14; (with_reducible refine N2.mono ?_); clear N2; rintro e w5 ⟨rfl, hb5⟩; have HB5 : Hid (Below wr.heap.size wr w5) := hb5; clear hb5)
      obtain ⟨V5, hV5⟩ : ∃ V, w5.alloc (.cells #[.int .u64 (fin c).id, .int .u64 (fin c).par, .int .i64 (fin c).org, .int .u64 (fin c).tree, .int .i64 (fin c).dep, .int .i64 (fin c).fr, .int .i64 (fin c).til] 48) = V := ⟨_, rfl⟩
      have bk : Blk V5 w5.heap.size #[.int .u64 (fin c).id, .int .u64 (fin c).par, .int .i64 (fin c).org, .int .u64 (fin c).tree, .int .i64 (fin c).dep, .int .i64 (fin c).fr, .int .i64 (fin c).til] 48 := by rw [← hV5]; exact Blk.new _ _ _
      have k5 : V5.cell? ⟨w5.heap.size, 5, none⟩ = some (.int .i64 (fin c).fr) := bk.cell 5 rfl
      have k6 : V5.cell? ⟨w5.heap.size, 5 + 1, none⟩ = some (.int .i64 (fin c).til) := bk.cell 6 rfl
      have BV : Hid (Below wr.heap.size wr V5) := by rw [← hV5]; exact HB5.out.alloc HB5.out.size _
      have HOW : Hid (V5.ownsRow w3.heap.size 46 2 (.slice oa i oc) i ((cs.take i).flatMap iv.ivC)) := ownsRow_upd HI.out.1 (Upd.ofBelow (S := fun _ => False) BV.out (fun k h1 h2 => by omega)) (fun _ _ h => h)
      have HSZ : Hid (w3.heap.size ≤ V5.heap.size) := Nat.le_trans HI.out.2.size BV.out.size
      have HNX : Hid (∀ va' vc' w', w'.ownsRow w3.heap.size 46 2 (.slice va' (i + 1) vc') (i + 1) ((cs.take i).flatMap iv.ivC ++ [.int .i64 (fin c).fr, .int .i64 (fin c).til]) → Upd (fun q => (Value.slice oa i oc).ownBlock = some q) V5 w' → AlI w3 cs (i + 1) va' vc' w') := fun va' vc' w' ho hu => by
        have b5 := HI.out.2.trans (BV.out.mono HI.out.2.size)
        refine ⟨?_, b5.trans (hu.below b5.size (fun k hk e => by have := (owns_lt HI.out.1 e).1; omega))⟩
        rw [HTK.out, List.flatMap_append]
        exact ho
      rw [hV5]
      clear hV5 bk HB5 BV HI c0 HTK
      generalize (fin c).fr = cf at *
      generalize (fin c).til = ct at *
      go_wp2_with (at_builtin; (refine wpList_appJ V5 rfl _ _ rfl w3.heap.size (.slice oa i oc) i _ cf ct _ rfl rfl HOW.out rfl (by omega) HSZ.out ?_; intro va9 vc9 w9 o9 u9); have HI9 : Hid (AlI w3 cs (i + 1) va9 vc9 w9) := HNX.out va9 vc9 w9 o9 u9; clear o9 u9 HNX)
      go_roundw
      case rel => exact ⟨i + 1, va9, vc9, rfl, by go_num, by omega, HI9⟩
      case measure => (simp [intOf]; omega)
    · obtain rfl : i = n := by omega
      have bk := HBK3.out.below HI.out.2 HBK3.out.lt
      have k5 : wr.cell? ⟨nb, 5, none⟩ = some (.int .i64 (fin y).fr) := bk.cell 5 rfl
      have k6 : wr.cell? ⟨nb, 5 + 1, none⟩ = some (.int .i64 (fin y).til) := bk.cell 6 rfl
      have hcl : cs.length = i := by rw [HKI.out, List.length_map]; exact HR.out.1
      have hown : iv.OwnI w3.heap.size wr (.slice oa i oc) cs := by
        have h := HI.out.1
        rw [List.take_of_length_le (by omega)] at h
        unfold iv.OwnI
        rw [hcl]
        exact h
      have HIV : Hid (∀ V, Below wr.heap.size wr V → iv.IvAt V oa i cs) := fun V hb => hown.at.below hb
      have L1 := LN.out wr
      have HBE : Hid (Below W.heap.size W wr) := HB3.out.trans (HI.out.2.mono HB3.out.size)
      clear bk HI HBK3 HR LN hown hcl ND KL HB3 HKI
      go_wp2_with (first
        | (go_at_call 53; (with_reducible refine L1.mono ?_); clear L1; rintro e w6 ⟨rfl, hb6⟩; have M1 := ME.out oa i oc w6 (HIV.out w6 hb6) hn1; have HB6 : Hid (Below W.heap.size W w6) := HBE.out.trans (hb6.mono HBE.out.size); clear hb6 ME HIV)
        | (go_at_call 54; (with_reducible refine M1.mono ?_); clear M1; rintro e w7 ⟨rfl, hb7⟩; have HB7 : Hid (Below W.heap.size W w7) := HB6.out.trans (hb7.mono HB6.out.size); clear hb7))
      go_ret
      exact ⟨rfl, HB7.out⟩
end Go.Proofs.YtobjjdggjgnfcaaGreatDoor

namespace Go.Proofs.YtobjjdggjgnfcaaGreatDoor
open Go Go.RowKit
set_option maxRecDepth 100000

set_option maxHeartbeats 4000000 in
theorem ofW_any (f sb : Nat) (X : List Spot) (K : Nat → List Int) (rv : Value) (R : List Int) (Y : List Sp) (C : List Int) (dp : Nat → Nat) (fin : Nat → Nod) (W : World) (hF : ForestAt W f sb X K rv R) (hB : FoB Y C dp fin X K R) (L : List (Nat × Int × Int)) (zs : List Nat) (hz : ∀ y ∈ zs, y < Y.length) (ad : Option Addr) (n cap : Nat) (hn : zs.length = n) (hn1 : n ≤ 1000) (hA : LieIn (shC fin L) 2 W ad zs) (s : List UInt8) :
    Calls Tryz.prog 18 #[.pointer (some ⟨f, 0, none⟩), .slice ad n cap, .string ⟨s.toArray⟩] W fun e W' => e = .returned (.int .u64 (valS (spAt Y) (hungI L) zs s)) ∧ Below W.heap.size W W' := by
  have hl := hB.fo.len
  have SP : Hid (∀ W1, Below W.heap.size W W1 → ∀ y, y < Y.length → Calls Tryz.prog 55 #[.pointer (some ⟨f, 0, none⟩), .int .u64 (fin y).id] W1 fun e w' => ∃ p', e = .returned (.tuple #[spV (spAt Y y) p', .bool true]) ∧ Below W1.heap.size W1 w') := fun W1 hb y hy => by
    have e := hB.fo.each y hy (by omega)
    have e2 : spAt Y y = Y[y] := by simp [spAt, List.getD, hy]
    rw [e2, ← e.1]
    refine (span_at (hF.below hb) y (by omega) (fin y).id (by rw [e.2])).mono ?_
    rintro e w' ⟨p', rfl, _, hb'⟩
    exact ⟨p', rfl, hb'⟩
  have HA : Hid (LieIn (shC fin L) 2 W ad zs ∧ zs.length = n ∧ ∀ y ∈ zs, y < Y.length) := ⟨hA, hn, hz⟩
  obtain ⟨sB, hsB⟩ : ∃ b : ByteArray, (⟨s.toArray⟩ : ByteArray) = b := ⟨_, rfl⟩
  have HSB : Hid ((⟨s.toArray⟩ : ByteArray) = sB) := hsB
  rw [hsB]
  clear hF hB hl hA hn hz hsB
  go_enter Tryz.func18, Tryz.ntmps18
  go_wp2
  go_loopw [7, 8] (fun z7 z8 wr => ∃ i : Nat, z7 = .int .u64 (valS (spAt Y) (hungI L) (zs.take i) s) ∧ z8 = .int .i64 i ∧ i ≤ n ∧ Hid (Below W.heap.size W wr)) (fun _ z8 _ => n - (intOf z8).toNat)
  case atStart => exact ⟨0, rfl, rfl, by omega, Below.refl _ _⟩
  case round =>
    obtain ⟨i, rfl, rfl, hi, HB⟩ := hrel
    by_cases hlt : i < n
    · have hin : (i : Int) < (n : Int) := by omega
      have hiz : i < zs.length := by rw [HA.out.2.1]; exact hlt
      obtain ⟨gb, e, hgb, hc⟩ := (HA.out.1.below HB.out) (fun e => by rw [e] at hiz; simp at hiz)
      subst e
      have c0 : wr.cell? ⟨gb, i * 2, none⟩ = some (.int .u64 (fin zs[i]).id) := hc i hiz 0 _ rfl
      have HC1 : Hid (∀ V, Below wr.heap.size wr V → V.cell? ⟨gb, i * 2 + 1, none⟩ = some (.int .u64 (hungI L zs[i]))) := fun V hV => (hV.cell (p := ⟨gb, i * 2 + 1, none⟩) hgb).trans (hc i hiz 1 _ rfl)
      have SP1 := SP.out wr HB.out zs[i] (HA.out.2.2 _ (List.getElem_mem hiz))
      have HVS : Hid (valS (spAt Y) (hungI L) (zs.take (i + 1)) s = if svB (spAt Y zs[i]) = s then IntKind.u64.wrap (valS (spAt Y) (hungI L) (zs.take i) s + hungI L zs[i]) else valS (spAt Y) (hungI L) (zs.take i) s) := by
        have e : zs.take (i + 1) = zs.take i ++ [zs[i]] := by rw [List.take_add_one, List.getElem?_eq_getElem hiz]; rfl
        show _ = _
        rw [e, valS_app]
      have eq1 := same_str (svB (spAt Y zs[i])) s
      have esv : (⟨(svB (spAt Y zs[i])).toArray⟩ : ByteArray) = (spAt Y zs[i]).svc := by unfold svB; simp
      rw [esv, HSB.out] at eq1
      obtain ⟨v2, hv2⟩ : ∃ v2, valS (spAt Y) (hungI L) (zs.take (i + 1)) s = v2 := ⟨_, rfl⟩
      have HV2 : Hid (valS (spAt Y) (hungI L) (zs.take (i + 1)) s = v2) := hv2
      rw [hv2] at HVS
      clear hv2 hc esv
      generalize valS (spAt Y) (hungI L) (zs.take i) s = v1 at *
      generalize zs[i] = y at *
      generalize (fin y).id = id at *
      generalize hungI L y = hv at *
      generalize svB (spAt Y y) = sb' at *
      generalize spAt Y y = a at *
      unfold spV spC at SP1
      go_upto_region 6 with (go_at_call 55; refine SP1.mono ?_; clear SP1; rintro e w5 ⟨⟨pla, plc, paa, pac, pea, pec⟩, rfl, hb5⟩; have HB5 : Hid (Below wr.heap.size wr w5) := hb5; clear hb5 c0)
      obtain ⟨V5, hV5⟩ : ∃ V, w5.alloc (.cells #[.int .u64 a.hi, .int .u64 a.lo, .int .u64 a.id, .int .u64 a.par, .slice pla a.links.length plc, .string a.svc, .string a.op, .int .i64 a.kind, .int .i64 a.status, .int .i64 a.start, .int .i64 a.fin, .slice paa a.attrs.length pac, .slice pea a.events.length pec] 112) = V := ⟨_, rfl⟩
      have m5 : V5.cell? ⟨w5.heap.size, 5, none⟩ = some (.string a.svc) := by rw [← hV5]; exact (Blk.new w5 #[.int .u64 a.hi, .int .u64 a.lo, .int .u64 a.id, .int .u64 a.par, .slice pla a.links.length plc, .string a.svc, .string a.op, .int .i64 a.kind, .int .i64 a.status, .int .i64 a.start, .int .i64 a.fin, .slice paa a.attrs.length pac, .slice pea a.events.length pec] 112).cell 5 rfl
      have BV : Hid (Below wr.heap.size wr V5) := by rw [← hV5]; exact HB5.out.alloc HB5.out.size _
      have c1 := HC1.out V5 BV.out
      have HBV : Hid (Below W.heap.size W V5) := HB.out.trans (BV.out.mono HB.out.size)
      rw [hV5]
      clear hV5 HB5 HC1 HB BV
      by_cases hs : sb' = s
      · rw [decide_eq_true hs] at eq1
        have e2 : IntKind.u64.wrap (v1 + hv) = v2 := by rw [HVS.out, if_pos hs]
        clear HVS hs
        go_wp2
        go_roundw
        case rel => exact ⟨i + 1, by rw [HV2.out], by go_num, by omega, HBV⟩
        case measure => (simp [intOf]; omega)
      · rw [decide_eq_false hs] at eq1
        have e2 : v2 = v1 := by rw [HVS.out, if_neg hs]
        clear HVS hs
        subst e2
        go_wp2
        go_roundw
        case rel => exact ⟨i + 1, by rw [HV2.out], by go_num, by omega, HBV⟩
        case measure => (simp [intOf]; omega)
    · obtain rfl : i = n := by omega
      have ht : zs.take i = zs := List.take_of_length_le (by rw [HA.out.2.1]; exact Nat.le_refl _)
      rw [ht]
      go_wp2
      go_ret
      exact ⟨rfl, HB.out⟩
end Go.Proofs.YtobjjdggjgnfcaaGreatDoor
