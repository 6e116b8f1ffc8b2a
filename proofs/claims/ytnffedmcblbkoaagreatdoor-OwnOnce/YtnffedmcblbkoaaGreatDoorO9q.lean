/-
  Merged: O9, Omt.
-/
import Derived.Test.YtnffedmcblbkoaaGreatDoorO1q
import Derived.Test.YtnffedmcblbkoaaGreatDoorRAq
import Derived.Test.YtnffedmcblbkoaaGreatDoorPCq
import Derived.Test.YtnffedmcblbkoaaGreatDoorQAq
import Derived.Test.YtnffedmcblbkoaaGreatDoorO5
import Derived.Maps.RangeWalk
import Derived.Test.YtnffedmcblbkoaaGreatDoorO7q
namespace Go.Proofs.YtnffedmcblbkoaaGreatDoor
open Go Go.RowKit Go.Maps
set_option maxRecDepth 100000
theorem rangesV_upd {S : Nat → Prop} {w w' : World} {k : TypeId} {R : Value → Option (DataW Value × List MemPlace)} {b r n : Nat} {D : DataW Value} {left : Lit → Bool} {cnt : Nat} (h : w.ranges Tryz.prog k R b r n D left cnt) (hu : Upd S w w') (hb' : ¬ S b) (hr' : ¬ S r) : w'.ranges Tryz.prog k R b r n D left cnt := by
 obtain ⟨es, clock, since, seen, c0, hb, hF, hs, hD, hr, rest⟩ := h
 exact ⟨es, clock, since, seen, c0, (hu.block b (lt_of_block hb) hb').trans hb, hF, hs, hD, (hu.block r (lt_of_block hr) hr').trans hr, rest⟩
theorem same_ikey (a b : Int) : (ikey a).sameKey (ikey b) = decide (a = b) := by
 unfold ikey Lit.sameKey
 by_cases h : a = b <;> simp [h]
structure OsI (n : Nat) (fin : Nat → Nod) (A : Nat → Sp) (h : Nat → Int) (bm r b m : Nat) (D : DataW Value) (w3 : World) (left : Lit → Bool) (cnt : Nat) (vis : List Nat) (wr : World) : Prop where
 rg : wr.ranges Tryz.prog 33 valR bm r m D left cnt
 sub : ∀ kl, left kl = true → Maps.has D kl = true
 nd : vis.Nodup
 lt : ∀ y ∈ vis, y < n
 iff : ∀ y, y < n → (y ∈ vis ↔ Maps.has D (ikey (fin y).id) = true ∧ left (ikey (fin y).id) = false)
 map : NmH wr b A h vis
 upd : Upd (fun q => q = b ∨ q = r) w3 wr
theorem OsI.add {n : Nat} {fin : Nat → Nod} {A : Nat → Sp} {h : Nat → Int} {bm r b m : Nat} {D : DataW Value} {w3 : World} {left : Lit → Bool} {cnt : Nat} {vis : List Nat} {wr w1 w5 w9 : World} (H : OsI n fin A h bm r b m D w3 left cnt vis wr) (inj : ∀ y z, y < n → z < n → (fin y).id = (fin z).id → y = z) {y : Nat} (hy : y < n) (hl : left (ikey (fin y).id) = true) {cnt1 : Nat} (hrg : w1.ranges Tryz.prog 33 valR bm r m D (fun z => left z && !z.sameKey (ikey (fin y).id)) cnt1) (h1 : Upd (fun q => q = r) wr w1) (h5 : Below w1.heap.size w1 w5) (h9 : Upd (fun q => q = b) w5 w9) (hm : NmH w9 b A h (vis ++ [y])) (nb : bm ≠ b ∧ r ≠ b) : OsI n fin A h bm r b m D w3 (fun z => left z && !z.sameKey (ikey (fin y).id)) cnt1 (vis ++ [y]) w9 := by
 have hny : y ∉ vis := fun h => by
  have := ((H.iff y hy).1 h).2
  rw [hl] at this
  cases this
 have u5 := Upd.ofBelow (S := fun _ => False) h5 (fun k h1 h2 => by omega)
 refine ⟨rangesV_upd (rangesV_upd hrg u5 (fun h => h) (fun h => h)) h9 nb.1 nb.2, fun kl hk => H.sub kl (by rw [Bool.and_eq_true] at hk; exact hk.1), ?_, fun z hz => ?_, fun z hz => ?_, hm, ((H.upd.trans h1 (fun _ _ e => Or.inr e)).trans u5 (fun _ _ e => e.elim)).trans h9 (fun _ _ e => Or.inl e)⟩
 ·rw [List.nodup_append]
  refine ⟨H.nd, by simp, fun a ha b hb e => ?_⟩
  rw [List.mem_singleton.1 hb] at e
  exact hny (e ▸ ha)
 ·rcases List.mem_append.1 hz with hz | hz
  ·exact H.lt z hz
  ·rw [List.mem_singleton.1 hz]; exact hy
 ·rw [List.mem_append, List.mem_singleton, H.iff z hz]
  by_cases e : z = y
  ·subst e
   simp [H.sub _ hl, same_ikey]
  ·have e2 : ¬ (fin z).id = (fin y).id := fun q => e (inj z y hz hy q)
   simp [same_ikey, e2, e]
def SvcO (Y : List Sp) (fin : Nat → Nod) (K : Nat → List Int) (dp : Nat → Nat) (x : Nat) (W : World) (e : Ending) (W' : World) : Prop := ∃ ad n cap zs l, e = .returned (.tuple #[.slice ad n cap, .int .i64 0]) ∧ Hid (l.length = n ∧ n ≤ 1000 ∧ SvL (spAt Y) zs l ∧ LieIn (svC (spAt Y) (sumH (legsX fin K dp x)) zs) 2 W' ad l ∧ zs.Nodup ∧ (∀ y ∈ zs, y < Y.length) ∧ (∀ y, y < Y.length → (y ∈ zs ↔ ∃ s ∈ legsX fin K dp x, s.1 = y)) ∧ ∀ g, ad = some ⟨g, 0, none⟩ → W.heap.size ≤ g) ∧ Below W.heap.size W W'
def OwI (w8 : World) (A : Nat → Sp) (h : Nat → Int) (zs : List Nat) (l : List (List UInt8)) (j : Nat) (va : Option Addr) (vc : Nat) (wr : World) : Prop := wr.ownsRow w8.heap.size 54 2 (.slice va j vc) j ((l.take j).flatMap (svC A h zs)) ∧ Below w8.heap.size w8 wr
set_option maxHeartbeats 16000000 in
theorem servicesO_any (f sb : Nat) (X : List Spot) (K : Nat → List Int) (rv : Value) (R : List Int) (Y : List Sp) (C : List Int) (dp : Nat → Nat) (fin : Nat → Nod) (W : World) (hF : ForestAt W f sb X K rv R) (hB : FoB Y C dp fin X K R) (x : Nat) (hx : x < Y.length) (ho : (fin x).org ≠ 0) :
  Calls Tryz.prog 12 #[.pointer (some ⟨f, 0, none⟩), .int .u64 (fin x).id] W (SvcO Y fin K dp x W) := by
 have hl := hB.fo.len
 have each := (hB.fo.each x hx (by omega)).2
 have LA := lacks_any f sb X K rv R W hF x (by omega) (fin x) each ho
 have SE : Hid (∀ W1 t, W1.heap.size = t → Below W.heap.size W W1 → Calls Tryz.prog 32 #[.pointer (some ⟨f, 0, none⟩), .int .u64 (fin x).id] W1 fun e W' => e = .returned (.map (some t)) ∧ IdM W' t (sumD fin (legsX fin K dp x)) 2000 (fun i => ∃ l ∈ legsX fin K dp x, (fin l.1).id = i) ∧ Below t W1 W') := fun W1 t ht hb => by
  subst ht
  exact selves_any f sb X K rv R Y C dp fin W1 (hF.below hb) hB x hx
 have SP : Hid (∀ W1, Below W.heap.size W W1 → ∀ y, y < Y.length → Calls Tryz.prog 40 #[.pointer (some ⟨f, 0, none⟩), .int .u64 (fin y).id] W1 fun e w' => ∃ p', e = .returned (.tuple #[spV (spAt Y y) p', .bool true]) ∧ Below W1.heap.size W1 w') := fun W1 hb y hy => by
  have e := hB.fo.each y hy (by omega)
  have e2 : spAt Y y = Y[y] := by simp [spAt, List.getD, hy]
  rw [e2, ← e.1]
  refine (span_at (hF.below hb) y (by omega) (fin y).id (by rw [e.2])).mono ?_
  rintro e w' ⟨p', rfl, _, hb'⟩
  exact ⟨p', rfl, hb'⟩
 have HLG : Hid (∀ l ∈ legsX fin K dp x, l.1 < Y.length) := fun l hl => by
  obtain ⟨_, _, _, n4⟩ := hB.legsO hx
  exact (n4 l hl).1
 have HSD : Hid (∀ y, y < Y.length → sumD fin (legsX fin K dp x) (fin y).id = sumH (legsX fin K dp x) y) := fun y hy => hB.sumDX hx hy
 have HIN : Hid (∀ y z, y < Y.length → z < Y.length → (fin y).id = (fin z).id → y = z) := fun y z h1 h2 e => hB.inj h1 h2 e
 have HD : Hid (∀ y, y < Y.length → (svB (spAt Y y)).length ≤ 1000000) := fun y hy => hB.svc hy
 have hn1 : Y.length ≤ 1000 := hB.one.len
 have HU : Hid (∀ y, y < Y.length → u64J (fin y).id) := fun y hy => (hB.u64 y hy).1
 have HE : Hid (∀ ad m cap zs l w', l.length = m ∧ m ≤ 1000 ∧ SvL (spAt Y) zs l ∧ LieIn (svC (spAt Y) (sumH (legsX fin K dp x)) zs) 2 w' ad l ∧ zs.Nodup ∧ (∀ y ∈ zs, y < Y.length) ∧ (∀ y, y < Y.length → (y ∈ zs ↔ ∃ s ∈ legsX fin K dp x, s.1 = y)) ∧ (∀ g, ad = some ⟨g, 0, none⟩ → W.heap.size ≤ g) → Below W.heap.size W w' → SvcO Y fin K dp x W (.returned (.tuple #[.slice ad m cap, .int .i64 0])) w') := fun ad m cap zs l w' h1 h2 => ⟨ad, m, cap, zs, l, rfl, h1, h2⟩
 generalize SvcO Y fin K dp x W = POST at *
 clear hF hB hx ho each hl
 generalize spAt Y = A at *
 generalize Y.length = n at *
 generalize legsX fin K dp x = N at *
 have hmm := @run_makeMap Tryz.prog
 go_enter Tryz.func12, Tryz.ntmps12
 go_wp2_with (first
  | (go_at_call 37; (with_reducible refine LA.mono ?_); clear LA; rintro e w1 ⟨rfl, hb1⟩; have HB1 : Hid (Below W.heap.size W w1) := hb1; have HM1 : Hid (NmH (w1.alloc (.map #[] 0)) w1.heap.size A (sumH N) []) := NmH.made w1 A (sumH N); have SE1 := SE.out (w1.alloc (.map #[] 0)) (w1.heap.size + 1) (by simp) (hb1.alloc hb1.size _); clear hb1 SE)
  | (go_at_call 32; (with_reducible refine SE1.mono ?_); clear SE1; rintro e w3 ⟨rfl, hid, hb3⟩; obtain ⟨D, d1, d2, d3, d4⟩ := hid; have HB3 : Hid (Below w1.heap.size w1 w3 ∧ NmH w3 w1.heap.size A (sumH N) [] ∧ w1.heap.size < w3.heap.size) := ⟨((Below.refl w1.heap.size w1).alloc (Nat.le_refl _) _).trans (hb3.mono (Nat.le_succ _)), HM1.out.upd (Upd.ofBelow (S := fun k => w1.heap.size + 1 ≤ k) hb3 (fun k h1 h2 => h2)) (by omega), Nat.lt_of_lt_of_le (by simp) hb3.size⟩; have HDD : Hid ((∀ i, Maps.has D (ikey i) = true ↔ ∃ l ∈ N, (fin l.1).id = i) ∧ ∀ i, D.atKey (ikey i) (.held (.int .u64 0)) = .held (.int .u64 (sumD fin N i))) := ⟨d3, d4⟩; clear hb3 d3 d4 HM1)
  | (at_range; refine wpList_range_own _ rfl _ 82 rfl 33 32 lawD Tryz.underlying82 valR (w1.heap.size + 1) (Maps.size D) D rfl d1 ?_; intro w0 hrg0 hg0 hs0)
  | go_in)
 go_frame
 obtain ⟨b, hbb⟩ : ∃ b, w1.heap.size = b := ⟨_, rfl⟩
 obtain ⟨r, hrr⟩ : ∃ r, w3.heap.size = r := ⟨_, rfl⟩
 have HBR : Hid (w1.heap.size = b ∧ w3.heap.size = r ∧ b + 1 ≠ b ∧ r ≠ b) := ⟨hbb, hrr, by omega, by have := HB3.out.2.2; omega⟩
 have u0 : Upd (fun _ => False) w3 w0 := (Upd.refl (fun _ => False) w3).grown hg0 (fun _ _ e => (by cases e))
 rw [hbb, hrr] at hrg0
 have HI0 : Hid (OsI n fin A (sumH N) (b + 1) r b (Maps.size D) D w3 (Maps.has D) (Maps.size D) [] w0) := ⟨hrg0, fun kl h => h, List.Pairwise.nil, fun y hy => by simp at hy, fun y hy => ⟨fun h => by simp at h, fun h => by rw [h.1] at h; cases h.2⟩, by rw [← hbb]; exact HB3.out.2.1.upd u0 (fun h => h), (Upd.refl (fun q => q = b ∨ q = r) w3).trans u0 (fun _ _ e => e.elim)⟩
 rw [hbb, hrr]
 clear hrg0 hg0 hs0 u0 hmm hbb hrr d1
 go_loopw [8] (fun _ wr => ∃ (left : Lit → Bool) (cnt : Nat) (vis : List Nat), Hid (OsI n fin A (sumH N) (b + 1) r b (Maps.size D) D w3 left cnt vis wr)) (fun _ wr => wr.rangeLeft (b + 1) r)
 case atStart => exact ⟨_, _, _, HI0⟩
 case round =>
  clear HI0
  obtain ⟨left, cnt, vis, HI⟩ := hrel
  have hrg := HI.out.rg
  go_wp2_with (first
   | (at_next; refine wpList_next_ranges _ rfl _ rfl 33 lawD valR (Value.int .u64) (fun v => v) (fun key kl hk => by obtain ⟨x, rfl, _⟩ := Maps.keyOf_int_inv Tryz.underlying33 hk; exact ⟨x, rfl⟩) (fun v y hv => ⟨v, rfl⟩) (b + 1) r (Maps.size D) D left cnt rfl hrg ?_ ?_)
   | go_in)
  ·intro _ hl0
   have HIF : Hid (∀ y, y < n → (y ∈ vis ↔ ∃ s ∈ N, s.1 = y)) := fun y hy => by
    rw [HI.out.iff y hy, HDD.out.1]
    refine ⟨fun h => ?_, fun ⟨s, h1, h2⟩ => ⟨⟨s, h1, by rw [h2]⟩, hl0 _⟩⟩
    obtain ⟨⟨s, h1, h2⟩, _⟩ := h
    exact ⟨s, h1, HIN.out _ _ (HLG.out s h1) hy h2⟩
   have hzl : vis.length ≤ 1000 := by
    have := sub_len _ (List.range n) HI.out.nd (fun c hc => List.mem_range.2 (HI.out.lt c hc))
    rw [List.length_range] at this
    omega
   have HMP : Hid (NmH wr b A (sumH N) vis ∧ Below W.heap.size W wr ∧ vis.Nodup ∧ ∀ y ∈ vis, y < n) := ⟨HI.out.map, (HB1.out.trans (HB3.out.1.mono HB1.out.size)).trans (HI.out.upd.below (Nat.le_trans HB1.out.size HB3.out.1.size) (fun k hk e => by have := HBR.out; have := HB1.out.size; have := HB3.out.1.size; omega)), HI.out.nd, HI.out.lt⟩
   obtain ⟨D0, ho, hh, hsz, _⟩ := HMP.out.1
   have SO := sortedU_any b (Maps.size D0) D0 wr ho (by unfold maxLen; omega) (by omega)
   have HSV : Hid (∀ ss : List (List UInt8), ss.Perm (strKeys D0) → SvL A vis (ss.mergeSort (fun x y => decide (x ≤ y)))) := fun ss hp => names_svl ho hh hp
   clear ho hh hsz HI hrg hl0
   go_wp2_with (first
    | (go_at_call 42; refine (keysU_any (some b) wr).mono ?_; rintro e w6 ⟨rfl, hw6⟩; subst hw6)
    | (go_at_call 41; refine SO.mono ?_; clear SO; rintro e w8 ⟨v8, ss, rfl, hp8, ho8, -, hb8⟩; obtain ⟨na, nc, rfl⟩ := owns_sliceS ho8; have HSS := HSV.out ss hp8; have HR8 : Hid (w8.ownsRow (wr.alloc (.cells #[.map (some b)] 109)).heap.size 9 1 (.slice na ss.length nc) ss.length ((ss.mergeSort (fun x y => decide (x ≤ y))).map encStr)) := ho8; have HB8 : Hid (Below wr.heap.size wr w8) := ((Below.refl wr.heap.size wr).alloc (Nat.le_refl _) _).trans (hb8.mono (by simp)); clear ho8 hb8 hp8 HSV))
   have hsl : (ss.mergeSort (fun x y => decide (x ≤ y))).length = ss.length := List.length_mergeSort ss
   obtain ⟨l, hll⟩ : ∃ l, ss.mergeSort (fun x y => decide (x ≤ y)) = l := ⟨_, rfl⟩
   rw [hll] at HSS HR8 hsl
   obtain ⟨m, hm⟩ : ∃ m, ss.length = m := ⟨_, rfl⟩
   rw [hm] at hsl HR8 ⊢
   clear hll hm
   have hm1 : m ≤ 1000 := by have := HSS.len; omega
   have HSVL : Hid (SvL A vis l) := HSS
   have HNM : Hid (∀ V, Below w8.heap.size w8 V → NmH V b A (sumH N) vis) := fun V hV => HMP.out.1.upd (Upd.ofBelow (S := fun _ => False) (HB8.out.trans (hV.mono HB8.out.size)) (fun k h1 h2 => by omega)) (fun h => h)
   have HBW : Hid (Below W.heap.size W w8) := HMP.out.2.1.trans (HB8.out.mono HMP.out.2.1.size)
   have HLI : Hid (LieIn (fun s : List UInt8 => [encStr s]) 1 w8 na l) := LieIn.of_owns (f := fun s : List UInt8 => [encStr s]) (fun _ => rfl) (by rw [enc_flat]; exact HR8.out) hsl
   have HEN : Hid (∀ va vc w', w'.ownsRow w8.heap.size 54 2 (.slice va m vc) m (l.flatMap (svC A (sumH N) vis)) → Below w8.heap.size w8 w' → POST (.returned (.tuple #[.slice va m vc, .int .i64 0])) w') := fun va vc w' h1 h2 => by
    have hl := LieIn.of_owns (f := svC A (sumH N) vis) (fun _ => rfl) h1 hsl
    exact HE.out va m vc vis l w' ⟨hsl, hm1, HSVL.out, hl, HMP.out.2.2.1, HMP.out.2.2.2, HIF.out, fun g hg => by subst hg; exact Nat.le_trans HBW.out.size (owns_lt h1 (g := g) rfl).1⟩ (HBW.out.trans (h2.mono HBW.out.size))
   have HJ0 : Hid (OwI w8 A (sumH N) vis l 0 none 0 w8) := ⟨World.ownsRow_nil _ _ _ _, Below.refl _ _⟩
   have HLN : Hid (l.length = m) := hsl
   have HSM : Hid (∀ s ∈ l, s.length ≤ 1000000) := fun s hs => by
    obtain ⟨y, h1, h2⟩ := (HSS.mem s).1 hs
    rw [← h2]
    exact HD.out y (HMP.out.2.2.2 y h1)
   clear HSS hsl HMP HB8 HR8 HB1 HB3 HD HE HBW HSVL HBR HIF hzl HDD HIN HLG HSD SP HU
   generalize sumH N = hF at *
   go_loopw [12, 47] (fun z10 z55 wq => ∃ (j : Nat) (va : Option Addr) (vc : Nat), z10 = .slice va j vc ∧ z55 = .int .i64 j ∧ j ≤ m ∧ Hid (OwI w8 A hF vis l j va vc wq)) (fun _ z55 _ => m - (intOf z55).toNat)
   case atStart => exact ⟨0, none, 0, rfl, rfl, by omega, HJ0⟩
   case round =>
    clear HJ0
    obtain ⟨j, va, vc, rfl, rfl, hj, HJ⟩ := hrel
    by_cases hjm : j < m
    ·have hjn : (j : Int) < (m : Int) := by omega
     have hjl : j < l.length := by rw [HLN.out]; exact hjm
     obtain ⟨nb, e, _, hc⟩ := (HLI.out.below HJ.out.2) (fun e => by rw [e] at hjl; simp at hjl)
     subst e
     have c0 : wr.cell? ⟨nb, j, none⟩ = some (.string ⟨l[j].toArray⟩) := by
      have := hc j hjl 0 (encStr l[j]) rfl
      simpa [encStr] using this
     have LK := (HNM.out wr HJ.out.2).ask l[j] (HSM.out _ (List.getElem_mem hjl))
     unfold strV at LK
     have HNX : Hid (∀ va' vc' w', w'.ownsRow w8.heap.size 54 2 (.slice va' (j + 1) vc') (j + 1) ((l.take j).flatMap (svC A hF vis) ++ [.string ⟨l[j].toArray⟩, .int .u64 (valS A hF vis l[j])]) → Upd (fun q => (Value.slice va j vc).ownBlock = some q) wr w' → OwI w8 A hF vis l (j + 1) va' vc' w') := fun va' vc' w' ho hu => by
      refine ⟨?_, HJ.out.2.trans (hu.below HJ.out.2.size (fun k hk e => by have := (owns_lt HJ.out.1 e).1; omega))⟩
      have e : l.take (j + 1) = l.take j ++ [l[j]] := by rw [List.take_add_one, List.getElem?_eq_getElem hjl]; rfl
      rw [e, List.flatMap_append]
      have e1 : [l[j]].flatMap (svC A hF vis) = [.string ⟨l[j].toArray⟩, .int .u64 (valS A hF vis l[j])] := by rw [List.flatMap_cons, List.flatMap_nil, List.append_nil]; rfl
      rw [e1]
      exact ho
     clear hc
     generalize l[j] = s at *
     generalize valS A hF vis s = v at *
     go_wp2_with (at_builtin; (refine wpList_appV wr rfl _ _ rfl w8.heap.size (.slice va j vc) j _ ⟨s.toArray⟩ v _ rfl rfl HJ.out.1 rfl (by omega) HJ.out.2.size ?_; intro va9 vc9 w9 o9 u9); have HI9 : Hid (OwI w8 A hF vis l (j + 1) va9 vc9 w9) := HNX.out va9 vc9 w9 o9 u9; clear o9 u9 HNX)
     go_roundw
     case rel => exact ⟨j + 1, va9, vc9, rfl, by go_num, by omega, HI9⟩
     case measure => (simp [intOf]; omega)
    ·obtain rfl : j = m := by omega
     have HX : Hid (POST (.returned (.tuple #[.slice va j vc, .int .i64 0])) wr) := HEN.out va vc wr (by have h := HJ.out.1; rwa [List.take_of_length_le (by rw [HLN.out]; exact Nat.le_refl _)] at h) HJ.out.2
     clear HJ HEN
     go_wp2
     exact HX.out
  ·intro i cc kl y1 y2 w4 cnt1 hkey hlk hv hat hrg1 hlt1 hgr1 hsz1 hen
   obtain ⟨i', ex, ey, _⟩ := Maps.keyOf_int_inv Tryz.underlying33 hkey
   obtain rfl : i = i' := by simpa using ex
   obtain rfl : kl = ikey i := ey
   obtain ⟨sl, hs1, rfl⟩ := (HDD.out.1 i).1 (HI.out.sub _ hlk)
   obtain ⟨y, hyy⟩ : ∃ y, sl.1 = y := ⟨_, rfl⟩
   have hy : y < n := by rw [← hyy]; exact HLG.out sl hs1
   rw [hyy] at hkey hlk hrg1 hat hen ⊢
   have hcc : cc = .int .u64 (sumH N y) := by
    have h1 := hat (.held (.int .u64 0))
    rw [HDD.out.2, HSD.out y hy] at h1
    unfold valR at hv
    simp only [Option.some.injEq, Prod.mk.injEq] at hv
    rw [← h1] at hv
    have := hv.1
    simpa using this
   subst hcc
   have u1 : Upd (fun k => k = r) wr w4 := (Upd.refl _ _).grown hgr1 (fun _ _ e => (Option.some.inj e).symm)
   have HU1 : Hid (Upd (fun k => k = r) wr w4) := u1
   have HRG1 : Hid (w4.ranges Tryz.prog 33 valR (b + 1) r (Maps.size D) D (fun z => left z && !z.sameKey (ikey (fin y).id)) cnt1 ∧ left (ikey (fin y).id) = true ∧ cnt1 < cnt) := ⟨hrg1, hlk, hlt1⟩
   have HBR4 : Hid (Below W.heap.size W w4) := ((HB1.out.trans (HB3.out.1.mono HB1.out.size)).trans (HI.out.upd.below (Nat.le_trans HB1.out.size HB3.out.1.size) (fun k hk e => by have := HBR.out; have := HB1.out.size; have := HB3.out.1.size; omega))).trans (u1.below (by have := HB1.out.size; have := HB3.out.1.size; have := HI.out.upd.size; omega) (fun k hk e => by have := HBR.out; have := HB1.out.size; have := HB3.out.1.size; omega))
   have SP1 := SP.out w4 HBR4.out y hy
   have hvl : vis.length < 1000000 := by
    have := sub_len _ (List.range n) HI.out.nd (fun c hc => List.mem_range.2 (HI.out.lt c hc))
    rw [List.length_range] at this
    omega
   have HADD : Hid (∀ V, Below w4.heap.size w4 V → (Instr.lookup 109 (.map (some b)) (.string (A y).svc) false).run Tryz.prog V = .ok (.int .u64 (valS A (sumH N) vis (svB (A y)))) V ∧ ∃ w9, (Instr.mapUpdate 109 (.map (some b)) (.string (A y).svc) (.int .u64 (IntKind.u64.wrap (valS A (sumH N) vis (svB (A y)) + sumH N y)))).run Tryz.prog V = .ok () w9 ∧ OsI n fin A (sumH N) (b + 1) r b (Maps.size D) D w3 (fun z => left z && !z.sameKey (ikey (fin y).id)) cnt1 (vis ++ [y]) w9) := fun V hV => by
    have hm := (HI.out.map.upd HU1.out HBR.out.2.2.2.symm).upd (Upd.ofBelow (S := fun _ => False) hV (fun k h1 h2 => by omega)) (fun h => h)
    have LK := hm.ask (svB (A y)) (HD.out y hy)
    obtain ⟨w9, UP9, M9, U9⟩ := hm.add y hvl (HD.out y hy)
    rw [strV_sv] at LK UP9
    exact ⟨LK, w9, UP9, HI.out.add HIN.out hy HRG1.out.2.1 HRG1.out.1 HU1.out hV U9 M9 ⟨HBR.out.2.2.1, HBR.out.2.2.2⟩⟩
   have HLT : Hid (wr.rangeLeft (b + 1) r = cnt) := hrg.left_eq
   clear hkey hlk hrg1 hat u1 hv ex hgr1 hsz1 hlt1 hvl hyy hs1 hrg
   unfold spV spC at SP1
   generalize valS A (sumH N) vis (svB (A y)) = vo at *
   generalize A y = a at *
   generalize sumH N y = hv at *
   go_upto_region 9 with (go_at_call 40; (with_reducible refine SP1.mono ?_); clear SP1; rintro e w5 ⟨⟨pla, plc, paa, pac, pea, pec⟩, rfl, hb5⟩; have HB5 : Hid (Below w4.heap.size w4 w5) := hb5; clear hb5)
   obtain ⟨V5, hV5⟩ : ∃ V, w5.alloc (.cells #[.int .u64 a.hi, .int .u64 a.lo, .int .u64 a.id, .int .u64 a.par, .slice pla a.links.length plc, .string a.svc, .string a.op, .int .i64 a.kind, .int .i64 a.status, .int .i64 a.start, .int .i64 a.fin, .slice paa a.attrs.length pac, .slice pea a.events.length pec] 102) = V := ⟨_, rfl⟩
   have m5 : V5.cell? ⟨w5.heap.size, 5, none⟩ = some (.string a.svc) := by rw [← hV5]; exact (Blk.new w5 #[.int .u64 a.hi, .int .u64 a.lo, .int .u64 a.id, .int .u64 a.par, .slice pla a.links.length plc, .string a.svc, .string a.op, .int .i64 a.kind, .int .i64 a.status, .int .i64 a.start, .int .i64 a.fin, .slice paa a.attrs.length pac, .slice pea a.events.length pec] 102).cell 5 rfl
   have BV : Hid (Below w4.heap.size w4 V5) := by rw [← hV5]; exact HB5.out.alloc HB5.out.size _
   obtain ⟨LK, w9, UP, hi9⟩ := HADD.out V5 BV.out
   have HI9 : Hid _ := hi9
   rw [hV5]
   clear hV5 HB5 HADD hi9 BV
   go_wp2
   go_roundw
   case rel => exact ⟨_, _, _, HI9⟩
   case measure => (have := HI9.out.rg.left_eq; have := HLT.out; have := HRG1.out.2.2; omega)
end Go.Proofs.YtnffedmcblbkoaaGreatDoor
namespace Go.Proofs.YtnffedmcblbkoaaGreatDoor
open Go Go.RowKit
set_option maxRecDepth 100000
theorem sumH_posO {N : List LegN} (hN : ∀ s ∈ N, s.2.1 < s.2.2) {l : LegN} (hl : l ∈ N) : 0 < sumH N l.1 := by
 induction N with
 | nil => cases hl
 | cons a r ih =>
  rw [sumH_cons]
  have h0 := sumH_nn r l.1
  rcases List.mem_cons.1 hl with rfl | hr
  ·have := hN _ (List.mem_cons_self ..)
   rw [if_pos rfl]
   have : 0 < lenL l := by
    unfold lenL lenI
    simp only
    split <;> omega
   omega
  ·have h1 := ih (fun s hs => hN s (List.mem_cons_of_mem _ hs)) hr
   have h2 := lenL_nn a
   split <;> omega
theorem sumZ_permO {h : Nat → Int} {l m : List Nat} (hp : l.Perm m) : sumZ h l = sumZ h m := by
 unfold sumZ
 induction hp with
 | nil => rfl
 | cons x _ ih => simp only [List.map_cons, List.sum_cons, ih]
 | swap x y l => simp only [List.map_cons, List.sum_cons]; omega
 | trans _ _ i1 i2 => rw [i1, i2]
theorem svc_all {A : Nat → Sp} {N : List LegN} {zs : List Nat} {l : List (List UInt8)} {n : Nat} {lo hi : Int} (hT : TileF hi lo N) (hS : SvL A zs l) (hnd : zs.Nodup) (hlt : ∀ y ∈ zs, y < n) (hiff : ∀ y, y < n → (y ∈ zs ↔ ∃ s ∈ N, s.1 = y)) (hN : ∀ s ∈ N, s.1 < n) (hb : hi - lo ≤ 4611686018427387904) : (l.map (valS A (sumH N) zs)).sum = hi - lo ∧ ∀ s ∈ l, 0 < valS A (sumH N) zs s := by
 have hp : ∀ s ∈ N, s.2.1 < s.2.2 := fun s hs => ((TileF.leO _ _ hT).2 s hs).2.1
 have hz : sumZ (sumH N) zs = hi - lo := by
  have e1 : zs.Perm ((List.range n).filter (fun y => decide (0 < sumH N y))) := by
   refine (List.perm_ext_iff_of_nodup hnd (List.nodup_range.filter _)).2 fun y => ?_
   rw [List.mem_filter, List.mem_range, decide_eq_true_eq]
   constructor
   ·intro h
    have hy := hlt y h
    obtain ⟨s, h1, rfl⟩ := (hiff y hy).1 h
    exact ⟨hy, sumH_posO hp h1⟩
   ·rintro ⟨hy, h0⟩
    refine (hiff y hy).2 ?_
    by_cases hs : ∃ s ∈ N, s.1 = y
    ·exact hs
    ·have := sumH_none (N := N) (y := y) (fun s hs' e => hs ⟨s, hs', e⟩)
     omega
  have e2 : sumZ (sumH N) zs = sumZ (sumH N) ((List.range n).filter (fun y => decide (0 < sumH N y))) := sumZ_permO e1
  rw [e2, sumZ_filter _ (sumH_nn N)]
  have e3 : sumZ (sumH N) (List.range n) = sumN (sumH N) n := rfl
  rw [e3, sumH_all N n hN, tile_sum _ _ hT]
 have hln : l.Nodup := hS.rise.imp (fun hab e => by subst e; exact absurd hab (List.lt_irrefl _))
 have hv : ∀ s, valS A (sumH N) zs s = sumS A (sumH N) zs s := fun s => by
  have h1 := sumS_nn A (sumH N) (sumH_nn N) s zs
  have h2 := sumS_le A (sumH N) (sumH_nn N) s zs
  unfold valS
  rw [IntKind.wrap_u64]
  omega
 constructor
 ·rw [show l.map (valS A (sumH N) zs) = l.map (sumS A (sumH N) zs) from List.map_congr_left (fun s _ => hv s), sumS_names A (sumH N) zs l hln (fun y hy => (hS.mem _).2 ⟨y, hy, rfl⟩), hz]
 ·intro s hs
  obtain ⟨y, h1, h2⟩ := (hS.mem s).1 hs
  obtain ⟨q, q1, q2⟩ := (hiff y (hlt y h1)).1 h1
  rw [hv]
  exact sumS_pos A (sumH N) (sumH_nn N) s zs y h1 h2 (by rw [← q2]; exact sumH_posO hp q1)
theorem sumH_next {N : List LegN} {k : Nat} (hk : k < N.length) (y : Nat) : sumH (N.take (k + 1)) y = sumH (N.take k) y + if N[k].1 = y then lenI (N[k].2.1, N[k].2.2) else 0 := by
 have e : N.take (k + 1) = N.take k ++ [N[k]] := by rw [List.take_add_one, List.getElem?_eq_getElem hk]; rfl
 rw [e]
 unfold sumH
 rw [List.map_append, List.sum_append]
 simp
theorem sumH_upto (N : List LegN) (k : Nat) (y : Nat) : sumH (N.take k) y ≤ sumH N y := by
 have e : sumH N y = sumH (N.take k) y + sumH (N.drop k) y := by
  conv => lhs; rw [← List.take_append_drop k N]
  unfold sumH
  rw [List.map_append, List.sum_append]
 have := sumH_nn (N.drop k) y
 omega
def lefV (fin : Nat → Nod) (K : Nat → List Int) (dp ro : Nat → Nat) (R : List Int) (i k x : Nat) (y : Nat) : Int := if ((ro y : Nat) : Int) ∈ R.take i then 0 else if ro y = x then selfX fin K dp ro y - sumH ((legsX fin K dp x).take k) y else selfX fin K dp ro y
theorem lefV_start (fin : Nat → Nod) (K : Nat → List Int) (dp ro : Nat → Nat) (R : List Int) (i x y : Nat) : lefV fin K dp ro R i 0 x y = if ((ro y : Nat) : Int) ∈ R.take i then 0 else selfX fin K dp ro y := by
 unfold lefV
 have : sumH ((legsX fin K dp x).take 0) y = 0 := rfl
 rw [this]
 split
 ·rfl
 ·split <;> omega
theorem lefV_end {fin : Nat → Nod} {K : Nat → List Int} {dp ro : Nat → Nat} {R : List Int} {i x : Nat} (hi : i < R.length) (hx : R[i] = (x : Int)) (y z : Nat) : lefV fin K dp ro R i (legsX fin K dp x).length x y = lefV fin K dp ro R (i + 1) 0 z y := by
 rw [lefV_start]
 have e : R.take (i + 1) = R.take i ++ [(x : Int)] := by rw [List.take_succ_eq_append_getElem hi, hx]
 rw [e]
 unfold lefV
 rw [List.take_length]
 by_cases h1 : ((ro y : Nat) : Int) ∈ R.take i
 ·rw [if_pos h1, if_pos (List.mem_append_left _ h1)]
 ·rw [if_neg h1]
  by_cases h2 : ro y = x
  ·rw [if_pos h2, if_pos (by rw [h2]; simp)]
   unfold selfX
   rw [h2]
   omega
  ·rw [if_neg h2, if_neg (fun h => by
    rcases List.mem_append.1 h with h | h
    ·exact h1 h
    ·rw [List.mem_singleton] at h
     exact h2 (by omega))]
section
variable {Y : List Sp} {C : List Int} {dp : Nat → Nat} {fin : Nat → Nod} {X : List Spot} {K : Nat → List Int} {R : List Int}
theorem FoB.lefNext (h : FoB Y C dp fin X K R) {ro : Nat → Nat} (hr : RooF Y fin K R ro) (hnd : R.Nodup) {i x k : Nat} (hi : i < R.length) (hxr : R[i] = (x : Int)) (hx : x < Y.length) (ht : (fin x).tree = (fin x).id) (hk : k < (legsX fin K dp x).length) {y : Nat} (hy : y < Y.length) :
  ((legsX fin K dp x)[k].1 = y → lenI ((legsX fin K dp x)[k].2.1, (legsX fin K dp x)[k].2.2) ≤ lefV fin K dp ro R i k x y ∧ lefV fin K dp ro R i (k + 1) x y = lefV fin K dp ro R i k x y - lenI ((legsX fin K dp x)[k].2.1, (legsX fin K dp x)[k].2.2)) ∧ ((legsX fin K dp x)[k].1 ≠ y → lefV fin K dp ro R i (k + 1) x y = lefV fin K dp ro R i k x y) := by
 have hs := sumH_next hk y
 have hm := List.getElem_mem hk
 constructor
 ·intro e
  have hro : ro y = x := by
   by_cases q : ro y = x
   ·exact q
   ·exact absurd e (hr.other h hx hy ht q _ hm)
  have hni : ¬ ((ro y : Nat) : Int) ∈ R.take i := fun hh => by
   rw [hro] at hh
   obtain ⟨j, hj, e2⟩ := List.mem_iff_getElem.1 hh
   have hj2 : j < i := by rw [List.length_take] at hj; omega
   rw [List.getElem_take] at e2
   have := List.pairwise_iff_getElem.1 (List.nodup_iff_pairwise_ne.1 hnd) j i (by omega) hi hj2
   exact this (e2.trans hxr.symm)
  rw [if_pos e] at hs
  have hu := sumH_upto (legsX fin K dp x) (k + 1) y
  have es : selfX fin K dp ro y = sumH (legsX fin K dp x) y := by unfold selfX; rw [hro]
  unfold lefV
  rw [if_neg hni, if_pos hro, if_pos hro, if_neg hni]
  omega
 ·intro e
  rw [if_neg e] at hs
  unfold lefV
  split
  ·rfl
  ·split <;> omega
end
end Go.Proofs.YtnffedmcblbkoaaGreatDoor
