/-
  Merged: We, Ze, FB.
-/
import Derived.Shelf.Spec.DecodeRune
import Derived.Test.YtnffedmcblbkoaaGreatDoorWaq
import Derived.Test.YtnffedmcblbkoaaGreatDoorSOq
namespace Go.Proofs.YtnffedmcblbkoaaGreatDoor
open Go.Shelf Go.RowKit
set_option maxRecDepth 100000
def Tabs (w : World) : Prop := Lib.Utf8Tabs 0 1 w
theorem Tabs.lt {w : World} (h : Tabs w) : 0 < w.heap.size ∧ 1 < w.heap.size :=
 ⟨World.block_lt_of_cell? w ⟨0, 0, none⟩ (h.1 0 (by omega)), World.block_lt_of_cell? w ⟨1, 2 * 0, none⟩ (h.2 0 (by omega)).1⟩
theorem Tabs.upd {S : Nat → Prop} {w w' : World} (h : Tabs w) (hu : Upd S w w') (h1 : ¬ S 0) (h2 : ¬ S 1) : Tabs w' := by
 have hl := h.lt
 have e1 := fun (o : Nat) => World.cell?_of_block (w := w) (w' := w') (a := ⟨0, o, none⟩) (hu.block _ hl.1 h1)
 have e2 := fun (o : Nat) => World.cell?_of_block (w := w) (w' := w') (a := ⟨1, o, none⟩) (hu.block _ hl.2 h2)
 exact ⟨fun c hc => (e1 c).trans (h.1 c hc), fun i hi => ⟨(e2 _).trans (h.2 i hi).1, (e2 _).trans (h.2 i hi).2⟩⟩
theorem Tabs.below {w w' : World} (h : Tabs w) (hb : Below w.heap.size w w') : Tabs w' :=
 h.upd (Upd.ofBelow (S := fun _ => False) hb (fun k hk hk' => by omega)) (fun h => h) (fun h => h)
theorem strI_get (K : List Int) (j : Nat) (hj : j < K.length) (hb : ∀ x ∈ K, 0 ≤ x ∧ x < 256) : (((strI K).get! j).toNat : Int) = K.getD j 0 := by
 have hm := hb K[j] (List.getElem_mem hj)
 have e : (strI K).get! j = UInt8.ofNat (K[j]).toNat := by
  show (K.map (fun n => UInt8.ofNat n.toNat)).toArray[j]! = _
  simp [hj]
 rw [e, List.getD, List.getElem?_eq_getElem hj]
 simp
 omega
theorem bt_getD (K : List Int) (j : Nat) (hj : j < K.length) : bt K j = K.getD j 0 := by
 unfold bt; rw [List.getD, List.getD, List.getElem?_eq_getElem hj]; rfl
theorem bt_none (K : List Int) (j : Nat) (hj : K.length ≤ j) : bt K j = -1 := by
 unfold bt; rw [List.getD, List.getElem?_eq_none hj]; rfl
theorem decode_rune (K : List Int) (h0 : 0 < K.length) (hb : ∀ x ∈ K, 0 ≤ x ∧ x < 256) :
  (runeL K = 0 → Lib.decodeGo (strI K) = (65533, 1)) ∧ (0 < runeL K → (Lib.decodeGo (strI K)).2 = runeL K ∧ ((Lib.decodeGo (strI K)).1 = 65533 → 1 < runeL K)) := by
 have hs := strI_size K
 have hd : Lib.decodeGo (strI K) = Lib.decodeN K.length ((strI K).get! 0).toNat ((strI K).get! 1).toNat ((strI K).get! 2).toNat ((strI K).get! 3).toNat := by
  simp only [Lib.decodeGo]
  rw [if_neg (by omega), Lib.decode_at, hs]; rfl
 rw [hd]
 have e0 : bt K 0 = (((strI K).get! 0).toNat : Int) := by rw [bt_getD K 0 h0, strI_get K 0 h0 hb]
 have ei : ∀ i, bt K i = if i < K.length then (((strI K).get! i).toNat : Int) else -1 := by
  intro i
  split
  ·rename_i h; rw [bt_getD K i h, strI_get K i h hb]
  ·rename_i h; exact bt_none K i (by omega)
 have := dec_rune K.length ((strI K).get! 0).toNat ((strI K).get! 1).toNat ((strI K).get! 2).toNat ((strI K).get! 3).toNat h0 (UInt8.toNat_lt _) (UInt8.toNat_lt _) (UInt8.toNat_lt _) (UInt8.toNat_lt _) (bt K 1) (bt K 2) (bt K 3) (ei 1) (ei 2) (ei 3)
 rw [← e0] at this
 exact this
theorem set_block {w : World} {B : Nat} {cs : Array Value} {t : TypeId} {fr : Nat × Nat} (h : w.heap[B]? = some (.cells cs t fr)) (i : Nat) (v : Value) : (w.setCell ⟨B, i, none⟩ v).heap[B]? = some (.cells (cs.setIfInBounds i v) t fr) := by
 have hlt := lt_of_block h
 have h' : w.heap[B] = .cells cs t fr := by simpa [Array.getElem?_eq_getElem hlt] using h
 show (w.heap.modify B _)[B]? = _
 rw [Array.getElem?_eq_getElem (by simpa using hlt), Array.getElem_modify_self, h']
 rfl
end Go.Proofs.YtnffedmcblbkoaaGreatDoor
namespace Go.Proofs.YtnffedmcblbkoaaGreatDoor
open Go Go.RowKit
set_option maxRecDepth 100000
theorem findCmp_any (x : Spot) (id : Int) (W : World) :
  Calls Tryz.prog 65 #[.agg (enS x).toArray, .int .u64 id] W fun e w' => e = .returned (.int .i64 (cmpI x.nd.id id)) ∧ w' = W.alloc (.cells (enS x).toArray 104) := by
 have C := fun W' => cmp_id x.nd.id id W'
 generalize cmpI x.nd.id id = r at C ⊢
 unfold enS
 go_enter Tryz.func65, Tryz.ntmps65
 go_wp2_with (go_at_call 49; refine (C _).mono ?_; rintro e w' ⟨rfl, rfl⟩)
 go_ret
 exact ⟨rfl, rfl⟩
def RiseS (X : List Spot) : Prop := ∀ i j (hi : i < X.length) (hj : j < X.length), i < j → X[i].nd.id < X[j].nd.id
def FindR (X : List Spot) (id : Int) (v : Value) : Prop :=
 (∃ k, ∃ h : k < X.length, X[k].nd.id = id ∧ v = .tuple #[.int .i64 k, .bool true]) ∨ ((∀ i (h : i < X.length), X[i].nd.id ≠ id) ∧ ∃ k : Nat, v = .tuple #[.int .i64 k, .bool false])
set_option maxHeartbeats 4000000 in
theorem search_any (sb n : Nat) (X : List Spot) (id : Int) (w : World) (hB : Blk w sb (rowS X) 104) (hn : X.length = n) (hs : RiseS X) (hl : n ≤ 1000000) :
  Calls Tryz.prog 64 #[.slice (some ⟨sb, 0, none⟩) n n, .int .u64 id, .func (.func 65) #[] #[]] w fun e w' => (∃ v, e = .returned v ∧ FindR X id v) ∧ Below w.heap.size w w' := by
 have HX : Hid _ := hn
 have HS : Hid _ := hs
 have HB : Hid _ := hB
 clear hn hs hB
 go_enter Tryz.func64, Tryz.ntmps64
 go_wp2
 go_loopw [9, 10] (fun x y wr => ∃ i j : Nat, x = .int .i64 i ∧ y = .int .i64 j ∧ i ≤ j ∧ j ≤ n ∧ (∀ k (h : k < X.length), k < i → X[k].nd.id < id) ∧ (∀ k (h : k < X.length), j ≤ k → id ≤ X[k].nd.id) ∧ Below w.heap.size w wr) (fun x y _ => (intOf y).toNat - (intOf x).toNat)
 case atStart => exact ⟨0, n, rfl, rfl, by omega, by omega, fun k _ h => by omega, fun k h1 h2 => by have := HX.out; omega, Below.refl _ _⟩
 case round =>
  obtain ⟨i, j, rfl, rfl, hij, hjn, h1, h2, hb⟩ := hrel
  have H1 : Hid _ := h1
  have H2 : Hid _ := h2
  have HBB : Hid _ := hb
  clear h1 h2 hb
  by_cases hlt : i < j
  ·have hmX : (i + j) / 2 < X.length := by rw [HX.out]; omega
   have sp := Blk.range (Blk.below HB.out HBB.out (Blk.lt HB.out)) ((i + j) / 2) hmX
   have FC := fun W => findCmp_any (X[(i + j) / 2]'hmX) id W
   obtain ⟨x, hx⟩ : ∃ x, X[(i + j) / 2]'hmX = x := ⟨_, rfl⟩
   rw [hx] at sp FC
   have HHX : Hid _ := hx
   clear hx
   have LD : Hid _ := sp
   clear sp
   have ec : cmpI x.nd.id id = if x.nd.id < id then -1 else if id < x.nd.id then 1 else 0 := rfl
   by_cases hc : x.nd.id < id
   ·rw [if_pos hc] at ec
    rw [ec] at FC
    clear ec
    go_wp2_with (first | (refine wpList_spot rfl _ rfl sb _ x LD.out rfl ?_) | (refine wpList_spotG _ rfl sb _ x LD.out rfl rfl ?_) | (go_at_call 65; refine (FC _).mono ?_; rintro e w' ⟨rfl, rfl⟩))
    go_roundw
    case rel =>
     refine ⟨(i + j) / 2 + 1, j, by simp, rfl, by omega, hjn, fun k hk hki => ?_, H2.out, HBB.out.alloc HBB.out.size _⟩
     have e2 : X[(i + j) / 2]'(by have := HX.out; omega) = x := HHX.out
     by_cases hk2 : k = (i + j) / 2
     ·subst hk2; rw [e2]; exact hc
     ·have := HS.out k ((i + j) / 2) hk (by have := HX.out; omega) (by omega)
      rw [e2] at this
      omega
    case measure => simp [intOf]; omega
   ·have ec2 : cmpI x.nd.id id = (if id < x.nd.id then 1 else 0) := by rw [ec, if_neg hc]
    have hge : (if id < x.nd.id then (1 : Int) else 0) ≥ 0 := by split <;> omega
    rw [ec2] at FC
    clear ec ec2
    generalize (if id < x.nd.id then (1 : Int) else 0) = r at FC hge
    go_wp2_with (first | (refine wpList_spot rfl _ rfl sb _ x LD.out rfl ?_) | (refine wpList_spotG _ rfl sb _ x LD.out rfl rfl ?_) | (go_at_call 65; refine (FC _).mono ?_; rintro e w' ⟨rfl, rfl⟩))
    go_roundw
    case rel =>
     refine ⟨i, (i + j) / 2, rfl, by simp, by omega, by omega, H1.out, fun k hk hki => ?_, HBB.out.alloc HBB.out.size _⟩
     have e2 : X[(i + j) / 2]'(by have := HX.out; omega) = x := HHX.out
     by_cases hk2 : k = (i + j) / 2
     ·subst hk2; rw [e2]; omega
     ·have := HS.out ((i + j) / 2) k (by have := HX.out; omega) hk (by omega)
      rw [e2] at this
      omega
    case measure => simp [intOf]; omega
  ·obtain rfl : i = j := by omega
   by_cases hin : i < n
   ·have hmX : i < X.length := by rw [HX.out]; omega
    have sp := Blk.range (Blk.below HB.out HBB.out (Blk.lt HB.out)) i hmX
    have FC := fun W => findCmp_any (X[i]'hmX) id W
    obtain ⟨x, hx⟩ : ∃ x, X[i]'hmX = x := ⟨_, rfl⟩
    rw [hx] at sp FC
    have HHX : Hid (X[i]'hmX = x) := hx
    have hle : id ≤ x.nd.id := by rw [← hx]; exact H2.out i hmX (by omega)
    clear hx
    have LD : Hid _ := sp
    clear sp
    have ec : cmpI x.nd.id id = if x.nd.id < id then -1 else if id < x.nd.id then 1 else 0 := rfl
    rw [if_neg (show ¬ x.nd.id < id by omega)] at ec
    rw [ec] at FC
    clear ec
    by_cases heq : id < x.nd.id
    ·rw [if_pos heq] at FC
     go_wp2_with (first | (refine wpList_spot rfl _ rfl sb _ x LD.out rfl ?_) | (refine wpList_spotG _ rfl sb _ x LD.out rfl rfl ?_) | (go_at_call 65; refine (FC _).mono ?_; rintro e w' ⟨rfl, rfl⟩))
     go_ret2
     refine ⟨⟨_, rfl, Or.inr ⟨fun k hk => ?_, i, rfl⟩⟩, HBB.out.alloc HBB.out.size _⟩
     by_cases hki : k < i
     ·have := H1.out k hk hki; omega
     ·by_cases hk2 : k = i
      ·subst hk2; rw [HHX.out]; omega
      ·have := HS.out i k hmX hk (by omega)
       rw [HHX.out] at this
       omega
    ·rw [if_neg heq] at FC
     go_wp2_with (first | (refine wpList_spot rfl _ rfl sb _ x LD.out rfl ?_) | (refine wpList_spotG _ rfl sb _ x LD.out rfl rfl ?_) | (go_at_call 65; refine (FC _).mono ?_; rintro e w' ⟨rfl, rfl⟩))
     go_ret2
     exact ⟨⟨_, rfl, Or.inl ⟨i, hmX, by rw [HHX.out]; omega, rfl⟩⟩, HBB.out.alloc HBB.out.size _⟩
   ·go_wp2
    go_ret2
    refine ⟨⟨_, rfl, Or.inr ⟨fun k hk => ?_, i, rfl⟩⟩, HBB.out⟩
    have := H1.out k hk (by have := HX.out; omega)
    omega
theorem find_any (f sb n : Nat) (X : List Spot) (id : Int) (w : World) (hf : w.cell? ⟨f, 0, none⟩ = some (.slice (some ⟨sb, 0, none⟩) n n)) (hB : Blk w sb (rowS X) 104) (hn : X.length = n) (hs : RiseS X) (hl : n ≤ 1000000) :
  Calls Tryz.prog 36 #[.pointer (some ⟨f, 0, none⟩), .int .u64 id] w fun e w' => (∃ v, e = .returned v ∧ FindR X id v) ∧ Below w.heap.size w w' := by
 have SE := search_any sb n X id w hB hn hs hl
 clear hB hn hs hl
 go_enter Tryz.func36, Tryz.ntmps36
 go_wp2_with (go_at_call 64; refine SE.mono ?_; rintro e w' ⟨⟨v, rfl, hv⟩, hb⟩; rcases hv with ⟨k, hk, h1, rfl⟩ | ⟨h1, k, rfl⟩)
 ·go_ret2
  exact ⟨⟨_, rfl, Or.inl ⟨k, hk, h1, rfl⟩⟩, hb⟩
 ·go_ret2
  exact ⟨⟨_, rfl, Or.inr ⟨h1, k, rfl⟩⟩, hb⟩
end Go.Proofs.YtnffedmcblbkoaaGreatDoor
