/-
  Merged: PM, PP, PX.
-/
import Derived.Test.YtmpmpoclkgofeaaGreatDoorPIq
import Derived.Test.YtmpmpoclkgofeaaGreatDoorPAq
import Derived.Test.YtmpmpoclkgofeaaGreatDoorPR
import Derived.Test.YtmpmpoclkgofeaaGreatDoorPCq
namespace Go.Proofs.YtmpmpoclkgofeaaGreatDoor
open Go Go.RowKit
set_option maxRecDepth 100000

theorem FoB.senv {Y : List Sp} {C : List Int} {dp : Nat → Nat} {fin : Nat → Nod} {X : List Spot} {K : Nat → List Int} {R : List Int} (h : FoB Y C dp fin X K R) (x : Nat) (hx : x < Y.length) : SvE X K (spAt Y) fin (knK K) (cnK fin K) 1001 x := by
  have T := h.tree
  have hlen := h.fo.len
  have hl := h.one.len
  have L := T.len 1001 x hx
  have inY : ∀ y ∈ preN (knK K) 1001 [x], y < Y.length := fun y hy => (T.above 1001 [x] (fun z hz => by simp at hz; subst hz; exact hx) y hy).1
  have kl : ∀ i, i < Y.length → (knK K i).length ≤ 1000 := fun i hi => by
    have := sub_len _ (List.range Y.length) (h.nodup i hi) (fun c hc => List.mem_range.2 ((h.mem i hi c).1 hc).1)
    simp only [List.length_range] at this
    omega
  refine ⟨fun i hi => (h.fo.each i (by omega) hi).2, fun i hi => ?_, fun i hi => ⟨?_, fun c hc => by rw [hlen]; exact ((h.mem i (by omega) c).1 hc).1, kl i (by omega)⟩, fun i => rfl, T.deep 1001 [x] (fun y hy => by simp at hy; subst hy; exact ⟨hx, by omega⟩), by omega, L.1, by omega, fun y hy => h.ids y (inY y hy), fun y hy => ?_, fun y hy => ?_⟩
  · rw [(h.fo.each i (by omega) hi).1]
    simp [spAt, List.getD, show i < Y.length by omega]
  · rw [List.map_map]
    have : ∀ z ∈ K i, ((fun c : Nat => (c : Int)) ∘ Int.toNat) z = z := fun z hz => by
      have := h.pos i (by omega) z hz
      show ((z.toNat : Nat) : Int) = z
      omega
    exact (List.map_congr_left this).trans (List.map_id _) |>.symm
  · have := h.inn (dp y) y rfl (inY y hy)
    unfold In64 in64
    simp only
    omega
  · exact Nat.le_trans (List.length_filter_le _ _) (kl y (inY y hy))
theorem FoB.bel {Y : List Sp} {C : List Int} {dp : Nat → Nat} {fin : Nat → Nod} {X : List Spot} {K : Nat → List Int} {R : List Int} (h : FoB Y C dp fin X K R) {s y : Nat} (hb : BelN (cnK fin K) s y) : s < Y.length → y < Y.length ∧ (fin y).tree = (fin s).tree ∧ ∃ k, upI (upK C Y) k y = s ∧ dp y = dp s + k := by
  induction hb using BelN.ind with
  | here => exact fun hs => ⟨hs, rfl, 0, rfl, rfl⟩
  | @down s c y hc _ ih =>
    intro hs
    have hk : c ∈ knK K s := (List.mem_filter.1 hc).1
    have hcl := ((h.mem s hs c).1 hk).1
    obtain ⟨h1, h2, k, h3, h4⟩ := ih hcl
    refine ⟨h1, h2.trans (h.kid s hs c hk).2.2, k + 1, ?_, ?_⟩
    · show upK C Y (upI (upK C Y) k y) = s
      rw [h3]
      exact h.tree.hup s hs c hk
    · have := h.tree.hdp s hs c hk
      omega
theorem FoB.nest {Y : List Sp} {C : List Int} {dp : Nat → Nat} {fin : Nat → Nod} {X : List Spot} {K : Nat → List Int} {R : List Int} (h : FoB Y C dp fin X K R) : NestN fin (cnK fin K) (fun s => s < Y.length) := by
  have T := h.tree
  refine ⟨fun s hs c hc => ((h.mem s hs c).1 (List.mem_filter.1 hc).1).1, fun s hs c hc => ?_, fun s hs c hc hb => ?_, fun s hs c hc d hd hcd y h1 h2 => ?_⟩
  · obtain ⟨k1, k2⟩ := List.mem_filter.1 hc
    have := h.kid s hs c k1
    exact ⟨this.1, this.2.1, of_decide_eq_true k2⟩
  · have hk := (List.mem_filter.1 hc).1
    obtain ⟨_, _, k, _, h4⟩ := h.bel hb (((h.mem s hs c).1 hk).1)
    have := T.hdp s hs c hk
    omega
  · have hk := (List.mem_filter.1 hc).1
    have hk' := (List.mem_filter.1 hd).1
    obtain ⟨_, _, k, h3, h4⟩ := h.bel h1 (((h.mem s hs c).1 hk).1)
    obtain ⟨_, _, l, h5, h6⟩ := h.bel h2 (((h.mem s hs d).1 hk').1)
    have a1 := T.hdp s hs c hk
    have a2 := T.hdp s hs d hk'
    have : k = l := by omega
    subst this
    exact hcd (h3.symm.trans h5)
end Go.Proofs.YtmpmpoclkgofeaaGreatDoor

namespace Go.Proofs.YtmpmpoclkgofeaaGreatDoor
open Go Go.RowKit
set_option maxRecDepth 100000

structure LegK (Y : List Sp) (fin : Nat → Nod) (K : Nat → List Int) (x : Nat) (M : List (Nat × Int × Int)) (k : Nat) (y : Nat) (a b : Int) : Prop where
  yY : y < Y.length
  tree : (fin y).tree = (fin x).tree
  fr : (fin y).fr ≤ a
  til : b ≤ (fin y).til
  ab : a < b
  adj : ∀ (_ : 0 < k) (h' : k - 1 < M.length), (fin M[k - 1].1).id ≠ (fin y).id
  free : ∀ c ∈ knK K y, ¬ ((fin c).fr < (fin c).til ∧ (fin c).fr < b ∧ a < (fin c).til)
theorem FoB.idInj {Y : List Sp} {C : List Int} {dp : Nat → Nat} {fin : Nat → Nod} {X : List Spot} {K : Nat → List Int} {R : List Int} (h : FoB Y C dp fin X K R) {i j : Nat} (hi : i < Y.length) (hj : j < Y.length) (e : (fin i).id = (fin j).id) : i = j := by
  have hl := h.fo.len
  refine rise_same h.rise (by omega) (by omega) ?_
  rw [(h.fo.each i hi (by omega)).2, (h.fo.each j hj (by omega)).2]
  exact e
theorem FoB.legs {Y : List Sp} {C : List Int} {dp : Nat → Nat} {fin : Nat → Nod} {X : List Spot} {K : Nat → List Int} {R : List Int} (h : FoB Y C dp fin X K R) {x : Nat} (hx : x < Y.length) {L : List (Nat × Int × Int)} (hP : PathR fin (cnK fin K) x (fin x).til L) :
    TileF (fin x).til (fin x).fr L.reverse ∧ ∀ k (hk : k < L.reverse.length) (at_ : Int), TileF (fin x).til at_ (L.reverse.drop k) → L.reverse[k].2.1 = at_ ∧ TileF (fin x).til L.reverse[k].2.2 (L.reverse.drop (k + 1)) ∧ LegK Y fin K x L.reverse k L.reverse[k].1 L.reverse[k].2.1 L.reverse[k].2.2 := by
  have hi := h.inn (dp x) x rfl hx
  obtain ⟨t1, t2, t3⟩ := hP.tiles h.nest hx hi.2.1 (Int.le_refl _)
  have t2' := AdjN.rev L t2
  refine ⟨t1.rev, fun k hk at_ hT => ?_⟩
  have hm : L.reverse[k] ∈ L := List.mem_reverse.1 (List.getElem_mem hk)
  have hb := h.bel (hP.bel _ hm) hx
  obtain ⟨g1, g2, g3⟩ := t3 _ hm
  rw [List.drop_eq_getElem_cons hk] at hT
  obtain ⟨e1, e2, e3⟩ := hT
  refine ⟨e1, e3, hb.1, hb.2.1, g1, g2, e2, fun h0 h1 e => ?_, fun c hc hh => ?_⟩
  · have hm1 : L.reverse[k - 1] ∈ L := List.mem_reverse.1 (List.getElem_mem h1)
    have hb1 := h.bel (hP.bel _ hm1) hx
    have := t2'.at_ _ (k - 1) (by omega)
    have hk1 : k - 1 + 1 = k := by omega
    simp only [hk1] at this
    exact this (h.idInj hb1.1 hb.1 e)
  · exact g3 c (List.mem_filter.2 ⟨hc, decide_eq_true hh.1⟩) ⟨hh.2.1, hh.2.2⟩
theorem FoB.root {Y : List Sp} {C : List Int} {dp : Nat → Nat} {fin : Nat → Nod} {X : List Spot} {K : Nat → List Int} {R : List Int} (h : FoB Y C dp fin X K R) (z : Int) (hz : z ∈ R) : ∃ x : Nat, z = (x : Int) ∧ x < Y.length ∧ (fin x).org ≠ 0 ∧ (fin x).tree = (fin x).id := by
  have hcl : (cutX C (zs Y)).length = Y.length := by rw [cutX_len, zs_len]
  obtain ⟨x, rfl, hx, hn⟩ := kidsF_iff.1 (h.fo.roots.1.mem_iff.2 hz)
  have := (h.sh.rt x (by omega) hn).2
  refine ⟨x, rfl, hx, ?_, ?_⟩
  · rw [this]
    unfold rootN
    simp only
    split
    · omega
    · split <;> omega
  · rw [this]
    rfl
theorem FoB.idsR {Y : List Sp} {C : List Int} {dp : Nat → Nat} {fin : Nat → Nod} {X : List Spot} {K : Nat → List Int} {R : List Int} (h : FoB Y C dp fin X K R) (i : Nat) (hi : i < R.length) : ∃ x : Nat, x < Y.length ∧ (fin x).org ≠ 0 ∧ (fin x).tree = (fin x).id ∧ ∀ w rc, Blk w rc (fillC .u64 (idsOf X R) 0) 33 → w.cell? ⟨rc, i, none⟩ = some (.int .u64 (fin x).id) := by
  obtain ⟨x, hz, hx, h1, h2⟩ := h.root R[i] (List.getElem_mem hi)
  refine ⟨x, hx, h1, h2, fun w rc hB => hB.cell i ?_⟩
  have hl := h.fo.len
  have e := (h.fo.each x hx (by omega)).2
  simp [fillC, idsOf, hi, hz, hl, hx, e]
end Go.Proofs.YtmpmpoclkgofeaaGreatDoor

namespace Go.Proofs.YtmpmpoclkgofeaaGreatDoor
open Go Go.RowKit
set_option maxRecDepth 100000

def OwnW (A : Nat → Sp) (L : List (Nat × Int × Int)) (at_ o e : Int) : Prop := (e = 0 ∧ ∃ l ∈ L, l.2.1 ≤ at_ ∧ at_ < l.2.2 ∧ o = (A l.1).id) ∨ (e = 112 ∧ o = 0 ∧ ∀ l ∈ L, ¬ (l.2.1 ≤ at_ ∧ at_ < l.2.2))
theorem below_two {w2 wr w3 : World} {o1 o2 : Obj} (h : Below w2.heap.size w2 wr) (h3 : Below ((wr.alloc o1).alloc o2).heap.size ((wr.alloc o1).alloc o2) w3) : Below w2.heap.size w2 w3 := by
  have hs := h.size
  have h1 := h.alloc (by omega) o1
  have h2 := h1.alloc (by rw [World.size_alloc]; omega) o2
  exact h2.trans (h3.mono h2.size)
theorem hasW1_any (b : Nat) (fr til at_ : Int) (W : World) (c0 : W.cell? ⟨b, 0, none⟩ = some (.int .i64 fr)) (c1 : W.cell? ⟨b, 1, none⟩ = some (.int .i64 til)) (h1 : fr ≤ at_) (h2 : at_ < til) :
    Calls Tryz.prog 23 #[.slice (some ⟨b, 0, none⟩) 1 1, .int .i64 at_] W fun e W' => e = .returned (.bool true) ∧ Below W.heap.size W W' := by
  have BB : Hid (∀ o, Below W.heap.size W (W.alloc o)) := fun o => (Below.refl _ _).alloc (Nat.le_refl _) _
  go_enter Tryz.func23, Tryz.ntmps23
  go_wp2
  go_loopw [9] (fun y wr => y = .int .i64 0 ∧ wr = W) (fun _ _ => 0)
  case atStart => exact ⟨rfl, rfl⟩
  case round =>
    obtain ⟨rfl, rfl⟩ := hrel
    go_wp2
    go_ret
    exact ⟨rfl, BB.out _⟩
theorem hasW1_no (b : Nat) (fr til at_ : Int) (W : World) (c0 : W.cell? ⟨b, 0, none⟩ = some (.int .i64 fr)) (c1 : W.cell? ⟨b, 1, none⟩ = some (.int .i64 til)) (h : ¬ (fr ≤ at_ ∧ at_ < til)) :
    Calls Tryz.prog 23 #[.slice (some ⟨b, 0, none⟩) 1 1, .int .i64 at_] W fun e W' => e = .returned (.bool false) ∧ Below W.heap.size W W' := by
  have c0' := fun o => (((Below.refl W.heap.size W).alloc (Nat.le_refl _) o).cell (p := ⟨b, 0, none⟩) (World.block_lt_of_cell? W _ c0)).trans c0
  go_enter Tryz.func23, Tryz.ntmps23
  go_wp2
  go_loopw [9] (fun y wr => (y = .int .i64 0 ∧ wr = W) ∨ (y = .int .i64 1 ∧ Below W.heap.size W wr)) (fun y _ => 1 - (intOf y).toNat)
  case atStart => exact Or.inl ⟨rfl, rfl⟩
  case round =>
    rcases hrel with ⟨rfl, rfl⟩ | ⟨rfl, hb⟩
    · have BB : Hid (∀ o, Below wr.heap.size wr (wr.alloc o)) := fun o => (Below.refl _ _).alloc (Nat.le_refl _) _
      by_cases h1 : fr ≤ at_
      · have h2 : ¬ at_ < til := fun h2 => h ⟨h1, h2⟩
        go_wp2
        go_roundw
        case rel => exact Or.inr ⟨rfl, BB.out _⟩
        case measure => simp [intOf]
      · go_wp2
        go_roundw
        case rel => exact Or.inr ⟨rfl, BB.out _⟩
        case measure => simp [intOf]
    · go_wp2
      go_ret
      exact ⟨rfl, hb⟩
set_option maxHeartbeats 4000000 in
theorem ownerW_any (f sb : Nat) (X : List Spot) (K : Nat → List Int) (rvv : Value) (R : List Int) (A : Nat → Sp) (fin : Nat → Nod) (KN C : Nat → List Nat) (fuel x : Nat) (at_ : Int) (W : World) (hF : ForestAt W f sb X K rvv R) (T : SvE X K A fin KN C fuel x) (ho : (fin x).org ≠ 0) :
    Calls Tryz.prog 12 #[.pointer (some ⟨f, 0, none⟩), .int .u64 (fin x).id, .int .i64 at_] W fun e W' => ∃ L o er, e = .returned (.tuple #[.int .u64 o, .int .i64 er]) ∧ PathR fin C x (fin x).til L ∧ OwnW A L at_ o er ∧ Below W.heap.size W W' := by
  have LA := lacksW_any f sb X K rvv R W hF x T.xX (fin x) (T.nd x T.xX) ho
  have SV : Hid (∀ w1, Below W.heap.size W w1 → Calls Tryz.prog 20 #[.pointer (some ⟨f, 0, none⟩), .int .u64 (fin x).id] w1 fun e W' => ∃ (ad : Option Addr) (cap : Nat) (L : List (Nat × Int × Int)), e = .returned (.pointer (some ⟨w1.heap.size, 0, none⟩)) ∧ W'.cell? ⟨w1.heap.size, 2, none⟩ = some (.slice ad L.length cap) ∧ PathT W W' A fin C x ad L) := fun w1 hb => by
    refine (swept_any f sb X K rvv R A fin KN C fuel x w1 (hF.below hb) T).mono ?_
    rintro e W' ⟨rfl, ⟨lv, L, h1⟩, hb2⟩
    obtain ⟨ad, cap, rfl, hl⟩ := h1.legs
    obtain ⟨B, sv, ht, _⟩ := h1.tree
    exact ⟨ad, cap, L, rfl, ht.cell 2 rfl, h1.path, h1.len, hl, hb.trans (hb2.mono hb.size)⟩
  obtain ⟨id, hid⟩ : ∃ id, (fin x).id = id := ⟨_, rfl⟩
  rw [hid] at LA SV ⊢
  clear hF T ho hid
  go_enter Tryz.func12, Tryz.ntmps12
  go_wp2_with (first
    | (go_at_call 19; refine LA.mono ?_; clear LA; rintro e w1 ⟨rfl, hb1⟩; have S1 := SV.out w1 hb1; clear hb1 SV)
    | (go_at_call 20; refine S1.mono ?_; clear S1; rintro e w2 ⟨ad, cap, L, rfl, e2, hT⟩; have HT : Hid (PathT W w2 A fin C x ad L) := hT; obtain ⟨q, hq⟩ : ∃ q, L.length = q := ⟨_, rfl⟩; have HQ : Hid (L.length = q) := hq; rw [hq] at e2; clear hT hq))
  have hq1 : (q : Int) ≤ 2000 := by
    have h1 := HT.out.2.1
    have h2 := HQ.out
    omega
  have LEG : Hid (∀ (k : Nat) (wq : World), k < q → Below w2.heap.size w2 wq → ∃ (g y : Nat) (a b : Int), ad = some ⟨g, 0, none⟩ ∧ L.reverse[k]? = some (y, a, b) ∧ wq.cell? ⟨g, k * 3, none⟩ = some (.int .u64 (A y).id) ∧ wq.cell? ⟨g, k * 3 + 1, none⟩ = some (.int .i64 a) ∧ wq.cell? ⟨g, k * 3 + 2, none⟩ = some (.int .i64 b)) := fun k wq hk hb => by
    have hL : L ≠ [] := fun e => by have := HQ.out; rw [e] at this; simp at this; omega
    obtain ⟨g, hg, hgl, hLI⟩ := HT.out.2.2.1 hL
    have hk' : k < L.reverse.length := by rw [List.length_reverse, HQ.out]; exact hk
    have := legsIn_below hLI hb hgl k (by simpa using hk')
    have e : (L.map (legX A)).reverse[k]'(by simpa using hk') = legX A L.reverse[k] := by
      simp only [← List.map_reverse, List.getElem_map]
    rw [e] at this
    exact ⟨g, L.reverse[k].1, L.reverse[k].2.1, L.reverse[k].2.2, hg, by rw [List.getElem?_eq_getElem hk'], this⟩
  go_loopw [24] (fun z wr => ∃ k : Nat, z = .int .i64 k ∧ k ≤ q ∧ Below w2.heap.size w2 wr ∧ ∀ l ∈ L.reverse.take k, ¬ (l.2.1 ≤ at_ ∧ at_ < l.2.2)) (fun z _ => q - (intOf z).toNat)
  case atStart => exact ⟨0, rfl, by omega, Below.refl _ _, fun l hl => by simp at hl⟩
  case round =>
    obtain ⟨k, rfl, hkq, hb, hno⟩ := hrel
    by_cases hlt : k < q
    · obtain ⟨g, y, a, b, rfl, hget, c0, c1, c2⟩ := LEG.out k wr hlt hb
      have hin : (k : Int) < (q : Int) := by omega
      have HB : Hid (Below w2.heap.size w2 wr) := hb
      have HNO : Hid (∀ l ∈ L.reverse.take k, ¬ (l.2.1 ≤ at_ ∧ at_ < l.2.2)) := hno
      have HGET : Hid (L.reverse[k]? = some (y, a, b)) := hget
      obtain ⟨o, hoo⟩ : ∃ o, (A y).id = o := ⟨_, rfl⟩
      rw [hoo] at c0
      have HOO : Hid ((A y).id = o) := hoo
      clear hb hno hget LEG e2 hoo
      by_cases hh : a ≤ at_ ∧ at_ < b
      · go_wp2_with (go_at_call 23; refine (hasW1_any _ a b at_ _ (by simp [go_sem]) (by simp [go_sem]) hh.1 hh.2).mono ?_; rintro e w3 ⟨rfl, hb3⟩; have t3 : w3.cell? ⟨wr.heap.size, 0, none⟩ = some (.int .u64 o) := (hb3.cell (p := ⟨wr.heap.size, 0, none⟩) (by simp [go_sem]; try omega)).trans (by simp [go_sem]); have HB3 : Hid (Below w2.heap.size w2 w3) := below_two HB.out hb3; clear hb3)
        go_ret2
        refine ⟨L, o, 0, rfl, HT.out.1, Or.inl ⟨rfl, (y, a, b), List.mem_reverse.1 (List.mem_of_getElem? HGET.out), hh.1, hh.2, HOO.out.symm⟩, HT.out.2.2.2.trans (HB3.out.mono HT.out.2.2.2.size)⟩
      · go_wp2_with (go_at_call 23; refine (hasW1_no _ a b at_ _ (by simp [go_sem]) (by simp [go_sem]) hh).mono ?_; rintro e w3 ⟨rfl, hb3⟩; have HB3 : Hid (Below w2.heap.size w2 w3) := below_two HB.out hb3; clear hb3)
        go_roundw
        case rel =>
          refine ⟨k + 1, by simp, by omega, HB3.out, fun l hl => ?_⟩
          rw [List.take_add_one, HGET.out] at hl
          rcases List.mem_append.1 hl with hl | hl
          · exact HNO.out l hl
          · simp at hl
            subst hl
            exact hh
        case measure => (simp [intOf]; try omega)
    · have hni : ¬ (k : Int) < (q : Int) := by omega
      have HB : Hid (Below w2.heap.size w2 wr) := hb
      have HNO : Hid (∀ l ∈ L, ¬ (l.2.1 ≤ at_ ∧ at_ < l.2.2)) := fun l hl => by
        refine hno l ?_
        rw [List.take_of_length_le (by rw [List.length_reverse, HQ.out]; omega)]
        exact List.mem_reverse.2 hl
      clear hb hno LEG e2 hlt hkq
      go_wp2
      go_ret2
      exact ⟨L, 0, 112, rfl, HT.out.1, Or.inr ⟨rfl, rfl, HNO.out⟩, HT.out.2.2.2.trans (HB.out.mono HT.out.2.2.2.size)⟩
end Go.Proofs.YtmpmpoclkgofeaaGreatDoor
