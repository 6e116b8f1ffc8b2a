/-
  Merged: OH, OI, OJ, OK.
-/
import Derived.Test.YtnffedmcblbkoaaGreatDoorOG
import Derived.Test.YtnffedmcblbkoaaGreatDoorOAq
import Derived.Test.YtnffedmcblbkoaaGreatDoorFSq
import Derived.Shelf.SortM.Plain
import Derived.Shelf.SortM.SortNone
import Derived.Ground.SlgmProg
import Derived.Shelf.SlicesE.Compact
import Derived.Shelf.SlGeneric
import Derived.Ground.SlgnProg
import Derived.Test.YtnffedmcblbkoaaGreatDoorMwq
namespace Go.Proofs.YtnffedmcblbkoaaGreatDoor
open Go Go.RowKit
set_option maxRecDepth 100000
structure TreeO (base : Nat) (W : World) (fin : Nat → Nod) (tb : Nat) (x : Nat) (D : List Nat) (B : Nat → Nat) (sw sr : Nat → List Nat) (wv rv : Nat → Value) (wb : Nat → Nat) (ev : Value) (E : List Int) : Prop where
 own : OwnS base W fin D B sw sr wv rv wb
 tree : Blk W tb (trL (fin x).fr (fin x).til ev (.func (.func 67) #[pB B x] #[])) 136
 ends : W.ownsRow base 2 1 ev E.length (E.map (Value.int .i64))
 xD : x ∈ D
 tl : base ≤ tb
structure TEnv (X : List Spot) (K : Nat → List Int) (fin : Nat → Nod) (KN sw : Nat → List Nat) (fuel x : Nat) : Prop where
 nd : ∀ i (h : i < X.length), X[i].nd = fin i
 kn : ∀ i, i < X.length → K i = (KN i).map (fun c : Nat => (c : Int)) ∧ (∀ c ∈ KN i, c < X.length) ∧ (KN i).length ≤ 1000
 sw : ∀ i, i < X.length → (KN i).Perm (sw i) ∧ (sw i).Pairwise (fun a b => ltG (fin a) (fin b))
 dp : DeepN KN fuel [x]
 xX : x < X.length
 nd2 : (preN KN fuel [x]).Nodup
 ln : (preN KN fuel [x]).length ≤ 1000
set_option maxHeartbeats 4000000 in
theorem grown_any (f sb : Nat) (X : List Spot) (K : Nat → List Int) (rvv : Value) (R : List Int) (fin : Nat → Nod) (KN sw : Nat → List Nat) (fuel x : Nat) (W : World) (hF : ForestAt W f sb X K rvv R) (T : TEnv X K fin KN sw fuel x) :
  Calls Tryz.prog 38 #[.pointer (some ⟨f, 0, none⟩), .int .u64 (fin x).id] W fun e W' => e = .returned (.pointer (some ⟨W.heap.size, 0, none⟩)) ∧ (∃ B wv wb ev, TreeO W.heap.size W' fin W.heap.size x (preN KN fuel [x]) B sw nils wv (fun _ => nilV) wb ev (endsN fin (preN KN fuel [x]))) ∧ Below W.heap.size W W' := by
 obtain ⟨W1, hW1⟩ : ∃ W1, W.alloc (.cells #[.int .i64 0, .int .i64 0, .slice none 0 0, .nilFunc] 136) = W1 := ⟨_, rfl⟩
 have b1 : Below W.heap.size W W1 := by rw [← hW1]; exact (Below.refl _ _).alloc (Nat.le_refl _) _
 have s1 : W1.heap.size = W.heap.size + 1 := by rw [← hW1]; simp
 have t1 : Blk W1 W.heap.size (trL 0 0 nilV .nilFunc) 136 := by rw [← hW1]; exact Blk.new _ _ _
 have G : GEnv W.heap.size f sb W X K rvv R fin KN sw := ⟨fun V hu => hF.below (hu.below (Nat.le_refl _) (fun k hk h => by omega)), T.nd, T.kn, T.sw⟩
 have O1 : GrwO W.heap.size W1 fin sw W.heap.size 0 0 .nilFunc [] (fun _ => 0) (fun _ => nilV) (fun _ => 0) nilV [] := by
  refine ⟨⟨fun x h => (by cases h), fun x h => (by cases h), fun x h => (by cases h), fun x h => (by cases h), fun x h => (by cases h), fun x h => (by cases h), fun x h => (by cases h), by omega⟩, t1, ?_, Nat.le_refl _, fun y h => (by cases h)⟩
  simpa using World.ownsRow_nil W1 W.heap.size 2 1
 have GR := growO_any W.heap.size f sb W X K rvv R fin KN sw G W.heap.size 0 0 .nilFunc fuel W1 [] (fun _ => 0) (fun _ => nilV) (fun _ => 0) nilV [] x T.dp T.xX O1 (Upd.ofBelow b1 (fun k h1 h2 => h2)) (fun y _ h => by cases h) T.nd2 (by have := T.ln; simp; omega)
 simp only [List.nil_append] at GR
 have hxD : x ∈ preN KN fuel [x] := preN_mem KN fuel [x] T.dp x (by simp)
 have FIN : Hid (∀ w2 (B : Nat → Nat) (wv : Nat → Value) (wb : Nat → Nat) (ev : Value), GrwO W.heap.size w2 fin sw W.heap.size 0 0 .nilFunc (preN KN fuel [x]) B wv wb ev (endsN fin (preN KN fuel [x])) → Upd (GrwW W.heap.size nilV) W1 w2 → (w2.cell? ⟨B x, 1, none⟩ = some (.int .i64 (fin x).fr) ∧ w2.cell? ⟨B x, 1 + 1, none⟩ = some (.int .i64 (fin x).til)) ∧ (w2.cell? ⟨W.heap.size, 0, none⟩ = some (.int .i64 0) ∧ w2.cell? ⟨W.heap.size, 1, none⟩ = some (.int .i64 0) ∧ w2.cell? ⟨W.heap.size, 3, none⟩ = some .nilFunc ∧ (∀ j, w2.frozen? ⟨W.heap.size, j, none⟩ = false) ∧ (store ⟨W.heap.size, 3, none⟩ (.func (.func 67) #[pB B x] #[])).run Tryz.prog ((w2.setCell ⟨W.heap.size, 0, none⟩ (.int .i64 (fin x).fr)).setCell ⟨W.heap.size, 1, none⟩ (.int .i64 (fin x).til)) = .ok () (((w2.setCell ⟨W.heap.size, 0, none⟩ (.int .i64 (fin x).fr)).setCell ⟨W.heap.size, 1, none⟩ (.int .i64 (fin x).til)).setCell ⟨W.heap.size, 3, none⟩ (.func (.func 67) #[pB B x] #[]))) ∧ ∀ w3, w3 = ((w2.setCell ⟨W.heap.size, 0, none⟩ (.int .i64 (fin x).fr)).setCell ⟨W.heap.size, 1, none⟩ (.int .i64 (fin x).til)).setCell ⟨W.heap.size, 3, none⟩ (.func (.func 67) #[pB B x] #[]) → (∃ B wv wb ev, TreeO W.heap.size w3 fin W.heap.size x (preN KN fuel [x]) B sw nils wv (fun _ => nilV) wb ev (endsN fin (preN KN fuel [x]))) ∧ Below W.heap.size W w3) := fun w2 B wv wb ev hO hU => by
  have bx := hO.own.blk x hxD
  refine ⟨⟨bx.cell 1 rfl, bx.cell 2 rfl⟩, ⟨hO.tree.cell 0 rfl, hO.tree.cell 1 rfl, hO.tree.cell 3 rfl, fun j => hO.tree.frozen j, ?_⟩, fun w3 e => ?_⟩
  ·have q := (hO.tree.set 0 (.int .i64 (fin x).fr)).set 1 (.int .i64 (fin x).til)
   have k2 := q.cell 3 (v := .nilFunc) rfl
   have kz := q.frozen 3
   rw [run_store _ _ _ _ _ rfl, k2]
   simp [kz]
  have u3 : Upd (fun k => k = W.heap.size) w2 w3 := by
   rw [e]
   exact Upd.setCell (S := fun k => k = W.heap.size) (Upd.setCell (S := fun k => k = W.heap.size) (Upd.setCell (S := fun k => k = W.heap.size) (Upd.refl _ _) (p := ⟨W.heap.size, 0, none⟩) (fun _ => rfl) _) (p := ⟨W.heap.size, 1, none⟩) (fun _ => rfl) _) (p := ⟨W.heap.size, 3, none⟩) (fun _ => rfl) _
  have t3 : Blk w3 W.heap.size (trL (fin x).fr (fin x).til ev (.func (.func 67) #[pB B x] #[])) 136 := by
   rw [e]
   exact ((hO.tree.set 0 _).set 1 _).set 3 _
  refine ⟨⟨B, wv, wb, ev, hO.own.upd u3 (fun y hy e' => ?_) (fun y _ g e' => by simp [Value.ownBlock] at e') (fun y hy hn e' => ?_), t3, ownsRow_upd hO.ends u3 (fun k hk e' => ?_), hxD, Nat.le_refl _⟩, ?_⟩
  ·have h1 := hO.own.blk y hy
   have h2 := hO.tree
   unfold Blk at h1 h2
   rw [e', h2] at h1
   simp at h1
  ·rcases hO.own.wait y hy with (⟨_, e2⟩ | ⟨off, cap, c, fr, _, _, h3, _⟩) | ⟨e2, _⟩
   ·exact hn (List.map_eq_nil_iff.1 e2)
   ·have h2 := hO.tree
    unfold Blk at h2
    rw [e', h2] at h3
    simp at h3
   ·exact hn e2
  ·subst e'
   obtain ⟨cur, hh⟩ := owns_type hO.ends hk
   have h2 := hO.tree
   unfold Blk at h2
   rw [h2] at hh
   simp at hh
  ·have b2 : Below W.heap.size W w2 := b1.trans (hU.below (by omega) (fun k hk h => by rcases h with h | h; omega; simp [Value.ownBlock] at h))
   exact b2.trans (u3.below b2.size (fun k hk h => by omega))
 clear b1 s1 t1 G O1 hxD T hF
 go_enter Tryz.func38, Tryz.ntmps38
 go_wp2_with (go_at_call 66; refine GR.mono ?_; clear GR; rintro e w2 ⟨B, wv, wb, ev, rfl, _, _, hO, hU, _⟩; obtain ⟨⟨p1, p2⟩, ⟨q0, q1, q3, qf, qs⟩, HFIN⟩ := FIN.out w2 B wv wb ev hO hU; unfold pB at qs; have HF : Hid (∀ w3, w3 = ((w2.setCell ⟨W.heap.size, 0, none⟩ (.int .i64 (fin x).fr)).setCell ⟨W.heap.size, 1, none⟩ (.int .i64 (fin x).til)).setCell ⟨W.heap.size, 3, none⟩ (.func (.func 67) #[pB B x] #[]) → (∃ B wv wb ev, TreeO W.heap.size w3 fin W.heap.size x (preN KN fuel [x]) B sw nils wv (fun _ => nilV) wb ev (endsN fin (preN KN fuel [x]))) ∧ Below W.heap.size W w3) := HFIN; clear HFIN hO hU FIN; unfold pB)
 go_ret
 exact ⟨rfl, HF.out _ rfl⟩
theorem lacks_any (f sb : Nat) (X : List Spot) (K : Nat → List Int) (rvv : Value) (R : List Int) (W : World) (h : ForestAt W f sb X K rvv R) (x : Nat) (hx : x < X.length) (d : Nod) (hd : X[x].nd = d) (ho : d.org ≠ 0) :
  Calls Tryz.prog 37 #[.pointer (some ⟨f, 0, none⟩), .int .u64 d.id] W fun e W' => e = .returned (.int .i64 0) ∧ Below W.heap.size W W' := by
 have N := node_at h x hx d.id (by rw [hd])
 rw [hd] at N
 unfold ndV at N
 have hne : (d.org == 0) = false := by simp [ho]
 clear h hd
 go_enter Tryz.func37, Tryz.ntmps37
 go_wp2_with (go_at_call 10; refine N.mono ?_; clear N; rintro e w1 ⟨rfl, hb⟩)
 go_ret
 exact ⟨rfl, hb.alloc hb.size _⟩
set_option maxHeartbeats 1000000 in
theorem has1_any (b : Nat) (fr til at_ : Int) (W : World) (c0 : W.cell? ⟨b, 0, none⟩ = some (.int .i64 fr)) (c1 : W.cell? ⟨b, 1, none⟩ = some (.int .i64 til)) (h1 : fr ≤ at_) (h2 : at_ < til) :
  Calls Tryz.prog 50 #[.slice (some ⟨b, 0, none⟩) 1 1, .int .i64 at_] W fun e W' => e = .returned (.bool true) ∧ Below W.heap.size W W' := by
 have BB : Hid (∀ o, Below W.heap.size W (W.alloc o)) := fun o => (Below.refl _ _).alloc (Nat.le_refl _) _
 go_enter Tryz.func50, Tryz.ntmps50
 go_wp2
 go_loopw [9] (fun y wr => y = .int .i64 0 ∧ wr = W) (fun _ _ => 0)
 case atStart => exact ⟨rfl, rfl⟩
 case round =>
  obtain ⟨rfl, rfl⟩ := hrel
  go_wp2
  go_ret
  exact ⟨rfl, BB.out _⟩
set_option maxHeartbeats 2000000 in
theorem ownerAt_any (f sb : Nat) (X : List Spot) (K : Nat → List Int) (rvv : Value) (R : List Int) (fin : Nat → Nod) (KN sw : Nat → List Nat) (fuel x : Nat) (mu : Nat → Nat) (at_ : Int) (W : World) (hF : ForestAt W f sb X K rvv R) (T : TEnv X K fin KN sw fuel x) (ho : (fin x).org ≠ 0) (hG : OwnG (preN KN fuel [x]) sw nils mu) (h1 : (fin x).fr ≤ at_) (h2 : at_ < (fin x).til) :
  Calls Tryz.prog 26 #[.pointer (some ⟨f, 0, none⟩), .int .u64 (fin x).id, .int .i64 at_] W fun e W' => e = .returned (.tuple #[.int .u64 (fin (ownerM fin at_ (mu x + 1) sw nils x).1).id, .int .i64 0]) ∧ Below W.heap.size W W' := by
 have LA := lacks_any f sb X K rvv R W hF x T.xX (fin x) (T.nd x T.xX) ho
 have GR : Hid (∀ w1, Below W.heap.size W w1 → Calls Tryz.prog 38 #[.pointer (some ⟨f, 0, none⟩), .int .u64 (fin x).id] w1 fun e W' => e = .returned (.pointer (some ⟨w1.heap.size, 0, none⟩)) ∧ (∃ B wv wb ev, TreeO w1.heap.size W' fin w1.heap.size x (preN KN fuel [x]) B sw nils wv (fun _ => nilV) wb ev (endsN fin (preN KN fuel [x]))) ∧ Below w1.heap.size w1 W') := fun w1 hb => grown_any f sb X K rvv R fin KN sw fuel x w1 (hF.below hb) T
 have OW : Hid (∀ base W1 w3 tb B wv wb ev, TreeO base W1 fin tb x (preN KN fuel [x]) B sw nils wv (fun _ => nilV) wb ev (endsN fin (preN KN fuel [x])) → Below W1.heap.size W1 w3 → Calls Tryz.prog 67 #[.pointer (some ⟨B x, 0, none⟩), .int .i64 at_] w3 fun e W' => e = .returned (.int .u64 (fin (ownerM fin at_ (mu x + 1) sw nils x).1).id) ∧ Upd (fun k => base ≤ k) w3 W') := fun base W1 w3 tb B wv wb ev hT hb => by
  refine (owner_any base fin _ B sw nils wv _ wb mu x hT.xD at_ w3 (hT.own.below hb) hG).mono ?_
  rintro e W' ⟨rfl, _, _, hu⟩
  exact ⟨rfl, hu.upd⟩
 obtain ⟨id, hid⟩ : ∃ id, (fin x).id = id := ⟨_, rfl⟩
 obtain ⟨fr, hfr⟩ : ∃ fr, (fin x).fr = fr := ⟨_, rfl⟩
 obtain ⟨til, htil⟩ : ∃ til, (fin x).til = til := ⟨_, rfl⟩
 have HND : Hid ((fin x).fr = fr ∧ (fin x).til = til) := ⟨hfr, htil⟩
 rw [hid] at LA GR ⊢
 rw [hfr] at h1
 rw [htil] at h2
 generalize (fin (ownerM fin at_ (mu x + 1) sw nils x).1).id = res at OW ⊢
 clear hF T ho hG hid hfr htil
 go_enter Tryz.func26, Tryz.ntmps26
 go_wp2_with (first
  | (go_at_call 37; refine LA.mono ?_; clear LA; rintro e w1 ⟨rfl, hb1⟩; have G1 := GR.out w1 hb1; have HB1 : Hid (Below W.heap.size W w1) := hb1; clear hb1)
  | (go_at_call 38; refine G1.mono ?_; clear G1; rintro e w2 ⟨rfl, ⟨B, wv, wb, ev, hT⟩, hb2⟩; have HT : Hid (TreeO w1.heap.size w2 fin w1.heap.size x (preN KN fuel [x]) B sw nils wv (fun _ => nilV) wb ev (endsN fin (preN KN fuel [x]))) := hT; have HB2 : Hid (Below w1.heap.size w1 w2) := hb2; have t0 : w2.cell? ⟨w1.heap.size, 0, none⟩ = some (.int .i64 fr) := (by have h : w2.cell? ⟨w1.heap.size, 0, none⟩ = some (.int .i64 (fin x).fr) := hT.tree.cell 0 rfl; rwa [HND.out.1] at h); have t1 : w2.cell? ⟨w1.heap.size, 0 + 1, none⟩ = some (.int .i64 til) := (by have h : w2.cell? ⟨w1.heap.size, 1, none⟩ = some (.int .i64 (fin x).til) := hT.tree.cell 1 rfl; rwa [HND.out.2] at h); clear hT hb2)
  | (go_at_call 50; refine (has1_any _ fr til at_ _ (by simp [go_sem]) (by simp [go_sem]) h1 h2).mono ?_; rintro e w3 ⟨rfl, hb3⟩; have hb3' : Below w2.heap.size w2 w3 := ((Below.refl _ _).alloc (Nat.le_refl _) _).trans (hb3.mono (by simp)); have HB3 : Hid (Below w2.heap.size w2 w3) := hb3'; have O1 := OW.out _ w2 w3 _ B wv wb ev HT.out hb3'; have t3 : w3.cell? ⟨w1.heap.size, 3, none⟩ = some (.func (.func 67) #[.pointer (some ⟨B x, 0, none⟩)] #[]) := (Blk.below HT.out.tree hb3' (Blk.lt HT.out.tree)).cell 3 rfl; clear hb3 hb3')
  | (go_at_call 67; refine O1.mono ?_; clear O1; rintro e w4 ⟨rfl, hu4⟩))
 go_ret2
 refine ⟨rfl, ?_⟩
 have b2 := HB1.out.trans (HB2.out.mono HB1.out.size)
 have b3 := b2.trans (HB3.out.mono b2.size)
 exact b3.trans (hu4.below b3.size (fun k hk h => by have := HB1.out.size; omega))
end Go.Proofs.YtnffedmcblbkoaaGreatDoor
namespace Go.Proofs.YtnffedmcblbkoaaGreatDoor
open Go Go.Shelf Go.RowKit Go.Lib Go.Sort
set_option maxRecDepth 100000
def Tryz.sortI64_ren : Go.Shelf.Ren := ⟨fun | 5 => 68 | 8 => 79 | 7 => 104 | 19 => 119 | 20 => 120 | 10 => 150 | 11 => 151 | 12 => 152 | 13 => 153 | 14 => 154 | 15 => 155 | 16 => 156 | 17 => 157 | 18 => 158 | 30 => 207 | 31 => 177 | 32 => 178 | 33 => 208 | 34 => 209 | 35 => 149 | 40 => 234 | n => n, fun | 23 => 133 | 25 => 2 | 3 => 3 | 32 => 168 | 22 => 133 | 0 => 0 | 44 => 214 | 46 => 32 | 4 => 4 | 36 => 208 | 35 => 207 | 41 => 93 | 5 => 5 | 9 => 9 | 53 => 256 | 57 => 260 | 63 => 290 | 64 => 291 | n => n, fun | n => n⟩
theorem Tryz.sortI64 : Go.Proofs.SlLaysM.n5 Tryz.prog Tryz.sortI64_ren := {
 mixed := by kernel_rfl
 f5 := ⟨Tryz.f68.name, by decide, Tryz.func68.trans (congrArg some (by kernel_rfl))⟩
 f7 := ⟨Tryz.f104.name, by decide, Tryz.func104.trans (congrArg some (by kernel_rfl))⟩
 f8 := Tryz.func79.trans (congrArg some (by kernel_rfl))
 f10 := ⟨Tryz.f150.name, by decide, Tryz.func150.trans (congrArg some (by kernel_rfl))⟩
 f11 := ⟨Tryz.f151.name, by decide, Tryz.func151.trans (congrArg some (by kernel_rfl))⟩
 f12 := ⟨Tryz.f152.name, by decide, Tryz.func152.trans (congrArg some (by kernel_rfl))⟩
 f13 := ⟨Tryz.f153.name, by decide, Tryz.func153.trans (congrArg some (by kernel_rfl))⟩
 f14 := ⟨Tryz.f154.name, by decide, Tryz.func154.trans (congrArg some (by kernel_rfl))⟩
 f15 := ⟨Tryz.f155.name, by decide, Tryz.func155.trans (congrArg some (by kernel_rfl))⟩
 f16 := ⟨Tryz.f156.name, by decide, Tryz.func156.trans (congrArg some (by kernel_rfl))⟩
 f17 := ⟨Tryz.f157.name, by decide, Tryz.func157.trans (congrArg some (by kernel_rfl))⟩
 f18 := ⟨Tryz.f158.name, by decide, Tryz.func158.trans (congrArg some (by kernel_rfl))⟩
 f19 := Tryz.func119.trans (congrArg some (by kernel_rfl))
 f20 := Tryz.func120.trans (congrArg some (by kernel_rfl))
 f30 := ⟨Tryz.f207.name, by decide, Tryz.func207.trans (congrArg some (by kernel_rfl))⟩
 f31 := Tryz.func177.trans (congrArg some (by kernel_rfl))
 f32 := Tryz.func178.trans (congrArg some (by kernel_rfl))
 f33 := ⟨Tryz.f208.name, by decide, Tryz.func208.trans (congrArg some (by kernel_rfl))⟩
 f34 := ⟨Tryz.f209.name, by decide, Tryz.func209.trans (congrArg some (by kernel_rfl))⟩
 f35 := ⟨Tryz.f149.name, by decide, Tryz.func149.trans (congrArg some (by kernel_rfl))⟩
 f40 := ⟨Tryz.f234.name, by decide, Tryz.func234.trans (congrArg some (by kernel_rfl))⟩
 t0 := Tryz.underlying0
 a0 := Tryz.isAgg0
 z0 := Tryz.sizeOf0
 v0 := Tryz.zeroValue0
 t3 := Tryz.underlying3
 a3 := Tryz.isAgg3
 z3 := Tryz.sizeOf3
 v3 := Tryz.zeroValue3
 t4 := Tryz.underlying4
 a4 := Tryz.isAgg4
 z4 := Tryz.sizeOf4
 v4 := Tryz.zeroValue4
 t5 := Tryz.underlying5
 a5 := Tryz.isAgg5
 z5 := Tryz.sizeOf5
 v5 := Tryz.zeroValue5
 t9 := Tryz.underlying9
 a9 := Tryz.isAgg9
 z9 := Tryz.sizeOf9
 v9 := Tryz.zeroValue9
 t22 := Tryz.underlying133
 a22 := Tryz.isAgg133
 z22 := Tryz.sizeOf133
 v22 := Tryz.zeroValue133
 t23 := Tryz.underlying133
 a23 := Tryz.isAgg133
 z23 := Tryz.sizeOf133
 v23 := Tryz.zeroValue133
 t25 := Tryz.underlying2
 a25 := Tryz.isAgg2
 z25 := Tryz.sizeOf2
 v25 := Tryz.zeroValue2
 t32 := Tryz.underlying168
 a32 := Tryz.isAgg168
 z32 := Tryz.sizeOf168
 v32 := Tryz.zeroValue168
 t35 := Tryz.underlying207
 a35 := Tryz.isAgg207
 z35 := Tryz.sizeOf207
 v35 := Tryz.zeroValue207
 t36 := Tryz.underlying208
 a36 := Tryz.isAgg208
 z36 := Tryz.sizeOf208
 v36 := Tryz.zeroValue208
 t41 := Tryz.underlying93
 a41 := Tryz.isAgg93
 z41 := Tryz.sizeOf93
 v41 := Tryz.zeroValue93
 t44 := Tryz.underlying214
 a44 := Tryz.isAgg214
 z44 := Tryz.sizeOf214
 v44 := Tryz.zeroValue214
 t46 := Tryz.underlying32
 a46 := Tryz.isAgg32
 z46 := Tryz.sizeOf32
 v46 := Tryz.zeroValue32
 t53 := Tryz.underlying256
 a53 := Tryz.isAgg256
 z53 := Tryz.sizeOf256
 v53 := Tryz.zeroValue256
 t57 := Tryz.underlying260
 a57 := Tryz.isAgg260
 z57 := Tryz.sizeOf260
 v57 := Tryz.zeroValue260
 t63 := Tryz.underlying290
 a63 := Tryz.isAgg290
 z63 := Tryz.sizeOf290
 v63 := Tryz.zeroValue290
 t64 := Tryz.underlying291
 a64 := Tryz.isAgg291
 z64 := Tryz.sizeOf291
 v64 := Tryz.zeroValue291 }
def Tryz.compI64_ren : Go.Shelf.Ren := ⟨fun | 43 => 69 | n => n, fun | 22 => 133 | 23 => 2 | 3 => 3 | 4 => 4 | 0 => 0 | n => n, fun | n => n⟩
theorem Tryz.compI64 : Go.Proofs.SlLaysE.n43 Tryz.prog Tryz.compI64_ren := {
 mixed := by kernel_rfl
 f43 := ⟨Tryz.f69.name, by decide, Tryz.func69.trans (congrArg some (by kernel_rfl))⟩
 t0 := Tryz.underlying0
 a0 := Tryz.isAgg0
 z0 := Tryz.sizeOf0
 v0 := Tryz.zeroValue0
 t3 := Tryz.underlying3
 a3 := Tryz.isAgg3
 z3 := Tryz.sizeOf3
 v3 := Tryz.zeroValue3
 t4 := Tryz.underlying4
 a4 := Tryz.isAgg4
 z4 := Tryz.sizeOf4
 v4 := Tryz.zeroValue4
 t22 := Tryz.underlying133
 a22 := Tryz.isAgg133
 z22 := Tryz.sizeOf133
 v22 := Tryz.zeroValue133
 a23 := Tryz.isAgg2
 z23 := Tryz.sizeOf2 }
def srtE (E : List Int) : List Int := E.mergeSort fun x y => decide (x ≤ y)
def cptE (E : List Int) : List Int := compactUpTo E.toArray E.length
theorem holdsE {base : Nat} {W : World} {g cap : Nat} {E : List Int} (hv : W.ownsRow base 2 1 (.slice (some ⟨g, 0, none⟩) E.length cap) E.length (E.map (Value.int .i64))) : Go.Sort.Holds (Value.int .i64) W g 0 E.toArray := by
 intro j hj
 have hj' : j < E.length := by simpa using hj
 rcases hv.2 with ⟨e, _⟩ | ⟨g', cap', cur, e, _, hh, _⟩
 ·simp at e
 ·simp at e
  obtain ⟨rfl, _⟩ := e
  refine ⟨?_, by simp [World.frozen?, hh]⟩
  have := hv.cells (g := g) rfl j (.int .i64 E[j]) (by simp [hj'])
  rw [Addr.add_mid] at this
  rw [this]
  simp [hj']
theorem ownE_put {base : Nat} {W W' : World} {g cap : Nat} {E M : List Int} (hv : W.ownsRow base 2 1 (.slice (some ⟨g, 0, none⟩) E.length cap) E.length (E.map (Value.int .i64))) (F : List Int) (hF : F.length = E.length) (hM : M = F.take M.length) (hml : M.length ≤ E.length) (hh' : ∀ cur, W.heap[g]? = some (.cells cur 2 (0, 0)) → W'.heap[g]? = some (.cells (putCells (Value.int .i64) 0 F.toArray cur) 2 (0, 0))) : W'.ownsRow base 2 1 (.slice (some ⟨g, 0, none⟩) M.length cap) M.length (M.map (Value.int .i64)) := by
 rcases hv.2 with ⟨e, _⟩ | ⟨g', cap', cur, e, hb, hh, hnc, hcm, hcs, ht⟩
 ·simp at e
 ·simp at e
  obtain ⟨rfl, rfl⟩ := e
  refine ⟨by simp, Or.inr ⟨g, cap, _, rfl, hb, hh' cur hh, by omega, hcm, by simp [putCells, hcs], ?_⟩⟩
  have h1 := take_put (Value.int .i64) F.toArray cur (by simp; omega)
  simp only [List.size_toArray] at h1
  have h2 : (putCells (Value.int .i64) 0 F.toArray cur).toList.take M.length = ((putCells (Value.int .i64) 0 F.toArray cur).toList.take F.length).take M.length := by rw [List.take_take, Nat.min_eq_left (by omega)]
  rw [Nat.mul_one, h2, h1]
  conv => rhs; rw [hM]
  simp [List.map_take]
theorem sortE_any (base g cap : Nat) (E : List Int) (W : World) (hv : W.ownsRow base 2 1 (.slice (some ⟨g, 0, none⟩) E.length cap) E.length (E.map (Value.int .i64))) (hl : E.length ≤ 4000) :
  Calls Tryz.prog 68 #[.slice (some ⟨g, 0, none⟩) E.length cap] W fun e w' => e = .returned (.tuple #[]) ∧ w'.ownsRow base 2 1 (.slice (some ⟨g, 0, none⟩) E.length cap) E.length ((srtE E).map (Value.int .i64)) ∧ Upd (fun k => k = g) W w' := by
 have hgl : g < W.heap.size := (owns_lt hv rfl).2
 refine (AnyM.slices_Sort_int Tryz.sortI64 g 0 cap E W (holdsE hv) hgl (by omega)).mono ?_
 rintro e w' ⟨rfl, n, os, rfl⟩
 have hle : (srtE E).length = E.length := List.length_mergeSort E
 refine ⟨rfl, ?_, upd_sortW (Value.int .i64) W g 0 n (srtE E).toArray os⟩
 have := ownE_put hv (M := srtE E) (srtE E) hle (by simp) (by omega) (fun cur hh => heap_sortW (Value.int .i64) hh n (srtE E).toArray os)
 rw [hle] at this
 exact this
theorem compE_any (base g cap : Nat) (E : List Int) (W : World) (hv : W.ownsRow base 2 1 (.slice (some ⟨g, 0, none⟩) E.length cap) E.length (E.map (Value.int .i64))) (hl : E.length ≤ 4000) :
  Calls Tryz.prog 69 #[.slice (some ⟨g, 0, none⟩) E.length cap] W fun e w' => e = .returned (.slice (some ⟨g, 0, none⟩) (cptE E).length cap) ∧ w'.ownsRow base 2 1 (.slice (some ⟨g, 0, none⟩) (cptE E).length cap) (cptE E).length ((cptE E).map (Value.int .i64)) ∧ Upd (fun k => k = g) W w' := by
 have hcap : E.length ≤ cap := by
  rcases hv.2 with ⟨e, _⟩ | ⟨g', cap', cur, e, hb, hh, hnc, _⟩
  ·simp at e
  ·simp at e; omega
 have hml : (cptE E).length ≤ E.length := by
  unfold cptE compactUpTo
  rw [List.length_map]
  exact Nat.le_trans (List.length_filter_le _ _) (by simp)
 have := AnyE.slices_Compact Tryz.compI64 (Value.int .i64) (fun _ => rfl) (EqlAt.intD _ _ .i64) (NeqAt.intD _ _ .i64) 0 Tryz.zeroValue2 g 0 cap E.toArray W (holdsE hv) (by simp; omega) (by simpa using hcap)
 simp only [List.size_toArray] at this
 refine this.mono ?_
 rintro e w' ⟨rfl, q, rfl⟩
 refine ⟨rfl, ?_, ?_⟩
 ·exact ownE_put hv (M := cptE E) (cptE E ++ List.replicate (E.length - (cptE E).length) 0) (by simp; omega) (by simp) hml (fun cur hh => by
   have := heap_sortW (Value.int .i64) hh q (cptE E ++ List.replicate (E.length - (cptE E).length) 0).toArray #[]
   unfold sortWorld at this
   rw [grow_empty] at this
   exact this)
 ·have := upd_sortW (Value.int .i64) W g 0 q (cptE E ++ List.replicate (E.length - (cptE E).length) 0).toArray #[]
  unfold sortWorld at this
  rw [grow_empty] at this
  exact this
end Go.Proofs.YtnffedmcblbkoaaGreatDoor
namespace Go.Proofs.YtnffedmcblbkoaaGreatDoor
open Go Go.RowKit
set_option maxRecDepth 100000
def stepL (L : List (Int × Int × Int)) (id a b : Int) : List (Int × Int × Int) :=
 match L.getLast? with
 | some l => if l.1 = id then L.dropLast ++ [(l.1, l.2.1, b)] else L ++ [(id, a, b)]
 | none => [(id, a, b)]
def legsM (fin : Nat → Nod) (fu x : Nat) : List Int → (Nat → List Nat) → (Nat → List Nat) → List (Int × Int × Int) → List (Int × Int × Int)
 | a :: b :: r, sw, sr, L => legsM fin fu x (b :: r) (ownerM fin a fu sw sr x).2.1 (ownerM fin a fu sw sr x).2.2 (stepL L (fin (ownerM fin a fu sw sr x).1).id a b)
 | [_], _, _, L => L
 | [], _, _, L => L
structure LegR (base : Nat) (W : World) (fin : Nat → Nod) (tb x : Nat) (D : List Nat) (B : Nat → Nat) (mu : Nat → Nat) (wb : Nat → Nat) (ev : Value) (g cap : Nat) (M : List Int) (res : List (Int × Int × Int)) (i : Nat) (wr : World) (v : Value) (L : List (Int × Int × Int)) (sw sr : Nat → List Nat) (wv rv : Nat → Value) : Prop where
 own : OwnS base wr fin D B sw sr wv rv wb
 gr : OwnG D sw sr mu
 res : legsM fin (mu x + 1) x (M.drop i) sw sr L = res
 row : wr.ownsRow base 50 3 v L.length (L.flatMap legC)
 ends : wr.ownsRow base 2 1 (.slice (some ⟨g, 0, none⟩) M.length cap) M.length (M.map (Value.int .i64))
 tree : Blk wr tb (trL (fin x).fr (fin x).til ev (.func (.func 67) #[pB B x] #[])) 136
 upd : Upd (fun k => base ≤ k) W wr
 ln : L.length ≤ i
theorem owns_keep {base n s : Nat} {e : TypeId} {W W' : World} {v : Value} {xs : List Value} (h : W.ownsRow base e s v n xs) (hk : ∀ (k : Nat) (c : Array Value) (T : TypeId) (fr : Nat × Nat), W.heap[k]? = some (Obj.cells c T fr) → T ≠ 157 → T ≠ 153 → W'.heap[k]? = some (Obj.cells c T fr)) (h1 : e ≠ 157) (h2 : e ≠ 153) : W'.ownsRow base e s v n xs := by
 refine ⟨h.1, ?_⟩
 rcases h.2 with h' | ⟨g, cap, cur, e1, hb, hh, r⟩
 ·exact Or.inl h'
 ·exact Or.inr ⟨g, cap, cur, e1, hb, hk _ _ _ _ hh h1 h2, r⟩
theorem OwnS.legs {base : Nat} {W W' : World} {fin : Nat → Nod} {D : List Nat} {B : Nat → Nat} {sw sr : Nat → List Nat} {wv rv : Nat → Value} {wb : Nat → Nat} (h : OwnS base W fin D B sw sr wv rv wb) {S : Nat → Prop} (hu : Upd S W W') (hS : ∀ k, S k → k < W.heap.size → ∃ c fr, W.heap[k]? = some (.cells c 50 fr)) : OwnS base W' fin D B sw sr wv rv wb := by
 refine h.upd hu (fun x hx hs => ?_) (fun x hx g e hs => ?_) (fun x hx hn hs => ?_)
 ·have hb := h.blk x hx
  obtain ⟨c, fr, hc⟩ := hS _ hs hb.lt
  unfold Blk at hb
  rw [hb] at hc
  simp at hc
 ·obtain ⟨cur, hh⟩ := owns_typeS (h.run x hx) e
  obtain ⟨c, fr, hc⟩ := hS _ hs (Array.getElem?_eq_some_iff.1 hh).1
  rw [hh] at hc
  simp at hc
 ·rcases h.wait x hx with (⟨_, e2⟩ | ⟨off, cap, c, fr, _, _, h3, _⟩) | ⟨e2, _⟩
  ·exact hn (List.map_eq_nil_iff.1 e2)
  ·obtain ⟨c', fr', hc⟩ := hS _ hs (Array.getElem?_eq_some_iff.1 h3).1
   rw [h3] at hc
   simp at hc
  ·exact hn e2
theorem LegR.look {base : Nat} {W : World} {fin : Nat → Nod} {tb x : Nat} {D : List Nat} {B : Nat → Nat} {mu wb : Nat → Nat} {ev : Value} {g cap : Nat} {M : List Int} {res : List (Int × Int × Int)} {i : Nat} {wr : World} {v : Value} {L : List (Int × Int × Int)} {sw sr : Nat → List Nat} {wv rv : Nat → Value} (h : LegR base W fin tb x D B mu wb ev g cap M res i wr v L sw sr wv rv) (hx : x ∈ D) (hi : i + 1 < M.length) :
  Calls Tryz.prog 67 #[.pointer (some ⟨B x, 0, none⟩), .int .i64 (M[i]'(by omega))] wr fun e w' => ∃ id sw1 sr1 wv1 rv1, e = .returned (.int .u64 id) ∧ OwnS base w' fin D B sw1 sr1 wv1 rv1 wb ∧ OwnG D sw1 sr1 mu ∧ legsM fin (mu x + 1) x (M.drop (i + 1)) sw1 sr1 (stepL L id (M[i]'(by omega)) M[i + 1]) = res ∧ w'.ownsRow base 50 3 v L.length (L.flatMap legC) ∧ w'.ownsRow base 2 1 (.slice (some ⟨g, 0, none⟩) M.length cap) M.length (M.map (Value.int .i64)) ∧ Blk w' tb (trL (fin x).fr (fin x).til ev (.func (.func 67) #[pB B x] #[])) 136 ∧ Upd (fun k => base ≤ k) W w' := by
 refine (owner_any base fin D B sw sr wv rv wb mu x hx (M[i]'(by omega)) wr h.own h.gr).mono ?_
 rintro e w' ⟨rfl, ⟨wv1, rv1, hO⟩, hG, hU⟩
 refine ⟨_, _, _, wv1, rv1, rfl, hO, hG, ?_, owns_keep h.row hU.keep (by decide) (by decide), owns_keep h.ends hU.keep (by decide) (by decide), hU.keep _ _ _ _ h.tree (by decide) (by decide), h.upd.trans hU.upd (fun _ _ h => h)⟩
 rw [← h.res]
 have e1 : M.drop i = M[i]'(by omega) :: M[i + 1] :: M.drop (i + 1 + 1) := by
  rw [List.drop_eq_getElem_cons (by omega), List.drop_eq_getElem_cons (i := i + 1) (by omega)]
 have e2 : M.drop (i + 1) = M[i + 1] :: M.drop (i + 1 + 1) := List.drop_eq_getElem_cons (by omega)
 rw [e1, e2]
 rfl
end Go.Proofs.YtnffedmcblbkoaaGreatDoor
