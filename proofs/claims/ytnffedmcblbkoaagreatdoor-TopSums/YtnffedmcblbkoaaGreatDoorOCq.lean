/-
  Merged: OC, OD, OE, OF.
-/
import Derived.Test.YtnffedmcblbkoaaGreatDoorOAq
import Derived.Test.YtnffedmcblbkoaaGreatDoorFSq
import Derived.Test.YtnffedmcblbkoaaGreatDoorOXq
namespace Go.Proofs.YtnffedmcblbkoaaGreatDoor
open Go Go.RowKit
set_option maxRecDepth 100000
theorem moveM_sub (fin : Nat → Nod) (at_ : Int) : ∀ (w r : List Nat), (∀ c ∈ (moveM fin at_ w r).1, c ∈ w) ∧ (∀ c ∈ (moveM fin at_ w r).2, c ∈ w ∨ c ∈ r) ∧ (moveM fin at_ w r).1.length + (moveM fin at_ w r).2.length = w.length + r.length
 | [], r => ⟨fun c h => h, fun c h => Or.inr h, rfl⟩
 | c :: w, r => by
  by_cases hc : (fin c).fr ≤ at_
  ·obtain ⟨h1, h2, h3⟩ := moveM_sub fin at_ w (r ++ [c])
   have e : moveM fin at_ (c :: w) r = moveM fin at_ w (r ++ [c]) := by simp [moveM, hc]
   rw [e]
   refine ⟨fun y hy => List.mem_cons_of_mem _ (h1 y hy), fun y hy => ?_, by rw [h3]; simp; omega⟩
   rcases h2 y hy with h | h
   ·exact Or.inl (List.mem_cons_of_mem _ h)
   ·rcases List.mem_append.1 h with h | h
    ·exact Or.inr h
    ·simp at h; subst h; exact Or.inl (by simp)
  ·have e : moveM fin at_ (c :: w) r = (c :: w, r) := by simp [moveM, hc]
   rw [e]
   exact ⟨fun _ h => h, fun _ h => Or.inr h, rfl⟩
theorem popR_sub (fin : Nat → Nod) (at_ : Int) : ∀ r : List Nat, (∀ c ∈ popR fin at_ r, c ∈ r) ∧ (popR fin at_ r).length ≤ r.length
 | [] => ⟨fun _ h => h, Nat.le_refl _⟩
 | c :: r => by
  obtain ⟨h1, h2⟩ := popR_sub fin at_ r
  by_cases hc : at_ < (fin c).til
  ·simp [popR, hc]
  ·have e : popR fin at_ (c :: r) = popR fin at_ r := by simp [popR, hc]
   rw [e]
   exact ⟨fun y hy => List.mem_cons_of_mem _ (h1 y hy), by simp; omega⟩
theorem popM_sub (fin : Nat → Nod) (at_ : Int) (r : List Nat) : (∀ c ∈ popM fin at_ r, c ∈ r) ∧ (popM fin at_ r).length ≤ r.length := by
 obtain ⟨h1, h2⟩ := popR_sub fin at_ r.reverse
 refine ⟨fun c hc => ?_, by simpa [popM] using h2⟩
 simp only [popM, List.mem_reverse] at hc
 simpa using h1 c hc
structure OwnG (D : List Nat) (sw sr : Nat → List Nat) (mu : Nat → Nat) : Prop where
 w : ∀ x ∈ D, ∀ c ∈ sw x, c ∈ D ∧ mu c < mu x
 r : ∀ x ∈ D, ∀ c ∈ sr x, c ∈ D ∧ mu c < mu x
 l : ∀ x ∈ D, (sw x).length + (sr x).length ≤ 1000
theorem OwnG.next {D : List Nat} {sw sr : Nat → List Nat} {mu : Nat → Nat} (h : OwnG D sw sr mu) (fin : Nat → Nod) (at_ : Int) {x : Nat} (hx : x ∈ D) : OwnG D (upF sw x (nextM fin at_ (sw x) (sr x)).2.1) (upF sr x (nextM fin at_ (sw x) (sr x)).2.2) mu ∧ ∀ c, (nextM fin at_ (sw x) (sr x)).1 = some c → c ∈ D ∧ mu c < mu x := by
 obtain ⟨m1, m2, m3⟩ := moveM_sub fin at_ (sw x) (sr x)
 obtain ⟨p1, p2⟩ := popM_sub fin at_ (moveM fin at_ (sw x) (sr x)).2
 have hr : ∀ c ∈ (nextM fin at_ (sw x) (sr x)).2.2, c ∈ D ∧ mu c < mu x := fun c hc => by
  rcases m2 c (p1 c hc) with h' | h'
  ·exact h.w x hx c h'
  ·exact h.r x hx c h'
 refine ⟨⟨fun y hy c hc => ?_, fun y hy c hc => ?_, fun y hy => ?_⟩, fun c hc => hr c (List.mem_of_getLast? hc)⟩
 ·by_cases e : y = x
  ·subst e; rw [upF_same] at hc; exact h.w y hy c (m1 c hc)
  ·rw [upF_ne _ _ e] at hc; exact h.w y hy c hc
 ·by_cases e : y = x
  ·subst e; rw [upF_same] at hc; exact hr c hc
  ·rw [upF_ne _ _ e] at hc; exact h.r y hy c hc
 ·by_cases e : y = x
  ·subst e
   rw [upF_same, upF_same]
   have := h.l y hy
   show (moveM fin at_ (sw y) (sr y)).1.length + (popM fin at_ (moveM fin at_ (sw y) (sr y)).2).length ≤ 1000
   omega
  ·rw [upF_ne _ _ e, upF_ne _ _ e]; exact h.l y hy
def ownerM (fin : Nat → Nod) (at_ : Int) : Nat → (Nat → List Nat) → (Nat → List Nat) → Nat → Nat × (Nat → List Nat) × (Nat → List Nat)
 | 0, sw, sr, x => (x, sw, sr)
 | fu + 1, sw, sr, x => match (nextM fin at_ (sw x) (sr x)).1 with
  | none => (x, upF sw x (nextM fin at_ (sw x) (sr x)).2.1, upF sr x (nextM fin at_ (sw x) (sr x)).2.2)
  | some c => ownerM fin at_ fu (upF sw x (nextM fin at_ (sw x) (sr x)).2.1) (upF sr x (nextM fin at_ (sw x) (sr x)).2.2) c
def ptrM (f : Nat → Nat) : Value → Nat
 | .pointer (some a) => f a.block + 1
 | _ => 0
set_option maxHeartbeats 4000000 in
theorem owner_any (base : Nat) (fin : Nat → Nod) (D : List Nat) (B : Nat → Nat) (sw sr : Nat → List Nat) (wv rv : Nat → Value) (wb : Nat → Nat) (mu : Nat → Nat) (x : Nat) (hx : x ∈ D) (at_ : Int) (W : World) (h : OwnS base W fin D B sw sr wv rv wb) (hG : OwnG D sw sr mu) :
  Calls Tryz.prog 67 #[pB B x, .int .i64 at_] W fun e W' => e = .returned (.int .u64 (fin (ownerM fin at_ (mu x + 1) sw sr x).1).id) ∧ (∃ wv' rv', OwnS base W' fin D B (ownerM fin at_ (mu x + 1) sw sr x).2.1 (ownerM fin at_ (mu x + 1) sw sr x).2.2 wv' rv' wb) ∧ OwnG D (ownerM fin at_ (mu x + 1) sw sr x).2.1 (ownerM fin at_ (mu x + 1) sw sr x).2.2 mu ∧ UpO base W W' := by
 obtain ⟨f, hf⟩ : ∃ f : Nat → Nat, ∀ y ∈ D, f (B y) = mu y := by
  classical
  refine ⟨fun b => if hb : ∃ y, y ∈ D ∧ B y = b then mu hb.choose else 0, fun y hy => ?_⟩
  have hb : ∃ z, z ∈ D ∧ B z = B y := ⟨y, hy, rfl⟩
  have h1 := hb.choose_spec
  have e := h.inj _ h1.1 y hy h1.2
  simp only [hb, dite_true]
  rw [e]
 have HF : Hid (∀ y ∈ D, f (B y) = mu y) := hf
 generalize hres : ownerM fin at_ (mu x + 1) sw sr x = res
 have STEP : Hid (∀ (y : Nat) (sw1 sr1 : Nat → List Nat) (wv1 rv1 : Nat → Value) (wr : World) (fu : Nat), y ∈ D → OwnS base wr fin D B sw1 sr1 wv1 rv1 wb → OwnG D sw1 sr1 mu → mu y < fu → ownerM fin at_ fu sw1 sr1 y = res → UpO base W wr →
   Calls Tryz.prog 103 #[pB B y, .int .i64 at_] wr fun e W' => ∃ sw2 sr2 wv2 rv2, OwnS base W' fin D B sw2 sr2 wv2 rv2 wb ∧ OwnG D sw2 sr2 mu ∧ UpO base W W' ∧ ((∃ c fu2, c ∈ D ∧ e = .returned (pB B c) ∧ mu c < mu y ∧ mu c < fu2 ∧ ownerM fin at_ fu2 sw2 sr2 c = res) ∨ (e = .returned (.pointer none) ∧ res = (y, sw2, sr2)))) := fun y sw1 sr1 wv1 rv1 wr fu hy hO hG1 hfu hm hU => by
  obtain ⟨hG2, hc2⟩ := hG1.next fin at_ hy
  refine (next_any base fin D B sw1 sr1 wv1 rv1 wb y hy at_ wr hO (fun c hc => (hG1.w y hy c hc).1) (fun c hc => (hG1.r y hy c hc).1) (hG1.l y hy)).mono ?_
  rintro e W' ⟨rfl, ⟨wv2, rv2, hO2⟩, hU2⟩
  refine ⟨_, _, wv2, rv2, hO2, hG2, hU.trans hU2, ?_⟩
  cases fu with
  | zero => omega
  | succ fu =>
   cases hn : (nextM fin at_ (sw1 y) (sr1 y)).1 with
   | none =>
    right
    refine ⟨rfl, ?_⟩
    rw [← hm]
    simp only [ownerM, hn]
   | some c =>
    left
    obtain ⟨h1, h2⟩ := hc2 c hn
    refine ⟨c, fu, h1, rfl, h2, by omega, ?_⟩
    rw [← hm]
    simp only [ownerM, hn]
 have START : Hid (OwnS base W fin D B sw sr wv rv wb ∧ OwnG D sw sr mu ∧ x ∈ D ∧ ownerM fin at_ (mu x + 1) sw sr x = res) := ⟨h, hG, hx, hres⟩
 clear h hG hx hf hres
 have e0 : pB B x = .pointer (some ⟨B x, 0, none⟩) := rfl
 rw [e0]
 clear e0
 go_enter Tryz.func67, Tryz.ntmps67
 go_wp2
 go_loopw [0, 5] (fun s nx wr => ∃ sw1 sr1 wv1 rv1, OwnS base wr fin D B sw1 sr1 wv1 rv1 wb ∧ OwnG D sw1 sr1 mu ∧ UpO base W wr ∧ ((∃ y fu, y ∈ D ∧ nx = .pointer (some ⟨B y, 0, none⟩) ∧ mu y < fu ∧ ownerM fin at_ fu sw1 sr1 y = res) ∨ (nx = .pointer none ∧ ∃ y, y ∈ D ∧ s = .pointer (some ⟨B y, 0, none⟩) ∧ res = (y, sw1, sr1)))) (fun _ nx _ => ptrM f nx)
 case atStart => exact ⟨sw, sr, wv, rv, START.out.1, START.out.2.1, UpO.refl _ _, Or.inl ⟨x, mu x + 1, START.out.2.2.1, rfl, by omega, START.out.2.2.2⟩⟩
 case round =>
  obtain ⟨sw1, sr1, wv1, rv1, hO, hG, hU, hcase⟩ := hrel
  rcases hcase with ⟨y, fu, hy, rfl, hfu, hm⟩ | ⟨rfl, y, hy, rfl, hres⟩
  ·have NX := STEP.out y sw1 sr1 wv1 rv1 wr fu hy hO hG hfu hm hU
   have e1 : pB B y = .pointer (some ⟨B y, 0, none⟩) := rfl
   rw [e1] at NX
   have HY : Hid (y ∈ D) := hy
   clear hO hG hU hm hfu hy e1
   go_wp2_with (go_at_call 103; refine NX.mono ?_; clear NX; rintro e W' ⟨sw2, sr2, wv2, rv2, hO2, hG2, hU2, hcc⟩; have HO2 : Hid (OwnS base W' fin D B sw2 sr2 wv2 rv2 wb ∧ OwnG D sw2 sr2 mu ∧ UpO base W W') := ⟨hO2, hG2, hU2⟩; clear hO2 hG2 hU2; rcases hcc with ⟨c, fu2, hc, rfl, h1, h2, h3⟩ | ⟨rfl, h1⟩)
   ·have HC : Hid (c ∈ D ∧ mu c < mu y ∧ mu c < fu2 ∧ ownerM fin at_ fu2 sw2 sr2 c = res) := ⟨hc, h1, h2, h3⟩
    clear hc h1 h2 h3
    go_roundw
    case rel => exact ⟨sw2, sr2, wv2, rv2, HO2.out.1, HO2.out.2.1, HO2.out.2.2, Or.inl ⟨c, fu2, HC.out.1, rfl, HC.out.2.2.1, HC.out.2.2.2⟩⟩
    case measure =>
     show ptrM f (pB B c) < ptrM f (.pointer (some ⟨B y, 0, none⟩))
     simp only [pB, ptrM, HF.out c HC.out.1, HF.out y HY.out]
     have := HC.out.2.1
     omega
   ·have HR : Hid (res = (y, sw2, sr2)) := h1
    clear h1
    go_roundw
    case rel => exact ⟨sw2, sr2, wv2, rv2, HO2.out.1, HO2.out.2.1, HO2.out.2.2, Or.inr ⟨rfl, y, HY.out, rfl, HR.out⟩⟩
    case measure =>
     show ptrM f (.pointer none) < ptrM f (.pointer (some ⟨B y, 0, none⟩))
     simp [ptrM]
  ·have c0 : wr.cell? ⟨B y, 0, none⟩ = some (.int .u64 (fin y).id) := (hO.blk y hy).cell 0 rfl
   have HO : Hid (OwnS base wr fin D B sw1 sr1 wv1 rv1 wb ∧ OwnG D sw1 sr1 mu ∧ UpO base W wr) := ⟨hO, hG, hU⟩
   have HR : Hid (res = (y, sw1, sr1)) := hres
   clear hO hG hU hres hy STEP START
   go_wp2
   go_ret
   rw [HR.out]
   exact ⟨rfl, ⟨wv1, rv1, HO.out.1⟩, HO.out.2.1, HO.out.2.2⟩
end Go.Proofs.YtnffedmcblbkoaaGreatDoor
namespace Go.Proofs.YtnffedmcblbkoaaGreatDoor
open Go Go.Shelf Go.RowKit Go.Lib Go.Sort
set_option maxRecDepth 100000
def Tryz.sortOw_ren : Go.Shelf.Ren := ⟨fun | 6 => 99 | 15 => 79 | 14 => 148 | 28 => 119 | 29 => 120 | 20 => 199 | 21 => 200 | 22 => 201 | 23 => 202 | 24 => 203 | 25 => 204 | 26 => 205 | 27 => 206 | 46 => 231 | 47 => 177 | 48 => 178 | 49 => 232 | 50 => 233 | 57 => 243 | n => n, fun | 22 => 155 | 24 => 153 | 25 => 197 | 3 => 3 | 39 => 168 | 0 => 0 | 53 => 214 | 55 => 32 | 4 => 4 | 46 => 208 | 45 => 207 | 50 => 93 | 5 => 5 | 9 => 9 | 66 => 256 | 70 => 260 | 76 => 290 | 77 => 291 | n => n, fun | n => n⟩
theorem Tryz.sortOw : Go.Proofs.SlLaysF.n6 Tryz.prog Tryz.sortOw_ren := {
 mixed := by kernel_rfl
 f6 := ⟨Tryz.f99.name, by decide, Tryz.func99.trans (congrArg some (by kernel_rfl))⟩
 f14 := ⟨Tryz.f148.name, by decide, Tryz.func148.trans (congrArg some (by kernel_rfl))⟩
 f15 := Tryz.func79.trans (congrArg some (by kernel_rfl))
 f20 := ⟨Tryz.f199.name, by decide, Tryz.func199.trans (congrArg some (by kernel_rfl))⟩
 f21 := ⟨Tryz.f200.name, by decide, Tryz.func200.trans (congrArg some (by kernel_rfl))⟩
 f22 := ⟨Tryz.f201.name, by decide, Tryz.func201.trans (congrArg some (by kernel_rfl))⟩
 f23 := ⟨Tryz.f202.name, by decide, Tryz.func202.trans (congrArg some (by kernel_rfl))⟩
 f24 := ⟨Tryz.f203.name, by decide, Tryz.func203.trans (congrArg some (by kernel_rfl))⟩
 f25 := ⟨Tryz.f204.name, by decide, Tryz.func204.trans (congrArg some (by kernel_rfl))⟩
 f26 := ⟨Tryz.f205.name, by decide, Tryz.func205.trans (congrArg some (by kernel_rfl))⟩
 f27 := ⟨Tryz.f206.name, by decide, Tryz.func206.trans (congrArg some (by kernel_rfl))⟩
 f28 := Tryz.func119.trans (congrArg some (by kernel_rfl))
 f29 := Tryz.func120.trans (congrArg some (by kernel_rfl))
 f46 := ⟨Tryz.f231.name, by decide, Tryz.func231.trans (congrArg some (by kernel_rfl))⟩
 f47 := Tryz.func177.trans (congrArg some (by kernel_rfl))
 f48 := Tryz.func178.trans (congrArg some (by kernel_rfl))
 f49 := ⟨Tryz.f232.name, by decide, Tryz.func232.trans (congrArg some (by kernel_rfl))⟩
 f50 := ⟨Tryz.f233.name, by decide, Tryz.func233.trans (congrArg some (by kernel_rfl))⟩
 f57 := ⟨Tryz.f243.name, by decide, Tryz.func243.trans (congrArg some (by kernel_rfl))⟩
 t0 := Tryz.underlying0
 a0 := Tryz.isAgg0
 z0 := Tryz.sizeOf0
 v0 := Tryz.zeroValue0
 t3 := Tryz.underlying3
 a3 := Tryz.isAgg3
 z3 := Tryz.sizeOf3
 v3 := Tryz.zeroValue3
 t4 := Tryz.underlying4
 a4 := Tryz.isAgg4
 z4 := Tryz.sizeOf4
 v4 := Tryz.zeroValue4
 t5 := Tryz.underlying5
 a5 := Tryz.isAgg5
 z5 := Tryz.sizeOf5
 v5 := Tryz.zeroValue5
 t9 := Tryz.underlying9
 a9 := Tryz.isAgg9
 z9 := Tryz.sizeOf9
 v9 := Tryz.zeroValue9
 t22 := Tryz.underlying155
 a22 := Tryz.isAgg155
 z22 := Tryz.sizeOf155
 v22 := Tryz.zeroValue155
 a24 := Tryz.isAgg153
 z24 := Tryz.sizeOf153
 t25 := Tryz.underlying197
 a25 := Tryz.isAgg197
 z25 := Tryz.sizeOf197
 v25 := Tryz.zeroValue197
 t39 := Tryz.underlying168
 a39 := Tryz.isAgg168
 z39 := Tryz.sizeOf168
 v39 := Tryz.zeroValue168
 t45 := Tryz.underlying207
 a45 := Tryz.isAgg207
 z45 := Tryz.sizeOf207
 v45 := Tryz.zeroValue207
 t46 := Tryz.underlying208
 a46 := Tryz.isAgg208
 z46 := Tryz.sizeOf208
 v46 := Tryz.zeroValue208
 t50 := Tryz.underlying93
 a50 := Tryz.isAgg93
 z50 := Tryz.sizeOf93
 v50 := Tryz.zeroValue93
 t53 := Tryz.underlying214
 a53 := Tryz.isAgg214
 z53 := Tryz.sizeOf214
 v53 := Tryz.zeroValue214
 t55 := Tryz.underlying32
 a55 := Tryz.isAgg32
 z55 := Tryz.sizeOf32
 v55 := Tryz.zeroValue32
 t66 := Tryz.underlying256
 a66 := Tryz.isAgg256
 z66 := Tryz.sizeOf256
 v66 := Tryz.zeroValue256
 t70 := Tryz.underlying260
 a70 := Tryz.isAgg260
 z70 := Tryz.sizeOf260
 v70 := Tryz.zeroValue260
 t76 := Tryz.underlying290
 a76 := Tryz.isAgg290
 z76 := Tryz.sizeOf290
 v76 := Tryz.zeroValue290
 t77 := Tryz.underlying291
 a77 := Tryz.isAgg291
 z77 := Tryz.sizeOf291
 v77 := Tryz.zeroValue291 }
def Tryz.sortOw0_ren : Go.Shelf.Ren := ⟨fun | 6 => 99 | 15 => 79 | 14 => 148 | 28 => 119 | 29 => 120 | 20 => 199 | 21 => 200 | 22 => 201 | 23 => 202 | 24 => 203 | 25 => 204 | 26 => 205 | 27 => 206 | 46 => 231 | 47 => 177 | 48 => 178 | 49 => 232 | 50 => 233 | 57 => 243 | n => n, fun | 22 => 155 | 24 => 153 | 25 => 197 | 3 => 3 | 39 => 168 | 0 => 0 | 53 => 214 | 55 => 32 | 4 => 4 | 46 => 208 | 45 => 207 | 50 => 93 | 5 => 5 | 9 => 9 | 66 => 256 | 70 => 260 | 76 => 290 | 77 => 291 | n => n, fun | n => n⟩
theorem Tryz.sortOw0 : Go.Proofs.SlLaysF0.n6 Tryz.prog Tryz.sortOw0_ren := {
 mixed := by kernel_rfl
 f6 := ⟨Tryz.f99.name, by decide, Tryz.func99.trans (congrArg some (by kernel_rfl))⟩
 f14 := ⟨Tryz.f148.name, by decide, Tryz.func148.trans (congrArg some (by kernel_rfl))⟩
 f15 := Tryz.func79.trans (congrArg some (by kernel_rfl))
 f20 := ⟨Tryz.f199.name, by decide, Tryz.func199.trans (congrArg some (by kernel_rfl))⟩
 f21 := ⟨Tryz.f200.name, by decide, Tryz.func200.trans (congrArg some (by kernel_rfl))⟩
 f22 := ⟨Tryz.f201.name, by decide, Tryz.func201.trans (congrArg some (by kernel_rfl))⟩
 f23 := ⟨Tryz.f202.name, by decide, Tryz.func202.trans (congrArg some (by kernel_rfl))⟩
 f24 := ⟨Tryz.f203.name, by decide, Tryz.func203.trans (congrArg some (by kernel_rfl))⟩
 f25 := ⟨Tryz.f204.name, by decide, Tryz.func204.trans (congrArg some (by kernel_rfl))⟩
 f26 := ⟨Tryz.f205.name, by decide, Tryz.func205.trans (congrArg some (by kernel_rfl))⟩
 f27 := ⟨Tryz.f206.name, by decide, Tryz.func206.trans (congrArg some (by kernel_rfl))⟩
 f28 := Tryz.func119.trans (congrArg some (by kernel_rfl))
 f29 := Tryz.func120.trans (congrArg some (by kernel_rfl))
 f46 := ⟨Tryz.f231.name, by decide, Tryz.func231.trans (congrArg some (by kernel_rfl))⟩
 f47 := Tryz.func177.trans (congrArg some (by kernel_rfl))
 f48 := Tryz.func178.trans (congrArg some (by kernel_rfl))
 f49 := ⟨Tryz.f232.name, by decide, Tryz.func232.trans (congrArg some (by kernel_rfl))⟩
 f50 := ⟨Tryz.f233.name, by decide, Tryz.func233.trans (congrArg some (by kernel_rfl))⟩
 f57 := ⟨Tryz.f243.name, by decide, Tryz.func243.trans (congrArg some (by kernel_rfl))⟩
 t0 := Tryz.underlying0
 a0 := Tryz.isAgg0
 z0 := Tryz.sizeOf0
 v0 := Tryz.zeroValue0
 t3 := Tryz.underlying3
 a3 := Tryz.isAgg3
 z3 := Tryz.sizeOf3
 v3 := Tryz.zeroValue3
 t4 := Tryz.underlying4
 a4 := Tryz.isAgg4
 z4 := Tryz.sizeOf4
 v4 := Tryz.zeroValue4
 t5 := Tryz.underlying5
 a5 := Tryz.isAgg5
 z5 := Tryz.sizeOf5
 v5 := Tryz.zeroValue5
 t9 := Tryz.underlying9
 a9 := Tryz.isAgg9
 z9 := Tryz.sizeOf9
 v9 := Tryz.zeroValue9
 t22 := Tryz.underlying155
 a22 := Tryz.isAgg155
 z22 := Tryz.sizeOf155
 v22 := Tryz.zeroValue155
 t25 := Tryz.underlying197
 a25 := Tryz.isAgg197
 z25 := Tryz.sizeOf197
 v25 := Tryz.zeroValue197
 t39 := Tryz.underlying168
 a39 := Tryz.isAgg168
 z39 := Tryz.sizeOf168
 v39 := Tryz.zeroValue168
 t45 := Tryz.underlying207
 a45 := Tryz.isAgg207
 z45 := Tryz.sizeOf207
 v45 := Tryz.zeroValue207
 t46 := Tryz.underlying208
 a46 := Tryz.isAgg208
 z46 := Tryz.sizeOf208
 v46 := Tryz.zeroValue208
 t50 := Tryz.underlying93
 a50 := Tryz.isAgg93
 z50 := Tryz.sizeOf93
 v50 := Tryz.zeroValue93
 t53 := Tryz.underlying214
 a53 := Tryz.isAgg214
 z53 := Tryz.sizeOf214
 v53 := Tryz.zeroValue214
 t55 := Tryz.underlying32
 a55 := Tryz.isAgg32
 z55 := Tryz.sizeOf32
 v55 := Tryz.zeroValue32
 t66 := Tryz.underlying256
 a66 := Tryz.isAgg256
 z66 := Tryz.sizeOf256
 v66 := Tryz.zeroValue256
 t70 := Tryz.underlying260
 a70 := Tryz.isAgg260
 z70 := Tryz.sizeOf260
 v70 := Tryz.zeroValue260
 t76 := Tryz.underlying290
 a76 := Tryz.isAgg290
 z76 := Tryz.sizeOf290
 v76 := Tryz.zeroValue290
 t77 := Tryz.underlying291
 a77 := Tryz.isAgg291
 z77 := Tryz.sizeOf291
 v77 := Tryz.zeroValue291 }
def cmpG (a b : Nod) : Int := orL [cmpI a.fr b.fr, cmpI b.id a.id]
def ltG (a b : Nod) : Prop := a.fr < b.fr ∨ a.fr = b.fr ∧ b.id < a.id
theorem cmpG_lt (a b : Nod) : cmpG a b < 0 ↔ ltG a b := by
 unfold cmpG ltG orL orL orL orI cmpI
 by_cases h1 : a.fr < b.fr
 ·simp [h1]
 ·by_cases h2 : b.fr < a.fr
  ·simp [h1, h2]; omega
  ·have h3 : a.fr = b.fr := by omega
   by_cases h4 : b.id < a.id
   ·simp [h4, h3]
   ·by_cases h5 : a.id < b.id <;> simp [h4, h5, h3]
set_option maxHeartbeats 4000000 in
theorem gcmp_any (ba bb : Nat) (a b : Nod) (W : World) (a0 : W.cell? ⟨ba, 0, none⟩ = some (.int .u64 a.id)) (a1 : W.cell? ⟨ba, 1, none⟩ = some (.int .i64 a.fr)) (b0 : W.cell? ⟨bb, 0, none⟩ = some (.int .u64 b.id)) (b1 : W.cell? ⟨bb, 1, none⟩ = some (.int .i64 b.fr)) :
  Calls Tryz.prog 100 #[.pointer (some ⟨ba, 0, none⟩), .pointer (some ⟨bb, 0, none⟩)] W fun e w' => e = .returned (.int .i64 (cmpG a b)) ∧ ∃ q os', w' = grow (W.drewN q) os' := by
 have OR := fun w' n h => or_at w' n [cmpI a.fr b.fr, cmpI b.id a.id] h (by simp)
 simp only [List.map, List.length] at OR
 have n0 : ∀ o, (W.alloc o).cell? ⟨ba, 0, none⟩ = some (.int .u64 a.id) := fun o => (World.cell?_alloc_lt W o ⟨ba, 0, none⟩ (World.block_lt_of_cell? W _ a0)).trans a0
 have n1 : ∀ o, (W.alloc o).cell? ⟨ba, 1, none⟩ = some (.int .i64 a.fr) := fun o => (World.cell?_alloc_lt W o ⟨ba, 1, none⟩ (World.block_lt_of_cell? W _ a1)).trans a1
 have n2 : ∀ o, (W.alloc o).cell? ⟨bb, 0, none⟩ = some (.int .u64 b.id) := fun o => (World.cell?_alloc_lt W o ⟨bb, 0, none⟩ (World.block_lt_of_cell? W _ b0)).trans b0
 have n3 : ∀ o, (W.alloc o).cell? ⟨bb, 1, none⟩ = some (.int .i64 b.fr) := fun o => (World.cell?_alloc_lt W o ⟨bb, 1, none⟩ (World.block_lt_of_cell? W _ b1)).trans b1
 have HG : Hid (∀ o, ∃ q os', (W.alloc o).drew = grow (W.drewN q) os') := fun o => ⟨1, #[o], by simp only [World.alloc, World.drewN, World.drew, grow]; rfl⟩
 unfold cmpG
 go_enter Tryz.func100, Tryz.ntmps100
 go_wp2
 go_region_held3 (fun w' => w'.cell? ⟨ba, 0, none⟩ = some (.int .u64 a.id) ∧ w'.cell? ⟨ba, 1, none⟩ = some (.int .i64 a.fr) ∧ w'.cell? ⟨bb, 0, none⟩ = some (.int .u64 b.id) ∧ w'.cell? ⟨bb, 1, none⟩ = some (.int .i64 b.fr)) (simp [go_sem, a0, a1, b0, b1, n0, n1, n2, n3])
  (first
   | (go_at_call 102; refine (cmp_i64 _ _ _).mono ?_; rintro e w' ⟨rfl, rfl⟩)
   | (go_at_call 49; refine (cmp_id _ _ _).mono ?_; rintro e w' ⟨rfl, rfl⟩)
   | (go_at_call 101; refine (OR _ _ rfl).mono ?_; rintro e w' ⟨rfl, rfl⟩))
 go_wp2
 go_ret
 refine ⟨rfl, ?_⟩
 exact HG.out _
theorem ext_all {α : Type} (d : Array α) (n : Nat) (h : d.size = n) : d.extract 0 n = d := by
 subst h
 simp
def encG (B : Nat → Nat) (L : List Nat) (i : Fin L.length) : Value := pB B (L[i.val]'i.isLt)
def cmpGF (fin : Nat → Nod) (L : List Nat) (i j : Fin L.length) : Int := cmpG (fin (L[i.val]'i.isLt)) (fin (L[j.val]'j.isLt))
theorem ltGF (fin : Nat → Nod) (L : List Nat) (i j : Fin L.length) : ltOf (cmpGF fin L) i j = true ↔ ltG (fin (L[i.val]'i.isLt)) (fin (L[j.val]'j.isLt)) := by
 unfold ltOf cmpGF
 rw [← cmpG_lt]
 simp
theorem swoG (fin : Nat → Nod) (L : List Nat) : SWO (ltOf (cmpGF fin L)) where
 irrefl x := by
  rw [Bool.eq_false_iff, ne_eq, ltGF]; unfold ltG; omega
 trans x y z h1 h2 := by
  rw [ltGF] at *; unfold ltG at *; omega
 ntrans x y z h1 h2 := by
  rw [Bool.eq_false_iff, ne_eq, ltGF] at *; unfold ltG at *; omega
theorem sortG_any (base : Nat) (fin : Nat → Nod) (B : Nat → Nat) (v : Value) (L : List Nat) (W : World) (hv : W.ownsRow base 153 1 v L.length (L.map (pB B))) (hL : ∀ x ∈ L, ∃ wv rv, Blk W (B x) (spL (fin x) wv rv) 157) (hl : L.length ≤ 1000) :
  Calls Tryz.prog 99 #[v, .func (.func 100) #[] #[]] W fun e w' => e = .returned (.tuple #[]) ∧ ∃ L' : List Nat, L.Perm L' ∧ L'.Pairwise (fun a b => ¬ ltG (fin b) (fin a)) ∧ w'.ownsRow base 153 1 v L.length (L'.map (pB B)) ∧ Upd (fun k => v.ownBlock = some k) W w' := by
 by_cases h0 : L = []
 ·subst h0
  rcases hv.2 with ⟨rfl, _⟩ | ⟨g, cap, cur, rfl, _⟩
  ·refine (AnyF.slices_SortFunc_none Tryz.sortOw0 none 0 _ W).mono ?_
   rintro e w' ⟨rfl, rfl⟩
   exact ⟨rfl, [], List.Perm.refl _, List.Pairwise.nil, hv, Upd.refl _ _⟩
  ·refine (AnyF.slices_SortFunc_none Tryz.sortOw0 _ cap _ W).mono ?_
   rintro e w' ⟨rfl, rfl⟩
   exact ⟨rfl, [], List.Perm.refl _, List.Pairwise.nil, hv, Upd.refl _ _⟩
 ·have hpos : 0 < L.length := List.length_pos_iff.2 h0
  rcases hv.2 with ⟨_, e⟩ | ⟨g, cap, cur, rfl, hbg, hh, hnc, hcm, hcs, ht⟩
  ·omega
  ·haveI : Inhabited (Fin L.length) := ⟨⟨0, hpos⟩⟩
   obtain ⟨d, hd⟩ : ∃ d : Array (Fin L.length), d = (List.finRange L.length).toArray := ⟨_, rfl⟩
   have hds : d.size = L.length := by rw [hd]; simp
   have hdi : ∀ j (hj : j < L.length), (d[j]!).val = j := fun j hj => by rw [hd]; simp [hj]
   have hdm : d.toList.map (encG B L) = L.map (pB B) := by
    rw [hd]
    apply List.ext_getElem
    ·simp
    ·intro i h1 h2
     simp [encG]
   have hgl : g < W.heap.size := lt_of_block hh
   have hH : Go.Sort.Holds (encG B L) W g 0 d := by
    intro j hj
    rw [hds] at hj
    have hjc : j < cur.size := by omega
    have hge : cur.toList[j]'(by simpa using hjc) = encG B L d[j]! := by
     have e1 : (cur.toList.take (L.length * 1))[j]? = (d.toList.map (encG B L))[j]? := by rw [ht, hdm]
     rw [List.getElem?_take_of_lt (by omega), List.getElem?_eq_getElem (by simpa using hjc)] at e1
     rw [List.getElem?_eq_getElem (by simp; omega)] at e1
     simp at e1
     rw [show d[j]! = d[j]'(by omega) by simp [hds, hj]]
     simpa using e1
    refine ⟨?_, by simp [World.frozen?, hh]⟩
    simp only [Nat.zero_add, World.cell?, hh]
    simp at hge
    simp [hjc, hge]
   have eg : ∀ args w, (callFunc 100 args).run Tryz.prog w = .ok (.enter 100 args) w := enters_of Tryz.func100 (by kernel_rfl) rfl
   have hcmp : CmpLays1 Tryz.prog 100 #[] (encG B L) (cmpGF fin L) g 0 d.size W := by
    intro q os dk _ x y
    have hu := upd_sortW (encG B L) W g 0 q dk os
    have hbk : ∀ z ∈ L, ∃ wv rv, Blk (sortWorld (encG B L) W g 0 q dk os) (B z) (spL (fin z) wv rv) 157 := fun z hz => by
     obtain ⟨wv, rv, hb⟩ := hL z hz
     refine ⟨wv, rv, hb.upd hu (fun e => ?_)⟩
     unfold Blk at hb
     rw [e, hh] at hb
     simp at hb
    obtain ⟨_, _, bx⟩ := hbk _ (List.getElem_mem x.isLt)
    obtain ⟨_, _, by'⟩ := hbk _ (List.getElem_mem y.isLt)
    exact gcmp_any _ _ _ _ _ (bx.cell 0 rfl) (bx.cell 1 rfl) (by'.cell 0 rfl) (by'.cell 1 rfl)
   have hcon := Any.slices_SortFunc Tryz.sortOw (encG B L) (fun _ => rfl) (cmpGF fin L) (swoG fin L) 100 #[] g 0 cap d W eg hcmp hH hgl (by rw [hds]; omega)
   rw [hds] at hcon
   refine hcon.mono ?_
   rintro e w' ⟨rfl, d', q, os, hp, hs, rfl⟩
   have hd' : d'.size = L.length := by have := hp.1; omega
   refine ⟨rfl, d'.toList.map (fun i => L[i.val]'i.isLt), ?_, ?_, ?_, ?_⟩
   ·obtain ⟨h1, _, h3⟩ := hp
    have e1 : d.extract 0 L.length = d := ext_all d _ hds
    have e2 : d'.extract 0 L.length = d' := ext_all d' _ hd'
    rw [e1, e2] at h3
    have h4 : d.toList.Perm d'.toList := h3.symm
    have h5 := h4.map (fun i : Fin L.length => L[i.val]'i.isLt)
    have e3 : d.toList.map (fun i : Fin L.length => L[i.val]'i.isLt) = L := by
     rw [hd]
     apply List.ext_getElem
     ·simp
     ·intro i h1 h2
      simp
    rwa [e3] at h5
   ·rw [List.pairwise_map, List.pairwise_iff_getElem]
    intro i j hi hj hij hlt
    simp at hi hj
    have h3 := hs i j (Nat.zero_le _) hij (by omega)
    rw [Bool.eq_false_iff, ne_eq, ltGF] at h3
    refine h3 ?_
    have a1 : d'[i]! = d'[i] := by simp [hi]
    have a2 : d'[j]! = d'[j] := by simp [hj]
    rw [a1, a2]
    simpa using hlt
   ·refine ⟨by simp; omega, Or.inr ⟨g, cap, putCells (encG B L) 0 d' cur, rfl, hbg, heap_sortW (encG B L) hh q d' os, hnc, hcm, by simp [putCells, hcs], ?_⟩⟩
    have := take_put (encG B L) d' cur (by omega)
    rw [hd'] at this
    rw [Nat.mul_one, this, List.map_map]
    rfl
   ·exact (upd_sortW (encG B L) W g 0 q d' os).mono (fun k _ e => by simp [Value.ownBlock, e])
end Go.Proofs.YtnffedmcblbkoaaGreatDoor
namespace Go.Proofs.YtnffedmcblbkoaaGreatDoor
open Go Go.RowKit
set_option maxRecDepth 100000
def endsN (fin : Nat → Nod) (L : List Nat) : List Int := L.flatMap (fun x => [(fin x).fr, (fin x).til])
theorem endsN_app (fin : Nat → Nod) (L M : List Nat) : endsN fin (L ++ M) = endsN fin L ++ endsN fin M := by simp [endsN]
theorem endsN_len (fin : Nat → Nod) (L : List Nat) : (endsN fin L).length = 2 * L.length := by
 induction L with
 | nil => rfl
 | cons x r ih => simp only [endsN, List.flatMap_cons, List.length_append, List.length_cons, List.length_nil] at ih ⊢; omega
def trL (a b : Int) (ev lk : Value) : Array Value := #[.int .i64 a, .int .i64 b, ev, lk]
theorem trL_set2 (a b : Int) (ev lk v : Value) : (trL a b ev lk).setIfInBounds 2 v = trL a b v lk := rfl
structure GrwO (base : Nat) (W : World) (fin : Nat → Nod) (sw : Nat → List Nat) (tb : Nat) (c0 c1 : Int) (lk : Value) (D : List Nat) (B : Nat → Nat) (wv : Nat → Value) (wb : Nat → Nat) (ev : Value) (E : List Int) : Prop where
 own : OwnS base W fin D B sw nils wv (fun _ => nilV) wb
 tree : Blk W tb (trL c0 c1 ev lk) 136
 ends : W.ownsRow base 2 1 ev E.length (E.map (Value.int .i64))
 tl : base ≤ tb
 cl : ∀ y ∈ D, ∀ c ∈ sw y, c ∈ D
def GrwW (tb : Nat) (ev : Value) (k : Nat) : Prop := k = tb ∨ ev.ownBlock = some k
theorem GrwO.noW {base : Nat} {W : World} {fin : Nat → Nod} {sw : Nat → List Nat} {tb : Nat} {c0 c1 : Int} {lk : Value} {D : List Nat} {B : Nat → Nat} {wv : Nat → Value} {wb : Nat → Nat} {ev : Value} {E : List Int} (h : GrwO base W fin sw tb c0 c1 lk D B wv wb ev E) {b : Nat} {c : Array Value} {T : TypeId} {fr : Nat × Nat} (hb : W.heap[b]? = some (.cells c T fr)) (h1 : T ≠ 136) (h2 : T ≠ 2) : ¬ GrwW tb ev b := by
 rintro (e | e)
 ·have ht := h.tree
  unfold Blk at ht
  rw [← e, hb] at ht
  simp at ht
  exact h1 ht.2.1
 ·obtain ⟨cur, hh⟩ := owns_type h.ends e
  rw [hb] at hh
  simp at hh
  exact h2 hh.2.1
theorem GrwO.below {base : Nat} {W W' : World} {fin : Nat → Nod} {sw : Nat → List Nat} {tb : Nat} {c0 c1 : Int} {lk : Value} {D : List Nat} {B : Nat → Nat} {wv : Nat → Value} {wb : Nat → Nat} {ev : Value} {E : List Int} (h : GrwO base W fin sw tb c0 c1 lk D B wv wb ev E) (hb : Below W.heap.size W W') : GrwO base W' fin sw tb c0 c1 lk D B wv wb ev E :=
 ⟨h.own.below hb, h.tree.below hb h.tree.lt, ownsRow_upd h.ends (Upd.ofBelow (S := fun _ => False) hb (fun k h1 h2 => by omega)) (fun _ _ h => h), h.tl, h.cl⟩
theorem GrwO.other {base : Nat} {W W' : World} {fin : Nat → Nod} {sw : Nat → List Nat} {tb : Nat} {c0 c1 : Int} {lk : Value} {D : List Nat} {B : Nat → Nat} {wv : Nat → Value} {wb : Nat → Nat} {ev : Value} {E : List Int} (h : GrwO base W fin sw tb c0 c1 lk D B wv wb ev E) {S : Nat → Prop} (hu : Upd S W W') (h1 : ∀ k, S k → (∀ y ∈ D, B y ≠ k) ∧ (∀ y ∈ D, sw y ≠ [] → wb y ≠ k) ∧ k ≠ tb ∧ ev.ownBlock ≠ some k) : GrwO base W' fin sw tb c0 c1 lk D B wv wb ev E :=
 ⟨h.own.upd hu (fun x hx hs => (h1 _ hs).1 x hx rfl) (fun x _ g e => by simp [Value.ownBlock] at e) (fun x hx hn hs => (h1 _ hs).2.1 x hx hn rfl), h.tree.upd hu (fun hs => (h1 _ hs).2.2.1 rfl), ownsRow_upd h.ends hu (fun k e hs => (h1 k hs).2.2.2 e), h.tl, h.cl⟩
theorem GrwO.more {base : Nat} {W W2 W3 : World} {fin : Nat → Nod} {sw : Nat → List Nat} {tb : Nat} {c0 c1 : Int} {lk : Value} {D : List Nat} {B : Nat → Nat} {wv : Nat → Value} {wb : Nat → Nat} {ev : Value} {E : List Int} (h : GrwO base W fin sw tb c0 c1 lk D B wv wb ev E) (hb : Below W.heap.size W W2) {v' : Value} (hg : W2.grownBy W3 ev.ownBlock) (hm : Moved W2 ev v') (M : List Int) (ho : W3.ownsRow base 2 1 v' (E.length + M.length) (E.map (Value.int .i64) ++ M.map (Value.int .i64))) :
  GrwO base (W3.setCell ⟨tb, 2, none⟩ v') fin sw tb c0 c1 lk D B wv wb v' (E ++ M) ∧ Upd (GrwW tb ev) W (W3.setCell ⟨tb, 2, none⟩ v') ∧ W3.cell? ⟨tb, 2, none⟩ = some ev ∧ W3.frozen? ⟨tb, 2, none⟩ = false ∧ (∀ g, v'.ownBlock = some g → ev.ownBlock = some g ∨ W.heap.size ≤ g) := by
 have h2 := h.below hb
 have u3 : Upd (fun k => ev.ownBlock = some k) W2 W3 := ⟨hg.os, hg.tape, hg.output, hg.size, fun k hk hn => hg.block k hk (fun e => hn e.symm)⟩
 have u4 : Upd (fun k => k = tb) W3 (W3.setCell ⟨tb, 2, none⟩ v') := Upd.setCell (S := fun k => k = tb) (Upd.refl _ _) (p := ⟨tb, 2, none⟩) (fun _ => rfl) _
 have hevt : ev.ownBlock ≠ some tb := fun e => by
  obtain ⟨cur, hh⟩ := owns_type h2.ends e
  have ht := h2.tree
  unfold Blk at ht
  rw [ht] at hh
  simp at hh
 have ht3 : Blk W3 tb (trL c0 c1 ev lk) 136 := h2.tree.upd u3 (fun e => hevt e)
 have uw : Upd (GrwW tb ev) W2 (W3.setCell ⟨tb, 2, none⟩ v') := (u3.mono (S' := GrwW tb ev) (fun k _ e => Or.inr e)).trans u4 (fun k _ e => Or.inl e)
 have hmv : ∀ g, v'.ownBlock = some g → ev.ownBlock = some g ∨ W2.heap.size ≤ g := fun g e => by
  rcases hm with hm | ⟨k, hk, hs⟩
  ·rw [hm] at e; exact Or.inl e
  ·rw [hk] at e; cases e; exact Or.inr hs
 have hs2 := hb.size
 refine ⟨⟨h2.own.upd uw (fun x hx => h2.noW (h2.own.blk x hx) (by decide) (by decide)) (fun x _ g e => by simp [Value.ownBlock] at e) (fun x hx hn => ?_), ?_, ?_, h.tl, h.cl⟩, (Upd.ofBelow (S := GrwW tb ev) hb (fun k h1 h2 => by omega)).trans uw (fun _ _ h => h), ht3.cell 2 rfl, ht3.frozen 2, fun g e => ?_⟩
 ·rcases h2.own.wait x hx with (⟨_, e⟩ | ⟨off, cap, c, fr, _, _, h3, _⟩) | ⟨e, _⟩
  ·exact absurd (List.map_eq_nil_iff.1 e) hn
  ·exact h2.noW h3 (by decide) (by decide)
  ·exact absurd e hn
 ·have := ht3.set 2 v'
  rwa [trL_set2] at this
 ·have := ownsRow_upd ho u4 (fun k e e' => by
   subst e'
   rcases hmv _ e with h' | h'
   ·exact hevt h'
   ·have := h2.tree.lt; omega)
  rw [List.length_append, List.map_append]
  exact this
 ·rcases hmv g e with h' | h'
  ·exact Or.inl h'
  ·exact Or.inr (by omega)
theorem OwnS.cast {base : Nat} {W : World} {fin : Nat → Nod} {D D' : List Nat} {B : Nat → Nat} {sw sr : Nat → List Nat} {wv rv : Nat → Value} {wb : Nat → Nat} (h : OwnS base W fin D B sw sr wv rv wb) (hD : ∀ y, y ∈ D' → y ∈ D) : OwnS base W fin D' B sw sr wv rv wb :=
 ⟨fun x hx => h.blk x (hD x hx), fun x hx => h.low x (hD x hx), fun x hx y hy => h.inj x (hD x hx) y (hD y hy), fun x hx => h.wait x (hD x hx), fun x hx => h.run x (hD x hx), fun x hx y hy => h.ap1 x (hD x hx) y (hD y hy), fun x hx y hy => h.ap2 x (hD x hx) y (hD y hy), h.lb⟩
theorem OwnS.add {base : Nat} {W : World} {fin : Nat → Nod} {D : List Nat} {B : Nat → Nat} {sw : Nat → List Nat} {wv : Nat → Value} {wb : Nat → Nat} (h : OwnS base W fin D B sw nils wv (fun _ => nilV) wb) (cl : ∀ y ∈ D, ∀ c ∈ sw y, c ∈ D) {x bx : Nat} {wvx : Value} (hx : x ∉ D) (hsx : ∀ c ∈ sw x, c ∈ D) (hb : Blk W bx (spL (fin x) wvx nilV) 157) (hlow : base ≤ bx) (hne : ∀ y ∈ D, B y ≠ bx) (ho : W.ownsRow base 153 1 wvx (sw x).length ((sw x).map (pB B))) :
  OwnS base W fin (x :: D) (upF B x bx) sw nils (upF wv x wvx) (fun _ => nilV) (upF wb x (blkOf wvx)) := by
 have hxs : ∀ y ∈ x :: D, x ∉ sw y := fun y hy hc => by
  rcases List.mem_cons.1 hy with e | hy
  ·subst e; exact hx (hsx y hc)
  ·exact hx (cl y hy x hc)
 have hned : ∀ y ∈ D, y ≠ x := fun y hy e => hx (by rw [← e]; exact hy)
 refine ⟨fun y hy => ?_, fun y hy => ?_, fun y hy z hz e => ?_, fun y hy => ?_, fun y _ => by simpa using World.ownsRow_nil W base _ 1, fun y _ z _ _ g e => by simp [Value.ownBlock] at e, fun y _ z _ _ => by simp [Value.ownBlock], h.lb⟩
 ·rcases List.mem_cons.1 hy with e | hy
  ·subst e; rw [upF_same, upF_same]; exact hb
  ·rw [upF_ne _ _ (hned y hy), upF_ne _ _ (hned y hy)]; exact h.blk y hy
 ·rcases List.mem_cons.1 hy with e | hy
  ·subst e; rw [upF_same]; exact hlow
  ·rw [upF_ne _ _ (hned y hy)]; exact h.low y hy
 ·rcases List.mem_cons.1 hy with ey | hy' <;> rcases List.mem_cons.1 hz with ez | hz'
  ·rw [ey, ez]
  ·rw [ey, upF_same, upF_ne _ _ (hned z hz')] at e
   exact absurd e.symm (hne z hz')
  ·rw [ez, upF_same, upF_ne _ _ (hned y hy')] at e
   exact absurd e (hne y hy')
  ·rw [upF_ne _ _ (hned y hy'), upF_ne _ _ (hned z hz')] at e
   exact h.inj y hy' z hz' e
 ·rw [map_up (hxs y hy)]
  rcases List.mem_cons.1 hy with e | hy
  ·subst e
   rw [upF_same, upF_same]
   rcases ho.2 with ⟨e1, e2⟩ | ⟨g, cap, cur, e1, hbg, hh, hc, hcm, hcs, ht⟩
   ·right
    exact ⟨List.eq_nil_of_length_eq_zero e2, _, _, e1⟩
   ·left
    right
    have hgb : blkOf wvx = g := by rw [e1]; rfl
    rw [hgb]
    refine ⟨0, cap, cur, (0, 0), by rw [e1, List.length_map], by simpa using hc, hh, fun i u hu => ?_⟩
    have hi : i < (sw y).length := by
     have := (List.getElem?_eq_some_iff.1 hu).1
     simpa using this
    have : (cur.toList.take ((sw y).length * 1))[i]? = some u := by rw [ht]; exact hu
    rw [List.getElem?_take_of_lt (by omega)] at this
    simpa using this
  ·rw [upF_ne _ _ (hned y hy), upF_ne _ _ (hned y hy)]
   exact h.wait y hy
theorem infoI64 : (Tryz.prog.info? 2).map (fun i => (i.zero, i.size, i.bytes)) = some (some (.int .i64 0), 1, 8) := by kernel_rfl
theorem infoI64_parts : ∃ i, Tryz.prog.info? 2 = some i ∧ i.zero = some (.int .i64 0) ∧ i.size = 1 ∧ i.bytes = 8 := by
 have h := infoI64
 cases hq : Tryz.prog.info? 2 with
 | none => rw [hq] at h; simp at h
 | some i =>
  rw [hq] at h
  simp at h
  exact ⟨i, rfl, h.1, h.2.1, h.2.2⟩
structure GEnv (base f sb : Nat) (W0 : World) (X : List Spot) (K : Nat → List Int) (rvv : Value) (R : List Int) (fin : Nat → Nod) (KN : Nat → List Nat) (sw : Nat → List Nat) : Prop where
 fr : ∀ V, Upd (fun k => base ≤ k) W0 V → ForestAt V f sb X K rvv R
 nd : ∀ i (h : i < X.length), X[i].nd = fin i
 kn : ∀ i, i < X.length → K i = (KN i).map (fun c : Nat => (c : Int)) ∧ (∀ c ∈ KN i, c < X.length) ∧ (KN i).length ≤ 1000
 sw : ∀ i, i < X.length → (KN i).Perm (sw i) ∧ (sw i).Pairwise (fun a b => ltG (fin a) (fin b))
theorem sorted_unique (fin : Nat → Nod) : ∀ (L M : List Nat), L.Perm M → L.Pairwise (fun a b => ¬ ltG (fin b) (fin a)) → M.Pairwise (fun a b => ltG (fin a) (fin b)) → L = M
 | [], M, h, _, _ => by rw [List.nil_perm.1 h]
 | x :: r, [], h, _, _ => absurd h.length_eq (by simp)
 | x :: r, y :: s, h, hx, hy => by
  rw [List.pairwise_cons] at hx hy
  have e : x = y := by
   have h1 : x ∈ y :: s := h.mem_iff.1 (by simp)
   have h2 : y ∈ x :: r := h.mem_iff.2 (by simp)
   rcases List.mem_cons.1 h1 with e | m1
   ·exact e
   ·rcases List.mem_cons.1 h2 with e | m2
    ·exact e.symm
    ·exact absurd (hy.1 x m1) (hx.1 y m2)
  subst e
  rw [sorted_unique fin r s (List.Perm.cons_inv h) hx.2 hy.2]
def GLoop (base : Nat) (W : World) (fin : Nat → Nod) (KN sw : Nat → List Nat) (fu tb : Nat) (c0 c1 : Int) (lk : Value) (D : List Nat) (B0 wb0 : Nat → Nat) (E : List Int) (ev : Value) (x bx i : Nat) (wr : World) : Prop :=
 ∃ B wv wb ev' wvx, GrwO base wr fin sw tb c0 c1 lk (D ++ preN KN fu ((KN x).take i)) B wv wb ev' (E ++ [(fin x).fr, (fin x).til] ++ endsN fin (preN KN fu ((KN x).take i))) ∧ (∀ y ∈ D, B y = B0 y ∧ (sw y ≠ [] → wb y = wb0 y)) ∧ (∀ y ∈ preN KN fu ((KN x).take i), W.heap.size ≤ B y ∧ (sw y ≠ [] → W.heap.size ≤ wb y)) ∧ Blk wr bx (spL (fin x) wvx nilV) 157 ∧ wr.ownsRow base 153 1 wvx ((KN x).take i).length (((KN x).take i).map (pB B)) ∧ (∀ y ∈ D ++ preN KN fu ((KN x).take i), B y ≠ bx ∧ (sw y ≠ [] → wvx.ownBlock ≠ some (wb y))) ∧ Upd (GrwW tb ev) W wr ∧ W.heap.size ≤ bx ∧ (∀ g, wvx.ownBlock = some g → W.heap.size ≤ g) ∧ ∀ g, ev'.ownBlock = some g → ev.ownBlock = some g ∨ W.heap.size ≤ g
theorem GLoop.step {base : Nat} {W : World} {fin : Nat → Nod} {KN sw : Nat → List Nat} {fu tb : Nat} {c0 c1 : Int} {lk : Value} {D : List Nat} {B0 wb0 : Nat → Nat} {E : List Int} {ev : Value} {x bx i : Nat} {w5 : World} {B5 : Nat → Nat} {wv5 : Nat → Value} {wb5 : Nat → Nat} {ev5 wvx : Value} (hi : i < (KN x).length) (hO : GrwO base w5 fin sw tb c0 c1 lk (D ++ preN KN fu ((KN x).take (i + 1))) B5 wv5 wb5 ev5 (E ++ [(fin x).fr, (fin x).til] ++ endsN fin (preN KN fu ((KN x).take (i + 1))))) (h1 : ∀ y ∈ D, B5 y = B0 y ∧ (sw y ≠ [] → wb5 y = wb0 y)) (h2 : ∀ y ∈ preN KN fu ((KN x).take (i + 1)), W.heap.size ≤ B5 y ∧ (sw y ≠ [] → W.heap.size ≤ wb5 y)) (hB : Blk w5 bx (spL (fin x) wvx nilV) 157) (hr : w5.ownsRow base 153 1 wvx i (((KN x).take i).map (pB B5))) (h3 : ∀ y ∈ D ++ preN KN fu ((KN x).take (i + 1)), B5 y ≠ bx ∧ (sw y ≠ [] → wvx.ownBlock ≠ some (wb5 y))) (hU : Upd (GrwW tb ev) W w5) (hbx : W.heap.size ≤ bx) (hev : ∀ g, wvx.ownBlock = some g → W.heap.size ≤ g) (hee : ∀ g, ev5.ownBlock = some g → ev.ownBlock = some g ∨ W.heap.size ≤ g)
  {u2 u3 : World} {v' : Value} (hb : Below w5.heap.size w5 u2) (hg : u2.grownBy u3 wvx.ownBlock) (hm : Moved u2 wvx v') (ho : u3.ownsRow base 153 1 v' (i + 1) (((KN x).take i).map (pB B5) ++ [pB B5 (KN x)[i]])) :
  GLoop base W fin KN sw fu tb c0 c1 lk D B0 wb0 E ev x bx (i + 1) (u3.setCell ⟨bx, 3, none⟩ v') ∧ u3.cell? ⟨bx, 3, none⟩ = some wvx ∧ u3.frozen? ⟨bx, 3, none⟩ = false ∧ (∀ b c T, Blk w5 b c T → T ≠ 153 → T ≠ 157 → Blk (u3.setCell ⟨bx, 3, none⟩ v') b c T) := by
 have hO2 := hO.below hb
 have hB2 := hB.below hb hB.lt
 have u3' : Upd (fun k => wvx.ownBlock = some k) u2 u3 := ⟨hg.os, hg.tape, hg.output, hg.size, fun k hk hn => hg.block k hk (fun e => hn e.symm)⟩
 have hr2 := ownsRow_upd hr (Upd.ofBelow (S := fun _ => False) hb (fun k h1 h2 => by omega)) (fun _ _ h => h)
 have hty : ∀ k c T fr, u2.heap[k]? = some (.cells c T fr) → T ≠ 153 → wvx.ownBlock ≠ some k := fun k c T fr hk hT e => by
  obtain ⟨cur, hh⟩ := owns_type hr2 e
  rw [hk] at hh
  simp at hh
  exact hT hh.2.1
 have hB3 : Blk u3 bx (spL (fin x) wvx nilV) 157 := hB2.upd u3' (fun e => hty _ _ _ _ hB2 (by decide) e)
 have u4 : Upd (fun k => k = bx) u3 (u3.setCell ⟨bx, 3, none⟩ v') := Upd.setCell (S := fun k => k = bx) (Upd.refl _ _) (p := ⟨bx, 3, none⟩) (fun _ => rfl) _
 have hmv : ∀ g, v'.ownBlock = some g → wvx.ownBlock = some g ∨ u2.heap.size ≤ g := fun g e => by
  rcases hm with hm | ⟨k, hk, hs⟩
  ·rw [hm] at e; exact Or.inl e
  ·rw [hk] at e; cases e; exact Or.inr hs
 have hs5 := hU.size
 have hs2 := hb.size
 have hwl : ∀ y ∈ D ++ preN KN fu ((KN x).take (i + 1)), sw y ≠ [] → wb5 y < u2.heap.size := fun y hy hn => by
  rcases hO2.own.wait y hy with (⟨_, e⟩ | ⟨off, cap, c, fr, _, _, h3, _⟩) | ⟨e, _⟩
  ·exact absurd (List.map_eq_nil_iff.1 e) hn
  ·exact (Array.getElem?_eq_some_iff.1 h3).1
  ·exact absurd e hn
 have hlen : ((KN x).take (i + 1)).length = i + 1 := by simp; omega
 refine ⟨⟨B5, wv5, wb5, ev5, v', ?_, h1, h2, ?_, ?_, fun y hy => ⟨(h3 y hy).1, fun hn e => ?_⟩, ?_, hbx, fun g e => ?_, hee⟩, hB3.cell 3 rfl, hB3.frozen 3, fun b c T hbT h1' h2' => ?_⟩
 ·have hO3 := hO2.other u3' (fun k hk => ⟨fun y hy e => hty _ _ _ _ (hO2.own.blk y hy) (by decide) (by rw [e]; exact hk), fun y hy hn e => (h3 y hy).2 hn (by rw [e]; exact hk), fun e => hty _ _ _ _ hO2.tree (by decide) (by rw [← e]; exact hk), fun e => by
   obtain ⟨cur, hh⟩ := owns_type hO2.ends e
   exact hty _ _ _ _ hh (by decide) hk⟩)
  refine hO3.other u4 (fun k hk => ?_)
  subst hk
  refine ⟨fun y hy => (h3 y hy).1, fun y hy hn e => ?_, fun e => ?_, fun e => ?_⟩
  ·rcases hO3.own.wait y hy with (⟨_, e'⟩ | ⟨off, cap, c, fr, _, _, h4, _⟩) | ⟨e', _⟩
   ·exact hn (List.map_eq_nil_iff.1 e')
   ·unfold Blk at hB3
    rw [e, hB3] at h4
    simp at h4
   ·exact hn e'
  ·have ht := hO3.tree
   unfold Blk at ht hB3
   rw [← e, hB3] at ht
   simp at ht
  ·obtain ⟨cur, hh⟩ := owns_type hO3.ends e
   unfold Blk at hB3
   rw [hB3] at hh
   simp at hh
 ·have := hB3.set 3 v'
  rwa [spL_set3] at this
 ·have := ownsRow_upd ho u4 (fun k e e' => by
   subst e'
   rcases hmv _ e with h' | h'
   ·exact hty _ _ _ _ hB2 (by decide) h'
   ·have := hB2.lt; omega)
  rw [hlen, List.take_succ_eq_append_getElem hi, List.map_append]
  exact this
 ·rcases hmv _ e with h' | h'
  ·exact (h3 y hy).2 hn h'
  ·have := hwl y hy hn; omega
 ·have a1 : Upd (GrwW tb ev) W u2 := hU.trans (Upd.ofBelow (S := GrwW tb ev) hb (fun k h1 h2 => by omega)) (fun _ _ h => h)
  refine (a1.trans (u3'.mono (S' := fun k => W.heap.size ≤ k) (fun k _ e => hev k e)) (fun k hk h => by omega)).trans u4 (fun k hk e => by omega)
 ·rcases hmv g e with h' | h'
  ·exact hev g h'
  ·omega
 ·have q1 := hbT.below hb hbT.lt
  refine (q1.upd u3' (fun e => hty _ _ _ _ q1 h1' e)).upd u4 (fun e => ?_)
  subst e
  have q2 := q1.upd u3' (fun e => hty _ _ _ _ q1 h1' e)
  unfold Blk at q2 hB3
  rw [hB3] at q2
  simp at q2
  exact h2' q2.2.symm
end Go.Proofs.YtnffedmcblbkoaaGreatDoor
