/-
  Merged: Zv, Zk, Zl, Zn.
-/
import Derived.Shelf.Unicode.ValidAny
import Derived.Test.YtnffedmcblbkoaaGreatDoorWeq
import Derived.Test.YtnffedmcblbkoaaGreatDoorWaq
import Derived.Lib.Bytealg
import Derived.Lib.Walk
import Derived.Deep.RegionHeld3
namespace Go.Proofs.YtnffedmcblbkoaaGreatDoor
open Go.Shelf Go.RowKit
def lays196_ren : Go.Shelf.Ren := ⟨fun | 196 => 181 | 259 => 215 | n => n, fun | 0 => 0 | 3 => 3 | 4 => 4 | 5 => 5 | 9 => 9 | 12 => 12 | 46 => 168 | 53 => 32 | 119 => 294 | 138 => 296 | 139 => 297 | n => n, fun | 3 => 0 | 4 => 1 | n => n⟩
theorem lays196 : Go.Proofs.Lays.n196 Tryz.prog lays196_ren := {
 mixed := by kernel_rfl
 f196 := Tryz.func181.trans (congrArg some (by kernel_rfl))
 f259 := Tryz.func215.trans (congrArg some (by kernel_rfl))
 t0 := Tryz.underlying0
 a0 := Tryz.isAgg0
 z0 := Tryz.sizeOf0
 v0 := Tryz.zeroValue0
 t3 := Tryz.underlying3
 a3 := Tryz.isAgg3
 z3 := Tryz.sizeOf3
 v3 := Tryz.zeroValue3
 t4 := Tryz.underlying4
 a4 := Tryz.isAgg4
 z4 := Tryz.sizeOf4
 v4 := Tryz.zeroValue4
 t5 := Tryz.underlying5
 a5 := Tryz.isAgg5
 z5 := Tryz.sizeOf5
 v5 := Tryz.zeroValue5
 t9 := Tryz.underlying9
 a9 := Tryz.isAgg9
 z9 := Tryz.sizeOf9
 v9 := Tryz.zeroValue9
 t12 := Tryz.underlying12
 a12 := Tryz.isAgg12
 z12 := Tryz.sizeOf12
 v12 := Tryz.zeroValue12
 t46 := Tryz.underlying168
 a46 := Tryz.isAgg168
 z46 := Tryz.sizeOf168
 v46 := Tryz.zeroValue168
 t53 := Tryz.underlying32
 a53 := Tryz.isAgg32
 z53 := Tryz.sizeOf32
 v53 := Tryz.zeroValue32
 t119 := Tryz.underlying294
 a119 := Tryz.isAgg294
 z119 := Tryz.sizeOf294
 t138 := Tryz.underlying296
 a138 := Tryz.isAgg296
 z138 := Tryz.sizeOf296
 v138 := Tryz.zeroValue296
 t139 := Tryz.underlying297
 a139 := Tryz.isAgg297
 z139 := Tryz.sizeOf297
 v139 := Tryz.zeroValue297
 g3 := by kernel_rfl
 g4 := by kernel_rfl }
theorem valid_any (s : ByteArray) (w : World) (hs : s.size ≤ 9223372036854775807) (hT : Tabs w) :
  Calls Tryz.prog 181 #[.string s] w fun e w' => e = .returned (.bool (Lib.validD s.data.toList)) ∧ Below w.heap.size w w' :=
 Any.utf8_ValidString lays196 s w hs hT
end Go.Proofs.YtnffedmcblbkoaaGreatDoor
namespace Go.Proofs.YtnffedmcblbkoaaGreatDoor
open Go.RowKit
set_option maxRecDepth 100000
def momB (x : Int) : Bool := decide (0 ≤ x) && decide (x ≤ 4611686018427387904)
theorem moment_any (x : Int) (w : World) :
  Calls Tryz.prog 121 #[.int .i64 x] w fun e w' => e = .returned (.bool (momB x)) ∧ w' = w := by
 unfold momB
 by_cases h1 : 0 ≤ x
 ·have h1' : decide (0 ≤ x) = true := by simpa using h1
  go_enter Tryz.func121, Tryz.ntmps121
  go_wp2
  go_ret
  exact ⟨by simp [h1], rfl⟩
 ·have h1' : decide (0 ≤ x) = false := by simpa using h1
  go_enter Tryz.func121, Tryz.ntmps121
  go_wp2
  go_ret
  exact ⟨by simp, rfl⟩
def okB (least x : Int) : Bool := decide (least ≤ x) && !decide (x = 127)
def plainB (s : ByteArray) (most least : Int) : Bool := decide (1 ≤ s.size) && decide ((s.size : Int) ≤ most) && Lib.validD s.data.toList && (bytesI s).all (okB least)
theorem all_step {f : Int → Bool} {K : List Int} {k : Nat} (h : k < K.length) : (K.drop k).all f = (f K[k] && (K.drop (k + 1)).all f) := by
 rw [List.drop_eq_getElem_cons h, List.all_cons]
theorem bytesI_at (s : ByteArray) (k : Nat) (h : k < s.size) : (bytesI s)[k]'(by rw [bytesI_length]; exact h) = (s[k].toNat : Int) := by
 simp [bytesI]; rfl
theorem plain_any (s : ByteArray) (most least : Int) (w : World) (hs : s.size ≤ 140737488355328) (hT : Tabs w) :
  Calls Tryz.prog 122 #[.string s, .int .i64 most, .int .u8 least] w fun e w' => e = .returned (.bool (plainB s most least)) ∧ Below w.heap.size w w' := by
 have VA := valid_any s w (by omega) hT
 unfold plainB
 generalize Lib.validD s.data.toList = vd at VA ⊢
 by_cases h1 : s.size < 1
 ·have h1' : decide (1 ≤ s.size) = false := decide_eq_false (by omega)
  have h1z : s.size = 0 := by omega
  clear VA
  go_enter Tryz.func122, Tryz.ntmps122
  go_wp2
  go_ret
  exact ⟨by simp [h1'], Below.refl _ _⟩
 have h1' : decide (1 ≤ s.size) = true := decide_eq_true (by omega)
 have h1i : (1 : Int) ≤ (s.size : Int) := by omega
 by_cases h2 : most < (s.size : Int)
 ·have h2' : decide ((s.size : Int) ≤ most) = false := by simp; omega
  clear VA
  go_enter Tryz.func122, Tryz.ntmps122
  go_wp2
  go_ret
  exact ⟨by simp [h2'], Below.refl _ _⟩
 have h2' : decide ((s.size : Int) ≤ most) = true := by simp; omega
 cases vd with
 | false =>
  go_enter Tryz.func122, Tryz.ntmps122
  go_wp2_with (go_at_call 181; refine VA.mono ?_; rintro e w' ⟨rfl, hb⟩)
  go_ret
  exact ⟨by simp, hb⟩
 | true =>
  rw [h1', h2']
  simp only [Bool.true_and]
  obtain ⟨r, hr⟩ : ∃ r, (bytesI s).all (okB least) = r := ⟨_, rfl⟩
  rw [hr]
  have hl := bytesI_length s
  clear h1' h2'
  go_enter Tryz.func122, Tryz.ntmps122
  go_wp2_with (go_at_call 181; refine VA.mono ?_; rintro e w' ⟨rfl, hb⟩)
  go_loop [24] (fun a => ∃ k : Nat, a = .int .i64 k ∧ k ≤ s.size ∧ r = ((bytesI s).drop k).all (okB least)) (fun a => s.size - (intOf a).toNat)
  case atStart => exact ⟨0, rfl, by omega, by simp [hr]⟩
  case round =>
   obtain ⟨k, rfl, hk, ho⟩ := hrel
   have HO : Hid (r = ((bytesI s).drop k).all (okB least)) := ho
   clear ho hr
   by_cases hlt : k < s.size
   ·have st := all_step (f := okB least) (K := bytesI s) (k := k) (by omega)
    have hx := bytesI_at s k hlt
    obtain ⟨x, hxx⟩ : ∃ x : Int, (s[k].toNat : Int) = x := ⟨_, rfl⟩
    rw [hx, hxx] at st
    have HS : Hid (r = (okB least x && ((bytesI s).drop (k + 1)).all (okB least))) := by show r = _; rw [HO.out, st]
    clear st hx HO
    by_cases h3 : x < least
    ·have FIN : Hid (r = false) := by show r = false; rw [HS.out]; simp [okB]; intro h; omega
     go_wp2
     go_ret
     exact ⟨ret_bool FIN.out.symm, hb⟩
    ·by_cases h4 : x = 127
     ·have FIN : Hid (r = false) := by show r = false; rw [HS.out]; simp [okB, h4]
      go_wp2
      go_ret
      exact ⟨ret_bool FIN.out.symm, hb⟩
     ·have FIN : Hid (r = ((bytesI s).drop (k + 1)).all (okB least)) := by show r = _; rw [HS.out]; simp [okB, h4]; intro _; omega
      have h4' : (x == 127) = false := by simpa using h4
      go_wp2
      go_round
      case rel => exact ⟨k + 1, by go_num, by omega, FIN.out⟩
      case measure => simp [intOf]; omega
   ·have FIN : Hid (r = true) := by show r = true; rw [HO.out, List.drop_of_length_le (by omega)]; rfl
    go_wp2
    go_ret
    exact ⟨ret_bool FIN.out.symm, hb⟩
def keyF : List UInt8 := [97, 98, 99, 100, 101, 102, 103, 104, 105, 106, 107, 108, 109, 110, 111, 112, 113, 114, 115, 116, 117, 118, 119, 120, 121, 122]
def keyR : List UInt8 := keyF ++ [48, 49, 50, 51, 52, 53, 54, 55, 56, 57, 46, 95, 45]
theorem slIndex_any (s : ByteArray) (c : Int) (w : World) :
    Calls Tryz.prog 236 #[.string s, .int .u8 c] w fun e w' => e = .returned (.int .i64 (Lib.indexByte s.data.toList c.toNat.toUInt8)) ∧ w' = w := by
  go_enter Tryz.func236, Tryz.ntmps236
  go_wp2
  rw [run_callFunc_extern Tryz.func244 (by kernel_rfl) (by kernel_rfl) (by kernel_rfl) (e := Extern.BytealgIndexByte.indexByte) (by kernel_rfl), Lib.run_indexByteString]
  simp only [Result.andThen]
  rw [Oper.upon_value]
  go_wp2
  go_ret
  exact ⟨rfl, rfl⟩
theorem index_any (s : ByteArray) (c : Int) (w : World) :
    Calls Tryz.prog 217 #[.string s, .int .u8 c] w fun e w' => e = .returned (.int .i64 (Lib.indexByte s.data.toList c.toNat.toUInt8)) ∧ w' = w := by
  go_enter Tryz.func217, Tryz.ntmps217
  go_wp2_with (go_at_call 236; refine (slIndex_any _ _ _).mono ?_; rintro e w' ⟨rfl, rfl⟩)
  go_ret
  exact ⟨rfl, rfl⟩
theorem idx_lo : ∀ (l : List UInt8) (c : UInt8), -1 ≤ Lib.indexByte l c := by
  intro l c
  induction l with
  | nil => simp [Lib.indexByte]
  | cons b l ih => rw [Lib.indexByte]; repeat' split
                   all_goals omega
theorem idx_in : ∀ (l : List UInt8) (c : UInt8), (0 ≤ Lib.indexByte l c) ↔ l.contains c = true := by
  intro l c
  induction l with
  | nil => simp [Lib.indexByte]
  | cons b l ih =>
    have hlo := idx_lo l c
    rw [Lib.indexByte]
    by_cases h : b = c
    · subst h; simp
    · have h1 : (b == c) = false := by simpa using h
      have h2 : (c == b) = false := by simpa using Ne.symm h
      rw [h1, List.contains_cons, h2, Bool.false_or, ← ih]
      by_cases h3 : Lib.indexByte l c = -1
      · simp [h3]
      · have : (Lib.indexByte l c == -1) = false := by simpa using h3
        simp [this]; omega
def inL (l : List UInt8) (x : Int) : Bool := l.contains x.toNat.toUInt8
def keyB (s : ByteArray) : Bool := decide (1 ≤ s.size) && decide (s.size ≤ 40) && inL keyF (bt (bytesI s) 0) && ((bytesI s).drop 1).all (inL keyR)
theorem keyOk_any (s : ByteArray) (w : World) (hs : s.size ≤ 140737488355328) :
    Calls Tryz.prog 185 #[.string s] w fun e w' => e = .returned (.bool (keyB s)) ∧ w' = w := by
  have IF : ∀ (x : Int) (W : World), Calls Tryz.prog 217 #[.string ⟨keyF.toArray⟩, .int .u8 x] W fun e w' => e = .returned (.int .i64 (Lib.indexByte keyF x.toNat.toUInt8)) ∧ w' = W := fun x W => index_any ⟨keyF.toArray⟩ x W
  have IR : ∀ (x : Int) (W : World), Calls Tryz.prog 217 #[.string ⟨keyR.toArray⟩, .int .u8 x] W fun e w' => e = .returned (.int .i64 (Lib.indexByte keyR x.toNat.toUInt8)) ∧ w' = W := fun x W => index_any ⟨keyR.toArray⟩ x W
  have nF := fun x : Int => idx_in keyF x.toNat.toUInt8
  have nR := fun x : Int => idx_in keyR x.toNat.toUInt8
  unfold keyB inL
  generalize hgF : (fun x : Int => Lib.indexByte keyF x.toNat.toUInt8) = iF
  generalize hgR : (fun x : Int => Lib.indexByte keyR x.toNat.toUInt8) = iR
  have IF2 : ∀ (x : Int) (W : World), Calls Tryz.prog 217 #[.string ⟨keyF.toArray⟩, .int .u8 x] W fun e w' => e = .returned (.int .i64 (iF x)) ∧ w' = W := fun x W => by rw [← hgF]; exact IF x W
  have IR2 : ∀ (x : Int) (W : World), Calls Tryz.prog 217 #[.string ⟨keyR.toArray⟩, .int .u8 x] W fun e w' => e = .returned (.int .i64 (iR x)) ∧ w' = W := fun x W => by rw [← hgR]; exact IR x W
  have mF : ∀ x : Int, 0 ≤ iF x ↔ keyF.contains x.toNat.toUInt8 = true := fun x => by rw [← hgF]; exact nF x
  have mR : ∀ x : Int, 0 ≤ iR x ↔ keyR.contains x.toNat.toUInt8 = true := fun x => by rw [← hgR]; exact nR x
  clear IF IR nF nR hgF hgR
  have HmF : Hid (∀ x : Int, 0 ≤ iF x ↔ keyF.contains x.toNat.toUInt8 = true) := mF
  have HmR : Hid (∀ x : Int, 0 ≤ iR x ↔ keyR.contains x.toNat.toUInt8 = true) := mR
  clear mF mR
  simp only [keyF, keyR, List.cons_append, List.nil_append] at IF2 IR2
  by_cases h1 : s.size < 1
  · have h1' : decide (1 ≤ s.size) = false := decide_eq_false (by omega)
    have h1z : s.size = 0 := by omega
    go_enter Tryz.func185, Tryz.ntmps185
    go_wp2
    go_ret
    exact ⟨by simp [h1'], rfl⟩
  have h1' : decide (1 ≤ s.size) = true := decide_eq_true (by omega)
  have h1i : (1 : Int) ≤ (s.size : Int) := by omega
  by_cases h2 : 40 < s.size
  · have h2' : decide (s.size ≤ 40) = false := decide_eq_false (by omega)
    have h2i : (40 : Int) < (s.size : Int) := by omega
    go_enter Tryz.func185, Tryz.ntmps185
    go_wp2
    go_ret
    exact ⟨by simp [h2'], rfl⟩
  have h2' : decide (s.size ≤ 40) = true := decide_eq_true (by omega)
  have h2i : (s.size : Int) ≤ 40 := by omega
  rw [h1', h2', bytesI_get s 0 (by omega)]
  simp only [Bool.true_and]
  obtain ⟨x, hx⟩ : ∃ x : Int, (s[0].toNat : Int) = x := ⟨_, rfl⟩
  rw [hx]
  have mx := HmF.out x
  have IX := IF2 x
  obtain ⟨i, hi⟩ : ∃ i, iF x = i := ⟨_, rfl⟩
  rw [hi] at mx IX
  clear h1' h2' IF2 HmF hi
  by_cases h3 : i < 0
  · have e1 : keyF.contains x.toNat.toUInt8 = false := by
      cases h : keyF.contains x.toNat.toUInt8 with
      | false => rfl
      | true => have := mx.2 h; omega
    clear IR2 mx
    go_enter Tryz.func185, Tryz.ntmps185
    go_wp2_with (go_at_call 217; refine (IX _).mono ?_; rintro e w' ⟨rfl, rfl⟩)
    go_ret
    exact ⟨by rw [e1]; rfl, rfl⟩
  have e1 : keyF.contains x.toNat.toUInt8 = true := mx.1 (by omega)
  rw [e1]
  simp only [Bool.true_and]
  obtain ⟨r, hr⟩ : ∃ r, ((bytesI s).drop 1).all (fun x => keyR.contains x.toNat.toUInt8) = r := ⟨_, rfl⟩
  have hr0 : ((bytesI s).drop 1).all (inL keyR) = r := hr
  show Calls _ _ _ _ fun e w' => e = .returned (.bool (((bytesI s).drop 1).all (fun x => keyR.contains x.toNat.toUInt8))) ∧ _
  rw [hr]
  have hl := bytesI_length s
  clear mx e1 hr
  go_enter Tryz.func185, Tryz.ntmps185
  go_wp2_with (go_at_call 217; refine (IX _).mono ?_; rintro e w' ⟨rfl, rfl⟩)
  go_loop [3] (fun a => ∃ k : Nat, a = .int .i64 k ∧ 1 ≤ k ∧ k ≤ s.size ∧ r = ((bytesI s).drop k).all (inL keyR)) (fun a => s.size - (intOf a).toNat)
  case atStart => exact ⟨1, rfl, by omega, by omega, hr0.symm⟩
  case round =>
    obtain ⟨k, rfl, hk1, hk, ho⟩ := hrel
    have HO : Hid (r = ((bytesI s).drop k).all (inL keyR)) := ho
    clear ho hr0 IX
    by_cases hlt : k < s.size
    · have st := all_step (f := inL keyR) (K := bytesI s) (k := k) (by omega)
      have hx := bytesI_at s k hlt
      obtain ⟨y, hyy⟩ : ∃ y : Int, (s[k].toNat : Int) = y := ⟨_, rfl⟩
      rw [hx, hyy] at st
      have HS : Hid (r = (inL keyR y && ((bytesI s).drop (k + 1)).all (inL keyR))) := by show r = _; rw [HO.out, st]
      have my := HmR.out y
      have IY := IR2 y
      obtain ⟨j, hj⟩ : ∃ j, iR y = j := ⟨_, rfl⟩
      rw [hj] at my IY
      clear st hx HO IR2 HmR hj
      by_cases h4 : j < 0
      · have e2 : inL keyR y = false := by
          unfold inL
          cases h : keyR.contains y.toNat.toUInt8 with
          | false => rfl
          | true => have := my.2 h; omega
        have FIN : Hid (r = false) := by show r = false; rw [HS.out, e2]; rfl
        clear my e2 HS
        go_wp2_with (go_at_call 217; refine (IY _).mono ?_; rintro e w' ⟨rfl, rfl⟩)
        go_ret
        exact ⟨ret_bool FIN.out.symm, rfl⟩
      · have e2 : inL keyR y = true := my.1 (by omega)
        have FIN : Hid (r = ((bytesI s).drop (k + 1)).all (inL keyR)) := by show r = _; rw [HS.out, e2]; rfl
        clear my e2 HS
        go_wp2_with (go_at_call 217; refine (IY _).mono ?_; rintro e w' ⟨rfl, rfl⟩)
        go_round
        case rel => exact ⟨k + 1, by go_num, by omega, by omega, FIN.out⟩
        case measure => simp [intOf]; omega
    · have FIN : Hid (r = true) := by show r = true; rw [HO.out, List.drop_of_length_le (by omega)]; rfl
      clear IR2 HmR
      go_wp2
      go_ret
      exact ⟨ret_bool FIN.out.symm, rfl⟩
def valB (k : Int) (s : ByteArray) (n : Int) : Bool :=
  if k = 0 then decide (n = 0) && decide (s.size ≤ 200) && Lib.validD s.data.toList
  else if k = 1 then decide (s.size = 0)
  else if k = 2 then decide (s.size = 0) && (decide (n = 0) || decide (n = 1)) else false
theorem empty_str (s : ByteArray) : (s.toList == ([] : List UInt8)) = decide (s.size = 0) := by
  have : s.toList.length = s.size := by rw [Lib.toList_data, Array.length_toList]; rfl
  cases h : s.toList with
  | nil => rw [h] at this; simp at this; simp [← this]
  | cons x r => rw [h] at this; simp at this; rw [decide_eq_false (by omega)]; rfl
theorem value_any (k : Int) (s : ByteArray) (n : Int) (w : World) (hs : s.size ≤ 140737488355328) (hT : Tabs w) :
    Calls Tryz.prog 186 #[.agg #[.int .i64 k, .string s, .int .i64 n]] w fun e w' => e = .returned (.bool (valB k s n)) ∧ Below w.heap.size w w' := by
  have B1 : ∀ o : Obj, Below w.heap.size w (w.alloc o) := fun o => (Below.refl _ _).alloc (Nat.le_refl _) o
  have VA := fun o => valid_any s (w.alloc o) (by omega) (hT.below (B1 o))
  have ES := empty_str s
  unfold valB
  generalize Lib.validD s.data.toList = vd at VA ⊢
  by_cases k0 : k = 0
  · subst k0
    rw [if_pos rfl]
    by_cases n0 : n = 0
    · subst n0
      by_cases h2 : s.size ≤ 200
      · have h2i : (s.size : Int) ≤ 200 := by omega
        go_enter Tryz.func186, Tryz.ntmps186
        go_wp2_with (go_at_call 181; refine (VA _).mono ?_; rintro e w' ⟨rfl, hb⟩; have hB := (B1 _).trans (hb.mono (B1 _).size))
        go_ret
        exact ⟨ret_bool (by simp [h2]), hB⟩
      · have h2i : ¬ (s.size : Int) ≤ 200 := by omega
        clear VA
        go_enter Tryz.func186, Tryz.ntmps186
        go_wp2
        go_ret
        exact ⟨ret_bool (by simp), B1 _⟩
    · have n0' : (n == 0) = false := by simpa using n0
      clear VA
      go_enter Tryz.func186, Tryz.ntmps186
      go_wp2
      go_ret
      exact ⟨ret_bool (by simp [n0]), B1 _⟩
  rw [if_neg k0]
  have k0' : (k == 0) = false := by simpa using k0
  clear VA
  by_cases k1 : k = 1
  · subst k1
    rw [if_pos rfl]
    by_cases h : s.size = 0
    · have ES2 : (s.toList == ([] : List UInt8)) = true := by rw [ES]; simp [h]
      go_enter Tryz.func186, Tryz.ntmps186
      go_wp2
      go_ret
      exact ⟨ret_bool (by simp [h]), B1 _⟩
    · have ES2 : (s.toList == ([] : List UInt8)) = false := by rw [ES]; exact decide_eq_false h
      go_enter Tryz.func186, Tryz.ntmps186
      go_wp2
      go_ret
      exact ⟨ret_bool (by rw [decide_eq_false h]), B1 _⟩
  rw [if_neg k1]
  have k1' : (k == 1) = false := by simpa using k1
  by_cases k2 : k = 2
  · subst k2
    rw [if_pos rfl]
    by_cases h : s.size = 0
    · have ES2 : (s.toList == ([] : List UInt8)) = true := by rw [ES]; simp [h]
      by_cases n0 : n = 0
      · subst n0
        go_enter Tryz.func186, Tryz.ntmps186
        go_wp2
        go_ret
        exact ⟨ret_bool (by simp [h]), B1 _⟩
      · have n0' : (n == 0) = false := by simpa using n0
        go_enter Tryz.func186, Tryz.ntmps186
        go_wp2
        go_ret
        exact ⟨ret_bool (by rw [decide_eq_true h, decide_eq_false n0]; by_cases n1 : n = 1 <;> simp [n1]), B1 _⟩
    · have ES2 : (s.toList == ([] : List UInt8)) = false := by rw [ES]; exact decide_eq_false h
      go_enter Tryz.func186, Tryz.ntmps186
      go_wp2
      go_ret
      exact ⟨ret_bool (by rw [decide_eq_false h]; rfl), B1 _⟩
  · rw [if_neg k2]
    have k2' : (k == 2) = false := by simpa using k2
    go_enter Tryz.func186, Tryz.ntmps186
    go_wp2
    go_ret
    exact ⟨rfl, B1 _⟩
def riseB {α : Type} (c : α → α → Int) : List α → Bool
 | [] => true
 | [_] => true
 | a :: b :: r => decide (c a b < 0) && riseB c (b :: r)
theorem rise_step {α : Type} {c : α → α → Int} {x : List α} {j : Nat} {r : Bool} (h : r = riseB c (x.drop j)) (hx : j + 1 < x.length) : r = (decide (c x[j] x[j + 1] < 0) && riseB c (x.drop (j + 1))) := by
 rw [h, List.drop_eq_getElem_cons (by omega : j < x.length), List.drop_eq_getElem_cons hx]
 rfl
theorem rise_end {α : Type} {c : α → α → Int} {x : List α} {j : Nat} {r : Bool} (h : r = riseB c (x.drop j)) (hx : x.length ≤ j + 1) : r = true := by
 rw [h]
 by_cases h0 : j < x.length
 ·rw [List.drop_eq_getElem_cons h0, List.drop_of_length_le (by omega)]; rfl
 ·rw [List.drop_of_length_le (by omega)]; rfl
set_option maxHeartbeats 400000 in
theorem rise_events (ad : Option Addr) (n c : Nat) (X : List EventD) (w : World) (hX : EventsAt w ad n X) (hn : n ≤ 140737488355328) :
  Calls Tryz.prog 187 #[.slice ad n c, .func (.func 188) #[] #[]] w fun e w' => e = .returned (.bool (riseB cmpE X)) ∧ Below w.heap.size w w' := by
 have hl : X.length = n := hX.len
 obtain ⟨r, hr⟩ : ∃ r, riseB cmpE X = r := ⟨_, rfl⟩
 rw [hr]
 go_enter Tryz.func187, Tryz.ntmps187
 go_wp2
 go_loopw [5] (fun a wr => ∃ j : Nat, a = .int .i64 ((j : Int) + 1) ∧ (j < n ∨ j = 0) ∧ r = riseB cmpE (X.drop j) ∧ Below w.heap.size w wr) (fun a _ => n - (intOf a).toNat)
 case atStart => exact ⟨0, rfl, Or.inr rfl, by simp [hr], Below.refl _ _⟩
 case round =>
  obtain ⟨j, rfl, hjn, ho, hbw⟩ := hrel
  have HO : Hid (r = riseB cmpE (X.drop j)) := ho
  have hX2 := hX.below hbw
  have hsz := hbw.size
  clear ho hr hX
  by_cases hlt : j + 1 < n
  ·obtain ⟨b1, o1, rfl, hc1⟩ := hX2.lies (by omega)
   have ck := hc1 j (by omega)
   have dk := hc1 (j + 1) (by omega)
   have st := rise_step HO.out (by omega)
   obtain ⟨x, hx⟩ : ∃ x, X[j] = x := ⟨_, rfl⟩
   obtain ⟨y, hy⟩ : ∃ y, X[j + 1] = y := ⟨_, rfl⟩
   rw [hx, hy] at st
   rw [hx] at ck
   rw [hy] at dk
   obtain ⟨c0, c1⟩ := ck
   obtain ⟨d0, d1⟩ := dk
   have l2 : b1 < wr.heap.size := World.block_lt_of_cell? wr _ c0
   have i1 : (0 : Int) ≤ (j : Int) := by omega
   have i2 : (j : Int) < (n : Int) := by omega
   have i3 : ((j : Int) + 1).toNat = j + 1 := by omega
   have i4 : (0 : Int) ≤ (j : Int) + 1 := by omega
   have i5 : (j : Int) + 1 < (n : Int) := by omega
   have i6 : IntKind.i64.wrap (j : Int) = (j : Int) := by rw [wrap_i64]; omega
   have i7 : IntKind.i64.wrap ((j : Int) + 1 - 1) = (j : Int) := by rw [wrap_i64]; omega
   have HS : Hid (r = (decide (cmpE x y < 0) && riseB cmpE (X.drop (j + 1)))) := st
   have CC := event_any x y
   obtain ⟨q, hq⟩ : ∃ q, cmpE x y = q := ⟨_, rfl⟩
   rw [show cmpE x y = q from hq] at HS
   rw [hq] at CC
   simp only [eventV] at CC
   clear st hx hy HO hc1 hX2 hq hjn
   by_cases hq0 : q < 0
   ·have FIN : Hid (r = riseB cmpE (X.drop (j + 1))) := by show r = _; rw [HS.out]; simp [hq0]
    clear HS
    go_wp2
    go_region_held3 (fun w' => w'.cell? ⟨b1, o1 + j * 2, none⟩ = some (.int .i64 x.moment) ∧ w'.cell? ⟨b1, o1 + j * 2 + 1, none⟩ = some (.string x.name) ∧ w'.cell? ⟨b1, o1 + (j + 1) * 2, none⟩ = some (.int .i64 y.moment) ∧ w'.cell? ⟨b1, o1 + (j + 1) * 2 + 1, none⟩ = some (.string y.name)) (first | (simp [go_sem, *]; done) | exact S5) (first | (go_at_call 188; refine (CC _).mono ?_; rintro e w5 ⟨rfl, hb5⟩; have hbq : Below wr.heap.size wr w5 := ⟨hb5.os, hb5.tape, hb5.output, hb5.size, hb5.block⟩; have S5 : w5.cell? ⟨b1, o1 + j * 2, none⟩ = some (.int .i64 x.moment) ∧ w5.cell? ⟨b1, o1 + j * 2 + 1, none⟩ = some (.string x.name) ∧ w5.cell? ⟨b1, o1 + (j + 1) * 2, none⟩ = some (.int .i64 y.moment) ∧ w5.cell? ⟨b1, o1 + (j + 1) * 2 + 1, none⟩ = some (.string y.name) := ⟨(hbq.cell (p := ⟨b1, o1 + j * 2, none⟩) l2).trans c0, (hbq.cell (p := ⟨b1, o1 + j * 2 + 1, none⟩) l2).trans c1, (hbq.cell (p := ⟨b1, o1 + (j + 1) * 2, none⟩) l2).trans d0, (hbq.cell (p := ⟨b1, o1 + (j + 1) * 2 + 1, none⟩) l2).trans d1⟩; clear CC))
    have hB := hbw.trans (hbq.mono hsz)
    go_wp2
    go_roundw
    case rel => exact ⟨j + 1, by go_num, Or.inl (by omega), FIN.out, hB⟩
    case measure => simp [intOf]; omega
   ·have FIN : Hid (r = false) := by show r = _; rw [HS.out]; simp [hq0]
    clear HS
    go_wp2
    go_region_held3 (fun w' => w'.cell? ⟨b1, o1 + j * 2, none⟩ = some (.int .i64 x.moment) ∧ w'.cell? ⟨b1, o1 + j * 2 + 1, none⟩ = some (.string x.name) ∧ w'.cell? ⟨b1, o1 + (j + 1) * 2, none⟩ = some (.int .i64 y.moment) ∧ w'.cell? ⟨b1, o1 + (j + 1) * 2 + 1, none⟩ = some (.string y.name)) (first | (simp [go_sem, *]; done) | exact S5) (first | (go_at_call 188; refine (CC _).mono ?_; rintro e w5 ⟨rfl, hb5⟩; have hbq : Below wr.heap.size wr w5 := ⟨hb5.os, hb5.tape, hb5.output, hb5.size, hb5.block⟩; have S5 : w5.cell? ⟨b1, o1 + j * 2, none⟩ = some (.int .i64 x.moment) ∧ w5.cell? ⟨b1, o1 + j * 2 + 1, none⟩ = some (.string x.name) ∧ w5.cell? ⟨b1, o1 + (j + 1) * 2, none⟩ = some (.int .i64 y.moment) ∧ w5.cell? ⟨b1, o1 + (j + 1) * 2 + 1, none⟩ = some (.string y.name) := ⟨(hbq.cell (p := ⟨b1, o1 + j * 2, none⟩) l2).trans c0, (hbq.cell (p := ⟨b1, o1 + j * 2 + 1, none⟩) l2).trans c1, (hbq.cell (p := ⟨b1, o1 + (j + 1) * 2, none⟩) l2).trans d0, (hbq.cell (p := ⟨b1, o1 + (j + 1) * 2 + 1, none⟩) l2).trans d1⟩; clear CC))
    have hB := hbw.trans (hbq.mono hsz)
    go_wp2
    go_ret
    exact ⟨ret_bool FIN.out.symm, hB⟩
  ·have FIN : Hid (r = true) := rise_end HO.out (by omega)
   have i5 : ¬ (j : Int) + 1 < (n : Int) := by omega
   go_wp2
   go_ret
   exact ⟨ret_bool FIN.out.symm, hbw⟩
set_option maxHeartbeats 400000 in
theorem rise_attrs (ad : Option Addr) (n c : Nat) (X : List AttrD) (w : World) (hX : AttrsAt w ad n X) (hn : n ≤ 140737488355328) :
  Calls Tryz.prog 183 #[.slice ad n c, .func (.func 184) #[] #[]] w fun e w' => e = .returned (.bool (riseB (fun a b : AttrD => cmpS a.key b.key) X)) ∧ Below w.heap.size w w' := by
 have hl : X.length = n := hX.len
 obtain ⟨r, hr⟩ : ∃ r, riseB (fun a b : AttrD => cmpS a.key b.key) X = r := ⟨_, rfl⟩
 rw [hr]
 go_enter Tryz.func183, Tryz.ntmps183
 go_wp2
 go_loopw [5] (fun a wr => ∃ j : Nat, a = .int .i64 ((j : Int) + 1) ∧ (j < n ∨ j = 0) ∧ r = riseB (fun a b : AttrD => cmpS a.key b.key) (X.drop j) ∧ Below w.heap.size w wr) (fun a _ => n - (intOf a).toNat)
 case atStart => exact ⟨0, rfl, Or.inr rfl, by simp [hr], Below.refl _ _⟩
 case round =>
  obtain ⟨j, rfl, hjn, ho, hbw⟩ := hrel
  have HO : Hid (r = riseB (fun a b : AttrD => cmpS a.key b.key) (X.drop j)) := ho
  have hX2 := hX.below hbw
  have hsz := hbw.size
  clear ho hr hX
  by_cases hlt : j + 1 < n
  ·obtain ⟨b1, o1, rfl, hc1⟩ := hX2.lies (by omega)
   have ck := hc1 j (by omega)
   have dk := hc1 (j + 1) (by omega)
   have st := rise_step HO.out (by omega)
   obtain ⟨x, hx⟩ : ∃ x, X[j] = x := ⟨_, rfl⟩
   obtain ⟨y, hy⟩ : ∃ y, X[j + 1] = y := ⟨_, rfl⟩
   rw [hx, hy] at st
   rw [hx] at ck
   rw [hy] at dk
   obtain ⟨c0, c1, c2, c3⟩ := ck
   obtain ⟨d0, d1, d2, d3⟩ := dk
   have l2 : b1 < wr.heap.size := World.block_lt_of_cell? wr _ c0
   have i1 : (0 : Int) ≤ (j : Int) := by omega
   have i2 : (j : Int) < (n : Int) := by omega
   have i3 : ((j : Int) + 1).toNat = j + 1 := by omega
   have i4 : (0 : Int) ≤ (j : Int) + 1 := by omega
   have i5 : (j : Int) + 1 < (n : Int) := by omega
   have i6 : IntKind.i64.wrap (j : Int) = (j : Int) := by rw [wrap_i64]; omega
   have i7 : IntKind.i64.wrap ((j : Int) + 1 - 1) = (j : Int) := by rw [wrap_i64]; omega
   have HS : Hid (r = (decide ((fun a b : AttrD => cmpS a.key b.key) x y < 0) && riseB (fun a b : AttrD => cmpS a.key b.key) (X.drop (j + 1)))) := st
   have CC := key_any x y
   obtain ⟨q, hq⟩ : ∃ q, cmpS x.key y.key = q := ⟨_, rfl⟩
   rw [show (fun a b : AttrD => cmpS a.key b.key) x y = q from hq] at HS
   rw [hq] at CC
   simp only [attrV] at CC
   clear st hx hy HO hc1 hX2 hq hjn
   by_cases hq0 : q < 0
   ·have FIN : Hid (r = riseB (fun a b : AttrD => cmpS a.key b.key) (X.drop (j + 1))) := by show r = _; rw [HS.out]; simp [hq0]
    clear HS
    go_wp2
    go_region_held3 (fun w' => w'.cell? ⟨b1, o1 + j * 4, none⟩ = some (.string x.key) ∧ w'.cell? ⟨b1, o1 + j * 4 + 1, none⟩ = some (.int .i64 x.kind) ∧ w'.cell? ⟨b1, o1 + j * 4 + 2, none⟩ = some (.string x.text) ∧ w'.cell? ⟨b1, o1 + j * 4 + 3, none⟩ = some (.int .i64 x.num) ∧ w'.cell? ⟨b1, o1 + (j + 1) * 4, none⟩ = some (.string y.key) ∧ w'.cell? ⟨b1, o1 + (j + 1) * 4 + 1, none⟩ = some (.int .i64 y.kind) ∧ w'.cell? ⟨b1, o1 + (j + 1) * 4 + 2, none⟩ = some (.string y.text) ∧ w'.cell? ⟨b1, o1 + (j + 1) * 4 + 3, none⟩ = some (.int .i64 y.num)) (first | (simp [go_sem, *]; done) | exact S5) (first | (go_at_call 184; refine (CC _).mono ?_; rintro e w5 ⟨rfl, hb5⟩; have hbq : Below wr.heap.size wr w5 := hb5 ▸ (((Below.refl _ _).alloc (Nat.le_refl _) _).alloc (by simp) _).drew; have S5 : w5.cell? ⟨b1, o1 + j * 4, none⟩ = some (.string x.key) ∧ w5.cell? ⟨b1, o1 + j * 4 + 1, none⟩ = some (.int .i64 x.kind) ∧ w5.cell? ⟨b1, o1 + j * 4 + 2, none⟩ = some (.string x.text) ∧ w5.cell? ⟨b1, o1 + j * 4 + 3, none⟩ = some (.int .i64 x.num) ∧ w5.cell? ⟨b1, o1 + (j + 1) * 4, none⟩ = some (.string y.key) ∧ w5.cell? ⟨b1, o1 + (j + 1) * 4 + 1, none⟩ = some (.int .i64 y.kind) ∧ w5.cell? ⟨b1, o1 + (j + 1) * 4 + 2, none⟩ = some (.string y.text) ∧ w5.cell? ⟨b1, o1 + (j + 1) * 4 + 3, none⟩ = some (.int .i64 y.num) := ⟨(hbq.cell (p := ⟨b1, o1 + j * 4, none⟩) l2).trans c0, (hbq.cell (p := ⟨b1, o1 + j * 4 + 1, none⟩) l2).trans c1, (hbq.cell (p := ⟨b1, o1 + j * 4 + 2, none⟩) l2).trans c2, (hbq.cell (p := ⟨b1, o1 + j * 4 + 3, none⟩) l2).trans c3, (hbq.cell (p := ⟨b1, o1 + (j + 1) * 4, none⟩) l2).trans d0, (hbq.cell (p := ⟨b1, o1 + (j + 1) * 4 + 1, none⟩) l2).trans d1, (hbq.cell (p := ⟨b1, o1 + (j + 1) * 4 + 2, none⟩) l2).trans d2, (hbq.cell (p := ⟨b1, o1 + (j + 1) * 4 + 3, none⟩) l2).trans d3⟩; clear CC))
    have hB := hbw.trans (hbq.mono hsz)
    go_wp2
    go_roundw
    case rel => exact ⟨j + 1, by go_num, Or.inl (by omega), FIN.out, by subst hb5; exact hB⟩
    case measure => simp [intOf]; omega
   ·have FIN : Hid (r = false) := by show r = _; rw [HS.out]; simp [hq0]
    clear HS
    go_wp2
    go_region_held3 (fun w' => w'.cell? ⟨b1, o1 + j * 4, none⟩ = some (.string x.key) ∧ w'.cell? ⟨b1, o1 + j * 4 + 1, none⟩ = some (.int .i64 x.kind) ∧ w'.cell? ⟨b1, o1 + j * 4 + 2, none⟩ = some (.string x.text) ∧ w'.cell? ⟨b1, o1 + j * 4 + 3, none⟩ = some (.int .i64 x.num) ∧ w'.cell? ⟨b1, o1 + (j + 1) * 4, none⟩ = some (.string y.key) ∧ w'.cell? ⟨b1, o1 + (j + 1) * 4 + 1, none⟩ = some (.int .i64 y.kind) ∧ w'.cell? ⟨b1, o1 + (j + 1) * 4 + 2, none⟩ = some (.string y.text) ∧ w'.cell? ⟨b1, o1 + (j + 1) * 4 + 3, none⟩ = some (.int .i64 y.num)) (first | (simp [go_sem, *]; done) | exact S5) (first | (go_at_call 184; refine (CC _).mono ?_; rintro e w5 ⟨rfl, hb5⟩; have hbq : Below wr.heap.size wr w5 := hb5 ▸ (((Below.refl _ _).alloc (Nat.le_refl _) _).alloc (by simp) _).drew; have S5 : w5.cell? ⟨b1, o1 + j * 4, none⟩ = some (.string x.key) ∧ w5.cell? ⟨b1, o1 + j * 4 + 1, none⟩ = some (.int .i64 x.kind) ∧ w5.cell? ⟨b1, o1 + j * 4 + 2, none⟩ = some (.string x.text) ∧ w5.cell? ⟨b1, o1 + j * 4 + 3, none⟩ = some (.int .i64 x.num) ∧ w5.cell? ⟨b1, o1 + (j + 1) * 4, none⟩ = some (.string y.key) ∧ w5.cell? ⟨b1, o1 + (j + 1) * 4 + 1, none⟩ = some (.int .i64 y.kind) ∧ w5.cell? ⟨b1, o1 + (j + 1) * 4 + 2, none⟩ = some (.string y.text) ∧ w5.cell? ⟨b1, o1 + (j + 1) * 4 + 3, none⟩ = some (.int .i64 y.num) := ⟨(hbq.cell (p := ⟨b1, o1 + j * 4, none⟩) l2).trans c0, (hbq.cell (p := ⟨b1, o1 + j * 4 + 1, none⟩) l2).trans c1, (hbq.cell (p := ⟨b1, o1 + j * 4 + 2, none⟩) l2).trans c2, (hbq.cell (p := ⟨b1, o1 + j * 4 + 3, none⟩) l2).trans c3, (hbq.cell (p := ⟨b1, o1 + (j + 1) * 4, none⟩) l2).trans d0, (hbq.cell (p := ⟨b1, o1 + (j + 1) * 4 + 1, none⟩) l2).trans d1, (hbq.cell (p := ⟨b1, o1 + (j + 1) * 4 + 2, none⟩) l2).trans d2, (hbq.cell (p := ⟨b1, o1 + (j + 1) * 4 + 3, none⟩) l2).trans d3⟩; clear CC))
    have hB := hbw.trans (hbq.mono hsz)
    go_wp2
    go_ret
    exact ⟨ret_bool FIN.out.symm, by subst hb5; exact hB⟩
  ·have FIN : Hid (r = true) := rise_end HO.out (by omega)
   have i5 : ¬ (j : Int) + 1 < (n : Int) := by omega
   go_wp2
   go_ret
   exact ⟨ret_bool FIN.out.symm, hbw⟩
set_option maxHeartbeats 400000 in
theorem rise_links (ad : Option Addr) (n c : Nat) (X : List Int) (w : World) (hX : HoldsV w ad n (intsV .u64 X)) (hn : n ≤ 140737488355328) :
  Calls Tryz.prog 182 #[.slice ad n c, .func (.func 49) #[] #[]] w fun e w' => e = .returned (.bool (riseB cmpI X)) ∧ Below w.heap.size w w' := by
 have hl : X.length = n := by simpa [intsV] using hX.len
 obtain ⟨r, hr⟩ : ∃ r, riseB cmpI X = r := ⟨_, rfl⟩
 rw [hr]
 go_enter Tryz.func182, Tryz.ntmps182
 go_wp2
 go_loopw [5] (fun a wr => ∃ j : Nat, a = .int .i64 ((j : Int) + 1) ∧ (j < n ∨ j = 0) ∧ r = riseB cmpI (X.drop j) ∧ Below w.heap.size w wr) (fun a _ => n - (intOf a).toNat)
 case atStart => exact ⟨0, rfl, Or.inr rfl, by simp [hr], Below.refl _ _⟩
 case round =>
  obtain ⟨j, rfl, hjn, ho, hbw⟩ := hrel
  have HO : Hid (r = riseB cmpI (X.drop j)) := ho
  have hX2 := hX.below hbw
  have hsz := hbw.size
  clear ho hr hX
  by_cases hlt : j + 1 < n
  ·obtain ⟨b1, o1, rfl, hc1⟩ := hX2.plain (intsV_get (k := .u64) (by omega : j < X.length))
   have ck := hc1 j _ (intsV_get (k := .u64) (by omega : j < X.length))
   have dk := hc1 (j + 1) _ (intsV_get (k := .u64) (by omega : j + 1 < X.length))
   have st := rise_step HO.out (by omega)
   obtain ⟨x, hx⟩ : ∃ x, X[j] = x := ⟨_, rfl⟩
   obtain ⟨y, hy⟩ : ∃ y, X[j + 1] = y := ⟨_, rfl⟩
   rw [hx, hy] at st
   rw [hx] at ck
   rw [hy] at dk
   have c0 := ck
   have d0 := dk
   clear ck dk
   have l2 : b1 < wr.heap.size := World.block_lt_of_cell? wr _ c0
   have i1 : (0 : Int) ≤ (j : Int) := by omega
   have i2 : (j : Int) < (n : Int) := by omega
   have i3 : ((j : Int) + 1).toNat = j + 1 := by omega
   have i4 : (0 : Int) ≤ (j : Int) + 1 := by omega
   have i5 : (j : Int) + 1 < (n : Int) := by omega
   have i6 : IntKind.i64.wrap (j : Int) = (j : Int) := by rw [wrap_i64]; omega
   have i7 : IntKind.i64.wrap ((j : Int) + 1 - 1) = (j : Int) := by rw [wrap_i64]; omega
   have HS : Hid (r = (decide (cmpI x y < 0) && riseB cmpI (X.drop (j + 1)))) := st
   have CC := cmp_id x y
   obtain ⟨q, hq⟩ : ∃ q, cmpI x y = q := ⟨_, rfl⟩
   rw [show cmpI x y = q from hq] at HS
   rw [hq] at CC
   clear st hx hy HO hc1 hX2 hq hjn
   by_cases hq0 : q < 0
   ·have FIN : Hid (r = riseB cmpI (X.drop (j + 1))) := by show r = _; rw [HS.out]; simp [hq0]
    clear HS
    go_wp2
    go_region_held3 (fun w' => w'.cell? ⟨b1, o1 + j, none⟩ = some (.int .u64 x) ∧ w'.cell? ⟨b1, o1 + (j + 1), none⟩ = some (.int .u64 y)) (first | (simp [go_sem, *]; done) | exact S5) (first | (go_at_call 49; refine (CC _).mono ?_; rintro e w5 ⟨rfl, hb5⟩; have hbq : Below wr.heap.size wr w5 := hb5 ▸ (Below.refl wr.heap.size wr).drew; have S5 : w5.cell? ⟨b1, o1 + j, none⟩ = some (.int .u64 x) ∧ w5.cell? ⟨b1, o1 + (j + 1), none⟩ = some (.int .u64 y) := ⟨(hbq.cell (p := ⟨b1, o1 + j, none⟩) l2).trans c0, (hbq.cell (p := ⟨b1, o1 + (j + 1), none⟩) l2).trans d0⟩; clear CC))
    have hB := hbw.trans (hbq.mono hsz)
    go_wp2
    go_roundw
    case rel => exact ⟨j + 1, by go_num, Or.inl (by omega), FIN.out, hb5 ▸ hB⟩
    case measure => simp [intOf]; omega
   ·have FIN : Hid (r = false) := by show r = _; rw [HS.out]; simp [hq0]
    clear HS
    go_wp2
    go_region_held3 (fun w' => w'.cell? ⟨b1, o1 + j, none⟩ = some (.int .u64 x) ∧ w'.cell? ⟨b1, o1 + (j + 1), none⟩ = some (.int .u64 y)) (first | (simp [go_sem, *]; done) | exact S5) (first | (go_at_call 49; refine (CC _).mono ?_; rintro e w5 ⟨rfl, hb5⟩; have hbq : Below wr.heap.size wr w5 := hb5 ▸ (Below.refl wr.heap.size wr).drew; have S5 : w5.cell? ⟨b1, o1 + j, none⟩ = some (.int .u64 x) ∧ w5.cell? ⟨b1, o1 + (j + 1), none⟩ = some (.int .u64 y) := ⟨(hbq.cell (p := ⟨b1, o1 + j, none⟩) l2).trans c0, (hbq.cell (p := ⟨b1, o1 + (j + 1), none⟩) l2).trans d0⟩; clear CC))
    have hB := hbw.trans (hbq.mono hsz)
    go_wp2
    go_ret
    exact ⟨ret_bool FIN.out.symm, hb5 ▸ hB⟩
  ·have FIN : Hid (r = true) := rise_end HO.out (by omega)
   have i5 : ¬ (j : Int) + 1 < (n : Int) := by omega
   go_wp2
   go_ret
   exact ⟨ret_bool FIN.out.symm, hbw⟩
end Go.Proofs.YtnffedmcblbkoaaGreatDoor
