/-
  Merged: Zi, Zv, Zk.
-/
import Derived.Test.YtipkolmkpfpjjaaGreatDoorFBq
import Derived.Shelf.Unicode.ValidAny
import Derived.Test.YtipkolmkpfpjjaaGreatDoorWaq
import Derived.Lib.Bytealg
namespace Go.Proofs.YtipkolmkpfpjjaaGreatDoor
open Go.Shelf Go.RowKit
set_option maxRecDepth 100000

def textL (s : ByteArray) : List Int := encN s.size ++ bytesI s
def attrL (a : AttrD) : List Int := textL a.key ++ (encN a.kind.toNat ++ (textL a.text ++ encN (zigI a.num).toNat))
def eventL (a : EventD) : List Int := encN a.moment.toNat ++ textL a.name
def catL {α : Type} (f : α → List Int) : List α → List Int
  | [] => []
  | a :: r => f a ++ catL f r
theorem catL_snoc {α : Type} (f : α → List Int) (X : List α) (k : Nat) (hk : k < X.length) : catL f (X.take (k + 1)) = catL f (X.take k) ++ f X[k] := by
  induction X generalizing k with
  | nil => simp at hk
  | cons a r ih =>
    cases k with
    | zero => simp [catL]
    | succ k =>
      simp only [List.take_succ_cons, catL, List.getElem_cons_succ]
      rw [ih k (by simpa using hk), List.append_assoc]
theorem box_cells {w : World} {g : Nat} {cs : Array Value} {t : TypeId} (h : w.heap[g]? = some (.cells cs t (0, 0))) (j : Nat) {u : Value} (hu : cs[j]? = some u) : w.cell? ⟨g, j, none⟩ = some u := by
  simp [World.cell?, h, hu]

end Go.Proofs.YtipkolmkpfpjjaaGreatDoor

namespace Go.Proofs.YtipkolmkpfpjjaaGreatDoor
open Go.Shelf Go.RowKit
def lays196_ren : Go.Shelf.Ren := ⟨fun | 196 => 71 | 259 => 88 | n => n, fun | 0 => 0 | 3 => 3 | 4 => 4 | 5 => 5 | 9 => 9 | 12 => 12 | 46 => 99 | 53 => 32 | 119 => 145 | 138 => 147 | 139 => 148 | n => n, fun | 3 => 0 | 4 => 1 | n => n⟩
theorem lays196 : Go.Proofs.Lays.n196 Tryz.prog lays196_ren := {
  mixed := by kernel_rfl
  f196 := Tryz.func71.trans (congrArg some (by kernel_rfl))
  f259 := Tryz.func88.trans (congrArg some (by kernel_rfl))
  t0 := Tryz.underlying0
  a0 := Tryz.isAgg0
  z0 := Tryz.sizeOf0
  v0 := Tryz.zeroValue0
  t3 := Tryz.underlying3
  a3 := Tryz.isAgg3
  z3 := Tryz.sizeOf3
  v3 := Tryz.zeroValue3
  t4 := Tryz.underlying4
  a4 := Tryz.isAgg4
  z4 := Tryz.sizeOf4
  v4 := Tryz.zeroValue4
  t5 := Tryz.underlying5
  a5 := Tryz.isAgg5
  z5 := Tryz.sizeOf5
  v5 := Tryz.zeroValue5
  t9 := Tryz.underlying9
  a9 := Tryz.isAgg9
  z9 := Tryz.sizeOf9
  v9 := Tryz.zeroValue9
  t12 := Tryz.underlying12
  a12 := Tryz.isAgg12
  z12 := Tryz.sizeOf12
  v12 := Tryz.zeroValue12
  t46 := Tryz.underlying99
  a46 := Tryz.isAgg99
  z46 := Tryz.sizeOf99
  v46 := Tryz.zeroValue99
  t53 := Tryz.underlying32
  a53 := Tryz.isAgg32
  z53 := Tryz.sizeOf32
  v53 := Tryz.zeroValue32
  t119 := Tryz.underlying145
  a119 := Tryz.isAgg145
  z119 := Tryz.sizeOf145
  t138 := Tryz.underlying147
  a138 := Tryz.isAgg147
  z138 := Tryz.sizeOf147
  v138 := Tryz.zeroValue147
  t139 := Tryz.underlying148
  a139 := Tryz.isAgg148
  z139 := Tryz.sizeOf148
  v139 := Tryz.zeroValue148
  g3 := by kernel_rfl
  g4 := by kernel_rfl }
theorem valid_any (s : ByteArray) (w : World) (hs : s.size ≤ 9223372036854775807) (hT : Tabs w) :
    Calls Tryz.prog 71 #[.string s] w fun e w' => e = .returned (.bool (Lib.validD s.data.toList)) ∧ Below w.heap.size w w' :=
  Any.utf8_ValidString lays196 s w hs hT
end Go.Proofs.YtipkolmkpfpjjaaGreatDoor

namespace Go.Proofs.YtipkolmkpfpjjaaGreatDoor
open Go.RowKit
set_option maxRecDepth 100000

def momB (x : Int) : Bool := decide (0 ≤ x) && decide (x ≤ 4611686018427387904)
theorem moment_any (x : Int) (w : World) :
    Calls Tryz.prog 49 #[.int .i64 x] w fun e w' => e = .returned (.bool (momB x)) ∧ w' = w := by
  unfold momB
  by_cases h1 : 0 ≤ x
  · have h1' : decide (0 ≤ x) = true := by simpa using h1
    go_enter Tryz.func49, Tryz.ntmps49
    go_wp2
    go_ret
    exact ⟨by simp [h1], rfl⟩
  · have h1' : decide (0 ≤ x) = false := by simpa using h1
    go_enter Tryz.func49, Tryz.ntmps49
    go_wp2
    go_ret
    exact ⟨by simp, rfl⟩

def okB (least x : Int) : Bool := decide (least ≤ x) && !decide (x = 127)
def plainB (s : ByteArray) (most least : Int) : Bool := decide (1 ≤ s.size) && decide ((s.size : Int) ≤ most) && Lib.validD s.data.toList && (bytesI s).all (okB least)
theorem all_step {f : Int → Bool} {K : List Int} {k : Nat} (h : k < K.length) : (K.drop k).all f = (f K[k] && (K.drop (k + 1)).all f) := by
  rw [List.drop_eq_getElem_cons h, List.all_cons]
theorem bytesI_at (s : ByteArray) (k : Nat) (h : k < s.size) : (bytesI s)[k]'(by rw [bytesI_length]; exact h) = (s[k].toNat : Int) := by
  simp [bytesI]; rfl

theorem plain_any (s : ByteArray) (most least : Int) (w : World) (hs : s.size ≤ 140737488355328) (hT : Tabs w) :
    Calls Tryz.prog 50 #[.string s, .int .i64 most, .int .u8 least] w fun e w' => e = .returned (.bool (plainB s most least)) ∧ Below w.heap.size w w' := by
  have VA := valid_any s w (by omega) hT
  unfold plainB
  generalize Lib.validD s.data.toList = vd at VA ⊢
  by_cases h1 : s.size < 1
  · have h1' : decide (1 ≤ s.size) = false := decide_eq_false (by omega)
    have h1z : s.size = 0 := by omega
    clear VA
    go_enter Tryz.func50, Tryz.ntmps50
    go_wp2
    go_ret
    exact ⟨by simp [h1'], Below.refl _ _⟩
  have h1' : decide (1 ≤ s.size) = true := decide_eq_true (by omega)
  have h1i : (1 : Int) ≤ (s.size : Int) := by omega
  by_cases h2 : most < (s.size : Int)
  · have h2' : decide ((s.size : Int) ≤ most) = false := by simp; omega
    clear VA
    go_enter Tryz.func50, Tryz.ntmps50
    go_wp2
    go_ret
    exact ⟨by simp [h2'], Below.refl _ _⟩
  have h2' : decide ((s.size : Int) ≤ most) = true := by simp; omega
  cases vd with
  | false =>
    go_enter Tryz.func50, Tryz.ntmps50
    go_wp2_with (go_at_call 71; refine VA.mono ?_; rintro e w' ⟨rfl, hb⟩)
    go_ret
    exact ⟨by simp, hb⟩
  | true =>
    rw [h1', h2']
    simp only [Bool.true_and]
    obtain ⟨r, hr⟩ : ∃ r, (bytesI s).all (okB least) = r := ⟨_, rfl⟩
    rw [hr]
    have hl := bytesI_length s
    clear h1' h2'
    go_enter Tryz.func50, Tryz.ntmps50
    go_wp2_with (go_at_call 71; refine VA.mono ?_; rintro e w' ⟨rfl, hb⟩)
    go_loop [24] (fun a => ∃ k : Nat, a = .int .i64 k ∧ k ≤ s.size ∧ r = ((bytesI s).drop k).all (okB least)) (fun a => s.size - (intOf a).toNat)
    case atStart => exact ⟨0, rfl, by omega, by simp [hr]⟩
    case round =>
      obtain ⟨k, rfl, hk, ho⟩ := hrel
      have HO : Hid (r = ((bytesI s).drop k).all (okB least)) := ho
      clear ho hr
      by_cases hlt : k < s.size
      · have st := all_step (f := okB least) (K := bytesI s) (k := k) (by omega)
        have hx := bytesI_at s k hlt
        obtain ⟨x, hxx⟩ : ∃ x : Int, (s[k].toNat : Int) = x := ⟨_, rfl⟩
        rw [hx, hxx] at st
        have HS : Hid (r = (okB least x && ((bytesI s).drop (k + 1)).all (okB least))) := by show r = _; rw [HO.out, st]
        clear st hx HO
        by_cases h3 : x < least
        · have FIN : Hid (r = false) := by show r = false; rw [HS.out]; simp [okB]; intro h; omega
          go_wp2
          go_ret
          exact ⟨ret_bool FIN.out.symm, hb⟩
        · by_cases h4 : x = 127
          · have FIN : Hid (r = false) := by show r = false; rw [HS.out]; simp [okB, h4]
            go_wp2
            go_ret
            exact ⟨ret_bool FIN.out.symm, hb⟩
          · have FIN : Hid (r = ((bytesI s).drop (k + 1)).all (okB least)) := by show r = _; rw [HS.out]; simp [okB, h4]; intro _; omega
            have h4' : (x == 127) = false := by simpa using h4
            go_wp2
            go_round
            case rel => exact ⟨k + 1, by go_num, by omega, FIN.out⟩
            case measure => simp [intOf]; omega
      · have FIN : Hid (r = true) := by show r = true; rw [HO.out, List.drop_of_length_le (by omega)]; rfl
        go_wp2
        go_ret
        exact ⟨ret_bool FIN.out.symm, hb⟩

/-- The bytes that may stand ahead, and behind, in a key. -/
def keyF : List UInt8 := [97, 98, 99, 100, 101, 102, 103, 104, 105, 106, 107, 108, 109, 110, 111, 112, 113, 114, 115, 116, 117, 118, 119, 120, 121, 122]
def keyR : List UInt8 := keyF ++ [48, 49, 50, 51, 52, 53, 54, 55, 56, 57, 46, 95, 45]
end Go.Proofs.YtipkolmkpfpjjaaGreatDoor
