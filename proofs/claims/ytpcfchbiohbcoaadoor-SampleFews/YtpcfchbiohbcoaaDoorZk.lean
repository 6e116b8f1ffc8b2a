/-
  Zk.
-/
import Derived.Test.YtpcfchbiohbcoaaDoorZf
import Derived.Test.YtpcfchbiohbcoaaDoorZv
import Derived.Lib.Bytealg
namespace Go.Proofs.YtpcfchbiohbcoaaDoor
open Go.RowKit
set_option maxRecDepth 100000

def momB (x : Int) : Bool := decide (0 ≤ x) && decide (x ≤ 4611686018427387904)
theorem moment_any (x : Int) (w : World) :
    Calls Tryd.prog 54 #[.int .i64 x] w fun e w' => e = .returned (.bool (momB x)) ∧ w' = w := by
  unfold momB
  by_cases h1 : 0 ≤ x
  · have h1' : decide (0 ≤ x) = true := by simpa using h1
    go_enter Tryd.func54, Tryd.ntmps54
    go_wp2
    go_ret
    exact ⟨by simp [h1], rfl⟩
  · have h1' : decide (0 ≤ x) = false := by simpa using h1
    go_enter Tryd.func54, Tryd.ntmps54
    go_wp2
    go_ret
    exact ⟨by simp, rfl⟩

def okB (least x : Int) : Bool := decide (least ≤ x) && !decide (x = 127)
def plainB (s : ByteArray) (most least : Int) : Bool := decide (1 ≤ s.size) && decide ((s.size : Int) ≤ most) && Lib.validD s.data.toList && (bytesI s).all (okB least)
theorem all_step {f : Int → Bool} {K : List Int} {k : Nat} (h : k < K.length) : (K.drop k).all f = (f K[k] && (K.drop (k + 1)).all f) := by
  rw [List.drop_eq_getElem_cons h, List.all_cons]
theorem bytesI_at (s : ByteArray) (k : Nat) (h : k < s.size) : (bytesI s)[k]'(by rw [bytesI_length]; exact h) = (s[k].toNat : Int) := by
  simp [bytesI]; rfl

theorem plain_any (s : ByteArray) (most least : Int) (w : World) (hs : s.size ≤ 140737488355328) (hT : Tabs w) :
    Calls Tryd.prog 55 #[.string s, .int .i64 most, .int .u8 least] w fun e w' => e = .returned (.bool (plainB s most least)) ∧ Below w.heap.size w w' := by
  have VA := valid_any s w (by omega) hT
  unfold plainB
  generalize Lib.validD s.data.toList = vd at VA ⊢
  by_cases h1 : s.size < 1
  · have h1' : decide (1 ≤ s.size) = false := decide_eq_false (by omega)
    have h1z : s.size = 0 := by omega
    clear VA
    go_enter Tryd.func55, Tryd.ntmps55
    go_wp2
    go_ret
    exact ⟨by simp [h1'], Below.refl _ _⟩
  have h1' : decide (1 ≤ s.size) = true := decide_eq_true (by omega)
  have h1i : (1 : Int) ≤ (s.size : Int) := by omega
  by_cases h2 : most < (s.size : Int)
  · have h2' : decide ((s.size : Int) ≤ most) = false := by simp; omega
    clear VA
    go_enter Tryd.func55, Tryd.ntmps55
    go_wp2
    go_ret
    exact ⟨by simp [h2'], Below.refl _ _⟩
  have h2' : decide ((s.size : Int) ≤ most) = true := by simp; omega
  cases vd with
  | false =>
    go_enter Tryd.func55, Tryd.ntmps55
    go_wp2_with (go_at_call 65; refine VA.mono ?_; rintro e w' ⟨rfl, hb⟩)
    go_ret
    exact ⟨by simp, hb⟩
  | true =>
    rw [h1', h2']
    simp only [Bool.true_and]
    obtain ⟨r, hr⟩ : ∃ r, (bytesI s).all (okB least) = r := ⟨_, rfl⟩
    rw [hr]
    have hl := bytesI_length s
    clear h1' h2'
    go_enter Tryd.func55, Tryd.ntmps55
    go_wp2_with (go_at_call 65; refine VA.mono ?_; rintro e w' ⟨rfl, hb⟩)
    go_loop [24] (fun a => ∃ k : Nat, a = .int .i64 k ∧ k ≤ s.size ∧ r = ((bytesI s).drop k).all (okB least)) (fun a => s.size - (intOf a).toNat)
    case atStart => exact ⟨0, rfl, by omega, by simp [hr]⟩
    case round =>
      obtain ⟨k, rfl, hk, ho⟩ := hrel
      have HO : Hid (r = ((bytesI s).drop k).all (okB least)) := ho
      clear ho hr
      by_cases hlt : k < s.size
      · have st := all_step (f := okB least) (K := bytesI s) (k := k) (by omega)
        have hx := bytesI_at s k hlt
        obtain ⟨x, hxx⟩ : ∃ x : Int, (s[k].toNat : Int) = x := ⟨_, rfl⟩
        rw [hx, hxx] at st
        have HS : Hid (r = (okB least x && ((bytesI s).drop (k + 1)).all (okB least))) := by show r = _; rw [HO.out, st]
        clear st hx HO
        by_cases h3 : x < least
        · have FIN : Hid (r = false) := by show r = false; rw [HS.out]; simp [okB]; intro h; omega
          go_wp2
          go_ret
          exact ⟨ret_bool FIN.out.symm, hb⟩
        · by_cases h4 : x = 127
          · have FIN : Hid (r = false) := by show r = false; rw [HS.out]; simp [okB, h4]
            go_wp2
            go_ret
            exact ⟨ret_bool FIN.out.symm, hb⟩
          · have FIN : Hid (r = ((bytesI s).drop (k + 1)).all (okB least)) := by show r = _; rw [HS.out]; simp [okB, h4]; intro _; omega
            have h4' : (x == 127) = false := by simpa using h4
            go_wp2
            go_round
            case rel => exact ⟨k + 1, by go_num, by omega, FIN.out⟩
            case measure => simp [intOf]; omega
      · have FIN : Hid (r = true) := by show r = true; rw [HO.out, List.drop_of_length_le (by omega)]; rfl
        go_wp2
        go_ret
        exact ⟨ret_bool FIN.out.symm, hb⟩

/-- The bytes that may stand ahead, and behind, in a key. -/
def keyF : List UInt8 := [97, 98, 99, 100, 101, 102, 103, 104, 105, 106, 107, 108, 109, 110, 111, 112, 113, 114, 115, 116, 117, 118, 119, 120, 121, 122]
def keyR : List UInt8 := keyF ++ [48, 49, 50, 51, 52, 53, 54, 55, 56, 57, 46, 95, 45]
end Go.Proofs.YtpcfchbiohbcoaaDoor
