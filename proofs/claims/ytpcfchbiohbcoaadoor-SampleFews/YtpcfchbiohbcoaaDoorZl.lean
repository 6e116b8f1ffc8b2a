/-
  Zl.
-/
import Derived.Test.YtpcfchbiohbcoaaDoorZk
import Derived.Lib.Walk
namespace Go.Proofs.YtpcfchbiohbcoaaDoor
open Go.RowKit
set_option maxRecDepth 100000

theorem slIndex_any (s : ByteArray) (c : Int) (w : World) :
    Calls Tryd.prog 97 #[.string s, .int .u8 c] w fun e w' => e = .returned (.int .i64 (Lib.indexByte s.data.toList c.toNat.toUInt8)) ∧ w' = w := by
  go_enter Tryd.func97, Tryd.ntmps97
  go_wp2
  rw [run_callFunc_extern Tryd.func100 (by kernel_rfl) (by kernel_rfl) (by kernel_rfl) (e := Extern.BytealgIndexByte.indexByte) (by kernel_rfl), Lib.run_indexByteString]
  simp only [Result.andThen]
  rw [Oper.upon_value]
  go_wp2
  go_ret
  exact ⟨rfl, rfl⟩
theorem index_any (s : ByteArray) (c : Int) (w : World) :
    Calls Tryd.prog 88 #[.string s, .int .u8 c] w fun e w' => e = .returned (.int .i64 (Lib.indexByte s.data.toList c.toNat.toUInt8)) ∧ w' = w := by
  go_enter Tryd.func88, Tryd.ntmps88
  go_wp2_with (go_at_call 97; refine (slIndex_any _ _ _).mono ?_; rintro e w' ⟨rfl, rfl⟩)
  go_ret
  exact ⟨rfl, rfl⟩
theorem idx_lo : ∀ (l : List UInt8) (c : UInt8), -1 ≤ Lib.indexByte l c := by
  intro l c
  induction l with
  | nil => simp [Lib.indexByte]
  | cons b l ih => rw [Lib.indexByte]; repeat' split
                   all_goals omega
theorem idx_in : ∀ (l : List UInt8) (c : UInt8), (0 ≤ Lib.indexByte l c) ↔ l.contains c = true := by
  intro l c
  induction l with
  | nil => simp [Lib.indexByte]
  | cons b l ih =>
    have hlo := idx_lo l c
    rw [Lib.indexByte]
    by_cases h : b = c
    · subst h; simp
    · have h1 : (b == c) = false := by simpa using h
      have h2 : (c == b) = false := by simpa using Ne.symm h
      rw [h1, List.contains_cons, h2, Bool.false_or, ← ih]
      by_cases h3 : Lib.indexByte l c = -1
      · simp [h3]
      · have : (Lib.indexByte l c == -1) = false := by simpa using h3
        simp [this]; omega
def inL (l : List UInt8) (x : Int) : Bool := l.contains x.toNat.toUInt8
/-- May an attribute have this key? -/
def keyB (s : ByteArray) : Bool := decide (1 ≤ s.size) && decide (s.size ≤ 40) && inL keyF (bt (bytesI s) 0) && ((bytesI s).drop 1).all (inL keyR)

theorem keyOk_any (s : ByteArray) (w : World) (hs : s.size ≤ 140737488355328) :
    Calls Tryd.prog 70 #[.string s] w fun e w' => e = .returned (.bool (keyB s)) ∧ w' = w := by
  have IF : ∀ (x : Int) (W : World), Calls Tryd.prog 88 #[.string ⟨keyF.toArray⟩, .int .u8 x] W fun e w' => e = .returned (.int .i64 (Lib.indexByte keyF x.toNat.toUInt8)) ∧ w' = W := fun x W => index_any ⟨keyF.toArray⟩ x W
  have IR : ∀ (x : Int) (W : World), Calls Tryd.prog 88 #[.string ⟨keyR.toArray⟩, .int .u8 x] W fun e w' => e = .returned (.int .i64 (Lib.indexByte keyR x.toNat.toUInt8)) ∧ w' = W := fun x W => index_any ⟨keyR.toArray⟩ x W
  have nF := fun x : Int => idx_in keyF x.toNat.toUInt8
  have nR := fun x : Int => idx_in keyR x.toNat.toUInt8
  unfold keyB inL
  generalize hgF : (fun x : Int => Lib.indexByte keyF x.toNat.toUInt8) = iF
  generalize hgR : (fun x : Int => Lib.indexByte keyR x.toNat.toUInt8) = iR
  have IF2 : ∀ (x : Int) (W : World), Calls Tryd.prog 88 #[.string ⟨keyF.toArray⟩, .int .u8 x] W fun e w' => e = .returned (.int .i64 (iF x)) ∧ w' = W := fun x W => by rw [← hgF]; exact IF x W
  have IR2 : ∀ (x : Int) (W : World), Calls Tryd.prog 88 #[.string ⟨keyR.toArray⟩, .int .u8 x] W fun e w' => e = .returned (.int .i64 (iR x)) ∧ w' = W := fun x W => by rw [← hgR]; exact IR x W
  have mF : ∀ x : Int, 0 ≤ iF x ↔ keyF.contains x.toNat.toUInt8 = true := fun x => by rw [← hgF]; exact nF x
  have mR : ∀ x : Int, 0 ≤ iR x ↔ keyR.contains x.toNat.toUInt8 = true := fun x => by rw [← hgR]; exact nR x
  clear IF IR nF nR hgF hgR
  have HmF : Hid (∀ x : Int, 0 ≤ iF x ↔ keyF.contains x.toNat.toUInt8 = true) := mF
  have HmR : Hid (∀ x : Int, 0 ≤ iR x ↔ keyR.contains x.toNat.toUInt8 = true) := mR
  clear mF mR
  simp only [keyF, keyR, List.cons_append, List.nil_append] at IF2 IR2
  by_cases h1 : s.size < 1
  · have h1' : decide (1 ≤ s.size) = false := decide_eq_false (by omega)
    have h1z : s.size = 0 := by omega
    go_enter Tryd.func70, Tryd.ntmps70
    go_wp2
    go_ret
    exact ⟨by simp [h1'], rfl⟩
  have h1' : decide (1 ≤ s.size) = true := decide_eq_true (by omega)
  have h1i : (1 : Int) ≤ (s.size : Int) := by omega
  by_cases h2 : 40 < s.size
  · have h2' : decide (s.size ≤ 40) = false := decide_eq_false (by omega)
    have h2i : (40 : Int) < (s.size : Int) := by omega
    go_enter Tryd.func70, Tryd.ntmps70
    go_wp2
    go_ret
    exact ⟨by simp [h2'], rfl⟩
  have h2' : decide (s.size ≤ 40) = true := decide_eq_true (by omega)
  have h2i : (s.size : Int) ≤ 40 := by omega
  rw [h1', h2', bytesI_get s 0 (by omega)]
  simp only [Bool.true_and]
  obtain ⟨x, hx⟩ : ∃ x : Int, (s[0].toNat : Int) = x := ⟨_, rfl⟩
  rw [hx]
  have mx := HmF.out x
  have IX := IF2 x
  obtain ⟨i, hi⟩ : ∃ i, iF x = i := ⟨_, rfl⟩
  rw [hi] at mx IX
  clear h1' h2' IF2 HmF hi
  by_cases h3 : i < 0
  · have e1 : keyF.contains x.toNat.toUInt8 = false := by
      cases h : keyF.contains x.toNat.toUInt8 with
      | false => rfl
      | true => have := mx.2 h; omega
    clear IR2 mx
    go_enter Tryd.func70, Tryd.ntmps70
    go_wp2_with (go_at_call 88; refine (IX _).mono ?_; rintro e w' ⟨rfl, rfl⟩)
    go_ret
    exact ⟨by rw [e1]; rfl, rfl⟩
  have e1 : keyF.contains x.toNat.toUInt8 = true := mx.1 (by omega)
  rw [e1]
  simp only [Bool.true_and]
  obtain ⟨r, hr⟩ : ∃ r, ((bytesI s).drop 1).all (fun x => keyR.contains x.toNat.toUInt8) = r := ⟨_, rfl⟩
  have hr0 : ((bytesI s).drop 1).all (inL keyR) = r := hr
  show Calls _ _ _ _ fun e w' => e = .returned (.bool (((bytesI s).drop 1).all (fun x => keyR.contains x.toNat.toUInt8))) ∧ _
  rw [hr]
  have hl := bytesI_length s
  clear mx e1 hr
  go_enter Tryd.func70, Tryd.ntmps70
  go_wp2_with (go_at_call 88; refine (IX _).mono ?_; rintro e w' ⟨rfl, rfl⟩)
  go_loop [3] (fun a => ∃ k : Nat, a = .int .i64 k ∧ 1 ≤ k ∧ k ≤ s.size ∧ r = ((bytesI s).drop k).all (inL keyR)) (fun a => s.size - (intOf a).toNat)
  case atStart => exact ⟨1, rfl, by omega, by omega, hr0.symm⟩
  case round =>
    obtain ⟨k, rfl, hk1, hk, ho⟩ := hrel
    have HO : Hid (r = ((bytesI s).drop k).all (inL keyR)) := ho
    clear ho hr0 IX
    by_cases hlt : k < s.size
    · have st := all_step (f := inL keyR) (K := bytesI s) (k := k) (by omega)
      have hx := bytesI_at s k hlt
      obtain ⟨y, hyy⟩ : ∃ y : Int, (s[k].toNat : Int) = y := ⟨_, rfl⟩
      rw [hx, hyy] at st
      have HS : Hid (r = (inL keyR y && ((bytesI s).drop (k + 1)).all (inL keyR))) := by show r = _; rw [HO.out, st]
      have my := HmR.out y
      have IY := IR2 y
      obtain ⟨j, hj⟩ : ∃ j, iR y = j := ⟨_, rfl⟩
      rw [hj] at my IY
      clear st hx HO IR2 HmR hj
      by_cases h4 : j < 0
      · have e2 : inL keyR y = false := by
          unfold inL
          cases h : keyR.contains y.toNat.toUInt8 with
          | false => rfl
          | true => have := my.2 h; omega
        have FIN : Hid (r = false) := by show r = false; rw [HS.out, e2]; rfl
        clear my e2 HS
        go_wp2_with (go_at_call 88; refine (IY _).mono ?_; rintro e w' ⟨rfl, rfl⟩)
        go_ret
        exact ⟨ret_bool FIN.out.symm, rfl⟩
      · have e2 : inL keyR y = true := my.1 (by omega)
        have FIN : Hid (r = ((bytesI s).drop (k + 1)).all (inL keyR)) := by show r = _; rw [HS.out, e2]; rfl
        clear my e2 HS
        go_wp2_with (go_at_call 88; refine (IY _).mono ?_; rintro e w' ⟨rfl, rfl⟩)
        go_round
        case rel => exact ⟨k + 1, by go_num, by omega, by omega, FIN.out⟩
        case measure => simp [intOf]; omega
    · have FIN : Hid (r = true) := by show r = true; rw [HO.out, List.drop_of_length_le (by omega)]; rfl
      clear IR2 HmR
      go_wp2
      go_ret
      exact ⟨ret_bool FIN.out.symm, rfl⟩

/-- May an attribute have this value? -/
def valB (k : Int) (s : ByteArray) (n : Int) : Bool :=
  if k = 0 then decide (n = 0) && decide (s.size ≤ 200) && Lib.validD s.data.toList
  else if k = 1 then decide (s.size = 0)
  else if k = 2 then decide (s.size = 0) && (decide (n = 0) || decide (n = 1)) else false
theorem empty_str (s : ByteArray) : (s.toList == ([] : List UInt8)) = decide (s.size = 0) := by
  have : s.toList.length = s.size := by rw [Lib.toList_data, Array.length_toList]; rfl
  cases h : s.toList with
  | nil => rw [h] at this; simp at this; simp [← this]
  | cons x r => rw [h] at this; simp at this; rw [decide_eq_false (by omega)]; rfl

theorem value_any (k : Int) (s : ByteArray) (n : Int) (w : World) (hs : s.size ≤ 140737488355328) (hT : Tabs w) :
    Calls Tryd.prog 71 #[.agg #[.int .i64 k, .string s, .int .i64 n]] w fun e w' => e = .returned (.bool (valB k s n)) ∧ Below w.heap.size w w' := by
  have B1 : ∀ o : Obj, Below w.heap.size w (w.alloc o) := fun o => (Below.refl _ _).alloc (Nat.le_refl _) o
  have VA := fun o => valid_any s (w.alloc o) (by omega) (hT.below (B1 o))
  have ES := empty_str s
  unfold valB
  generalize Lib.validD s.data.toList = vd at VA ⊢
  by_cases k0 : k = 0
  · subst k0
    rw [if_pos rfl]
    by_cases n0 : n = 0
    · subst n0
      by_cases h2 : s.size ≤ 200
      · have h2i : (s.size : Int) ≤ 200 := by omega
        go_enter Tryd.func71, Tryd.ntmps71
        go_wp2_with (go_at_call 65; refine (VA _).mono ?_; rintro e w' ⟨rfl, hb⟩; have hB := (B1 _).trans (hb.mono (B1 _).size))
        go_ret
        exact ⟨ret_bool (by simp [h2]), hB⟩
      · have h2i : ¬ (s.size : Int) ≤ 200 := by omega
        clear VA
        go_enter Tryd.func71, Tryd.ntmps71
        go_wp2
        go_ret
        exact ⟨ret_bool (by simp), B1 _⟩
    · have n0' : (n == 0) = false := by simpa using n0
      clear VA
      go_enter Tryd.func71, Tryd.ntmps71
      go_wp2
      go_ret
      exact ⟨ret_bool (by simp [n0]), B1 _⟩
  rw [if_neg k0]
  have k0' : (k == 0) = false := by simpa using k0
  clear VA
  by_cases k1 : k = 1
  · subst k1
    rw [if_pos rfl]
    by_cases h : s.size = 0
    · have ES2 : (s.toList == ([] : List UInt8)) = true := by rw [ES]; simp [h]
      go_enter Tryd.func71, Tryd.ntmps71
      go_wp2
      go_ret
      exact ⟨ret_bool (by simp [h]), B1 _⟩
    · have ES2 : (s.toList == ([] : List UInt8)) = false := by rw [ES]; exact decide_eq_false h
      go_enter Tryd.func71, Tryd.ntmps71
      go_wp2
      go_ret
      exact ⟨ret_bool (by rw [decide_eq_false h]), B1 _⟩
  rw [if_neg k1]
  have k1' : (k == 1) = false := by simpa using k1
  by_cases k2 : k = 2
  · subst k2
    rw [if_pos rfl]
    by_cases h : s.size = 0
    · have ES2 : (s.toList == ([] : List UInt8)) = true := by rw [ES]; simp [h]
      by_cases n0 : n = 0
      · subst n0
        go_enter Tryd.func71, Tryd.ntmps71
        go_wp2
        go_ret
        exact ⟨ret_bool (by simp [h]), B1 _⟩
      · have n0' : (n == 0) = false := by simpa using n0
        go_enter Tryd.func71, Tryd.ntmps71
        go_wp2
        go_ret
        exact ⟨ret_bool (by rw [decide_eq_true h, decide_eq_false n0]; by_cases n1 : n = 1 <;> simp [n1]), B1 _⟩
    · have ES2 : (s.toList == ([] : List UInt8)) = false := by rw [ES]; exact decide_eq_false h
      go_enter Tryd.func71, Tryd.ntmps71
      go_wp2
      go_ret
      exact ⟨ret_bool (by rw [decide_eq_false h]; rfl), B1 _⟩
  · rw [if_neg k2]
    have k2' : (k == 2) = false := by simpa using k2
    go_enter Tryd.func71, Tryd.ntmps71
    go_wp2
    go_ret
    exact ⟨rfl, B1 _⟩
end Go.Proofs.YtpcfchbiohbcoaaDoor
