/-
  Merged by merge.py: Zs, Zp, Zv, Zk, Zl.
-/
import Derived.Test.YthcghpbkadlliabGreatDoorMa05
import Derived.Laws.StructEq
import Derived.Shelf.Unicode.ValidAny
import Derived.Test.YthcghpbkadlliabGreatDoorMa03
import Derived.Lib.Bytealg
import Derived.Lib.Walk
namespace Go.Proofs.YthcghpbkadlliabGreatDoor
open Go.RowKit
set_option maxRecDepth 100000

def traceV (a b : Int) : Value := .agg #[.int .u64 a, .int .u64 b]
theorem eqI_trace (d : Nat) (a b a' b' : Int) (W : World) : (Op.equalIn (d + 2) 33 (.agg #[.int .u64 a, .int .u64 b]) (.agg #[.int .u64 a', .int .u64 b'])).run Tryz.prog W = .ok (decide (a = a' ∧ b = b')) W := by
  have u3 := Tryz.underlying31
  have a3 := Tryz.isAgg31
  have z3 := Tryz.sizeOf31
  have hS : Tryz.prog.underlying 33 = some (.struct (Tryz.prog.fieldsOf 33)) := by kernel_rfl
  have hp : Tryz.prog.stoodInHeld 33 = false := by kernel_rfl
  rw [run_equalIn_agg W (d + 1) 33 _ _ hS hp]
  simp only [Program.fieldsOf, Tryz.underlying33]
  go_simp
  by_cases h1 : a = a' <;> by_cases h2 : b = b' <;> simp [h1, h2]
theorem eqI_value (d : Nat) (k k' : Int) (s s' : ByteArray) (n n' : Int) (W : World) : (Op.equalIn (d + 2) 54 (.agg #[.int .i64 k, .string s, .int .i64 n]) (.agg #[.int .i64 k', .string s', .int .i64 n'])).run Tryz.prog W = .ok (decide (k = k' ∧ s = s' ∧ n = n')) W := by
  have u1 := Tryz.underlying52
  have a1 := Tryz.isAgg52
  have z1 := Tryz.sizeOf52
  have u2 := Tryz.underlying9
  have a2 := Tryz.isAgg9
  have z2 := Tryz.sizeOf9
  have u3 := Tryz.underlying2
  have a3 := Tryz.isAgg2
  have z3 := Tryz.sizeOf2
  have hS : Tryz.prog.underlying 54 = some (.struct (Tryz.prog.fieldsOf 54)) := by kernel_rfl
  have hp : Tryz.prog.stoodInHeld 54 = false := by kernel_rfl
  have hs : (s.toList == s'.toList) = decide (s = s') := by
    by_cases h : s = s'
    · simp [h]
    · have : ¬ s.toList = s'.toList := fun e => h (bytes_ext _ _ e)
      simp [h, this]
  rw [run_equalIn_agg W (d + 1) 54 _ _ hS hp]
  simp only [Program.fieldsOf, Tryz.underlying54]
  go_simp
  by_cases h1 : k = k' <;> by_cases h2 : s = s' <;> by_cases h3 : n = n' <;> simp [h1, h2, h3]
theorem eqI_event (d : Nat) (k k' : Int) (s s' : ByteArray) (W : World) : (Op.equalIn (d + 2) 58 (.agg #[.int .i64 k, .string s]) (.agg #[.int .i64 k', .string s'])).run Tryz.prog W = .ok (decide (k = k' ∧ s = s')) W := by
  have u2 := Tryz.underlying9
  have a2 := Tryz.isAgg9
  have z2 := Tryz.sizeOf9
  have u3 := Tryz.underlying2
  have a3 := Tryz.isAgg2
  have z3 := Tryz.sizeOf2
  have hS : Tryz.prog.underlying 58 = some (.struct (Tryz.prog.fieldsOf 58)) := by kernel_rfl
  have hp : Tryz.prog.stoodInHeld 58 = false := by kernel_rfl
  have hs : (s.toList == s'.toList) = decide (s = s') := by
    by_cases h : s = s'
    · simp [h]
    · have : ¬ s.toList = s'.toList := fun e => h (bytes_ext _ _ e)
      simp [h, this]
  rw [run_equalIn_agg W (d + 1) 58 _ _ hS hp]
  simp only [Program.fieldsOf, Tryz.underlying58]
  go_simp
  by_cases h1 : k = k' <;> by_cases h2 : s = s' <;> simp [h1, h2]
theorem eqI_attr (d : Nat) (x y : AttrD) (W : World) : (Op.equalIn (d + 3) 56 (.agg #[.string x.key, .int .i64 x.kind, .string x.text, .int .i64 x.num]) (.agg #[.string y.key, .int .i64 y.kind, .string y.text, .int .i64 y.num])).run Tryz.prog W = .ok (decide (x.key = y.key ∧ x.kind = y.kind ∧ x.text = y.text ∧ x.num = y.num)) W := by
  have u2 := Tryz.underlying9
  have a2 := Tryz.isAgg9
  have z2 := Tryz.sizeOf9
  have a4 := Tryz.isAgg54
  have z4 := Tryz.sizeOf54
  have hT := eqI_value d x.kind y.kind x.text y.text x.num y.num
  have hs : (x.key.toList == y.key.toList) = decide (x.key = y.key) := by
    by_cases h : x.key = y.key
    · simp [h]
    · have : ¬ x.key.toList = y.key.toList := fun e => h (bytes_ext _ _ e)
      simp [h, this]
  have hS : Tryz.prog.underlying 56 = some (.struct (Tryz.prog.fieldsOf 56)) := by kernel_rfl
  have hp : Tryz.prog.stoodInHeld 56 = false := by kernel_rfl
  rw [run_equalIn_agg W (d + 2) 56 _ _ hS hp]
  simp only [Program.fieldsOf, Tryz.underlying56]
  go_simp
  by_cases h1 : x.key = y.key <;> by_cases h2 : x.kind = y.kind <;> by_cases h3 : x.text = y.text <;> by_cases h4 : x.num = y.num <;> simp [h1, h2, h3, h4]

theorem run_neq_of {T : TypeId} {xs ys : Array Value} {b : Bool} {W : World} (h : (Op.equalIn 10000 T (.agg xs) (.agg ys)).run Tryz.prog W = .ok b W) : (binOp .neq T (.agg xs) (.agg ys)).run Tryz.prog W = .ok (.bool (!b)) W := by
  rw [run_neq_struct, h]; rfl
theorem run_eql_of {T : TypeId} {xs ys : Array Value} {b : Bool} {W : World} (h : (Op.equalIn 10000 T (.agg xs) (.agg ys)).run Tryz.prog W = .ok b W) : (binOp .eql T (.agg xs) (.agg ys)).run Tryz.prog W = .ok (.bool b) W := by
  rw [run_eql_struct, h]; rfl
theorem guard_trace : Tryz.prog.eqGuardType Tryz.prog.depth 33 = false := by kernel_rfl
theorem guard_attr : Tryz.prog.eqGuardType Tryz.prog.depth 56 = false := by kernel_rfl
theorem guard_event : Tryz.prog.eqGuardType Tryz.prog.depth 58 = false := by kernel_rfl
end Go.Proofs.YthcghpbkadlliabGreatDoor

namespace Go.Proofs.YthcghpbkadlliabGreatDoor
open Go.RowKit
set_option maxRecDepth 100000

/-- Where a span's lists lie. -/
structure Pl where
  la : Option Addr
  lc : Nat
  aa : Option Addr
  ac : Nat
  ea : Option Addr
  ec : Nat
/-- A span's cells. -/
def spC (a : Sp) (p : Pl) : Array Value := #[.int .u64 a.hi, .int .u64 a.lo, .int .u64 a.id, .int .u64 a.par, .slice p.la a.links.length p.lc, .string a.svc, .string a.op, .int .i64 a.kind, .int .i64 a.status, .int .i64 a.start, .int .i64 a.fin, .slice p.aa a.attrs.length p.ac, .slice p.ea a.events.length p.ec]
def spV (a : Sp) (p : Pl) : Value := .agg (spC a p)
/-- A span's lists lie where it says. -/
structure SpAt (w : World) (a : Sp) (p : Pl) : Prop where
  links : HoldsV w p.la a.links.length (intsV .u64 a.links)
  attrs : AttrsAt w p.aa a.attrs.length a.attrs
  events : EventsAt w p.ea a.events.length a.events
  sl : a.links.length ≤ 140737488355328
  sa : a.attrs.length ≤ 140737488355328
  se : a.events.length ≤ 140737488355328
theorem SpAt.below {w w' : World} {a : Sp} {p : Pl} (h : SpAt w a p) (hb : Below w.heap.size w w') : SpAt w' a p :=
  ⟨h.links.below hb, h.attrs.below hb, h.events.below hb, h.sl, h.sa, h.se⟩

theorem keepT (n : Nat) (a b : Sp) (p q : Pl) {w1 w2 : World} (hb : Below (n + 2) w1 w2)
    (h : w1.cell? ⟨n, 3, none⟩ = some (.int .u64 a.par) ∧ w1.cell? ⟨n, 4, none⟩ = some (.slice p.la a.links.length p.lc) ∧ w1.cell? ⟨n, 5, none⟩ = some (.string a.svc) ∧ w1.cell? ⟨n, 6, none⟩ = some (.string a.op) ∧ w1.cell? ⟨n, 7, none⟩ = some (.int .i64 a.kind) ∧ w1.cell? ⟨n, 8, none⟩ = some (.int .i64 a.status) ∧ w1.cell? ⟨n, 9, none⟩ = some (.int .i64 a.start) ∧ w1.cell? ⟨n, 10, none⟩ = some (.int .i64 a.fin) ∧ w1.cell? ⟨n, 11, none⟩ = some (.slice p.aa a.attrs.length p.ac) ∧ w1.cell? ⟨n, 12, none⟩ = some (.slice p.ea a.events.length p.ec) ∧ w1.cell? ⟨n + 1, 3, none⟩ = some (.int .u64 b.par) ∧ w1.cell? ⟨n + 1, 4, none⟩ = some (.slice q.la b.links.length q.lc) ∧ w1.cell? ⟨n + 1, 5, none⟩ = some (.string b.svc) ∧ w1.cell? ⟨n + 1, 6, none⟩ = some (.string b.op) ∧ w1.cell? ⟨n + 1, 7, none⟩ = some (.int .i64 b.kind) ∧ w1.cell? ⟨n + 1, 8, none⟩ = some (.int .i64 b.status) ∧ w1.cell? ⟨n + 1, 9, none⟩ = some (.int .i64 b.start) ∧ w1.cell? ⟨n + 1, 10, none⟩ = some (.int .i64 b.fin) ∧ w1.cell? ⟨n + 1, 11, none⟩ = some (.slice q.aa b.attrs.length q.ac) ∧ w1.cell? ⟨n + 1, 12, none⟩ = some (.slice q.ea b.events.length q.ec)) :
    w2.cell? ⟨n, 3, none⟩ = some (.int .u64 a.par) ∧ w2.cell? ⟨n, 4, none⟩ = some (.slice p.la a.links.length p.lc) ∧ w2.cell? ⟨n, 5, none⟩ = some (.string a.svc) ∧ w2.cell? ⟨n, 6, none⟩ = some (.string a.op) ∧ w2.cell? ⟨n, 7, none⟩ = some (.int .i64 a.kind) ∧ w2.cell? ⟨n, 8, none⟩ = some (.int .i64 a.status) ∧ w2.cell? ⟨n, 9, none⟩ = some (.int .i64 a.start) ∧ w2.cell? ⟨n, 10, none⟩ = some (.int .i64 a.fin) ∧ w2.cell? ⟨n, 11, none⟩ = some (.slice p.aa a.attrs.length p.ac) ∧ w2.cell? ⟨n, 12, none⟩ = some (.slice p.ea a.events.length p.ec) ∧ w2.cell? ⟨n + 1, 3, none⟩ = some (.int .u64 b.par) ∧ w2.cell? ⟨n + 1, 4, none⟩ = some (.slice q.la b.links.length q.lc) ∧ w2.cell? ⟨n + 1, 5, none⟩ = some (.string b.svc) ∧ w2.cell? ⟨n + 1, 6, none⟩ = some (.string b.op) ∧ w2.cell? ⟨n + 1, 7, none⟩ = some (.int .i64 b.kind) ∧ w2.cell? ⟨n + 1, 8, none⟩ = some (.int .i64 b.status) ∧ w2.cell? ⟨n + 1, 9, none⟩ = some (.int .i64 b.start) ∧ w2.cell? ⟨n + 1, 10, none⟩ = some (.int .i64 b.fin) ∧ w2.cell? ⟨n + 1, 11, none⟩ = some (.slice q.aa b.attrs.length q.ac) ∧ w2.cell? ⟨n + 1, 12, none⟩ = some (.slice q.ea b.events.length q.ec) := by
  have e0 : ∀ j, w2.cell? ⟨n, j, none⟩ = w1.cell? ⟨n, j, none⟩ := fun j => hb.cell (p := ⟨n, j, none⟩) (by show n < n + 2; omega)
  have e1 : ∀ j, w2.cell? ⟨n + 1, j, none⟩ = w1.cell? ⟨n + 1, j, none⟩ := fun j => hb.cell (p := ⟨n + 1, j, none⟩) (by show n + 1 < n + 2; omega)
  simp only [e0, e1]
  exact h

theorem or_plain (w : World) (n : Nat) (K : List Int) (hs : n = w.heap.size) (hl : K.length ≤ 1000000) :
    Calls Tryz.prog 100 #[.slice (some ⟨n, 0, none⟩) K.length K.length] (w.alloc (.cells (K.map (Value.int .i64)).toArray 3)) fun e w' => e = .returned (.int .i64 (orL K)) ∧ w' = w.alloc (.cells (K.map (Value.int .i64)).toArray 3) :=
  or_any _ _ _ K _ (holds_new (w := w.alloc (.cells (K.map (Value.int .i64)).toArray 3)) (alloc_at hs)) hl
theorem hb_two {w : World} {o1 o2 : Obj} {m : Nat} {w' : World} (hb : Below ((w.alloc o1).alloc o2).heap.size ((w.alloc o1).alloc o2) w') (hm : m = w.heap.size + 2) : Below m ((w.alloc o1).alloc o2) w' := by
  subst hm; exact hb.mono (by simp)

end Go.Proofs.YthcghpbkadlliabGreatDoor

namespace Go.Proofs.YthcghpbkadlliabGreatDoor
open Go.Shelf Go.RowKit
def lays196_ren : Go.Shelf.Ren := ⟨fun | 196 => 74 | 259 => 96 | n => n, fun | 0 => 0 | 3 => 3 | 4 => 4 | 5 => 5 | 9 => 9 | 12 => 12 | 46 => 145 | 53 => 31 | 119 => 192 | 138 => 194 | 139 => 195 | n => n, fun | 3 => 1 | 4 => 2 | n => n⟩
theorem lays196 : Go.Proofs.Lays.n196 Tryz.prog lays196_ren := {
  mixed := by kernel_rfl
  f196 := Tryz.func74.trans (congrArg some (by kernel_rfl))
  f259 := Tryz.func96.trans (congrArg some (by kernel_rfl))
  t0 := Tryz.underlying0
  a0 := Tryz.isAgg0
  z0 := Tryz.sizeOf0
  v0 := Tryz.zeroValue0
  t3 := Tryz.underlying3
  a3 := Tryz.isAgg3
  z3 := Tryz.sizeOf3
  v3 := Tryz.zeroValue3
  t4 := Tryz.underlying4
  a4 := Tryz.isAgg4
  z4 := Tryz.sizeOf4
  v4 := Tryz.zeroValue4
  t5 := Tryz.underlying5
  a5 := Tryz.isAgg5
  z5 := Tryz.sizeOf5
  v5 := Tryz.zeroValue5
  t9 := Tryz.underlying9
  a9 := Tryz.isAgg9
  z9 := Tryz.sizeOf9
  v9 := Tryz.zeroValue9
  t12 := Tryz.underlying12
  a12 := Tryz.isAgg12
  z12 := Tryz.sizeOf12
  v12 := Tryz.zeroValue12
  t46 := Tryz.underlying145
  a46 := Tryz.isAgg145
  z46 := Tryz.sizeOf145
  v46 := Tryz.zeroValue145
  t53 := Tryz.underlying31
  a53 := Tryz.isAgg31
  z53 := Tryz.sizeOf31
  v53 := Tryz.zeroValue31
  t119 := Tryz.underlying192
  a119 := Tryz.isAgg192
  z119 := Tryz.sizeOf192
  t138 := Tryz.underlying194
  a138 := Tryz.isAgg194
  z138 := Tryz.sizeOf194
  v138 := Tryz.zeroValue194
  t139 := Tryz.underlying195
  a139 := Tryz.isAgg195
  z139 := Tryz.sizeOf195
  v139 := Tryz.zeroValue195
  g3 := by kernel_rfl
  g4 := by kernel_rfl }
theorem valid_any (s : ByteArray) (w : World) (hs : s.size ≤ 9223372036854775807) (hT : Tabs w) :
    Calls Tryz.prog 74 #[.string s] w fun e w' => e = .returned (.bool (Lib.validD s.data.toList)) ∧ Below w.heap.size w w' :=
  Any.utf8_ValidString lays196 s w hs hT
end Go.Proofs.YthcghpbkadlliabGreatDoor

namespace Go.Proofs.YthcghpbkadlliabGreatDoor
open Go.RowKit
set_option maxRecDepth 100000

def momB (x : Int) : Bool := decide (0 ≤ x) && decide (x ≤ 4611686018427387904)
theorem moment_any (x : Int) (w : World) :
    Calls Tryz.prog 42 #[.int .i64 x] w fun e w' => e = .returned (.bool (momB x)) ∧ w' = w := by
  unfold momB
  by_cases h1 : 0 ≤ x
  · have h1' : decide (0 ≤ x) = true := by simpa using h1
    go_enter Tryz.func42, Tryz.ntmps42
    go_wp2
    go_ret
    exact ⟨by simp [h1], rfl⟩
  · have h1' : decide (0 ≤ x) = false := by simpa using h1
    go_enter Tryz.func42, Tryz.ntmps42
    go_wp2
    go_ret
    exact ⟨by simp, rfl⟩

def okB (least x : Int) : Bool := decide (least ≤ x) && !decide (x = 127)
def plainB (s : ByteArray) (most least : Int) : Bool := decide (1 ≤ s.size) && decide ((s.size : Int) ≤ most) && Lib.validD s.data.toList && (bytesI s).all (okB least)
theorem all_step {f : Int → Bool} {K : List Int} {k : Nat} (h : k < K.length) : (K.drop k).all f = (f K[k] && (K.drop (k + 1)).all f) := by
  rw [List.drop_eq_getElem_cons h, List.all_cons]
theorem bytesI_at (s : ByteArray) (k : Nat) (h : k < s.size) : (bytesI s)[k]'(by rw [bytesI_length]; exact h) = (s[k].toNat : Int) := by
  simp [bytesI]; rfl

theorem plain_any (s : ByteArray) (most least : Int) (w : World) (hs : s.size ≤ 140737488355328) (hT : Tabs w) :
    Calls Tryz.prog 43 #[.string s, .int .i64 most, .int .u8 least] w fun e w' => e = .returned (.bool (plainB s most least)) ∧ Below w.heap.size w w' := by
  have VA := valid_any s w (by omega) hT
  unfold plainB
  generalize Lib.validD s.data.toList = vd at VA ⊢
  by_cases h1 : s.size < 1
  · have h1' : decide (1 ≤ s.size) = false := decide_eq_false (by omega)
    have h1z : s.size = 0 := by omega
    clear VA
    go_enter Tryz.func43, Tryz.ntmps43
    go_wp2
    go_ret
    exact ⟨by simp [h1'], Below.refl _ _⟩
  have h1' : decide (1 ≤ s.size) = true := decide_eq_true (by omega)
  have h1i : (1 : Int) ≤ (s.size : Int) := by omega
  by_cases h2 : most < (s.size : Int)
  · have h2' : decide ((s.size : Int) ≤ most) = false := by simp; omega
    clear VA
    go_enter Tryz.func43, Tryz.ntmps43
    go_wp2
    go_ret
    exact ⟨by simp [h2'], Below.refl _ _⟩
  have h2' : decide ((s.size : Int) ≤ most) = true := by simp; omega
  cases vd with
  | false =>
    go_enter Tryz.func43, Tryz.ntmps43
    go_wp2_with (go_at_call 74; refine VA.mono ?_; rintro e w' ⟨rfl, hb⟩)
    go_ret
    exact ⟨by simp, hb⟩
  | true =>
    rw [h1', h2']
    simp only [Bool.true_and]
    obtain ⟨r, hr⟩ : ∃ r, (bytesI s).all (okB least) = r := ⟨_, rfl⟩
    rw [hr]
    have hl := bytesI_length s
    clear h1' h2'
    go_enter Tryz.func43, Tryz.ntmps43
    go_wp2_with (go_at_call 74; refine VA.mono ?_; rintro e w' ⟨rfl, hb⟩)
    go_loop [24] (fun a => ∃ k : Nat, a = .int .i64 k ∧ k ≤ s.size ∧ r = ((bytesI s).drop k).all (okB least)) (fun a => s.size - (intOf a).toNat)
    case atStart => exact ⟨0, rfl, by omega, by simp [hr]⟩
    case round =>
      obtain ⟨k, rfl, hk, ho⟩ := hrel
      have HO : Hid (r = ((bytesI s).drop k).all (okB least)) := ho
      clear ho hr
      by_cases hlt : k < s.size
      · have st := all_step (f := okB least) (K := bytesI s) (k := k) (by omega)
        have hx := bytesI_at s k hlt
        obtain ⟨x, hxx⟩ : ∃ x : Int, (s[k].toNat : Int) = x := ⟨_, rfl⟩
        rw [hx, hxx] at st
        have HS : Hid (r = (okB least x && ((bytesI s).drop (k + 1)).all (okB least))) := by show r = _; rw [HO.out, st]
        clear st hx HO
        by_cases h3 : x < least
        · have FIN : Hid (r = false) := by show r = false; rw [HS.out]; simp [okB]; intro h; omega
          go_wp2
          go_ret
          exact ⟨ret_bool FIN.out.symm, hb⟩
        · by_cases h4 : x = 127
          · have FIN : Hid (r = false) := by show r = false; rw [HS.out]; simp [okB, h4]
            go_wp2
            go_ret
            exact ⟨ret_bool FIN.out.symm, hb⟩
          · have FIN : Hid (r = ((bytesI s).drop (k + 1)).all (okB least)) := by show r = _; rw [HS.out]; simp [okB, h4]; intro _; omega
            have h4' : (x == 127) = false := by simpa using h4
            go_wp2
            go_round
            case rel => exact ⟨k + 1, by go_num, by omega, FIN.out⟩
            case measure => simp [intOf]; omega
      · have FIN : Hid (r = true) := by show r = true; rw [HO.out, List.drop_of_length_le (by omega)]; rfl
        go_wp2
        go_ret
        exact ⟨ret_bool FIN.out.symm, hb⟩

/-- The bytes that may stand ahead, and behind, in a key. -/
def keyF : List UInt8 := [97, 98, 99, 100, 101, 102, 103, 104, 105, 106, 107, 108, 109, 110, 111, 112, 113, 114, 115, 116, 117, 118, 119, 120, 121, 122]
def keyR : List UInt8 := keyF ++ [48, 49, 50, 51, 52, 53, 54, 55, 56, 57, 46, 95, 45]
end Go.Proofs.YthcghpbkadlliabGreatDoor

namespace Go.Proofs.YthcghpbkadlliabGreatDoor
open Go.RowKit
set_option maxRecDepth 100000

theorem slIndex_any (s : ByteArray) (c : Int) (w : World) :
    Calls Tryz.prog 108 #[.string s, .int .u8 c] w fun e w' => e = .returned (.int .i64 (Lib.indexByte s.data.toList c.toNat.toUInt8)) ∧ w' = w := by
  go_enter Tryz.func108, Tryz.ntmps108
  go_wp2
  rw [run_callFunc_extern Tryz.func112 (by kernel_rfl) (by kernel_rfl) (by kernel_rfl) (e := Extern.BytealgIndexByte.indexByte) (by kernel_rfl), Lib.run_indexByteString]
  simp only [Result.andThen]
  rw [Oper.upon_value]
  go_wp2
  go_ret
  exact ⟨rfl, rfl⟩
theorem index_any (s : ByteArray) (c : Int) (w : World) :
    Calls Tryz.prog 99 #[.string s, .int .u8 c] w fun e w' => e = .returned (.int .i64 (Lib.indexByte s.data.toList c.toNat.toUInt8)) ∧ w' = w := by
  go_enter Tryz.func99, Tryz.ntmps99
  go_wp2_with (go_at_call 108; refine (slIndex_any _ _ _).mono ?_; rintro e w' ⟨rfl, rfl⟩)
  go_ret
  exact ⟨rfl, rfl⟩
theorem idx_lo : ∀ (l : List UInt8) (c : UInt8), -1 ≤ Lib.indexByte l c := by
  intro l c
  induction l with
  | nil => simp [Lib.indexByte]
  | cons b l ih => rw [Lib.indexByte]; repeat' split
                   all_goals omega
theorem idx_in : ∀ (l : List UInt8) (c : UInt8), (0 ≤ Lib.indexByte l c) ↔ l.contains c = true := by
  intro l c
  induction l with
  | nil => simp [Lib.indexByte]
  | cons b l ih =>
    have hlo := idx_lo l c
    rw [Lib.indexByte]
    by_cases h : b = c
    · subst h; simp
    · have h1 : (b == c) = false := by simpa using h
      have h2 : (c == b) = false := by simpa using Ne.symm h
      rw [h1, List.contains_cons, h2, Bool.false_or, ← ih]
      by_cases h3 : Lib.indexByte l c = -1
      · simp [h3]
      · have : (Lib.indexByte l c == -1) = false := by simpa using h3
        simp [this]; omega
def inL (l : List UInt8) (x : Int) : Bool := l.contains x.toNat.toUInt8
/-- May an attribute have this key? -/
def keyB (s : ByteArray) : Bool := decide (1 ≤ s.size) && decide (s.size ≤ 40) && inL keyF (bt (bytesI s) 0) && ((bytesI s).drop 1).all (inL keyR)

theorem keyOk_any (s : ByteArray) (w : World) (hs : s.size ≤ 140737488355328) :
    Calls Tryz.prog 79 #[.string s] w fun e w' => e = .returned (.bool (keyB s)) ∧ w' = w := by
  have IF : ∀ (x : Int) (W : World), Calls Tryz.prog 99 #[.string ⟨keyF.toArray⟩, .int .u8 x] W fun e w' => e = .returned (.int .i64 (Lib.indexByte keyF x.toNat.toUInt8)) ∧ w' = W := fun x W => index_any ⟨keyF.toArray⟩ x W
  have IR : ∀ (x : Int) (W : World), Calls Tryz.prog 99 #[.string ⟨keyR.toArray⟩, .int .u8 x] W fun e w' => e = .returned (.int .i64 (Lib.indexByte keyR x.toNat.toUInt8)) ∧ w' = W := fun x W => index_any ⟨keyR.toArray⟩ x W
  have nF := fun x : Int => idx_in keyF x.toNat.toUInt8
  have nR := fun x : Int => idx_in keyR x.toNat.toUInt8
  unfold keyB inL
  generalize hgF : (fun x : Int => Lib.indexByte keyF x.toNat.toUInt8) = iF
  generalize hgR : (fun x : Int => Lib.indexByte keyR x.toNat.toUInt8) = iR
  have IF2 : ∀ (x : Int) (W : World), Calls Tryz.prog 99 #[.string ⟨keyF.toArray⟩, .int .u8 x] W fun e w' => e = .returned (.int .i64 (iF x)) ∧ w' = W := fun x W => by rw [← hgF]; exact IF x W
  have IR2 : ∀ (x : Int) (W : World), Calls Tryz.prog 99 #[.string ⟨keyR.toArray⟩, .int .u8 x] W fun e w' => e = .returned (.int .i64 (iR x)) ∧ w' = W := fun x W => by rw [← hgR]; exact IR x W
  have mF : ∀ x : Int, 0 ≤ iF x ↔ keyF.contains x.toNat.toUInt8 = true := fun x => by rw [← hgF]; exact nF x
  have mR : ∀ x : Int, 0 ≤ iR x ↔ keyR.contains x.toNat.toUInt8 = true := fun x => by rw [← hgR]; exact nR x
  clear IF IR nF nR hgF hgR
  have HmF : Hid (∀ x : Int, 0 ≤ iF x ↔ keyF.contains x.toNat.toUInt8 = true) := mF
  have HmR : Hid (∀ x : Int, 0 ≤ iR x ↔ keyR.contains x.toNat.toUInt8 = true) := mR
  clear mF mR
  simp only [keyF, keyR, List.cons_append, List.nil_append] at IF2 IR2
  by_cases h1 : s.size < 1
  · have h1' : decide (1 ≤ s.size) = false := decide_eq_false (by omega)
    have h1z : s.size = 0 := by omega
    go_enter Tryz.func79, Tryz.ntmps79
    go_wp2
    go_ret
    exact ⟨by simp [h1'], rfl⟩
  have h1' : decide (1 ≤ s.size) = true := decide_eq_true (by omega)
  have h1i : (1 : Int) ≤ (s.size : Int) := by omega
  by_cases h2 : 40 < s.size
  · have h2' : decide (s.size ≤ 40) = false := decide_eq_false (by omega)
    have h2i : (40 : Int) < (s.size : Int) := by omega
    go_enter Tryz.func79, Tryz.ntmps79
    go_wp2
    go_ret
    exact ⟨by simp [h2'], rfl⟩
  have h2' : decide (s.size ≤ 40) = true := decide_eq_true (by omega)
  have h2i : (s.size : Int) ≤ 40 := by omega
  rw [h1', h2', bytesI_get s 0 (by omega)]
  simp only [Bool.true_and]
  obtain ⟨x, hx⟩ : ∃ x : Int, (s[0].toNat : Int) = x := ⟨_, rfl⟩
  rw [hx]
  have mx := HmF.out x
  have IX := IF2 x
  obtain ⟨i, hi⟩ : ∃ i, iF x = i := ⟨_, rfl⟩
  rw [hi] at mx IX
  clear h1' h2' IF2 HmF hi
  by_cases h3 : i < 0
  · have e1 : keyF.contains x.toNat.toUInt8 = false := by
      cases h : keyF.contains x.toNat.toUInt8 with
      | false => rfl
      | true => have := mx.2 h; omega
    clear IR2 mx
    go_enter Tryz.func79, Tryz.ntmps79
    go_wp2_with (go_at_call 99; refine (IX _).mono ?_; rintro e w' ⟨rfl, rfl⟩)
    go_ret
    exact ⟨by rw [e1]; rfl, rfl⟩
  have e1 : keyF.contains x.toNat.toUInt8 = true := mx.1 (by omega)
  rw [e1]
  simp only [Bool.true_and]
  obtain ⟨r, hr⟩ : ∃ r, ((bytesI s).drop 1).all (fun x => keyR.contains x.toNat.toUInt8) = r := ⟨_, rfl⟩
  have hr0 : ((bytesI s).drop 1).all (inL keyR) = r := hr
  show Calls _ _ _ _ fun e w' => e = .returned (.bool (((bytesI s).drop 1).all (fun x => keyR.contains x.toNat.toUInt8))) ∧ _
  rw [hr]
  have hl := bytesI_length s
  clear mx e1 hr
  go_enter Tryz.func79, Tryz.ntmps79
  go_wp2_with (go_at_call 99; refine (IX _).mono ?_; rintro e w' ⟨rfl, rfl⟩)
  go_loop [3] (fun a => ∃ k : Nat, a = .int .i64 k ∧ 1 ≤ k ∧ k ≤ s.size ∧ r = ((bytesI s).drop k).all (inL keyR)) (fun a => s.size - (intOf a).toNat)
  case atStart => exact ⟨1, rfl, by omega, by omega, hr0.symm⟩
  case round =>
    obtain ⟨k, rfl, hk1, hk, ho⟩ := hrel
    have HO : Hid (r = ((bytesI s).drop k).all (inL keyR)) := ho
    clear ho hr0 IX
    by_cases hlt : k < s.size
    · have st := all_step (f := inL keyR) (K := bytesI s) (k := k) (by omega)
      have hx := bytesI_at s k hlt
      obtain ⟨y, hyy⟩ : ∃ y : Int, (s[k].toNat : Int) = y := ⟨_, rfl⟩
      rw [hx, hyy] at st
      have HS : Hid (r = (inL keyR y && ((bytesI s).drop (k + 1)).all (inL keyR))) := by show r = _; rw [HO.out, st]
      have my := HmR.out y
      have IY := IR2 y
      obtain ⟨j, hj⟩ : ∃ j, iR y = j := ⟨_, rfl⟩
      rw [hj] at my IY
      clear st hx HO IR2 HmR hj
      by_cases h4 : j < 0
      · have e2 : inL keyR y = false := by
          unfold inL
          cases h : keyR.contains y.toNat.toUInt8 with
          | false => rfl
          | true => have := my.2 h; omega
        have FIN : Hid (r = false) := by show r = false; rw [HS.out, e2]; rfl
        clear my e2 HS
        go_wp2_with (go_at_call 99; refine (IY _).mono ?_; rintro e w' ⟨rfl, rfl⟩)
        go_ret
        exact ⟨ret_bool FIN.out.symm, rfl⟩
      · have e2 : inL keyR y = true := my.1 (by omega)
        have FIN : Hid (r = ((bytesI s).drop (k + 1)).all (inL keyR)) := by show r = _; rw [HS.out, e2]; rfl
        clear my e2 HS
        go_wp2_with (go_at_call 99; refine (IY _).mono ?_; rintro e w' ⟨rfl, rfl⟩)
        go_round
        case rel => exact ⟨k + 1, by go_num, by omega, by omega, FIN.out⟩
        case measure => simp [intOf]; omega
    · have FIN : Hid (r = true) := by show r = true; rw [HO.out, List.drop_of_length_le (by omega)]; rfl
      clear IR2 HmR
      go_wp2
      go_ret
      exact ⟨ret_bool FIN.out.symm, rfl⟩

/-- May an attribute have this value? -/
def valB (k : Int) (s : ByteArray) (n : Int) : Bool :=
  if k = 0 then decide (n = 0) && decide (s.size ≤ 200) && Lib.validD s.data.toList
  else if k = 1 then decide (s.size = 0)
  else if k = 2 then decide (s.size = 0) && (decide (n = 0) || decide (n = 1)) else false
theorem empty_str (s : ByteArray) : (s.toList == ([] : List UInt8)) = decide (s.size = 0) := by
  have : s.toList.length = s.size := by rw [Lib.toList_data, Array.length_toList]; rfl
  cases h : s.toList with
  | nil => rw [h] at this; simp at this; simp [← this]
  | cons x r => rw [h] at this; simp at this; rw [decide_eq_false (by omega)]; rfl

theorem value_any (k : Int) (s : ByteArray) (n : Int) (w : World) (hs : s.size ≤ 140737488355328) (hT : Tabs w) :
    Calls Tryz.prog 80 #[.agg #[.int .i64 k, .string s, .int .i64 n]] w fun e w' => e = .returned (.bool (valB k s n)) ∧ Below w.heap.size w w' := by
  have B1 : ∀ o : Obj, Below w.heap.size w (w.alloc o) := fun o => (Below.refl _ _).alloc (Nat.le_refl _) o
  have VA := fun o => valid_any s (w.alloc o) (by omega) (hT.below (B1 o))
  have ES := empty_str s
  unfold valB
  generalize Lib.validD s.data.toList = vd at VA ⊢
  by_cases k0 : k = 0
  · subst k0
    rw [if_pos rfl]
    by_cases n0 : n = 0
    · subst n0
      by_cases h2 : s.size ≤ 200
      · have h2i : (s.size : Int) ≤ 200 := by omega
        go_enter Tryz.func80, Tryz.ntmps80
        go_wp2_with (go_at_call 74; refine (VA _).mono ?_; rintro e w' ⟨rfl, hb⟩; have hB := (B1 _).trans (hb.mono (B1 _).size))
        go_ret
        exact ⟨ret_bool (by simp [h2]), hB⟩
      · have h2i : ¬ (s.size : Int) ≤ 200 := by omega
        clear VA
        go_enter Tryz.func80, Tryz.ntmps80
        go_wp2
        go_ret
        exact ⟨ret_bool (by simp), B1 _⟩
    · have n0' : (n == 0) = false := by simpa using n0
      clear VA
      go_enter Tryz.func80, Tryz.ntmps80
      go_wp2
      go_ret
      exact ⟨ret_bool (by simp [n0]), B1 _⟩
  rw [if_neg k0]
  have k0' : (k == 0) = false := by simpa using k0
  clear VA
  by_cases k1 : k = 1
  · subst k1
    rw [if_pos rfl]
    by_cases h : s.size = 0
    · have ES2 : (s.toList == ([] : List UInt8)) = true := by rw [ES]; simp [h]
      go_enter Tryz.func80, Tryz.ntmps80
      go_wp2
      go_ret
      exact ⟨ret_bool (by simp [h]), B1 _⟩
    · have ES2 : (s.toList == ([] : List UInt8)) = false := by rw [ES]; exact decide_eq_false h
      go_enter Tryz.func80, Tryz.ntmps80
      go_wp2
      go_ret
      exact ⟨ret_bool (by rw [decide_eq_false h]), B1 _⟩
  rw [if_neg k1]
  have k1' : (k == 1) = false := by simpa using k1
  by_cases k2 : k = 2
  · subst k2
    rw [if_pos rfl]
    by_cases h : s.size = 0
    · have ES2 : (s.toList == ([] : List UInt8)) = true := by rw [ES]; simp [h]
      by_cases n0 : n = 0
      · subst n0
        go_enter Tryz.func80, Tryz.ntmps80
        go_wp2
        go_ret
        exact ⟨ret_bool (by simp [h]), B1 _⟩
      · have n0' : (n == 0) = false := by simpa using n0
        go_enter Tryz.func80, Tryz.ntmps80
        go_wp2
        go_ret
        exact ⟨ret_bool (by rw [decide_eq_true h, decide_eq_false n0]; by_cases n1 : n = 1 <;> simp [n1]), B1 _⟩
    · have ES2 : (s.toList == ([] : List UInt8)) = false := by rw [ES]; exact decide_eq_false h
      go_enter Tryz.func80, Tryz.ntmps80
      go_wp2
      go_ret
      exact ⟨ret_bool (by rw [decide_eq_false h]; rfl), B1 _⟩
  · rw [if_neg k2]
    have k2' : (k == 2) = false := by simpa using k2
    go_enter Tryz.func80, Tryz.ntmps80
    go_wp2
    go_ret
    exact ⟨rfl, B1 _⟩
end Go.Proofs.YthcghpbkadlliabGreatDoor
