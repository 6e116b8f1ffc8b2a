import Derived.Test.YtgoafinbaiepmaaGreatDoorEb
import Derived.Test.YtgoafinbaiepmaaGreatDoorFrSn
import Derived.Deep.Cut
import Derived.Deep.RegionHeld3
/-
  Layer 8 (journal): a file's name: of the number 0.
-/
namespace Go.Proofs.YtgoafinbaiepmaaGreatDoor
open Go.RowKit Go.Shelf Go.Maps Go.WideMaps
set_option maxRecDepth 100000

def seg0 : ByteArray := ⟨#[115, 101, 103, 45, 48, 48, 48, 48, 48, 48, 48, 48, 48, 48]⟩
theorem small_zero (w : World) : Calls Tryz.prog 220 #[.int .i64 0] w fun e w' => e = .returned (.string ⟨#[48]⟩) ∧ w' = w := by
  go_enter Tryz.func220, Tryz.ntmps220
  go_wp2
  go_ret
  exact ⟨by first | rfl | (congr 1; kernel_rfl), rfl⟩
theorem fmtI_zero (w : World) : Calls Tryz.prog 191 #[.int .u64 0, .int .i64 10] w fun e w' => e = .returned (.string ⟨#[48]⟩) ∧ w' = w := by
  have S := small_zero
  go_enter Tryz.func191, Tryz.ntmps191
  go_wp2_with (go_at_call 220; refine (S _).mono ?_; rintro e w' ⟨rfl, hw⟩; obtain rfl := hw.symm)
  go_ret
  exact ⟨rfl, rfl⟩
theorem fmt_zero (w : World) : Calls Tryz.prog 165 #[.int .u64 0, .int .i64 10] w fun e w' => e = .returned (.string ⟨#[48]⟩) ∧ w' = w := by
  have S := fmtI_zero
  go_enter Tryz.func165, Tryz.ntmps165
  go_wp2_with (go_at_call 191; refine (S _).mono ?_; rintro e w' ⟨rfl, hw⟩; obtain rfl := hw.symm)
  go_ret
  exact ⟨rfl, rfl⟩
/-- HasPrefix of a text of one byte. -/
theorem pre1I (s p : ByteArray) (hp : p.size = 1) (hs : 1 ≤ s.size) (hz : s.size ≤ 1000000) (w : World) : Calls Tryz.prog 226 #[.string s, .string p] w fun e w' => e = .returned (.bool ((s.extract 0 1).toList == p.toList)) ∧ w' = w := by
  have k1 : (1 : Int) ≤ (s.size : Int) := by omega
  have k2 : (p.size : Int) = 1 := by omega
  have k3 : (s.size : Int) ≤ 1000000 := by omega
  go_enter Tryz.func226, Tryz.ntmps226
  go_wp2
  go_ret
  exact ⟨rfl, rfl⟩
theorem pre1 (s p : ByteArray) (hp : p.size = 1) (hs : 1 ≤ s.size) (hz : s.size ≤ 1000000) (w : World) : Calls Tryz.prog 193 #[.string s, .string p] w fun e w' => e = .returned (.bool ((s.extract 0 1).toList == p.toList)) ∧ w' = w := by
  have S := pre1I s p hp hs hz
  go_enter Tryz.func193, Tryz.ntmps193
  go_wp2_with (go_at_call 226; refine (S _).mono ?_; rintro e w' ⟨rfl, hw⟩; obtain rfl := hw.symm)
  go_ret
  exact ⟨rfl, rfl⟩
theorem pre1b (s p : ByteArray) (b : Bool) (hb : ((s.extract 0 1).toList == p.toList) = b) (hp : p.size = 1) (hs : 1 ≤ s.size) (hz : s.size ≤ 1000000) (w : World) : Calls Tryz.prog 193 #[.string s, .string p] w fun e w' => e = .returned (.bool b) ∧ w' = w := by
  subst hb
  exact pre1 s p hp hs hz w
set_option maxHeartbeats 1000000 in
theorem mul64_one (w : World) : Calls Tryz.prog 225 #[.int .u64 1, .int .u64 9] w fun e w' => e = .returned (.tuple #[.int .u64 0, .int .u64 9]) ∧ w' = w := by
  go_enter Tryz.func225, Tryz.ntmps225
  go_wp2
  go_ret2
  exact ⟨rfl, rfl⟩
theorem mul_one' (w : World) : Calls Tryz.prog 192 #[.int .u64 1, .int .u64 9] w fun e w' => e = .returned (.tuple #[.int .u64 0, .int .u64 9]) ∧ w' = w := by
  have S := mul64_one
  go_enter Tryz.func192, Tryz.ntmps192
  go_wp2_with (go_at_call 225; refine (S _).mono ?_; rintro e w' ⟨rfl, hw⟩; obtain rfl := hw.symm)
  go_ret2
  exact ⟨rfl, rfl⟩
set_option maxHeartbeats 2000000 in
theorem repeat_nine (w : World) : Calls Tryz.prog 166 #[.string ⟨#[48]⟩, .int .i64 9] w fun e w' => e = .returned (.string ⟨#[48, 48, 48, 48, 48, 48, 48, 48, 48]⟩) ∧ w' = w := by
  have S := mul_one'
  have M1 : Hid True := trivial
  have M2 : Hid True := trivial
  have h48 : ∀ h : 0 < (⟨#[48]⟩ : ByteArray).size, ((⟨#[48]⟩ : ByteArray)[0]'h).toNat = 48 := fun _ => rfl
  go_enter Tryz.func166, Tryz.ntmps166
  go_wp2_with (first
    | (go_at_call 192; refine (S _).mono ?_; clear S; rintro e w' ⟨rfl, hw⟩; obtain rfl := hw.symm)
    | (go_at_call 193; clear M1; refine (pre1b _ _ false (by kernel_rfl) rfl (of_decide_eq_true (by kernel_rfl)) (of_decide_eq_true (by kernel_rfl)) _).mono ?_; rintro e w' ⟨rfl, hw⟩; obtain rfl := hw.symm)
    | (go_at_call 193; clear M2; refine (pre1b _ _ false (by kernel_rfl) rfl (of_decide_eq_true (by kernel_rfl)) (of_decide_eq_true (by kernel_rfl)) _).mono ?_; rintro e w' ⟨rfl, hw⟩; obtain rfl := hw.symm)
    | (go_at_call 193; refine (pre1b _ _ true (by kernel_rfl) rfl (of_decide_eq_true (by kernel_rfl)) (of_decide_eq_true (by kernel_rfl)) _).mono ?_; rintro e w' ⟨rfl, hw⟩; obtain rfl := hw.symm))
  go_ret
  exact ⟨by first | rfl | (congr 1; kernel_rfl), rfl⟩
theorem fileName_zero (w : World) : Calls Tryz.prog 107 #[.int .u64 0] w fun e w' => e = .returned (.string seg0) ∧ w' = w := by
  have S := fmt_zero
  have R := repeat_nine
  go_enter Tryz.func107, Tryz.ntmps107
  go_wp2_with (first
    | (go_at_call 165; refine (S _).mono ?_; clear S; rintro e w' ⟨rfl, hw⟩; obtain rfl := hw.symm)
    | (go_at_call 166; refine (R _).mono ?_; clear R; rintro e w' ⟨rfl, hw⟩; obtain rfl := hw.symm))
  go_ret
  exact ⟨by first | rfl | (congr 1; kernel_rfl), rfl⟩
end Go.Proofs.YtgoafinbaiepmaaGreatDoor
/-
  Layer 8 (journal): a file's parts; its head.
-/
namespace Go.Proofs.YtgoafinbaiepmaaGreatDoor
open Go.RowKit Go.Shelf Go.Maps Go.WideMaps
set_option maxRecDepth 100000

theorem segName (p : Nat) (w : World) (h : w.cell? ⟨p, 0, none⟩ = some (.int .u64 0)) : Calls Tryz.prog 66 #[.pointer (some ⟨p, 0, none⟩)] w fun e w' => e = .returned (.string seg0) ∧ w' = w := by
  have S := fileName_zero w
  go_enter Tryz.func66, Tryz.ntmps66
  go_wp2_with (go_at_call 107; refine S.mono ?_; rintro e w' ⟨rfl, hw⟩; obtain rfl := hw.symm)
  go_ret
  exact ⟨rfl, rfl⟩
theorem segCount (p : Nat) (ad : Option Addr) (n c : Nat) (w : World) (hn : 1 ≤ n) (hm : n ≤ 1000000) (h : w.cell? ⟨p, 2, none⟩ = some (.slice ad n c)) : Calls Tryz.prog 70 #[.pointer (some ⟨p, 0, none⟩)] w fun e w' => e = .returned (.int .i64 ((n : Int) - 1)) ∧ w' = w := by
  have k1 : (n : Int) ≤ 1000000 := by omega
  have k2 : (1 : Int) ≤ (n : Int) := by omega
  go_enter Tryz.func70, Tryz.ntmps70
  go_wp2
  go_ret
  exact ⟨by first | rfl | go_num, rfl⟩
theorem segSize (p g n c : Nat) (x : Int) (w : World) (hn : 1 ≤ n) (hm : n ≤ 1000000) (h : w.cell? ⟨p, 2, none⟩ = some (.slice (some ⟨g, 0, none⟩) n c)) (hx : w.cell? ⟨g, n - 1, none⟩ = some (.int .i64 x)) : Calls Tryz.prog 71 #[.pointer (some ⟨p, 0, none⟩)] w fun e w' => e = .returned (.int .i64 x) ∧ ∃ m, w' = w.drewN m := by
  have CN := fun q => segCount p (some ⟨g, 0, none⟩) n c (w.drewN q) hn hm h
  obtain ⟨m, rfl⟩ : ∃ m, n = m + 1 := ⟨n - 1, by omega⟩
  have e1 : m + 1 - 1 = m := by omega
  rw [e1] at hx
  have k1 : (m : Int) < ((m + 1 : Nat) : Int) := by omega
  have k2 : (((m + 1 : Nat) : Int) - 1) = (m : Int) := by omega
  rw [k2] at CN
  have k0 : (0 : Int) ≤ (m : Int) := by omega
  clear hn hm
  go_enter Tryz.func71, Tryz.ntmps71
  go_wp2
  go_quiet (first | (go_at_call 70; (with_reducible refine Calls.quiet_of_same (CN _))))
  go_wp2
  go_ret
  exact ⟨rfl, _, rfl⟩
def zero8 : Array Value := #[.int .u8 0, .int .u8 0, .int .u8 0, .int .u8 0, .int .u8 0, .int .u8 0, .int .u8 0, .int .u8 0]
theorem zero8_set (k : Nat) : zero8.setIfInBounds k (.int .u8 0) = zero8 := by
  refine Array.ext (by simp) fun i h1 h2 => ?_
  have h8 : i < 8 := h2
  rw [Array.getElem_setIfInBounds]
  split
  · obtain rfl | rfl | rfl | rfl | rfl | rfl | rfl | rfl : i = 0 ∨ i = 1 ∨ i = 2 ∨ i = 3 ∨ i = 4 ∨ i = 5 ∨ i = 6 ∨ i = 7 := by omega
    all_goals rfl
  · rfl
theorem zero8_holds {w : World} {b : Nat} {t : TypeId} (h : w.heap[b]? = some (.cells zero8 t (0, 0))) : fr.Holds w (some ⟨b, 0, none⟩) 8 [0, 0, 0, 0, 0, 0, 0, 0] := by
  refine ⟨rfl, fun j u hj => ⟨_, rfl, ?_⟩⟩
  rw [Addr.add_lit, Nat.zero_add]
  refine blk_cell h j ?_
  rw [← hj]
  simp [zero8]
set_option maxHeartbeats 4000000 in
theorem head0 (p : Nat) (w : World) (h0 : w.cell? ⟨p, 0, none⟩ = some (.int .u64 0)) (h1 : w.cell? ⟨p, 1, none⟩ = some (.int .u64 0)) : Calls Tryz.prog 167 #[.pointer (some ⟨p, 0, none⟩)] w fun e w' => ∃ a c, e = .returned (.slice a 32 c) ∧ OwnB w.heap.size w' (.slice a 32 c) (fr.makeL 1 0 [0, 0, 0, 0, 0, 0, 0, 0]) ∧ Below w.heap.size w w' := by
  have hp := World.block_lt_of_cell? w _ h0
  have KP : ∀ W, Below w.heap.size w W → W.cell? ⟨p, 0, none⟩ = some (.int .u64 0) ∧ W.cell? ⟨p, 1, none⟩ = some (.int .u64 0) := fun W b => ⟨(b.cell (p := ⟨p, 0, none⟩) hp).trans h0, (b.cell (p := ⟨p, 1, none⟩) hp).trans h1⟩
  have MK := fun W (h : W.heap[w.heap.size]? = some (.cells zero8 300 (0, 0))) => fr.make_any 1 0 (some ⟨w.heap.size, 0, none⟩) 8 8 [0, 0, 0, 0, 0, 0, 0, 0] W (by omega) (by omega) (zero8_holds h) (by intro x hx; simp at hx; omega)
  have hml : (fr.makeL 1 0 [0, 0, 0, 0, 0, 0, 0, 0]).length = 32 := by unfold fr.makeL; rw [List.length_append, fr.headL_len]; rfl
  have XA : (w.alloc (.cells zero8 300)).heap[w.heap.size]? = some (.cells zero8 300 (0, 0)) := heap_alloc_new _ _
  have BA : Below w.heap.size w (w.alloc (.cells zero8 300)) := (Below.refl _ _).alloc (Nat.le_refl _) _
  have hz : (.cells #[.int .u8 0, .int .u8 0, .int .u8 0, .int .u8 0, .int .u8 0, .int .u8 0, .int .u8 0, .int .u8 0] 300 (0, 0) : Obj) = .cells zero8 300 (0, 0) := rfl
  have HKP : Hid _ := KP
  have HMK : Hid _ := MK
  have HML : Hid _ := hml
  clear KP MK h0 h1 hml
  go_enter Tryz.func167, Tryz.ntmps167
  go_wp2
  try rw [hz]
  generalize (w.alloc (.cells zero8 300)) = W1 at *
  clear hz
  go_loopw [7] (fun a wr => ∃ k : Nat, a = .int .i64 (k : Int) ∧ k ≤ 8 ∧ wr.heap[w.heap.size]? = some (.cells zero8 300 (0, 0)) ∧ Below w.heap.size w wr) (fun a _ => 8 - (intOf a).toNat)
  case atStart => exact ⟨0, rfl, by omega, XA, BA⟩
  case round =>
    clear XA BA
    obtain ⟨k, rfl, hk, XA, BA⟩ := hrel
    obtain ⟨c0, c1⟩ := HKP.out _ BA
    by_cases h8 : k < 8
    · have NX : ∀ i : Nat, i < 8 → wr.cell? ⟨w.heap.size, i, none⟩ = some (.int .u8 0) ∧ wr.frozen? ⟨w.heap.size, i, none⟩ = false ∧ (wr.setCell ⟨w.heap.size, i, none⟩ (.int .u8 0)).heap[w.heap.size]? = some (.cells zero8 300 (0, 0)) ∧ Below w.heap.size w (wr.setCell ⟨w.heap.size, i, none⟩ (.int .u8 0)) := fun i hi => by
        refine ⟨blk_cell XA i ?_, free3 XA i, ?_, BA.setCell (p := ⟨w.heap.size, i, none⟩) (Nat.le_refl _) _⟩
        · obtain rfl | rfl | rfl | rfl | rfl | rfl | rfl | rfl : i = 0 ∨ i = 1 ∨ i = 2 ∨ i = 3 ∨ i = 4 ∨ i = 5 ∨ i = 6 ∨ i = 7 := by omega
          all_goals rfl
        · have := blk_set XA i (.int .u8 0)
          rw [zero8_set] at this
          exact this
      have HNX : Hid _ := NX
      clear NX XA BA HMK
      obtain rfl | rfl | rfl | rfl | rfl | rfl | rfl | rfl : k = 0 ∨ k = 1 ∨ k = 2 ∨ k = 3 ∨ k = 4 ∨ k = 5 ∨ k = 6 ∨ k = 7 := by omega
      all_goals (obtain ⟨d0, d1, d2, d3⟩ := HNX.out _ h8; clear HNX hk h8; go_wp2; go_roundw)
      all_goals first | (exact ⟨1, by go_num, by omega, d2, d3⟩) | (exact ⟨2, by go_num, by omega, d2, d3⟩) | (exact ⟨3, by go_num, by omega, d2, d3⟩) | (exact ⟨4, by go_num, by omega, d2, d3⟩) | (exact ⟨5, by go_num, by omega, d2, d3⟩) | (exact ⟨6, by go_num, by omega, d2, d3⟩) | (exact ⟨7, by go_num, by omega, d2, d3⟩) | (exact ⟨8, by go_num, by omega, d2, d3⟩) | (simp [intOf])
    · obtain rfl : k = 8 := by omega
      have MK := HMK.out _ (show wr.drew.heap[w.heap.size]? = _ from XA)
      have e0 : ((0 : Nat) : Int) = 0 := rfl
      rw [e0] at MK
      clear e0
      have EN : Hid (∀ (v : Value) (w2 : World), w2.ownsRow wr.drew.heap.size 5 1 v (fr.makeL 1 0 [0, 0, 0, 0, 0, 0, 0, 0]).length ((fr.makeL 1 0 [0, 0, 0, 0, 0, 0, 0, 0]).map (Value.int .u8)) → Below wr.drew.heap.size wr.drew w2 → ∃ a c, v = .slice a 32 c ∧ OwnB w.heap.size w2 (.slice a 32 c) (fr.makeL 1 0 [0, 0, 0, 0, 0, 0, 0, 0]) ∧ Below w.heap.size w w2 ∧ w2.cell? ⟨p, 0, none⟩ = some (.int .u64 0)) := fun v w2 o b2 => by
        obtain ⟨a, l, c, rfl⟩ := row_shape o
        have hl := (own_len o).1
        rw [HML.out] at hl
        subst hl
        have hs := BA.size
        exact ⟨a, c, rfl, ownsRow_base_a o hs, BA.drew.trans (b2.mono hs), (HKP.out _ (BA.drew.trans (b2.mono hs))).1⟩
      clear XA BA HKP HML HMK
      go_wp2
      go_region_held3 (fun W => W.cell? ⟨p, 0, none⟩ = some (.int .u64 0)) (first | exact c0 | exact q3) (first
        | (go_at_call 60; (with_reducible refine MK.mono ?_); clear MK; rintro e w2 ⟨v2, rfl, o2, b2⟩; obtain ⟨a2, c2, rfl, q1, q2, q3⟩ := EN.out _ _ o2 b2; clear EN o2 b2))
      go_wp2
      go_ret
      exact ⟨a2, c2, rfl, q1, q2⟩
end Go.Proofs.YtgoafinbaiepmaaGreatDoor
/-
  Layer 8 (journal): a disk of the journal's one file.
-/
namespace Go.Proofs.YtgoafinbaiepmaaGreatDoor
open Go.RowKit Go.Shelf Go.Maps Go.WideMaps
set_option maxRecDepth 100000

def nmS (_ : Nat) : ByteArray := seg0
theorem seg0_ok : nameB seg0 = true := by kernel_rfl
theorem seg0_size : seg0.size = 14 := by kernel_rfl
def key0 : Lit := .string seg0.data.toList
theorem key0_lit : WideAt.IsKeyLit key0 := law_s.key (keyS seg0 (by rw [seg0_size]; omega))
def put0 : DataW Unit := DataW.put (.map []) key0 (.lit (.int .i64 ((0 : Nat) : Int)))
theorem put0_has : Maps.has put0 key0 = true := has_put_same isMap_empty key0_lit _
theorem put0_at : put0.atKey key0 (.lit (.int .i64 0)) = .lit (.int .i64 ((0 : Nat) : Int)) := atKey_put_same isMap_empty key0_lit _ _
theorem put0_only (kl : Lit) (h : Maps.has put0 kl = true) : kl = key0 := by
  by_cases e : kl = key0
  · exact e
  · unfold put0 at h
    rw [has_put_other e] at h
    simp [Maps.has] at h
theorem lasting0 : Lasting nmS 1 put0 := ⟨fun i hi => by obtain rfl : i = 0 := by omega
                                                         exact ⟨put0_has, put0_at⟩, fun kl h => ⟨0, by omega, put0_only kl h⟩, fun i j hi hj hij => by omega⟩
/-- The disk: its file, its bytes, how many of them last, whether its name does. -/
structure Jd (b : Nat) (w : World) (d N : Nat) (K : Dk) (f : Nat) (F : Fl) (B : List Int) (s m : Nat) : Prop where
  many : Many nmS b w d N K [(f, F)]
  fil : FilB F B s
  few : F.S.length ≤ 10
  dn : K.DN = put0
  st : (m = 0 ∧ K.DL = .map [] ∧ K.ns = crL [(seg0, 0)]) ∨ (m = 1 ∧ K.DL = put0 ∧ K.ns = [])
  num : N ≤ 100
  small : B.length ≤ 1000
theorem one_some {α : Type} {p q : α} {i : Nat} (h : [p][i]? = some q) : i = 0 ∧ q = p := by
  cases i with
  | zero => exact ⟨rfl, by simpa using h.symm⟩
  | succ i => simp at h
theorem Jd.one {b : Nat} {w : World} {d N : Nat} {K : Dk} {f : Nat} {F : Fl} {B : List Int} {s m : Nat} (h : Jd b w d N K f F B s m) : OneN b w d N K seg0 0 f F := h.many.one (i := 0) rfl
theorem Jd.below {b : Nat} {w w' : World} {d N : Nat} {K : Dk} {f : Nat} {F : Fl} {B : List Int} {s m : Nat} (h : Jd b w d N K f F B s m) (hb : Below w.heap.size w w') : Jd b w' d N K f F B s m :=
  ⟨h.many.below hb, h.fil, h.few, h.dn, h.st, h.num, h.small⟩
theorem Jd.oth {b : Nat} {w w' : World} {d N : Nat} {K : Dk} {f : Nat} {F : Fl} {B : List Int} {s m : Nat} {S : Nat → Prop} (h : Jd b w d N K f F B s m) (u : Upd S w w') (hS : ∀ k, S k → k < w.heap.size → Oth w k) : Jd b w' d N K f F B s m :=
  ⟨h.many.upd u (fun k hk e => h.many.disk.oth (hS k e (h.many.disk.lt hk).2) hk) (fun i p hp k hk e => (h.many.files i p hp).oth (hS k e ((h.many.files i p hp).bw_lt hk).2) hk), h.fil, h.few, h.dn, h.st, h.num, h.small⟩
theorem Jd.turn {b : Nat} {w w' : World} {d N : Nat} {K : Dk} {f : Nat} {F G : Fl} {B C : List Int} {s t m : Nat} (h : Jd b w d N K f F B s m) (O : OneN b w' d N K seg0 0 f G) (nx : Next w f F G) (u : Upd (fun k => k = d ∨ FW f F k) w w') (hG : FilB G C t) (hf : G.S.length ≤ 10) (hc : C.length ≤ 1000) : Jd b w' d N K f G C t m ∧ KeepC w w' := by
  refine ⟨⟨h.many.turn (i := 0) rfl O.disk O.file nx u, hG, hf, h.dn, h.st, h.num, hc⟩, KeepC.of u (fun k hk ho => ?_)⟩
  rcases hk with rfl | hk
  · exact h.many.disk.oth ho (Or.inl rfl)
  · exact h.one.file.oth ho (Or.inl hk)
theorem jcreate {b : Nat} {w : World} {d : Nat} (D : DiskAt b w d 0 ⟨b, b + 1, b + 2, 0, .slice none 0 0, [], 0, 0, 0, false, .map [], .map [], .map []⟩) (hb : b ≤ w.heap.size) :
    Calls Tryz.prog 78 #[.pointer (some ⟨d, 0, none⟩), .string seg0] w fun e w' => e = .returned (.int .i64 0) ∧ (∃ K f, Jd b w' d 2 K f noF [] 0 0) ∧ Below b w w' ∧ KeepC w w' := by
  refine (createN b d 0 _ seg0 (by rw [seg0_size]; omega) seg0_ok w D hb rfl rfl (by simp [Maps.has]) (by unfold maxLen; omega) (by simp only; omega) (by simp)).mono ?_
  rintro e w' ⟨rfl, f, sv, O, B, U, hf⟩
  refine ⟨rfl, ⟨_, f, ⟨⟨O.disk, fun i p hp => ?_, fun i j p q hp hq hij => ?_, fun i p hp => ?_, fun i hi => ⟨by unfold nmS; rw [seg0_size]; omega, seg0_ok⟩, rfl, rfl⟩, ⟨rfl, rfl, Nat.zero_le _, fun t h => by simp [noF] at h⟩, by simp [noF], rfl, Or.inl ⟨rfl, rfl, rfl⟩, by omega, by simp⟩⟩, B, KeepC.of U (fun k hk ho => D.oth ho hk)⟩
  · obtain ⟨rfl, rfl⟩ := one_some hp
    exact O.file
  · obtain ⟨rfl, rfl⟩ := one_some hp
    obtain ⟨rfl, rfl⟩ := one_some hq
    exact absurd rfl hij
  · obtain ⟨rfl, rfl⟩ := one_some hp
    exact O.has
theorem Jd.append {b : Nat} {w : World} {d N : Nat} {K : Dk} {f : Nat} {F : Fl} {B : List Int} {s m : Nat} (h : Jd b w d N K f F B s m) (hb : b ≤ w.heap.size) (ad : Option Addr) (n c : Nat) (X : List Int) (hH : Holds w ad n X) (hn : 0 < n) (hc : n ≤ c) (hS : F.S.length ≤ 9) (hB : B.length + n ≤ 1000) :
    Calls Tryz.prog 80 #[.pointer (some ⟨d, 0, none⟩), .string seg0, .slice ad n c] w fun e w' => e = .returned (.int .i64 0) ∧ (∃ G, Jd b w' d N K f G (B ++ X) s m ∧ G.S.length = F.S.length + 1) ∧ Below b w w' ∧ KeepC w w' := by
  refine (appendN b d N K seg0 0 f F ad n c X w h.one hb hH hn hc (by rw [h.fil.bytes]; omega) (by omega)).mono ?_
  rintro e w' ⟨rfl, ⟨bv, sv, t, O, t1, t2, t3, nx⟩, B1, U⟩
  obtain ⟨J1, k1⟩ := h.turn O nx U (C := B ++ X) (t := s) ⟨by rw [← h.fil.bytes], by show F.L = _; rw [h.fil.lasts, List.take_append_of_le_length h.fil.le], by rw [List.length_append]; have := h.fil.le; omega, fun q hq => by
    simp at hq
    rcases hq with hq | rfl
    · exact h.fil.app q hq
    · exact t1⟩ (by simp; omega) (by rw [List.length_append, hH.len]; omega)
  exact ⟨rfl, ⟨_, J1, by simp⟩, B1, k1⟩
theorem Jd.sync {b : Nat} {w : World} {d N : Nat} {K : Dk} {f : Nat} {F : Fl} {B : List Int} {s m : Nat} (h : Jd b w d N K f F B s m) (hb : b ≤ w.heap.size) :
    Calls Tryz.prog 125 #[.pointer (some ⟨d, 0, none⟩), .string seg0] w fun e w' => e = .returned (.int .i64 0) ∧ (∃ G, Jd b w' d N K f G B B.length m ∧ G.S = []) ∧ Below b w w' ∧ KeepC w w' := by
  have hs := h.small
  refine (syncN b d N K seg0 0 f F w h.one hb (by rw [h.fil.units h.one.file]; omega)).mono ?_
  rintro e w' ⟨rfl, ⟨lv, O, nx⟩, B1, U⟩
  obtain ⟨J1, k1⟩ := h.turn O nx U (C := B) (t := B.length) ⟨h.fil.bytes, by rw [List.take_of_length_le (Nat.le_refl _)]; exact h.fil.bytes, Nat.le_refl _, by simp⟩ (by simp) h.small
  exact ⟨rfl, ⟨_, J1, rfl⟩, B1, k1⟩
theorem Jd.names {b : Nat} {w : World} {d N : Nat} {K : Dk} {f : Nat} {F : Fl} {B : List Int} {s m : Nat} (h : Jd b w d N K f F B s m) (hb : b ≤ w.heap.size) (hN : N ≤ 90) :
    Calls Tryz.prog 73 #[.pointer (some ⟨d, 0, none⟩)] w fun e w' => e = .returned (.int .i64 0) ∧ (∃ N' K', N' ≤ N + 1 ∧ Jd b w' d N' K' f F B s 1) ∧ Below b w w' ∧ KeepC w w' := by
  obtain ⟨L, hL, hl, hp⟩ : ∃ L : List (ByteArray × Nat), K.ns = crL L ∧ L.length ≤ 1 ∧ putL K.DL L = put0 ∧ ∀ p ∈ L, p.1.size ≤ maxLen ∧ p.2 < 9223372036854775808 := by
    rcases h.st with ⟨_, h1, h2⟩ | ⟨_, h1, h2⟩
    · refine ⟨[(seg0, 0)], h2, by simp, by rw [h1]; rfl, fun p hp => ?_⟩
      simp at hp
      subst hp
      exact ⟨by simp only [seg0_size]; unfold maxLen; omega, by simp only; omega⟩
    · exact ⟨[], h2, by simp, by rw [h1]; rfl, fun p hp => by cases hp⟩
  obtain ⟨hp, hsz⟩ := hp
  refine (syncNames_any b d N K L w h.many.disk h.many.on h.many.arm hL hsz (by unfold maxLen; omega) (by omega)).mono ?_
  rintro e w' ⟨rfl, D, U⟩
  refine ⟨rfl, ⟨_, _, by omega, ⟨⟨D, fun i p hp => ?_, h.many.apart, fun i p hp => ⟨(h.many.has i p hp).has, (h.many.has i p hp).at_, (h.many.has i p hp).fat, (h.many.has i p hp).lt⟩, h.many.ok, h.many.on, h.many.arm⟩, h.fil, h.few, h.dn, Or.inr ⟨rfl, hp, rfl⟩, by omega, h.small⟩⟩, ?_, KeepC.of U (fun k hk ho => h.many.disk.oth ho hk)⟩
  · exact (h.many.files i p hp).upd U (fun k hk e => h.many.disk.bw_not (h.many.files i p hp) (Or.inl hk) e) (fun s hs k e hh => h.many.disk.bw_not (h.many.files i p hp) (Or.inr ⟨s, hs, e⟩) hh)
  · exact U.below hb (fun k hk e => by have := (h.many.disk.lt e).1; omega)
theorem Jd.restart {b : Nat} {w : World} {d N : Nat} {K : Dk} {f : Nat} {F : Fl} {B : List Int} {s : Nat} (h : Jd b w d N K f F B s 1) (hb : b ≤ w.heap.size) :
    Calls Tryz.prog 24 #[.pointer (some ⟨d, 0, none⟩), .agg #[.int .i64 0, .slice none 0 0]] w fun e w' => e = .returned (.tuple #[]) ∧ (∃ K' G, Jd b w' d N K' f G (B.take s) (B.take s).length 1 ∧ G.S = []) ∧ Below b w w' ∧ KeepC w w' := by
  have hst : K.DL = put0 ∧ K.ns = [] := by
    rcases h.st with ⟨e, _⟩ | ⟨_, q⟩
    · omega
    · exact q
  have hsm := h.small
  refine (restart_many nmS b d N K [(f, F)] [] none 0 0 0 [] 0 1 put0 w h.many hb hst.2 rfl (by rw [hst.1]; rfl) (by simp) lasting0 (fun p hp => by cases hp) (by have := h.num; unfold maxLen; simp; omega) (by simp) ⟨rfl, fun j x hx => by simp at hx, fun x hx => by cases hx⟩ (Nat.le_refl _) (fun i p hp => ?_)).mono ?_
  · obtain ⟨rfl, rfl⟩ := one_some hp
    rw [h.fil.units h.one.file]
    omega
  · rintro e w' ⟨rfl, K', Gs, M, e1, e2, e3, e4, e5, e6, e7, e8⟩
    match Gs, e5 with
    | [(g, G)], _ =>
      obtain ⟨F', hF', g1, g2, g3⟩ := e6 0 _ rfl
      obtain ⟨_, hF''⟩ := one_some hF'
      simp only [Prod.mk.injEq] at hF''
      obtain ⟨rfl, rfl⟩ := hF''
      have hu : unitK [] 0 = 0 := rfl
      rw [hu, firstOn_zero, h.fil.lasts] at g1 g2
      exact ⟨rfl, ⟨K', G, ⟨M, ⟨g1, by rw [List.take_of_length_le (Nat.le_refl _)]; exact g2, Nat.le_refl _, by rw [g3]; simp⟩, by rw [g3]; simp, e1, Or.inr ⟨rfl, e2, e3⟩, h.num, by rw [List.length_take]; omega⟩, g3⟩, e7, e8⟩
/-- Read from a place on. -/
theorem readAt (base d N : Nat) (K : Dk) (s : ByteArray) (n f : Nat) (F : Fl) (at_ m : Nat) (w : World) (h : OneN base w d N K s n f F) (hm : at_ + m ≤ F.B.length) (hp : 0 < m) (hbig : F.B.length ≤ 1000) :
    Calls Tryz.prog 45 #[.pointer (some ⟨d, 0, none⟩), .string s, .int .i64 (at_ : Int), .int .i64 (m : Int)] w fun e w' => ∃ a c, e = .returned (.tuple #[.slice a m c, .int .i64 0]) ∧ m ≤ c ∧ OwnB w.heap.size w' (.slice a m c) ((F.B.drop at_).take m) ∧ Below w.heap.size w w' := by
  have FI := findN_any base d N K n f w h.disk h.on s h.small h.ok h.has
  obtain ⟨c0, c1, c2⟩ := cell3 h.file.block
  obtain ⟨ao, c, hbv, hl1, hl2⟩ := h.file.bown.shape
  have ho := h.file.bown
  rw [hbv] at ho c0
  obtain ⟨g, rfl, hc⟩ := own_cell ho (by omega)
  have hH : Holds w (some ⟨g, at_, none⟩) m ((F.B.drop at_).take m) := by
    refine ⟨by rw [List.length_take, List.length_drop]; omega, fun j u hj => ⟨_, rfl, ?_⟩⟩
    rw [Addr.add_lit]
    refine hc (at_ + j) u ?_
    rw [List.getElem?_map] at hj ⊢
    have hjm : j < m := by
      by_cases e : j < m
      · exact e
      · rw [List.getElem?_eq_none (by rw [List.length_take]; omega)] at hj; simp at hj
    rw [List.getElem?_take, if_pos hjm, List.getElem?_drop] at hj
    exact hj
  have CL := fun cc => clone_some ⟨g, at_, none⟩ m cc _ w hH (by omega)
  have k1 : ¬ ((m : Int) < 0) := by omega
  have k2 : ¬ ((F.B.length : Int) - (at_ : Int) < (m : Int)) := by omega
  have k3 : (at_ : Int) + (m : Int) ≤ (F.B.length : Int) := by omega
  have k4 : (at_ : Int) + (m : Int) ≤ (c : Int) := by omega
  have k5 : (0 : Int) ≤ (m : Int) := by omega
  have k6 : (F.B.length : Int) ≤ 1000 := by omega
  have k7 : ¬ ((at_ : Int) < 0) := by omega
  have k8 : (at_ : Int) ≤ (at_ : Int) + (m : Int) := by omega
  have SH : Hid (∀ (v : Value) (w1 : World), OwnB w.heap.size w1 v ((F.B.drop at_).take m) → ∃ a c, v = .slice a m c ∧ m ≤ c) := fun v w1 o => by
    obtain ⟨a, l, c, rfl⟩ := row_shape o
    have hl := own_len o
    have e : ((F.B.drop at_).take m).length = m := by rw [List.length_take, List.length_drop]; omega
    rw [e] at hl
    obtain ⟨rfl, h2, _⟩ := hl
    exact ⟨a, c, rfl, h2⟩
  clear h ho hH hbv hbig c1 c2 hl1 hl2 hc hm
  generalize (F.B.drop at_).take m = X at *
  generalize F.B.length = bl at *
  go_enter Tryz.func45, Tryz.ntmps45
  go_wp2_with (first
    | (go_at_call 101; refine FI.mono ?_; clear FI; rintro e w0 ⟨rfl, hw⟩; obtain rfl := hw.symm)
    | (go_at_call 69; refine (CL _).mono ?_; clear CL; rintro e w1 ⟨v1, rfl, o1, b1⟩; obtain ⟨a1, c1, rfl, hmc⟩ := SH.out _ _ o1))
  go_ret2
  exact ⟨a1, c1, rfl, hmc, o1, b1⟩
end Go.Proofs.YtgoafinbaiepmaaGreatDoor
/-
  Layer 8 (journal): a journal in memory; begin.
-/
namespace Go.Proofs.YtgoafinbaiepmaaGreatDoor
open Go.RowKit Go.Shelf Go.Maps Go.WideMaps
set_option maxRecDepth 100000

def head32 : List Int := fr.makeL 1 0 [0, 0, 0, 0, 0, 0, 0, 0]
theorem head32_len : head32.length = 32 := by unfold head32 fr.makeL; rw [List.length_append, fr.headL_len]; rfl
def jC (d : Nat) (fv : Value) (nx fl : Int) : Array Value := #[.pointer (some ⟨d, 0, none⟩), .int .i64 64, fv, .int .u64 nx, .int .u64 fl, .bool false]
def iV (x : Int) : Value := .int .i64 x
/-- A journal of one file. -/
structure Jn (b : Nat) (w : World) (j d gf cf gb nb cb : Nat) (nx fl : Int) (X : List Int) : Prop where
  blk : w.heap[j]? = some (.cells (jC d (.slice (some ⟨gf, 0, none⟩) 1 cf) nx fl) 116 (0, 0))
  seg : w.ownsRow b 120 3 (.slice (some ⟨gf, 0, none⟩) 1 cf) 1 [.int .u64 0, .int .u64 0, .slice (some ⟨gb, 0, none⟩) nb cb]
  bnd : w.ownsRow b 3 1 (.slice (some ⟨gb, 0, none⟩) nb cb) X.length (X.map iV)
theorem ot_seg : OT 120 := ⟨by decide, by decide, by decide, by decide, by decide⟩
theorem ot_jou : OT 116 := ⟨by decide, by decide, by decide, by decide, by decide⟩
theorem ot_int : OT 3 := ⟨by decide, by decide, by decide, by decide, by decide⟩
theorem row_keep {base : Nat} {w w' : World} {e : TypeId} {size : Nat} {v : Value} {n : Nat} {xs : List Value} (h : w.ownsRow base e size v n xs) (he : OT e) (hk : KeepC w w') : w'.ownsRow base e size v n xs := by
  refine ⟨h.1, ?_⟩
  rcases h.2 with q | ⟨g, cap, cur, q1, q2, q3, q4⟩
  · exact Or.inl q
  · exact Or.inr ⟨g, cap, cur, q1, q2, (hk g ⟨_, _, _, q3, he⟩).trans q3, q4⟩
theorem Jn.keep {b : Nat} {w w' : World} {j d gf cf gb nb cb : Nat} {nx fl : Int} {X : List Int} (h : Jn b w j d gf cf gb nb cb nx fl X) (hk : KeepC w w') : Jn b w' j d gf cf gb nb cb nx fl X :=
  ⟨(hk j ⟨_, _, _, h.blk, ot_jou⟩).trans h.blk, row_keep h.seg ot_seg hk, row_keep h.bnd ot_int hk⟩
theorem seg_cells {b : Nat} {w : World} {gf cf : Nat} {x y z : Value} (h : w.ownsRow b 120 3 (.slice (some ⟨gf, 0, none⟩) 1 cf) 1 [x, y, z]) : w.cell? ⟨gf, 0, none⟩ = some x ∧ w.cell? ⟨gf, 1, none⟩ = some y ∧ w.cell? ⟨gf, 2, none⟩ = some z ∧ w.frozen? ⟨gf, 2, none⟩ = false := by
  rcases h.2 with ⟨e, _⟩ | ⟨g, cap, cur, e, q2, q3, q4, q5, q6, q7⟩
  · simp at e
  · simp at e
    obtain ⟨rfl, rfl⟩ := e
    have hc : ∀ i v, [x, y, z][i]? = some v → cur[i]? = some v := fun i v hv => by
      rw [← q7, List.getElem?_take] at hv
      split at hv
      · simpa using hv
      · cases hv
    exact ⟨blk_cell q3 0 (hc 0 _ rfl), blk_cell q3 1 (hc 1 _ rfl), blk_cell q3 2 (hc 2 _ rfl), free3 q3 2⟩
end Go.Proofs.YtgoafinbaiepmaaGreatDoor
