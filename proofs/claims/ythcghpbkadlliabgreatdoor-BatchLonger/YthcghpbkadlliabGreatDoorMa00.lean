/-
  Merged by merge.py: Math, Wn, Mem, Wr, Cp, Scan.
-/
import Derived.Laws.BitsAllLaws
import Derived.Test.YthcghpbkadlliabGreatDoorRows
import Derived.WalkKit
import Derived.ProofKit
import Derived.OpenShut
import Derived.Deep.AppendSrc
import Derived.WalkSmall
import Derived.Laws.CopyOwn
import Derived.BigQuiet
namespace Go.Proofs.YthcghpbkadlliabGreatDoor
open Go

/-- Zig and Zag, as the chapter says them. -/
def zigI (v : Int) : Int := if v < 0 then -2 * v - 1 else 2 * v
def zagI (v : Int) : Int := if v % 2 = 0 then v / 2 else -(v / 2) - 1

theorem zig_lo (v : Int) : 0 ≤ zigI v := by unfold zigI; split <;> omega
theorem zig_hi (v : Int) (h0 : -9223372036854775808 ≤ v) (h1 : v ≤ 9223372036854775807) : zigI v ≤ 18446744073709551615 := by unfold zigI; split <;> omega
theorem zag_lo (v : Int) (h0 : 0 ≤ v) (h1 : v ≤ 18446744073709551615) : -9223372036854775808 ≤ zagI v := by unfold zagI; split <;> omega
theorem zag_hi (v : Int) (h0 : 0 ≤ v) (h1 : v ≤ 18446744073709551615) : zagI v ≤ 9223372036854775807 := by unfold zagI; split <;> omega
theorem zag_zig (v : Int) : zagI (zigI v) = v := by unfold zagI zigI; split <;> split <;> omega
theorem zig_zag (v : Int) (h0 : 0 ≤ v) : zigI (zagI v) = v := by unfold zagI zigI; split <;> split <;> omega

theorem xor_u64_ones (a : Nat) (ha : a < 18446744073709551616) : bits .xor .u64 (a : Int) 18446744073709551615 = ((18446744073709551615 - a : Nat) : Int) := by
  rw [show (18446744073709551615 : Int) = ((18446744073709551615 : Nat) : Int) by rfl, u64_xor_nat a 18446744073709551615 ha (by omega)]
  congr 1
  have h := BitVec.toNat_xor (BitVec.ofNat 64 a) (BitVec.allOnes 64)
  rw [BitVec.xor_allOnes, BitVec.toNat_not, BitVec.toNat_allOnes, BitVec.toNat_ofNat, Nat.mod_eq_of_lt (by omega)] at h
  simpa using h.symm
theorem xor_u64_zero (a : Nat) (ha : a < 18446744073709551616) : bits .xor .u64 (a : Int) 0 = (a : Int) := by
  rw [show (0 : Int) = ((0 : Nat) : Int) by rfl, u64_xor_nat a 0 ha (by omega)]; simp
theorem zig_bits (v : Int) (h0 : -9223372036854775808 ≤ v) (h1 : v ≤ 9223372036854775807) :
    bits .xor .u64 (IntKind.u64.wrap (IntKind.u64.wrap v * 2)) (IntKind.u64.wrap (v / 9223372036854775808)) = zigI v := by
  simp only [IntKind.wrap_u64]
  unfold zigI
  split
  · have e1 : v / 9223372036854775808 % 18446744073709551616 = 18446744073709551615 := by omega
    have e2 : (v % 18446744073709551616 * 2 % 18446744073709551616) = (((v % 18446744073709551616 * 2 % 18446744073709551616).toNat : Nat) : Int) := by omega
    rw [e1, e2, xor_u64_ones _ (by omega)]
    omega
  · have e1 : v / 9223372036854775808 % 18446744073709551616 = 0 := by omega
    have e2 : (v % 18446744073709551616 * 2 % 18446744073709551616) = (((v % 18446744073709551616 * 2 % 18446744073709551616).toNat : Nat) : Int) := by omega
    rw [e1, e2, xor_u64_zero _ (by omega)]
    omega

theorem wrap_i64 (n : Int) : IntKind.i64.wrap n = (n + 9223372036854775808) % 18446744073709551616 - 9223372036854775808 := by
  have e : IntKind.i64.wrap n = if n % 18446744073709551616 ≥ 9223372036854775808 then n % 18446744073709551616 - 18446744073709551616 else n % 18446744073709551616 := by
    simp [IntKind.wrap, IntKind.bits, IntKind.signed]
  rw [e]; split <;> omega
theorem xor_i64_m1 (a : Nat) (ha : a < 9223372036854775808) : bits .xor .i64 (a : Int) (-1) = -(a : Int) - 1 := by
  have h1 : (BitVec.ofInt 64 (a : Int)).toNat = a := by
    rw [BitVec.ofInt_natCast, BitVec.toNat_ofNat]; exact Nat.mod_eq_of_lt (by omega)
  show IntKind.i64.wrap ((BitVec.ofInt 64 (a : Int) ^^^ BitVec.ofInt 64 (-1)).toNat : Int) = _
  rw [show (BitVec.ofInt 64 (-1)) = BitVec.allOnes 64 by decide, BitVec.xor_allOnes, BitVec.toNat_not, h1, wrap_i64]
  omega
theorem xor_i64_0 (a : Nat) (ha : a < 9223372036854775808) : bits .xor .i64 (a : Int) 0 = (a : Int) := by
  have h1 : (BitVec.ofInt 64 (a : Int)).toNat = a := by
    rw [BitVec.ofInt_natCast, BitVec.toNat_ofNat]; exact Nat.mod_eq_of_lt (by omega)
  show IntKind.i64.wrap ((BitVec.ofInt 64 (a : Int) ^^^ BitVec.ofInt 64 0).toNat : Int) = _
  rw [show (BitVec.ofInt 64 0) = 0#64 by decide, BitVec.xor_zero, h1, wrap_i64]
  omega
theorem and_u64_1 (v : Int) (h0 : 0 ≤ v) (h1 : v ≤ 18446744073709551615) : bits .and .u64 v 1 = v % 2 := by
  rw [u64_and v 1 h0 (by omega) (by omega) (by omega)]
  show ((v.toNat &&& 1 : Nat) : Int) = _
  rw [nat_mask1]; omega
theorem zag_bits (v : Int) (h0 : 0 ≤ v) (h1 : v ≤ 18446744073709551615) : bits .xor .i64 (v / 2) (-(v % 2)) = zagI v := by
  unfold zagI
  have e : v / 2 = ((v / 2).toNat : Nat) := by omega
  split
  · rename_i h
    rw [h, e]; exact xor_i64_0 _ (by omega)
  · have e1 : v % 2 = 1 := by omega
    rw [e1, e]; exact xor_i64_m1 _ (by omega)
theorem and_u64_127 (v : Int) (h0 : 0 ≤ v) (h1 : v ≤ 18446744073709551615) : bits .and .u64 v 127 = v % 128 := by
  rw [u64_and v 127 h0 (by omega) (by omega) (by omega)]
  show ((v.toNat &&& 127 : Nat) : Int) = _
  rw [nat_mask7]; omega
theorem or_u8_128 (v : Int) (h0 : 0 ≤ v) (h1 : v < 128) : bits .or .u8 v 128 = v + 128 := by
  rw [u8_or v 128 h0 (by omega) (by omega) (by omega)]
  have h : (128 : Nat) ||| v.toNat = 128 + v.toNat := nat_join 7 128 v.toNat (by decide) (by omega)
  show ((v.toNat ||| 128 : Nat) : Int) = _
  rw [Nat.or_comm, h]; omega

/-- A number's bytes. -/
def encN (v : Nat) : List Int := if v < 128 then [(v : Int)] else ((v % 128 + 128 : Nat) : Int) :: encN (v / 128)
theorem encN_lt {v : Nat} (h : v < 128) : encN v = [(v : Int)] := by rw [encN, if_pos h]
theorem encN_ge {v : Nat} (h : 128 ≤ v) : encN v = ((v % 128 + 128 : Nat) : Int) :: encN (v / 128) := by rw [encN, if_neg (by omega)]
theorem encN_pos (v : Nat) : 0 < (encN v).length := by
  by_cases h : v < 128
  · simp [encN_lt h]
  · simp [encN_ge (Nat.le_of_not_lt h)]
theorem encN_len (k : Nat) : ∀ v : Nat, v < 128 ^ k → 0 < k → (encN v).length ≤ k := by
  induction k with
  | zero => intro v h h0; omega
  | succ k ih =>
    intro v h _
    by_cases hv : v < 128
    · simp [encN_lt hv]
    · rw [encN_ge (by omega)]
      have h2 : v / 128 < 128 ^ k := by rw [Nat.pow_succ] at h; omega
      have hk : 0 < k := by
        rcases Nat.eq_zero_or_pos k with rfl | h3
        · simp at h2; omega
        · exact h3
      have := ih _ h2 hk
      simp; omega
theorem encN_len10 (v : Nat) (h : v < 18446744073709551616) : (encN v).length ≤ 10 := encN_len 10 v (by omega) (by omega)
theorem encN_byte (v : Nat) : ∀ x ∈ encN v, 0 ≤ x ∧ x < 256 := by
  induction v using Nat.strongRecOn with
  | _ v ih =>
    intro x hx
    by_cases h : v < 128
    · simp [encN_lt h] at hx; omega
    · rw [encN_ge (by omega)] at hx
      rcases List.mem_cons.1 hx with rfl | hx
      · omega
      · exact ih _ (by omega) x hx
end Go.Proofs.YthcghpbkadlliabGreatDoor

namespace Go.Proofs.YthcghpbkadlliabGreatDoor
open Go.RowKit
set_option maxRecDepth 100000
theorem ret_int {k : IntKind} {a b : Int} (h : a = b) : Ending.returned (.int k a) = .returned (.int k b) := by rw [h]
theorem zig_any (v : Int) (h0 : -9223372036854775808 ≤ v) (h1 : v ≤ 9223372036854775807) (w : World) :
    Calls Tryz.prog 83 #[.int .i64 v] w fun e w' => e = .returned (.int .u64 (zigI v)) ∧ w' = w := by
  go_enter Tryz.func83, Tryz.ntmps83
  go_wp2
  go_ret
  exact ⟨ret_int (zig_bits v h0 h1), rfl⟩
theorem zag_any (v : Int) (h0 : 0 ≤ v) (h1 : v ≤ 18446744073709551615) (w : World) :
    Calls Tryz.prog 110 #[.int .u64 v] w fun e w' => e = .returned (.int .i64 (zagI v)) ∧ w' = w := by
  have e := and_u64_1 v h0 h1
  go_enter Tryz.func110, Tryz.ntmps110
  go_wp2
  go_ret
  exact ⟨ret_int (zag_bits v h0 h1), rfl⟩
end Go.Proofs.YthcghpbkadlliabGreatDoor

namespace Go.Proofs.YthcghpbkadlliabGreatDoor
open Go Go.RowKit

/-- w' is w with new blocks, and with other contents at most in blocks of S. -/
structure Upd (S : Nat → Prop) (w w' : World) : Prop where
  os : w'.os = w.os
  tape : w'.tape = w.tape
  output : w'.output = w.output
  size : w.heap.size ≤ w'.heap.size
  block : ∀ k, k < w.heap.size → ¬ S k → w'.heap[k]? = w.heap[k]?

theorem Upd.refl (S : Nat → Prop) (w : World) : Upd S w w := ⟨rfl, rfl, rfl, Nat.le_refl _, fun _ _ _ => rfl⟩
theorem Upd.trans {S S' : Nat → Prop} {a b c : World} (h : Upd S a b) (k : Upd S' b c) (hS : ∀ i, i < a.heap.size → S' i → S i) : Upd S a c :=
  ⟨k.os.trans h.os, k.tape.trans h.tape, k.output.trans h.output, Nat.le_trans h.size k.size, fun i hi hn =>
    (k.block i (Nat.lt_of_lt_of_le hi h.size) (fun hs => hn (hS i hi hs))).trans (h.block i hi hn)⟩
theorem Upd.mono {S S' : Nat → Prop} {a b : World} (h : Upd S a b) (hS : ∀ i, i < a.heap.size → S i → S' i) : Upd S' a b :=
  (Upd.refl S' a).trans h hS
theorem Upd.alloc {S : Nat → Prop} {a b : World} (h : Upd S a b) (o : Obj) : Upd S a (b.alloc o) :=
  h.trans (S' := fun _ => False) ⟨rfl, rfl, rfl, by simp, fun k hk _ => Below.heap_alloc b o k hk⟩ (fun _ _ h => h.elim)
theorem Upd.drew {S : Nat → Prop} {a b : World} (h : Upd S a b) : Upd S a b.drew :=
  ⟨h.os, h.tape, h.output, h.size, h.block⟩
theorem Upd.drewN {S : Nat → Prop} {a b : World} (h : Upd S a b) (n : Nat) : Upd S a (b.drewN n) :=
  ⟨h.os, h.tape, h.output, h.size, h.block⟩
theorem Upd.grown {S : Nat → Prop} {a b c : World} {row : Option Nat} (h : Upd S a b) (hg : b.grownBy c row) (hr : ∀ k, k < a.heap.size → row = some k → S k) : Upd S a c :=
  h.trans (S' := fun k => some k = row) ⟨hg.os, hg.tape, hg.output, hg.size, fun k hk hn => hg.block k hk hn⟩ (fun k hk e => hr k hk e.symm)
theorem Upd.setCell {S : Nat → Prop} {a b : World} (h : Upd S a b) {p : Addr} (hp : p.block < a.heap.size → S p.block) (u : Value) : Upd S a (b.setCell p u) :=
  h.trans (S' := fun k => k = p.block) ⟨rfl, rfl, rfl, by show b.heap.size ≤ (b.heap.modify _ _).size; simp, fun k _ hn => Below.heap_setCell b p u k hn⟩ (fun k hk e => by subst e; exact hp hk)
theorem Upd.below {S : Nat → Prop} {a b : World} (h : Upd S a b) {B : Nat} (hB : B ≤ a.heap.size) (hS : ∀ k, k < B → ¬ S k) : Below B a b :=
  ⟨h.os, h.tape, h.output, h.size, fun k hk => h.block k (by omega) (hS k hk)⟩
theorem Upd.ofBelow {S : Nat → Prop} {a b : World} {B : Nat} (h : Below B a b) (hS : ∀ k, k < a.heap.size → B ≤ k → S k) : Upd S a b :=
  ⟨h.os, h.tape, h.output, h.size, fun k hk hn => h.block k (by by_cases hb : k < B; exact hb; exact absurd (hS k hk (by omega)) hn)⟩

/-- Where a row lies behind a step: where it lay, or in a new block. -/
def Moved (w : World) (v v' : Value) : Prop := v'.ownBlock = v.ownBlock ∨ ∃ k, v'.ownBlock = some k ∧ w.heap.size ≤ k
theorem Moved.refl (w : World) (v : Value) : Moved w v v := Or.inl rfl
theorem Moved.trans {w w1 : World} {a b c : Value} (h : Moved w a b) (hs : w.heap.size ≤ w1.heap.size) (k : Moved w1 b c) : Moved w a c := by
  rcases k with k | ⟨j, hj, hw⟩
  · rcases h with h | ⟨i, hi, hv⟩
    · exact Or.inl (k.trans h)
    · exact Or.inr ⟨i, k.trans hi, hv⟩
  · exact Or.inr ⟨j, hj, by omega⟩

theorem ownsRow_upd {S : Nat → Prop} {w w' : World} {base : Nat} {e : TypeId} {size : Nat} {v : Value} {n : Nat} {xs : List Value} (h : w.ownsRow base e size v n xs) (hu : Upd S w w') (hS : ∀ k, v.ownBlock = some k → ¬ S k) : w'.ownsRow base e size v n xs := by
  obtain ⟨h1, h2⟩ := h
  refine ⟨h1, ?_⟩
  rcases h2 with h2 | ⟨g, cap, cur, rfl, hg, hh, r⟩
  · exact Or.inl h2
  · exact Or.inr ⟨g, cap, cur, rfl, hg, (hu.block g (lt_of_block hh) (hS g rfl)).trans hh, r⟩

theorem run_app {P : Program} (w : World) (base : Nat) (t tx ty e : TypeId) (i : TypeInfo) (z : Value) (ht : P.underlying t = some (.slice e)) (hi : P.info? e = some i) (hz : i.zero = some z) (hsize : i.size = 1) (hzs : z.cells.size = 1)
    (v : Value) (n : Nat) (xs : List Value) (hown : w.ownsRow base e 1 v n xs) (x : Value) (m : Nat) (news : List Value) (hs : Src P 1 tx x m news w)
    (h63 : n + m ≤ maxLen) (hbytes : (n + m) * i.bytes ≤ 140737488355328) (hbase : base ≤ w.heap.size) :
    ∃ v' w', (Builtin.append_ #[t, tx] ty #[v, x]).run P w = .ok v' w' ∧ w'.ownsRow base e 1 v' (n + m) (xs ++ news) ∧ w.grownBy w' v.ownBlock ∧ Moved w v v' := by
  have hs' : Src P i.size tx x m news w := by rw [hsize]; exact hs
  have hnl : news.length = m := by have := hs.newsLen; omega
  have hxl : xs.length = n := by have := hown.1; omega
  have hsmall : n + m ≤ 9223372036854775807 := by simp only [maxLen] at h63; omega
  have grow : ∀ (ad : Option Addr) (cap : Nat), v = .slice ad n cap → cap < n + m → (Builtin.firstCells i.size n v).run P w.drew = .ok xs.toArray w.drew →
      ∃ v' w', (Builtin.append_ #[t, tx] ty #[v, x]).run P w = .ok v' w' ∧ w'.ownsRow base e 1 v' (n + m) (xs ++ news) ∧ w.grownBy w' v.ownBlock ∧ Moved w v v' := by
    intro ad cap hv hc hold
    subst hv
    have hr := run_append_grow_src (P := P) w t tx ty e i z ht hi hz ad n cap xs hold x m news hs' hc (by omega) (growslice_fits (by omega) hbytes)
    refine ⟨_, _, hr, ⟨by simp; omega, Or.inr ⟨w.heap.size, _, _, rfl, hbase, heap_alloc_new w.drew _, grownCap_ge w (n + m) cap e, grownCap_le_maxLen w (n + m) cap e h63, ?_, ?_⟩⟩, ⟨rfl, rfl, rfl, by simp, fun k hk _ => Below.heap_alloc w.drew _ k hk⟩, Or.inr ⟨w.heap.size, rfl, Nat.le_refl _⟩⟩
    · have hge := grownCap_ge w (n + m) cap e
      simp only [Array.size_append, List.size_toArray, size_zeroCells, hzs, List.length_append]
      omega
    · simp only [Array.toList_append]
      rw [show (n + m) * 1 = (xs ++ news).length by simp; omega]
      exact List.take_left
  rcases hown.2 with ⟨rfl, rfl⟩ | ⟨g, cap, cur, rfl, hbg, hg, hnc, hcm, hcs, htake⟩
  · have hx : xs = [] := List.eq_nil_of_length_eq_zero hxl
    subst hx
    by_cases hm : m = 0
    · subst hm
      have hn : news = [] := List.eq_nil_of_length_eq_zero hnl
      subst hn
      refine ⟨.slice none 0 0, w, ?_, World.ownsRow_nil w base e 1, ⟨rfl, rfl, rfl, Nat.le_refl _, fun _ _ _ => rfl⟩, Moved.refl _ _⟩
      have hc := hs'.cells
      rcases hs.kind with ⟨e', hk⟩ | hk <;> simp [Builtin.append_, run_underlying ht, run_underlying hk, sizeOf, typeInfo, hi, hs.len, hc]
    · exact grow none 0 rfl (by omega) (run_firstCells_none w.drew i.size 0 0 0)
  · by_cases hroom : n + m ≤ cap
    · have hfit : n * i.size + news.length ≤ cur.size := by rw [hsize]; omega
      have hst := run_storeCells_at P g (n * i.size) e news 0 cur w hg (by simpa using hfit) hs.one
      simp only [Nat.add_zero] at hst
      have hr : (Builtin.append_ #[t, tx] ty #[.slice (some ⟨g, 0, none⟩) n cap, x]).run P w = .ok (.slice (some ⟨g, 0, none⟩) (n + m) cap) (w.setRow g (cur.toList.take (n * i.size) ++ news ++ cur.toList.drop (n * i.size + news.length)).toArray) := by
        rcases hs.kind with ⟨e', hk⟩ | hk <;> simp [Builtin.append_, run_underlying ht, run_underlying hk, sizeOf, typeInfo, hi, hs.len, hroom, hs'.cells, Addr.add_lit, hst]
      refine ⟨_, _, hr, ⟨by simp; omega, Or.inr ⟨g, cap, _, rfl, hbg, setRow_heap w g cur _ e _ hg, hroom, hcm, ?_, ?_⟩⟩, ⟨rfl, rfl, rfl, by simp, fun k _ hk => setRow_other w g k _ (fun e => hk (by simp [Value.ownBlock, e]))⟩, Or.inl rfl⟩
      · simp only [List.size_toArray, List.length_append, List.length_take, List.length_drop, Array.length_toList]
        omega
      · rw [hsize, htake, show (n + m) * 1 = (xs ++ news).length by simp; omega]
        exact List.take_left
    · have holds : ∀ j u, xs[j]? = some u → w.drew.cell? ((⟨g, 0, none⟩ : Addr).add j) = some u := by simpa using hown.cells (g := g) rfl
      exact grow (some ⟨g, 0, none⟩) cap rfl (by omega) (run_firstCells_some w.drew i.size n ⟨g, 0, none⟩ n cap xs (by rw [hsize]; omega) holds)

/-- An append to an owned row, in a walk. -/
theorem wpList_app {P : Program} (w : World) {ops : Array Oper} {rest : List Oper} {o : Oper} {a : Act} {Q : Exit → Act → World → Prop} (hgd : o.guard = none) (s x : Operand) (t tx : TypeId)
    (ho : o.op = .call { callee := .builtin .append, args := #[s, x], argTypes := #[t, tx] })
    (base : Nat) (e : TypeId) (i : TypeInfo) (z : Value) (bytes : Nat) (ht : P.underlying t = some (.slice e)) (hi : P.info? e = some i) (hz : i.zero = some z) (hsize : i.size = 1) (hby : i.bytes = bytes) (hzs : z.cells.size = 1)
    (v : Value) (n : Nat) (xs : List Value) (hv : a.eval s = v) (hown : w.ownsRow base e 1 v n xs) (y : Value) (m : Nat) (news : List Value) (hx : a.eval x = y) (hs : Src P 1 tx y m news w)
    (h63 : n + m ≤ maxLen) (hbytes : (n + m) * bytes ≤ 140737488355328) (hbase : base ≤ w.heap.size)
    (h : ∀ v' w', w'.ownsRow base e 1 v' (n + m) (xs ++ news) → w.grownBy w' v.ownBlock → Moved w v v' → wpList P ops Q rest (a.put o.dst v') w') : wpList P ops Q (o :: rest) a w := by
  subst hby
  refine wpList_plain hgd fun K hK => ?_
  obtain ⟨v', w', hr, h2, h3, h4⟩ := run_app (P := P) w base t tx o.type e i z ht hi hz hsize hzs v n xs hown y m news hs h63 hbytes hbase
  unfold Oper.wp execOp
  simp only [ho, resolve, invoke, builtin, Sem.run_bind, Sem.run_pure, Result.andThen_ok, List.map_toArray, List.map_cons, List.map_nil, hv, hx, hr]
  exact hK _ _ (h v' w' h2 h3 h4)
end Go.Proofs.YthcghpbkadlliabGreatDoor

namespace Go.Proofs.YthcghpbkadlliabGreatDoor
open Go.RowKit
set_option maxRecDepth 100000
theorem Tryz.info5 : (Tryz.prog.info? 5).map (fun i => (i.zero, i.size, i.bytes)) = some (some (.int .u8 0), 1, 1) := by kernel_rfl

/-- A block with a Writer: its one field is v; v owns the bytes L. -/
structure IsW (base : Nat) (w : World) (B : Nat) (v : Value) (L : List Int) : Prop where
  block : w.heap[B]? = some (.cells #[v] 108 (0, 0))
  own : w.ownsRow base 5 1 v L.length (L.map (Value.int .u8))

theorem IsW.apart {base B : Nat} {w : World} {v : Value} {L : List Int} (h : IsW base w B v L) : v.ownBlock ≠ some B := by
  intro e
  rcases h.own.2 with ⟨rfl, _⟩ | ⟨g, cap, cur, rfl, _, hg, _⟩
  · simp [Value.ownBlock] at e
  · simp [Value.ownBlock] at e
    subst e
    rw [h.block] at hg
    simp at hg
theorem IsW.upd {base B : Nat} {w w' : World} {v : Value} {L : List Int} {S : Nat → Prop} (h : IsW base w B v L) (hu : Upd S w w') (hB : ¬ S B) (hv : ∀ k, v.ownBlock = some k → ¬ S k) : IsW base w' B v L :=
  ⟨(hu.block B (lt_of_block h.block) hB).trans h.block, ownsRow_upd h.own hu hv⟩

theorem newWriter_any (base : Nat) (w : World) :
    Calls Tryz.prog 20 #[] w fun e w' => e = .returned (.pointer (some ⟨w.heap.size, 0, none⟩)) ∧ IsW base w' w.heap.size (.slice none 0 0) [] ∧ w' = w.alloc (.cells #[.slice none 0 0] 108) := by
  go_enter Tryz.func20, Tryz.ntmps20
  go_wp2
  go_ret
  exact ⟨rfl, ⟨heap_alloc_new w _, World.ownsRow_nil _ _ _ _⟩, rfl⟩

theorem row_shape {base : Nat} {w : World} {e : TypeId} {size n : Nat} {v : Value} {xs : List Value} (h : w.ownsRow base e size v n xs) : ∃ ao l c, v = .slice ao l c := by
  rcases h.2 with ⟨rfl, _⟩ | ⟨g, cap, cur, rfl, _⟩
  · exact ⟨_, _, _, rfl⟩
  · exact ⟨_, _, _, rfl⟩

/-- What one append to the field does. -/
theorem put_step {base B : Nat} {w w1 w2 : World} {v v' : Value} {L : List Int} {K : List Int} {o : Option Obj} (h : IsW base w B v L)
    (h1 : w1 = match o with | some o => w.alloc o | none => w) (ho : w2.ownsRow base 5 1 v' (L.length + K.length) (L.map (Value.int .u8) ++ K.map (Value.int .u8))) (hg : w1.grownBy w2 v.ownBlock) (hm : Moved w1 v v') :
    IsW base (w2.setCell ⟨B, 0, none⟩ v') B v' (L ++ K) ∧ Upd (fun k => k = B ∨ v.ownBlock = some k) w (w2.setCell ⟨B, 0, none⟩ v') ∧ Moved w v v' ∧ w2.heap[B]? = some (.cells #[v] 108 (0, 0)) := by
  have u1 : Upd (fun k => k = B ∨ v.ownBlock = some k) w w1 := by
    subst h1; cases o with
    | some o => exact (Upd.refl _ _).alloc o
    | none => exact Upd.refl _ _
  have hs1 : w.heap.size ≤ w1.heap.size := u1.size
  have hB := lt_of_block h.block
  have hb1 : w1.heap[B]? = some (.cells #[v] 108 (0, 0)) := by
    subst h1; cases o with
    | some o => exact (Below.heap_alloc w o B hB).trans h.block
    | none => exact h.block
  have hb2 : w2.heap[B]? = some (.cells #[v] 108 (0, 0)) := (hg.block B (by omega) (fun e => h.apart e.symm)).trans hb1
  have hm' : Moved w v v' := (Moved.refl w v).trans hs1 hm
  have hne : v'.ownBlock ≠ some B := by
    rcases hm' with e | ⟨k, e, hk⟩
    · rw [e]; exact h.apart
    · rw [e]; intro e'; simp at e'; omega
  refine ⟨⟨one_setCell hb2, ?_⟩, ?_, hm', hb2⟩
  · have := ownsRow_setCell_other (a := ⟨B, 0, none⟩) ho hne v'
    simpa using this
  · exact (u1.grown hg (fun k _ e => Or.inr e)).setCell (fun _ => Or.inl rfl) _

/-- A string's bytes, as numbers. -/
def bytesI (s : ByteArray) : List Int := s.data.toList.map fun b => (b.toNat : Int)
theorem bytesI_length (s : ByteArray) : (bytesI s).length = s.size := by unfold bytesI; rw [List.length_map, Array.length_toList]; rfl
theorem bytesI_cells (s : ByteArray) : (bytesI s).map (Value.int .u8) = byteCells s := by unfold bytesI byteCells; rw [List.map_map]; rfl

theorem moved_S {w : World} {v vr : Value} {B k : Nat} (hM : Moved w v vr) (hS : k = B ∨ vr.ownBlock = some k) (hk : k < w.heap.size) : k = B ∨ v.ownBlock = some k := by
  rcases hS with h | h
  · exact Or.inl h
  · rcases hM with e | ⟨j, e, hj⟩
    · exact Or.inr (e ▸ h)
    · rw [h] at e; simp at e; omega

theorem uint_any (base B : Nat) (v : Value) (L : List Int) (u : Nat) (hu : u < 18446744073709551616) (w : World) (h : IsW base w B v L) (hb : base ≤ w.heap.size) (hlen : L.length + (encN u).length ≤ 140737488355328) :
    Calls Tryz.prog 48 #[.pointer (some ⟨B, 0, none⟩), .int .u64 u] w fun e w' => e = .returned (.tuple #[]) ∧ ∃ v', IsW base w' B v' (L ++ encN u) ∧ Upd (fun k => k = B ∨ v.ownBlock = some k) w w' ∧ Moved w v v' := by
  obtain ⟨i0, hi, hz0, hz1, hz2⟩ := info_parts Tryz.info5
  go_enter Tryz.func48, Tryz.ntmps48
  go_wp2
  go_loopw [1] (fun t wr => ∃ (n : Nat) (K : List Int) (vr : Value), t = .int .u64 n ∧ n < 18446744073709551616 ∧ K ++ encN n = encN u ∧ IsW base wr B vr (L ++ K) ∧ Upd (fun k => k = B ∨ v.ownBlock = some k) w wr ∧ Moved w v vr) (fun t _ => (intOf t).toNat)
  case atStart => exact ⟨u, [], v, rfl, hu, rfl, by simpa using h, Upd.refl _ _, Moved.refl _ _⟩
  case round =>
    obtain ⟨n, K, vr, rfl, hn, hK, hW, hU, hM⟩ := hrel
    have hcell := cell_of_one hW.block
    have hfree := free_of_one hW.block
    have hsz := hU.size
    have hlK : K.length + (encN n).length = (encN u).length := by rw [← hK]; simp
    have hl1 := encN_pos n
    by_cases hlt : 127 < n
    · have e1 := and_u64_127 (n : Int) (by omega) (by omega)
      have e2 := or_u8_128 ((n : Int) % 128) (by omega) (by omega)
      go_wp2_with (at_builtin; refine wpList_app _ rfl (.tmp 10) (.tmp 15) 24 24 rfl base 5 i0 (.int .u8 0) 1 Tryz.underlying24 hi hz0 hz1 hz2 rfl _ _ _ rfl (hW.own.alloc _) _ 1 [.int .u8 ((n : Int) % 128 + 128)] rfl (Src.ofSlice _ Tryz.underlying24 ⟨wr.heap.size, 0, none⟩ 1 1 _ rfl ?c1 ?c2) ?c3 ?c4 ?c5 ?_)
      case c1 =>
        intro j u hj
        match j, hj with
        | 0, hj => simp at hj; subst hj; simp [Addr.add]
      case c2 => intro u hu; simp at hu; subst hu; rfl
      case c3 => unfold maxLen; simp; omega
      case c4 => simp; omega
      case c5 => simp; omega
      intro v' w2 ho hg hm
      obtain ⟨ao, l, c, rfl⟩ := row_shape ho
      obtain ⟨R1, R2, R3, R4⟩ := put_step (o := some _) (K := [(n : Int) % 128 + 128]) hW rfl (by simpa using ho) hg hm
      have hcell2 := cell_of_one R4
      have hfree2 := free_of_one R4
      clear ho hg hm hcell hfree R4 e1 e2
      go_wp2
      go_roundw
      case rel => exact ⟨n / 128, K ++ [(n : Int) % 128 + 128], _, by go_num, by omega, by rw [← hK, encN_ge (v := n) (by omega)]; simp, by simpa using R1, hU.trans R2 (fun k hk hS => moved_S hM hS hk), hM.trans hsz R3⟩
      case measure => simp [intOf]; omega
    · go_wp2_with (at_builtin; refine wpList_app _ rfl (.tmp 25) (.tmp 28) 24 24 rfl base 5 i0 (.int .u8 0) 1 Tryz.underlying24 hi hz0 hz1 hz2 rfl _ _ _ rfl (hW.own.alloc _) _ 1 [.int .u8 (n : Int)] rfl (Src.ofSlice _ Tryz.underlying24 ⟨wr.heap.size, 0, none⟩ 1 1 _ rfl ?d1 ?d2) ?d3 ?d4 ?d5 ?_)
      case d1 =>
        intro j u hj
        match j, hj with
        | 0, hj => simp at hj; subst hj; simp [Addr.add]
      case d2 => intro u hu; simp at hu; subst hu; rfl
      case d3 => unfold maxLen; simp; omega
      case d4 => simp; omega
      case d5 => simp; omega
      intro v' w2 ho hg hm
      obtain ⟨ao, l, c, rfl⟩ := row_shape ho
      obtain ⟨R1, R2, R3, R4⟩ := put_step (o := some _) (K := [(n : Int)]) hW rfl (by simpa using ho) hg hm
      have hcell2 := cell_of_one R4
      have hfree2 := free_of_one R4
      clear ho hg hm hcell hfree R4
      go_wp2
      go_end0
      exact ⟨rfl, _, by rw [← hK, encN_lt (by omega)]; simpa using R1, hU.trans R2 (fun k hk hS => moved_S hM hS hk), hM.trans hsz R3⟩

theorem int_any (base B : Nat) (v : Value) (L : List Int) (x : Int) (h0 : -9223372036854775808 ≤ x) (h1 : x ≤ 9223372036854775807) (w : World) (h : IsW base w B v L) (hb : base ≤ w.heap.size) (hlen : L.length + (encN (zigI x).toNat).length ≤ 140737488355328) :
    Calls Tryz.prog 53 #[.pointer (some ⟨B, 0, none⟩), .int .i64 x] w fun e w' => e = .returned (.tuple #[]) ∧ ∃ v', IsW base w' B v' (L ++ encN (zigI x).toNat) ∧ Upd (fun k => k = B ∨ v.ownBlock = some k) w w' ∧ Moved w v v' := by
  have hz0 := zig_lo x
  have hz1 := zig_hi x h0 h1
  obtain ⟨u, hu⟩ : ∃ u : Nat, zigI x = (u : Int) := ⟨(zigI x).toNat, by omega⟩
  have hu' : (zigI x).toNat = u := by omega
  rw [hu'] at hlen ⊢
  have HU : Hid ((u : Int) = zigI x) := hu.symm
  have Z := zig_any x h0 h1
  rw [hu] at Z
  have hu2 : u < 18446744073709551616 := by omega
  clear hu hu' hz0 hz1
  go_enter Tryz.func53, Tryz.ntmps53
  go_wp2_with (first | (go_at_call 83; refine (Z _).mono ?_; rintro e w' ⟨rfl, rfl⟩) | (go_at_call 48; refine (uint_any base B v L u hu2 _ h hb hlen).mono ?_; rintro e w' ⟨rfl, hpost⟩))
  go_end0
  exact ⟨rfl, hpost⟩

theorem text_any (base B : Nat) (v : Value) (L : List Int) (s : ByteArray) (hs : s.size ≤ maxLen) (w : World) (h : IsW base w B v L) (hb : base ≤ w.heap.size) (hlen : L.length + (encN s.size).length + s.size ≤ 140737488355328) :
    Calls Tryz.prog 57 #[.pointer (some ⟨B, 0, none⟩), .string s] w fun e w' => e = .returned (.tuple #[]) ∧ ∃ v', IsW base w' B v' (L ++ encN s.size ++ bytesI s) ∧ Upd (fun k => k = B ∨ v.ownBlock = some k) w w' ∧ Moved w v v' := by
  obtain ⟨i0, hi, hz0, hz1, hz2⟩ := info_parts Tryz.info5
  unfold maxLen at hs
  go_enter Tryz.func57, Tryz.ntmps57
  go_wp2_with (first
    | (go_at_call 48; refine (uint_any base B v L s.size (by omega) _ h hb (by omega)).mono ?_; rintro e wr ⟨rfl, vr, hW, hU, hM⟩; have hcell := cell_of_one hW.block; have hfree := free_of_one hW.block; have hsz := hU.size)
    | (at_builtin; refine wpList_app _ rfl (.tmp 13) (.tmp 14) 24 9 rfl base 5 i0 (.int .u8 0) 1 Tryz.underlying24 hi hz0 hz1 hz2 rfl _ _ _ rfl hW.own _ s.size (byteCells s) rfl (Src.ofString _ Tryz.underlying9 s) ?c3 ?c4 ?c5 ?_))
  case c3 => unfold maxLen; simp; omega
  case c4 => simp; omega
  case c5 => omega
  intro v' w2 ho hg hm
  obtain ⟨ao, l, c, rfl⟩ := row_shape ho
  obtain ⟨R1, R2, R3, R4⟩ := put_step (o := none) (K := bytesI s) hW rfl (by rw [bytesI_cells, bytesI_length]; simpa using ho) hg hm
  have hcell2 := cell_of_one R4
  have hfree2 := free_of_one R4
  clear ho hg hm hcell hfree R4
  go_wp2
  go_end0
  exact ⟨rfl, _, R1, hU.trans R2 (fun k hk hS => moved_S hM hS hk), hM.trans hsz R3⟩
end Go.Proofs.YthcghpbkadlliabGreatDoor

namespace Go.Proofs.YthcghpbkadlliabGreatDoor
open Go.RowKit
set_option maxRecDepth 100000

/-- The cells of a slice value hold these bytes. -/
structure Holds (w : World) (ad : Option Addr) (n : Nat) (K : List Int) : Prop where
  len : K.length = n
  cells : ∀ j u, (K.map (Value.int .u8))[j]? = some u → ∃ a, ad = some a ∧ w.cell? (a.add j) = some u

theorem Holds.ofRow {base : Nat} {w : World} {ad : Option Addr} {n cap : Nat} {K : List Int} (h : w.ownsRow base 5 1 (.slice ad n cap) K.length (K.map (Value.int .u8))) : Holds w ad n K := by
  rcases h.2 with ⟨e, hn⟩ | ⟨g, cap', cur, e, _⟩
  · simp at e
    obtain ⟨rfl, rfl, rfl⟩ := e
    have : K = [] := List.eq_nil_of_length_eq_zero hn
    subst this
    exact ⟨rfl, fun j u hj => by simp at hj⟩
  · simp at e
    obtain ⟨rfl, rfl, rfl⟩ := e
    exact ⟨rfl, fun j u hj => ⟨_, rfl, h.cells (g := g) rfl j u hj⟩⟩

theorem u8_one (K : List Int) : ∀ u ∈ K.map (Value.int .u8), u.oneCell' = true := ints_oneCell _ _

theorem copy_src {w : World} {ad : Option Addr} {cs : List Value} (h : ∀ j u, cs[j]? = some u → ∃ a, ad = some a ∧ w.cell? (a.add j) = some u) (hp : 0 < cs.length) : ∃ a, ad = some a ∧ ∀ j u, cs[j]? = some u → w.cell? (a.add j) = some u := by
  obtain ⟨a, ha, _⟩ := h 0 cs[0] (by simp [hp])
  refine ⟨a, ha, fun j u hj => ?_⟩
  obtain ⟨a', ha', hc⟩ := h j u hj
  rw [ha] at ha'
  simp at ha'
  subst ha'
  exact hc

theorem copied_any (ad : Option Addr) (n cap : Nat) (K : List Int) (w : World) (h : Holds w ad n K) (hn : n ≤ 140737488355328) :
    Calls Tryz.prog 59 #[.slice ad n cap] w fun e w' => e = .returned (.slice (some ⟨w.heap.size, 0, none⟩) n n) ∧ w'.heap[w.heap.size]? = some (.cells (K.map (Value.int .u8)).toArray 5 (0, 0)) ∧ Below w.heap.size w w' := by
  obtain ⟨i0, hi, hz0, hz1, hz2⟩ := info_parts Tryz.info5
  have hsz : (Tryz.prog.info? 5).map (·.size) = some 1 := by rw [hi]; simp [hz1]
  have hlen := h.len
  have hsrc := h.cells
  obtain ⟨cs, hcs⟩ : ∃ cs, cs = K.map (Value.int .u8) := ⟨_, rfl⟩
  have hcl : cs.length = n := by rw [hcs]; simpa using hlen
  have hone : ∀ u ∈ cs, u.oneCell' = true := by rw [hcs]; exact u8_one K
  rw [← hcs] at hsrc
  rw [← hcs]
  clear hcs h
  go_enter Tryz.func59, Tryz.ntmps59
  go_wp2_with (at_make; refine wpList_make_full _ rfl (.tmp 5) (.tmp 5) 24 rfl w.heap.size 5 i0 (.int .u8 0) 1 Tryz.underlying24 hi hz0 hz1 .i64 .i64 (n : Int) (n : Int) n rfl rfl rfl rfl (by rw [hz2]; omega) (by unfold maxLen; omega) (Nat.le_refl _) ?_)
  intro w1 hown hgrow
  obtain ⟨cur, hcur, hcz⟩ : ∃ cur : List Value, w1.heap[w.heap.size]? = some (.cells cur.toArray 5 (0, 0)) ∧ cur.length = n := by
    rcases hown.2 with ⟨e, _⟩ | ⟨g, cap', cur, e, _, hg, _, _, hs, _⟩
    · simp at e
    · simp at e
      obtain ⟨rfl, rfl⟩ := e
      exact ⟨cur.toList, by simpa using hg, by simpa using hs⟩
  have hb1 : Below w.heap.size w w1 := (Below.refl _ _).grown hgrow (Nat.le_refl _) (by intro k hk; cases hk)
  have hsrc1 : ∀ j u, cs[j]? = some u → ∃ a, ad = some a ∧ w1.cell? (a.add j) = some u := by
    intro j u hj
    obtain ⟨a, ha, hc⟩ := hsrc j u hj
    exact ⟨a, ha, hgrow.cell hc (by simp)⟩
  clear hown hgrow hsrc
  go_wp2_with (refine wpList_copy_splice rfl (.tmp 7) (.tmp 8) 24 24 rfl 5 Tryz.underlying24 hsz (some ⟨w.heap.size, 0, none⟩) ad n n n cap (by rfl) (by rfl) w.heap.size 0 cur 5 hcur cs (by rw [hcl]; exact (Nat.min_self n).symm) (fun hp => ⟨rfl, (copy_src hsrc1 hp)⟩) (by omega) hone w.heap.size w hb1 (Nat.le_refl _) ?_)
  intro w2 HG hb2
  go_wp2
  go_ret
  refine ⟨rfl, ?_, hb2⟩
  rw [HG.out]
  simp only [splice, List.take_zero, List.nil_append, Nat.zero_add]
  rw [List.drop_of_length_le (by omega), List.append_nil]

/-- A row of bytes, whole. -/
def RowAt (w : World) (g : Nat) (K : List Int) : Prop := w.heap[g]? = some (.cells (K.map (Value.int .u8)).toArray 5 (0, 0))
theorem RowAt.cell {w : World} {g : Nat} {K : List Int} (h : RowAt w g K) (j : Nat) (hj : j < K.length) : w.cell? ⟨g, j, none⟩ = some (.int .u8 (K.getD j 0)) := by
  unfold RowAt at h
  simp [World.cell?, h, List.getD, hj]
theorem RowAt.upd {w w' : World} {g : Nat} {K : List Int} {S : Nat → Prop} (h : RowAt w g K) (hu : Upd S w w') (hS : ¬ S g) : RowAt w' g K := (hu.block g (lt_of_block h) hS).trans h
theorem RowAt.own {w : World} {g : Nat} {K : List Int} (h : RowAt w g K) (base : Nat) (hb : base ≤ g) (hl : K.length ≤ maxLen) : w.ownsRow base 5 1 (.slice (some ⟨g, 0, none⟩) K.length K.length) K.length (K.map (Value.int .u8)) :=
  ⟨by simp, Or.inr ⟨g, K.length, _, rfl, hb, h, Nat.le_refl _, hl, by simp, by rw [Nat.mul_one, List.take_of_length_le (by simp)]⟩⟩
theorem RowAt.holds {w : World} {g : Nat} {K : List Int} (h : RowAt w g K) : Holds w (some ⟨g, 0, none⟩) K.length K := by
  refine ⟨rfl, fun j u hj => ⟨_, rfl, ?_⟩⟩
  unfold RowAt at h
  rw [Addr.add_lit]
  simp only [World.cell?, Nat.zero_add, h]
  simpa using hj

theorem bytes_any (base B : Nat) (v : Value) (L : List Int) (w : World) (h : IsW base w B v L) (hlen : L.length ≤ 140737488355328) :
    Calls Tryz.prog 58 #[.pointer (some ⟨B, 0, none⟩)] w fun e w' => e = .returned (.slice (some ⟨w.heap.size, 0, none⟩) L.length L.length) ∧ RowAt w' w.heap.size L ∧ Below w.heap.size w w' := by
  have hcell := cell_of_one h.block
  have hfree := free_of_one h.block
  obtain ⟨ao, l, c, rfl⟩ := row_shape h.own
  have hH := Holds.ofRow h.own
  have hl := hH.len
  subst hl
  go_enter Tryz.func58, Tryz.ntmps58
  go_wp2_with (go_at_call 59; refine (copied_any ao L.length c L _ hH hlen).mono ?_; rintro e w' ⟨rfl, hr, hb⟩)
  go_ret
  exact ⟨rfl, hr, hb⟩

/-- A block with a Reader: its bytes K lie in block g, t of them are taken. -/
structure IsR (w : World) (R g : Nat) (K : List Int) (t : Nat) : Prop where
  block : w.heap[R]? = some (.cells #[.slice (some ⟨g, 0, none⟩) K.length K.length, .int .i64 t] 130 (0, 0))
  row : RowAt w g K
  le : t ≤ K.length
  small : K.length ≤ 140737488355328
  byts : ∀ x ∈ K, 0 ≤ x ∧ x < 256
theorem IsR.apart {w : World} {R g : Nat} {K : List Int} {t : Nat} (h : IsR w R g K t) : g ≠ R := by
  intro e; subst e
  have h1 := h.block
  have h2 := h.row
  unfold RowAt at h2
  rw [h1] at h2
  simp at h2
theorem IsR.upd {w w' : World} {R g : Nat} {K : List Int} {t : Nat} {S : Nat → Prop} (h : IsR w R g K t) (hu : Upd S w w') (hR : ¬ S R) (hg : ¬ S g) : IsR w' R g K t :=
  ⟨(hu.block R (lt_of_block h.block) hR).trans h.block, h.row.upd hu hg, h.le, h.small, h.byts⟩

theorem newReader_any (ad : Option Addr) (n cap : Nat) (K : List Int) (w : World) (h : Holds w ad n K) (hn : n ≤ 140737488355328) (hK : ∀ x ∈ K, 0 ≤ x ∧ x < 256) :
    Calls Tryz.prog 26 #[.slice ad n cap] w fun e w' => ∃ R, e = .returned (.pointer (some ⟨R, 0, none⟩)) ∧ w.heap.size < R ∧ IsR w' R w.heap.size K 0 ∧ Below w.heap.size w w' := by
  have hl := h.len
  subst hl
  go_enter Tryz.func26, Tryz.ntmps26
  go_wp2_with (go_at_call 59; refine (copied_any ad K.length cap K _ h hn).mono ?_; rintro e w' ⟨rfl, hr, hb⟩)
  go_ret
  have hlt := lt_of_block hr
  refine ⟨w'.heap.size, rfl, hlt, ⟨?_, ?_, Nat.zero_le _, hn, hK⟩, hb.alloc (by omega) _⟩
  · exact heap_alloc_new w' _
  · exact (Below.heap_alloc w' _ _ hlt).trans hr
end Go.Proofs.YthcghpbkadlliabGreatDoor

namespace Go.Proofs.YthcghpbkadlliabGreatDoor
open Go

/-- What is read: a number and how many bytes it has; a form that may not be; no end. -/
abbrev NumRes := Option (Option (Nat × Nat))
abbrev NumRes.ok (v size : Nat) : NumRes := some (some (v, size))
abbrev NumRes.form : NumRes := some none
abbrev NumRes.ended : NumRes := none
theorem NumRes.each {motive : NumRes → Prop} (ok : ∀ v s, motive (.ok v s)) (form : motive .form) (ended : motive .ended) (r : NumRes) : motive r := by
  rcases r with _ | _ | ⟨v, s⟩
  · exact ended
  · exact form
  · exact ok v s

def badLast (size : Nat) (x : Int) : Bool := (decide (0 < size) && x == 0) || (size == 9 && decide (1 < x))
def scanN : List Int → Nat → Nat → NumRes
  | [], size, _ => if size = 10 then .form else .ended
  | x :: r, size, v => if size = 10 then .form else if x < 128 then (if badLast size x = true then .form else .ok (v + x.toNat * 128 ^ size) (size + 1)) else scanN r (size + 1) (v + (x.toNat - 128) * 128 ^ size)

theorem scanN_10 (l : List Int) (v : Nat) : scanN l 10 v = .form := by cases l <;> simp [scanN]
theorem scanN_nil (size v : Nat) (h : size ≠ 10) : scanN [] size v = .ended := by simp [scanN, h]
theorem scanN_last (x : Int) (r : List Int) (size v : Nat) (h : size ≠ 10) (hx : x < 128) : scanN (x :: r) size v = if badLast size x = true then .form else .ok (v + x.toNat * 128 ^ size) (size + 1) := by simp [scanN, h, hx]
theorem scanN_more (x : Int) (r : List Int) (size v : Nat) (h : size ≠ 10) (hx : ¬ x < 128) : scanN (x :: r) size v = scanN r (size + 1) (v + (x.toNat - 128) * 128 ^ size) := by simp [scanN, h, hx]

theorem and_u8_127 (x : Int) (h0 : 0 ≤ x) (h1 : x < 256) : bits .and .u8 x 127 = x % 128 := by
  rw [u8_and x 127 h0 h1 (by omega) (by omega)]
  show ((x.toNat &&& 127 : Nat) : Int) = _
  rw [nat_mask7]; omega
theorem or_u64_shl (V x s : Nat) (hV : V < 128 ^ s) (hx : V + x * 128 ^ s < 18446744073709551616) :
    bits .or .u64 (V : Int) ((x * 128 ^ s : Nat) : Int) = ((V + x * 128 ^ s : Nat) : Int) := by
  have hV' : V < 18446744073709551616 := by omega
  rw [u64_or_nat V (x * 128 ^ s) hV' (by omega)]
  congr 1
  have h : x * 128 ^ s ||| V = x * 128 ^ s + V := nat_join (7 * s) (x * 128 ^ s) V (by rw [Nat.pow_mul]; exact Nat.mul_mod_left _ _) (by rw [Nat.pow_mul]; exact hV)
  rw [Nat.or_comm, h, Nat.add_comm]
theorem pow128 (s : Nat) : (2 : Nat) ^ (7 * s) = 128 ^ s := by rw [Nat.pow_mul]
theorem pow128I (s : Nat) : (2 : Int) ^ (7 * s) = ((128 ^ s : Nat) : Int) := by rw [← pow128]; norm_cast
theorem pow_le9 (s : Nat) (h : s ≤ 9) : 128 ^ s ≤ 9223372036854775808 := by
  have : 128 ^ s ≤ 128 ^ 9 := Nat.pow_le_pow_right (by omega) h
  omega
theorem pow_le8 (s : Nat) (h : s ≤ 8) : 128 ^ s ≤ 72057594037927936 := by
  have : 128 ^ s ≤ 128 ^ 8 := Nat.pow_le_pow_right (by omega) h
  omega

structure NumRel (K : List Int) (t V s : Nat) : Prop where
  s10 : s ≤ 10
  sk : s ≤ K.length - t
  v64 : V < 18446744073709551616
  small : s ≤ 9 → V < 128 ^ s
  eq : s ≤ 9 → scanN (K.drop t) 0 0 = scanN (K.drop (t + s)) s V
  eq10 : s = 10 → scanN (K.drop t) 0 0 = .form

theorem NumRel.start (K : List Int) (t : Nat) : NumRel K t 0 0 := ⟨by omega, by omega, by omega, fun _ => by simp, fun _ => rfl, fun h => by omega⟩

theorem num_val (V s : Nat) (y : Int) (hy0 : 0 ≤ y) (hV : V < 128 ^ s) (hb : V + y.toNat * 128 ^ s < 18446744073709551616) :
    bits .or .u64 (V : Int) (IntKind.u64.wrap (y * 2 ^ (7 * s))) = ((V + y.toNat * 128 ^ s : Nat) : Int) := by
  have e : y * 2 ^ (7 * s) = ((y.toNat * 128 ^ s : Nat) : Int) := by
    rw [pow128I, Int.natCast_mul]
    congr 1
    omega
  rw [e, IntKind.wrap_u64]
  rw [show (((y.toNat * 128 ^ s : Nat) : Int) % 18446744073709551616) = ((y.toNat * 128 ^ s : Nat) : Int) by omega]
  exact or_u64_shl V y.toNat s hV hb

theorem num_step {K : List Int} {t V s : Nat} {x : Int} (hN : NumRel K t V s) (hs : s ≤ 9) (hd : K.drop (t + s) = x :: K.drop (t + s + 1)) (h0 : 128 ≤ x) (h1 : x < 256) (hsk : s < K.length - t) :
    ∃ V' : Nat, bits .or .u64 (V : Int) (IntKind.u64.wrap (x % 128 * 2 ^ (7 * s))) = (V' : Int) ∧ NumRel K t V' (s + 1) := by
  have hV := hN.small hs
  have eqs : scanN (K.drop t) 0 0 = scanN (K.drop (t + (s + 1))) (s + 1) (V + (x.toNat - 128) * 128 ^ s) := by
    rw [hN.eq hs, hd, scanN_more _ _ _ _ (by omega) (by omega)]; rfl
  by_cases h8 : s ≤ 8
  · have hp := pow_le8 s h8
    have hy : (x % 128).toNat = x.toNat - 128 := by omega
    have hm : (x.toNat - 128) * 128 ^ s ≤ 127 * 128 ^ s := Nat.mul_le_mul_right _ (by omega)
    have hlt : V + (x.toNat - 128) * 128 ^ s < 128 ^ (s + 1) := by rw [Nat.pow_succ]; omega
    have hp2 : 128 ^ (s + 1) ≤ 9223372036854775808 := pow_le9 (s + 1) (by omega)
    refine ⟨V + (x.toNat - 128) * 128 ^ s, ?_, ⟨by omega, by omega, by omega, fun _ => hlt, fun _ => eqs, fun h => by omega⟩⟩
    rw [num_val V s (x % 128) (by omega) hV (by rw [hy]; omega), hy]
  · have h9 : s = 9 := by omega
    have hw : 0 ≤ IntKind.u64.wrap (x % 128 * 2 ^ (7 * s)) ∧ IntKind.u64.wrap (x % 128 * 2 ^ (7 * s)) < 18446744073709551616 := by
      rw [IntKind.wrap_u64]; omega
    have hv64 := hN.v64
    rw [u64_or (V : Int) _ (by omega) (by omega) hw.1 hw.2]
    refine ⟨_, rfl, ⟨by omega, by omega, ?_, fun h => by omega, fun h => by omega, fun _ => ?_⟩⟩
    · have : (V : Int).toNat ||| (IntKind.u64.wrap (x % 128 * 2 ^ (7 * s))).toNat < 2 ^ 64 := Nat.or_lt_two_pow (by omega) (by omega)
      omega
    · rw [eqs]; subst h9; exact scanN_10 _ _

theorem num_last {K : List Int} {t V s : Nat} {x : Int} (hN : NumRel K t V s) (hs : s ≤ 9) (hd : K.drop (t + s) = x :: K.drop (t + s + 1)) (h0 : 0 ≤ x) (h1 : x < 128) (hb : ¬ badLast s x = true) :
    bits .or .u64 (V : Int) (IntKind.u64.wrap (x * 2 ^ (7 * s))) = ((V + x.toNat * 128 ^ s : Nat) : Int) ∧ scanN (K.drop t) 0 0 = .ok (V + x.toNat * 128 ^ s) (s + 1) := by
  have hV := hN.small hs
  refine ⟨num_val V s x h0 hV ?_, ?_⟩
  · by_cases h8 : s ≤ 8
    · have hp := pow_le8 s h8
      have hm : x.toNat * 128 ^ s ≤ 127 * 128 ^ s := Nat.mul_le_mul_right _ (by omega)
      omega
    · have h9 : s = 9 := by omega
      subst h9
      have hx1 : x ≤ 1 := by
        by_cases hx : x ≤ 1
        · exact hx
        · exact absurd (by simp [badLast]; omega) hb
      have hm : x.toNat * 128 ^ 9 ≤ 1 * 128 ^ 9 := Nat.mul_le_mul_right _ (by omega)
      omega
  · rw [hN.eq hs, hd, scanN_last _ _ _ _ (by omega) h1, if_neg hb]
theorem num_last' {K : List Int} {t V s : Nat} {x : Int} (hN : NumRel K t V s) (hs : s ≤ 9) (hd : K.drop (t + s) = x :: K.drop (t + s + 1)) (h0 : 0 ≤ x) (h1 : x < 128) (hb : ¬ badLast s x = true) (he : s = 0 ∨ s = 9) :
    bits .or .u64 (V : Int) (x * 2 ^ (7 * s)) = ((V + x.toNat * 128 ^ s : Nat) : Int) := by
  have h := (num_last hN hs hd h0 h1 hb).1
  have e : IntKind.u64.wrap (x * 2 ^ (7 * s)) = x * 2 ^ (7 * s) := by
    rw [IntKind.wrap_u64]
    rcases he with rfl | rfl
    · simp; omega
    · have hx1 : x ≤ 1 := by
        by_cases hx : x ≤ 1
        · exact hx
        · exact absurd (by simp [badLast]; omega) hb
      simp; omega
  rw [e] at h
  exact h
theorem num_bad {K : List Int} {t V s : Nat} {x : Int} (hN : NumRel K t V s) (hs : s ≤ 9) (hd : K.drop (t + s) = x :: K.drop (t + s + 1)) (h1 : x < 128) (hb : badLast s x = true) :
    scanN (K.drop t) 0 0 = .form := by
  rw [hN.eq hs, hd, scanN_last _ _ _ _ (by omega) h1, if_pos hb]
end Go.Proofs.YthcghpbkadlliabGreatDoor
