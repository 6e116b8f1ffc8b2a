/-
  Merged: SkH, SkI, SkJ, SkK, SkL, SkN, SkP, SkQ, SkR, SkS, SkT.
-/
import Derived.Test.YtbefeobikjnlpaaGreatDoorSkAq
import Derived.Deep.WholeRow
import Derived.Lib.Mul64
import Derived.Laws.Bits64b
import Derived.Deep.RegionHeld3
import Derived.Deep.RegionWith
import Derived.Test.YtbefeobikjnlpaaGreatDoorRows
import Derived.ProofKit
import Derived.OpenShut
import Derived.SizedLaws
import Derived.Deep.DeepHandedRow
import Derived.Deep.Slices
import Derived.Carry
import Derived.LaidLaws
namespace Go.Proofs.YtbefeobikjnlpaaGreatDoor.sk
open Go.RowKit
set_option maxRecDepth 100000

theorem Bin.bars {f : Nat → Nat} (hf : ∀ j, f j ≤ topC) : Bin (barsF f) := by
  intro b hb
  obtain ⟨i, h1, rfl, h2⟩ := barsN_mem hb
  have := hf i
  rw [topC_eq] at this
  simp only
  omega
theorem barsF_len (f : Nat → Nat) : (barsF f).length ≤ 1920 := barsN_le f 1920
theorem cntF_le {l : List (Int × Int)} (hi : Bin l) : ∀ j, cntF l j ≤ topC := by
  intro j
  induction l with
  | nil => exact Nat.zero_le _
  | cons b l ih =>
    rw [cntF_cons]
    split
    · have := hi b (List.mem_cons_self ..)
      rw [topC_eq]
      omega
    · exact ih fun y hy => hi y (List.mem_cons_of_mem _ hy)
/-- What a call that makes a sketch tells: the sketch of this function, as its own, or nothing and a number. -/
def MadeP (r : Option (Nat → Nat)) (err : Int) (w : World) (e : Ending) (w' : World) : Prop :=
  Below w.heap.size w w' ∧ match r with
    | some f => ∃ v, e = .returned (.tuple #[v, .int .i64 0]) ∧ OwnBar w.heap.size w' v (barsF f)
    | none => e = .returned (.tuple #[.slice none 0 0, .int .i64 err])
def mergeF (a b : List (Int × Int)) : Nat → Nat := fun i => min (cntF a i + cntF b i) topC
theorem puts_first {l : List (Int × Int)} (h : chkF (-1) l = true) (hi : Bin l) : putsF (fun _ => 0) l = cntF l := funext fun j => putsF_zero h (fun b hb => (hi b hb).2.2.2) j
theorem chk_in {l : List (Int × Int)} (h : chkF (-1) l = true) : ∀ b ∈ l, 0 ≤ b.1 ∧ b.1 < 1920 ∧ b.2 ≠ 0 := fun b hb => by
  have := (chkF_iff.mp h).1 b hb
  exact ⟨by omega, this.2.1, this.2.2⟩
theorem BarAt.ne {w : World} {ad : Option Addr} {n : Nat} {l : List (Int × Int)} (h : BarAt w ad n l) (hn : 0 < n) : ∀ a, ad = some a → a.block < w.heap.size := by
  obtain ⟨b, off, rfl, hc⟩ := h.lies hn
  rintro a ha
  injection ha with ha
  subst ha
  have := (hc 0 (by rw [h.len]; exact hn)).1
  exact World.block_lt_of_cell? w _ this
/-- Where a list lies that is read. -/
structure InAt (w : World) (ad : Option Addr) (n : Nat) (l : List (Int × Int)) : Prop where
  at_ : BarAt w ad n l
  lt : ∀ a, ad = some a → a.block < w.heap.size
  len : n ≤ maxLen
  bin : Bin l
theorem InAt.below {w w' : World} {ad : Option Addr} {n : Nat} {l : List (Int × Int)} (h : InAt w ad n l) (hb : Below w.heap.size w w') : InAt w' ad n l :=
  ⟨h.at_.below hb, fun a ha => Nat.lt_of_lt_of_le (h.lt a ha) hb.size, h.len, h.bin⟩
theorem InAt.upd {S : Nat → Prop} {w w' : World} {ad : Option Addr} {n : Nat} {l : List (Int × Int)} (h : InAt w ad n l) (hu : Upd S w w') (hS : ∀ a, ad = some a → ¬ S a.block) : InAt w' ad n l :=
  ⟨h.at_.upd hu hS, fun a ha => Nat.lt_of_lt_of_le (h.lt a ha) hu.size, h.len, h.bin⟩
theorem InAt.nil (w : World) : InAt w none 0 [] := ⟨BarAt.nil w none, (fun a h => by cases h), Nat.zero_le _, (fun b hb => by cases hb)⟩
theorem InAt.own {base : Nat} {w : World} {v : Value} {f : Nat → Nat} (h : OwnBar base w v (barsF f)) (hf : ∀ j, f j ≤ topC) : ∃ ao c, v = .slice ao (barsF f).length c ∧ InAt w ao (barsF f).length (barsF f) ∧ ∀ a, ao = some a → base ≤ a.block := by
  obtain ⟨ao, c, rfl, hA, hb⟩ := BarAt_of h
  refine ⟨ao, c, rfl, ⟨hA, ?_, ?_, Bin.bars hf⟩, hb⟩
  · rintro a rfl
    rcases h.2 with ⟨e, _⟩ | ⟨g, cap, cur, e, hg, hh, _⟩
    · simp at e
    · simp at e
      obtain ⟨rfl, _⟩ := e
      exact lt_of_block hh
  · have := barsF_len f
    unfold maxLen
    omega
set_option maxHeartbeats 400000 in
theorem both_any (ad bd : Option Addr) (n m ca cb : Nat) (a b : List (Int × Int)) (w : World) (hA : InAt w ad n a) (hB : InAt w bd m b) :
    Calls Tryz.prog 61 #[.slice ad n ca, .slice bd m cb] w fun e w' => e = .returned (.int .i64 (if (chkF (-1) a && chkF (-1) b) = true then 0 else 131)) ∧ Below w.heap.size w w' := by
  have K := check_any ad n ca a w hA.at_ hA.len hA.bin
  cases ha : chkF (-1) a
  · rw [chkE_no ha] at K
    rw [Bool.false_and]
    rw [if_neg (by decide)]
    go_enter Tryz.func61, Tryz.ntmps61
    go_wp2_with (go_at_call 94; (with_reducible refine K.mono ?_); clear K; rintro e w1 ⟨rfl, b1⟩)
    go_ret
    exact ⟨rfl, b1⟩
  · rw [chkE_ok ha] at K
    rw [Bool.true_and]
    have HB : Hid _ := hB
    obtain ⟨E, hE⟩ : ∃ E, chkE b = E := ⟨_, rfl⟩
    have e1 : (if chkF (-1) b = true then (0 : Int) else 131) = E := by rw [← hE]; unfold chkE; rfl
    rw [e1]
    clear e1 hB
    go_enter Tryz.func61, Tryz.ntmps61
    go_wp2_with (first
      | (go_at_call 94; (with_reducible refine K.mono ?_); clear K; rintro e w1 ⟨rfl, b1⟩
         have L := check_any bd m cb b w1 (HB.out.below b1).at_ HB.out.len HB.out.bin
         rw [hE] at L
         clear hE)
      | (go_at_call 94; (with_reducible refine L.mono ?_); clear L; rintro e w2 ⟨rfl, b2⟩))
    go_ret
    exact ⟨rfl, b1.trans (b2.mono b1.size)⟩
theorem both_ok (ad bd : Option Addr) (n m ca cb : Nat) (a b : List (Int × Int)) (w : World) (hA : InAt w ad n a) (hB : InAt w bd m b) (ha : chkF (-1) a = true) (hb : chkF (-1) b = true) :
    Calls Tryz.prog 61 #[.slice ad n ca, .slice bd m cb] w fun e w' => e = .returned (.int .i64 0) ∧ Below w.heap.size w w' := by
  have := both_any ad bd n m ca cb a b w hA hB
  rw [ha, hb, if_pos (by decide)] at this
  exact this
theorem mergeF_puts {a b : List (Int × Int)} (hb : chkF (-1) b = true) (ia : Bin a) : putsF (cntF a) b = mergeF a b := funext fun j => putsF_at (by omega) hb (cntF_le ia) j
set_option maxHeartbeats 1000000 in
theorem merge_ok (ad bd : Option Addr) (n m ca cb : Nat) (a b : List (Int × Int)) (w : World) (hA : InAt w ad n a) (hB : InAt w bd m b) (ha : chkF (-1) a = true) (hb : chkF (-1) b = true) :
    Calls Tryz.prog 37 #[.slice ad n ca, .slice bd m cb] w (MadeP (some (mergeF a b)) 0 w) := by
  obtain ⟨hv0, hi0⟩ := zero_of_info Tryz.info134
  have K := both_ok ad bd n m ca cb a b w hA hB ha hb
  have HA : Hid _ := hA
  have HB : Hid _ := hB
  have HCA : Hid (chkF (-1) a = true) := ha
  have HCB : Hid (chkF (-1) b = true) := hb
  clear hA hB ha hb
  go_enter Tryz.func37, Tryz.ntmps37
  go_wp2_with (go_at_call 61; (with_reducible refine K.mono ?_); clear K; rintro e w1 ⟨rfl, b1⟩)
  have u1 : Upd (fun _ => False) w1 (w1.alloc (.cells zeroC 134)) := (Upd.refl _ w1).alloc _
  have PA : Calls Tryz.prog 62 #[.pointer (some ⟨w1.heap.size, 0, none⟩), .slice ad n ca] (w1.alloc (.cells zeroC 134)) (PutsP w1.heap.size (fun _ => 0) a (w1.alloc (.cells zeroC 134))) := by
    have hI1 := HA.out.below b1
    have hI2 := hI1.upd u1 (fun _ _ h => h)
    exact putAll_any w1.heap.size (fun _ => 0) ad n ca a _ hI2.at_ hI2.len hI2.bin (fun b hb => ⟨(chk_in HCA.out b hb).1, (chk_in HCA.out b hb).2.1⟩) (fun a ha => Nat.ne_of_lt (hI1.lt a ha)) (fun _ => Nat.zero_le _) (CntAt.new w1)
  go_wp2_with (first
    | (go_at_call 62; (with_reducible refine PA.mono ?_); clear PA; rintro e w2 ⟨rfl, h2, u2⟩
       rw [puts_first HCA.out HA.out.bin] at h2
       have hI1 := HB.out.below b1
       have hI2 := (hI1.upd u1 (fun _ _ h => h)).upd u2 (fun a ha => Nat.ne_of_lt (hI1.lt a ha))
       have PU := putAll_any w1.heap.size (cntF a) bd m cb b _ hI2.at_ hI2.len hI2.bin (fun x hb => ⟨(chk_in HCB.out x hb).1, (chk_in HCB.out x hb).2.1⟩) (fun a ha => Nat.ne_of_lt (hI1.lt a ha)) (cntF_le HA.out.bin) h2
       have HU2 : Hid _ := u2
       clear h2 u2 hI1 hI2)
    | (go_at_call 62; (with_reducible refine PU.mono ?_); clear PU; rintro e w3 ⟨rfl, h3, u3⟩
       rw [mergeF_puts HCB.out HA.out.bin] at h3
       have BA := bars_any _ _ w3 h3
       have HU3 : Hid _ := u3
       clear h3 u3)
    | (go_at_call 63; (with_reducible refine BA.mono ?_); clear BA; rintro e w4 ⟨v4, rfl, h4, b4⟩
       have H4 : Hid _ := h4
       clear h4
       obtain ⟨a4, l4, c4, rfl⟩ := row_shape H4.out))
  go_returns
  have h12 : w.heap.size ≤ w1.heap.size := b1.size
  have u12 := ((Upd.ofBelow (S := fun k => w.heap.size ≤ k) b1 (fun _ _ h => h)).alloc (.cells zeroC 134)).trans HU2.out (fun i hi h => by show w.heap.size ≤ i; omega)
  have u13 := u12.trans HU3.out (fun i hi h => by show w.heap.size ≤ i; omega)
  have h3s := u13.size
  have u14 := u13.trans (Upd.ofBelow (S := fun k => w.heap.size ≤ k) b4 (fun i _ h => by show w.heap.size ≤ i; omega)) (fun _ _ h => h)
  exact ⟨u14.below (Nat.le_refl _) (fun k hk h => by omega), _, rfl, own_base H4.out h3s⟩
end Go.Proofs.YtbefeobikjnlpaaGreatDoor.sk

namespace Go.Proofs.YtbefeobikjnlpaaGreatDoor.sk
open Go.RowKit
set_option maxRecDepth 100000

def hi64 (n : Nat) : Nat := n / 18446744073709551616
def lo64 (n : Nat) : Nat := n % 18446744073709551616
theorem lo64_lt (n : Nat) : lo64 n < 18446744073709551616 := Nat.mod_lt _ (by omega)
theorem hilo (n : Nat) : n = hi64 n * 18446744073709551616 + lo64 n := by unfold hi64 lo64; omega
/-- A number of 128 bits. -/
def natV (n : Nat) : Value := .agg #[.int .u64 (hi64 n : Int), .int .u64 (lo64 n : Int)]
/-- A number of 128 bits lies here. -/
structure NatAt (w : World) (b : Nat) (x y : Int) : Prop where
  blk : w.heap[b]? = some (.cells #[.int .u64 x, .int .u64 y] 40 (0, 0))
theorem NatAt.set {w : World} {b : Nat} {x y : Int} (h : NatAt w b x y) (p q : Int) : NatAt ((w.setCell ⟨b, 0, none⟩ (.int .u64 p)).setCell ⟨b, 1, none⟩ (.int .u64 q)) b p q := by
  have := set_block (set_block h.blk 0 (.int .u64 p)) 1 (.int .u64 q)
  exact ⟨by simpa using this⟩
theorem NatAt.upd {S : Nat → Prop} {w w' : World} {b : Nat} {x y : Int} (h : NatAt w b x y) (hu : Upd S w w') (hS : ¬ S b) : NatAt w' b x y := ⟨(hu.block b (lt_of_block h.blk) hS).trans h.blk⟩
theorem NatAt.below {w w' : World} {b : Nat} {x y : Int} (h : NatAt w b x y) (hb : Below w.heap.size w w') : NatAt w' b x y := ⟨(hb.block b (lt_of_block h.blk)).trans h.blk⟩
theorem NatAt.c0 {w : World} {b : Nat} {x y : Int} (h : NatAt w b x y) : w.cell? ⟨b, 0, none⟩ = some (.int .u64 x) := blk_cell h.blk 0 rfl
theorem NatAt.c1 {w : World} {b : Nat} {x y : Int} (h : NatAt w b x y) : w.cell? ⟨b, 1, none⟩ = some (.int .u64 y) := blk_cell h.blk 1 rfl
theorem NatAt.free {w : World} {b : Nat} {x y : Int} (h : NatAt w b x y) (j : Nat) : w.frozen? ⟨b, j, none⟩ = false := blk_free h.blk j
theorem NatAt.new (w : World) (x y : Int) : NatAt (w.alloc (.cells #[.int .u64 x, .int .u64 y] 40)) w.heap.size x y := ⟨heap_alloc_new w _⟩
theorem NatAt.zero (w : World) (l : List (Int × Int)) : NatAt (w.alloc (.cells #[.int .u64 0, .int .u64 0] 40)) w.heap.size (hi64 (sumB (l.take 0)) : Int) (lo64 (sumB (l.take 0)) : Int) := by
  rw [List.take_zero]
  exact NatAt.new w 0 0
end Go.Proofs.YtbefeobikjnlpaaGreatDoor.sk

namespace Go.Proofs.YtbefeobikjnlpaaGreatDoor.sk
open Go.RowKit
set_option maxRecDepth 100000

end Go.Proofs.YtbefeobikjnlpaaGreatDoor.sk

namespace Go.Proofs.YtbefeobikjnlpaaGreatDoor.sk
open Go.RowKit
set_option maxRecDepth 100000

end Go.Proofs.YtbefeobikjnlpaaGreatDoor.sk

namespace Go.Proofs.YtbefeobikjnlpaaGreatDoor.sk
open Go.RowKit
set_option maxRecDepth 100000

end Go.Proofs.YtbefeobikjnlpaaGreatDoor.sk

namespace Go.Proofs.YtbefeobikjnlpaaGreatDoor.sk
open Go.RowKit
set_option maxRecDepth 100000

end Go.Proofs.YtbefeobikjnlpaaGreatDoor.sk

namespace Go.Proofs.YtbefeobikjnlpaaGreatDoor.sk
open Go.RowKit
set_option maxRecDepth 100000

/-- What was made, as a list. -/
theorem MadeP.list {f : Nat → Nat} {err : Int} {w w' : World} {e : Ending} (h : MadeP (some f) err w e w') (hf : ∀ j, f j ≤ topC) {L : List (Int × Int)} (hL : barsF f = L) :
    ∃ ao c, e = .returned (.tuple #[.slice ao L.length c, .int .i64 0]) ∧ InAt w' ao L.length L ∧ (∀ a, ao = some a → w.heap.size ≤ a.block) ∧ Below w.heap.size w w' := by
  obtain ⟨hb, v, rfl, ho⟩ := h
  obtain ⟨ao, c, rfl, hI, hba⟩ := InAt.own ho hf
  subst hL
  exact ⟨ao, c, rfl, hI, hba, hb⟩
theorem barsF_is {f : Nat → Nat} {L : List (Int × Int)} (hc : chkF (-1) L = true) (hp : ∀ b ∈ L, 0 ≤ b.2) (h : ∀ i, i < 1920 → f i = cntF L i) : barsF f = L := by
  rw [bars_of hc hp]
  exact barsF_congr h
end Go.Proofs.YtbefeobikjnlpaaGreatDoor.sk

namespace Go.Proofs.YtbefeobikjnlpaaGreatDoor.sk
open Go.RowKit
set_option maxRecDepth 100000

end Go.Proofs.YtbefeobikjnlpaaGreatDoor.sk

namespace Go.Proofs.YtbefeobikjnlpaaGreatDoor.sk
open Go.ChangeShapes Go.WideShapes Go.ChangeAt Go.RowKit Go.Deep
theorem ownK : ownKnob Tryz.prog.godebug = none := by kernel_rfl
theorem laidOutK : laidOutB Tryz.prog = true := by kernel_rfl
/-- Puts lie here: a value, so many times. -/
structure PutAt (w : World) (ad : Option Addr) (n : Nat) (l : List (Nat × Nat)) : Prop where
  len : l.length = n
  lies : 0 < n → ∃ b off, ad = some ⟨b, off, none⟩ ∧ ∀ i (_ : i < l.length), w.cell? ⟨b, off + i * 2, none⟩ = some (.int .u64 (l[i].1 : Int)) ∧ w.cell? ⟨b, off + i * 2 + 1, none⟩ = some (.int .u64 (l[i].2 : Int))
  bin : ∀ p ∈ l, p.1 < 18446744073709551616 ∧ p.2 < 18446744073709551616
  size : n * 16 ≤ 140737488351232
theorem PutAt.upd {S : Nat → Prop} {w w' : World} {ad : Option Addr} {n : Nat} {l : List (Nat × Nat)} (h : PutAt w ad n l) (hu : Upd S w w') (hS : ∀ a, ad = some a → ¬ S a.block) : PutAt w' ad n l := by
  refine ⟨h.len, fun hp => ?_, h.bin, h.size⟩
  obtain ⟨b, off, ha, hc⟩ := h.lies hp
  refine ⟨b, off, ha, fun i hi => ?_⟩
  obtain ⟨c0, c1⟩ := hc i hi
  exact ⟨cell_upd hu c0 (hS ⟨b, off, none⟩ ha), cell_upd hu c1 (hS ⟨b, off, none⟩ ha)⟩
theorem PutAt.below {w w' : World} {ad : Option Addr} {n : Nat} {l : List (Nat × Nat)} (h : PutAt w ad n l) (hb : Below w.heap.size w w') : PutAt w' ad n l :=
  h.upd (Upd.ofBelow (S := fun _ => False) hb (fun k hk hk' => by omega)) (fun _ _ h => h)
/-- Numbers lie here. -/
structure NumAt (k : IntKind) (w : World) (ad : Option Addr) (n : Nat) (l : List Int) : Prop where
  len : l.length = n
  lies : 0 < n → ∃ b off, ad = some ⟨b, off, none⟩ ∧ ∀ i (_ : i < l.length), w.cell? ⟨b, off + i, none⟩ = some (.int k l[i])
  bin : ∀ p ∈ l, (Lit.int k p).wf = true
  size : n * 8 ≤ 140737488351232
theorem NumAt.upd {k : IntKind} {S : Nat → Prop} {w w' : World} {ad : Option Addr} {n : Nat} {l : List Int} (h : NumAt k w ad n l) (hu : Upd S w w') (hS : ∀ a, ad = some a → ¬ S a.block) : NumAt k w' ad n l := by
  refine ⟨h.len, fun hp => ?_, h.bin, h.size⟩
  obtain ⟨b, off, ha, hc⟩ := h.lies hp
  exact ⟨b, off, ha, fun i hi => cell_upd hu (hc i hi) (hS ⟨b, off, none⟩ ha)⟩
theorem NumAt.below {k : IntKind} {w w' : World} {ad : Option Addr} {n : Nat} {l : List Int} (h : NumAt k w ad n l) (hb : Below w.heap.size w w') : NumAt k w' ad n l :=
  h.upd (Upd.ofBelow (S := fun _ => False) hb (fun k hk hk' => by omega)) (fun _ _ h => h)
section
variable {H : Type} {enc : TypeId × Value → H} {W : World} {base : Nat} {spare : Nat → Bool} {held : Bool}
/-- All that it holds is within reach. -/
def Reach {H : Type} (t : TypeId) (d : DataW H) : Prop := ∀ n ∈ d.weights Tryz.prog t, n ≤ 140737488351232
theorem Reach.len {H : Type} {t e : TypeId} {el sp : List (DataW H)} (hu : Tryz.prog.underlying t = some (.slice e)) (h : Reach t (.slice el sp)) : (el.length + sp.length) * Tryz.prog.bytesOf e ≤ 140737488351232 :=
  h _ (by simp [DataW.weights, hu])
theorem reach_of {H : Type} {ts : List TypeId} {ds : List (DataW H)} {j : Nat} {t : TypeId} {d : DataW H} (hsz : (DataW.weightsEach Tryz.prog ts ds).all (· ≤ reachBytes) = true) (ht : ts[j]? = some t) (hd : ds[j]? = some d) : Reach t d := by
  intro n hn
  have := List.all_eq_true.1 hsz n (DataW.weights_mem_each ht hd n hn)
  exact of_decide_eq_true this
end
end Go.Proofs.YtbefeobikjnlpaaGreatDoor.sk

namespace Go.Proofs.YtbefeobikjnlpaaGreatDoor.sk
open Go.RowKit
set_option maxRecDepth 100000

end Go.Proofs.YtbefeobikjnlpaaGreatDoor.sk

namespace Go.Proofs.YtbefeobikjnlpaaGreatDoor.sk
open Go.RowKit
set_option maxRecDepth 100000

/-- The sketch of this function lies here. -/
structure SkAt (w : World) (ao : Option Addr) (L : Nat) (f : Nat → Nat) : Prop where
  len : L = (barsF f).length
  at_ : InAt w ao L (barsF f)
  le : ∀ j, f j ≤ topC
theorem SkAt.below {w w' : World} {ao : Option Addr} {L : Nat} {f : Nat → Nat} (h : SkAt w ao L f) (hb : Below w.heap.size w w') : SkAt w' ao L f := ⟨h.len, h.at_.below hb, h.le⟩
theorem SkAt.upd {S : Nat → Prop} {w w' : World} {ao : Option Addr} {L : Nat} {f : Nat → Nat} (h : SkAt w ao L f) (hu : Upd S w w') (hS : ∀ a, ao = some a → ¬ S a.block) : SkAt w' ao L f := ⟨h.len, h.at_.upd hu hS, h.le⟩
theorem SkAt.congr {w : World} {ao : Option Addr} {L : Nat} {f g : Nat → Nat} (h : SkAt w ao L f) (hg : ∀ j, g j ≤ topC) (e : ∀ i, i < 1920 → f i = g i) : SkAt w ao L g := by
  have := barsF_congr e
  exact ⟨by rw [← this]; exact h.len, by rw [← this]; exact h.at_, hg⟩
theorem bars_zero : barsF (fun _ => 0) = [] := List.eq_nil_of_length_eq_zero numF_zero
theorem SkAt.nil (w : World) : SkAt w none 0 (fun _ => 0) := by
  refine ⟨numF_zero.symm, ?_, fun _ => Nat.zero_le _⟩
  rw [bars_zero]
  exact InAt.nil w
/-- What a call that makes a sketch tells. -/
def SkP (f : Nat → Nat) (w : World) (e : Ending) (w' : World) : Prop := ∃ ao L c, e = .returned (.tuple #[.slice ao L c, .int .i64 0]) ∧ Hid (SkAt w' ao L f) ∧ Below w.heap.size w w'
theorem MadeP.sk {f : Nat → Nat} {err : Int} {w w' : World} {e : Ending} (h : MadeP (some f) err w e w') {g : Nat → Nat} (hf : ∀ j, f j ≤ topC) (hg : ∀ j, g j ≤ topC) (eq : ∀ i, i < 1920 → f i = g i) : SkP g w e w' := by
  obtain ⟨ao, c, h1, h2, _, h3⟩ := h.list hf rfl
  exact ⟨ao, _, c, h1, SkAt.congr ⟨rfl, h2, hf⟩ hg eq, h3⟩
def minF (f g : Nat → Nat) : Nat → Nat := fun i => min (f i + g i) topC
theorem minF_le (f g : Nat → Nat) : ∀ j, minF f g j ≤ topC := fun _ => Nat.min_le_right _ _
end Go.Proofs.YtbefeobikjnlpaaGreatDoor.sk
