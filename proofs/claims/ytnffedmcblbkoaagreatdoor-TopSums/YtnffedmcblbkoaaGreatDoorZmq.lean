/-
  Merged: Zm, Math, Wn, Mem, Wr.
-/
import Derived.Laws.BitsAllLaws
import Derived.Laws.Strings2
import Derived.Lib.IndexBytes
import Derived.Test.YtnffedmcblbkoaaGreatDoorRows
import Derived.WalkKit
import Derived.ProofKit
import Derived.OpenShut
import Derived.Deep.AppendSrc
import Derived.WalkSmall
import Derived.Laws.CopyOwn
import Derived.BigQuiet
namespace Go.Proofs.YtnffedmcblbkoaaGreatDoor
open Go
structure Good {α : Type} (c : α → α → Int) : Prop where
  rng : ∀ a b, c a b = -1 ∨ c a b = 0 ∨ c a b = 1
  anti : ∀ a b, c b a = - c a b
  eq : ∀ a b, c a b = 0 ↔ a = b
  trans : ∀ a b d, c a b ≤ 0 → c b d ≤ 0 → c a d ≤ 0
def cmpI (a b : Int) : Int := if a < b then -1 else if b < a then 1 else 0
theorem good_cmpI : Good cmpI where
  rng a b := by unfold cmpI; split <;> (try split) <;> simp
  anti a b := by unfold cmpI; repeat' split
                 all_goals omega
  eq a b := by unfold cmpI; constructor
               · intro h; repeat' split at h
                 all_goals omega
               · rintro rfl; simp
  trans a b d := by unfold cmpI; intro h1 h2; repeat' split at h1
                    all_goals repeat' split at h2
                    all_goals repeat' split
                    all_goals omega
theorem Good.comap {α β : Type} {c : β → β → Int} (h : Good c) (f : α → β) (hf : ∀ a b, f a = f b → a = b) : Good (fun a b => c (f a) (f b)) where
  rng _ _ := h.rng _ _
  anti _ _ := h.anti _ _
  eq a b := (h.eq _ _).trans ⟨hf a b, fun e => e ▸ rfl⟩
  trans _ _ _ h1 h2 := h.trans _ _ _ h1 h2
def orI (a b : Int) : Int := if a = 0 then b else a
def lexL {α : Type} (c : α → α → Int) : List α → List α → Int
  | [], [] => 0
  | [], _ :: _ => -1
  | _ :: _, [] => 1
  | a :: x, b :: y => orI (c a b) (lexL c x y)
theorem Good.list {α : Type} {c : α → α → Int} (h : Good c) : Good (lexL c) where
  rng a := by
    induction a with
    | nil => intro b; cases b <;> simp [lexL]
    | cons x r ih =>
      intro b
      cases b with
      | nil => simp [lexL]
      | cons y q =>
        simp only [lexL, orI]
        split
        · exact ih q
        · exact h.rng _ _
  anti a := by
    induction a with
    | nil => intro b; cases b <;> simp [lexL]
    | cons x r ih =>
      intro b
      cases b with
      | nil => simp [lexL]
      | cons y q =>
        simp only [lexL, orI]
        rw [h.anti x y, ih q]
        split <;> split <;> omega
  eq a := by
    induction a with
    | nil => intro b; cases b <;> simp [lexL]
    | cons x r ih =>
      intro b
      cases b with
      | nil => simp [lexL]
      | cons y q =>
        simp only [lexL, orI]
        constructor
        · intro e
          split at e
          · rename_i h0
            rw [(h.eq _ _).1 h0, (ih q).1 e]
          · omega
        · intro e
          injection e with e1 e2
          subst e1 e2
          rw [if_pos ((h.eq _ _).2 rfl)]
          exact (ih r).2 rfl
  trans a := by
    induction a with
    | nil => intro b d; cases b <;> cases d <;> simp [lexL]
    | cons x r ih =>
      intro b d
      cases b with
      | nil => simp [lexL]
      | cons y q =>
        cases d with
        | nil => simp [lexL]
        | cons z s =>
          simp only [lexL, orI]
          intro h1 h2
          have ht := h.trans x y z
          have hzy := h.trans z x y
          have hyz := h.trans y z x
          have a1 := h.anti x y
          have a2 := h.anti y z
          have a3 := h.anti x z
          have kt := ih q s
          split at h1 <;> split at h2 <;> split <;> first | omega | (exact kt h1 h2)
def cmpU (a b : UInt8) : Int := cmpI (a.toNat : Int) (b.toNat : Int)
theorem good_cmpU : Good cmpU := good_cmpI.comap (fun a : UInt8 => (a.toNat : Int)) (fun a b h => UInt8.toNat_inj.1 (by omega))
def cmpS (a b : ByteArray) : Int := lexL cmpU a.toList b.toList
theorem bytes_ext (a b : ByteArray) (h : a.toList = b.toList) : a = b := by
  rw [Lib.toList_data, Lib.toList_data] at h
  exact ByteArray.ext (Array.ext' h)
theorem good_cmpS : Good cmpS := good_cmpU.list.comap (fun a : ByteArray => a.toList) bytes_ext
theorem less_lex : ∀ x y : List UInt8, Op.bytesLess x y = decide (lexL cmpU x y = -1) := by
  intro x
  induction x with
  | nil => intro y; cases y <;> simp [Op.bytesLess, lexL]
  | cons a x ih =>
    intro y
    cases y with
    | nil => simp [Op.bytesLess, lexL]
    | cons b y =>
      rw [Op.bytesLess, ih y]
      simp only [lexL, orI, cmpU, cmpI]
      by_cases h1 : a < b
      · have h1' : (a.toNat : Int) < (b.toNat : Int) := by have := UInt8.lt_iff_toNat_lt.1 h1; omega
        simp [h1, h1']
      · have h1' : ¬ (a.toNat : Int) < (b.toNat : Int) := fun h => h1 (UInt8.lt_iff_toNat_lt.2 (by omega))
        by_cases h2 : a = b
        · subst h2; simp
        · have h2' : (b.toNat : Int) < (a.toNat : Int) := by
            have : a.toNat ≠ b.toNat := fun e => h2 (UInt8.toNat_inj.1 e)
            omega
          simp [h1, h1', h2, h2']
theorem cmpS_lt (a b : ByteArray) : Op.bytesLess a.toList b.toList = decide (cmpS a b = -1) := less_lex _ _
theorem cmpS_eq (a b : ByteArray) : (a.toList == b.toList) = decide (cmpS a b = 0) := by
  by_cases h : a.toList = b.toList
  · have : cmpS a b = 0 := (good_cmpS.eq a b).2 (bytes_ext a b h)
    simp [h, this]
  · have : ¬ cmpS a b = 0 := fun e => h (by rw [(good_cmpS.eq a b).1 e])
    simp [h, this]
def orL : List Int → Int
  | [] => 0
  | x :: r => orI x (orL r)
structure AttrD where
  key : ByteArray
  kind : Int
  text : ByteArray
  num : Int
structure EventD where
  moment : Int
  name : ByteArray
structure Sp where
  hi : Int
  lo : Int
  id : Int
  par : Int
  links : List Int
  svc : ByteArray
  op : ByteArray
  kind : Int
  status : Int
  start : Int
  fin : Int
  attrs : List AttrD
  events : List EventD
def cmpA (a b : AttrD) : Int := orL [cmpS a.key b.key, cmpI a.kind b.kind, cmpS a.text b.text, cmpI a.num b.num]
def cmpE (a b : EventD) : Int := orL [cmpI a.moment b.moment, cmpS a.name b.name]
theorem orI_zero (a : Int) : orI a 0 = a := by unfold orI; split <;> omega
def cmpT (a b : Sp) : Int := orL [cmpI a.fin b.fin, cmpI b.start a.start, cmpI a.status b.status, cmpI a.par b.par, cmpS a.svc b.svc, cmpS a.op b.op, cmpI a.kind b.kind, lexL cmpI a.links b.links, lexL cmpA a.attrs b.attrs, lexL cmpE a.events b.events]
def cmpN (a b : Sp) : Int := orL [cmpI a.hi b.hi, cmpI a.lo b.lo, cmpI a.id b.id]
def cmpP (a b : Sp) : Int := orI (cmpN a b) (cmpT a b)
theorem orI_assoc (a b c : Int) : orI (orI a b) c = orI a (orI b c) := by unfold orI; repeat' split
                                                                          all_goals omega
theorem wrap_i64 (n : Int) : IntKind.i64.wrap n = (n + 9223372036854775808) % 18446744073709551616 - 9223372036854775808 := by
 have e : IntKind.i64.wrap n = if n % 18446744073709551616 ≥ 9223372036854775808 then n % 18446744073709551616 - 18446744073709551616 else n % 18446744073709551616 := by
  simp [IntKind.wrap, IntKind.bits, IntKind.signed]
 rw [e]; split <;> omega
end Go.Proofs.YtnffedmcblbkoaaGreatDoor
namespace Go.Proofs.YtnffedmcblbkoaaGreatDoor
open Go.RowKit
set_option maxRecDepth 100000
theorem ret_int {k : IntKind} {a b : Int} (h : a = b) : Ending.returned (.int k a) = .returned (.int k b) := by rw [h]
end Go.Proofs.YtnffedmcblbkoaaGreatDoor
namespace Go.Proofs.YtnffedmcblbkoaaGreatDoor
open Go Go.RowKit
structure Upd (S : Nat → Prop) (w w' : World) : Prop where
 os : w'.os = w.os
 tape : w'.tape = w.tape
 output : w'.output = w.output
 size : w.heap.size ≤ w'.heap.size
 block : ∀ k, k < w.heap.size → ¬ S k → w'.heap[k]? = w.heap[k]?
theorem Upd.refl (S : Nat → Prop) (w : World) : Upd S w w := ⟨rfl, rfl, rfl, Nat.le_refl _, fun _ _ _ => rfl⟩
theorem Upd.trans {S S' : Nat → Prop} {a b c : World} (h : Upd S a b) (k : Upd S' b c) (hS : ∀ i, i < a.heap.size → S' i → S i) : Upd S a c :=
 ⟨k.os.trans h.os, k.tape.trans h.tape, k.output.trans h.output, Nat.le_trans h.size k.size, fun i hi hn =>
  (k.block i (Nat.lt_of_lt_of_le hi h.size) (fun hs => hn (hS i hi hs))).trans (h.block i hi hn)⟩
theorem Upd.mono {S S' : Nat → Prop} {a b : World} (h : Upd S a b) (hS : ∀ i, i < a.heap.size → S i → S' i) : Upd S' a b :=
 (Upd.refl S' a).trans h hS
theorem Upd.alloc {S : Nat → Prop} {a b : World} (h : Upd S a b) (o : Obj) : Upd S a (b.alloc o) :=
 h.trans (S' := fun _ => False) ⟨rfl, rfl, rfl, by simp, fun k hk _ => Below.heap_alloc b o k hk⟩ (fun _ _ h => h.elim)
theorem Upd.drew {S : Nat → Prop} {a b : World} (h : Upd S a b) : Upd S a b.drew :=
 ⟨h.os, h.tape, h.output, h.size, h.block⟩
theorem Upd.drewN {S : Nat → Prop} {a b : World} (h : Upd S a b) (n : Nat) : Upd S a (b.drewN n) :=
 ⟨h.os, h.tape, h.output, h.size, h.block⟩
theorem Upd.grown {S : Nat → Prop} {a b c : World} {row : Option Nat} (h : Upd S a b) (hg : b.grownBy c row) (hr : ∀ k, k < a.heap.size → row = some k → S k) : Upd S a c :=
 h.trans (S' := fun k => some k = row) ⟨hg.os, hg.tape, hg.output, hg.size, fun k hk hn => hg.block k hk hn⟩ (fun k hk e => hr k hk e.symm)
theorem Upd.setCell {S : Nat → Prop} {a b : World} (h : Upd S a b) {p : Addr} (hp : p.block < a.heap.size → S p.block) (u : Value) : Upd S a (b.setCell p u) :=
 h.trans (S' := fun k => k = p.block) ⟨rfl, rfl, rfl, by show b.heap.size ≤ (b.heap.modify _ _).size; simp, fun k _ hn => Below.heap_setCell b p u k hn⟩ (fun k hk e => by subst e; exact hp hk)
theorem Upd.below {S : Nat → Prop} {a b : World} (h : Upd S a b) {B : Nat} (hB : B ≤ a.heap.size) (hS : ∀ k, k < B → ¬ S k) : Below B a b :=
 ⟨h.os, h.tape, h.output, h.size, fun k hk => h.block k (by omega) (hS k hk)⟩
theorem Upd.ofBelow {S : Nat → Prop} {a b : World} {B : Nat} (h : Below B a b) (hS : ∀ k, k < a.heap.size → B ≤ k → S k) : Upd S a b :=
 ⟨h.os, h.tape, h.output, h.size, fun k hk hn => h.block k (by by_cases hb : k < B; exact hb; exact absurd (hS k hk (by omega)) hn)⟩
def Moved (w : World) (v v' : Value) : Prop := v'.ownBlock = v.ownBlock ∨ ∃ k, v'.ownBlock = some k ∧ w.heap.size ≤ k
theorem Moved.refl (w : World) (v : Value) : Moved w v v := Or.inl rfl
theorem ownsRow_upd {S : Nat → Prop} {w w' : World} {base : Nat} {e : TypeId} {size : Nat} {v : Value} {n : Nat} {xs : List Value} (h : w.ownsRow base e size v n xs) (hu : Upd S w w') (hS : ∀ k, v.ownBlock = some k → ¬ S k) : w'.ownsRow base e size v n xs := by
 obtain ⟨h1, h2⟩ := h
 refine ⟨h1, ?_⟩
 rcases h2 with h2 | ⟨g, cap, cur, rfl, hg, hh, r⟩
 ·exact Or.inl h2
 ·exact Or.inr ⟨g, cap, cur, rfl, hg, (hu.block g (lt_of_block hh) (hS g rfl)).trans hh, r⟩
theorem run_app {P : Program} (w : World) (base : Nat) (t tx ty e : TypeId) (i : TypeInfo) (z : Value) (ht : P.underlying t = some (.slice e)) (hi : P.info? e = some i) (hz : i.zero = some z) (hsize : i.size = 1) (hzs : z.cells.size = 1)
  (v : Value) (n : Nat) (xs : List Value) (hown : w.ownsRow base e 1 v n xs) (x : Value) (m : Nat) (news : List Value) (hs : Src P 1 tx x m news w)
  (h63 : n + m ≤ maxLen) (hbytes : (n + m) * i.bytes ≤ 140737488355328) (hbase : base ≤ w.heap.size) :
  ∃ v' w', (Builtin.append_ #[t, tx] ty #[v, x]).run P w = .ok v' w' ∧ w'.ownsRow base e 1 v' (n + m) (xs ++ news) ∧ w.grownBy w' v.ownBlock ∧ Moved w v v' := by
 have hs' : Src P i.size tx x m news w := by rw [hsize]; exact hs
 have hnl : news.length = m := by have := hs.newsLen; omega
 have hxl : xs.length = n := by have := hown.1; omega
 have hsmall : n + m ≤ 9223372036854775807 := by simp only [maxLen] at h63; omega
 have grow : ∀ (ad : Option Addr) (cap : Nat), v = .slice ad n cap → cap < n + m → (Builtin.firstCells i.size n v).run P w.drew = .ok xs.toArray w.drew →
   ∃ v' w', (Builtin.append_ #[t, tx] ty #[v, x]).run P w = .ok v' w' ∧ w'.ownsRow base e 1 v' (n + m) (xs ++ news) ∧ w.grownBy w' v.ownBlock ∧ Moved w v v' := by
  intro ad cap hv hc hold
  subst hv
  have hr := run_append_grow_src (P := P) w t tx ty e i z ht hi hz ad n cap xs hold x m news hs' hc (by omega) (growslice_fits (by omega) hbytes)
  refine ⟨_, _, hr, ⟨by simp; omega, Or.inr ⟨w.heap.size, _, _, rfl, hbase, heap_alloc_new w.drew _, grownCap_ge w (n + m) cap e, grownCap_le_maxLen w (n + m) cap e h63, ?_, ?_⟩⟩, ⟨rfl, rfl, rfl, by simp, fun k hk _ => Below.heap_alloc w.drew _ k hk⟩, Or.inr ⟨w.heap.size, rfl, Nat.le_refl _⟩⟩
  ·have hge := grownCap_ge w (n + m) cap e
   simp only [Array.size_append, List.size_toArray, size_zeroCells, hzs, List.length_append]
   omega
  ·simp only [Array.toList_append]
   rw [show (n + m) * 1 = (xs ++ news).length by simp; omega]
   exact List.take_left
 rcases hown.2 with ⟨rfl, rfl⟩ | ⟨g, cap, cur, rfl, hbg, hg, hnc, hcm, hcs, htake⟩
 ·have hx : xs = [] := List.eq_nil_of_length_eq_zero hxl
  subst hx
  by_cases hm : m = 0
  ·subst hm
   have hn : news = [] := List.eq_nil_of_length_eq_zero hnl
   subst hn
   refine ⟨.slice none 0 0, w, ?_, World.ownsRow_nil w base e 1, ⟨rfl, rfl, rfl, Nat.le_refl _, fun _ _ _ => rfl⟩, Moved.refl _ _⟩
   have hc := hs'.cells
   rcases hs.kind with ⟨e', hk⟩ | hk <;> simp [Builtin.append_, run_underlying ht, run_underlying hk, sizeOf, typeInfo, hi, hs.len, hc]
  ·exact grow none 0 rfl (by omega) (run_firstCells_none w.drew i.size 0 0 0)
 ·by_cases hroom : n + m ≤ cap
  ·have hfit : n * i.size + news.length ≤ cur.size := by rw [hsize]; omega
   have hst := run_storeCells_at P g (n * i.size) e news 0 cur w hg (by simpa using hfit) hs.one
   simp only [Nat.add_zero] at hst
   have hr : (Builtin.append_ #[t, tx] ty #[.slice (some ⟨g, 0, none⟩) n cap, x]).run P w = .ok (.slice (some ⟨g, 0, none⟩) (n + m) cap) (w.setRow g (cur.toList.take (n * i.size) ++ news ++ cur.toList.drop (n * i.size + news.length)).toArray) := by
    rcases hs.kind with ⟨e', hk⟩ | hk <;> simp [Builtin.append_, run_underlying ht, run_underlying hk, sizeOf, typeInfo, hi, hs.len, hroom, hs'.cells, Addr.add_lit, hst]
   refine ⟨_, _, hr, ⟨by simp; omega, Or.inr ⟨g, cap, _, rfl, hbg, setRow_heap w g cur _ e _ hg, hroom, hcm, ?_, ?_⟩⟩, ⟨rfl, rfl, rfl, by simp, fun k _ hk => setRow_other w g k _ (fun e => hk (by simp [Value.ownBlock, e]))⟩, Or.inl rfl⟩
   ·simp only [List.size_toArray, List.length_append, List.length_take, List.length_drop, Array.length_toList]
    omega
   ·rw [hsize, htake, show (n + m) * 1 = (xs ++ news).length by simp; omega]
    exact List.take_left
  ·have holds : ∀ j u, xs[j]? = some u → w.drew.cell? ((⟨g, 0, none⟩ : Addr).add j) = some u := by simpa using hown.cells (g := g) rfl
   exact grow (some ⟨g, 0, none⟩) cap rfl (by omega) (run_firstCells_some w.drew i.size n ⟨g, 0, none⟩ n cap xs (by rw [hsize]; omega) holds)
theorem wpList_app {P : Program} (w : World) {ops : Array Oper} {rest : List Oper} {o : Oper} {a : Act} {Q : Exit → Act → World → Prop} (hgd : o.guard = none) (s x : Operand) (t tx : TypeId)
  (ho : o.op = .call { callee := .builtin .append, args := #[s, x], argTypes := #[t, tx] })
  (base : Nat) (e : TypeId) (i : TypeInfo) (z : Value) (bytes : Nat) (ht : P.underlying t = some (.slice e)) (hi : P.info? e = some i) (hz : i.zero = some z) (hsize : i.size = 1) (hby : i.bytes = bytes) (hzs : z.cells.size = 1)
  (v : Value) (n : Nat) (xs : List Value) (hv : a.eval s = v) (hown : w.ownsRow base e 1 v n xs) (y : Value) (m : Nat) (news : List Value) (hx : a.eval x = y) (hs : Src P 1 tx y m news w)
  (h63 : n + m ≤ maxLen) (hbytes : (n + m) * bytes ≤ 140737488355328) (hbase : base ≤ w.heap.size)
  (h : ∀ v' w', w'.ownsRow base e 1 v' (n + m) (xs ++ news) → w.grownBy w' v.ownBlock → Moved w v v' → wpList P ops Q rest (a.put o.dst v') w') : wpList P ops Q (o :: rest) a w := by
 subst hby
 refine wpList_plain hgd fun K hK => ?_
 obtain ⟨v', w', hr, h2, h3, h4⟩ := run_app (P := P) w base t tx o.type e i z ht hi hz hsize hzs v n xs hown y m news hs h63 hbytes hbase
 unfold Oper.wp execOp
 simp only [ho, resolve, invoke, builtin, Sem.run_bind, Sem.run_pure, Result.andThen_ok, List.map_toArray, List.map_cons, List.map_nil, hv, hx, hr]
 exact hK _ _ (h v' w' h2 h3 h4)
end Go.Proofs.YtnffedmcblbkoaaGreatDoor
namespace Go.Proofs.YtnffedmcblbkoaaGreatDoor
open Go.RowKit
set_option maxRecDepth 100000
theorem row_shape {base : Nat} {w : World} {e : TypeId} {size n : Nat} {v : Value} {xs : List Value} (h : w.ownsRow base e size v n xs) : ∃ ao l c, v = .slice ao l c := by
 rcases h.2 with ⟨rfl, _⟩ | ⟨g, cap, cur, rfl, _⟩
 ·exact ⟨_, _, _, rfl⟩
 ·exact ⟨_, _, _, rfl⟩
def bytesI (s : ByteArray) : List Int := s.data.toList.map fun b => (b.toNat : Int)
theorem bytesI_length (s : ByteArray) : (bytesI s).length = s.size := by unfold bytesI; rw [List.length_map, Array.length_toList]; rfl
end Go.Proofs.YtnffedmcblbkoaaGreatDoor
