/-
  Merged by merge.py: Wm, Wy, Mw, Zm, Zc, Za, Zf.
-/
import Derived.Test.YthcghpbkadlliabGreatDoorMa03
import Derived.Deep.MidRow
import Derived.Laws.ResultCell
import Derived.Test.YthcghpbkadlliabGreatDoorMa00
import Derived.Deep.DeepAppendWide
import Derived.Laws.BitsAllLaws
import Derived.Laws.Strings2
import Derived.Lib.IndexBytes
import Derived.Deep.RegionHeld3
import Derived.Shelf.Abstract
namespace Go.Proofs.YthcghpbkadlliabGreatDoor
open Go.Shelf Go.RowKit
set_option maxRecDepth 100000

theorem scan_enc_gen : ∀ (u s v : Nat) (rest : List Int), s ≤ 9 → (s = 0 ∨ 0 < u) → u * 128 ^ s < 18446744073709551616 →
    scanN (encN u ++ rest) s v = .ok (v + u * 128 ^ s) (s + (encN u).length) := by
  intro u
  induction u using Nat.strongRecOn with
  | _ u ih =>
    intro s v rest hs h0 hb
    by_cases hu : u < 128
    · rw [encN_lt hu]
      show scanN ((u : Int) :: rest) s v = _
      rw [scanN_last _ _ _ _ (by omega) (by omega), if_neg]
      · simp
      · simp [badLast]
        refine ⟨fun h => by omega, fun h9 => ?_⟩
        subst h9
        have : (128 : Nat) ^ 9 = 9223372036854775808 := by decide
        rw [this] at hb
        omega
    · rw [encN_ge (by omega)]
      show scanN (((u % 128 + 128 : Nat) : Int) :: (encN (u / 128) ++ rest)) s v = _
      rw [scanN_more _ _ _ _ (by omega) (by omega)]
      have hp : 128 ^ (s + 1) = 128 * 128 ^ s := by rw [Nat.pow_succ]; omega
      have h1 : 128 * 128 ^ s ≤ u * 128 ^ s := Nat.mul_le_mul_right _ (by omega)
      have hs9 : s + 1 ≤ 9 := by
        by_cases h9 : s = 9
        · subst h9
          have : (128 : Nat) ^ 9 = 9223372036854775808 := by decide
          rw [this] at h1 hb; omega
        · omega
      have hsplit : (u % 128) * 128 ^ s + (u / 128) * 128 ^ (s + 1) = u * 128 ^ s := by
        rw [hp, ← Nat.mul_assoc, ← Nat.add_mul]
        congr 1
        omega
      rw [ih (u / 128) (by omega) (s + 1) _ rest hs9 (Or.inr (by omega)) (by omega)]
      have e1 : (((u % 128 + 128 : Nat) : Int)).toNat - 128 = u % 128 := by omega
      rw [e1]
      congr 1
      · omega
      · simp; omega
theorem scan_enc (u : Nat) (rest : List Int) (hu : u < 18446744073709551616) : scanN (encN u ++ rest) 0 0 = .ok u (encN u).length := by
  have := scan_enc_gen u 0 0 rest (by omega) (Or.inl rfl) (by simpa using hu)
  simpa using this

theorem bytesI_byte (s : ByteArray) : ∀ x ∈ bytesI s, 0 ≤ x ∧ x < 256 := by
  intro x hx
  unfold bytesI at hx
  obtain ⟨b, _, rfl⟩ := List.mem_map.1 hx
  have := b.toNat_lt
  omega
theorem strI_bytesI (s : ByteArray) : strI (bytesI s) = s := by
  have : (bytesI s).map (fun n => UInt8.ofNat n.toNat) = s.data.toList := by
    unfold bytesI
    rw [List.map_map]
    have : ((fun n : Int => UInt8.ofNat n.toNat) ∘ fun b : UInt8 => (b.toNat : Int)) = id := by funext b; simp
    rw [this]; simp
  unfold strI
  rw [this]

theorem scan_form : ∀ (l : List Int) (s v v' s' : Nat), (∀ x ∈ l, 0 ≤ x ∧ x < 256) → scanN l s v = .ok v' s' →
    ∃ u, v' = v + u * 128 ^ s ∧ (0 < s → 0 < u) ∧ l.take (s' - s) = encN u := by
  intro l
  induction l with
  | nil => intro s v v' s' _ h; unfold scanN at h; split at h <;> simp at h
  | cons x r ih =>
    intro s v v' s' hl h
    have hx := hl x (by simp)
    unfold scanN at h
    split at h
    · simp at h
    · split at h
      · split at h
        · simp at h
        · rename_i hx128 hb
          simp at h
          obtain ⟨rfl, rfl⟩ := h
          refine ⟨x.toNat, rfl, fun hs => ?_, ?_⟩
          · by_cases h0 : x = 0
            · exact absurd (by simp [badLast]; omega) hb
            · omega
          · rw [encN_lt (by omega), show s + 1 - s = 1 by omega]
            simp; omega
      · obtain ⟨u, h1, h2, h3⟩ := ih (s + 1) _ v' s' (fun y hy => hl y (by simp [hy])) h
        have hs := scan_size r (s + 1) _ v' s' h
        have hu := h2 (by omega)
        refine ⟨(x.toNat - 128) + 128 * u, ?_, fun _ => by omega, ?_⟩
        · rw [h1, Nat.pow_succ, Nat.add_mul, Nat.add_assoc]
          congr 2
          rw [Nat.mul_comm (128 ^ s) 128, ← Nat.mul_assoc, Nat.mul_comm u 128]
        · rw [encN_ge (by omega), show s' - s = (s' - (s + 1)) + 1 by omega, List.take_succ_cons, h3]
          congr 1
          · omega
          · congr 1; omega

theorem textR_ok (K : List Int) (t : Nat) (N : Int) (f v : Nat) (h : textR K t N = .ok f v) : ∃ s, scanN (K.drop t) 0 0 = .ok v s ∧ f = t + s ∧ t + s + v ≤ K.length := by
  by_cases hN : N < 0
  · rw [textR, if_pos hN] at h; simp at h
  rw [textR, if_neg hN] at h
  cases hr : scanN (K.drop t) 0 0 using NumRes.each with
  | form => rw [hr] at h; simp at h
  | ended => rw [hr] at h; simp at h
  | ok v1 s =>
    rw [hr] at h
    replace h : (if N < (v1 : Int) then TxtRes.bad t 13 else if K.length < t + s + v1 then .bad K.length 11 else if endL ((K.drop (t + s)).take v1) < v1 then .bad (t + s + endL ((K.drop (t + s)).take v1)) 14 else .ok (t + s) v1) = .ok f v := h
    by_cases c1 : N < (v1 : Int)
    · rw [if_pos c1] at h; simp at h
    rw [if_neg c1] at h
    by_cases c2 : K.length < t + s + v1
    · rw [if_pos c2] at h; simp at h
    rw [if_neg c2] at h
    by_cases c3 : endL ((K.drop (t + s)).take v1) < v1
    · rw [if_pos c3] at h; simp at h
    · rw [if_neg c3] at h
      simp at h
      obtain ⟨rfl, rfl⟩ := h
      exact ⟨s, rfl, rfl, by omega⟩

theorem bytesI_strI (K : List Int) (hb : ∀ x ∈ K, 0 ≤ x ∧ x < 256) : bytesI (strI K) = K := by
  unfold bytesI strI
  simp only [List.map_map]
  refine (List.map_congr_left (g := id) ?_).trans (List.map_id _)
  intro x hx
  have := hb x hx
  simp
  omega

end Go.Proofs.YthcghpbkadlliabGreatDoor

namespace Go.Proofs.YthcghpbkadlliabGreatDoor
open Go.RowKit
set_option maxRecDepth 100000

/-- A whole array into a block. -/
theorem wpList_store_row {P : Program} {ops : Array Oper} {rest : List Oper} {op : Oper} {a : Act} {w : World} {Q : Exit → Act → World → Prop} (hgd : op.guard = none) (ty : TypeId) (x y : Operand) (ho : op.op = .store ty x y)
    (g : Nat) (t : TypeId) (old cells : Array Value) (hx : a.eval x = .pointer (some ⟨g, 0, none⟩)) (hy : a.eval y = .agg cells)
    (hg : w.heap[g]? = some (.cells old t (0, 0))) (hi : (P.info? ty).map (·.size) = some cells.size) (hs : old.size = cells.size) (h1 : cells.all (·.oneCell') = true)
    (h : wpList P ops Q rest (a.put op.dst undef) (w.setRow g cells)) : wpList P ops Q (op :: rest) a w := by
  refine wpList_plain hgd fun _ hK => ?_
  unfold Oper.wp execOp
  simp only [ho, hx, hy, Instr.storeAt, Instr.sureAddr, Sem.run_bind, Sem.run_pure, Result.andThen_ok, run_storeVar_row w g t ty old cells hg hi hs h1]
  exact hK _ _ h
/-- A whole array out of a block. -/
theorem wpList_load_row {P : Program} {ops : Array Oper} {rest : List Oper} {op : Oper} {a : Act} {w : World} {Q : Exit → Act → World → Prop} (hgd : op.guard = none) (ty : TypeId) (x : Operand) (ho : op.op = .load ty x)
    (g : Nat) (t : TypeId) (cells : Array Value) (hx : a.eval x = .pointer (some ⟨g, 0, none⟩)) (d : TypeDesc)
    (hg : w.heap[g]? = some (.cells cells t (0, 0))) (hu : P.underlying ty = some d) (hd : (match d with | .struct _ | .array _ _ => true | _ => false) = true) (hi : (P.info? ty).map (·.size) = some cells.size)
    (h : wpList P ops Q rest (a.put op.dst (.agg cells)) w) : wpList P ops Q (op :: rest) a w := by
  refine wpList_plain hgd fun _ hK => ?_
  unfold Oper.wp execOp
  simp only [ho, hx, Instr.loadAt, Instr.sureAddr, Sem.run_bind, Sem.run_pure, Result.andThen_ok, run_loadVar_row w g t ty cells (0, 0) d hg hu hd hi]
  exact hK _ _ h
theorem results_cell1 {fn : Func} {p : Tmp} {ty : TypeId} (h : fn.results = #[.cell p ty]) (tmps : Array Value) (P : Program) (w : World) :
    (results fn tmps).run P w = ((asAddr (tmps.getD p undef)).run P w).andThen fun a w₁ => (loadVar ty a).run P w₁ := by
  simp only [results, h]
  simp [Sem.run_bind, Result.andThen]
end Go.Proofs.YthcghpbkadlliabGreatDoor

namespace Go.Proofs.YthcghpbkadlliabGreatDoor
open Go Go.RowKit

theorem run_appW {P : Program} (w : World) (base : Nat) (t tx ty e : TypeId) (i : TypeInfo) (z : Value) (s : Nat) (ht : P.underlying t = some (.slice e)) (hi : P.info? e = some i) (hz : i.zero = some z) (hsize : i.size = s) (hzs : z.cells.size = s)
    (v : Value) (n : Nat) (xs : List Value) (hown : w.ownsRow base e s v n xs) (x : Value) (m : Nat) (news : List Value) (hs : Src P s tx x m news w)
    (h63 : n + m ≤ maxLen) (hbytes : (n + m + (n + m) / 4 + 192) * i.bytes ≤ 281474976710656) (hbase : base ≤ w.heap.size) :
    ∃ v' w', (Builtin.append_ #[t, tx] ty #[v, x]).run P w = .ok v' w' ∧ w'.ownsRow base e s v' (n + m) (xs ++ news) ∧ w.grownBy w' v.ownBlock ∧ Moved w v v' := by
  have hs' : Src P i.size tx x m news w := by rw [hsize]; exact hs
  have hnl : news.length = m * s := hs.newsLen
  have hxl : xs.length = n * s := hown.1
  have hnm : (n + m) * s = n * s + m * s := Nat.add_mul _ _ _
  have hsmall : n + m ≤ 9223372036854775807 := by simp only [maxLen] at h63; omega
  have grow : ∀ (ad : Option Addr) (cap : Nat), v = .slice ad n cap → cap < n + m → (Builtin.firstCells i.size n v).run P w.drew = .ok xs.toArray w.drew →
      ∃ v' w', (Builtin.append_ #[t, tx] ty #[v, x]).run P w = .ok v' w' ∧ w'.ownsRow base e s v' (n + m) (xs ++ news) ∧ w.grownBy w' v.ownBlock ∧ Moved w v v' := by
    intro ad cap hv hc hold
    subst hv
    have hr := run_append_grow_src (P := P) w t tx ty e i z ht hi hz ad n cap xs hold x m news hs' hc (by omega) (growslice_fits_wide (by omega) hbytes)
    refine ⟨_, _, hr, ⟨by simp; omega, Or.inr ⟨w.heap.size, _, _, rfl, hbase, heap_alloc_new w.drew _, grownCap_ge w (n + m) cap e, grownCap_le_maxLen w (n + m) cap e h63, ?_, ?_⟩⟩, ⟨rfl, rfl, rfl, by simp, fun k hk _ => Below.heap_alloc w.drew _ k hk⟩, Or.inr ⟨w.heap.size, rfl, Nat.le_refl _⟩⟩
    · have hge := grownCap_ge w (n + m) cap e
      obtain ⟨d, hd⟩ : ∃ d, grownCap w (n + m) cap e = n + m + d := ⟨grownCap w (n + m) cap e - (n + m), by omega⟩
      rw [hd]
      simp only [Array.size_append, List.size_toArray, size_zeroCells, hzs, List.length_append, hxl, hnl, Nat.add_sub_cancel_left, Nat.add_mul]
    · simp only [Array.toList_append]
      rw [show (n + m) * s = (xs ++ news).length by simp; omega]
      exact List.take_left
  rcases hown.2 with ⟨rfl, rfl⟩ | ⟨g, cap, cur, rfl, hbg, hg, hnc, hcm, hcs, htake⟩
  · have hx : xs = [] := List.eq_nil_of_length_eq_zero (by simpa using hxl)
    subst hx
    by_cases hm : m = 0
    · subst hm
      have hn : news = [] := List.eq_nil_of_length_eq_zero (by simpa using hnl)
      subst hn
      refine ⟨.slice none 0 0, w, ?_, World.ownsRow_nil w base e s, ⟨rfl, rfl, rfl, Nat.le_refl _, fun _ _ _ => rfl⟩, Moved.refl _ _⟩
      have hc := hs'.cells
      rcases hs.kind with ⟨e', hk⟩ | hk <;> simp [Builtin.append_, run_underlying ht, run_underlying hk, sizeOf, typeInfo, hi, hs.len, hc]
    · exact grow none 0 rfl (by omega) (run_firstCells_none w.drew i.size 0 0 0)
  · by_cases hroom : n + m ≤ cap
    · have hcap : (n + m) * s ≤ cap * s := Nat.mul_le_mul_right _ hroom
      have hfit : n * i.size + news.length ≤ cur.size := by rw [hsize]; omega
      have hst := run_storeCells_at P g (n * i.size) e news 0 cur w hg (by simpa using hfit) hs.one
      simp only [Nat.add_zero] at hst
      have hr : (Builtin.append_ #[t, tx] ty #[.slice (some ⟨g, 0, none⟩) n cap, x]).run P w = .ok (.slice (some ⟨g, 0, none⟩) (n + m) cap) (w.setRow g (cur.toList.take (n * i.size) ++ news ++ cur.toList.drop (n * i.size + news.length)).toArray) := by
        rcases hs.kind with ⟨e', hk⟩ | hk <;> simp [Builtin.append_, run_underlying ht, run_underlying hk, sizeOf, typeInfo, hi, hs.len, hroom, hs'.cells, Addr.add_lit, hst]
      refine ⟨_, _, hr, ⟨by simp; omega, Or.inr ⟨g, cap, _, rfl, hbg, setRow_heap w g cur _ e _ hg, hroom, hcm, ?_, ?_⟩⟩, ⟨rfl, rfl, rfl, by simp, fun k _ hk => setRow_other w g k _ (fun e => hk (by simp [Value.ownBlock, e]))⟩, Or.inl rfl⟩
      · simp only [List.size_toArray, List.length_append, List.length_take, List.length_drop, Array.length_toList]
        omega
      · rw [hsize, htake, show (n + m) * s = (xs ++ news).length by simp; omega]
        exact List.take_left
    · have holds : ∀ j u, xs[j]? = some u → w.drew.cell? ((⟨g, 0, none⟩ : Addr).add j) = some u := by simpa using hown.cells (g := g) rfl
      exact grow (some ⟨g, 0, none⟩) cap rfl (by omega) (run_firstCells_some w.drew i.size n ⟨g, 0, none⟩ n cap xs (by rw [hsize]; omega) holds)

/-- An append to an owned row, in a walk. -/
theorem wpList_appW {P : Program} (w : World) {ops : Array Oper} {rest : List Oper} {o : Oper} {a : Act} {Q : Exit → Act → World → Prop} (hgd : o.guard = none) (s x : Operand) (t tx : TypeId)
    (ho : o.op = .call { callee := .builtin .append, args := #[s, x], argTypes := #[t, tx] })
    (base : Nat) (e : TypeId) (i : TypeInfo) (z : Value) (size bytes : Nat) (ht : P.underlying t = some (.slice e)) (hi : P.info? e = some i) (hz : i.zero = some z) (hsize : i.size = size) (hby : i.bytes = bytes) (hzs : z.cells.size = size)
    (v : Value) (n : Nat) (xs : List Value) (hv : a.eval s = v) (hown : w.ownsRow base e size v n xs) (y : Value) (m : Nat) (news : List Value) (hx : a.eval x = y) (hs : Src P size tx y m news w)
    (h63 : n + m ≤ maxLen) (hbytes : (n + m + (n + m) / 4 + 192) * bytes ≤ 281474976710656) (hbase : base ≤ w.heap.size)
    (h : ∀ v' w', w'.ownsRow base e size v' (n + m) (xs ++ news) → w.grownBy w' v.ownBlock → Moved w v v' → wpList P ops Q rest (a.put o.dst v') w') : wpList P ops Q (o :: rest) a w := by
  subst hby
  refine wpList_plain hgd fun K hK => ?_
  obtain ⟨v', w', hr, h2, h3, h4⟩ := run_appW (P := P) w base t tx o.type e i z size ht hi hz hsize hzs v n xs hown y m news hs h63 hbytes hbase
  unfold Oper.wp execOp
  simp only [ho, resolve, invoke, builtin, Sem.run_bind, Sem.run_pure, Result.andThen_ok, List.map_toArray, List.map_cons, List.map_nil, hv, hx, hr]
  exact hK _ _ (h v' w' h2 h3 h4)
end Go.Proofs.YthcghpbkadlliabGreatDoor

namespace Go.Proofs.YthcghpbkadlliabGreatDoor
open Go

/-- A total order, told as -1, 0, 1. -/
structure Good {α : Type} (c : α → α → Int) : Prop where
  rng : ∀ a b, c a b = -1 ∨ c a b = 0 ∨ c a b = 1
  anti : ∀ a b, c b a = - c a b
  eq : ∀ a b, c a b = 0 ↔ a = b
  trans : ∀ a b d, c a b ≤ 0 → c b d ≤ 0 → c a d ≤ 0

def cmpI (a b : Int) : Int := if a < b then -1 else if b < a then 1 else 0
theorem good_cmpI : Good cmpI where
  rng a b := by unfold cmpI; split <;> (try split) <;> simp
  anti a b := by unfold cmpI; repeat' split
                 all_goals omega
  eq a b := by unfold cmpI; constructor
               · intro h; repeat' split at h
                 all_goals omega
               · rintro rfl; simp
  trans a b d := by unfold cmpI; intro h1 h2; repeat' split at h1
                    all_goals repeat' split at h2
                    all_goals repeat' split
                    all_goals omega
theorem Good.flip {α : Type} {c : α → α → Int} (h : Good c) : Good (fun a b => c b a) where
  rng a b := h.rng b a
  anti a b := h.anti b a
  eq a b := (h.eq b a).trans eq_comm
  trans a b d h1 h2 := h.trans d b a h2 h1
theorem Good.comap {α β : Type} {c : β → β → Int} (h : Good c) (f : α → β) (hf : ∀ a b, f a = f b → a = b) : Good (fun a b => c (f a) (f b)) where
  rng _ _ := h.rng _ _
  anti _ _ := h.anti _ _
  eq a b := (h.eq _ _).trans ⟨hf a b, fun e => e ▸ rfl⟩
  trans _ _ _ h1 h2 := h.trans _ _ _ h1 h2
def orI (a b : Int) : Int := if a = 0 then b else a
theorem Good.lex {α β : Type} {c : α → α → Int} {d : β → β → Int} (h : Good c) (k : Good d) : Good (fun x y : α × β => orI (c x.1 y.1) (d x.2 y.2)) where
  rng x y := by unfold orI; split
                · exact k.rng _ _
                · exact h.rng _ _
  anti x y := by
    unfold orI
    rw [h.anti x.1 y.1, k.anti x.2 y.2]
    split <;> split <;> omega
  eq x y := by
    unfold orI
    constructor
    · intro e
      split at e
      · rename_i h0
        exact Prod.ext ((h.eq _ _).1 h0) ((k.eq _ _).1 e)
      · omega
    · rintro rfl
      rw [if_pos ((h.eq _ _).2 rfl)]
      exact (k.eq _ _).2 rfl
  trans x y z := by
    unfold orI
    intro h1 h2
    have ht := h.trans x.1 y.1 z.1
    have hzy := h.trans z.1 x.1 y.1
    have hyz := h.trans y.1 z.1 x.1
    have a1 := h.anti x.1 y.1
    have a2 := h.anti y.1 z.1
    have a3 := h.anti x.1 z.1
    have kt := k.trans x.2 y.2 z.2
    split at h1 <;> split at h2 <;> split <;> first | omega | (exact kt h1 h2)
def lexL {α : Type} (c : α → α → Int) : List α → List α → Int
  | [], [] => 0
  | [], _ :: _ => -1
  | _ :: _, [] => 1
  | a :: x, b :: y => orI (c a b) (lexL c x y)
theorem Good.list {α : Type} {c : α → α → Int} (h : Good c) : Good (lexL c) where
  rng a := by
    induction a with
    | nil => intro b; cases b <;> simp [lexL]
    | cons x r ih =>
      intro b
      cases b with
      | nil => simp [lexL]
      | cons y q =>
        simp only [lexL, orI]
        split
        · exact ih q
        · exact h.rng _ _
  anti a := by
    induction a with
    | nil => intro b; cases b <;> simp [lexL]
    | cons x r ih =>
      intro b
      cases b with
      | nil => simp [lexL]
      | cons y q =>
        simp only [lexL, orI]
        rw [h.anti x y, ih q]
        split <;> split <;> omega
  eq a := by
    induction a with
    | nil => intro b; cases b <;> simp [lexL]
    | cons x r ih =>
      intro b
      cases b with
      | nil => simp [lexL]
      | cons y q =>
        simp only [lexL, orI]
        constructor
        · intro e
          split at e
          · rename_i h0
            rw [(h.eq _ _).1 h0, (ih q).1 e]
          · omega
        · intro e
          injection e with e1 e2
          subst e1 e2
          rw [if_pos ((h.eq _ _).2 rfl)]
          exact (ih r).2 rfl
  trans a := by
    induction a with
    | nil => intro b d; cases b <;> cases d <;> simp [lexL]
    | cons x r ih =>
      intro b d
      cases b with
      | nil => simp [lexL]
      | cons y q =>
        cases d with
        | nil => simp [lexL]
        | cons z s =>
          simp only [lexL, orI]
          intro h1 h2
          have ht := h.trans x y z
          have hzy := h.trans z x y
          have hyz := h.trans y z x
          have a1 := h.anti x y
          have a2 := h.anti y z
          have a3 := h.anti x z
          have kt := ih q s
          split at h1 <;> split at h2 <;> split <;> first | omega | (exact kt h1 h2)

def cmpU (a b : UInt8) : Int := cmpI (a.toNat : Int) (b.toNat : Int)
theorem good_cmpU : Good cmpU := good_cmpI.comap (fun a : UInt8 => (a.toNat : Int)) (fun a b h => UInt8.toNat_inj.1 (by omega))
/-- Texts, byte by byte. -/
def cmpS (a b : ByteArray) : Int := lexL cmpU a.toList b.toList
theorem bytes_ext (a b : ByteArray) (h : a.toList = b.toList) : a = b := by
  rw [Lib.toList_data, Lib.toList_data] at h
  exact ByteArray.ext (Array.ext' h)
theorem good_cmpS : Good cmpS := good_cmpU.list.comap (fun a : ByteArray => a.toList) bytes_ext
theorem less_lex : ∀ x y : List UInt8, Op.bytesLess x y = decide (lexL cmpU x y = -1) := by
  intro x
  induction x with
  | nil => intro y; cases y <;> simp [Op.bytesLess, lexL]
  | cons a x ih =>
    intro y
    cases y with
    | nil => simp [Op.bytesLess, lexL]
    | cons b y =>
      rw [Op.bytesLess, ih y]
      simp only [lexL, orI, cmpU, cmpI]
      by_cases h1 : a < b
      · have h1' : (a.toNat : Int) < (b.toNat : Int) := by have := UInt8.lt_iff_toNat_lt.1 h1; omega
        simp [h1, h1']
      · have h1' : ¬ (a.toNat : Int) < (b.toNat : Int) := fun h => h1 (UInt8.lt_iff_toNat_lt.2 (by omega))
        by_cases h2 : a = b
        · subst h2; simp
        · have h2' : (b.toNat : Int) < (a.toNat : Int) := by
            have : a.toNat ≠ b.toNat := fun e => h2 (UInt8.toNat_inj.1 e)
            omega
          simp [h1, h1', h2, h2']
theorem cmpS_lt (a b : ByteArray) : Op.bytesLess a.toList b.toList = decide (cmpS a b = -1) := less_lex _ _
theorem cmpS_eq (a b : ByteArray) : (a.toList == b.toList) = decide (cmpS a b = 0) := by
  by_cases h : a.toList = b.toList
  · have : cmpS a b = 0 := (good_cmpS.eq a b).2 (bytes_ext a b h)
    simp [h, this]
  · have : ¬ cmpS a b = 0 := fun e => h (by rw [(good_cmpS.eq a b).1 e])
    simp [h, this]
/-- The first of some answers that is not 0. -/
def orL : List Int → Int
  | [] => 0
  | x :: r => orI x (orL r)

structure AttrD where
  key : ByteArray
  kind : Int
  text : ByteArray
  num : Int
structure EventD where
  moment : Int
  name : ByteArray
structure Sp where
  hi : Int
  lo : Int
  id : Int
  par : Int
  links : List Int
  svc : ByteArray
  op : ByteArray
  kind : Int
  status : Int
  start : Int
  fin : Int
  attrs : List AttrD
  events : List EventD
theorem AttrD.ext' {a b : AttrD} (h1 : a.key = b.key) (h2 : a.kind = b.kind) (h3 : a.text = b.text) (h4 : a.num = b.num) : a = b := by cases a; cases b; simp_all
theorem EventD.ext' {a b : EventD} (h1 : a.moment = b.moment) (h2 : a.name = b.name) : a = b := by cases a; cases b; simp_all
def cmpA (a b : AttrD) : Int := orL [cmpS a.key b.key, cmpI a.kind b.kind, cmpS a.text b.text, cmpI a.num b.num]
def cmpE (a b : EventD) : Int := orL [cmpI a.moment b.moment, cmpS a.name b.name]
theorem orI_zero (a : Int) : orI a 0 = a := by unfold orI; split <;> omega
theorem good_cmpA : Good cmpA := by
  have := (good_cmpS.lex (good_cmpI.lex (good_cmpS.lex good_cmpI))).comap (fun a : AttrD => (a.key, a.kind, a.text, a.num)) (fun a b h => by simp at h; exact AttrD.ext' h.1 h.2.1 h.2.2.1 h.2.2.2)
  have e : cmpA = fun a b => orI (cmpS a.key b.key) (orI (cmpI a.kind b.kind) (orI (cmpS a.text b.text) (cmpI a.num b.num))) := by
    funext a b; simp [cmpA, orL, orI_zero]
  rw [e]; exact this
theorem good_cmpE : Good cmpE := by
  have := (good_cmpI.lex good_cmpS).comap (fun a : EventD => (a.moment, a.name)) (fun a b h => by simp at h; exact EventD.ext' h.1 h.2)
  have e : cmpE = fun a b => orI (cmpI a.moment b.moment) (cmpS a.name b.name) := by
    funext a b; simp [cmpE, orL, orI_zero]
  rw [e]; exact this
/-- Two spans of one name. -/
def cmpT (a b : Sp) : Int := orL [cmpI a.fin b.fin, cmpI b.start a.start, cmpI a.status b.status, cmpI a.par b.par, cmpS a.svc b.svc, cmpS a.op b.op, cmpI a.kind b.kind, lexL cmpI a.links b.links, lexL cmpA a.attrs b.attrs, lexL cmpE a.events b.events]
def cmpN (a b : Sp) : Int := orL [cmpI a.hi b.hi, cmpI a.lo b.lo, cmpI a.id b.id]
def cmpP (a b : Sp) : Int := orI (cmpN a b) (cmpT a b)
theorem Sp.ext' {a b : Sp} (h1 : a.hi = b.hi) (h2 : a.lo = b.lo) (h3 : a.id = b.id) (h4 : a.par = b.par) (h5 : a.links = b.links) (h6 : a.svc = b.svc) (h7 : a.op = b.op) (h8 : a.kind = b.kind) (h9 : a.status = b.status) (h10 : a.start = b.start) (h11 : a.fin = b.fin) (h12 : a.attrs = b.attrs) (h13 : a.events = b.events) : a = b := by cases a; cases b; simp_all
theorem orI_assoc (a b c : Int) : orI (orI a b) c = orI a (orI b c) := by unfold orI; repeat' split
                                                                          all_goals omega
theorem good_cmpP : Good cmpP := by
  have := (good_cmpI.lex (good_cmpI.lex (good_cmpI.lex (good_cmpI.lex (good_cmpI.flip.lex (good_cmpI.lex (good_cmpI.lex (good_cmpS.lex (good_cmpS.lex (good_cmpI.lex (good_cmpI.list.lex (good_cmpA.list.lex good_cmpE.list)))))))))))).comap
    (fun a : Sp => (a.hi, a.lo, a.id, a.fin, a.start, a.status, a.par, a.svc, a.op, a.kind, a.links, a.attrs, a.events)) (fun a b h => by
      simp only [Prod.mk.injEq] at h
      obtain ⟨h1, h2, h3, h4, h5, h6, h7, h8, h9, h10, h11, h12, h13⟩ := h
      exact Sp.ext' h1 h2 h3 h7 h11 h8 h9 h10 h6 h5 h4 h12 h13)
  have e : cmpP = fun a b => orI (cmpI a.hi b.hi) (orI (cmpI a.lo b.lo) (orI (cmpI a.id b.id) (orI (cmpI a.fin b.fin) (orI (cmpI b.start a.start) (orI (cmpI a.status b.status) (orI (cmpI a.par b.par) (orI (cmpS a.svc b.svc) (orI (cmpS a.op b.op) (orI (cmpI a.kind b.kind) (orI (lexL cmpI a.links b.links) (orI (lexL cmpA a.attrs b.attrs) (lexL cmpE a.events b.events)))))))))))) := by
    funext a b; simp only [cmpP, cmpN, cmpT, orL, orI_zero, orI_assoc]
  rw [e]; exact this
theorem cmpN_zero (a b : Sp) : cmpN a b = 0 ↔ a.hi = b.hi ∧ a.lo = b.lo ∧ a.id = b.id := by
  have h1 := good_cmpI.eq a.hi b.hi
  have h2 := good_cmpI.eq a.lo b.lo
  have h3 := good_cmpI.eq a.id b.id
  simp only [cmpN, orL, orI_zero]
  simp only [orI]
  constructor
  · intro h
    split at h
    · split at h
      · exact ⟨h1.1 ‹_›, h2.1 ‹_›, h3.1 h⟩
      · omega
    · omega
  · rintro ⟨e1, e2, e3⟩
    rw [if_pos (h1.2 e1), if_pos (h2.2 e2)]; exact h3.2 e3
end Go.Proofs.YthcghpbkadlliabGreatDoor

namespace Go.Proofs.YthcghpbkadlliabGreatDoor
open Go.RowKit
set_option maxRecDepth 100000

theorem nan_id (x : Int) (w : World) :
    Calls Tryz.prog 97 #[.int .u64 x] w fun e w' => e = .returned (.bool false) ∧ w' = w := by
  go_enter Tryz.func97, Tryz.ntmps97
  go_wp2
  go_ret
  exact ⟨by simp, rfl⟩
theorem cmp_id (x y : Int) (w : World) :
    Calls Tryz.prog 76 #[.int .u64 x, .int .u64 y] w fun e w' => e = .returned (.int .i64 (cmpI x y)) ∧ w' = w := by
  go_enter Tryz.func76, Tryz.ntmps76
  go_wp2_with (go_at_call 97; refine (nan_id _ _).mono ?_; rintro e w' ⟨rfl, rfl⟩)
  all_goals (go_ret; refine ⟨?_, rfl⟩; unfold cmpI; (repeat' split) <;> first | rfl | (exfalso; omega))

theorem nan_i64 (x : Int) (w : World) :
    Calls Tryz.prog 109 #[.int .i64 x] w fun e w' => e = .returned (.bool false) ∧ w' = w := by
  go_enter Tryz.func109, Tryz.ntmps109
  go_wp2
  go_ret
  exact ⟨by simp, rfl⟩
theorem cmp_i64 (x y : Int) (w : World) :
    Calls Tryz.prog 101 #[.int .i64 x, .int .i64 y] w fun e w' => e = .returned (.int .i64 (cmpI x y)) ∧ w' = w := by
  go_enter Tryz.func101, Tryz.ntmps101
  go_wp2_with (go_at_call 109; refine (nan_i64 _ _).mono ?_; rintro e w' ⟨rfl, rfl⟩)
  all_goals (go_ret; refine ⟨?_, rfl⟩; unfold cmpI; (repeat' split) <;> first | rfl | (exfalso; omega))

theorem nan_str (x : ByteArray) (w : World) :
    Calls Tryz.prog 107 #[.string x] w fun e w' => e = .returned (.bool false) ∧ w' = w := by
  go_enter Tryz.func107, Tryz.ntmps107
  go_wp2
  go_ret
  exact ⟨by simp, rfl⟩
theorem binOp_str_gtr (t : TypeId) (a b : ByteArray) : binOp .gtr t (.string a) (.string b) = pure (.bool (!Op.bytesLess a.toList b.toList && !(a.toList == b.toList))) := by simp [binOp, Op.stringOp]
theorem cmp_str (x y : ByteArray) (w : World) :
    Calls Tryz.prog 98 #[.string x, .string y] w fun e w' => e = .returned (.int .i64 (cmpS x y)) ∧ w' = w := by
  have h1 := cmpS_lt x y
  have h2 : ∀ W : World, Sem.run Tryz.prog (binOp .gtr 9 (.string x) (.string y)) W = .ok (.bool (!decide (cmpS x y = -1) && !decide (cmpS x y = 0))) W := by
    intro W; rw [binOp_str_gtr, h1, cmpS_eq]; rfl
  have h3 := good_cmpS.rng x y
  generalize cmpS x y = c at h1 h2 h3 ⊢
  rcases h3 with rfl | rfl | rfl
  all_goals
    simp at h1 h2
    go_enter Tryz.func98, Tryz.ntmps98
    go_wp2_with (go_at_call 107; refine (nan_str _ _).mono ?_; rintro e w' ⟨rfl, rfl⟩)
    go_ret
    exact ⟨rfl, rfl⟩

/-- The cells of a slice hold these values. -/
structure HoldsV (w : World) (ad : Option Addr) (n : Nat) (K : List Value) : Prop where
  len : K.length = n
  cells : ∀ j u, K[j]? = some u → ∃ a, ad = some a ∧ w.cell? (a.add j) = some u
theorem HoldsV.nil (w : World) : HoldsV w none 0 [] := ⟨rfl, fun j u h => by simp at h⟩
theorem HoldsV.at {w : World} {ad : Option Addr} {n : Nat} {K : List Value} (h : HoldsV w ad n K) (hp : 0 < n) : ∃ a, ad = some a ∧ ∀ j u, K[j]? = some u → w.cell? (a.add j) = some u := by
  have hl := h.len
  obtain ⟨a, ha, _⟩ := h.cells 0 K[0] (by simp)
  refine ⟨a, ha, fun j u hj => ?_⟩
  obtain ⟨a', ha', hc⟩ := h.cells j u hj
  rw [ha] at ha'; simp at ha'; subst ha'; exact hc
theorem HoldsV.below {w w' : World} {ad : Option Addr} {n : Nat} {K : List Value} (h : HoldsV w ad n K) (hb : Below w.heap.size w w') : HoldsV w' ad n K := by
  refine ⟨h.len, fun j u hj => ?_⟩
  obtain ⟨a, ha, hc⟩ := h.cells j u hj
  exact ⟨a, ha, (hb.cell (World.block_lt_of_cell? w _ hc)).trans hc⟩
def intsV (k : IntKind) (K : List Int) : List Value := K.map (Value.int k)
theorem intsV_get {k : IntKind} {K : List Int} {j : Nat} (h : j < K.length) : (intsV k K)[j]? = some (.int k K[j]) := by simp [intsV, h]

theorem HoldsV.plain {w : World} {ad : Option Addr} {n : Nat} {K : List Value} (h : HoldsV w ad n K) {j : Nat} {u : Value} (hj : K[j]? = some u) : ∃ b off, ad = some ⟨b, off, none⟩ ∧ ∀ i v, K[i]? = some v → w.cell? ⟨b, off + i, none⟩ = some v := by
  have hp : 0 < n := by
    have := h.len
    by_cases h0 : 0 < n
    · exact h0
    · rw [List.getElem?_eq_none (by omega)] at hj; simp at hj
  obtain ⟨a, ha, hc⟩ := h.at hp
  obtain ⟨b, off, sp⟩ := a
  have hl0 : 0 < K.length := by have := h.len; omega
  have hcx := hc 0 K[0] (by simp)
  have hsp : sp = none := by
    cases sp with
    | none => rfl
    | some sp => simp [World.cell?, Addr.add] at hcx; split at hcx <;> simp at hcx
  subst hsp
  exact ⟨b, off, ha, fun i v hi => by have := hc i v hi; rwa [Addr.add_lit] at this⟩

theorem or_any (ad : Option Addr) (n cap : Nat) (K : List Int) (w : World) (h : HoldsV w ad n (intsV .i64 K)) (hn : n ≤ 1000000) :
    Calls Tryz.prog 100 #[.slice ad n cap] w fun e w' => e = .returned (.int .i64 (orL K)) ∧ w' = w := by
  have hl : K.length = n := by simpa [intsV] using h.len
  go_enter Tryz.func100, Tryz.ntmps100
  go_wp2
  go_loop [8] (fun a => ∃ k : Nat, a = .int .i64 k ∧ k ≤ n ∧ orL K = orL (K.drop k)) (fun a => n - (intOf a).toNat)
  case atStart => exact ⟨0, rfl, by omega, by simp⟩
  case round =>
    obtain ⟨k, rfl, hk, ho⟩ := hrel
    have HO : Hid (orL K = orL (K.drop k)) := ho
    clear ho
    by_cases hlt : k < n
    · obtain ⟨b, off, rfl, hc⟩ := h.plain (intsV_get (k := .i64) (by omega : k < K.length))
      have hcx := hc k (.int .i64 K[k]) (intsV_get (by omega))
      have hd : K.drop k = K[k] :: K.drop (k + 1) := List.drop_eq_getElem_cons (by omega)
      obtain ⟨x, hx⟩ : ∃ x, K[k] = x := ⟨_, rfl⟩
      rw [hx] at hcx hd
      have HD : Hid (K.drop k = x :: K.drop (k + 1)) := hd
      clear hd hx hc h
      by_cases h0 : x = 0
      · subst h0
        go_wp2
        go_round
        case rel => exact ⟨k + 1, by go_num, by omega, by rw [HO.out, HD.out]; simp [orL, orI]⟩
        case measure => simp [intOf]; omega
      · have h0' : (x != 0) = true := by simpa using h0
        have FIN : Hid (orL K = x) := by show orL K = x; rw [HO.out, HD.out]; simp [orL, orI, h0]
        clear h0
        go_wp2
        go_ret
        exact ⟨ret_int FIN.out.symm, rfl⟩
    · have FIN : Hid (orL K = 0) := by show orL K = 0; rw [HO.out, List.drop_of_length_le (by omega)]; rfl
      go_wp2
      go_ret
      exact ⟨ret_int FIN.out.symm, rfl⟩

theorem lexL_drop {α : Type} {c : α → α → Int} {x y : List α} {k : Nat} {r : Int} (h : r = lexL c (x.drop k) (y.drop k)) (hx : k < x.length) (hy : k < y.length) : r = orI (c x[k] y[k]) (lexL c (x.drop (k + 1)) (y.drop (k + 1))) := by
  rw [h, List.drop_eq_getElem_cons hx, List.drop_eq_getElem_cons hy]; rfl
theorem lexL_right {α : Type} {c : α → α → Int} {x y : List α} {k : Nat} {r : Int} (h : r = lexL c (x.drop k) (y.drop k)) (hx : k < x.length) (hy : y.length ≤ k) : r = 1 := by
  rw [h, List.drop_eq_getElem_cons hx, List.drop_of_length_le hy]; rfl
theorem lexL_left {α : Type} {c : α → α → Int} {x y : List α} {k : Nat} {r : Int} (h : r = lexL c (x.drop k) (y.drop k)) (hx : x.length ≤ k) (hy : k < y.length) : r = -1 := by
  rw [h, List.drop_eq_getElem_cons hy, List.drop_of_length_le hx]; rfl
theorem lexL_both {α : Type} {c : α → α → Int} {x y : List α} {k : Nat} {r : Int} (h : r = lexL c (x.drop k) (y.drop k)) (hx : x.length ≤ k) (hy : y.length ≤ k) : r = 0 := by
  rw [h, List.drop_of_length_le hx, List.drop_of_length_le hy]; rfl
end Go.Proofs.YthcghpbkadlliabGreatDoor

namespace Go.Proofs.YthcghpbkadlliabGreatDoor
open Go.RowKit
set_option maxRecDepth 100000

def AttrD.cells (a : AttrD) : Array Value := #[.string a.key, .int .i64 a.kind, .string a.text, .int .i64 a.num]
def attrV (a : AttrD) : Value := .agg #[.string a.key, .int .i64 a.kind, .string a.text, .int .i64 a.num]
def eventV (a : EventD) : Value := .agg #[.int .i64 a.moment, .string a.name]

theorem holds_new {w : World} {K : List Int} {n : Nat} (h : w.heap[n]? = some (.cells (intsV .i64 K).toArray 3 (0, 0))) : HoldsV w (some ⟨n, 0, none⟩) K.length (intsV .i64 K) := by
  refine ⟨by simp [intsV], fun j u hj => ⟨_, rfl, ?_⟩⟩
  rw [Addr.add_lit]
  simp [World.cell?, h, hj]

theorem alloc_at {w : World} {o : Obj} {n : Nat} (h : n = w.heap.size) : (w.alloc o).heap[n]? = some o := by subst h; exact heap_alloc_new w o

theorem or_at (w : World) (n : Nat) (K : List Int) (hs : n = w.heap.size) (hl : K.length ≤ 1000000) :
    Calls Tryz.prog 100 #[.slice (some ⟨n, 0, none⟩) K.length K.length] (w.alloc (.cells (K.map (Value.int .i64)).toArray 3)).drew fun e w' => e = .returned (.int .i64 (orL K)) ∧ w' = (w.alloc (.cells (K.map (Value.int .i64)).toArray 3)).drew :=
  or_any _ _ _ K _ (holds_new (w := (w.alloc (.cells (K.map (Value.int .i64)).toArray 3)).drew) (alloc_at hs)) hl

theorem key_any (a b : AttrD) (w : World) :
    Calls Tryz.prog 78 #[attrV a, attrV b] w fun e w' => e = .returned (.int .i64 (cmpS a.key b.key)) ∧ w' = (w.alloc (.cells #[.string a.key, .int .i64 a.kind, .string a.text, .int .i64 a.num] 56)).alloc (.cells #[.string b.key, .int .i64 b.kind, .string b.text, .int .i64 b.num] 56) := by
  unfold attrV
  go_enter Tryz.func78, Tryz.ntmps78
  go_wp2_with (go_at_call 98; refine (cmp_str _ _ _).mono ?_; rintro e w' ⟨rfl, rfl⟩)
  go_ret
  exact ⟨rfl, rfl⟩

theorem event_any (a b : EventD) (w : World) :
    Calls Tryz.prog 82 #[eventV a, eventV b] w fun e w' => e = .returned (.int .i64 (cmpE a b)) ∧ Below w.heap.size w w' := by
  unfold eventV
  have OR := fun o1 o2 => or_at ((w.alloc o1).alloc o2) (w.heap.size + 1 + 1) [cmpI a.moment b.moment, cmpS a.name b.name] (by simp) (by simp)
  simp only [List.map, List.length] at OR
  go_enter Tryz.func82, Tryz.ntmps82
  go_wp2
  go_region_held3 (fun w' => w'.cell? ⟨w.heap.size, 0, none⟩ = some (.int .i64 a.moment) ∧ w'.cell? ⟨w.heap.size, 1, none⟩ = some (.string a.name) ∧ w'.cell? ⟨w.heap.size + 1, 0, none⟩ = some (.int .i64 b.moment) ∧ w'.cell? ⟨w.heap.size + 1, 1, none⟩ = some (.string b.name)) (simp [go_sem, World.cell?_alloc_past])
    (first
      | (go_at_call 101; refine (cmp_i64 _ _ _).mono ?_; rintro e w' ⟨rfl, rfl⟩)
      | (go_at_call 98; refine (cmp_str _ _ _).mono ?_; rintro e w' ⟨rfl, rfl⟩)
      | (go_at_call 100; refine (OR _ _).mono ?_; rintro e w' ⟨rfl, rfl⟩))
  go_wp2
  go_ret
  exact ⟨rfl, ((((Below.refl _ _).alloc (Nat.le_refl _) _).alloc (by simp) _).alloc (by simp; omega) _).drew⟩

end Go.Proofs.YthcghpbkadlliabGreatDoor

namespace Go.Proofs.YthcghpbkadlliabGreatDoor
open Go.RowKit
set_option maxRecDepth 100000

/-- A list of attrs lies here. -/
structure AttrsAt (w : World) (ad : Option Addr) (n : Nat) (A : List AttrD) : Prop where
  len : A.length = n
  lies : 0 < n → ∃ b off, ad = some ⟨b, off, none⟩ ∧ ∀ i (_ : i < A.length), w.cell? ⟨b, off + i * 4, none⟩ = some (.string A[i].key) ∧ w.cell? ⟨b, off + i * 4 + 1, none⟩ = some (.int .i64 A[i].kind) ∧ w.cell? ⟨b, off + i * 4 + 2, none⟩ = some (.string A[i].text) ∧ w.cell? ⟨b, off + i * 4 + 3, none⟩ = some (.int .i64 A[i].num)
theorem AttrsAt.below {w w' : World} {ad : Option Addr} {n : Nat} {A : List AttrD} (h : AttrsAt w ad n A) (hb : Below w.heap.size w w') : AttrsAt w' ad n A := by
  refine ⟨h.len, fun hp => ?_⟩
  obtain ⟨b, off, ha, hc⟩ := h.lies hp
  refine ⟨b, off, ha, fun i hi => ?_⟩
  obtain ⟨c0, c1, c2, c3⟩ := hc i hi
  exact ⟨(hb.cell (World.block_lt_of_cell? w _ c0)).trans c0, (hb.cell (World.block_lt_of_cell? w _ c1)).trans c1, (hb.cell (World.block_lt_of_cell? w _ c2)).trans c2, (hb.cell (World.block_lt_of_cell? w _ c3)).trans c3⟩

/-- A list of events lies here. -/
structure EventsAt (w : World) (ad : Option Addr) (n : Nat) (A : List EventD) : Prop where
  len : A.length = n
  lies : 0 < n → ∃ b off, ad = some ⟨b, off, none⟩ ∧ ∀ i (_ : i < A.length), w.cell? ⟨b, off + i * 2, none⟩ = some (.int .i64 A[i].moment) ∧ w.cell? ⟨b, off + i * 2 + 1, none⟩ = some (.string A[i].name)
theorem EventsAt.below {w w' : World} {ad : Option Addr} {n : Nat} {A : List EventD} (h : EventsAt w ad n A) (hb : Below w.heap.size w w') : EventsAt w' ad n A := by
  refine ⟨h.len, fun hp => ?_⟩
  obtain ⟨b, off, ha, hc⟩ := h.lies hp
  refine ⟨b, off, ha, fun i hi => ?_⟩
  obtain ⟨c0, c1⟩ := hc i hi
  exact ⟨(hb.cell (World.block_lt_of_cell? w _ c0)).trans c0, (hb.cell (World.block_lt_of_cell? w _ c1)).trans c1⟩

end Go.Proofs.YthcghpbkadlliabGreatDoor
