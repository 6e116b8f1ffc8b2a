/-
  Merged: Mx, Mq, EN, EH, IE, IA, IC, ID, IF.
-/
import Derived.Test.YtbefeobikjnlpaaGreatDoorZmq
import Derived.Deep.DeepAppendWide
import Derived.Test.YtbefeobikjnlpaaGreatDoorCHq
import Derived.Test.YtbefeobikjnlpaaGreatDoorCMq
import Derived.Test.YtbefeobikjnlpaaGreatDoorCUq
import Derived.Test.YtbefeobikjnlpaaGreatDoorTVq
import Derived.Test.YtbefeobikjnlpaaGreatDoorGMq
import Derived.Test.YtbefeobikjnlpaaGreatDoorQAq
import Derived.Test.YtbefeobikjnlpaaGreatDoorTJq
import Derived.Test.YtbefeobikjnlpaaGreatDoorTQq
import Derived.Test.YtbefeobikjnlpaaGreatDoorCIq
import Derived.Test.YtbefeobikjnlpaaGreatDoorOZ
import Derived.BigQuiet
import Derived.Test.YtbefeobikjnlpaaGreatDoorCKq
namespace Go.Proofs.YtbefeobikjnlpaaGreatDoor
open Go Go.RowKit

/-- Of the row's block, nothing is changed but where the new cells come to lie. -/
def Over (w w' : World) (v : Value) (e : TypeId) (d : Nat) (news : List Value) : Prop := ∀ k cur, v.ownBlock = some k → w.heap[k]? = some (.cells cur e (0, 0)) →
  ∃ cur', w'.heap[k]? = some (.cells cur' e (0, 0)) ∧ cur'.size = cur.size ∧ ∀ j, cur'[j]? = cur[j]? ∨ (d ≤ j ∧ j < d + news.length ∧ cur'[j]? = news[j - d]?)

theorem over_get (cur news : List Value) (d j : Nat) (hf : d + news.length ≤ cur.length) :
    (cur.take d ++ news ++ cur.drop (d + news.length)).toArray[j]? = cur.toArray[j]? ∨ (d ≤ j ∧ j < d + news.length ∧ (cur.take d ++ news ++ cur.drop (d + news.length)).toArray[j]? = news[j - d]?) := by
  simp only [List.getElem?_toArray]
  have hd : (cur.take d).length = d := by simp; omega
  by_cases h1 : j < d
  · left
    rw [List.append_assoc, List.getElem?_append_left (by omega), List.getElem?_take, if_pos h1]
  · by_cases h2 : j < d + news.length
    · right
      refine ⟨by omega, h2, ?_⟩
      rw [List.append_assoc, List.getElem?_append_right (by omega), hd, List.getElem?_append_left (by omega)]
    · left
      rw [List.getElem?_append_right (by simp; omega), List.getElem?_drop]
      congr 1
      simp
      omega

theorem run_appX {P : Program} (w : World) (base : Nat) (t tx ty e : TypeId) (i : TypeInfo) (z : Value) (s : Nat) (ht : P.underlying t = some (.slice e)) (hi : P.info? e = some i) (hz : i.zero = some z) (hsize : i.size = s) (hzs : z.cells.size = s)
    (v : Value) (n : Nat) (xs : List Value) (hown : w.ownsRow base e s v n xs) (x : Value) (m : Nat) (news : List Value) (hs : Src P s tx x m news w)
    (h63 : n + m ≤ maxLen) (hbytes : (n + m + (n + m) / 4 + 192) * i.bytes ≤ 281474976710656) (hbase : base ≤ w.heap.size) :
    ∃ v' w', (Builtin.append_ #[t, tx] ty #[v, x]).run P w = .ok v' w' ∧ w'.ownsRow base e s v' (n + m) (xs ++ news) ∧ w.grownBy w' v.ownBlock ∧ Moved w v v' ∧ Over w w' v e (n * s) news := by
  have hs' : Src P i.size tx x m news w := by rw [hsize]; exact hs
  have hnl : news.length = m * s := hs.newsLen
  have hxl : xs.length = n * s := hown.1
  have hnm : (n + m) * s = n * s + m * s := Nat.add_mul _ _ _
  have hsmall : n + m ≤ 9223372036854775807 := by simp only [maxLen] at h63; omega
  have grow : ∀ (ad : Option Addr) (cap : Nat), v = .slice ad n cap → cap < n + m → (Builtin.firstCells i.size n v).run P w.drew = .ok xs.toArray w.drew →
      ∃ v' w', (Builtin.append_ #[t, tx] ty #[v, x]).run P w = .ok v' w' ∧ w'.ownsRow base e s v' (n + m) (xs ++ news) ∧ w.grownBy w' v.ownBlock ∧ Moved w v v' ∧ Over w w' v e (n * s) news := by
    intro ad cap hv hc hold
    subst hv
    have hr := run_append_grow_src (P := P) w t tx ty e i z ht hi hz ad n cap xs hold x m news hs' hc (by omega) (growslice_fits_wide (by omega) hbytes)
    refine ⟨_, _, hr, ⟨by simp; omega, Or.inr ⟨w.heap.size, _, _, rfl, hbase, heap_alloc_new w.drew _, grownCap_ge w (n + m) cap e, grownCap_le_maxLen w (n + m) cap e h63, ?_, ?_⟩⟩, ⟨rfl, rfl, rfl, by simp, fun k hk _ => Below.heap_alloc w.drew _ k hk⟩, Or.inr ⟨w.heap.size, rfl, Nat.le_refl _⟩, ?_⟩
    · have hge := grownCap_ge w (n + m) cap e
      obtain ⟨d, hd⟩ : ∃ d, grownCap w (n + m) cap e = n + m + d := ⟨grownCap w (n + m) cap e - (n + m), by omega⟩
      rw [hd]
      simp only [Array.size_append, List.size_toArray, size_zeroCells, hzs, List.length_append, hxl, hnl, Nat.add_sub_cancel_left, Nat.add_mul]
    · simp only [Array.toList_append]
      rw [show (n + m) * s = (xs ++ news).length by simp; omega]
      exact List.take_left
    · intro k cur _ hk
      exact ⟨cur, (Below.heap_alloc w.drew _ k (lt_of_block hk)).trans hk, rfl, fun _ => Or.inl rfl⟩
  rcases hown.2 with ⟨rfl, rfl⟩ | ⟨g, cap, cur, rfl, hbg, hg, hnc, hcm, hcs, htake⟩
  · have hx : xs = [] := List.eq_nil_of_length_eq_zero (by simpa using hxl)
    subst hx
    by_cases hm : m = 0
    · subst hm
      have hn : news = [] := List.eq_nil_of_length_eq_zero (by simpa using hnl)
      subst hn
      refine ⟨.slice none 0 0, w, ?_, World.ownsRow_nil w base e s, ⟨rfl, rfl, rfl, Nat.le_refl _, fun _ _ _ => rfl⟩, Moved.refl _ _, fun k cur hk _ => by simp [Value.ownBlock] at hk⟩
      have hc := hs'.cells
      rcases hs.kind with ⟨e', hk⟩ | hk <;> simp [Builtin.append_, run_underlying ht, run_underlying hk, sizeOf, typeInfo, hi, hs.len, hc]
    · exact grow none 0 rfl (by omega) (run_firstCells_none w.drew i.size 0 0 0)
  · by_cases hroom : n + m ≤ cap
    · have hcap : (n + m) * s ≤ cap * s := Nat.mul_le_mul_right _ hroom
      have hfit : n * i.size + news.length ≤ cur.size := by rw [hsize]; omega
      have hst := run_storeCells_at P g (n * i.size) e news 0 cur w hg (by simpa using hfit) hs.one
      simp only [Nat.add_zero] at hst
      have hr : (Builtin.append_ #[t, tx] ty #[.slice (some ⟨g, 0, none⟩) n cap, x]).run P w = .ok (.slice (some ⟨g, 0, none⟩) (n + m) cap) (w.setRow g (cur.toList.take (n * i.size) ++ news ++ cur.toList.drop (n * i.size + news.length)).toArray) := by
        rcases hs.kind with ⟨e', hk⟩ | hk <;> simp [Builtin.append_, run_underlying ht, run_underlying hk, sizeOf, typeInfo, hi, hs.len, hroom, hs'.cells, Addr.add_lit, hst]
      refine ⟨_, _, hr, ⟨by simp; omega, Or.inr ⟨g, cap, _, rfl, hbg, setRow_heap w g cur _ e _ hg, hroom, hcm, ?_, ?_⟩⟩, ⟨rfl, rfl, rfl, by simp, fun k _ hk => setRow_other w g k _ (fun e => hk (by simp [Value.ownBlock, e]))⟩, Or.inl rfl, ?_⟩
      · simp only [List.size_toArray, List.length_append, List.length_take, List.length_drop, Array.length_toList]
        omega
      · rw [hsize, htake, show (n + m) * s = (xs ++ news).length by simp; omega]
        exact List.take_left
      · intro k cur2 hk2 hc2
        simp [Value.ownBlock] at hk2
        subst hk2
        rw [hg] at hc2
        simp at hc2
        subst hc2
        refine ⟨_, setRow_heap w g cur _ e _ hg, ?_, fun j => ?_⟩
        · simp only [List.size_toArray, List.length_append, List.length_take, List.length_drop, Array.length_toList]
          omega
        · rw [← hsize]
          exact over_get cur.toList news (n * i.size) j (by simpa using hfit)
    · have holds : ∀ j u, xs[j]? = some u → w.drew.cell? ((⟨g, 0, none⟩ : Addr).add j) = some u := by simpa using hown.cells (g := g) rfl
      exact grow (some ⟨g, 0, none⟩) cap rfl (by omega) (run_firstCells_some w.drew i.size n ⟨g, 0, none⟩ n cap xs (by rw [hsize]; omega) holds)

/-- An append to an owned row, in a walk. -/
theorem wpList_appX {P : Program} (w : World) {ops : Array Oper} {rest : List Oper} {o : Oper} {a : Act} {Q : Exit → Act → World → Prop} (hgd : o.guard = none) (s x : Operand) (t tx : TypeId)
    (ho : o.op = .call { callee := .builtin .append, args := #[s, x], argTypes := #[t, tx] })
    (base : Nat) (e : TypeId) (i : TypeInfo) (z : Value) (size bytes : Nat) (ht : P.underlying t = some (.slice e)) (hi : P.info? e = some i) (hz : i.zero = some z) (hsize : i.size = size) (hby : i.bytes = bytes) (hzs : z.cells.size = size)
    (v : Value) (n : Nat) (xs : List Value) (hv : a.eval s = v) (hown : w.ownsRow base e size v n xs) (y : Value) (m : Nat) (news : List Value) (hx : a.eval x = y) (hs : Src P size tx y m news w)
    (h63 : n + m ≤ maxLen) (hbytes : (n + m + (n + m) / 4 + 192) * bytes ≤ 281474976710656) (hbase : base ≤ w.heap.size)
    (h : ∀ v' w', w'.ownsRow base e size v' (n + m) (xs ++ news) → w.grownBy w' v.ownBlock → Moved w v v' → Over w w' v e (n * size) news → wpList P ops Q rest (a.put o.dst v') w') : wpList P ops Q (o :: rest) a w := by
  subst hby
  refine wpList_plain hgd fun K hK => ?_
  obtain ⟨v', w', hr, h2, h3, h4, h5⟩ := run_appX (P := P) w base t tx o.type e i z size ht hi hz hsize hzs v n xs hown y m news hs h63 hbytes hbase
  unfold Oper.wp execOp
  simp only [ho, resolve, invoke, builtin, Sem.run_bind, Sem.run_pure, Result.andThen_ok, List.map_toArray, List.map_cons, List.map_nil, hv, hx, hr]
  exact hK _ _ (h v' w' h2 h3 h4 h5)
end Go.Proofs.YtbefeobikjnlpaaGreatDoor

namespace Go.Proofs.YtbefeobikjnlpaaGreatDoor
open Go Go.RowKit

/-- So many marks, one behind the other. -/
def marks (m : List Value) (n : Nat) : List Value := (List.replicate n m).flatten
theorem marks_len (m : List Value) (n : Nat) : (marks m n).length = n * m.length := by simp [marks]
theorem marks_succ (m : List Value) (n : Nat) : marks m n ++ m = marks m (n + 1) := by
  unfold marks
  rw [show n + 1 = n + 1 from rfl, List.replicate_succ', List.flatten_append]
  simp
theorem marks_get (m : List Value) (n t : Nat) (ht : t < n * m.length) : (marks m n)[t]? = m[t % m.length]? := by
  induction n generalizing t with
  | zero => omega
  | succ n ih =>
    rw [← marks_succ]
    have hl := marks_len m n
    have hs : (n + 1) * m.length = n * m.length + m.length := Nat.succ_mul _ _
    by_cases h1 : t < n * m.length
    · rw [List.getElem?_append_left (by omega)]
      exact ih t h1
    · rw [List.getElem?_append_right (by omega), hl]
      congr 1
      obtain ⟨d, rfl⟩ : ∃ d, t = d + n * m.length := ⟨t - n * m.length, by omega⟩
      rw [Nat.add_sub_cancel, Nat.add_mul_mod_self_right, Nat.mod_eq_of_lt (by omega)]
/-- A row that is full of marks. -/
def Full (base : Nat) (e : TypeId) (m : List Value) (w : World) (v : Value) : Prop := ∃ n, w.ownsRow base e m.length v n (marks m n)
theorem Full.lt {base : Nat} {e : TypeId} {m : List Value} {w : World} {v : Value} (h : Full base e m w v) {j : Nat} (hj : v.ownBlock = some j) : j < w.heap.size ∧ base ≤ j := by
  obtain ⟨n, h⟩ := h
  rcases h.2 with ⟨rfl, _⟩ | ⟨g, cap, cur, rfl, hb, hg, _⟩
  · simp [Value.ownBlock] at hj
  · simp [Value.ownBlock] at hj
    subst hj
    exact ⟨lt_of_block hg, hb⟩
theorem Full.upd {S : Nat → Prop} {base : Nat} {e : TypeId} {m : List Value} {w w' : World} {v : Value} (h : Full base e m w v) (hu : Upd S w w') (hS : ∀ k, v.ownBlock = some k → ¬ S k) : Full base e m w' v := by
  obtain ⟨n, h⟩ := h
  exact ⟨n, ownsRow_upd h hu hS⟩
/-- Where the same mark is written behind a row, a row in the same block stays full of it. -/
theorem Full.over {base : Nat} {e : TypeId} {m : List Value} {w w' : World} {u v : Value} {n : Nat} (h : Full base e m w u) (k : Nat) (hu : u.ownBlock = some k) (hv : v.ownBlock = some k) (ho : Over w w' v e (n * m.length) m) : Full base e m w' u := by
  obtain ⟨n', h⟩ := h
  refine ⟨n', h.1, ?_⟩
  rcases h.2 with h | ⟨g, cap, cur, rfl, hb, hg, h1, h2, h3, h4⟩
  · exact Or.inl h
  · simp [Value.ownBlock] at hu
    subst hu
    obtain ⟨cur', c1, c2, c3⟩ := ho g cur hv hg
    refine Or.inr ⟨g, cap, cur', rfl, hb, c1, h1, h2, by omega, ?_⟩
    have hle : n' * m.length ≤ cap * m.length := Nat.mul_le_mul_right _ h1
    refine List.ext_getElem? fun t => ?_
    by_cases ht : t < n' * m.length
    · rw [List.getElem?_take, if_pos ht, marks_get m n' t ht]
      have e4 : cur.toList[t]? = m[t % m.length]? := by
        have := congrArg (·[t]?) h4
        simp only [List.getElem?_take, if_pos ht] at this
        rw [this, marks_get m n' t ht]
      rw [Array.getElem?_toList] at e4 ⊢
      rcases c3 t with e | ⟨h5, h6, e⟩
      · rw [e, e4]
      · rw [e]
        obtain ⟨d, rfl⟩ : ∃ d, t = d + n * m.length := ⟨t - n * m.length, by omega⟩
        rw [Nat.add_sub_cancel, Nat.add_mul_mod_self_right, Nat.mod_eq_of_lt (by omega)]
    · rw [List.getElem?_eq_none (by simp; omega), List.getElem?_eq_none (by rw [marks_len]; omega)]
/-- A family of rows, each with its number; those of two numbers lie in different blocks. -/
structure Fams (base : Nat) (e : TypeId) (mk : Nat → List Value) (w : World) (fam : Nat → Value → Prop) : Prop where
  full : ∀ i u, fam i u → Full base e (mk i) w u
  apart : ∀ i u j v, fam i u → fam j v → i ≠ j → ∀ k, u.ownBlock = some k → v.ownBlock ≠ some k
theorem Fams.less {base : Nat} {e : TypeId} {mk : Nat → List Value} {w : World} {fam fam' : Nat → Value → Prop} (h : Fams base e mk w fam) (hs : ∀ i u, fam' i u → fam i u) : Fams base e mk w fam' :=
  ⟨fun i u hm => h.full i u (hs _ _ hm), fun i u j v h1 h2 => h.apart i u j v (hs _ _ h1) (hs _ _ h2)⟩
theorem Fams.upd {S : Nat → Prop} {base : Nat} {e : TypeId} {mk : Nat → List Value} {w w' : World} {fam : Nat → Value → Prop} (h : Fams base e mk w fam) (hu : Upd S w w') (hS : ∀ i u k, fam i u → u.ownBlock = some k → ¬ S k) : Fams base e mk w' fam :=
  ⟨fun i u hm => (h.full i u hm).upd hu (fun k hk => hS i u k hm hk), h.apart⟩
/-- One more. -/
def plus (i : Nat) (g : Value) (fam : Nat → Value → Prop) : Nat → Value → Prop := fun j v => (j = i ∧ v = g) ∨ fam j v
/-- One mark more behind one of the rows. -/
theorem Fams.step {base : Nat} {e : TypeId} {mk : Nat → List Value} {w w' : World} {fam : Nat → Value → Prop} {i n : Nat} {g g' : Value} (h : Fams base e mk w fam) (hm : fam i g)
    (ho : w'.ownsRow base e (mk i).length g' (n + 1) (marks (mk i) n ++ mk i)) (hg : w.grownBy w' g.ownBlock) (mv : Moved w g g') (ov : Over w w' g e (n * (mk i).length) (mk i)) :
    Fams base e mk w' (plus i g' fam) := by
  have u : Upd (fun j => g.ownBlock = some j) w w' := (Upd.refl _ _).grown hg (fun _ _ e => e)
  refine ⟨fun j v hv => ?_, fun a v b x h1 h2 hne k hk hx => ?_⟩
  · rcases hv with ⟨rfl, rfl⟩ | hv
    · exact ⟨n + 1, by rw [← marks_succ]; exact ho⟩
    · have hf := h.full j v hv
      by_cases hji : j = i
      · subst hji
        by_cases hb : ∃ k, g.ownBlock = some k ∧ v.ownBlock = some k
        · obtain ⟨k, hk1, hk2⟩ := hb
          exact hf.over k hk2 hk1 ov
        · exact hf.upd u (fun k hk hg => hb ⟨k, hg, hk⟩)
      · exact hf.upd u (fun k hk hg => h.apart j v i g hv hm hji k hk hg)
  · have key : ∀ j y, fam j y → j ≠ i → ∀ k, g'.ownBlock = some k → y.ownBlock ≠ some k := by
      intro j y hy hji k hk hyk
      rcases mv with e | ⟨k', e, hk'⟩
      · exact h.apart i g j y hm hy (fun e => hji e.symm) k (e ▸ hk) hyk
      · rw [hk] at e
        simp at e
        have := ((h.full j y hy).lt hyk).1
        omega
    rcases h1 with ⟨rfl, rfl⟩ | h1
    · rcases h2 with ⟨rfl, rfl⟩ | h2
      · exact hne rfl
      · exact key b x h2 (fun e => hne e.symm) k hk hx
    · rcases h2 with ⟨rfl, rfl⟩ | h2
      · exact key a v h1 hne k hx hk
      · exact h.apart a v b x h1 h2 hne k hk hx
end Go.Proofs.YtbefeobikjnlpaaGreatDoor

namespace Go.Proofs.YtbefeobikjnlpaaGreatDoor.sk.oc
open Go Go.RowKit
set_option maxRecDepth 100000

/-- Cells are written into a row of one's own. -/
theorem own_put {base : Nat} {e : TypeId} {s : Nat} {w w' : World} {g n cap : Nat} {cur : Array Value} {xs : List Value} (h : w.ownsRow base e s (.slice (some ⟨g, 0, none⟩) n cap) n xs) (hg : w.heap[g]? = some (.cells cur e (0, 0))) (off : Nat) (cs : List Value) (hf : off + cs.length ≤ n * s)
    (hw : w'.heap[g]? = some (.cells (cur.toList.take off ++ cs ++ cur.toList.drop (off + cs.length)).toArray e (0, 0))) : w'.ownsRow base e s (.slice (some ⟨g, 0, none⟩) n cap) n (xs.take off ++ cs ++ xs.drop (off + cs.length)) := by
  obtain ⟨h1, h2⟩ := h
  rcases h2 with ⟨e, _⟩ | ⟨g', cap', cur', e, hb, hg', hc, hm, hs, ht⟩
  · cases e
  · cases e
    rw [hg] at hg'
    simp at hg'
    subst hg'
    have hle : n * s ≤ cap * s := Nat.mul_le_mul_right _ hc
    have hcl : cur.toList.length = cap * s := by simpa using hs
    refine ⟨by simp; omega, Or.inr ⟨g, cap, _, rfl, hb, hw, hc, hm, ?_, ?_⟩⟩
    · simp only [List.size_toArray, List.length_append, List.length_take, List.length_drop]
      omega
    · rw [← ht]
      have e1 : (List.take off (List.take (n * s) cur.toList)) = cur.toList.take off := by rw [List.take_take]; congr 1; omega
      rw [e1]
      have hl1 : (cur.toList.take off ++ cs).length = off + cs.length := by simp; omega
      rw [List.take_append, List.take_of_length_le (by omega), hl1, List.drop_take]
/-- A mark takes the place of the k-th element, in a walk. -/
theorem wpList_stM {ops : Array Oper} {rest : List Oper} {op : Oper} {a : Act} {w : World} {Q : Exit → Act → World → Prop} (hgd : op.guard = none) (x y : Operand) (ho : op.op = .store 68 x y) (base g k n cap : Nat) (xs cs : List Value) (hcs : cs.length = 5) (h1 : ∀ v ∈ cs, v.oneCell' = true) (hO : w.ownsRow base 68 5 (.slice (some ⟨g, 0, none⟩) n cap) n xs) (hk : k < n) (hx : a.eval x = .pointer (some ⟨g, k * 5, none⟩)) (hy : a.eval y = .agg cs.toArray)
    (hK : ∀ w', w'.ownsRow base 68 5 (.slice (some ⟨g, 0, none⟩) n cap) n (xs.take (k * 5) ++ cs ++ xs.drop (k * 5 + cs.length)) → Upd (fun j => j = g) w w' → wpList Tryz.prog ops Q rest (a.put op.dst undef) w') : wpList Tryz.prog ops Q (op :: rest) a w := by
  have hO' := hO
  obtain ⟨hx1, ⟨e, he⟩ | ⟨g', cap', cur, e, hbg, hg, q1, q2, q3, q4⟩⟩ := hO
  · cases e
  cases e
  have hle : n * 5 ≤ cap * 5 := Nat.mul_le_mul_right _ q1
  have hB : Blk w g cur.toList.toArray 68 := by
    show w.heap[g]? = _
    rw [hg]
  have hlen : cur.toList.length = cap * 5 := by simpa using q3
  refine wpList_store_mid hgd 68 x y ho g (k * 5) cs.toArray hx hy (by rw [List.size_toArray, hcs]; exact Blk.there hB _ _ (by omega)) (by rw [List.size_toArray, hcs]; kernel_rfl) (all_oneCell_toArray h1) ?_
  refine hK _ (own_put hO' hg (k * 5) cs (by omega) ?_) (setCells_upd _ _ _ _)
  have := setCells_blk cs (k * 5) cur.toList w hB
  rw [putL_eq cs cur.toList (k * 5) (by omega)] at this
  exact this
/-- A piece that is a mark. -/
def mkP (i : Nat) : List Value := [.int .i64 0, .string ⟨#[]⟩, .string ⟨#[]⟩, .bool false, .int .u64 (7000 + (i : Int))]
theorem mkP_one (i : Nat) : ∀ v ∈ mkP i, v.oneCell' = true := by
  intro v hv
  simp [mkP] at hv
  rcases hv with rfl | rfl | rfl | rfl | rfl <;> rfl
theorem marks_put {base : Nat} {w' : World} {v : Value} {n k i : Nat} {ys : List Value} (o : w'.ownsRow base 68 5 v n ((marks (mkP i) k ++ ys).take (k * 5) ++ mkP i ++ (marks (mkP i) k ++ ys).drop (k * 5 + (mkP i).length))) : w'.ownsRow base 68 5 v n (marks (mkP i) (k + 1) ++ ys.drop 5) := by
  have hml := marks_len (mkP i) k
  have hm4 : (mkP i).length = 5 := rfl
  rw [hm4] at hml
  have e4 : (marks (mkP i) k ++ ys).take (k * 5) ++ mkP i ++ (marks (mkP i) k ++ ys).drop (k * 5 + (mkP i).length) = marks (mkP i) (k + 1) ++ ys.drop 5 := by
    rw [← marks_succ, ← hml, List.take_left, List.drop_append, List.drop_of_length_le (by omega)]
    simp [hm4]
  rw [e4] at o
  exact o
theorem neqM (j : Nat) (W : World) : (binOp .neq 68 (.agg (mkP j).toArray) (.agg (mkP j).toArray)).run Tryz.prog W = .ok (.bool false) W := by
  have h := run_neqS (eqI_call 9996 0 0 ⟨#[]⟩ ⟨#[]⟩ ⟨#[]⟩ ⟨#[]⟩ false false (7000 + (j : Int)) (7000 + (j : Int)) W)
  rw [decide_eq_true ⟨rfl, rfl, rfl, rfl, rfl⟩] at h
  exact h
/-- Rows, the first i of them full of marks. -/
structure P1 (base : Nat) (w0 w : World) (g0 : Nat) (vs : List Value) (i : Nat) : Prop where
  below : Below base w0 w
  cells : w.heap[g0]? = some (.cells vs.toArray 31 (0, 0))
  rows : ∀ j (hj : j < vs.length), ∃ n xs, n ≤ 2513169434917 ∧ w.ownsRow base 68 5 vs[j] n xs ∧ (j < i → xs = marks (mkP j) n)
theorem P1.cell {base : Nat} {w0 w : World} {g0 : Nat} {vs : List Value} {i : Nat} (S : P1 base w0 w g0 vs i) (j : Nat) (hj : j < vs.length) : w.cell? ⟨g0, j, none⟩ = some vs[j] := by
  rw [cell_of_row _ _ j _ _ _ S.cells]
  simp [hj]
theorem P1.next {base : Nat} {w0 w : World} {g0 : Nat} {vs : List Value} {i n : Nat} (S : P1 base w0 w g0 vs i) (hi : i < vs.length) (hn : n ≤ 2513169434917) (ho : w.ownsRow base 68 5 vs[i] n (marks (mkP i) n)) : P1 base w0 w g0 vs (i + 1) := by
  refine ⟨S.below, S.cells, fun j hj => ?_⟩
  by_cases h : j = i
  · subst h
    exact ⟨n, _, hn, ho, fun _ => rfl⟩
  · obtain ⟨n', xs, h1, h2, h3⟩ := S.rows j hj
    exact ⟨n', xs, h1, h2, fun hl => h3 (by omega)⟩
theorem P1.upd {base : Nat} {w0 w w' : World} {g0 : Nat} {vs : List Value} {i n g cap : Nat} {xs : List Value} (S : P1 base w0 w g0 vs i) (hi : i < vs.length) (hv : vs[i] = .slice (some ⟨g, 0, none⟩) n cap) (hbw : base ≤ w.heap.size)
    (ap : ∀ a b (ha : a < vs.length) (hb : b < vs.length), a ≠ b → ∀ k, vs[a].ownBlock = some k → vs[b].ownBlock ≠ some k) (hbg : base ≤ g) (hne : g0 ≠ g) (u : Upd (fun j => j = g) w w') (hn : n ≤ 2513169434917) (ho : w'.ownsRow base 68 5 vs[i] n xs) : P1 base w0 w' g0 vs i := by
  refine ⟨S.below.trans (u.below hbw (fun k hk e => by omega)), (u.block _ (lt_of_block S.cells) hne).trans S.cells, fun j hj => ?_⟩
  by_cases h : j = i
  · subst h
    exact ⟨n, xs, hn, ho, fun h => absurd h (Nat.lt_irrefl _)⟩
  · obtain ⟨n', xs', h1, h2, h3⟩ := S.rows j hj
    exact ⟨n', xs', h1, ownsRow_upd h2 u (fun k hk e => ap i j hi hj (fun e => h e.symm) g (by rw [hv]; rfl) (e ▸ hk)), h3⟩

theorem own_block {base : Nat} {e : TypeId} {s : Nat} {w : World} {v : Value} {n : Nat} {xs : List Value} (h : w.ownsRow base e s v n xs) {k : Nat} (hk : v.ownBlock = some k) : ∃ cur, w.heap[k]? = some (.cells cur e (0, 0)) := by
  rcases h.2 with ⟨rfl, _⟩ | ⟨g, cap, cur, rfl, hb, hg, _⟩
  · simp [Value.ownBlock] at hk
  · simp [Value.ownBlock] at hk
    subst hk
    exact ⟨cur, hg⟩
/-- Rows full of marks, the list of all that were made of them. -/
structure P2 (base : Nat) (w0 w : World) (g0 : Nat) (vs : List Value) (L : Value) (us : List Value) (F : Nat → Value → Prop) : Prop where
  below : Below base w0 w
  cells : w.heap[g0]? = some (.cells vs.toArray 31 (0, 0))
  long : w.ownsRow base 31 1 L us.length us
  fams : Fams base 68 mkP w F
  ne : L.ownBlock ≠ some g0
def famP (vs us : List Value) : Nat → Value → Prop := fun j v => vs[j]? = some v ∨ ∃ t : Nat, us[t]? = some v ∧ t / 3 = j
theorem P2.cell {base : Nat} {w0 w : World} {g0 : Nat} {vs : List Value} {L : Value} {us : List Value} {F : Nat → Value → Prop} (S : P2 base w0 w g0 vs L us F) (j : Nat) (hj : j < vs.length) : w.cell? ⟨g0, j, none⟩ = some vs[j] := by
  rw [cell_of_row _ _ j _ _ _ S.cells]
  simp [hj]
theorem P2.less {base : Nat} {w0 w : World} {g0 : Nat} {vs : List Value} {L : Value} {us : List Value} {F F' : Nat → Value → Prop} (S : P2 base w0 w g0 vs L us F) (h : ∀ i u, F' i u → F i u) : P2 base w0 w g0 vs L us F' :=
  ⟨S.below, S.cells, S.long, S.fams.less h, S.ne⟩
theorem P2.alloc {base : Nat} {w0 w : World} {g0 : Nat} {vs : List Value} {L : Value} {us : List Value} {F : Nat → Value → Prop} (S : P2 base w0 w g0 vs L us F) (hb : base ≤ w.heap.size) (o : Obj) : P2 base w0 (w.alloc o) g0 vs L us F := by
  have u : Upd (fun _ => False) w (w.alloc o) := (Upd.refl _ _).alloc o
  exact ⟨S.below.alloc hb o, (u.block _ (lt_of_block S.cells) (fun h => h)).trans S.cells, ownsRow_upd S.long u (fun _ _ h => h), S.fams.upd u (fun _ _ _ _ _ h => h), S.ne⟩
theorem P2.grow {base : Nat} {w0 w w' : World} {g0 : Nat} {vs : List Value} {L : Value} {us : List Value} {F : Nat → Value → Prop} {i n : Nat} {g g' : Value} (S : P2 base w0 w g0 vs L us F) (hb : base ≤ w.heap.size) (hm : F i g)
    (ho : w'.ownsRow base 68 5 g' (n + 1) (marks (mkP i) n ++ mkP i)) (hg : w.grownBy w' g.ownBlock) (mv : Moved w g g') (ov : Over w w' g 68 (n * 5) (mkP i)) : P2 base w0 w' g0 vs L us (plus i g' F) := by
  have u : Upd (fun j => g.ownBlock = some j) w w' := (Upd.refl _ _).grown hg (fun _ _ e => e)
  obtain ⟨nn, hgo⟩ := S.fams.full i g hm
  have hty : ∀ k, g.ownBlock = some k → ∃ cur, w.heap[k]? = some (.cells cur 68 (0, 0)) := fun k hk => own_block hgo hk
  refine ⟨S.below.trans (u.below hb (fun k hk e => by have := ((S.fams.full i g hm).lt e).2; omega)), (u.block _ (lt_of_block S.cells) (fun e => ?_)).trans S.cells, ownsRow_upd S.long u (fun k hk e => ?_), S.fams.step hm ho hg mv ov, S.ne⟩
  · obtain ⟨cur, hc⟩ := hty _ e
    rw [S.cells] at hc
    simp at hc
  · obtain ⟨cur, hc⟩ := hty _ e
    obtain ⟨cur', hc'⟩ := own_block S.long hk
    rw [hc'] at hc
    simp at hc
theorem P2.more {base : Nat} {w0 w w' : World} {g0 : Nat} {vs : List Value} {L L' : Value} {us new : List Value} {F : Nat → Value → Prop} (S : P2 base w0 w g0 vs L us F) (hb : base ≤ w.heap.size)
    (ho : w'.ownsRow base 31 1 L' (us.length + new.length) (us ++ new)) (hg : w.grownBy w' L.ownBlock) (mv : Moved w L L') : P2 base w0 w' g0 vs L' (us ++ new) F := by
  have u : Upd (fun j => L.ownBlock = some j) w w' := (Upd.refl _ _).grown hg (fun _ _ e => e)
  refine ⟨S.below.trans (u.below hb (fun k hk e => ?_)), (u.block _ (lt_of_block S.cells) S.ne).trans S.cells, by rw [List.length_append]; exact ho, S.fams.upd u (fun i v k hf hk e => ?_), fun e => ?_⟩
  · rcases S.long.2 with ⟨h, _⟩ | ⟨g, cap, cur, h, hbg, _⟩
    · rw [h] at e; simp [Value.ownBlock] at e
    · rw [h] at e; simp [Value.ownBlock] at e; omega
  · obtain ⟨nn, hgo⟩ := S.fams.full i v hf
    obtain ⟨cur, hc⟩ := own_block hgo hk
    obtain ⟨cur', hc'⟩ := own_block S.long e
    rw [hc'] at hc
    simp at hc
  · rcases mv with h | ⟨k, h, hk⟩
    · exact S.ne (h ▸ e)
    · rw [e] at h
      simp at h
      have := lt_of_block S.cells
      omega
theorem P1.start {base : Nat} {w0 w : World} {g0 : Nat} {vs : List Value} (S : P1 base w0 w g0 vs vs.length)
    (ap : ∀ a b (ha : a < vs.length) (hb : b < vs.length), a ≠ b → ∀ k, vs[a].ownBlock = some k → vs[b].ownBlock ≠ some k) : P2 base w0 w g0 vs (.slice none 0 0) [] (famP vs []) := by
  refine ⟨S.below, S.cells, World.ownsRow_nil _ _ _ _, ⟨fun i u h => ?_, fun i u j v h1 h2 hne k hk => ?_⟩, by simp [Value.ownBlock]⟩
  · rcases h with h | ⟨t, h, _⟩
    · obtain ⟨hi, rfl⟩ := List.getElem?_eq_some_iff.1 h
      obtain ⟨n, xs, _, ho, hx⟩ := S.rows i hi
      rw [hx hi] at ho
      exact ⟨n, ho⟩
    · simp at h
  · rcases h1 with h1 | ⟨t, h1, _⟩
    · rcases h2 with h2 | ⟨t, h2, _⟩
      · obtain ⟨hi, rfl⟩ := List.getElem?_eq_some_iff.1 h1
        obtain ⟨hj, rfl⟩ := List.getElem?_eq_some_iff.1 h2
        exact ap i j hi hj hne k hk
      · simp at h2
    · simp at h1
theorem fam_more (vs us : List Value) (j i : Nat) (u : Value) (a a2 a3 : Option Addr) (l l2 l3 c c2 c3 : Nat) (hul : us.length = 3 * j) (h0 : famP vs us j (.slice a l c)) (h : famP vs (us ++ [.slice a l c, .slice a2 l2 c2, .slice a3 l3 c3]) i u) :
    plus j (.slice a3 l3 c3) (plus j (.slice a2 l2 c2) (famP vs us)) i u := by
  rcases h with h | ⟨t, h, ht⟩
  · exact Or.inr (Or.inr (Or.inl h))
  · by_cases hl : t < us.length
    · rw [List.getElem?_append_left hl] at h
      exact Or.inr (Or.inr (Or.inr ⟨t, h, ht⟩))
    · rw [List.getElem?_append_right (by omega)] at h
      have hlt : t - us.length < 3 := by have := (List.getElem?_eq_some_iff.1 h).1; simpa using this
      have hij : i = j := by omega
      subst hij
      obtain ⟨d, hd⟩ : ∃ d, t - us.length = d := ⟨_, rfl⟩
      rw [hd] at h hlt
      match d, hlt, h with
      | 0, _, h => simp at h; subst h; exact Or.inr (Or.inr h0)
      | 1, _, h => simp at h; subst h; exact Or.inr (Or.inl ⟨rfl, rfl⟩)
      | 2, _, h => simp at h; subst h; exact Or.inl ⟨rfl, rfl⟩
theorem Tryz.infoL : (Tryz.prog.info? 31).map (fun i => (i.zero, i.size, i.bytes)) = some (some (.slice none 0 0), 1, 24) := by kernel_rfl

set_option maxHeartbeats 1000000 in
theorem oc_any (base g0 : Nat) (vs : List Value) (w : World) (S0 : P1 base w w g0 vs 0) (hb0 : base ≤ w.heap.size)
    (ap : ∀ a b (ha : a < vs.length) (hb : b < vs.length), a ≠ b → ∀ k, vs[a].ownBlock = some k → vs[b].ownBlock ≠ some k) (hvl : vs.length ≤ 1000) (m : Nat) (hm : vs.length = m) :
    Calls Tryz.prog 11 #[.slice (some ⟨g0, 0, none⟩) m m] w fun e w' => e = .returned (.bool true) ∧ Below base w w' := by
  have HAP : Hid (∀ a b (ha : a < vs.length) (hb : b < vs.length), a ≠ b → ∀ k, vs[a].ownBlock = some k → vs[b].ownBlock ≠ some k) := ap
  clear ap
  obtain ⟨i0, hip, hp0, hp1, hp2⟩ := info_parts Tryz.info68
  obtain ⟨i1, hiq, hq0, hq1, hq2⟩ := info_parts Tryz.infoL
  have HLN : Hid (∀ j (hj : j < vs.length), ∃ ao l c, vs[j] = .slice ao l c ∧ l ≤ 2513169434917) := fun j hj => by
    obtain ⟨n, xs, h1, h2, _⟩ := S0.rows j hj
    obtain ⟨ao, l, c, e⟩ := row_shape h2
    rw [e] at h2
    obtain ⟨h3, _⟩ := own_cap h2
    exact ⟨ao, l, c, e, by omega⟩
  have HAP2 := HAP
  rw [hm] at hvl
  go_enter Tryz.func11, Tryz.ntmps11
  go_wp2
  go_loopw [3] (fun a wr => ∃ i : Nat, a = .int .i64 i ∧ i ≤ m ∧ P1 base w wr g0 vs i) (fun a _ => m - (intOf a).toNat)
  case atStart => exact ⟨0, rfl, by omega, S0⟩
  case round =>
    obtain ⟨i, rfl, him, S⟩ := hrel
    by_cases hlt : i < m
    · have hz : (i : Int) < (m : Int) := by omega
      have hiv : i < vs.length := by omega
      obtain ⟨n, xs, hn, ho, hx⟩ := S.rows i hiv
      have hc := S.cell i hiv
      obtain ⟨v, hv⟩ : ∃ v, vs[i] = v := ⟨_, rfl⟩
      rw [hv] at ho hc
      obtain ⟨ao, l, c, rfl⟩ := row_shape ho
      obtain ⟨hl1, hl2, hl3⟩ := own_cap ho
      obtain rfl : n = l := hl1.symm
      clear hx hc
      go_wp2
      go_loopw [4] (fun a w2 => ∃ (k : Nat) (ys : List Value), a = .int .i64 k ∧ k ≤ n ∧ w2.ownsRow base 68 5 (.slice ao n c) n (marks (mkP i) k ++ ys) ∧ P1 base w w2 g0 vs i) (fun a _ => n - (intOf a).toNat)
      case atStart => exact ⟨0, xs, rfl, by omega, by simpa [marks] using ho, S⟩
      case round =>
        obtain ⟨k, ys, rfl, hkn, ho2, S2⟩ := hrel
        have hc2 := S2.cell i hiv
        rw [hv] at hc2
        by_cases hk : k < n
        · have hzk : (k : Int) < (n : Int) := by omega
          obtain ⟨g, cap, e, -⟩ := own_some ho2 (by omega)
          simp only [Value.slice.injEq] at e
          obtain ⟨rfl, -, rfl⟩ := e
          have hne : g0 ≠ g := fun e => by
            have h1 := S2.cells
            rcases ho2.2 with ⟨e', _⟩ | ⟨g', cap', cur, e', hbg, hg, _⟩
            · cases e'
            · cases e'
              rw [e, hg] at h1
              simp at h1
          have hbg : base ≤ g := by
            rcases ho2.2 with ⟨e', _⟩ | ⟨g', cap', cur, e', hbg, hg, _⟩
            · cases e'
            · cases e'
              exact hbg
          have HO2 : Hid (wr.ownsRow base 68 5 (.slice (some ⟨g, 0, none⟩) n c) n (marks (mkP i) k ++ ys)) := ho2
          have HS2 : Hid (P1 base w wr g0 vs i) := S2
          have HV : Hid (vs[i] = .slice (some ⟨g, 0, none⟩) n c) := hv
          have HNG : Hid (g0 ≠ g ∧ base ≤ g ∧ base ≤ wr.heap.size ∧ i < vs.length) := ⟨hne, hbg, by have := S2.below.size; omega, hiv⟩
          have hw7 : IntKind.i64.wrap (7000 + (i : Int)) = 7000 + (i : Int) := by rw [IntKind.wrap_i64]; omega
          have hu7 : IntKind.u64.wrap (7000 + (i : Int)) = 7000 + (i : Int) := by rw [IntKind.wrap_u64]; omega
          clear ho2 S2 hv hne hbg S ho
          go_wp2_with (refine wpList_stM rfl _ _ rfl base g k n c _ (mkP i) rfl (mkP_one i) HO2.out hk rfl rfl ?_; intro w4 o4 u4; have O4 : Hid (w4.ownsRow base 68 5 (.slice (some ⟨g, 0, none⟩) n c) n (marks (mkP i) (k + 1) ++ ys.drop 5)) := marks_put o4; have HS4 : Hid (P1 base w w4 g0 vs i) := HS2.out.upd HNG.out.2.2.2 HV.out HNG.out.2.2.1 HAP.out HNG.out.2.1 HNG.out.1 u4 hn (by rw [HV.out]; exact O4.out); clear o4 u4)
          (try simp only [Act.put])
          go_roundw
          case rel => exact ⟨k + 1, _, by go_num, by omega, O4.out, HS4.out⟩
          case measure => simp [intOf]; omega
        · obtain rfl : k = n := by omega
          have hys : ys = [] := by
            have h1 := ho2.1
            rw [List.length_append, marks_len] at h1
            have hm4 : (mkP i).length = 5 := rfl
            rw [hm4] at h1
            exact List.eq_nil_of_length_eq_zero (by omega)
          subst hys
          rw [List.append_nil] at ho2
          have S5 := S2.next hiv hn (by rw [hv]; exact ho2)
          have HS5 : Hid (P1 base w wr g0 vs (i + 1)) := S5
          clear S5 ho2 S2
          go_wp2
          go_roundw
          case rel => exact ⟨i + 1, by go_num, by omega, HS5.out⟩
          case measure => simp [intOf]; omega
    · obtain rfl : i = m := by omega
      have T0 : P2 base w wr g0 vs (.slice none 0 0) [] (famP vs []) := by
        rw [← hm] at S
        exact S.start HAP.out
      clear S S0
      go_wp2
      go_loopw [5, 6] (fun a b wr => ∃ (j : Nat) (us : List Value), b = .int .i64 j ∧ j ≤ i ∧ us.length = 3 * j ∧ P2 base w wr g0 vs a us (famP vs us)) (fun _ b _ => i - (intOf b).toNat)
      case atStart => exact ⟨0, [], rfl, by omega, rfl, T0⟩
      case round =>
        obtain ⟨j, us, rfl, hji, hul, T⟩ := hrel
        have HUL : Hid (us.length = 3 * j) := hul
        have hub : us.length ≤ 3000 := by omega
        clear hul
        have hbs := T.below.size
        obtain ⟨aL, lL, cL, rfl⟩ := row_shape T.long
        by_cases hlt : j < i
        · have hz : (j : Int) < (i : Int) := by omega
          have hjv : j < vs.length := by omega
          obtain ⟨ao, l, c, hv, hlb⟩ := HLN.out j hjv
          have hc := T.cell j hjv
          rw [hv] at hc
          have HF0 : famP vs us j (.slice ao l c) := Or.inl (by rw [List.getElem?_eq_getElem hjv, hv])
          have A0 : wr.ownsRow base 68 5 (.slice ao l c) (l + 0) (marks (mkP j) (l + 0)) := by
            obtain ⟨n, ho⟩ := T.fams.full _ _ HF0
            obtain ⟨h1, _⟩ := own_cap ho
            rw [← h1] at ho
            exact ho
          go_wp2
          go_loopw [7, 8] (fun a b w2 => ∃ k : Nat, b = .int .i64 k ∧ k ≤ 20 ∧ w2.ownsRow base 68 5 a (l + k) (marks (mkP j) (l + k)) ∧ P2 base w w2 g0 vs (.slice aL lL cL) us (plus j a (famP vs us))) (fun _ b _ => 20 - (intOf b).toNat)
          case atStart => exact ⟨0, rfl, by omega, A0, T.less (fun i u h => by rcases h with ⟨rfl, rfl⟩ | h <;> first | exact HF0 | exact h)⟩
          case round =>
            obtain ⟨k, rfl, hk20, A, T2⟩ := hrel
            have hbs2 := T2.below.size
            obtain ⟨a2, l2, c2, rfl⟩ := row_shape A
            by_cases hk : k < 20
            · have hzk : (k : Int) < 20 := by omega
              have T3 := T2.alloc (by omega) (.cells (mkP j).toArray 68)
              have HT3 : Hid (P2 base w _ g0 vs (.slice aL lL cL) us (plus j (.slice a2 l2 c2) (famP vs us))) := T3
              clear T2 T3
              go_wp2_with (at_builtin; refine wpList_appX _ rfl _ _ 31 31 rfl base 68 i0 _ 5 56 Tryz.underlying31 hip hp0 hp1 hp2 rfl _ _ _ rfl (A.alloc _) _ 1 (mkP j) rfl (Src.ofSlice _ Tryz.underlying31 ⟨_, 0, none⟩ 1 1 _ rfl ?c1 ?c2) ?c3 ?c4 ?c5 ?_)
              case c1 =>
                intro t u ht
                rw [Addr.add_lit, Nat.zero_add, cell_of_row _ _ t _ _ _ (heap_alloc_new _ _)]
                simpa [mkP] using ht
              case c2 => intro u hu; simp [mkP] at hu; rcases hu with rfl | rfl | rfl | rfl | rfl <;> rfl
              case c3 => unfold maxLen; omega
              case c4 => omega
              case c5 => simp; omega
              intro v' w5 ho hg hmv hov
              have T4 := (HT3.out.grow (by simp; omega) (Or.inl ⟨rfl, rfl⟩) ho hg hmv hov).less (F' := plus j v' (famP vs us)) (fun i u h => by rcases h with h | h; exact Or.inl h; exact Or.inr (Or.inr h))
              rw [marks_succ] at ho
              have HO4 : Hid (w5.ownsRow base 68 5 v' (l + k + 1) (marks (mkP j) (l + k + 1))) := ho
              have HT4 : Hid (P2 base w w5 g0 vs (.slice aL lL cL) us (plus j v' (famP vs us))) := T4
              obtain ⟨a5, l5, c5, rfl⟩ := row_shape ho
              clear ho hg hmv hov T4 A
              go_wp2
              go_roundw
              case rel => exact ⟨k + 1, by go_num, by omega, HO4.out, HT4.out⟩
              case measure => simp [intOf]; omega
            · have hz20 : ¬ ((k : Int) < 20) := by omega
              clear hk
              have hc4 := T2.cell j hjv
              rw [hv] at hc4
              have HF1 : (plus j (.slice a2 l2 c2) (famP vs us)) j (.slice ao l c) := Or.inr HF0
              have A1 : wr.ownsRow base 68 5 (.slice ao l c) (l + 0) (marks (mkP j) (l + 0)) := by
                obtain ⟨n, ho⟩ := T2.fams.full _ _ HF1
                obtain ⟨h1, _⟩ := own_cap ho
                rw [← h1] at ho
                exact ho
              go_wp2
              go_loopw [9, 10] (fun a b w2 => ∃ k : Nat, b = .int .i64 k ∧ k ≤ 80 ∧ w2.ownsRow base 68 5 a (l + k) (marks (mkP j) (l + k)) ∧ P2 base w w2 g0 vs (.slice aL lL cL) us (plus j a (plus j (.slice a2 l2 c2) (famP vs us)))) (fun _ b _ => 80 - (intOf b).toNat)
              case atStart => exact ⟨0, rfl, by omega, A1, T2.less (fun i u h => by rcases h with ⟨rfl, rfl⟩ | h <;> first | exact HF1 | exact h)⟩
              case round =>
                obtain ⟨k, rfl, hk80, A, T6⟩ := hrel
                have hbs6 := T6.below.size
                obtain ⟨a3, l3, c3, rfl⟩ := row_shape A
                by_cases hk : k < 80
                · have hzk : (k : Int) < 80 := by omega
                  have T3 := T6.alloc (by omega) (.cells (mkP j).toArray 68)
                  have HT3 : Hid (P2 base w _ g0 vs (.slice aL lL cL) us (plus j (.slice a3 l3 c3) (plus j (.slice a2 l2 c2) (famP vs us)))) := T3
                  clear T6 T3
                  go_wp2_with (at_builtin; refine wpList_appX _ rfl _ _ 31 31 rfl base 68 i0 _ 5 56 Tryz.underlying31 hip hp0 hp1 hp2 rfl _ _ _ rfl (A.alloc _) _ 1 (mkP j) rfl (Src.ofSlice _ Tryz.underlying31 ⟨_, 0, none⟩ 1 1 _ rfl ?c1 ?c2) ?c3 ?c4 ?c5 ?_)
                  case c1 =>
                    intro t u ht
                    rw [Addr.add_lit, Nat.zero_add, cell_of_row _ _ t _ _ _ (heap_alloc_new _ _)]
                    simpa [mkP] using ht
                  case c2 => intro u hu; simp [mkP] at hu; rcases hu with rfl | rfl | rfl | rfl | rfl <;> rfl
                  case c3 => unfold maxLen; omega
                  case c4 => omega
                  case c5 => simp; omega
                  intro v' w5 ho hg hmv hov
                  have T4 := (HT3.out.grow (by simp; omega) (Or.inl ⟨rfl, rfl⟩) ho hg hmv hov).less (F' := plus j v' (plus j (.slice a2 l2 c2) (famP vs us))) (fun i u h => by rcases h with h | h; exact Or.inl h; exact Or.inr (Or.inr h))
                  rw [marks_succ] at ho
                  have HO4 : Hid (w5.ownsRow base 68 5 v' (l + k + 1) (marks (mkP j) (l + k + 1))) := ho
                  have HT4 : Hid (P2 base w w5 g0 vs (.slice aL lL cL) us (plus j v' (plus j (.slice a2 l2 c2) (famP vs us)))) := T4
                  obtain ⟨a5, l5, c5, rfl⟩ := row_shape ho
                  clear ho hg hmv hov T4 A
                  go_wp2
                  go_roundw
                  case rel => exact ⟨k + 1, by go_num, by omega, HO4.out, HT4.out⟩
                  case measure => simp [intOf]; omega
                · have hz80 : ¬ ((k : Int) < 80) := by omega
                  clear hk
                  have hc6 := T6.cell j hjv
                  rw [hv] at hc6
                  have T7 := T6.alloc (by omega) (.cells #[.slice ao l c, .slice a2 l2 c2, .slice a3 l3 c3] 31)
                  have HT7 : Hid (P2 base w _ g0 vs (.slice aL lL cL) us (plus j (.slice a3 l3 c3) (plus j (.slice a2 l2 c2) (famP vs us)))) := T7
                  have A7 := T7.long
                  clear T6 T7 A
                  go_wp2_with (at_builtin; refine wpList_appX _ rfl _ _ 36 36 rfl base 31 i1 _ 1 24 Tryz.underlying36 hiq hq0 hq1 hq2 rfl _ _ _ rfl A7 _ 3 [.slice ao l c, .slice a2 l2 c2, .slice a3 l3 c3] rfl (Src.ofSlice _ Tryz.underlying36 ⟨_, 0, none⟩ 3 3 _ rfl ?d1 ?d2) ?d3 ?d4 ?d5 ?_)
                  case d2 => exact ⟨rfl, rfl, rfl⟩
                  case d3 => unfold maxLen; omega
                  case d4 => omega
                  case d5 => omega
                  intro v' w5 ho hg hmv hov
                  have T8 := (HT7.out.more (by simp; omega) ho hg hmv).less (F' := famP vs (us ++ [.slice ao l c, .slice a2 l2 c2, .slice a3 l3 c3])) (fun i u h => fam_more vs us j i u ao a2 a3 l l2 l3 c c2 c3 HUL.out HF0 h)
                  have HT8 : Hid (P2 base w w5 g0 vs v' (us ++ [.slice ao l c, .slice a2 l2 c2, .slice a3 l3 c3]) (famP vs (us ++ [.slice ao l c, .slice a2 l2 c2, .slice a3 l3 c3]))) := T8
                  obtain ⟨a5, l5, c5, rfl⟩ := row_shape ho
                  clear ho hg hmv hov T8 A7
                  go_wp2
                  go_roundw
                  case rel => exact ⟨j + 1, _, by go_num, by omega, by have := HUL.out; simp; omega, HT8.out⟩
                  case measure => simp [intOf]; omega
        · obtain rfl : j = i := by omega
          obtain ⟨hlL, hlL2, _⟩ := own_cap T.long
          have hzL : (lL : Int) ≤ 3000 := by omega
          have HNU : Hid (us.length = lL) := hlL.symm
          clear HUL hlL hlL2
          go_wp2
          go_loopw [2, 11] (fun z a w2 => ∃ t : Nat, z = .bool false ∧ a = .int .i64 t ∧ t ≤ lL ∧ P2 base w w2 g0 vs (.slice aL lL cL) us (famP vs us)) (fun _ a _ => lL - (intOf a).toNat)
          case atStart => exact ⟨0, rfl, rfl, by omega, T⟩
          case round =>
            obtain ⟨t, rfl, rfl, htl, T2⟩ := hrel
            by_cases ht : t < lL
            · have hzt : (t : Int) < (lL : Int) := by omega
              have htu : t < us.length := by have := HNU.out; omega
              obtain ⟨gL, capL, eL, _, _, _, hxL⟩ := own_some T2.long (by omega)
              simp only [Value.slice.injEq] at eL
              obtain ⟨rfl, eL2, eL3⟩ := eL
              clear eL2 eL3
              have hcL := hxL t us[t] (List.getElem?_eq_getElem htu)
              have HF : famP vs us (t / 3) us[t] := Or.inr ⟨t, List.getElem?_eq_getElem htu, rfl⟩
              obtain ⟨n, ho⟩ := T2.fams.full _ _ HF
              obtain ⟨u, hu⟩ : ∃ u, us[t] = u := ⟨_, rfl⟩
              rw [hu] at ho hcL
              obtain ⟨au, lu, cu, rfl⟩ := row_shape ho
              obtain ⟨hlu, hlu2, hlu3⟩ := own_cap ho
              obtain rfl : n = lu := hlu.symm
              clear hxL ho hcL
              have HU : Hid (us[t]? = some (.slice au n cu)) := by rw [← hu]; exact List.getElem?_eq_getElem htu
              rw [hu] at HF
              have HF' : Hid (famP vs us (t / 3) (.slice au n cu)) := HF
              clear HF hu htu
              go_wp2
              go_loopw [2, 12] (fun z a w2 => ∃ k : Nat, z = .bool false ∧ a = .int .i64 k ∧ k ≤ n ∧ P2 base w w2 g0 vs (.slice (some ⟨gL, 0, none⟩) lL cL) us (famP vs us)) (fun _ a _ => n - (intOf a).toNat)
              case atStart => exact ⟨0, rfl, rfl, by omega, T2⟩
              case round =>
                obtain ⟨k, rfl, rfl, hkn, T4⟩ := hrel
                obtain ⟨gL', capL', eL, _, _, _, hxL⟩ := own_some T4.long (by have := HNU.out; omega)
                simp only [Value.slice.injEq, Option.some.injEq, Addr.mk.injEq] at eL
                obtain ⟨⟨rfl, _⟩, eL2, eL3⟩ := eL
                clear eL2 eL3
                have hcL := hxL t _ HU.out
                clear hxL
                by_cases hk : k < n
                · have hzk : (k : Int) < (n : Int) := by omega
                  obtain ⟨n', ho⟩ := T4.fams.full _ _ HF'.out
                  obtain ⟨hn', _⟩ := own_cap ho
                  obtain rfl : n = n' := hn'
                  obtain ⟨gu, capu, eu, _, _, _, hxu⟩ := own_some ho (by omega)
                  cases eu
                  have hm4 : (mkP (t / 3)).length = 5 := rfl
                  have hget : ∀ r y, r < 5 → (mkP (t / 3))[r]? = some y → wr.cell? ⟨gu, k * 5 + r, none⟩ = some y := fun r y hr hy => hxu _ _ (by rw [marks_get _ _ _ (by rw [hm4]; omega), hm4, Nat.add_comm, Nat.add_mul_mod_self_right, Nat.mod_eq_of_lt hr]; exact hy)
                  have RG : Hid (wr.rangeAt gu (k * 5) (mkP (t / 3))) := fun r y hy => hget r y (by have h1 := (List.getElem?_eq_some_iff.1 hy).1; rw [hm4] at h1; exact h1) hy
                  obtain ⟨q3, hq3⟩ : ∃ q, t / 3 = q := ⟨_, rfl⟩
                  have hd3 : (t : Int).tdiv 3 = (q3 : Int) := by rw [Int.tdiv_eq_ediv_of_nonneg (by omega)]; omega
                  have hd4 : (t : Int) / 3 = (q3 : Int) := by omega
                  have hw7 : IntKind.i64.wrap (7000 + (q3 : Int)) = 7000 + (q3 : Int) := by rw [IntKind.wrap_i64]; omega
                  have hu7 : IntKind.u64.wrap (7000 + (q3 : Int)) = 7000 + (q3 : Int) := by rw [IntKind.wrap_u64]; omega
                  have NQ := neqM q3
                  rw [hq3] at RG
                  unfold mkP at NQ RG
                  clear hq3 hm4
                  have HT4 : Hid (P2 base w wr g0 vs (.slice (some ⟨gL, 0, none⟩) lL cL) us (famP vs us)) := T4
                  clear hget hxu ho T4
                  have hnb : (n : Int) ≤ 9223372036854775807 := by unfold maxLen at hlu3; omega
                  go_wp2_with (refine wpList_load_mid rfl 68 _ rfl gu (k * 5) rfl [.int .i64 0, .string ⟨#[]⟩, .string ⟨#[]⟩, .bool false, .int .u64 (7000 + (q3 : Int))] _ RG.out Tryz.underlying68 rfl (by kernel_rfl) ?_)
                  go_roundw
                  case rel => exact ⟨k + 1, rfl, by go_num, by omega, HT4.out⟩
                  case measure => simp [intOf]; omega
                · obtain rfl : k = n := by omega
                  have HT4 : Hid (P2 base w wr g0 vs (.slice (some ⟨gL, 0, none⟩) lL cL) us (famP vs us)) := T4
                  clear T4
                  go_wp2
                  go_roundw
                  case rel => exact ⟨t + 1, rfl, by go_num, by omega, HT4.out⟩
                  case measure => simp [intOf]; omega
            · obtain rfl : t = lL := by omega
              have HB := T2.below
              clear T2 T
              go_wp2
              go_ret
              exact ⟨rfl, HB⟩
end Go.Proofs.YtbefeobikjnlpaaGreatDoor.sk.oc

namespace Go.Proofs.YtbefeobikjnlpaaGreatDoor.sk
open Go Go.RowKit
set_option maxRecDepth 100000

theorem neq_cal (x y : Cal) (W : World) : (binOp .neq 68 (.agg (calL x).toArray) (.agg (calL y).toArray)).run Tryz.prog W = .ok (.bool (!decide (x = y))) W := by
  obtain ⟨a, b, c, d, e⟩ := x
  obtain ⟨a', b', c', d', e'⟩ := y
  show (binOp .neq 68 (.agg #[.int .i64 a, .string b, .string c, .bool d, .int .u64 e]) (.agg #[.int .i64 a', .string b', .string c', .bool d', .int .u64 e'])).run Tryz.prog W = _
  rw [run_neqS (eqI_call 9996 _ _ _ _ _ _ _ _ _ _ W)]
  congr 4
  simp only [Prod.mk.injEq]
/-- Are two lists one? -/
def SameC (a b : List Cal) (w : World) (e : Ending) (w' : World) : Prop := ∃ r, e = .returned (.bool r) ∧ (r = true ↔ a = b) ∧ Below w.heap.size w w'
set_option maxHeartbeats 2000000 in
theorem sameC_any (ad bd : Option Addr) (n m ca cb : Nat) (a b : List Cal) (w : World) (hA : CalAt w ad n a) (hB : CalAt w bd m b) (hz : n ≤ ca) (hc : ca ≤ maxLen) :
    Calls Tryz.prog 10 #[.slice ad n ca, .slice bd m cb] w (SameC a b w) := by
  unfold maxLen at hc
  have HLA : Hid (a.length = n) := hA.len
  have HLB : Hid (b.length = m) := hB.len
  have HE : Hid (∀ r w', (r = true ↔ a = b) → Below w.heap.size w w' → SameC a b w (.returned (.bool r)) w') := fun r w' h1 h2 => ⟨r, rfl, h1, h2⟩
  generalize SameC a b w = R at *
  by_cases hnm : n = m
  · subst hnm
    have HA : Hid _ := hA
    have HB : Hid _ := hB
    clear hA hB
    go_enter Tryz.func10, Tryz.ntmps10
    go_wp2
    go_loopw [5] (fun t wr => ∃ k : Nat, t = .int .i64 k ∧ k ≤ n ∧ Hid (a.take k = b.take k) ∧ Hid (Below w.heap.size w wr)) (fun t _ => n - (intOf t).toNat)
    case atStart => exact ⟨0, rfl, by omega, rfl, Below.refl _ _⟩
    case round =>
      obtain ⟨k, rfl, hk, HT, HW⟩ := hrel
      by_cases hlt : k < n
      · obtain ⟨ba, oa, rfl, hca⟩ := (HA.out.below HW.out).lies (by omega)
        obtain ⟨bb, ob, rfl, hcb⟩ := (HB.out.below HW.out).lies (by omega)
        have hka : k < a.length := by rw [HLA.out]; exact hlt
        have hkb : k < b.length := by rw [HLB.out]; exact hlt
        have RA : Hid (wr.rangeAt ba (oa + k * 5) (calL a[k])) := hca k hka
        have RB : Hid (wr.rangeAt bb (ob + k * 5) (calL b[k])) := hcb k hkb
        have HTA : Hid _ := List.take_succ_eq_append_getElem hka
        have HTB : Hid _ := List.take_succ_eq_append_getElem hkb
        have HNE : Hid (a[k] ≠ b[k] → a ≠ b) := fun h e => h (by subst e; rfl)
        generalize a[k] = x at *
        generalize b[k] = y at *
        clear hca hcb hka hkb
        have NQ := neq_cal x y
        by_cases h1 : x = y
        · rw [show (!decide (x = y)) = false by simpa using h1] at NQ
          have HT1 : Hid (a.take (k + 1) = b.take (k + 1)) := by show _ = _; rw [HTA.out, HTB.out, HT.out, h1]
          clear HNE HTA HTB h1
          go_wp2
          refine wp_region_held (S := fun W => W.rangeAt ba (oa + k * 5) (calL x) ∧ W.rangeAt bb (ob + k * 5) (calL y)) (by kernel_rfl) ?_
          change wpAnyH _ _ _ _ _ _ _ _ (World.drew _)
          have hS : wr.drew.rangeAt ba (oa + k * 5) (calL x) ∧ wr.drew.rangeAt bb (ob + k * 5) (calL y) := ⟨RA.out, RB.out⟩
          refine takeC (i := 0) (v := .slice (some ⟨ba, oa, none⟩) n ca) rfl (by kernel_rfl) (by kernel_rfl) (by kernel_rfl) (fun _ _ _ h => h) (Or.inl ⟨by rfl, fun W hW => by go_simp⟩) hS ?_
          simp only [Act.put, List.setIfInBounds_toArray, List.set_cons_zero, List.set_cons_succ]
          refine takeC (i := 1) (v := .int .i64 (k : Int)) rfl (by kernel_rfl) (by kernel_rfl) (by kernel_rfl) (fun _ _ _ h => h) (Or.inl ⟨by rfl, fun W hW => by go_simp⟩) hS ?_
          simp only [Act.put, List.setIfInBounds_toArray, List.set_cons_zero, List.set_cons_succ]
          refine takeC (i := 2) (v := .pointer (some ⟨ba, oa + k * 5, none⟩)) rfl (by kernel_rfl) (by kernel_rfl) (by kernel_rfl) (fun _ _ _ h => h) (Or.inl ⟨by rfl, fun W hW => by go_simp⟩) hS ?_
          simp only [Act.put, List.setIfInBounds_toArray, List.set_cons_zero, List.set_cons_succ]
          refine takeC (i := 3) (v := .agg (calL x).toArray) rfl (by kernel_rfl) (by kernel_rfl) (by kernel_rfl) (fun _ _ _ h => h) (yieldsIf_load_mid (by rfl) 68 _ rfl ba (oa + k * 5) rfl (calL x) _ (fun W hW => hW.1) Tryz.underlying68 rfl (by kernel_rfl)) hS ?_
          simp only [Act.put, List.setIfInBounds_toArray, List.set_cons_zero, List.set_cons_succ]
          refine takeC (i := 4) (v := .slice (some ⟨bb, ob, none⟩) n cb) rfl (by kernel_rfl) (by kernel_rfl) (by kernel_rfl) (fun _ _ _ h => h) (Or.inl ⟨by rfl, fun W hW => by go_simp⟩) hS ?_
          simp only [Act.put, List.setIfInBounds_toArray, List.set_cons_zero, List.set_cons_succ]
          refine takeC (i := 5) (v := .int .i64 (k : Int)) rfl (by kernel_rfl) (by kernel_rfl) (by kernel_rfl) (fun _ _ _ h => h) (Or.inl ⟨by rfl, fun W hW => by go_simp⟩) hS ?_
          simp only [Act.put, List.setIfInBounds_toArray, List.set_cons_zero, List.set_cons_succ]
          refine takeC (i := 6) (v := .pointer (some ⟨bb, ob + k * 5, none⟩)) rfl (by kernel_rfl) (by kernel_rfl) (by kernel_rfl) (fun _ _ _ h => h) (Or.inl ⟨by rfl, fun W hW => by go_simp⟩) hS ?_
          simp only [Act.put, List.setIfInBounds_toArray, List.set_cons_zero, List.set_cons_succ]
          refine takeC (i := 7) (v := .agg (calL y).toArray) rfl (by kernel_rfl) (by kernel_rfl) (by kernel_rfl) (fun _ _ _ h => h) (yieldsIf_load_mid (by rfl) 68 _ rfl bb (ob + k * 5) rfl (calL y) _ (fun W hW => hW.2) Tryz.underlying68 rfl (by kernel_rfl)) hS ?_
          simp only [Act.put, List.setIfInBounds_toArray, List.set_cons_zero, List.set_cons_succ]
          refine takeC (i := 8) (v := .bool false) rfl (by kernel_rfl) (by kernel_rfl) (by kernel_rfl) (fun _ _ _ h => h) (Or.inl ⟨by rfl, fun W hW => by go_simp⟩) hS ?_
          simp only [Act.put, List.setIfInBounds_toArray, List.set_cons_zero, List.set_cons_succ]
          refine wpAnyH_done (by kernel_rfl) ?_ _
          go_wp2
          go_roundw
          case rel => exact ⟨k + 1, by go_num, by omega, HT1, HW.out.drew⟩
          case measure => simp [intOf]; omega
        · rw [show (!decide (x = y)) = true by simpa using h1] at NQ
          have HN : Hid (a ≠ b) := HNE.out h1
          clear HNE HTA HTB h1
          go_wp2
          refine wp_region_held (S := fun W => W.rangeAt ba (oa + k * 5) (calL x) ∧ W.rangeAt bb (ob + k * 5) (calL y)) (by kernel_rfl) ?_
          change wpAnyH _ _ _ _ _ _ _ _ (World.drew _)
          have hS : wr.drew.rangeAt ba (oa + k * 5) (calL x) ∧ wr.drew.rangeAt bb (ob + k * 5) (calL y) := ⟨RA.out, RB.out⟩
          refine takeC (i := 0) (v := .slice (some ⟨ba, oa, none⟩) n ca) rfl (by kernel_rfl) (by kernel_rfl) (by kernel_rfl) (fun _ _ _ h => h) (Or.inl ⟨by rfl, fun W hW => by go_simp⟩) hS ?_
          simp only [Act.put, List.setIfInBounds_toArray, List.set_cons_zero, List.set_cons_succ]
          refine takeC (i := 1) (v := .int .i64 (k : Int)) rfl (by kernel_rfl) (by kernel_rfl) (by kernel_rfl) (fun _ _ _ h => h) (Or.inl ⟨by rfl, fun W hW => by go_simp⟩) hS ?_
          simp only [Act.put, List.setIfInBounds_toArray, List.set_cons_zero, List.set_cons_succ]
          refine takeC (i := 2) (v := .pointer (some ⟨ba, oa + k * 5, none⟩)) rfl (by kernel_rfl) (by kernel_rfl) (by kernel_rfl) (fun _ _ _ h => h) (Or.inl ⟨by rfl, fun W hW => by go_simp⟩) hS ?_
          simp only [Act.put, List.setIfInBounds_toArray, List.set_cons_zero, List.set_cons_succ]
          refine takeC (i := 3) (v := .agg (calL x).toArray) rfl (by kernel_rfl) (by kernel_rfl) (by kernel_rfl) (fun _ _ _ h => h) (yieldsIf_load_mid (by rfl) 68 _ rfl ba (oa + k * 5) rfl (calL x) _ (fun W hW => hW.1) Tryz.underlying68 rfl (by kernel_rfl)) hS ?_
          simp only [Act.put, List.setIfInBounds_toArray, List.set_cons_zero, List.set_cons_succ]
          refine takeC (i := 4) (v := .slice (some ⟨bb, ob, none⟩) n cb) rfl (by kernel_rfl) (by kernel_rfl) (by kernel_rfl) (fun _ _ _ h => h) (Or.inl ⟨by rfl, fun W hW => by go_simp⟩) hS ?_
          simp only [Act.put, List.setIfInBounds_toArray, List.set_cons_zero, List.set_cons_succ]
          refine takeC (i := 5) (v := .int .i64 (k : Int)) rfl (by kernel_rfl) (by kernel_rfl) (by kernel_rfl) (fun _ _ _ h => h) (Or.inl ⟨by rfl, fun W hW => by go_simp⟩) hS ?_
          simp only [Act.put, List.setIfInBounds_toArray, List.set_cons_zero, List.set_cons_succ]
          refine takeC (i := 6) (v := .pointer (some ⟨bb, ob + k * 5, none⟩)) rfl (by kernel_rfl) (by kernel_rfl) (by kernel_rfl) (fun _ _ _ h => h) (Or.inl ⟨by rfl, fun W hW => by go_simp⟩) hS ?_
          simp only [Act.put, List.setIfInBounds_toArray, List.set_cons_zero, List.set_cons_succ]
          refine takeC (i := 7) (v := .agg (calL y).toArray) rfl (by kernel_rfl) (by kernel_rfl) (by kernel_rfl) (fun _ _ _ h => h) (yieldsIf_load_mid (by rfl) 68 _ rfl bb (ob + k * 5) rfl (calL y) _ (fun W hW => hW.2) Tryz.underlying68 rfl (by kernel_rfl)) hS ?_
          simp only [Act.put, List.setIfInBounds_toArray, List.set_cons_zero, List.set_cons_succ]
          refine takeC (i := 8) (v := .bool true) rfl (by kernel_rfl) (by kernel_rfl) (by kernel_rfl) (fun _ _ _ h => h) (Or.inl ⟨by rfl, fun W hW => by go_simp⟩) hS ?_
          simp only [Act.put, List.setIfInBounds_toArray, List.set_cons_zero, List.set_cons_succ]
          refine wpAnyH_done (by kernel_rfl) ?_ _
          go_wp2
          exact HE.out false _ ⟨(fun h => by cases h), fun h => absurd h HN.out⟩ HW.out.drew
      · have HQ : Hid (a = b) := by
          have ht := HT.out
          rw [List.take_of_length_le (by rw [HLA.out]; omega), List.take_of_length_le (by rw [HLB.out]; omega)] at ht
          exact ht
        clear HT
        go_wp2
        exact HE.out true _ ⟨fun _ => HQ.out, fun _ => rfl⟩ HW.out
  · have hne : a ≠ b := fun e => hnm (by rw [← HLA.out, ← HLB.out, e])
    have HN : Hid (a ≠ b) := hne
    have hne' : ¬ (n : Int) = (m : Int) := by omega
    have hne2 : ((n : Int) == (m : Int)) = false := by simpa using hne'
    clear hne hne' hA hB HLA HLB hz hc hnm
    go_enter Tryz.func10, Tryz.ntmps10
    go_wp2
    exact HE.out false _ ⟨(fun h => by cases h), fun h => absurd h HN.out⟩ (Below.refl _ _)
end Go.Proofs.YtbefeobikjnlpaaGreatDoor.sk

namespace Go.Proofs.YtbefeobikjnlpaaGreatDoor.sk
open Go Go.RowKit
set_option maxRecDepth 100000

/-- Lists that came out one behind the other, each in blocks of its own. -/
def ChainC (w : World) : Nat → Nat → List Value → Prop
  | lo, hi, [] => lo ≤ hi
  | lo, hi, v :: r => (∃ L, OwnCal lo w v L ∧ L.length ≤ 2513169434917) ∧ ∃ mid, lo ≤ mid ∧ (∀ k, v.ownBlock = some k → k < mid) ∧ ChainC w mid hi r
theorem ChainC.le {w : World} : ∀ {vs : List Value} {lo hi : Nat}, ChainC w lo hi vs → lo ≤ hi
  | [], _, _, h => h
  | _ :: _, _, _, ⟨_, _, h1, _, h2⟩ => Nat.le_trans h1 (ChainC.le h2)
theorem ChainC.upd {S : Nat → Prop} {w w' : World} (hu : Upd S w w') : ∀ {vs : List Value} {lo hi : Nat}, ChainC w lo hi vs → (∀ k, lo ≤ k → ¬ S k) → ChainC w' lo hi vs
  | [], _, _, h, _ => h
  | _ :: _, _, _, ⟨⟨L, h0, hl⟩, mid, h1, h2, h3⟩, hS => ⟨⟨L, h0.upd hu hS, hl⟩, mid, h1, h2, ChainC.upd hu h3 (fun k hk => hS k (Nat.le_trans h1 hk))⟩
theorem ChainC.hi {w : World} : ∀ {vs : List Value} {lo hi hi' : Nat}, ChainC w lo hi vs → hi ≤ hi' → ChainC w lo hi' vs
  | [], _, _, _, h, hh => Nat.le_trans h hh
  | _ :: _, _, _, _, ⟨h0, mid, h1, h2, h3⟩, hh => ⟨h0, mid, h1, h2, ChainC.hi h3 hh⟩
theorem ChainC.snoc {w : World} {v : Value} {L : List Cal} : ∀ {vs : List Value} {lo hi hi' : Nat}, ChainC w lo hi vs → OwnCal hi w v L → L.length ≤ 2513169434917 → (∀ k, v.ownBlock = some k → k < hi') → hi ≤ hi' → ChainC w lo hi' (vs ++ [v])
  | [], _, _, hi', h, ho, hl, hk, hh => ⟨⟨L, own_base ho h, hl⟩, hi', Nat.le_trans h hh, hk, Nat.le_refl _⟩
  | _ :: _, _, _, _, ⟨h0, mid, h1, h2, h3⟩, ho, hl, hk, hh => ⟨h0, mid, h1, h2, ChainC.snoc h3 ho hl hk hh⟩
theorem ChainC.below {w w' : World} {vs : List Value} {lo : Nat} (h : ChainC w lo w.heap.size vs) (hb : Below w.heap.size w w') : ChainC w' lo w'.heap.size vs :=
  (ChainC.upd (Upd.ofBelow (S := fun _ => False) hb (fun k hk hk' => by omega)) h (fun _ _ h => h)).hi hb.size
theorem OwnCal.ltB {base : Nat} {w : World} {v : Value} {L : List Cal} (h : OwnCal base w v L) : ∀ k, v.ownBlock = some k → k < w.heap.size := by
  intro k hk
  rcases h.2 with ⟨rfl, _⟩ | ⟨g, cap, cur, rfl, hg, hh, _⟩
  · simp [Value.ownBlock] at hk
  · simp [Value.ownBlock] at hk
    subst hk
    exact lt_of_block hh
theorem ChainC.row {w : World} : ∀ {vs : List Value} {lo hi : Nat}, ChainC w lo hi vs → ∀ j (hj : j < vs.length), ∃ n xs, n ≤ 2513169434917 ∧ w.ownsRow lo 68 5 vs[j] n xs
  | [], _, _, _, j, hj => absurd hj (by simp)
  | v :: r, _, _, ⟨⟨L, h0, hl⟩, mid, h1, h2, h3⟩, 0, _ => ⟨L.length, _, hl, h0⟩
  | v :: r, _, _, ⟨⟨L, h0, hl⟩, mid, h1, h2, h3⟩, j + 1, hj => by
    obtain ⟨n, xs, hn, ho⟩ := ChainC.row h3 j (by simpa using hj)
    exact ⟨n, xs, hn, own_base ho h1⟩
theorem ChainC.far {w : World} {vs : List Value} {lo hi : Nat} (h : ChainC w lo hi vs) (j : Nat) (hj : j < vs.length) (k : Nat) (hk : vs[j].ownBlock = some k) : lo ≤ k := by
  obtain ⟨n, xs, _, ho⟩ := ChainC.row h j hj
  exact (own_block ho hk).1
theorem ChainC.apart {w : World} : ∀ {vs : List Value} {lo hi : Nat}, ChainC w lo hi vs → ∀ a b (ha : a < vs.length) (hb : b < vs.length), a ≠ b → ∀ k, vs[a].ownBlock = some k → vs[b].ownBlock ≠ some k
  | [], _, _, _, a, _, ha, _, _, _, _ => absurd ha (by simp)
  | v :: r, _, _, ⟨_, mid, h1, h2, h3⟩, 0, 0, _, _, hne, _, _ => absurd rfl hne
  | v :: r, _, _, ⟨_, mid, h1, h2, h3⟩, 0, b + 1, _, hb, _, k, hk => fun hk' => by
    have q1 := h2 k hk
    have q2 := ChainC.far h3 b (by simpa using hb) k hk'
    omega
  | v :: r, _, _, ⟨_, mid, h1, h2, h3⟩, a + 1, 0, ha, _, _, k, hk => fun hk' => by
    have q1 := h2 k hk'
    have q2 := ChainC.far h3 a (by simpa using ha) k hk
    omega
  | v :: r, _, _, ⟨_, mid, h1, h2, h3⟩, a + 1, b + 1, ha, hb, hne, k, hk => fun hk' => ChainC.apart h3 a b (by simpa using ha) (by simpa using hb) (fun e => hne (by rw [e])) k hk hk'
/-- The law's ownCalls, of lists that came out one behind the other. -/
theorem ownC_chain (vs : List Value) (lo : Nat) (w : World) (h : ChainC w lo w.heap.size vs) (hl : vs.length ≤ 1000) (m : Nat) (hm : vs.length = m) :
    Calls Tryz.prog 11 #[.slice (some ⟨w.heap.size, 0, none⟩) m m] (w.alloc (.cells vs.toArray 31)) fun e w' => e = .returned (.bool true) ∧ Below lo (w.alloc (.cells vs.toArray 31)) w' := by
  have hlo := h.le
  have b0 : Below w.heap.size w (w.alloc (.cells vs.toArray 31)) := (Below.refl _ _).alloc (Nat.le_refl _) _
  have h1 := h.below b0
  refine oc.oc_any lo w.heap.size vs _ ⟨Below.refl _ _, heap_alloc_new w _, fun j hj => ?_⟩ (by rw [World.size_alloc]; omega) h1.apart hl m hm
  obtain ⟨n, xs, hn, ho⟩ := h1.row j hj
  exact ⟨n, xs, hn, ho, fun h => absurd h (Nat.not_lt_zero _)⟩
theorem same_del {o1 o2 : Option Addr} {n1 c1 n2 c2 : Nat} {L1 L2 : List Cal} {w : World} (h1 : CalAt w o1 n1 L1) (h2 : CalAt w o2 n2 L2) (k : n1 ≤ c1 ∧ c1 ≤ maxLen) (e : L1 = L2) :
    Calls Tryz.prog 10 #[.slice o1 n1 c1, .slice o2 n2 c2] w fun e w' => e = .returned (.bool true) ∧ Below w.heap.size w w' :=
  (sameC_any o1 o2 n1 n2 c1 c2 L1 L2 w h1 h2 k.1 k.2).mono fun x w' ⟨r, e1, e2, e3⟩ => ⟨by rw [e1, e2.2 e], e3⟩
end Go.Proofs.YtbefeobikjnlpaaGreatDoor.sk

namespace Go.Proofs.YtbefeobikjnlpaaGreatDoor
open Go Go.RowKit
set_option maxRecDepth 100000

/-- A forest that was built of spans, with all that its mathematics ask. -/
structure BuT (X : List Sp) (w : World) (f sb : Nat) (Y : List Sp) (C : List Int) (dp : Nat → Nat) (fin : Nat → Nod) (X' : List Spot) (K : Nat → List Int) (rv : Value) (R : List Int) : Prop where
  at_ : ForestAt w f sb X' K rv R
  fo : FoB Y C dp fin X' K R
  perm : X.Perm Y
  rise : Y.Pairwise (fun a b => a.id < b.id)
  cuts : CutsL (nmOf (zs Y)) Y.length Y.length C
theorem BuT.below {X : List Sp} {w w' : World} {f sb : Nat} {Y : List Sp} {C : List Int} {dp : Nat → Nat} {fin : Nat → Nod} {X' : List Spot} {K : Nat → List Int} {rv : Value} {R : List Int} (h : BuT X w f sb Y C dp fin X' K rv R) (hb : Below w.heap.size w w') : BuT X w' f sb Y C dp fin X' K rv R := ⟨h.at_.below hb, h.fo, h.perm, h.rise, h.cuts⟩
theorem build_one (ad : Option Addr) (n cap : Nat) (X : List Sp) (P : Nat → Pl) (w : World) (hX : SpsAt w ad n X P) (hF : ∀ a ∈ X, a.Fits) (hS : ∀ a ∈ X, a.Small) (hT : Tabs w) (h1 : OneT X) : Calls Tryz.prog 6 #[.slice ad n cap] w fun e w' => ∃ f sb Y C dp fin X' K rv R, e = .returned (.tuple #[.pointer (some ⟨f, 0, none⟩), .int .i64 0]) ∧ Hid (BuT X w' f sb Y C dp fin X' K rv R) ∧ Below w.heap.size w w' := by
  refine (build_total ad n cap X P w hX hF hS hT).mono ?_
  rintro e w' (⟨h1, Y, hp, hr, f, sb, X', K, rv, R, C, dp, fin, rfl, h2, h3, h4, h5, h6⟩ | ⟨h, _⟩)
  · exact ⟨f, sb, Y, C, dp, fin, X', K, rv, R, rfl, ⟨h2, ⟨h5, h4, h2.rise, one_permR h1 hp⟩, hp, hr, h3⟩, h6⟩
  · exact absurd h1 h
theorem build_none (ad : Option Addr) (n cap : Nat) (X : List Sp) (P : Nat → Pl) (w : World) (hX : SpsAt w ad n X P) (hF : ∀ a ∈ X, a.Fits) (hS : ∀ a ∈ X, a.Small) (hT : Tabs w) (h1 : ¬ OneT X) : Calls Tryz.prog 6 #[.slice ad n cap] w fun e w' => e = .returned (.tuple #[.pointer none, .int .i64 101]) ∧ Below w.heap.size w w' := build_no ad n cap X P w hX hF hS hT h1
theorem rBuild_one (ad : Option Addr) (n cap : Nat) (X : List Sp) (P : Nat → Pl) (w : World) (hX : SpsAt w ad n X P) (hF : ∀ a ∈ X, a.Fits) (hS : ∀ a ∈ X, a.Small) (h1 : OneT X) {w0 : World} {f sb : Nat} {Y : List Sp} {C : List Int} {dp : Nat → Nat} {fin : Nat → Nod} {X' : List Spot} {K : Nat → List Int} {rv : Value} {R : List Int} (hB : BuT X w0 f sb Y C dp fin X' K rv R) : Calls Tryz.prog 7 #[.slice ad n cap] w fun e w' => ∃ g, e = .returned (.tuple #[.pointer (some ⟨g, 0, none⟩), .int .i64 0]) ∧ Hid (RFor w' g Y fin) ∧ Below w.heap.size w w' := by
  refine (rBuild_any ad n cap X P w hX hF hS (fun _ => ⟨hB.perm, hB.rise, hB.fo, hB.cuts⟩)).mono ?_
  rintro e w' (⟨g, rfl, h2, h3⟩ | ⟨_, h2, _⟩)
  · exact ⟨g, rfl, h2.out.2, h3⟩
  · exact absurd h1 h2.out
theorem rBuild_none (ad : Option Addr) (n cap : Nat) (X : List Sp) (P : Nat → Pl) (w : World) (hX : SpsAt w ad n X P) (hF : ∀ a ∈ X, a.Fits) (hS : ∀ a ∈ X, a.Small) (h1 : ¬ OneT X) : Calls Tryz.prog 7 #[.slice ad n cap] w fun e w' => e = .returned (.tuple #[.pointer none, .int .i64 101]) ∧ Below w.heap.size w w' := by
  refine (rBuild_any (Y := []) (C := []) (dp := fun _ => 0) (fin := fun _ => zNd) (X' := []) (K := fun _ => []) (R := []) ad n cap X P w hX hF hS (fun h => absurd h h1)).mono ?_
  rintro e w' (⟨g, rfl, h2, h3⟩ | ⟨rfl, _, h2⟩)
  · exact absurd h2.out.1 h1
  · exact ⟨rfl, h2⟩
/-- Who stands within a tree has one above. -/
theorem BuT.up {X : List Sp} {w : World} {f sb : Nat} {Y : List Sp} {C : List Int} {dp : Nat → Nat} {fin : Nat → Nod} {X' : List Spot} {K : Nat → List Int} {rv : Value} {R : List Int} (h : BuT X w f sb Y C dp fin X' K rv R) (k : Nat) (hk : k < X'.length) (ho : X'[k].nd.org = 0) : ∃ j, ∃ hj : j < X'.length, X'[j].nd.id = X'[k].nd.par := by
  have hl := h.fo.fo.len
  have hkY : k < Y.length := by omega
  rw [h.fo.nd k hk] at ho ⊢
  rcases h.fo.two k hkY with ⟨_, e1, _⟩ | ⟨j, hj, _, _, _, _, _, e⟩
  · exact absurd ho ((h.fo.orgZ k hkY).1 e1)
  · exact ⟨j, by omega, by rw [h.fo.nd j (by omega), e]⟩
theorem BuT.mom {X : List Sp} {w : World} {f sb : Nat} {Y : List Sp} {C : List Int} {dp : Nat → Nat} {fin : Nat → Nod} {X' : List Spot} {K : Nat → List Int} {rv : Value} {R : List Int} (h : BuT X w f sb Y C dp fin X' K rv R) (i : Nat) (hi : i < X'.length) : 0 ≤ X'[i].a.start ∧ X'[i].a.start ≤ X'[i].a.fin ∧ X'[i].a.fin ≤ 4611686018427387904 := by
  have hl := h.fo.fo.len
  have hiY : i < Y.length := by omega
  rw [(h.fo.fo.each i hiY hi).1]
  exact chk_mom (h.fo.one.chk _ (List.getElem_mem hiY))
end Go.Proofs.YtbefeobikjnlpaaGreatDoor

namespace Go.Proofs.YtbefeobikjnlpaaGreatDoor
open Go Go.RowKit
set_option maxRecDepth 100000

/-- The reference's forest holds what the program's spots hold. -/
structure RZ (w : World) (g : Nat) (sa : Option Addr) (sc : Nat) (L : List Sq) (nb cn : Nat) (V : List Nod) (Z : List Spot) : Prop where
  sp : FSp w g sa sc L
  len : L.length = Z.length
  each : ∀ i (h : i < L.length) (h' : i < Z.length), L[i].1 = Z[i].a ∧ Z[i].a.id = Z[i].nd.id
  at_ : ∀ x ∈ L, SpAt w x.1 x.2 ∧ x.1.links.length ≤ 1000 ∧ x.1.attrs.length ≤ 1000 ∧ x.1.events.length ≤ 1000
  nd : 0 < Z.length → FNd w g nb cn V
  vlen : 0 < Z.length → V.length = Z.length
  vat : ∀ i (h : i < V.length) (h' : i < Z.length), V[i] = Z[i].nd
theorem FSp.below {w w' : World} {f : Nat} {ad : Option Addr} {cap : Nat} {L : List Sq} (h : FSp w f ad cap L) (hb : Below w.heap.size w w') : FSp w' f ad cap L :=
  ⟨(hb.cell (p := ⟨f, 0, none⟩) (World.block_lt_of_cell? w _ h.head)).trans h.head, fun hl => by obtain ⟨g, e, hr⟩ := h.row hl; exact ⟨g, e, hr.below hb⟩, h.rise, h.len, h.pos⟩
theorem RZ.below {w w' : World} {g : Nat} {sa : Option Addr} {sc : Nat} {L : List Sq} {nb cn : Nat} {V : List Nod} {Z : List Spot} (h : RZ w g sa sc L nb cn V Z) (hb : Below w.heap.size w w') : RZ w' g sa sc L nb cn V Z :=
  ⟨h.sp.below hb, h.len, h.each, fun x hx => ⟨(h.at_ x hx).1.below hb, (h.at_ x hx).2⟩, fun hl => (h.nd hl).below hb, h.vlen, h.vat⟩
/-- A number of 64 bits, as a row's cell. -/
def uL (x : Int) : List Value := [.int .u64 x]
theorem uL_len (x : Int) : (uL x).length = 1 := rfl
theorem infoU1 : ∃ i, Tryz.prog.info? 48 = some i ∧ i.zero = some (.int .u64 0) ∧ i.size = 1 ∧ i.bytes = 8 := by
  have h : (Tryz.prog.info? 48).map (fun i => (i.zero, i.size, i.bytes)) = some (some (.int .u64 0), 1, 8) := by kernel_rfl
  cases hi : Tryz.prog.info? 48 with
  | none => rw [hi] at h; simp at h
  | some i => rw [hi] at h; simp at h; exact ⟨i, rfl, h.1, h.2.1, h.2.2⟩
/-- One number more behind a row. -/
theorem wpList_appU {ops : Array Oper} {rest : List Oper} {o : Oper} {a : Act} {Q : Exit → Act → World → Prop} (wr : World) (hgd : o.guard = none) (s x : Operand)
    (ho : o.op = .call { callee := .builtin .append, args := #[s, x], argTypes := #[46, 46] })
    (base : Nat) (v : Value) (n : Nat) (M : List Int) (y : Int) (b : Nat) (hb : b = wr.heap.size) (hv : a.eval s = v) (hown : wr.ownsRow base 48 1 v n (M.flatMap uL)) (hl : M.length = n) (hx : a.eval x = .slice (some ⟨b, 0, none⟩) 1 1) (hn : n ≤ 1000000) (hbase : base ≤ wr.heap.size)
    (h : ∀ va vc w', w'.ownsRow base 48 1 (.slice va (n + 1) vc) (n + 1) ((M ++ [y]).flatMap uL) → Upd (fun q => v.ownBlock = some q) wr w' → wpList Tryz.prog ops Q rest (a.put o.dst (.slice va (n + 1) vc)) w') : wpList Tryz.prog ops Q (o :: rest) a (wr.alloc (.cells #[.int .u64 y] 48)) := by
  subst hb
  obtain ⟨i0, hi0, hz0, hz1, hz2⟩ := infoU1
  have hown' : (wr.alloc (.cells #[.int .u64 y] 48)).ownsRow base 48 1 v n (M.flatMap uL) := ownsRow_upd hown ((Upd.refl (fun _ => False) wr).alloc _) (fun _ _ h => h)
  refine wpList_app _ hgd s x 46 46 ho base 48 i0 (.int .u64 0) 8 Tryz.underlying46 hi0 hz0 hz1 hz2 rfl v n _ hv hown' _ 1 [.int .u64 y] hx (src_one Tryz.underlying46 wr _ _ rfl) (by unfold maxLen; omega) (by omega) (by simp; omega) ?_
  intro v1 w1 o1 g1 m1
  have e : M.flatMap uL ++ [.int .u64 y] = (M ++ [y]).flatMap uL := by simp [uL]
  rw [e] at o1
  obtain ⟨va, vc, rfl⟩ := owns_sliceS o1
  exact h va vc w1 o1 (((Upd.refl _ wr).alloc _).grown g1 (fun k _ e => e))
section
variable {w : World} {g : Nat} {sa : Option Addr} {sc : Nat} {L : List Sq} {nb cn : Nat} {V : List Nod} {Z : List Spot}
theorem RZ.found (h : RZ w g sa sc L nb cn V Z) (k : Nat) (hk : k < Z.length) : Calls Tryz.prog 57 #[.pointer (some ⟨g, 0, none⟩), .int .u64 Z[k].nd.id] w fun e w' => e = .returned (.int .i64 k) ∧ w' = w := by
  have hkL : k < L.length := by rw [h.len]; exact hk
  refine (rFind_any g sa sc L Z[k].nd.id w h.sp).mono ?_
  rintro e w' ⟨rfl, rfl⟩
  rw [h.sp.idx_is _ k hkL (by rw [(h.each k hkL hk).1, (h.each k hkL hk).2])]
  exact ⟨rfl, rfl⟩
theorem RZ.lost (h : RZ w g sa sc L nb cn V Z) (id : Int) (hn : ∀ k (hk : k < Z.length), Z[k].nd.id ≠ id) : Calls Tryz.prog 57 #[.pointer (some ⟨g, 0, none⟩), .int .u64 id] w fun e w' => e = .returned (.int .i64 (-1)) ∧ w' = w := by
  refine (rFind_any g sa sc L id w h.sp).mono ?_
  rintro e w' ⟨rfl, rfl⟩
  rw [FSp.idx_no id fun i hi e => hn i (by rw [← h.len]; exact hi) (by rw [← (h.each i hi (by rw [← h.len]; exact hi)).2, ← (h.each i hi (by rw [← h.len]; exact hi)).1]; exact e)]
  exact ⟨rfl, rfl⟩
set_option maxHeartbeats 1000000 in
theorem rNode_at (h : RZ w g sa sc L nb cn V Z) (k : Nat) (hk : k < Z.length) : Calls Tryz.prog 34 #[.pointer (some ⟨g, 0, none⟩), .int .u64 Z[k].nd.id] w fun e w' => e = .returned (.tuple #[ndV Z[k].nd, .bool true]) ∧ Below w.heap.size w w' := by
  have FI : Hid (∀ W, Below w.heap.size w W → Calls Tryz.prog 57 #[.pointer (some ⟨g, 0, none⟩), .int .u64 Z[k].nd.id] W fun e w' => e = .returned (.int .i64 k) ∧ w' = W) := fun W hb => (h.below hb).found k hk
  have h0 : 0 < Z.length := by omega
  have hN := h.nd h0
  have hV := h.vlen h0
  have BB : Hid (Below w.heap.size w (w.alloc (.cells #[.int .u64 0, .int .u64 0, .int .i64 0, .int .u64 0, .int .i64 0, .int .i64 0, .int .i64 0] 53))) := (Below.refl _ _).alloc (Nat.le_refl _) _
  have hN' := hN.below BB.out
  have hh := hN'.head
  have hkV : k < V.length := by omega
  have RG : Hid ((w.alloc (.cells #[.int .u64 0, .int .u64 0, .int .i64 0, .int .u64 0, .int .i64 0, .int .i64 0, .int .i64 0] 53)).rangeAt nb (k * 7) (ndL Z[k].nd)) := by have := hN'.row.range ndL_len k hkV; rwa [h.vat k hkV hk] at this
  have hl : V.length ≤ 1000 := hN.len
  generalize Z[k].nd = d at *
  generalize V.length = n at *
  clear h hN hN' hV h0 hk
  have hk' : (k : Int) < (n : Int) := by omega
  have hk0 : ¬ (k : Int) < 0 := by omega
  go_enter Tryz.func34, Tryz.ntmps34
  go_wp2_with (first
    | (go_at_call 57; ((with_reducible refine (FI.out _ BB.out).mono ?_); clear FI; rintro e w1 ⟨rfl, hw1⟩; subst hw1))
    | (refine wpList_load_mid rfl 53 _ rfl nb (k * 7) rfl (ndL d) _ RG.out Tryz.underlying53 rfl (by kernel_rfl) ?_)
    | (refine wpList_stW rfl 53 _ _ rfl w.heap.size [.int .u64 0, .int .u64 0, .int .i64 0, .int .u64 0, .int .i64 0, .int .i64 0, .int .i64 0] (ndL d) 53 (Blk.new _ _ _) rfl rfl rfl (by kernel_rfl) (ndL_one d) ?_; intro w4 n4 u4; have HB4 : Hid (Below w.heap.size w w4) := BB.out.trans (u4.below (by simp) (fun j hj e => by omega)); have HN4 : Hid (Blk w4 w.heap.size (ndL d).toArray 53) := n4; clear n4 u4)
    | (refine wpList_load_mid rfl 53 _ rfl w.heap.size 0 rfl (ndL d) _ (sk.range13 HN4.out) Tryz.underlying53 rfl (by kernel_rfl) ?_))
  (try simp only [Exit.inBlock, Exit.then])
  refine bodyPost_ret (v := .tuple #[ndV d, .bool true]) ?_ rfl ⟨rfl, HB4.out⟩
  rw [results_cell_tmp rfl]
  simp [asAddr, Result.andThen, blk_loadN HN4.out]
set_option maxHeartbeats 1000000 in
theorem rSpan_at (h : RZ w g sa sc L nb cn V Z) (k : Nat) (hk : k < Z.length) : Calls Tryz.prog 35 #[.pointer (some ⟨g, 0, none⟩), .int .u64 Z[k].nd.id] w fun e w' => ∃ p', e = .returned (.tuple #[spV Z[k].a p', .bool true]) ∧ Below w.heap.size w w' := by
  have FI : Hid (∀ W, Below w.heap.size w W → Calls Tryz.prog 57 #[.pointer (some ⟨g, 0, none⟩), .int .u64 Z[k].nd.id] W fun e w' => e = .returned (.int .i64 k) ∧ w' = W) := fun W hb => (h.below hb).found k hk
  have hkL : k < L.length := by rw [h.len]; exact hk
  have BB : Hid (Below w.heap.size w (w.alloc (.cells zSpL.toArray 62))) := (Below.refl _ _).alloc (Nat.le_refl _) _
  have h' := h.below BB.out
  obtain ⟨sg, rfl, hR⟩ := h'.sp.row (by omega)
  have hh := h'.sp.head
  have RG : Hid ((w.alloc (.cells zSpL.toArray 62)).rangeAt sg (k * 13) (sqL L[k])) := hR.range sqL_len k hkL
  have hl := h.sp.len
  have CL : Hid (∀ W, Below w.heap.size w W → Calls Tryz.prog 56 #[spV L[k].1 L[k].2] W fun e w' => ∃ p', e = .returned (spV L[k].1 p') ∧ (∀ w5, (∀ k, W.heap.size ≤ k → k < w'.heap.size → w5.heap[k]? = w'.heap[k]?) → SpAt w5 L[k].1 p') ∧ Below W.heap.size W w') := fun W hb => by
    have hA := (h.below hb).at_ L[k] (List.getElem_mem hkL)
    exact rClone_any L[k].1 L[k].2 W hA.1 hA.2.1 hA.2.2.1 hA.2.2.2
  have e1 := (h.each k hkL hk).1
  rw [← e1]
  generalize L[k] = y at *
  obtain ⟨a, p⟩ := y
  generalize Z[k].nd.id = id at *
  generalize L.length = n at *
  unfold sqL at RG
  clear h hR e1 hk h'
  have hk' : (k : Int) < (n : Int) := by omega
  have hk0 : ¬ (k : Int) < 0 := by omega
  unfold zSpL at hh BB RG
  simp only at hh BB RG
  go_enter Tryz.func35, Tryz.ntmps35
  go_wp2_with (first
    | (go_at_call 57; ((with_reducible refine (FI.out _ BB.out).mono ?_); clear FI; rintro e w1 ⟨rfl, hw1⟩; subst hw1))
    | (refine wpList_load_mid rfl 62 _ rfl sg (k * 13) rfl (spC a p).toList _ RG.out Tryz.underlying62 rfl (by kernel_rfl) ?_)
    | (go_at_call 56; (refine (CL.out _ BB.out).mono ?_); clear CL; rintro e w8 ⟨p', rfl, _, hb8⟩; have HB8 : Hid (Below w.heap.size w w8) := BB.out.trans (hb8.mono BB.out.size); have HN8 : Hid (Blk w8 w.heap.size zSpL.toArray 62) := Blk.below (Blk.new w zSpL.toArray 62) hb8 (by simp); clear hb8)
    | (refine wpList_stW rfl 62 _ _ rfl w.heap.size zSpL (spC a p').toList 62 HN8.out rfl rfl rfl (by kernel_rfl) (spC_one a p') ?_; intro w4 n4 u4; have HB4 : Hid (Below w.heap.size w w4) := HB8.out.trans (u4.below HB8.out.size (fun j hj e => by omega)); have HN4 : Hid (Blk w4 w.heap.size (spC a p').toList.toArray 62) := n4; clear n4 u4)
    | (refine wpList_load_mid rfl 62 _ rfl w.heap.size 0 rfl (spC a p').toList _ (sk.range13 HN4.out) Tryz.underlying62 rfl (by kernel_rfl) ?_))
  (try simp only [Exit.inBlock, Exit.then])
  refine bodyPost_ret (v := .tuple #[.agg (spC a p').toList.toArray, .bool true]) ?_ rfl ⟨p', rfl, HB4.out⟩
  rw [results_cell_tmp rfl]
  have hld := blk_loadS (by rfl) HN4.out
  simp [asAddr, Result.andThen, hld]
set_option maxHeartbeats 1000000 in
theorem rSpan_no (h : RZ w g sa sc L nb cn V Z) (id : Int) (hn : ∀ k (hk : k < Z.length), Z[k].nd.id ≠ id) : Calls Tryz.prog 35 #[.pointer (some ⟨g, 0, none⟩), .int .u64 id] w fun e w' => e = .returned (.tuple #[.agg zSpL.toArray, .bool false]) ∧ Below w.heap.size w w' := by
  have FI : Hid (∀ W, Below w.heap.size w W → Calls Tryz.prog 57 #[.pointer (some ⟨g, 0, none⟩), .int .u64 id] W fun e w' => e = .returned (.int .i64 (-1)) ∧ w' = W) := fun W hb => (h.below hb).lost id hn
  have BB : Hid (Below w.heap.size w (w.alloc (.cells zSpL.toArray 62))) := (Below.refl _ _).alloc (Nat.le_refl _) _
  clear h hn
  unfold zSpL at BB
  go_enter Tryz.func35, Tryz.ntmps35
  go_wp2_with (go_at_call 57; ((with_reducible refine (FI.out _ BB.out).mono ?_); clear FI; rintro e w1 ⟨rfl, hw1⟩; subst hw1))
  (try simp only [Exit.inBlock, Exit.then])
  refine bodyPost_ret (v := .tuple #[.agg zSpL.toArray, .bool false]) ?_ rfl ⟨rfl, BB.out⟩
  rw [results_cell_tmp rfl]
  have hld := blk_loadS (cs := zSpL) rfl (Blk.new w zSpL.toArray 62)
  unfold zSpL at hld
  simp [asAddr, Result.andThen, hld, zSpL]
set_option maxHeartbeats 2000000 in
theorem rIDs_any (h : RZ w g sa sc L nb cn V Z) : Calls Tryz.prog 33 #[.pointer (some ⟨g, 0, none⟩)] w fun e w' => ∃ va vl vc, e = .returned (.slice va vl vc) ∧ Hid (vl = Z.length ∧ w'.ownsRow w.heap.size 48 1 (.slice va vl vc) vl (((Z.map (fun x => x.nd.id)).take Z.length).flatMap uL)) ∧ Below w.heap.size w w' := by
  have HZ : Hid (RZ w g sa sc L nb cn V Z) := h
  have hl := h.sp.len
  obtain ⟨n, hn⟩ : ∃ n, L.length = n := ⟨_, rfl⟩
  have HN : Hid (L.length = n ∧ Z.length = n) := ⟨hn, by rw [← h.len]; exact hn⟩
  rw [hn] at hl
  rw [HN.out.2]
  clear h hn
  have hn1 : (n : Int) ≤ 1000 := by omega
  go_enter Tryz.func33, Tryz.ntmps33
  go_wp2
  go_loopw [3, 4] (fun v x wr => ∃ (k : Nat) (va : Option Addr) (vc : Nat), v = .slice va k vc ∧ x = .int .i64 k ∧ k ≤ n ∧ Hid (wr.ownsRow w.heap.size 48 1 (.slice va k vc) k (((Z.map (fun x => x.nd.id)).take k).flatMap uL)) ∧ Hid (Below w.heap.size w wr)) (fun _ x _ => n - (intOf x).toNat)
  case atStart => exact ⟨0, none, 0, rfl, rfl, by omega, World.ownsRow_nil _ _ _ _, Below.refl _ _⟩
  case round =>
    obtain ⟨k, va, vc, rfl, rfl, hk, HO, HB⟩ := hrel
    have hZr := HZ.out.below HB.out
    have hh := hZr.sp.head
    rw [HN.out.1] at hh
    by_cases hlt : k < n
    · have hlt' : (k : Int) < (n : Int) := by omega
      have hkL : k < L.length := by rw [HN.out.1]; exact hlt
      have hkZ : k < Z.length := by rw [HN.out.2]; exact hlt
      obtain ⟨sg, rfl, c2, _⟩ := hZr.sp.idpar k hkL
      rw [(hZr.each k hkL hkZ).1, (hZr.each k hkL hkZ).2] at c2
      have HT : Hid ((Z.map (fun x => x.nd.id)).take (k + 1) = (Z.map (fun x => x.nd.id)).take k ++ [Z[k].nd.id]) := by
        show _ = _
        rw [List.take_add_one, List.getElem?_eq_getElem (by simpa using hkZ)]
        simp
      have HTL : Hid (((Z.map (fun x => x.nd.id)).take k).length = k) := by show _ = _; simp; omega
      have HV : Hid (∀ j, (Value.slice va k vc).ownBlock = some j → w.heap.size ≤ j) := fun j e => by
        rcases HO.out.2 with ⟨e1, _⟩ | ⟨g', cap, cur, e1, hb, _⟩
        · rw [e1] at e; simp [Value.ownBlock] at e
        · rw [e1] at e; simp [Value.ownBlock] at e; omega
      generalize Z[k].nd.id = y at *
      clear hZr
      go_wp2_with (at_builtin; (refine wpList_appU wr rfl _ _ rfl w.heap.size (.slice va k vc) k _ y _ rfl rfl HO.out HTL.out rfl (by omega) HB.out.size ?_; intro va9 vc9 w' hr' hu'); have HO' : Hid _ := hr'; have HB' : Hid (Below w.heap.size w w') := HB.out.trans (hu'.below HB.out.size (fun j hj e => by have := HV.out j e; omega)); clear hr' hu')
      go_roundw
      case rel => exact ⟨k + 1, _, _, rfl, by go_num, by omega, by show World.ownsRow _ _ _ _ _ _ _; rw [HT.out]; exact HO'.out, HB'⟩
      case measure => simp [intOf]; omega
    · obtain rfl : k = n := by omega
      have hlt' : ¬ (k : Int) < (k : Int) := by omega
      go_wp2
      go_ret
      exact ⟨_, _, _, rfl, ⟨rfl, HO.out⟩, HB.out⟩
end
end Go.Proofs.YtbefeobikjnlpaaGreatDoor

namespace Go.Proofs.YtbefeobikjnlpaaGreatDoor.sk
open Go Go.RowKit
set_option maxRecDepth 100000

theorem but_rz {X : List Sp} {w0 w : World} {f sb : Nat} {Y : List Sp} {C : List Int} {dp : Nat → Nat} {fin : Nat → Nod} {Z : List Spot} {K : Nat → List Int} {rv : Value} {R : List Int} (h : BuT X w0 f sb Y C dp fin Z K rv R) {g : Nat} (hR : RFor w g Y fin) : ∃ sa sc L nb cn V, RZ w g sa sc L nb cn V Z := by
  obtain ⟨sa, sc, L, h1, h2, h3, h4⟩ := hR
  have hl := h.fo.fo.len
  have hL : L.length = Z.length := by have e := congrArg List.length h2; rw [List.length_map] at e; omega
  have he : ∀ i (h : i < L.length) (h' : i < Z.length), L[i].1 = Z[i].a ∧ Z[i].a.id = Z[i].nd.id := fun i hi hi' => by
    have hiY : i < Y.length := by omega
    have e1 : L[i].1 = Y[i] := by subst h2; simp
    have e2 := h.fo.fo.each i hiY hi'
    exact ⟨by rw [e1, e2.1], by rw [e2.1, e2.2, h.fo.idY i hiY]⟩
  have ha : ∀ x ∈ L, SpAt w x.1 x.2 ∧ x.1.links.length ≤ 1000 ∧ x.1.attrs.length ≤ 1000 ∧ x.1.events.length ≤ 1000 := fun x hx => ⟨h3 x hx, chk_lens (h.fo.one.chk _ (by rw [← h2]; exact List.mem_map_of_mem hx))⟩
  by_cases h0 : 0 < Z.length
  · obtain ⟨nb, cn, V, v1, v2, v3⟩ := h4 (by omega)
    exact ⟨sa, sc, L, nb, cn, V, h1, hL, he, ha, fun _ => v1, fun _ => by omega, fun i hi hi' => by rw [v3 i hi, (h.fo.fo.each i (by omega) hi').2]⟩
  · exact ⟨sa, sc, L, 0, 0, [], h1, hL, he, ha, fun h => absurd h h0, fun h => absurd h h0, fun i hi => by cases hi⟩
theorem rspan_svc {w : World} {g : Nat} {sa : Option Addr} {sc : Nat} {L : List Sq} {nb cn : Nat} {V : List Nod} {Z : List Spot} (h : RZ w g sa sc L nb cn V Z) (hr : RiseS Z) (id : Int) :
    Calls Tryz.prog 35 #[.pointer (some ⟨g, 0, none⟩), .int .u64 id] w fun e w' => ∃ cs b, e = .returned (.tuple #[.agg (List.toArray cs), .bool b]) ∧ Hid (SvP cs (svcOf Z id)) ∧ Below w.heap.size w w' := by
  by_cases hx : ∃ k, ∃ hk : k < Z.length, Z[k].nd.id = id
  · obtain ⟨k, hk, rfl⟩ := hx
    refine (rSpan_at h k hk).mono ?_
    rintro e w' ⟨p', rfl, hb⟩
    refine ⟨(spC Z[k].a p').toList, true, ?_, ⟨⟨_, _, _, _, _, _, _, _, _, _, _, _, by rw [svcOf_at hr hk rfl]; rfl⟩, spC_one _ _⟩, hb⟩
    unfold spV
    simp
  · have hn : ∀ k (hk : k < Z.length), Z[k].nd.id ≠ id := fun k hk e => hx ⟨k, hk, e⟩
    refine (rSpan_no h id hn).mono ?_
    rintro e w' ⟨rfl, hb⟩
    exact ⟨zSpL, false, rfl, ⟨⟨_, _, _, _, _, _, _, _, _, _, _, _, by rw [svcOf_no hn]; rfl⟩, fun v hv => by unfold zSpL at hv; simp at hv; rcases hv with rfl | rfl | rfl | rfl | rfl <;> rfl⟩, hb⟩
theorem rspan_self {w : World} {g : Nat} {sa : Option Addr} {sc : Nat} {L : List Sq} {nb cn : Nat} {V : List Nod} {Z : List Spot} (h : RZ w g sa sc L nb cn V Z) (k : Nat) (hk : k < Z.length) :
    Calls Tryz.prog 35 #[.pointer (some ⟨g, 0, none⟩), .int .u64 Z[k].nd.id] w fun e w' => ∃ cs, e = .returned (.tuple #[.agg (List.toArray cs), .bool true]) ∧ Hid (SvQ cs Z[k].a) ∧ Below w.heap.size w w' := by
  refine (rSpan_at h k hk).mono ?_
  rintro e w' ⟨p', rfl, hb⟩
  refine ⟨(spC Z[k].a p').toList, ?_, ⟨⟨_, _, _, _, _, _, _, _, _, rfl⟩, spC_one _ _⟩, hb⟩
  unfold spV
  simp
theorem ids_there {w1 : World} {base : Nat} {va : Option Addr} {vl vc : Nat} {Z : List Spot} (h : vl = Z.length ∧ w1.ownsRow base 48 1 (.slice va vl vc) vl (((Z.map (fun x => x.nd.id)).take Z.length).flatMap uL)) (k : Nat) (hk : k < Z.length) : ∃ r, va = some ⟨r, 0, none⟩ ∧ ∀ W, Below w1.heap.size w1 W → W.cell? ⟨r, k, none⟩ = some (.int .u64 Z[k].nd.id) := by
  obtain ⟨hl, ho⟩ := h
  rw [List.take_of_length_le (by simp)] at ho
  obtain ⟨r, cap, e, _, hr⟩ := RwG.of_owns ho (by simp [hl]) (by omega)
  injection e with e1 _ _
  subst e1
  refine ⟨r, rfl, fun W hb => ?_⟩
  have := (hr.below hb).cell uL_len k (by simpa using hk) 0 (u := .int .u64 Z[k].nd.id) (by simp [uL])
  rwa [Nat.mul_one, Nat.add_zero] at this
set_option maxHeartbeats 1000000 in
theorem rOf_nil (w : World) : Calls Tryz.prog 9 #[.pointer none] w fun e w' => e = .returned (.slice none 0 0) ∧ Below w.heap.size w w' := by
  have B := Below.refl w.heap.size w
  go_enter Tryz.func9, Tryz.ntmps9
  go_wp2
  go_ret
  exact ⟨rfl, B⟩
set_option maxHeartbeats 1000000 in
theorem cOf_nil (w : World) : Calls Tryz.prog 8 #[.pointer none] w fun e w' => e = .returned (.slice none 0 0) ∧ Below w.heap.size w w' := by
  have B := Below.refl w.heap.size w
  go_enter Tryz.func8, Tryz.ntmps8
  go_wp2
  go_ret
  exact ⟨rfl, B⟩
set_option maxHeartbeats 8000000 in
theorem rOf_any {w : World} {g : Nat} {sa : Option Addr} {sc : Nat} {L : List Sq} {nb cn : Nat} {V : List Nod} {Z : List Spot} (h : RZ w g sa sc L nb cn V Z) (hr : RiseS Z) (hM : ∀ i (h : i < Z.length), 0 ≤ Z[i].a.start ∧ Z[i].a.start ≤ Z[i].a.fin ∧ Z[i].a.fin ≤ 4611686018427387904) :
    Calls Tryz.prog 9 #[.pointer (some ⟨g, 0, none⟩)] w (OfP Z w) := by
  have ID := rIDs_any h
  have HF : Hid (RZ w g sa sc L nb cn V Z) := h
  have HM : Hid _ := hM
  have HRS : Hid (RiseS Z) := hr
  obtain ⟨n2, hn⟩ : ∃ n, Z.length = n := ⟨_, rfl⟩
  have HN : Hid (Z.length = n2) := hn
  have hl : n2 ≤ 1000 := by rw [← hn, ← h.len]; exact h.sp.len
  clear h hM hr hn
  have hl2 : (n2 : Int) ≤ 1000 := by omega
  go_enter Tryz.func9, Tryz.ntmps9
  go_wp2_with (go_at_call 33; (with_reducible refine ID.mono ?_); clear ID; rintro e w1 ⟨va, vl, vc, rfl, hid, hb⟩; have HB1 : Hid (Below w.heap.size w w1) := hb; have HIDS : Hid (∀ k (hk : k < Z.length), ∃ r, va = some ⟨r, 0, none⟩ ∧ ∀ W, Below w1.heap.size w1 W → W.cell? ⟨r, k, none⟩ = some (.int .u64 Z[k].nd.id)) := fun k hk => ids_there hid.out k hk; have HVL : Hid (vl = n2) := hid.out.1.trans HN.out; clear hid hb)
  obtain rfl := HVL.out
  go_loopw [3, 5] (fun l x wr => ∃ (k : Nat), x = .int .i64 k ∧ k ≤ vl ∧ Hid (OwnCal w1.heap.size wr l (ofL Z k)) ∧ Hid (Below w1.heap.size w1 wr)) (fun _ x _ => vl - (intOf x).toNat)
  case atStart => exact ⟨0, rfl, by omega, OwnCal.nil _ _, Below.refl _ _⟩
  case round =>
    obtain ⟨k, rfl, hkn, HO, HBr⟩ := hrel
    obtain ⟨la, ll, lc, hls⟩ := row_shape HO.out
    subst hls
    by_cases hlt : k < vl
    · have hlt' : (k : Int) < (vl : Int) := by omega
      have hkX : k < Z.length := by rw [HN.out]; exact hlt
      obtain ⟨r, rfl, hci⟩ := HIDS.out k hkX
      have cI := hci wr HBr.out
      have HCI : Hid (∀ W, Below wr.heap.size wr W → W.cell? ⟨r, k, none⟩ = some (.int .u64 Z[k].nd.id)) := fun W hb => hci W (HBr.out.trans (hb.mono HBr.out.size))
      have hZr : RZ wr g sa sc L nb cn V Z := (HF.out.below HB1.out).below HBr.out
      have ND := rNode_at hZr k hkX
      have SS : Hid (∀ W, Below wr.heap.size wr W → _) := fun W (hb : Below wr.heap.size wr W) => rspan_self (hZr.below hb) k hkX
      have SU : Hid (∀ W, Below wr.heap.size wr W → _) := fun W (hb : Below wr.heap.size wr W) => rspan_svc (hZr.below hb) HRS.out Z[k].nd.par
      have HT : Hid (ofL Z (k + 1) = ofL Z k ++ ofOne Z Z[k]) := ofL_succ Z k hkX
      have HLL : Hid ((ofL Z k).length ≤ k) := ofL_len Z k
      have hM1 := HM.out k hkX
      generalize Z[k] = x at *
      obtain ⟨sv, hsv0⟩ : ∃ sv, svcOf Z x.nd.par = sv := ⟨_, rfl⟩
      have HONE : Hid (x.nd.org = 0 → ¬ x.a.svc = sv → ofOne Z x = [callOf sv x.a]) := fun h1 h2 => by unfold ofOne; rw [hsv0, if_pos ⟨h1, h2⟩]
      have HNIL : Hid (¬ (x.nd.org = 0 ∧ ¬ x.a.svc = sv) → ofOne Z x = []) := fun h1 => by unfold ofOne; rw [hsv0, if_neg h1]
      rw [hsv0] at SU
      have SKP : Hid (ofOne Z x = [] → ∀ W, Below wr.heap.size wr W → Hid (OwnCal w1.heap.size W (.slice la ll lc) (ofL Z (k + 1))) ∧ Hid (Below w1.heap.size w1 W)) := fun h W hW => by
        refine ⟨?_, HBr.out.trans (hW.mono HBr.out.size)⟩
        show OwnCal _ _ _ _
        rw [HT.out, h, List.append_nil]
        exact OwnCal.below HO.out hW
      clear hZr hsv0 hci
      unfold ndV at ND
      by_cases horg : x.nd.org = 0
      rotate_left
      · have ho : (x.nd.org == 0) = false := by simpa using horg
        have FN := SKP.out (HNIL.out (fun h => horg h.1))
        clear SKP HNIL HONE horg
        go_wp2_with (first
          | (go_at_call 34; (with_reducible refine ND.mono ?_); clear ND; rintro e w2 ⟨rfl, b2⟩; have HB2x : Hid (Below wr.heap.size wr (w2.alloc (.cells #[.int .u64 x.nd.id, .int .u64 x.nd.par, .int .i64 x.nd.org, .int .u64 x.nd.tree, .int .i64 x.nd.dep, .int .i64 x.nd.fr, .int .i64 x.nd.til] 53))) := b2.alloc b2.size _; have HN2 : Hid (Blk (w2.alloc (.cells #[.int .u64 x.nd.id, .int .u64 x.nd.par, .int .i64 x.nd.org, .int .u64 x.nd.tree, .int .i64 x.nd.dep, .int .i64 x.nd.fr, .int .i64 x.nd.til] 53)) w2.heap.size #[.int .u64 x.nd.id, .int .u64 x.nd.par, .int .i64 x.nd.org, .int .u64 x.nd.tree, .int .i64 x.nd.dep, .int .i64 x.nd.fr, .int .i64 x.nd.til] 53) := Blk.new _ _ _; have c2 : (w2.alloc (.cells #[.int .u64 x.nd.id, .int .u64 x.nd.par, .int .i64 x.nd.org, .int .u64 x.nd.tree, .int .i64 x.nd.dep, .int .i64 x.nd.fr, .int .i64 x.nd.til] 53)).cell? ⟨r, k, none⟩ = some (.int .u64 x.nd.id) := HCI.out _ HB2x.out; clear b2)
          | (go_at_call 35; (with_reducible refine (SS.out _ HB2x.out).mono ?_); clear SS; rintro e w3 ⟨cs, rfl, HQ, b3⟩; obtain ⟨q0, q1, q2, q3, q4, q6, q7, q11, q12, rfl⟩ := HQ.out.ex; have HB3 : Hid (Below wr.heap.size wr w3) := HB2x.out.trans (b3.mono HB2x.out.size); have HN3 : Hid (Blk w3 w2.heap.size #[.int .u64 x.nd.id, .int .u64 x.nd.par, .int .i64 x.nd.org, .int .u64 x.nd.tree, .int .i64 x.nd.dep, .int .i64 x.nd.fr, .int .i64 x.nd.til] 53) := Blk.below HN2.out b3 (Blk.lt HN2.out); clear b3 HN2)
          | (refine wpList_stW rfl 62 _ _ rfl w3.heap.size zSpL [q0, q1, q2, q3, q4, .string x.a.svc, q6, q7, .int .i64 x.a.status, .int .i64 x.a.start, .int .i64 x.a.fin, q11, q12] 62 (Blk.new _ _ _) rfl rfl rfl (by kernel_rfl) HQ.out.one ?_; intro w4 n4 u4; have HB4 : Hid (Below wr.heap.size wr w4) := (HB3.out.alloc HB3.out.size _).trans (u4.below (by have := HB3.out.size; simp; omega) (fun j hj e => by have := HB3.out.size; omega)); have HS4 : Hid (Blk w4 w3.heap.size ([q0, q1, q2, q3, q4, .string x.a.svc, q6, q7, .int .i64 x.a.status, .int .i64 x.a.start, .int .i64 x.a.fin, q11, q12] : List Value).toArray 62) := n4; have HN4 : Hid (Blk w4 w2.heap.size #[.int .u64 x.nd.id, .int .u64 x.nd.par, .int .i64 x.nd.org, .int .u64 x.nd.tree, .int .i64 x.nd.dep, .int .i64 x.nd.fr, .int .i64 x.nd.til] 53) := Blk.upd (Blk.alloc HN3.out _) u4 (by have := Blk.lt HN3.out; omega); have c4 : w4.cell? ⟨w2.heap.size, 1, none⟩ = some (.int .u64 x.nd.par) := Blk.cell HN4.out 1 rfl; clear n4 u4 HN3)
          | (go_at_call 35; (with_reducible refine (SU.out _ HB4.out).mono ?_); clear SU; rintro e w5 ⟨cs, bb, rfl, HP, b5⟩; obtain ⟨p0, p1, p2, p3, p4, p6, p7, p8, p9, p10, p11, p12, rfl⟩ := HP.out.ex; have HB5 : Hid (Below wr.heap.size wr w5) := HB4.out.trans (b5.mono HB4.out.size); have HS5 : Hid (Blk w5 w3.heap.size ([q0, q1, q2, q3, q4, .string x.a.svc, q6, q7, .int .i64 x.a.status, .int .i64 x.a.start, .int .i64 x.a.fin, q11, q12] : List Value).toArray 62) := Blk.below HS4.out b5 (Blk.lt HS4.out); have HN5 : Hid (Blk w5 w2.heap.size #[.int .u64 x.nd.id, .int .u64 x.nd.par, .int .i64 x.nd.org, .int .u64 x.nd.tree, .int .i64 x.nd.dep, .int .i64 x.nd.fr, .int .i64 x.nd.til] 53) := Blk.below HN4.out b5 (Blk.lt HN4.out); clear b5 HS4 HN4)
          | (refine wpList_stW rfl 62 _ _ rfl w5.heap.size zSpL [p0, p1, p2, p3, p4, .string sv, p6, p7, p8, p9, p10, p11, p12] 62 (Blk.new _ _ _) rfl rfl rfl (by kernel_rfl) HP.out.one ?_; intro w6 n6 u6; have HB6 : Hid (Below wr.heap.size wr w6) := (HB5.out.alloc HB5.out.size _).trans (u6.below (by have := HB5.out.size; simp; omega) (fun j hj e => by have := HB5.out.size; omega)); have HU6 : Hid (Blk w6 w5.heap.size ([p0, p1, p2, p3, p4, .string sv, p6, p7, p8, p9, p10, p11, p12] : List Value).toArray 62) := n6; have HS6 : Hid (Blk w6 w3.heap.size ([q0, q1, q2, q3, q4, .string x.a.svc, q6, q7, .int .i64 x.a.status, .int .i64 x.a.start, .int .i64 x.a.fin, q11, q12] : List Value).toArray 62) := Blk.upd (Blk.alloc HS5.out _) u6 (by have := Blk.lt HS5.out; omega); have HN6 : Hid (Blk w6 w2.heap.size #[.int .u64 x.nd.id, .int .u64 x.nd.par, .int .i64 x.nd.org, .int .u64 x.nd.tree, .int .i64 x.nd.dep, .int .i64 x.nd.fr, .int .i64 x.nd.til] 53) := Blk.upd (Blk.alloc HN5.out _) u6 (by have := Blk.lt HN5.out; omega); have o6 : w6.cell? ⟨w2.heap.size, 2, none⟩ = some (.int .i64 x.nd.org) := Blk.cell HN6.out 2 rfl; have s6 : w6.cell? ⟨w3.heap.size, 5, none⟩ = some (.string x.a.svc) := Blk.cell HS6.out 5 rfl; have t6 : w6.cell? ⟨w5.heap.size, 5, none⟩ = some (.string sv) := Blk.cell HU6.out 5 rfl; clear n6 u6 HS5 HN5))
        have FN6 := FN w6 HB6.out
        go_wp2
        go_roundw
        case rel => exact ⟨k + 1, by go_num, by omega, FN6.1, FN6.2⟩
        case measure => simp [intOf]; omega
      · by_cases hsv : x.a.svc = sv
        · have FN := SKP.out (HNIL.out (fun h => h.2 hsv))
          rw [← hsv] at SU
          rw [horg] at ND
          clear SKP HNIL HONE horg hsv
          have hq : (x.a.svc.toList == x.a.svc.toList) = true := by simp
          go_wp2_with (first
            | (go_at_call 34; (with_reducible refine ND.mono ?_); clear ND; rintro e w2 ⟨rfl, b2⟩; have HB2x : Hid (Below wr.heap.size wr (w2.alloc (.cells #[.int .u64 x.nd.id, .int .u64 x.nd.par, .int .i64 0, .int .u64 x.nd.tree, .int .i64 x.nd.dep, .int .i64 x.nd.fr, .int .i64 x.nd.til] 53))) := b2.alloc b2.size _; have HN2 : Hid (Blk (w2.alloc (.cells #[.int .u64 x.nd.id, .int .u64 x.nd.par, .int .i64 0, .int .u64 x.nd.tree, .int .i64 x.nd.dep, .int .i64 x.nd.fr, .int .i64 x.nd.til] 53)) w2.heap.size #[.int .u64 x.nd.id, .int .u64 x.nd.par, .int .i64 0, .int .u64 x.nd.tree, .int .i64 x.nd.dep, .int .i64 x.nd.fr, .int .i64 x.nd.til] 53) := Blk.new _ _ _; have c2 : (w2.alloc (.cells #[.int .u64 x.nd.id, .int .u64 x.nd.par, .int .i64 0, .int .u64 x.nd.tree, .int .i64 x.nd.dep, .int .i64 x.nd.fr, .int .i64 x.nd.til] 53)).cell? ⟨r, k, none⟩ = some (.int .u64 x.nd.id) := HCI.out _ HB2x.out; clear b2)
            | (go_at_call 35; (with_reducible refine (SS.out _ HB2x.out).mono ?_); clear SS; rintro e w3 ⟨cs, rfl, HQ, b3⟩; obtain ⟨q0, q1, q2, q3, q4, q6, q7, q11, q12, rfl⟩ := HQ.out.ex; have HB3 : Hid (Below wr.heap.size wr w3) := HB2x.out.trans (b3.mono HB2x.out.size); have HN3 : Hid (Blk w3 w2.heap.size #[.int .u64 x.nd.id, .int .u64 x.nd.par, .int .i64 0, .int .u64 x.nd.tree, .int .i64 x.nd.dep, .int .i64 x.nd.fr, .int .i64 x.nd.til] 53) := Blk.below HN2.out b3 (Blk.lt HN2.out); clear b3 HN2)
            | (refine wpList_stW rfl 62 _ _ rfl w3.heap.size zSpL [q0, q1, q2, q3, q4, .string x.a.svc, q6, q7, .int .i64 x.a.status, .int .i64 x.a.start, .int .i64 x.a.fin, q11, q12] 62 (Blk.new _ _ _) rfl rfl rfl (by kernel_rfl) HQ.out.one ?_; intro w4 n4 u4; have HB4 : Hid (Below wr.heap.size wr w4) := (HB3.out.alloc HB3.out.size _).trans (u4.below (by have := HB3.out.size; simp; omega) (fun j hj e => by have := HB3.out.size; omega)); have HS4 : Hid (Blk w4 w3.heap.size ([q0, q1, q2, q3, q4, .string x.a.svc, q6, q7, .int .i64 x.a.status, .int .i64 x.a.start, .int .i64 x.a.fin, q11, q12] : List Value).toArray 62) := n4; have HN4 : Hid (Blk w4 w2.heap.size #[.int .u64 x.nd.id, .int .u64 x.nd.par, .int .i64 0, .int .u64 x.nd.tree, .int .i64 x.nd.dep, .int .i64 x.nd.fr, .int .i64 x.nd.til] 53) := Blk.upd (Blk.alloc HN3.out _) u4 (by have := Blk.lt HN3.out; omega); have c4 : w4.cell? ⟨w2.heap.size, 1, none⟩ = some (.int .u64 x.nd.par) := Blk.cell HN4.out 1 rfl; clear n4 u4 HN3)
            | (go_at_call 35; (with_reducible refine (SU.out _ HB4.out).mono ?_); clear SU; rintro e w5 ⟨cs, bb, rfl, HP, b5⟩; obtain ⟨p0, p1, p2, p3, p4, p6, p7, p8, p9, p10, p11, p12, rfl⟩ := HP.out.ex; have HB5 : Hid (Below wr.heap.size wr w5) := HB4.out.trans (b5.mono HB4.out.size); have HS5 : Hid (Blk w5 w3.heap.size ([q0, q1, q2, q3, q4, .string x.a.svc, q6, q7, .int .i64 x.a.status, .int .i64 x.a.start, .int .i64 x.a.fin, q11, q12] : List Value).toArray 62) := Blk.below HS4.out b5 (Blk.lt HS4.out); have HN5 : Hid (Blk w5 w2.heap.size #[.int .u64 x.nd.id, .int .u64 x.nd.par, .int .i64 0, .int .u64 x.nd.tree, .int .i64 x.nd.dep, .int .i64 x.nd.fr, .int .i64 x.nd.til] 53) := Blk.below HN4.out b5 (Blk.lt HN4.out); clear b5 HS4 HN4)
            | (refine wpList_stW rfl 62 _ _ rfl w5.heap.size zSpL [p0, p1, p2, p3, p4, .string x.a.svc, p6, p7, p8, p9, p10, p11, p12] 62 (Blk.new _ _ _) rfl rfl rfl (by kernel_rfl) HP.out.one ?_; intro w6 n6 u6; have HB6 : Hid (Below wr.heap.size wr w6) := (HB5.out.alloc HB5.out.size _).trans (u6.below (by have := HB5.out.size; simp; omega) (fun j hj e => by have := HB5.out.size; omega)); have HU6 : Hid (Blk w6 w5.heap.size ([p0, p1, p2, p3, p4, .string x.a.svc, p6, p7, p8, p9, p10, p11, p12] : List Value).toArray 62) := n6; have HS6 : Hid (Blk w6 w3.heap.size ([q0, q1, q2, q3, q4, .string x.a.svc, q6, q7, .int .i64 x.a.status, .int .i64 x.a.start, .int .i64 x.a.fin, q11, q12] : List Value).toArray 62) := Blk.upd (Blk.alloc HS5.out _) u6 (by have := Blk.lt HS5.out; omega); have HN6 : Hid (Blk w6 w2.heap.size #[.int .u64 x.nd.id, .int .u64 x.nd.par, .int .i64 0, .int .u64 x.nd.tree, .int .i64 x.nd.dep, .int .i64 x.nd.fr, .int .i64 x.nd.til] 53) := Blk.upd (Blk.alloc HN5.out _) u6 (by have := Blk.lt HN5.out; omega); have o6 : w6.cell? ⟨w2.heap.size, 2, none⟩ = some (.int .i64 0) := Blk.cell HN6.out 2 rfl; have s6 : w6.cell? ⟨w3.heap.size, 5, none⟩ = some (.string x.a.svc) := Blk.cell HS6.out 5 rfl; have t6 : w6.cell? ⟨w5.heap.size, 5, none⟩ = some (.string x.a.svc) := Blk.cell HU6.out 5 rfl; clear n6 u6 HS5 HN5))
          have FN6 := FN w6 HB6.out
          go_wp2
          go_roundw
          case rel => exact ⟨k + 1, by go_num, by omega, FN6.1, FN6.2⟩
          case measure => simp [intOf]; omega
        · have hc1 := HONE.out horg hsv
          have hq : (sv.toList == x.a.svc.toList) = false := by rw [str_eq]; simp; exact fun e => hsv e.symm
          rw [horg] at ND
          obtain ⟨hr, hhr⟩ : ∃ hr, x.a.start / 3600000000000 = hr := ⟨_, rfl⟩
          obtain ⟨dk, hdk⟩ : ∃ dk, x.a.fin - x.a.start = dk := ⟨_, rfl⟩
          obtain ⟨fb, hfb⟩ : ∃ fb, decide (x.a.status = 2) = fb := ⟨_, rfl⟩
          have hcl : callOf sv x.a = (hr, sv, x.a.svc, fb, dk) := by unfold callOf; rw [hhr, hdk, hfb]
          have HNX : Hid (ofL Z (k + 1) = ofL Z k ++ [(hr, sv, x.a.svc, fb, dk)]) := by show _ = _; rw [HT.out, hc1, hcl]
          have HD : Hid (0 ≤ dk ∧ dk ≤ 4611686018427387904) := ⟨by omega, by omega⟩
          have q1 : IntKind.i64.wrap (x.a.start.tdiv 3600000000000) = hr := by have h := hour_wrap hM1.1 (show x.a.start ≤ 4611686018427387904 by omega); unfold wrap64 at h; rw [IntKind.wrap_i64, ← hhr]; exact h
          have q2 : IntKind.i64.wrap (x.a.fin - x.a.start) = dk := by rw [IntKind.wrap_i64, hdk]; have := HD.out; omega
          have q3 : IntKind.u64.wrap dk = dk := by rw [IntKind.wrap_u64]; have := HD.out; omega
          have q4 : (x.a.status == 2) = fb := by rw [← hfb]; by_cases h : x.a.status = 2 <;> simp [h]
          clear SKP HNIL HONE horg hsv hc1 hcl hhr hdk hfb hM1 HT
          generalize ofL Z k = Lk at *
          go_wp2_with (first
            | (go_at_call 34; (with_reducible refine ND.mono ?_); clear ND; rintro e w2 ⟨rfl, b2⟩; have HB2x : Hid (Below wr.heap.size wr (w2.alloc (.cells #[.int .u64 x.nd.id, .int .u64 x.nd.par, .int .i64 0, .int .u64 x.nd.tree, .int .i64 x.nd.dep, .int .i64 x.nd.fr, .int .i64 x.nd.til] 53))) := b2.alloc b2.size _; have HN2 : Hid (Blk (w2.alloc (.cells #[.int .u64 x.nd.id, .int .u64 x.nd.par, .int .i64 0, .int .u64 x.nd.tree, .int .i64 x.nd.dep, .int .i64 x.nd.fr, .int .i64 x.nd.til] 53)) w2.heap.size #[.int .u64 x.nd.id, .int .u64 x.nd.par, .int .i64 0, .int .u64 x.nd.tree, .int .i64 x.nd.dep, .int .i64 x.nd.fr, .int .i64 x.nd.til] 53) := Blk.new _ _ _; have c2 : (w2.alloc (.cells #[.int .u64 x.nd.id, .int .u64 x.nd.par, .int .i64 0, .int .u64 x.nd.tree, .int .i64 x.nd.dep, .int .i64 x.nd.fr, .int .i64 x.nd.til] 53)).cell? ⟨r, k, none⟩ = some (.int .u64 x.nd.id) := HCI.out _ HB2x.out; clear b2)
            | (go_at_call 35; (with_reducible refine (SS.out _ HB2x.out).mono ?_); clear SS; rintro e w3 ⟨cs, rfl, HQ, b3⟩; obtain ⟨q0, q1, q2, q3, q4, q6, q7, q11, q12, rfl⟩ := HQ.out.ex; have HB3 : Hid (Below wr.heap.size wr w3) := HB2x.out.trans (b3.mono HB2x.out.size); have HN3 : Hid (Blk w3 w2.heap.size #[.int .u64 x.nd.id, .int .u64 x.nd.par, .int .i64 0, .int .u64 x.nd.tree, .int .i64 x.nd.dep, .int .i64 x.nd.fr, .int .i64 x.nd.til] 53) := Blk.below HN2.out b3 (Blk.lt HN2.out); clear b3 HN2)
            | (refine wpList_stW rfl 62 _ _ rfl w3.heap.size zSpL [q0, q1, q2, q3, q4, .string x.a.svc, q6, q7, .int .i64 x.a.status, .int .i64 x.a.start, .int .i64 x.a.fin, q11, q12] 62 (Blk.new _ _ _) rfl rfl rfl (by kernel_rfl) HQ.out.one ?_; intro w4 n4 u4; have HB4 : Hid (Below wr.heap.size wr w4) := (HB3.out.alloc HB3.out.size _).trans (u4.below (by have := HB3.out.size; simp; omega) (fun j hj e => by have := HB3.out.size; omega)); have HS4 : Hid (Blk w4 w3.heap.size ([q0, q1, q2, q3, q4, .string x.a.svc, q6, q7, .int .i64 x.a.status, .int .i64 x.a.start, .int .i64 x.a.fin, q11, q12] : List Value).toArray 62) := n4; have HN4 : Hid (Blk w4 w2.heap.size #[.int .u64 x.nd.id, .int .u64 x.nd.par, .int .i64 0, .int .u64 x.nd.tree, .int .i64 x.nd.dep, .int .i64 x.nd.fr, .int .i64 x.nd.til] 53) := Blk.upd (Blk.alloc HN3.out _) u4 (by have := Blk.lt HN3.out; omega); have c4 : w4.cell? ⟨w2.heap.size, 1, none⟩ = some (.int .u64 x.nd.par) := Blk.cell HN4.out 1 rfl; clear n4 u4 HN3)
            | (go_at_call 35; (with_reducible refine (SU.out _ HB4.out).mono ?_); clear SU; rintro e w5 ⟨cs, bb, rfl, HP, b5⟩; obtain ⟨p0, p1, p2, p3, p4, p6, p7, p8, p9, p10, p11, p12, rfl⟩ := HP.out.ex; have HB5 : Hid (Below wr.heap.size wr w5) := HB4.out.trans (b5.mono HB4.out.size); have HS5 : Hid (Blk w5 w3.heap.size ([q0, q1, q2, q3, q4, .string x.a.svc, q6, q7, .int .i64 x.a.status, .int .i64 x.a.start, .int .i64 x.a.fin, q11, q12] : List Value).toArray 62) := Blk.below HS4.out b5 (Blk.lt HS4.out); have HN5 : Hid (Blk w5 w2.heap.size #[.int .u64 x.nd.id, .int .u64 x.nd.par, .int .i64 0, .int .u64 x.nd.tree, .int .i64 x.nd.dep, .int .i64 x.nd.fr, .int .i64 x.nd.til] 53) := Blk.below HN4.out b5 (Blk.lt HN4.out); clear b5 HS4 HN4)
            | (refine wpList_stW rfl 62 _ _ rfl w5.heap.size zSpL [p0, p1, p2, p3, p4, .string sv, p6, p7, p8, p9, p10, p11, p12] 62 (Blk.new _ _ _) rfl rfl rfl (by kernel_rfl) HP.out.one ?_; intro w6 n6 u6; have HB6 : Hid (Below wr.heap.size wr w6) := (HB5.out.alloc HB5.out.size _).trans (u6.below (by have := HB5.out.size; simp; omega) (fun j hj e => by have := HB5.out.size; omega)); have HU6 : Hid (Blk w6 w5.heap.size ([p0, p1, p2, p3, p4, .string sv, p6, p7, p8, p9, p10, p11, p12] : List Value).toArray 62) := n6; have HS6 : Hid (Blk w6 w3.heap.size ([q0, q1, q2, q3, q4, .string x.a.svc, q6, q7, .int .i64 x.a.status, .int .i64 x.a.start, .int .i64 x.a.fin, q11, q12] : List Value).toArray 62) := Blk.upd (Blk.alloc HS5.out _) u6 (by have := Blk.lt HS5.out; omega); have HN6 : Hid (Blk w6 w2.heap.size #[.int .u64 x.nd.id, .int .u64 x.nd.par, .int .i64 0, .int .u64 x.nd.tree, .int .i64 x.nd.dep, .int .i64 x.nd.fr, .int .i64 x.nd.til] 53) := Blk.upd (Blk.alloc HN5.out _) u6 (by have := Blk.lt HN5.out; omega); have o6 : w6.cell? ⟨w2.heap.size, 2, none⟩ = some (.int .i64 0) := Blk.cell HN6.out 2 rfl; have s6 : w6.cell? ⟨w3.heap.size, 5, none⟩ = some (.string x.a.svc) := Blk.cell HS6.out 5 rfl; have t6 : w6.cell? ⟨w5.heap.size, 5, none⟩ = some (.string sv) := Blk.cell HU6.out 5 rfl; clear n6 u6 HS5 HN5; have s8 : w6.cell? ⟨w3.heap.size, 8, none⟩ = some (.int .i64 x.a.status) := Blk.cell HS6.out 8 rfl; have s9 : w6.cell? ⟨w3.heap.size, 9, none⟩ = some (.int .i64 x.a.start) := Blk.cell HS6.out 9 rfl; have s10 : w6.cell? ⟨w3.heap.size, 10, none⟩ = some (.int .i64 x.a.fin) := Blk.cell HS6.out 10 rfl)
            | (at_builtin; refine wpList_appC w6 rfl _ _ rfl w1.heap.size (.slice la ll lc) Lk (hr, sv, x.a.svc, fb, dk) rfl (OwnCal.below HO.out HB6.out) rfl (by have := HLL.out; omega) (by have := HBr.out.size; have := HB6.out.size; omega) ?_; intro v8 w8 o8 u8; obtain ⟨a8, l8, c8, rfl⟩ := row_shape o8; have HO8 : Hid (OwnCal w1.heap.size w8 (.slice a8 l8 c8) (Lk ++ [(hr, sv, x.a.svc, fb, dk)])) := o8; have HB8 : Hid (Below w1.heap.size w1 w8) := (HBr.out.trans (HB6.out.mono HBr.out.size)).trans (u8.below (by have := HBr.out.size; have := HB6.out.size; omega) (fun j hj e => by omega)); clear o8 u8))
          have FN8 : Hid (OwnCal w1.heap.size w8 (.slice a8 l8 c8) (ofL Z (k + 1))) := by show OwnCal _ _ _ _; rw [HNX.out]; exact HO8.out
          go_wp2
          go_roundw
          case rel => exact ⟨k + 1, by go_num, by omega, FN8, HB8⟩
          case measure => simp [intOf]; omega
    · have hk : k = vl := by omega
      have hlt' : ¬ (k : Int) < (vl : Int) := by omega
      have HE : Hid (OfP Z w (.returned (.slice la ll lc)) wr) := by
        have h1 := HO.out
        rw [hk, ← HN.out] at h1
        exact ⟨_, rfl, own_base h1 HB1.out.size, HB1.out.trans (HBr.out.mono HB1.out.size)⟩
      go_wp2
      go_ret
      exact HE.out
end Go.Proofs.YtbefeobikjnlpaaGreatDoor.sk

namespace Go.Proofs.YtbefeobikjnlpaaGreatDoor.sk
open Go Go.RowKit
set_option maxRecDepth 100000

/-- What Of tells, of calls that are known. -/
def OfQ (L : List Cal) (w : World) (e : Ending) (w' : World) : Prop := ∃ ao n c, e = .returned (.slice ao n c) ∧ Hid (OwnCal w.heap.size w' (.slice ao n c) L) ∧ Below w.heap.size w w'
theorem ofP_Q {X : List Spot} {w : World} {e : Ending} {w' : World} (h : OfP X w e w') : OfQ (ofL X X.length) w e w' := by
  obtain ⟨v, rfl, h1, h2⟩ := h
  obtain ⟨ao, l, c, rfl⟩ := row_shape h1.out
  exact ⟨ao, l, c, rfl, h1, h2⟩
/-- A trace that is one: Build of both, and Of of both. -/
def PairP (ad : Option Addr) (n cap : Nat) (w W : World) (e : Ending) (w' : World) : Prop := ∃ f L, e = .returned (.tuple #[.pointer (some ⟨f, 0, none⟩), .int .i64 0]) ∧ Hid (L.length ≤ 1000) ∧ Hid (∀ U, Below w'.heap.size w' U → Calls Tryz.prog 8 #[.pointer (some ⟨f, 0, none⟩)] U (OfQ L U)) ∧ Hid (∀ U, Below w.heap.size w U → Calls Tryz.prog 7 #[.slice ad n cap] U fun e w'' => ∃ g, e = .returned (.tuple #[.pointer (some ⟨g, 0, none⟩), .int .i64 0]) ∧ Hid (∀ U', Below w''.heap.size w'' U' → Calls Tryz.prog 9 #[.pointer (some ⟨g, 0, none⟩)] U' (OfQ L U')) ∧ Below U.heap.size U w'') ∧ Below W.heap.size W w'
theorem pair_yes (ad : Option Addr) (n cap : Nat) (X : List Sp) (P : Nat → Pl) (w : World) (hX : SpsAt w ad n X P) (hF : ∀ a ∈ X, a.Fits) (hS : ∀ a ∈ X, a.Small) (hT : Tabs w) (h1 : OneT X) (W : World) (hb : Below w.heap.size w W) : Calls Tryz.prog 6 #[.slice ad n cap] W (PairP ad n cap w W) := by
  refine (build_one ad n cap X P W (hX.below hb) hF hS (hT.below hb) h1).mono ?_
  rintro e w' ⟨f, sb, Y, C, dp, fin, Z, K, rv, R, rfl, hB, b⟩
  refine ⟨f, ofL Z Z.length, rfl, Nat.le_trans (ofL_len Z Z.length) hB.out.at_.small, fun U hU => ?_, fun U hU => ?_, b⟩
  · exact (of_any f sb Z K rv R U (hB.out.at_.below hU) hB.out.mom).mono fun e w'' h => ofP_Q h
  · refine (rBuild_one ad n cap X P U (hX.below hU) hF hS h1 hB.out).mono ?_
    rintro e w'' ⟨g, rfl, hR, b2⟩
    refine ⟨g, rfl, fun U' hU' => ?_, b2⟩
    obtain ⟨sa, sc, L, nb, cn, V, hZ⟩ := but_rz hB.out hR.out
    exact (rOf_any (hZ.below hU') hB.out.at_.rise hB.out.mom).mono fun e w'' h => ofP_Q h
/-- Lists that came out one behind the other, with what they hold. -/
def ChainM (w : World) : Nat → Nat → List (Option Addr × Nat × Nat × List Cal) → Prop
  | lo, hi, [] => lo ≤ hi
  | lo, hi, x :: r => (OwnCal lo w (.slice x.1 x.2.1 x.2.2.1) x.2.2.2 ∧ x.2.2.2.length ≤ 1000) ∧ ∃ mid, lo ≤ mid ∧ (∀ k, (Value.slice x.1 x.2.1 x.2.2.1).ownBlock = some k → k < mid) ∧ ChainM w mid hi r
theorem ChainM.le {w : World} : ∀ {l : List (Option Addr × Nat × Nat × List Cal)} {lo hi : Nat}, ChainM w lo hi l → lo ≤ hi
  | [], _, _, h => h
  | _ :: _, _, _, ⟨_, _, h1, _, h2⟩ => Nat.le_trans h1 (ChainM.le h2)
theorem ChainM.upd {S : Nat → Prop} {w w' : World} (hu : Upd S w w') : ∀ {l : List (Option Addr × Nat × Nat × List Cal)} {lo hi : Nat}, ChainM w lo hi l → (∀ k, lo ≤ k → ¬ S k) → ChainM w' lo hi l
  | [], _, _, h, _ => h
  | _ :: _, _, _, ⟨⟨h0, hl⟩, mid, h1, h2, h3⟩, hS => ⟨⟨h0.upd hu hS, hl⟩, mid, h1, h2, ChainM.upd hu h3 (fun k hk => hS k (Nat.le_trans h1 hk))⟩
theorem ChainM.hi {w : World} : ∀ {l : List (Option Addr × Nat × Nat × List Cal)} {lo hi hi' : Nat}, ChainM w lo hi l → hi ≤ hi' → ChainM w lo hi' l
  | [], _, _, _, h, hh => Nat.le_trans h hh
  | _ :: _, _, _, _, ⟨h0, mid, h1, h2, h3⟩, hh => ⟨h0, mid, h1, h2, ChainM.hi h3 hh⟩
theorem ChainM.snoc {w : World} {x : Option Addr × Nat × Nat × List Cal} : ∀ {l : List (Option Addr × Nat × Nat × List Cal)} {lo hi hi' : Nat}, ChainM w lo hi l → OwnCal hi w (.slice x.1 x.2.1 x.2.2.1) x.2.2.2 → x.2.2.2.length ≤ 1000 → (∀ k, (Value.slice x.1 x.2.1 x.2.2.1).ownBlock = some k → k < hi') → hi ≤ hi' → ChainM w lo hi' (l ++ [x])
  | [], _, _, hi', h, ho, hl, hk, hh => ⟨⟨own_base ho h, hl⟩, hi', Nat.le_trans h hh, hk, Nat.le_refl _⟩
  | _ :: _, _, _, _, ⟨h0, mid, h1, h2, h3⟩, ho, hl, hk, hh => ⟨h0, mid, h1, h2, ChainM.snoc h3 ho hl hk hh⟩
theorem ChainM.below {w w' : World} {l : List (Option Addr × Nat × Nat × List Cal)} {lo : Nat} (h : ChainM w lo w.heap.size l) (hb : Below w.heap.size w w') : ChainM w' lo w'.heap.size l :=
  (ChainM.upd (Upd.ofBelow (S := fun _ => False) hb (fun k hk hk' => by omega)) h (fun _ _ h => h)).hi hb.size
theorem ChainM.add {w w' : World} {l : List (Option Addr × Nat × Nat × List Cal)} {lo : Nat} {p : Option Addr} {n c : Nat} {L : List Cal} (h : ChainM w lo w.heap.size l) (hb : Below w.heap.size w w') (ho : OwnCal w.heap.size w' (.slice p n c) L) (hl : L.length ≤ 1000) : ChainM w' lo w'.heap.size (l ++ [(p, n, c, L)]) :=
  ChainM.snoc (x := (p, n, c, L)) (ChainM.upd (Upd.ofBelow (S := fun _ => False) hb (fun k hk hk' => by omega)) h (fun _ _ h => h)) ho hl (OwnCal.ltB ho) hb.size
theorem ChainM.at_ {w : World} : ∀ {l : List (Option Addr × Nat × Nat × List Cal)} {lo hi : Nat}, ChainM w lo hi l → ∀ (j : Nat) {p : Option Addr} {n c : Nat} {L : List Cal}, l[j]? = some (p, n, c, L) → CalAt w p n L ∧ n ≤ c ∧ c ≤ maxLen
  | [], _, _, _, j, _, _, _, _, hj => by simp at hj
  | x :: r, _, _, ⟨⟨h0, _⟩, _⟩, 0, p, n, c, L, hj => by
    simp at hj
    subst hj
    have := own_cap h0
    exact ⟨OwnCal.at h0, by have h5 := this.1; have h6 := this.2.1; simp only at h5 h6; omega, this.2.2⟩
  | x :: r, _, _, ⟨_, _, _, _, h3⟩, j + 1, p, n, c, L, hj => ChainM.at_ h3 j (by simpa using hj)
theorem ChainM.four {w : World} {lo hi : Nat} {p1 p2 p3 p4 : Option Addr} {n1 n2 n3 n4 c1 c2 c3 c4 : Nat} {L1 L2 L3 L4 : List Cal} {r : List (Option Addr × Nat × Nat × List Cal)} (h : ChainM w lo hi ((p1, n1, c1, L1) :: (p2, n2, c2, L2) :: (p3, n3, c3, L3) :: (p4, n4, c4, L4) :: r)) : ChainC w lo hi [.slice p1 n1 c1, .slice p2 n2 c2, .slice p3 n3 c3, .slice p4 n4 c4] := by
  obtain ⟨⟨a1, a2⟩, m1, a3, a4, ⟨b1, b2⟩, m2, b3, b4, ⟨d1, d2⟩, m3, d3, d4, ⟨e1, e2⟩, m4, e3, e4, h5⟩ := h
  exact ⟨⟨L1, a1, by simp only at a2; omega⟩, m1, a3, a4, ⟨L2, b1, by simp only at b2; omega⟩, m2, b3, b4, ⟨L3, d1, by simp only at d2; omega⟩, m3, d3, d4, ⟨L4, e1, by simp only at e2; omega⟩, m4, e3, e4, ChainM.le h5⟩
set_option maxHeartbeats 8000000 in
theorem callsOf_nn (ad ad2 : Option Addr) (n cap m cap2 : Nat) (X X2 : List Sp) (P P2 : Nat → Pl) (w : World) (hX : SpsAt w ad n X P) (hF : ∀ a ∈ X, a.Fits) (hS : ∀ a ∈ X, a.Small) (hX2 : SpsAt w ad2 m X2 P2) (hF2 : ∀ a ∈ X2, a.Fits) (hS2 : ∀ a ∈ X2, a.Small) (hT : Tabs w) (h1 : ¬ OneT X) (h2 : ¬ OneT X2) :
    Calls Tryz.prog 3 #[.slice ad n cap, .slice ad2 m cap2] w fun e w' => e = .returned (.bool true) ∧ Below w.heap.size w w' := by
  have SH := shown_any w hT
  have BD1 : Hid (∀ W, Below w.heap.size w W → Calls Tryz.prog 6 #[.slice ad n cap] W fun e w' => e = .returned (.tuple #[.pointer none, .int .i64 101]) ∧ Below W.heap.size W w') := fun W hb => build_none ad n cap X P W (hX.below hb) hF hS (hT.below hb) h1
  have RB1 : Hid (∀ W, Below w.heap.size w W → Calls Tryz.prog 7 #[.slice ad n cap] W fun e w' => e = .returned (.tuple #[.pointer none, .int .i64 101]) ∧ Below W.heap.size W w') := fun W hb => rBuild_none ad n cap X P W (hX.below hb) hF hS h1
  have BD2 : Hid (∀ W, Below w.heap.size w W → Calls Tryz.prog 6 #[.slice ad2 m cap2] W fun e w' => e = .returned (.tuple #[.pointer none, .int .i64 101]) ∧ Below W.heap.size W w') := fun W hb => build_none ad2 m cap2 X2 P2 W (hX2.below hb) hF2 hS2 (hT.below hb) h2
  have RB2 : Hid (∀ W, Below w.heap.size w W → Calls Tryz.prog 7 #[.slice ad2 m cap2] W fun e w' => e = .returned (.tuple #[.pointer none, .int .i64 101]) ∧ Below W.heap.size W w') := fun W hb => rBuild_none ad2 m cap2 X2 P2 W (hX2.below hb) hF2 hS2 h2
  clear hX hF hS hX2 hF2 hS2 hT h1 h2
  go_enter Tryz.func3, Tryz.ntmps3
  go_wp2_with (first
    | (go_at_call 5; (with_reducible refine SH.mono ?_); clear SH; rintro e w1 ⟨rfl, b1⟩; have HB1 : Hid (Below w.heap.size w w1) := b1; clear b1)
    | (go_at_call 6; (with_reducible refine (BD1.out _ HB1.out).mono ?_); clear BD1; rintro e w2 ⟨rfl, b2⟩; have HB2 : Hid (Below w.heap.size w w2) := HB1.out.trans (b2.mono HB1.out.size); clear b2)
    | (go_at_call 7; (with_reducible refine (RB1.out _ HB2.out).mono ?_); clear RB1; rintro e w3 ⟨rfl, b3⟩; have HB3 : Hid (Below w.heap.size w w3) := HB2.out.trans (b3.mono HB2.out.size); have HC3 : Hid (Below w2.heap.size w2 w3) := b3; clear b3)
    | (go_at_call 6; (with_reducible refine (BD2.out _ HB3.out).mono ?_); clear BD2; rintro e w4 ⟨rfl, b4⟩; have HB4 : Hid (Below w.heap.size w w4) := HB3.out.trans (b4.mono HB3.out.size); have HC4 : Hid (Below w3.heap.size w3 w4) := b4; clear b4)
    | (go_at_call 7; (with_reducible refine (RB2.out _ HB4.out).mono ?_); clear RB2; rintro e w5 ⟨rfl, b5⟩; have HB5 : Hid (Below w.heap.size w w5) := HB4.out.trans (b5.mono HB4.out.size); have HC5 : Hid (Below w4.heap.size w4 w5) := b5; have NL := cOf_nil w5; clear b5)
    | (go_at_call 8; (with_reducible refine NL.mono ?_); clear NL; rintro e w6 ⟨rfl, b6⟩; have HL0 : Hid (Below w5.heap.size w5 w6) := b6; have HB6 : Hid (Below w.heap.size w w6) := HB5.out.trans (b6.mono HB5.out.size); clear b6))
  go_ret
  exact ⟨rfl, HB6.out⟩
set_option maxHeartbeats 8000000 in
theorem callsOf_ny (ad ad2 : Option Addr) (n cap m cap2 : Nat) (X X2 : List Sp) (P P2 : Nat → Pl) (w : World) (hX : SpsAt w ad n X P) (hF : ∀ a ∈ X, a.Fits) (hS : ∀ a ∈ X, a.Small) (hX2 : SpsAt w ad2 m X2 P2) (hF2 : ∀ a ∈ X2, a.Fits) (hS2 : ∀ a ∈ X2, a.Small) (hT : Tabs w) (h1 : ¬ OneT X) (h2 : OneT X2) :
    Calls Tryz.prog 3 #[.slice ad n cap, .slice ad2 m cap2] w fun e w' => e = .returned (.bool true) ∧ Below w.heap.size w w' := by
  have SH := shown_any w hT
  have BD1 : Hid (∀ W, Below w.heap.size w W → Calls Tryz.prog 6 #[.slice ad n cap] W fun e w' => e = .returned (.tuple #[.pointer none, .int .i64 101]) ∧ Below W.heap.size W w') := fun W hb => build_none ad n cap X P W (hX.below hb) hF hS (hT.below hb) h1
  have RB1 : Hid (∀ W, Below w.heap.size w W → Calls Tryz.prog 7 #[.slice ad n cap] W fun e w' => e = .returned (.tuple #[.pointer none, .int .i64 101]) ∧ Below W.heap.size W w') := fun W hb => rBuild_none ad n cap X P W (hX.below hb) hF hS h1
  have BD2 : Hid (∀ W, Below w.heap.size w W → Calls Tryz.prog 6 #[.slice ad2 m cap2] W (PairP ad2 m cap2 w W)) := fun W hb => pair_yes ad2 m cap2 X2 P2 w hX2 hF2 hS2 hT h2 W hb
  clear hX hF hS hX2 hF2 hS2 hT h1 h2
  go_enter Tryz.func3, Tryz.ntmps3
  go_wp2_with (first
    | (go_at_call 5; (with_reducible refine SH.mono ?_); clear SH; rintro e w1 ⟨rfl, b1⟩; have HB1 : Hid (Below w.heap.size w w1) := b1; clear b1)
    | (go_at_call 6; (with_reducible refine (BD1.out _ HB1.out).mono ?_); clear BD1; rintro e w2 ⟨rfl, b2⟩; have HB2 : Hid (Below w.heap.size w w2) := HB1.out.trans (b2.mono HB1.out.size); clear b2)
    | (go_at_call 7; (with_reducible refine (RB1.out _ HB2.out).mono ?_); clear RB1; rintro e w3 ⟨rfl, b3⟩; have HB3 : Hid (Below w.heap.size w w3) := HB2.out.trans (b3.mono HB2.out.size); have HC3 : Hid (Below w2.heap.size w2 w3) := b3; clear b3)
    | (go_at_call 6; (with_reducible refine (BD2.out _ HB3.out).mono ?_); clear BD2; rintro e w4 ⟨o, M2, rfl, L2l, OF2, RB2, b4⟩; have HB4 : Hid (Below w.heap.size w w4) := HB3.out.trans (b4.mono HB3.out.size); have HC4 : Hid (Below w3.heap.size w3 w4) := b4; clear b4)
    | (go_at_call 7; (with_reducible refine (RB2.out _ HB4.out).mono ?_); clear RB2; rintro e w5 ⟨q, rfl, RO2, b5⟩; have HB5 : Hid (Below w.heap.size w w5) := HB4.out.trans (b5.mono HB4.out.size); have HC5 : Hid (Below w4.heap.size w4 w5) := b5; have NL := cOf_nil w5; clear b5)
    | (go_at_call 8; (with_reducible refine NL.mono ?_); clear NL; rintro e w6 ⟨rfl, b6⟩; have HL0 : Hid (Below w5.heap.size w5 w6) := b6; have HB6 : Hid (Below w.heap.size w w6) := HB5.out.trans (b6.mono HB5.out.size); clear b6))
  go_ret
  exact ⟨rfl, HB6.out⟩
set_option maxHeartbeats 8000000 in
theorem callsOf_yn (ad ad2 : Option Addr) (n cap m cap2 : Nat) (X X2 : List Sp) (P P2 : Nat → Pl) (w : World) (hX : SpsAt w ad n X P) (hF : ∀ a ∈ X, a.Fits) (hS : ∀ a ∈ X, a.Small) (hX2 : SpsAt w ad2 m X2 P2) (hF2 : ∀ a ∈ X2, a.Fits) (hS2 : ∀ a ∈ X2, a.Small) (hT : Tabs w) (h1 : OneT X) (h2 : ¬ OneT X2) :
    Calls Tryz.prog 3 #[.slice ad n cap, .slice ad2 m cap2] w fun e w' => e = .returned (.bool true) ∧ Below w.heap.size w w' := by
  have SH := shown_any w hT
  have BD1 : Hid (∀ W, Below w.heap.size w W → Calls Tryz.prog 6 #[.slice ad n cap] W (PairP ad n cap w W)) := fun W hb => pair_yes ad n cap X P w hX hF hS hT h1 W hb
  have BD2 : Hid (∀ W, Below w.heap.size w W → Calls Tryz.prog 6 #[.slice ad2 m cap2] W fun e w' => e = .returned (.tuple #[.pointer none, .int .i64 101]) ∧ Below W.heap.size W w') := fun W hb => build_none ad2 m cap2 X2 P2 W (hX2.below hb) hF2 hS2 (hT.below hb) h2
  have RB2 : Hid (∀ W, Below w.heap.size w W → Calls Tryz.prog 7 #[.slice ad2 m cap2] W fun e w' => e = .returned (.tuple #[.pointer none, .int .i64 101]) ∧ Below W.heap.size W w') := fun W hb => rBuild_none ad2 m cap2 X2 P2 W (hX2.below hb) hF2 hS2 h2
  clear hX hF hS hX2 hF2 hS2 hT h1 h2
  go_enter Tryz.func3, Tryz.ntmps3
  go_wp2_with (first
    | (go_at_call 5; (with_reducible refine SH.mono ?_); clear SH; rintro e w1 ⟨rfl, b1⟩; have HB1 : Hid (Below w.heap.size w w1) := b1; clear b1)
    | (go_at_call 6; (with_reducible refine (BD1.out _ HB1.out).mono ?_); clear BD1; rintro e w2 ⟨f, M1, rfl, L1l, OF1, RB1, b2⟩; have HB2 : Hid (Below w.heap.size w w2) := HB1.out.trans (b2.mono HB1.out.size); clear b2)
    | (go_at_call 7; (with_reducible refine (RB1.out _ HB2.out).mono ?_); clear RB1; rintro e w3 ⟨g, rfl, RO1, b3⟩; have HB3 : Hid (Below w.heap.size w w3) := HB2.out.trans (b3.mono HB2.out.size); have HC3 : Hid (Below w2.heap.size w2 w3) := b3; clear b3)
    | (go_at_call 6; (with_reducible refine (BD2.out _ HB3.out).mono ?_); clear BD2; rintro e w4 ⟨rfl, b4⟩; have HB4 : Hid (Below w.heap.size w w4) := HB3.out.trans (b4.mono HB3.out.size); have HC4 : Hid (Below w3.heap.size w3 w4) := b4; clear b4)
    | (go_at_call 7; (with_reducible refine (RB2.out _ HB4.out).mono ?_); clear RB2; rintro e w5 ⟨rfl, b5⟩; have HB5 : Hid (Below w.heap.size w w5) := HB4.out.trans (b5.mono HB4.out.size); have HC5 : Hid (Below w4.heap.size w4 w5) := b5; have NL := cOf_nil w5; clear b5)
    | (go_at_call 8; (with_reducible refine NL.mono ?_); clear NL; rintro e w6 ⟨rfl, b6⟩; have HL0 : Hid (Below w5.heap.size w5 w6) := b6; have HB6 : Hid (Below w.heap.size w w6) := HB5.out.trans (b6.mono HB5.out.size); clear b6))
  have OA : Hid (∀ W, Below w5.heap.size w5 W → Calls Tryz.prog 8 #[.pointer (some ⟨f, 0, none⟩)] W (OfQ M1 W)) := fun W hb => OF1.out W (HC3.out.trans ((HC4.out.trans ((HC5.out.trans (hb.mono HC5.out.size)).mono HC4.out.size)).mono HC3.out.size))
  have RA : Hid (∀ W, Below w5.heap.size w5 W → Calls Tryz.prog 9 #[.pointer (some ⟨g, 0, none⟩)] W (OfQ M1 W)) := fun W hb => RO1.out W (HC4.out.trans ((HC5.out.trans (hb.mono HC5.out.size)).mono HC4.out.size))
  obtain ⟨M2, hM2⟩ : ∃ M2 : List Cal, M2 = [] := ⟨_, rfl⟩
  have L2l : Hid (M2.length ≤ 1000) := by show M2.length ≤ 1000; rw [hM2]; exact Nat.zero_le _
  have OC : Hid (∀ W, Below w5.heap.size w5 W → Calls Tryz.prog 8 #[.pointer none] W (OfQ M2 W)) := fun W _ => by rw [hM2]; exact (cOf_nil W).mono fun e w' ⟨h1, h2⟩ => ⟨none, 0, 0, h1, OwnCal.nil _ _, h2⟩
  have RC : Hid (∀ W, Below w5.heap.size w5 W → Calls Tryz.prog 9 #[.pointer none] W (OfQ M2 W)) := fun W _ => by rw [hM2]; exact (rOf_nil W).mono fun e w' ⟨h1, h2⟩ => ⟨none, 0, 0, h1, OwnCal.nil _ _, h2⟩
  clear hM2
  have CH0 : Hid (ChainM w6 w5.heap.size w6.heap.size []) := HL0.out.size
  clear OF1 RO1 HC3 HC4 HC5
  go_wp2_with (first
    | (go_at_call 8; (with_reducible refine (OA.out _ HL0.out).mono ?_); rintro e w7 ⟨pa, na, ca, rfl, ho, b⟩; have HL1 : Hid (Below w5.heap.size w5 w7) := HL0.out.trans (b.mono HL0.out.size); have CH1 : Hid (ChainM w7 w5.heap.size w7.heap.size [(pa, na, ca, M1)]) := ChainM.add CH0.out b ho.out L1l.out; clear ho b CH0)
    | (go_at_call 8; (with_reducible refine (OA.out _ HL1.out).mono ?_); rintro e w8 ⟨pb, nb, cb, rfl, ho, b⟩; have HL2 : Hid (Below w5.heap.size w5 w8) := HL1.out.trans (b.mono HL1.out.size); have CH2 : Hid (ChainM w8 w5.heap.size w8.heap.size [(pa, na, ca, M1), (pb, nb, cb, M1)]) := ChainM.add CH1.out b ho.out L1l.out; clear ho b CH1)
    | (go_at_call 8; (with_reducible refine (OC.out _ HL2.out).mono ?_); rintro e w9 ⟨pc, nc, cc, rfl, ho, b⟩; have HL3 : Hid (Below w5.heap.size w5 w9) := HL2.out.trans (b.mono HL2.out.size); have CH3 : Hid (ChainM w9 w5.heap.size w9.heap.size [(pa, na, ca, M1), (pb, nb, cb, M1), (pc, nc, cc, M2)]) := ChainM.add CH2.out b ho.out L2l.out; clear ho b CH2)
    | (go_at_call 8; (with_reducible refine (OA.out _ HL3.out).mono ?_); rintro e w10 ⟨pd, nd, cd, rfl, ho, b⟩; have HL4 : Hid (Below w5.heap.size w5 w10) := HL3.out.trans (b.mono HL3.out.size); have CH4 : Hid (ChainM w10 w5.heap.size w10.heap.size [(pa, na, ca, M1), (pb, nb, cb, M1), (pc, nc, cc, M2), (pd, nd, cd, M1)]) := ChainM.add CH3.out b ho.out L1l.out; clear ho b CH3)
    | (go_at_call 9; (with_reducible refine (RA.out _ HL4.out).mono ?_); rintro e w11 ⟨pu, nu, cu, rfl, ho, b⟩; have HL5 : Hid (Below w5.heap.size w5 w11) := HL4.out.trans (b.mono HL4.out.size); have CH5 : Hid (ChainM w11 w5.heap.size w11.heap.size [(pa, na, ca, M1), (pb, nb, cb, M1), (pc, nc, cc, M2), (pd, nd, cd, M1), (pu, nu, cu, M1)]) := ChainM.add CH4.out b ho.out L1l.out; clear ho b CH4)
    | (go_at_call 10; (with_reducible refine (same_del (CH5.out.at_ 0 rfl).1 (CH5.out.at_ 4 rfl).1 (CH5.out.at_ 0 rfl).2 rfl).mono ?_); rintro e w12 ⟨rfl, b⟩; have HL6 : Hid (Below w5.heap.size w5 w12) := HL5.out.trans (b.mono HL5.out.size); have CH6 : Hid (ChainM w12 w5.heap.size w12.heap.size [(pa, na, ca, M1), (pb, nb, cb, M1), (pc, nc, cc, M2), (pd, nd, cd, M1), (pu, nu, cu, M1)]) := ChainM.below CH5.out b; clear b CH5)
    | (go_at_call 10; (with_reducible refine (same_del (CH6.out.at_ 1 rfl).1 (CH6.out.at_ 4 rfl).1 (CH6.out.at_ 1 rfl).2 rfl).mono ?_); rintro e w13 ⟨rfl, b⟩; have HL7 : Hid (Below w5.heap.size w5 w13) := HL6.out.trans (b.mono HL6.out.size); have CH7 : Hid (ChainM w13 w5.heap.size w13.heap.size [(pa, na, ca, M1), (pb, nb, cb, M1), (pc, nc, cc, M2), (pd, nd, cd, M1), (pu, nu, cu, M1)]) := ChainM.below CH6.out b; clear b CH6)
    | (go_at_call 9; (with_reducible refine (RC.out _ HL7.out).mono ?_); rintro e w14 ⟨pv, nv, cv, rfl, ho, b⟩; have HL8 : Hid (Below w5.heap.size w5 w14) := HL7.out.trans (b.mono HL7.out.size); have CH8 : Hid (ChainM w14 w5.heap.size w14.heap.size [(pa, na, ca, M1), (pb, nb, cb, M1), (pc, nc, cc, M2), (pd, nd, cd, M1), (pu, nu, cu, M1), (pv, nv, cv, M2)]) := ChainM.add CH7.out b ho.out L2l.out; clear ho b CH7)
    | (go_at_call 10; (with_reducible refine (same_del (CH8.out.at_ 2 rfl).1 (CH8.out.at_ 5 rfl).1 (CH8.out.at_ 2 rfl).2 rfl).mono ?_); rintro e w15 ⟨rfl, b⟩; have HL9 : Hid (Below w5.heap.size w5 w15) := HL8.out.trans (b.mono HL8.out.size); have CH9 : Hid (ChainM w15 w5.heap.size w15.heap.size [(pa, na, ca, M1), (pb, nb, cb, M1), (pc, nc, cc, M2), (pd, nd, cd, M1), (pu, nu, cu, M1), (pv, nv, cv, M2)]) := ChainM.below CH8.out b; clear b CH8)
    | (go_at_call 10; (with_reducible refine (same_del (CH9.out.at_ 3 rfl).1 (CH9.out.at_ 4 rfl).1 (CH9.out.at_ 3 rfl).2 rfl).mono ?_); rintro e w16 ⟨rfl, b⟩; have HL10 : Hid (Below w5.heap.size w5 w16) := HL9.out.trans (b.mono HL9.out.size); have CH10 : Hid (ChainM w16 w5.heap.size w16.heap.size [(pa, na, ca, M1), (pb, nb, cb, M1), (pc, nc, cc, M2), (pd, nd, cd, M1), (pu, nu, cu, M1), (pv, nv, cv, M2)]) := ChainM.below CH9.out b; clear b CH9)
    | (go_at_call 11; have OW := ownC_chain [.slice pa na ca, .slice pb nb cb, .slice pc nc cc, .slice pd nd cd] w5.heap.size w16 (ChainM.four CH10.out) (Nat.le_of_ble_eq_true rfl) 4 rfl; (with_reducible refine OW.mono ?_); clear OW; rintro e wE ⟨rfl, bq⟩; have HE : Hid (Below w.heap.size w wE) := (HB5.out.trans (HL10.out.mono HB5.out.size)).trans ((((Below.refl w16.heap.size w16).alloc (Nat.le_refl _) _).mono (Nat.le_trans HB5.out.size HL10.out.size)).trans (bq.mono HB5.out.size)); clear bq CH10))
  go_ret
  exact ⟨rfl, HE.out⟩
set_option maxHeartbeats 8000000 in
theorem callsOf_yy (ad ad2 : Option Addr) (n cap m cap2 : Nat) (X X2 : List Sp) (P P2 : Nat → Pl) (w : World) (hX : SpsAt w ad n X P) (hF : ∀ a ∈ X, a.Fits) (hS : ∀ a ∈ X, a.Small) (hX2 : SpsAt w ad2 m X2 P2) (hF2 : ∀ a ∈ X2, a.Fits) (hS2 : ∀ a ∈ X2, a.Small) (hT : Tabs w) (h1 : OneT X) (h2 : OneT X2) :
    Calls Tryz.prog 3 #[.slice ad n cap, .slice ad2 m cap2] w fun e w' => e = .returned (.bool true) ∧ Below w.heap.size w w' := by
  have SH := shown_any w hT
  have BD1 : Hid (∀ W, Below w.heap.size w W → Calls Tryz.prog 6 #[.slice ad n cap] W (PairP ad n cap w W)) := fun W hb => pair_yes ad n cap X P w hX hF hS hT h1 W hb
  have BD2 : Hid (∀ W, Below w.heap.size w W → Calls Tryz.prog 6 #[.slice ad2 m cap2] W (PairP ad2 m cap2 w W)) := fun W hb => pair_yes ad2 m cap2 X2 P2 w hX2 hF2 hS2 hT h2 W hb
  clear hX hF hS hX2 hF2 hS2 hT h1 h2
  go_enter Tryz.func3, Tryz.ntmps3
  go_wp2_with (first
    | (go_at_call 5; (with_reducible refine SH.mono ?_); clear SH; rintro e w1 ⟨rfl, b1⟩; have HB1 : Hid (Below w.heap.size w w1) := b1; clear b1)
    | (go_at_call 6; (with_reducible refine (BD1.out _ HB1.out).mono ?_); clear BD1; rintro e w2 ⟨f, M1, rfl, L1l, OF1, RB1, b2⟩; have HB2 : Hid (Below w.heap.size w w2) := HB1.out.trans (b2.mono HB1.out.size); clear b2)
    | (go_at_call 7; (with_reducible refine (RB1.out _ HB2.out).mono ?_); clear RB1; rintro e w3 ⟨g, rfl, RO1, b3⟩; have HB3 : Hid (Below w.heap.size w w3) := HB2.out.trans (b3.mono HB2.out.size); have HC3 : Hid (Below w2.heap.size w2 w3) := b3; clear b3)
    | (go_at_call 6; (with_reducible refine (BD2.out _ HB3.out).mono ?_); clear BD2; rintro e w4 ⟨o, M2, rfl, L2l, OF2, RB2, b4⟩; have HB4 : Hid (Below w.heap.size w w4) := HB3.out.trans (b4.mono HB3.out.size); have HC4 : Hid (Below w3.heap.size w3 w4) := b4; clear b4)
    | (go_at_call 7; (with_reducible refine (RB2.out _ HB4.out).mono ?_); clear RB2; rintro e w5 ⟨q, rfl, RO2, b5⟩; have HB5 : Hid (Below w.heap.size w w5) := HB4.out.trans (b5.mono HB4.out.size); have HC5 : Hid (Below w4.heap.size w4 w5) := b5; have NL := cOf_nil w5; clear b5)
    | (go_at_call 8; (with_reducible refine NL.mono ?_); clear NL; rintro e w6 ⟨rfl, b6⟩; have HL0 : Hid (Below w5.heap.size w5 w6) := b6; have HB6 : Hid (Below w.heap.size w w6) := HB5.out.trans (b6.mono HB5.out.size); clear b6))
  have OA : Hid (∀ W, Below w5.heap.size w5 W → Calls Tryz.prog 8 #[.pointer (some ⟨f, 0, none⟩)] W (OfQ M1 W)) := fun W hb => OF1.out W (HC3.out.trans ((HC4.out.trans ((HC5.out.trans (hb.mono HC5.out.size)).mono HC4.out.size)).mono HC3.out.size))
  have RA : Hid (∀ W, Below w5.heap.size w5 W → Calls Tryz.prog 9 #[.pointer (some ⟨g, 0, none⟩)] W (OfQ M1 W)) := fun W hb => RO1.out W (HC4.out.trans ((HC5.out.trans (hb.mono HC5.out.size)).mono HC4.out.size))
  have OC : Hid (∀ W, Below w5.heap.size w5 W → Calls Tryz.prog 8 #[.pointer (some ⟨o, 0, none⟩)] W (OfQ M2 W)) := fun W hb => OF2.out W (HC5.out.trans (hb.mono HC5.out.size))
  have RC : Hid (∀ W, Below w5.heap.size w5 W → Calls Tryz.prog 9 #[.pointer (some ⟨q, 0, none⟩)] W (OfQ M2 W)) := fun W hb => RO2.out W hb
  clear OF2 RO2
  have CH0 : Hid (ChainM w6 w5.heap.size w6.heap.size []) := HL0.out.size
  clear OF1 RO1 HC3 HC4 HC5
  go_wp2_with (first
    | (go_at_call 8; (with_reducible refine (OA.out _ HL0.out).mono ?_); rintro e w7 ⟨pa, na, ca, rfl, ho, b⟩; have HL1 : Hid (Below w5.heap.size w5 w7) := HL0.out.trans (b.mono HL0.out.size); have CH1 : Hid (ChainM w7 w5.heap.size w7.heap.size [(pa, na, ca, M1)]) := ChainM.add CH0.out b ho.out L1l.out; clear ho b CH0)
    | (go_at_call 8; (with_reducible refine (OA.out _ HL1.out).mono ?_); rintro e w8 ⟨pb, nb, cb, rfl, ho, b⟩; have HL2 : Hid (Below w5.heap.size w5 w8) := HL1.out.trans (b.mono HL1.out.size); have CH2 : Hid (ChainM w8 w5.heap.size w8.heap.size [(pa, na, ca, M1), (pb, nb, cb, M1)]) := ChainM.add CH1.out b ho.out L1l.out; clear ho b CH1)
    | (go_at_call 8; (with_reducible refine (OC.out _ HL2.out).mono ?_); rintro e w9 ⟨pc, nc, cc, rfl, ho, b⟩; have HL3 : Hid (Below w5.heap.size w5 w9) := HL2.out.trans (b.mono HL2.out.size); have CH3 : Hid (ChainM w9 w5.heap.size w9.heap.size [(pa, na, ca, M1), (pb, nb, cb, M1), (pc, nc, cc, M2)]) := ChainM.add CH2.out b ho.out L2l.out; clear ho b CH2)
    | (go_at_call 8; (with_reducible refine (OA.out _ HL3.out).mono ?_); rintro e w10 ⟨pd, nd, cd, rfl, ho, b⟩; have HL4 : Hid (Below w5.heap.size w5 w10) := HL3.out.trans (b.mono HL3.out.size); have CH4 : Hid (ChainM w10 w5.heap.size w10.heap.size [(pa, na, ca, M1), (pb, nb, cb, M1), (pc, nc, cc, M2), (pd, nd, cd, M1)]) := ChainM.add CH3.out b ho.out L1l.out; clear ho b CH3)
    | (go_at_call 9; (with_reducible refine (RA.out _ HL4.out).mono ?_); rintro e w11 ⟨pu, nu, cu, rfl, ho, b⟩; have HL5 : Hid (Below w5.heap.size w5 w11) := HL4.out.trans (b.mono HL4.out.size); have CH5 : Hid (ChainM w11 w5.heap.size w11.heap.size [(pa, na, ca, M1), (pb, nb, cb, M1), (pc, nc, cc, M2), (pd, nd, cd, M1), (pu, nu, cu, M1)]) := ChainM.add CH4.out b ho.out L1l.out; clear ho b CH4)
    | (go_at_call 10; (with_reducible refine (same_del (CH5.out.at_ 0 rfl).1 (CH5.out.at_ 4 rfl).1 (CH5.out.at_ 0 rfl).2 rfl).mono ?_); rintro e w12 ⟨rfl, b⟩; have HL6 : Hid (Below w5.heap.size w5 w12) := HL5.out.trans (b.mono HL5.out.size); have CH6 : Hid (ChainM w12 w5.heap.size w12.heap.size [(pa, na, ca, M1), (pb, nb, cb, M1), (pc, nc, cc, M2), (pd, nd, cd, M1), (pu, nu, cu, M1)]) := ChainM.below CH5.out b; clear b CH5)
    | (go_at_call 10; (with_reducible refine (same_del (CH6.out.at_ 1 rfl).1 (CH6.out.at_ 4 rfl).1 (CH6.out.at_ 1 rfl).2 rfl).mono ?_); rintro e w13 ⟨rfl, b⟩; have HL7 : Hid (Below w5.heap.size w5 w13) := HL6.out.trans (b.mono HL6.out.size); have CH7 : Hid (ChainM w13 w5.heap.size w13.heap.size [(pa, na, ca, M1), (pb, nb, cb, M1), (pc, nc, cc, M2), (pd, nd, cd, M1), (pu, nu, cu, M1)]) := ChainM.below CH6.out b; clear b CH6)
    | (go_at_call 9; (with_reducible refine (RC.out _ HL7.out).mono ?_); rintro e w14 ⟨pv, nv, cv, rfl, ho, b⟩; have HL8 : Hid (Below w5.heap.size w5 w14) := HL7.out.trans (b.mono HL7.out.size); have CH8 : Hid (ChainM w14 w5.heap.size w14.heap.size [(pa, na, ca, M1), (pb, nb, cb, M1), (pc, nc, cc, M2), (pd, nd, cd, M1), (pu, nu, cu, M1), (pv, nv, cv, M2)]) := ChainM.add CH7.out b ho.out L2l.out; clear ho b CH7)
    | (go_at_call 10; (with_reducible refine (same_del (CH8.out.at_ 2 rfl).1 (CH8.out.at_ 5 rfl).1 (CH8.out.at_ 2 rfl).2 rfl).mono ?_); rintro e w15 ⟨rfl, b⟩; have HL9 : Hid (Below w5.heap.size w5 w15) := HL8.out.trans (b.mono HL8.out.size); have CH9 : Hid (ChainM w15 w5.heap.size w15.heap.size [(pa, na, ca, M1), (pb, nb, cb, M1), (pc, nc, cc, M2), (pd, nd, cd, M1), (pu, nu, cu, M1), (pv, nv, cv, M2)]) := ChainM.below CH8.out b; clear b CH8)
    | (go_at_call 10; (with_reducible refine (same_del (CH9.out.at_ 3 rfl).1 (CH9.out.at_ 4 rfl).1 (CH9.out.at_ 3 rfl).2 rfl).mono ?_); rintro e w16 ⟨rfl, b⟩; have HL10 : Hid (Below w5.heap.size w5 w16) := HL9.out.trans (b.mono HL9.out.size); have CH10 : Hid (ChainM w16 w5.heap.size w16.heap.size [(pa, na, ca, M1), (pb, nb, cb, M1), (pc, nc, cc, M2), (pd, nd, cd, M1), (pu, nu, cu, M1), (pv, nv, cv, M2)]) := ChainM.below CH9.out b; clear b CH9)
    | (go_at_call 11; have OW := ownC_chain [.slice pa na ca, .slice pb nb cb, .slice pc nc cc, .slice pd nd cd] w5.heap.size w16 (ChainM.four CH10.out) (Nat.le_of_ble_eq_true rfl) 4 rfl; (with_reducible refine OW.mono ?_); clear OW; rintro e wE ⟨rfl, bq⟩; have HE : Hid (Below w.heap.size w wE) := (HB5.out.trans (HL10.out.mono HB5.out.size)).trans ((((Below.refl w16.heap.size w16).alloc (Nat.le_refl _) _).mono (Nat.le_trans HB5.out.size HL10.out.size)).trans (bq.mono HB5.out.size)); clear bq CH10))
  go_ret
  exact ⟨rfl, HE.out⟩
theorem callsOf_any (ad ad2 : Option Addr) (n cap m cap2 : Nat) (X X2 : List Sp) (P P2 : Nat → Pl) (w : World) (hX : SpsAt w ad n X P) (hF : ∀ a ∈ X, a.Fits) (hS : ∀ a ∈ X, a.Small) (hX2 : SpsAt w ad2 m X2 P2) (hF2 : ∀ a ∈ X2, a.Fits) (hS2 : ∀ a ∈ X2, a.Small) (hT : Tabs w) :
    Calls Tryz.prog 3 #[.slice ad n cap, .slice ad2 m cap2] w fun e w' => e = .returned (.bool true) ∧ Below w.heap.size w w' := by
  by_cases h1 : OneT X
  · by_cases h2 : OneT X2
    · exact callsOf_yy ad ad2 n cap m cap2 X X2 P P2 w hX hF hS hX2 hF2 hS2 hT h1 h2
    · exact callsOf_yn ad ad2 n cap m cap2 X X2 P P2 w hX hF hS hX2 hF2 hS2 hT h1 h2
  · by_cases h2 : OneT X2
    · exact callsOf_ny ad ad2 n cap m cap2 X X2 P P2 w hX hF hS hX2 hF2 hS2 hT h1 h2
    · exact callsOf_nn ad ad2 n cap m cap2 X X2 P P2 w hX hF hS hX2 hF2 hS2 hT h1 h2
end Go.Proofs.YtbefeobikjnlpaaGreatDoor.sk
