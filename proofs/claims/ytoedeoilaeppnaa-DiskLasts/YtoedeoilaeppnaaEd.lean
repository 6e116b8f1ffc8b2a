/-
  Layer 7 (disk), DiskLasts: its lists; Read of no bytes.
-/
import Derived.Test.YtoedeoilaeppnaaEc
namespace Go.Proofs.Ytoedeoilaeppnaa
open Go.RowKit Go.Shelf Go.Maps Go.WideMaps
set_option maxRecDepth 100000

theorem own_set {base : Nat} {w : World} {e : TypeId} {g l c n : Nat} {xs : List Value} (h : w.ownsRow base e 1 (.slice (some ⟨g, 0, none⟩) l c) n xs) (i : Nat) (v : Value) : (w.setCell ⟨g, i, none⟩ v).ownsRow base e 1 (.slice (some ⟨g, 0, none⟩) l c) n (xs.set i v) := by
  obtain ⟨h1, h2⟩ := h
  refine ⟨by rw [List.length_set]; exact h1, Or.inr ?_⟩
  rcases h2 with ⟨e, _⟩ | ⟨g', cap, cur, e, hb, hg, hc1, hc2, hc3, hc4⟩
  · simp at e
  · simp at e
    obtain ⟨rfl, rfl, rfl⟩ := e
    refine ⟨g, c, cur.setIfInBounds i v, rfl, hb, blk_set hg i v, hc1, hc2, by rw [Array.size_setIfInBounds]; exact hc3, ?_⟩
    rw [Array.toList_setIfInBounds, List.take_set, hc4]
theorem own_oth {base : Nat} {w : World} {e : TypeId} {v : Value} {n : Nat} {xs : List Value} (h : w.ownsRow base e 1 v n xs) (he : e = 9 ∨ e = 3) {k : Nat} (hk : v.ownBlock = some k) : Oth w k := by
  obtain ⟨cs, hc⟩ := own_type h hk
  exact ⟨cs, e, _, hc, he⟩
theorem own_keep {base : Nat} {w w' : World} {e : TypeId} {v : Value} {n : Nat} {xs : List Value} (h : w.ownsRow base e 1 v n xs) (he : e = 9 ∨ e = 3) (hk : KeepO w w') : w'.ownsRow base e 1 v n xs :=
  ownsRow_upd h hk (fun _ e' hn => hn (own_oth h he e'))
theorem own_apart {base base' : Nat} {w : World} {v v' : Value} {n n' : Nat} {xs xs' : List Value} (h : w.ownsRow base 9 1 v n xs) (h' : w.ownsRow base' 3 1 v' n' xs') {k : Nat} (hk : v.ownBlock = some k) : v'.ownBlock ≠ some k := by
  intro hk'
  obtain ⟨cs, hc⟩ := own_type h hk
  obtain ⟨cs', hc'⟩ := own_type h' hk'
  rw [hc] at hc'
  simp at hc'
def RowS (base : Nat) (w : World) (v : Value) (Ss : List ByteArray) : Prop := w.ownsRow base 9 1 v Ss.length (Ss.map Value.string)
def yV (n : Nat) : Value := .int .i64 (n : Int)
def RowY (base : Nat) (w : World) (v : Value) (Ys : List Nat) : Prop := w.ownsRow base 3 1 v Ys.length (Ys.map yV)
/-- The disk's files and the statement's lists. -/
structure Rel (Fs : List (Nat × Fl)) (Ss : List ByteArray) (Ys : List Nat) (T : Nat) : Prop where
  l1 : Ss.length = Fs.length
  l2 : Ys.length = Fs.length
  fil : ∀ (i : Nat) p, Fs[i]? = some p → ∃ s y, Ss[i]? = some s ∧ Ys[i]? = some y ∧ FilB p.2 (bytesI s) y
  few : ∀ (i : Nat) p, Fs[i]? = some p → p.2.S.length ≤ T
  small : ∀ (i : Nat) s, Ss[i]? = some s → s.size ≤ T
  cnt : Fs.length ≤ T
theorem noF_fil : FilB noF (bytesI ⟨#[]⟩) 0 := ⟨rfl, rfl, Nat.zero_le _, fun t h => by simp [noF] at h⟩
theorem Rel.new {Fs : List (Nat × Fl)} {Ss : List ByteArray} {Ys : List Nat} {T : Nat} (h : Rel Fs Ss Ys T) (f : Nat) : Rel (Fs ++ [(f, noF)]) (Ss ++ [⟨#[]⟩]) (Ys ++ [0]) (T + 1) := by
  have key : ∀ (j : Nat) q, (Fs ++ [(f, noF)])[j]? = some q → (j < Fs.length ∧ Fs[j]? = some q) ∨ (j = Fs.length ∧ q = (f, noF)) := fun j q hq => by
    by_cases hj : j < Fs.length
    · rw [List.getElem?_append_left hj] at hq
      exact Or.inl ⟨hj, hq⟩
    · rw [List.getElem?_append_right (by omega)] at hq
      have : j - Fs.length = 0 := by
        have := (List.getElem?_eq_some_iff.1 hq).1
        simp at this
        omega
      rw [this] at hq
      simp at hq
      exact Or.inr ⟨by omega, hq.symm⟩
  have l1 := h.l1
  have l2 := h.l2
  refine ⟨by simp [l1], by simp [l2], fun i p hp => ?_, fun i p hp => ?_, fun i s hs => ?_, by have := h.cnt; simp; omega⟩
  · rcases key i p hp with ⟨hi, hp⟩ | ⟨rfl, rfl⟩
    · obtain ⟨s, y, e1, e2, e3⟩ := h.fil i p hp
      exact ⟨s, y, by rw [List.getElem?_append_left (by omega)]; exact e1, by rw [List.getElem?_append_left (by omega)]; exact e2, e3⟩
    · exact ⟨⟨#[]⟩, 0, by rw [List.getElem?_append_right (by omega), l1]; simp, by rw [List.getElem?_append_right (by omega), l2]; simp, noF_fil⟩
  · rcases key i p hp with ⟨hi, hp⟩ | ⟨rfl, rfl⟩
    · have := h.few i p hp; omega
    · simp [noF]
  · by_cases hi : i < Ss.length
    · rw [List.getElem?_append_left hi] at hs
      have := h.small i s hs; omega
    · rw [List.getElem?_append_right (by omega)] at hs
      have := (List.getElem?_eq_some_iff.1 hs).1
      simp at this
      have e : i - Ss.length = 0 := by omega
      rw [e] at hs
      simp at hs
      subst hs
      exact Nat.zero_le _
theorem Rel.set {Fs : List (Nat × Fl)} {Ss : List ByteArray} {Ys : List Nat} {T : Nat} (h : Rel Fs Ss Ys T) {x f : Nat} {F G : Fl} (hx : Fs[x]? = some (f, F)) (s : ByteArray) (y T' : Nat) (hF : FilB G (bytesI s) y) (h1 : G.S.length ≤ F.S.length + 1) (h2 : s.size ≤ T') (h3 : T + 1 ≤ T') : Rel (Fs.set x (f, G)) (Ss.set x s) (Ys.set x y) T' := by
  have hl := (List.getElem?_eq_some_iff.1 hx).1
  have l1 := h.l1
  have l2 := h.l2
  refine ⟨by simp [l1], by simp [l2], fun i p hp => ?_, fun i p hp => ?_, fun i s' hs => ?_, by have := h.cnt; simp; omega⟩
  · by_cases hi : i = x
    · subst hi
      rw [List.getElem?_set_self hl] at hp
      obtain rfl := Option.some.inj hp
      exact ⟨s, y, List.getElem?_set_self (by omega), List.getElem?_set_self (by omega), hF⟩
    · rw [List.getElem?_set_ne (fun e => hi e.symm)] at hp
      obtain ⟨s', y', e1, e2, e3⟩ := h.fil i p hp
      exact ⟨s', y', by rw [List.getElem?_set_ne (fun e => hi e.symm)]; exact e1, by rw [List.getElem?_set_ne (fun e => hi e.symm)]; exact e2, e3⟩
  · by_cases hi : i = x
    · subst hi
      rw [List.getElem?_set_self hl] at hp
      obtain rfl := Option.some.inj hp
      have := h.few i _ hx
      simp only at this ⊢
      omega
    · rw [List.getElem?_set_ne (fun e => hi e.symm)] at hp
      have := h.few i p hp; omega
  · by_cases hi : i = x
    · subst hi
      rw [List.getElem?_set_self (by omega)] at hs
      obtain rfl := Option.some.inj hs
      exact h2
    · rw [List.getElem?_set_ne (fun e => hi e.symm)] at hs
      have := h.small i s' hs; omega
theorem Rel.mono {Fs : List (Nat × Fl)} {Ss : List ByteArray} {Ys : List Nat} {T T' : Nat} (h : Rel Fs Ss Ys T) (hT : T ≤ T') : Rel Fs Ss Ys T' :=
  ⟨h.l1, h.l2, h.fil, fun i p hp => by have := h.few i p hp; omega, fun i s hs => by have := h.small i s hs; omega, by have := h.cnt; omega⟩
theorem set_same {α : Type} {l : List α} {i : Nat} {x : α} (h : l[i]? = some x) : l.set i x = l := by
  refine List.ext_getElem? fun j => ?_
  by_cases hj : i = j
  · subst hj; rw [List.getElem?_set_self (List.getElem?_eq_some_iff.1 h).1, h]
  · rw [List.getElem?_set_ne hj]
theorem bytesI_app (s t : ByteArray) : bytesI (s ++ t) = bytesI s ++ bytesI t := by
  unfold bytesI
  rw [ByteArray.data_append, Array.toList_append, List.map_append]
/-- All that the statement has midway in its acts. -/
structure Lst (w1 : World) (b d : Nat) (wr : World) (sv yv : Value) (m : Nat) (N : Nat) (K : Dk) (Fs : List (Nat × Fl)) (Ss : List ByteArray) (Ys : List Nat) (T : Nat) : Prop where
  lz : Lz b wr d N K Fs m
  rs : RowS b wr sv Ss
  ry : RowY b wr yv Ys
  rel : Rel Fs Ss Ys T
  below : Below b w1 wr
  hb : b ≤ w1.heap.size
theorem Lst.size {w1 : World} {b d : Nat} {wr : World} {sv yv : Value} {m N : Nat} {K : Dk} {Fs : List (Nat × Fl)} {Ss : List ByteArray} {Ys : List Nat} {T : Nat} (h : Lst w1 b d wr sv yv m N K Fs Ss Ys T) : b ≤ wr.heap.size := Nat.le_trans h.hb h.below.size
theorem Lst.low {w1 : World} {b d : Nat} {wr w' : World} {sv yv : Value} {m N : Nat} {K : Dk} {Fs : List (Nat × Fl)} {Ss : List ByteArray} {Ys : List Nat} {T : Nat} (h : Lst w1 b d wr sv yv m N K Fs Ss Ys T) (hb : Below wr.heap.size wr w') : Lst w1 b d w' sv yv m N K Fs Ss Ys T :=
  ⟨h.lz.below hb, own_below h.rs hb, own_below h.ry hb, h.rel, h.below.trans (hb.mono h.size), h.hb⟩
/-- A call of the disk. -/
theorem Lst.call {w1 : World} {b d : Nat} {wr w' : World} {sv yv : Value} {m m' N N' : Nat} {K K' : Dk} {Fs Gs : List (Nat × Fl)} {Ss : List ByteArray} {Ys : List Nat} {T : Nat} (h : Lst w1 b d wr sv yv m N K Fs Ss Ys T) (hk : KeepO wr w') (hbl : Below b wr w') (hl : Lz b w' d N' K' Gs m') : Lz b w' d N' K' Gs m' ∧ RowS b w' sv Ss ∧ RowY b w' yv Ys ∧ Below b w1 w' :=
  ⟨hl, own_keep h.rs (Or.inl rfl) hk, own_keep h.ry (Or.inr rfl) hk, h.below.trans hbl⟩
theorem readN0 (base d N : Nat) (K : Dk) (s : ByteArray) (n f : Nat) (F : Fl) (w : World) (h : OneN base w d N K s n f F) (hbig : F.B.length ≤ 140737488355328) :
    Calls Try.prog 15 #[.pointer (some ⟨d, 0, none⟩), .string s, .int .i64 0, .int .i64 0] w fun e w' => ∃ a c, e = .returned (.tuple #[.slice a 0 c, .int .i64 0]) ∧ Below w.heap.size w w' := by
  have FI := findN_any base d N K n f w h.disk h.on s h.small h.ok h.has
  obtain ⟨c0, c1, c2⟩ := cell3 h.file.block
  have ho := h.file.bown
  rcases ho.2 with ⟨hbv, hn⟩ | ⟨g, c, cur, hbv, _, hg, hc1, hc2, hc3, hc4⟩
  · rw [hbv] at c0
    have CL := clone_nil w
    have hl : F.B.length = 0 := hn
    clear h ho hbv c1 c2 hn hbig hl
    go_enter Try.func15, Try.ntmps15
    go_wp2_with (first
      | (go_at_call 22; refine FI.mono ?_; clear FI; rintro e w0 ⟨rfl, hw⟩; obtain rfl := hw.symm)
      | (go_at_call 31; refine CL.mono ?_; clear CL; rintro e w1 ⟨rfl, hw⟩; obtain rfl := hw.symm))
    go_ret2
    exact ⟨_, _, rfl, Below.refl _ _⟩
  · rw [hbv] at c0
    have CL := fun cc => clone_some ⟨g, 0, none⟩ 0 cc [] w ⟨rfl, fun j u hj => by simp at hj⟩ (by omega)
    have k2 : ¬ ((F.B.length : Int) - 0 < 0) := by omega
    have k3 : (0 : Int) ≤ (F.B.length : Int) := by omega
    have k4 : (0 : Int) ≤ (c : Int) := by omega
    have k6 : (F.B.length : Int) ≤ 140737488355328 := by omega
    have SH : ∀ (v : Value) (w1 : World), OwnB w.heap.size w1 v [] → ∃ a c, v = .slice a 0 c := fun v w1 o => by
      obtain ⟨a, l, c, rfl⟩ := row_shape o
      have := (own_len o).1
      simp at this
      subst this
      exact ⟨a, c, rfl⟩
    clear h ho hbv c1 c2 hbig hg hc1 hc2 hc3 hc4
    generalize F.B.length = bl at *
    go_enter Try.func15, Try.ntmps15
    go_wp2_with (first
      | (go_at_call 22; refine FI.mono ?_; clear FI; rintro e w0 ⟨rfl, hw⟩; obtain rfl := hw.symm)
      | (go_at_call 31; refine (CL _).mono ?_; clear CL; rintro e w1 ⟨v1, rfl, o1, b1⟩; obtain ⟨a1, c1, rfl⟩ := SH _ _ o1))
    go_ret2
    exact ⟨_, _, rfl, b1⟩
end Go.Proofs.Ytoedeoilaeppnaa
