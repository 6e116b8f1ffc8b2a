/-
  RzO.
-/
import Derived.Test.YtiflfapdffkcbaaDoorRzLq
namespace Go.Proofs.YtiflfapdffkcbaaDoor
open Go Go.RowKit Go.Maps Go.WideMaps
set_option maxRecDepth 100000

/-- What lies in blocks of its own. -/
structure OwnB9 (W : World) (S : Nat → Prop) (Pr : World → Prop) : Prop where
  lt : ∀ k, S k → k < W.heap.size
  at_ : ∀ V, Upd (fun k => ¬ S k) W V → Pr V
theorem OwnB9.upd {W V : World} {S R : Nat → Prop} {Pr : World → Prop} (h : OwnB9 W S Pr) (hu : Upd R W V) (hd : ∀ k, R k → ¬ S k) : OwnB9 V S Pr :=
  ⟨fun k hk => Nat.lt_of_lt_of_le (h.lt k hk) hu.size, fun V' hu' => h.at_ V' ((hu.mono (fun k _ hk => hd k hk)).trans hu' (fun _ _ h => h))⟩
theorem OwnB9.now {W : World} {S : Nat → Prop} {Pr : World → Prop} (h : OwnB9 W S Pr) : Pr W := h.at_ W (Upd.refl _ _)
theorem StQ.own {W : World} {s : Nat} {S : Nat → Prop} {L : List Sp} (h : StQ W s S L) : OwnB9 W S (fun V => StQ V s S L) := ⟨h.lt, fun _ hu => h.upd hu (fun _ h => h)⟩
abbrev Ent9 := (Nat → Prop) × (World → Prop)
/-- Things beside one another, within a law. -/
structure QuE (w W : World) (T : List Ent9) : Prop where
  each : ∀ (i : Nat) (h : i < T.length), OwnB9 W T[i].1 T[i].2
  base : ∀ (i : Nat) (h : i < T.length), ∀ k, T[i].1 k → w.heap.size ≤ k
  apart : ∀ (i j : Nat) (h : i < T.length) (h' : j < T.length), i ≠ j → ∀ k, T[i].1 k → ¬ T[j].1 k
  low : Below w.heap.size w W
def stE (s : Nat) (S : Nat → Prop) (L : List Sp) : Ent9 := (S, fun V => StQ V s S L)
def liE (S : Nat → Prop) (ad : Option Addr) (n : Nat) (Y : List Sp) (P : Nat → Pl) : Ent9 := (S, fun V => SpsAt V ad n Y P)
theorem QuE.nil {w W : World} (hb : Below w.heap.size w W) : QuE w W [] := ⟨fun _ h => by simp at h, fun _ h => by simp at h, fun _ _ h => by simp at h, hb⟩
theorem QuE.below {w W V : World} {T : List Ent9} (h : QuE w W T) (hb : Below W.heap.size W V) : QuE w V T :=
  ⟨fun i hi => (h.each i hi).upd (R := fun _ => False) (Upd.ofBelow hb (fun k h1 h2 => by omega)) (fun _ h => h.elim), h.base, h.apart, h.low.trans (hb.mono h.low.size)⟩
theorem QuE.own {w W : World} {T : List Ent9} (h : QuE w W T) (i : Nat) {x : Ent9} (hi : T[i]? = some x) : OwnB9 W x.1 x.2 := by
  obtain ⟨h1, rfl⟩ := List.getElem?_eq_some_iff.1 hi
  exact h.each i h1
theorem QuE.st {w W : World} {T : List Ent9} (h : QuE w W T) (i : Nat) {s : Nat} {S : Nat → Prop} {L : List Sp} (hi : T[i]? = some (stE s S L)) : StQ W s S L := (h.own i hi).now
theorem QuE.li {w W : World} {T : List Ent9} (h : QuE w W T) (i : Nat) {S : Nat → Prop} {ad : Option Addr} {n : Nat} {Y : List Sp} {P : Nat → Pl} (hi : T[i]? = some (liE S ad n Y P)) : SpsAt W ad n Y P := (h.own i hi).now
theorem QuE.disj {w W : World} {T : List Ent9} (h : QuE w W T) (i j : Nat) {x y : Ent9} (hi : T[i]? = some x) (hj : T[j]? = some y) (hne : i ≠ j) : ∀ k, x.1 k → ¬ y.1 k := by
  obtain ⟨h1, rfl⟩ := List.getElem?_eq_some_iff.1 hi
  obtain ⟨h2, rfl⟩ := List.getElem?_eq_some_iff.1 hj
  exact h.apart i j h1 h2 hne
theorem QuE.add {w W V : World} {T : List Ent9} (h : QuE w W T) (hb : Below W.heap.size W V) {x : Ent9} (o : OwnB9 V x.1 x.2) (hx : ∀ k, x.1 k → W.heap.size ≤ k) : QuE w V (T ++ [x]) := by
  have h2 := h.below hb
  have hl : (T ++ [x]).length = T.length + 1 := by simp
  have g1 : ∀ i (hi : i < (T ++ [x]).length), (∃ hi' : i < T.length, (T ++ [x])[i] = T[i]) ∨ (i = T.length ∧ (T ++ [x])[i] = x) := fun i hi => by
    by_cases hit : i < T.length
    · exact Or.inl ⟨hit, List.getElem_append_left hit⟩
    · have e : i = T.length := by omega
      subst e
      exact Or.inr ⟨rfl, by simp⟩
  refine ⟨fun i hi => ?_, fun i hi k hk => ?_, fun i j hi hj hne k h3 h4 => ?_, h2.low⟩
  · rcases g1 i hi with ⟨hi', e⟩ | ⟨_, e⟩
    · rw [e]; exact h2.each i hi'
    · rw [e]; exact o
  · rcases g1 i hi with ⟨hi', e⟩ | ⟨_, e⟩
    · rw [e] at hk; exact h2.base i hi' k hk
    · rw [e] at hk; exact Nat.le_trans h.low.size (hx k hk)
  · rcases g1 i hi with ⟨hi', e⟩ | ⟨e0, e⟩
    · rcases g1 j hj with ⟨hj', e'⟩ | ⟨e0', e'⟩
      · rw [e] at h3; rw [e'] at h4
        exact h2.apart i j hi' hj' hne k h3 h4
      · rw [e] at h3; rw [e'] at h4
        have a1 := (h.each i hi').lt k h3
        have a2 := hx k h4
        omega
    · rcases g1 j hj with ⟨hj', e'⟩ | ⟨e0', e'⟩
      · rw [e] at h3; rw [e'] at h4
        have a1 := (h.each j hj').lt k h4
        have a2 := hx k h3
        omega
      · omega
theorem QuE.turn {w W V : World} {T : List Ent9} (h : QuE w W T) (i : Nat) {x y : Ent9} (hi : T[i]? = some x) (hu : Upd x.1 W V) (o : OwnB9 V y.1 y.2) (hy : ∀ k, y.1 k → x.1 k ∨ W.heap.size ≤ k) : QuE w V (T.set i y) := by
  obtain ⟨hil, rfl⟩ := List.getElem?_eq_some_iff.1 hi
  have g1 : ∀ j (hj : j < (T.set i y).length), (j = i ∧ (T.set i y)[j] = y) ∨ (j ≠ i ∧ ∃ hj' : j < T.length, (T.set i y)[j] = T[j]) := fun j hj => by
    by_cases e : j = i
    · subst e; exact Or.inl ⟨rfl, by simp⟩
    · exact Or.inr ⟨e, by simpa using hj, List.getElem_set_ne (fun h => e h.symm) _⟩
  have low := h.low.trans (hu.below h.low.size (fun k hk hs => by have := h.base i hil k hs; omega))
  refine ⟨fun j hj => ?_, fun j hj k hk => ?_, fun a b ha hb hne k h3 h4 => ?_, low⟩
  · rcases g1 j hj with ⟨_, e⟩ | ⟨hne, hj', e⟩
    · rw [e]; exact o
    · rw [e]; exact (h.each j hj').upd hu (h.apart i j hil hj' (fun e => hne e.symm))
  · rcases g1 j hj with ⟨_, e⟩ | ⟨hne, hj', e⟩
    · rw [e] at hk
      rcases hy k hk with q | q
      · exact h.base i hil k q
      · exact Nat.le_trans h.low.size q
    · rw [e] at hk; exact h.base j hj' k hk
  · rcases g1 a ha with ⟨ea, e⟩ | ⟨hna, ha', e⟩
    · rcases g1 b hb with ⟨eb, e'⟩ | ⟨hnb, hb', e'⟩
      · omega
      · rw [e] at h3; rw [e'] at h4
        rcases hy k h3 with q | q
        · exact h.apart i b hil hb' (fun e => hnb e.symm) k q h4
        · have := (h.each b hb').lt k h4
          omega
    · rcases g1 b hb with ⟨eb, e'⟩ | ⟨hnb, hb', e'⟩
      · rw [e] at h3; rw [e'] at h4
        rcases hy k h4 with q | q
        · exact h.apart i a hil ha' (fun e => hna e.symm) k q h3
        · have := (h.each a ha').lt k h3
          omega
      · rw [e] at h3; rw [e'] at h4
        exact h.apart a b ha' hb' hne k h3 h4
/-- What a store has behind a Put or a Merge. -/
def aftL (L Y : List Sp) : List Sp := if fitsL L Y = 0 then (runP L Y).1 else L
theorem aftL_ok {L Y : List Sp} (h : fitsL L Y = 0) : aftL L Y = (runP L Y).1 := if_pos h
theorem aftL_no {L Y : List Sp} (h : fitsL L Y ≠ 0) : aftL L Y = L := if_neg h
theorem QuE.new {w W : World} {T : List Ent9} (h : QuE w W T) :
    Calls Tryd.prog 5 #[] W fun e V => ∃ s S, e = .returned (.pointer (some ⟨s, 0, none⟩)) ∧ QuE w V (T ++ [stE s S []]) := by
  refine (new9 W).mono ?_
  rintro e V ⟨s, rfl, hst, hb⟩
  exact ⟨s, _, rfl, h.add hb (x := stE s _ []) hst.own (fun k hk => hk.1)⟩
theorem QuE.same_set {w W : World} {T : List Ent9} (h : QuE w W T) (i : Nat) {x : Ent9} (hi : T[i]? = some x) : QuE w W (T.set i x) := by
  obtain ⟨h1, rfl⟩ := List.getElem?_eq_some_iff.1 hi
  rw [List.set_getElem_self]
  exact h
theorem QuE.put {w W V : World} {T : List Ent9} (h : QuE w W T) (i : Nat) {s : Nat} {S : Nat → Prop} {L Y : List Sp} {n : Nat} {e : Ending} (hi : T[i]? = some (stE s S L)) (hp : PutP9 W s S L Y n e V) : ∃ ad m c S', e = .returned (.tuple #[.slice ad m c, .int .i64 (fitsL L Y)]) ∧ QuE w V (T.set i (stE s S' (aftL L Y))) ∧ (fitsL L Y = 0 → ∃ r, ad = some ⟨r, 0, none⟩ ∧ m = n ∧ Blk V r (chC (runP L Y).2 0) 47) ∧ Upd S W V := by
  rcases hp with ⟨hne, rfl, h2, h3⟩ | ⟨h0, r, rfl, h2, hB, h4, h5⟩
  · refine ⟨_, _, _, S, rfl, ?_, (fun h0 => absurd h0 hne), Upd.ofBelow h3 (fun k h1 h2 => by omega)⟩
    rw [aftL_no hne]
    exact (h.below h3).same_set i hi
  · refine ⟨_, _, _, _, by rw [h0], h.turn i hi (y := stE s _ (aftL L Y)) h5 (StQ.own (by rw [aftL_ok h0]; exact h2)) (fun k hk => ?_), (fun _ => ⟨r, rfl, rfl, hB⟩), h5⟩
    rcases hk with q | q
    · exact Or.inl q
    · exact Or.inr q.1
theorem QuE.putC {w W : World} {T : List Ent9} (h : QuE w W T) (i : Nat) {s : Nat} {S : Nat → Prop} {L : List Sp} (hi : T[i]? = some (stE s S L)) (ad : Option Addr) (n cp : Nat) (Y : List Sp) (P : Nat → Pl) (hY : ∀ V, Upd S W V → SpsAt V ad n Y P) (hF : ∀ a ∈ Y, a.Fits) (hS : ∀ a ∈ Y, a.Small) (hT : Tabs w) (hn : n ≤ 900000000000) (f : Int) (hf : fitsL L Y = f) (A : List Sp) (hA : aftL L Y = A) (cs : List Int) (hc : (runP L Y).2 = cs) :
    Calls Tryd.prog 7 #[.pointer (some ⟨s, 0, none⟩), .slice ad n cp] W fun e V => ∃ ad m c S', e = .returned (.tuple #[.slice ad m c, .int .i64 f]) ∧ QuE w V (T.set i (stE s S' A)) ∧ (f = 0 → ∃ r, ad = some ⟨r, 0, none⟩ ∧ m = n ∧ Blk V r (chC cs 0) 47) ∧ Upd S W V := by
  subst hf
  subst hA
  subst hc
  exact (put9 (h.st i hi) ad n cp Y P hY hF hS (hT.below h.low) hn).mono fun _ _ hp => h.put i hi hp
theorem QuE.args {w W : World} {T : List Ent9} (h : QuE w W T) (i : Nat) {x : Ent9} (hi : T[i]? = some x) {ad : Option Addr} {n : Nat} {Y : List Sp} {P : Nat → Pl} (hY : SpsAt w ad n Y P) : ∀ V, Upd x.1 W V → SpsAt V ad n Y P := fun V hu => by
  obtain ⟨h1, rfl⟩ := List.getElem?_eq_some_iff.1 hi
  exact hY.below (h.low.trans (hu.below h.low.size (fun k hk hs => by have := h.base i h1 k hs; omega)))
theorem QuE.merge {w W : World} {T : List Ent9} (h : QuE w W T) (i j : Nat) (hne : i ≠ j) {s o : Nat} {S R : Nat → Prop} {L K : List Sp} (hi : T[i]? = some (stE s S L)) (hj : T[j]? = some (stE o R K)) (hT : Tabs w) (f : Int) (Pm : List Sp → Prop) (hf : ∀ Y, (Rise Y ∧ ∀ y, y ∈ Y ↔ y ∈ K) → fitsL L Y = f ∧ Pm (aftL L Y)) :
    Calls Tryd.prog 11 #[.pointer (some ⟨s, 0, none⟩), .pointer (some ⟨o, 0, none⟩)] W fun e V => ∃ A S', e = .returned (.int .i64 f) ∧ Pm A ∧ QuE w V (T.set i (stE s S' A)) := by
  refine (merge9 (h.st i hi) (h.st j hj) (h.disj i j hi hj hne) (hT.below h.low)).mono ?_
  rintro e V ⟨Y, hY, ⟨hne, rfl, h2, h3⟩ | ⟨h0, rfl, h2, h5⟩⟩
  · refine ⟨aftL L Y, S, by rw [(hf Y hY).1], (hf Y hY).2, ?_⟩
    rw [aftL_no hne]
    exact (h.below h3).same_set i hi
  · refine ⟨aftL L Y, _, by rw [← (hf Y hY).1, h0], (hf Y hY).2, h.turn i hi (y := stE s _ (aftL L Y)) h5 (StQ.own (by rw [aftL_ok h0]; exact h2)) (fun k hk => ?_)⟩
    rcases hk with q | q
    · exact Or.inl q
    · exact Or.inr q.1
theorem QuE.count {w W : World} {T : List Ent9} (h : QuE w W T) (i : Nat) {s : Nat} {S : Nat → Prop} {L : List Sp} (hi : T[i]? = some (stE s S L)) :
    Calls Tryd.prog 8 #[.pointer (some ⟨s, 0, none⟩)] W fun e w' => e = .returned (.int .i64 (L.length : Int)) ∧ w' = W := count9 (h.st i hi)

/-- A list's spans, with where their own lists lie. -/
def sqs9 (X : List Sp) (P : Nat → Pl) : List Sq := X.mapIdx (fun i a => (a, P i))
theorem sqs9_len (X : List Sp) (P : Nat → Pl) : (sqs9 X P).length = X.length := by unfold sqs9; rw [List.length_mapIdx]
theorem sqs9_get (X : List Sp) (P : Nat → Pl) (i : Nat) (h : i < (sqs9 X P).length) : (sqs9 X P)[i] = (X[i]'(by rw [sqs9_len] at h; exact h), P i) := List.getElem_mapIdx
theorem SpsAt.src9 {w : World} {ad : Option Addr} {n : Nat} {X : List Sp} {P : Nat → Pl} (h : SpsAt w ad n X P) (c : Nat) : Src Tryd.prog 13 25 (.slice ad n c) n ((sqs9 X P).flatMap sqL) w := by
  rcases Nat.eq_zero_or_pos n with h0 | hp
  · subst h0
    have hx : X = [] := List.eq_nil_of_length_eq_zero h.len
    subst hx
    cases ad with
    | none => exact Src.ofNil _ Tryd.underlying25 c
    | some a => exact Src.ofSlice _ Tryd.underlying25 a 0 c [] (by simp) (fun j u hj => by simp at hj) (fun u hu => by cases hu)
  obtain ⟨b, off, rfl, hc⟩ := h.lies hp
  have hl : (sqs9 X P).length = n := by rw [sqs9_len, h.len]
  refine Src.ofSlice _ Tryd.underlying25 ⟨b, off, none⟩ n c _ (by rw [sqF_len, hl]) (fun j u hj => ?_) (sqF_one _)
  have hjl := (List.getElem?_eq_some_iff.1 hj).1
  rw [sqF_len, hl] at hjl
  have hi : j / 13 < (sqs9 X P).length := by rw [hl]; omega
  have hiX : j / 13 < X.length := by rw [h.len]; omega
  have e : j = j / 13 * 13 + j % 13 := by omega
  have h1 := sqF_get (sqs9 X P) (j / 13) hi (j % 13) (by omega)
  rw [← e, hj, sqs9_get] at h1
  have h2 := hc (j / 13) hiX (j % 13) u (by unfold sqL at h1; rw [Array.getElem?_toList] at h1; exact h1.symm)
  rw [Addr.add_lit, show off + j = off + j / 13 * 13 + j % 13 by omega]
  exact h2
/-- A list's spans are appended. -/
theorem wpList_appK {ops : Array Oper} {rest : List Oper} {o : Oper} {a : Act} {Q : Exit → Act → World → Prop} (w : World) (hgd : o.guard = none) (s x : Operand)
    (ho : o.op = .call { callee := .builtin .append, args := #[s, x], argTypes := #[25, 25] })
    (base : Nat) (v : Value) (A : List Sq) (nA : Nat) (hv : a.eval s = v) (hown : w.ownsRow base 36 13 v nA (A.flatMap sqL)) (ad : Option Addr) (n c : Nat) (X : List Sp) (P : Nat → Pl) (hX : SpsAt w ad n X P) (hx : a.eval x = .slice ad n c) (hlen : nA + n ≤ 5000000000) (hbase : base ≤ w.heap.size)
    (h : ∀ v' w', w'.ownsRow base 36 13 v' (nA + n) ((A ++ sqs9 X P).flatMap sqL) → w.grownBy w' v.ownBlock → Moved w v v' → wpList Tryd.prog ops Q rest (a.put o.dst v') w') : wpList Tryd.prog ops Q (o :: rest) a w := by
  obtain ⟨i0, hi0, hz0, hz1, hz2⟩ := info_parts infoSp13
  refine wpList_appW w hgd s x 25 25 ho base 36 i0 _ 13 168 Tryd.underlying25 hi0 hz0 hz1 hz2 rfl v nA _ hv hown _ n _ hx (hX.src9 c) (by unfold maxLen; omega) (by omega) hbase ?_
  intro v1 w1 o1 g1 m1
  refine h v1 w1 ?_ g1 m1
  rw [List.flatMap_append]
  exact o1
/-- One list's spans behind another one's. -/
theorem SpsAt.join9 {w : World} {base : Nat} {ad bd gd : Option Addr} {n m k c : Nat} {X Y : List Sp} {P Q : Nat → Pl} (hX : SpsAt w ad n X P) (hY : SpsAt w bd m Y Q) (ho : w.ownsRow base 36 13 (.slice gd k c) (n + m) ((sqs9 X P ++ sqs9 Y Q).flatMap sqL)) : k = n + m ∧ SpsAt w gd (n + m) (X ++ Y) (fun i => if i < n then P i else Q (i - n)) := by
  have hl1 : (sqs9 X P).length = n := by rw [sqs9_len, hX.len]
  have hl2 : (sqs9 Y Q).length = m := by rw [sqs9_len, hY.len]
  have hlen : (X ++ Y).length = n + m := by rw [List.length_append, hX.len, hY.len]
  have hz : ∀ i (hi : i < (X ++ Y).length), ((sqs9 X P ++ sqs9 Y Q)[i]'(by rw [List.length_append, hl1, hl2, ← hlen]; exact hi)) = ((X ++ Y)[i], if i < n then P i else Q (i - n)) := fun i hi => by
    rw [List.getElem_append, List.getElem_append]
    by_cases h : i < n
    · have h1 : i < (sqs9 X P).length := by omega
      have h2 : i < X.length := by rw [hX.len]; exact h
      rw [dif_pos h1, dif_pos h2, if_pos h, sqs9_get]
    · have h1 : ¬ i < (sqs9 X P).length := by omega
      have h2 : ¬ i < X.length := by rw [hX.len]; exact h
      rw [dif_neg h1, dif_neg h2, if_neg h, sqs9_get]
      simp only [hl1, hX.len]
  have each : ∀ i (hi : i < (X ++ Y).length), SpAt w (X ++ Y)[i] (if i < n then P i else Q (i - n)) := fun i hi => by
    rw [List.getElem_append]
    by_cases h : i < n
    · have h2 : i < X.length := by rw [hX.len]; exact h
      rw [dif_pos h2, if_pos h]
      exact hX.each i h2
    · have h2 : ¬ i < X.length := by rw [hX.len]; exact h
      rw [dif_neg h2, if_neg h]
      have h3 : i - n < Y.length := by rw [hY.len]; rw [hlen] at hi; omega
      have := hY.each (i - n) h3
      simp only [hX.len]
      exact this
  rcases ho.2 with ⟨e, h0⟩ | ⟨g, cap, cur, e, hb, hh, hnc, hcm, hcs, ht⟩
  · simp only [Value.slice.injEq] at e
    obtain ⟨rfl, rfl, rfl⟩ := e
    exact ⟨h0.symm, hlen, fun hp => by omega, each⟩
  · simp only [Value.slice.injEq] at e
    obtain ⟨rfl, rfl, rfl⟩ := e
    refine ⟨rfl, hlen, fun hp => ⟨g, 0, rfl, fun i hi j u hu => ?_⟩, each⟩
    have hj : j < 13 := (Array.getElem?_eq_some_iff.mp hu).1
    have hi2 : i < (sqs9 X P ++ sqs9 Y Q).length := by rw [List.length_append, hl1, hl2, ← hlen]; exact hi
    have h1 := sqF_get (sqs9 X P ++ sqs9 Y Q) i hi2 j hj
    rw [hz i hi] at h1
    have h3 : (sqL ((X ++ Y)[i], if i < n then P i else Q (i - n)))[j]? = some u := by
      unfold sqL
      rw [Array.getElem?_toList]
      exact hu
    have h2 := ho.cells (g := g) rfl (i * 13 + j) u (h1.trans h3)
    rw [Addr.add_lit, ← Nat.add_assoc] at h2
    exact h2
theorem join_any {w W U V : World} {T : List Ent9} (h : QuE w W T) (hU : Below W.heap.size W U) {ga gb ad bd : Option Addr} {gl gc gm gd n m : Nat} {L K : List Sp} {P Q : Nat → Pl}
    (ho : U.ownsRow W.heap.size 36 13 (.slice ga gl gc) (0 + n) (([] ++ sqs9 L P).flatMap sqL)) (ho2 : V.ownsRow W.heap.size 36 13 (.slice gb gm gd) (0 + n + m) (([] ++ sqs9 L P ++ sqs9 K Q).flatMap sqL)) (hg : U.grownBy V (Value.slice ga gl gc).ownBlock) (hX : SpsAt w ad n L P) (hY : SpsAt w bd m K Q) :
    gm = n + m ∧ QuE w V T ∧ ∀ (i : Nat) (x : Ent9), T[i]? = some x → ∀ V', Upd x.1 V V' → SpsAt V' gb (n + m) (L ++ K) (fun i => if i < n then P i else Q (i - n)) := by
  have hUV : Below W.heap.size U V := ⟨hg.os, hg.tape, hg.output, hg.size, fun k hk => hg.block k (Nat.lt_of_lt_of_le hk hU.size) (fun e => by have := (own_block ho e.symm).1; omega)⟩
  have hWV := hU.trans hUV
  have hq := h.below hWV
  rw [Nat.zero_add, List.nil_append] at ho2
  have hV : SpsAt V gb (n + m) (L ++ K) (fun i => if i < n then P i else Q (i - n)) ∧ gm = n + m := by
    have := SpsAt.join9 (hX.below hq.low) (hY.below hq.low) ho2
    exact ⟨this.2, this.1⟩
  refine ⟨hV.2, hq, fun i x hi V' hu => ?_⟩
  have hlow := hq.low.trans (hu.below hq.low.size (fun k hk hs => by
    obtain ⟨h1, rfl⟩ := List.getElem?_eq_some_iff.1 hi
    have := hq.base i h1 k hs
    omega))
  have ho3 := ownsRow_upd ho2 hu (fun k hk hs => by
    have h1 := (own_block ho2 hk).1
    have h2 := (h.own i hi).lt k hs
    omega)
  exact (SpsAt.join9 (hX.below hlow) (hY.below hlow) ho3).2
theorem fits_all9 {l m : List Sp} (hl : ∀ a ∈ l, chkS a = 0) (hm : ∀ a ∈ m, chkS a = 0) : ∀ a ∈ l ++ m, chkS a = 0 := fun a ha => (List.mem_append.1 ha).elim (hl a) (hm a)
theorem fits_nil9 {Y : List Sp} (hY : ∀ a ∈ Y, chkS a = 0) : fitsL [] Y = roomR (Y.foldl putLs []) := by
  rw [fits_put (fun t => by simp [cntL]) hY, run_eq]
theorem mg_room {l m Y : List Sp} (hl : fitsL [] l = 0) (hm : fitsL [] m = 0) (hY : ∀ y, y ∈ Y ↔ y ∈ (runP [] m).1) : fitsL (runP [] l).1 Y = fitsL [] (l ++ m) := by
  rw [run_eq] at hY
  rw [run_eq, merged_room hl (fits_all0 hm) hY, fits_nil9 (fits_all9 (fits_all0 hl) (fits_all0 hm))]
theorem mg_mem {l m Y : List Sp} (hY : ∀ y, y ∈ Y ↔ y ∈ (runP [] m).1) (x : Sp) : x ∈ (runP (runP [] l).1 Y).1 ↔ x ∈ (runP [] (l ++ m)).1 := by
  rw [run_eq] at hY
  rw [run_eq, run_eq, run_eq]
  exact merged_mem hY x
theorem set_room9 {Y Z : List Sp} (hY : ∀ a ∈ Y, chkS a = 0) (h : ∀ x, x ∈ Y ↔ x ∈ Z) : fitsL [] Y = fitsL [] Z := by
  rw [fits_nil9 hY, fits_nil9 (fun a ha => hY a ((h a).2 ha)), room_same h]
theorem set_mem9 {Y Z : List Sp} (h : ∀ x, x ∈ Y ↔ x ∈ Z) (x : Sp) : x ∈ (runP [] Y).1 ↔ x ∈ (runP [] Z).1 := by
  rw [run_eq, run_eq]
  exact fold_same h x
/-- All of both, put into one of them. -/
theorem mg_into {l m Y : List Sp} (hm : fitsL [] m = 0) (hlm : fitsL [] (l ++ m) = 0) (hY : ∀ y, y ∈ Y ↔ y ∈ (runP [] (l ++ m)).1) : fitsL (runP [] m).1 Y = 0 ∧ ∀ x, x ∈ (runP (runP [] m).1 Y).1 ↔ x ∈ (runP [] (l ++ m)).1 := by
  have hs : ∀ x, x ∈ m ++ (l ++ m) ↔ x ∈ l ++ m := fun x => by
    simp only [List.mem_append]
    constructor
    · rintro (h | h)
      · exact Or.inr h
      · exact h
    · exact Or.inr
  refine ⟨?_, fun x => ?_⟩
  · rw [mg_room hm hlm hY, set_room9 (fits_all9 (fits_all0 hm) (fits_all0 hlm)) hs, hlm]
  · rw [mg_mem hY, set_mem9 hs]
theorem mg_turn {l m : List Sp} (hl : fitsL [] l = 0) (hm : fitsL [] m = 0) : fitsL [] (m ++ l) = fitsL [] (l ++ m) :=
  set_room9 (fits_all9 (fits_all0 hm) (fits_all0 hl)) (fun x => by rw [List.mem_append, List.mem_append]; exact Or.comm)
theorem run_empty {l : List Sp} (h : l ≠ []) : 0 < (runP [] l).1.length := by
  rw [run_eq]
  obtain ⟨a, r, rfl⟩ := List.exists_cons_of_ne_nil h
  obtain ⟨z, hz, _⟩ := fold_dom (a :: r) (L := []) List.nodup_nil a (Or.inr (by simp))
  exact List.length_pos_of_mem hz
end Go.Proofs.YtiflfapdffkcbaaDoor
