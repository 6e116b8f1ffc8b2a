/-
  Merged by merge.py: Is, Xa, Xb, Xc.
-/
import Derived.Test.YthcghpbkadlliabGreatDoorEr
import Derived.Lib.IfaceEq
import Derived.Test.YthcghpbkadlliabGreatDoorMa10
namespace Go.Proofs.YthcghpbkadlliabGreatDoor
open Go.RowKit Go.Extern.Stop Go.Stop Go.Extern
set_option maxRecDepth 100000

theorem is_typeOf (v : Value) (w : World) : (ReflectliteType.typeOf #[.iface 61 v]).run Tryz.prog w = .ok (.iface 179 (.agg #[.pointer (some ⟨4, 61, none⟩)])) w := by kernel_rfl
theorem is_comparable (w : World) : (ReflectliteType.method (fun t => do Rtype.noPackHeld "Comparable" t; pure (.bool (← typeInfo t).comparable)) #[.agg #[.pointer (some ⟨4, 61, none⟩)]]).run Tryz.prog w = .ok (.bool true) w := by kernel_rfl
theorem is_hasUnwrap (v : Value) (xT : TypeId) (w : World) : (Instr.typeAssert (.iface 95 v) xT 187 true).run Tryz.prog w = .ok (.tuple #[.iface 95 v, .bool true]) w := run_typeAssert_hasB Tryz.underlying187 (by kernel_rfl) v xT w
theorem is_methodUnwrap (v : Value) (w : World) : (Go.method 336 95 v "Unwrap").run Tryz.prog w = .ok (134, v) w := by kernel_rfl

end Go.Proofs.YthcghpbkadlliabGreatDoor

namespace Go.Proofs.YthcghpbkadlliabGreatDoor
open Go

/-- A thing's number in a list (how many there are, if it is not in it). -/
def idxL {α : Type} [DecidableEq α] : List α → α → Nat
  | [], _ => 0
  | y :: r, x => if y = x then 0 else idxL r x + 1
abbrev Res (α : Type) := Except (Nat × Nat) α
/-- How far Decode has come: the place, the tables as they were read, how many of each the fields have spoken of, the Start ahead. -/
structure Dst where
  pos : Nat
  texts : List ByteArray
  tpl : List Nat
  tsp : Nat
  traces : List (Int × Int)
  rpl : List Nat
  rsp : Nat
  start : Int
abbrev Pa (α : Type) := List Int → Dst → Res (α × Dst)
def Dst.to (s : Dst) (t : Nat) : Dst := { s with pos := t }
def bindD {α β : Type} (p : Pa α) (f : α → Pa β) : Pa β := fun K s => match p K s with
  | .ok (v, s') => f v K s'
  | .error e => .error e
/-- A part is read, and looked at; what is wrong then is told at its first byte. -/
def stepD {α β : Type} (p : Pa α) (f : α → Dst → Dst → Except Nat (β × Dst)) : Pa β := fun K s => match p K s with
  | .ok (v, s') => match f v s s' with
    | .ok r => .ok r
    | .error e => .error (s.pos, e)
  | .error e => .error e
/-- So many, one behind the other; each may look at those ahead. -/
def iterF {α : Type} (p : List α → Pa α) : Nat → List α → Pa (List α)
  | 0, acc => fun _ s => .ok (acc, s)
  | n + 1, acc => bindD (p acc) fun v => iterF p n (acc ++ [v])

def uintD : Pa Nat := fun K s => match scanN (K.drop s.pos) 0 0 with
  | some (some (v, n)) => .ok (v, s.to (s.pos + n))
  | some none => .error (s.pos, 12)
  | none => .error (K.length, 11)
def intD : Pa Int := stepD uintD fun v _ s' => .ok (zagI v, s')
def bytesD (n : Nat) : Pa (List Int) := fun K s => if s.pos + n ≤ K.length then .ok ((K.drop s.pos).take n, s.to (s.pos + n)) else .error (K.length, 11)
def raw8D : Pa Int := stepD (bytesD 8) fun l _ s' => .ok (unrawL l, s')
def smallD : Pa Int := stepD (bytesD 1) fun l _ s' => .ok (l.headD 0, s')
def textD : Pa ByteArray := fun K s => match textR K s.pos 200 with
  | Except.ok (f, v) => .ok (strI ((K.drop f).take v), s.to (f + v))
  | Except.error e => .error e
def countD (most e : Nat) : Pa Nat := stepD uintD fun n _ s' => if most < n then .error e else .ok (n, s')
def nextT : Pa ByteArray := stepD uintD fun n s s' => if s.texts.length ≤ n then .error 55 else if s.tsp < n then .error 54
  else .ok (s.texts.getD n ByteArray.empty, if n = s.tsp then { s' with tsp := s.tsp + 1 } else s')
def nextR : Pa (Int × Int) := stepD uintD fun n s s' => if s.traces.length ≤ n then .error 55 else if s.rsp < n then .error 54
  else .ok (s.traces.getD n (0, 0), if n = s.rsp then { s' with rsp := s.rsp + 1 } else s')
def sinceD : Pa Int := stepD intD fun d s s' => if 9223372036854775807 - s.start < d then .error 55 else .ok (s.start + d, { s' with start := s.start + d })
def aboveD (other most : Int) : Pa Int := stepD uintD fun d _ s' => if most - other < (d : Int) then .error 55 else .ok (other + d, s')
def laterD (than : Int) : Pa Int := aboveD than 9223372036854775807
def atMostD (most : Int) : Pa Int := stepD smallD fun v _ s' => if most < v then .error 55 else .ok (v, s')
def valueD : Pa (Int × ByteArray × Int) := bindD (atMostD 2) fun k =>
  if k = 0 then stepD nextT fun x _ s' => .ok ((k, x, 0), s')
  else if k = 1 then stepD intD fun n _ s' => .ok ((k, ByteArray.empty, n), s')
  else stepD (atMostD 1) fun n _ s' => .ok ((k, ByteArray.empty, n), s')
def attrD1 : Pa AttrD := bindD nextT fun key => stepD valueD fun v _ s' => .ok (⟨key, v.1, v.2.1, v.2.2⟩, s')
def lastI (acc : List Int) : Int := acc.getLastD 0
def lastE (acc : List EventD) : Int := lastI (acc.map (·.moment))
def linkD1 (acc : List Int) : Pa Int := aboveD (lastI acc) 18446744073709551615
def eventD1 (acc : List EventD) : Pa EventD := bindD (laterD (lastE acc)) fun at_ => stepD nextT fun x _ s' => .ok (⟨at_, x⟩, s')
def linksD : Pa (List Int) := bindD (countD 16 55) fun n => iterF linkD1 n []
def attrsD : Pa (List AttrD) := bindD (countD 32 55) fun n => iterF (fun _ => attrD1) n []
def eventsD : Pa (List EventD) := bindD (countD 32 55) fun n => iterF eventD1 n []
def spanD : Pa Sp :=
  bindD nextR fun tr => bindD raw8D fun id => bindD raw8D fun par => bindD nextT fun svc => bindD nextT fun op => bindD smallD fun both =>
  bindD sinceD fun start => bindD (laterD start) fun fin => bindD linksD fun links => bindD attrsD fun attrs => bindD eventsD fun events =>
  fun _ s => .ok (⟨tr.1, tr.2, id, par, links, svc, op, both % 8, both / 8, start, fin, attrs, events⟩, s)
def spanC1 : Pa Sp := stepD spanD fun a _ s' => if chkS a = 0 then .ok (a, s') else .error (chkS a).toNat
def hearT1 : Pa Unit := stepD textD fun x s s' => if idxL s.texts x < s.texts.length then .error 54 else .ok ((), { s' with texts := s.texts ++ [x], tpl := s.tpl ++ [s.pos] })
def traceD : Pa (Int × Int) := bindD raw8D fun hi => stepD raw8D fun lo _ s' => .ok ((hi, lo), s')
def hearR1 : Pa Unit := stepD traceD fun x s s' => if idxL s.traces x < s.traces.length then .error 54 else .ok ((), { s' with traces := s.traces ++ [x], rpl := s.rpl ++ [s.pos] })
def hearTD : Pa (List Unit) := bindD uintD fun n => iterF (fun _ => hearT1) n []
def hearRD : Pa (List Unit) := bindD uintD fun n => iterF (fun _ => hearR1) n []
def spansD : Pa (List Sp) := bindD (countD 500 53) fun n => iterF (fun _ => spanC1) n []
def topD : Pa (List Sp) := bindD hearTD fun _ => bindD hearRD fun _ => spansD
def d0 : Dst := ⟨3, [], [], 0, [], [], 0, 0⟩
def headL : List Int := [83, 66, 1]
def decB (K : List Int) : Res (List Sp) :=
  if 65536 < K.length then .error (0, 51)
  else if K.take 3 ≠ headL then .error (0, 52)
  else match topD K d0 with
    | .error e => .error e
    | .ok (l, s) => if s.tsp < s.texts.length then .error (s.tpl.getD s.tsp 0, 54)
      else if s.rsp < s.traces.length then .error (s.rpl.getD s.rsp 0, 54)
      else if s.pos < K.length then .error (s.pos, 15) else .ok l

theorem bind_ok {α β : Type} {p : Pa α} {f : α → Pa β} {K : List Int} {s : Dst} {v : β} {s' : Dst} (h : bindD p f K s = .ok (v, s')) : ∃ u s1, p K s = .ok (u, s1) ∧ f u K s1 = .ok (v, s') := by
  unfold bindD at h
  split at h
  · exact ⟨_, _, ‹_›, h⟩
  · simp at h
theorem bind_mk {α β : Type} {p : Pa α} {f : α → Pa β} {K : List Int} {s s1 : Dst} {u : α} (h : p K s = .ok (u, s1)) : bindD p f K s = f u K s1 := by
  unfold bindD; rw [h]
theorem bind_er {α β : Type} {p : Pa α} {f : α → Pa β} {K : List Int} {s : Dst} {e : Nat × Nat} (h : p K s = .error e) : bindD p f K s = .error e := by
  unfold bindD; rw [h]
theorem step_ok {α β : Type} {p : Pa α} {f : α → Dst → Dst → Except Nat (β × Dst)} {K : List Int} {s : Dst} {v : β} {s' : Dst} (h : stepD p f K s = .ok (v, s')) : ∃ u s1, p K s = .ok (u, s1) ∧ f u s s1 = .ok (v, s') := by
  unfold stepD at h
  split at h
  · split at h
    · injection h with h; subst h; exact ⟨_, _, ‹_›, ‹_›⟩
    · simp at h
  · simp at h
theorem step_mk {α β : Type} {p : Pa α} {f : α → Dst → Dst → Except Nat (β × Dst)} {K : List Int} {s s1 : Dst} {u : α} {r : β × Dst} (h : p K s = .ok (u, s1)) (hf : f u s s1 = .ok r) : stepD p f K s = .ok r := by
  unfold stepD; rw [h]; simp only [hf]
theorem step_er {α β : Type} {p : Pa α} {f : α → Dst → Dst → Except Nat (β × Dst)} {K : List Int} {s : Dst} {e : Nat × Nat} (h : p K s = .error e) : stepD p f K s = .error e := by
  unfold stepD; rw [h]
theorem step_no {α β : Type} {p : Pa α} {f : α → Dst → Dst → Except Nat (β × Dst)} {K : List Int} {s s1 : Dst} {u : α} {e : Nat} (h : p K s = .ok (u, s1)) (hf : f u s s1 = .error e) : stepD p f K s = .error (s.pos, e) := by
  unfold stepD; rw [h]; simp only [hf]

/-- It goes forward, within the bytes; what is wrong lies within them; more bytes behind change nothing; cut off, it is told so. -/
structure Nice {α : Type} (p : Pa α) : Prop where
  mono : ∀ K s v s', s.pos ≤ K.length → p K s = .ok (v, s') → s.pos ≤ s'.pos ∧ s'.pos ≤ K.length
  err : ∀ K s a e, s.pos ≤ K.length → p K s = .error (a, e) → a ≤ K.length ∧ 0 < e
  ext : ∀ K M s v s', s.pos ≤ K.length → p K s = .ok (v, s') → p (K ++ M) s = .ok (v, s')
  cut : ∀ K M s v s', s.pos ≤ K.length → p (K ++ M) s = .ok (v, s') → (s'.pos ≤ K.length ∧ p K s = .ok (v, s')) ∨ (K.length < s'.pos ∧ p K s = .error (K.length, 11))

theorem Nice.bind {α β : Type} {p : Pa α} {f : α → Pa β} (hp : Nice p) (hf : ∀ v, Nice (f v)) : Nice (bindD p f) where
  mono K s v s' hs h := by
    obtain ⟨u, s1, h1, h2⟩ := bind_ok h
    have m1 := hp.mono _ _ _ _ hs h1
    have m2 := (hf u).mono _ _ _ _ m1.2 h2
    omega
  err K s a e hs h := by
    unfold bindD at h
    split at h
    · rename_i u s1 h1
      exact (hf u).err _ _ _ _ (hp.mono _ _ _ _ hs h1).2 h
    · rename_i x h1
      injection h with h; subst h
      exact hp.err _ _ _ _ hs h1
  ext K M s v s' hs h := by
    obtain ⟨u, s1, h1, h2⟩ := bind_ok h
    have m1 := hp.mono _ _ _ _ hs h1
    rw [bind_mk (hp.ext _ M _ _ _ hs h1)]
    exact (hf u).ext _ _ _ _ _ m1.2 h2
  cut K M s v s' hs h := by
    obtain ⟨u, s1, h1, h2⟩ := bind_ok h
    have hs' : s.pos ≤ (K ++ M).length := by simp; omega
    have m1 := hp.mono _ _ _ _ hs' h1
    have m2 := (hf u).mono _ _ _ _ m1.2 h2
    rcases hp.cut _ _ _ _ _ hs h1 with ⟨c1, c2⟩ | ⟨c1, c2⟩
    · rw [bind_mk c2]
      exact (hf u).cut _ _ _ _ _ c1 h2
    · exact Or.inr ⟨by omega, bind_er c2⟩
theorem Nice.step {α β : Type} {p : Pa α} {f : α → Dst → Dst → Except Nat (β × Dst)} (hp : Nice p) (hf : ∀ v s s' u s2, f v s s' = .ok (u, s2) → s2.pos = s'.pos) (he : ∀ v s s' e, f v s s' = .error e → 0 < e) : Nice (stepD p f) where
  mono K s v s' hs h := by
    obtain ⟨u, s1, h1, h2⟩ := step_ok h
    rw [hf _ _ _ _ _ h2]
    exact hp.mono _ _ _ _ hs h1
  err K s a e hs h := by
    unfold stepD at h
    split at h
    · split at h
      · simp at h
      · rename_i h3
        injection h with h; injection h with h5 h6; subst h5; subst h6
        exact ⟨hs, he _ _ _ _ h3⟩
    · rename_i x h1
      injection h with h; subst h
      exact hp.err _ _ _ _ hs h1
  ext K M s v s' hs h := by
    obtain ⟨u, s1, h1, h2⟩ := step_ok h
    exact step_mk (hp.ext _ M _ _ _ hs h1) h2
  cut K M s v s' hs h := by
    obtain ⟨u, s1, h1, h2⟩ := step_ok h
    rw [hf _ _ _ _ _ h2]
    rcases hp.cut _ _ _ _ _ hs h1 with ⟨c1, c2⟩ | ⟨c1, c2⟩
    · exact Or.inl ⟨c1, step_mk c2 h2⟩
    · exact Or.inr ⟨c1, step_er c2⟩
theorem Nice.pure {α : Type} (f : Dst → α) : Nice (fun _ s => .ok (f s, s) : Pa α) where
  mono K s v s' hs h := by simp at h; rw [← h.2]; omega
  err K s a e hs h := by simp at h
  ext K M s v s' hs h := h
  cut K M s v s' hs h := by simp at h; exact Or.inl ⟨by rw [← h.2]; exact hs, by rw [← h.1, ← h.2]⟩
theorem Nice.iter {α : Type} {p : List α → Pa α} (hp : ∀ acc, Nice (p acc)) : ∀ n acc, Nice (iterF p n acc)
  | 0, acc => Nice.pure (fun _ => acc)
  | n + 1, acc => (hp acc).bind (fun v => Nice.iter hp n (acc ++ [v]))

theorem scan_ext : ∀ (l M : List Int) (a v v' n : Nat), scanN l a v = .ok v' n → scanN (l ++ M) a v = .ok v' n := by
  intro l
  induction l with
  | nil => intro M a v v' n h; unfold scanN at h; split at h <;> simp at h
  | cons x r ih =>
    intro M a v v' n h
    rw [List.cons_append]
    unfold scanN at h ⊢
    split at h
    · simp at h
    · rename_i h1
      rw [if_neg h1]
      split at h
      · rename_i h2; rw [if_pos h2]; exact h
      · rename_i h2; rw [if_neg h2]; exact ih _ _ _ _ _ h
theorem scan_cut : ∀ (l M : List Int) (a v v' n : Nat), a ≤ 10 → scanN (l ++ M) a v = .ok v' n → (n ≤ a + l.length ∧ scanN l a v = .ok v' n) ∨ (a + l.length < n ∧ scanN l a v = .ended) := by
  intro l
  induction l with
  | nil =>
    intro M a v v' n ha h
    have hs := scan_size _ _ _ _ _ h
    have h10 : a ≠ 10 := by rintro rfl; rw [scanN_10] at h; simp at h
    exact Or.inr ⟨by simp; omega, scanN_nil _ _ h10⟩
  | cons x r ih =>
    intro M a v v' n ha h
    have h10 : a ≠ 10 := by rintro rfl; rw [scanN_10] at h; simp at h
    rw [List.cons_append] at h
    by_cases hx : x < 128
    · rw [scanN_last _ _ _ _ h10 hx] at h ⊢
      refine Or.inl ⟨?_, h⟩
      split at h
      · simp at h
      · simp at h; simp; omega
    · rw [scanN_more _ _ _ _ h10 hx] at h ⊢
      rcases ih _ _ _ _ _ (by omega) h with ⟨c1, c2⟩ | ⟨c1, c2⟩
      · exact Or.inl ⟨by simp; omega, c2⟩
      · exact Or.inr ⟨by simp; omega, c2⟩
theorem drop_le_app (K M : List Int) (t : Nat) (h : t ≤ K.length) : (K ++ M).drop t = K.drop t ++ M := by
  rw [List.drop_append_of_le_length h]
theorem nice_uint : Nice uintD where
  mono K s v s' hs h := by
    unfold uintD at h
    split at h
    · rename_i v n hn
      simp at h
      obtain ⟨rfl, rfl⟩ := h
      have := scan_size _ _ _ _ _ hn
      simp only [List.length_drop] at this
      simp only [Dst.to]; omega
    · simp at h
    · simp at h
  err K s a e hs h := by
    unfold uintD at h
    split at h
    · simp at h
    · simp at h; omega
    · simp at h; omega
  ext K M s v s' hs h := by
    unfold uintD at h ⊢
    split at h
    · rename_i v n hn
      rw [drop_le_app _ _ _ hs, scan_ext _ _ _ _ _ _ hn]
      exact h
    · simp at h
    · simp at h
  cut K M s v s' hs h := by
    unfold uintD at h
    split at h
    · rename_i v n hn
      simp at h
      obtain ⟨rfl, rfl⟩ := h
      rw [drop_le_app _ _ _ hs] at hn
      rcases scan_cut _ _ _ _ _ _ (by omega) hn with ⟨c1, c2⟩ | ⟨c1, c2⟩
      · refine Or.inl ⟨?_, ?_⟩
        · simp only [List.length_drop] at c1; simp only [Dst.to]; omega
        · unfold uintD; rw [c2]
      · refine Or.inr ⟨?_, ?_⟩
        · simp only [List.length_drop] at c1; simp only [Dst.to]; omega
        · unfold uintD; rw [c2]
    · simp at h
    · simp at h
theorem nice_bytes (n : Nat) : Nice (bytesD n) where
  mono K s v s' hs h := by
    unfold bytesD at h
    split at h
    · simp at h; obtain ⟨_, rfl⟩ := h; simp only [Dst.to]; omega
    · simp at h
  err K s a e hs h := by
    unfold bytesD at h
    split at h
    · simp at h
    · simp at h; omega
  ext K M s v s' hs h := by
    unfold bytesD at h ⊢
    split at h
    · rename_i hl
      rw [if_pos (by simp; omega), drop_le_app _ _ _ hs, List.take_append_of_le_length (by simp; omega)]; exact h
    · simp at h
  cut K M s v s' hs h := by
    unfold bytesD at h ⊢
    split at h
    · by_cases hl : s.pos + n ≤ K.length
      · rw [drop_le_app _ _ _ hs, List.take_append_of_le_length (by simp; omega)] at h
        simp at h; obtain ⟨rfl, rfl⟩ := h
        exact Or.inl ⟨hl, by rw [if_pos hl]⟩
      · simp at h; obtain ⟨rfl, rfl⟩ := h
        exact Or.inr ⟨by simp only [Dst.to]; omega, by rw [if_neg hl]⟩
    · simp at h
theorem rune_ext (l M : List Int) (h : 0 < runeL l) : runeL (l ++ M) = runeL l := by
  have h1 := rune_pre l (l.drop (runeL l) ++ M) h
  rwa [← List.append_assoc, List.take_append_drop] at h1
theorem text_ext (K M : List Int) (t : Nat) (ht : t ≤ K.length) (f v : Nat) (h : textR K t 200 = .ok f v) : textR (K ++ M) t 200 = .ok f v := by
  obtain ⟨n, h1, h2, h3⟩ := textR_ok _ _ _ _ _ h
  subst h2
  unfold textR at h ⊢
  rw [if_neg (by omega)] at h ⊢
  rw [drop_le_app _ _ _ ht, scan_ext _ _ _ _ _ _ h1]
  rw [h1] at h
  simp only at h ⊢
  split at h
  · simp at h
  rename_i a1
  split at h
  · simp at h
  split at h
  · simp at h
  rename_i a3
  rw [if_neg a1, if_neg (by simp; omega), drop_le_app _ _ _ (by omega), List.take_append_of_le_length (by simp; omega), if_neg a3]
theorem nice_text : Nice textD where
  mono K s v s' hs h := by
    unfold textD at h
    split at h
    · rename_i f n hn
      obtain ⟨m, h1, h2, h3⟩ := textR_ok _ _ _ _ _ hn
      simp at h
      obtain ⟨_, rfl⟩ := h
      simp only [Dst.to]; omega
    · simp at h
  err K s a e hs h := by
    unfold textD at h
    split at h
    · simp at h
    · rename_i x hn
      injection h with h; subst h
      unfold textR at hn
      rw [if_neg (by omega)] at hn
      split at hn
      · simp at hn; omega
      · simp at hn; omega
      · rename_i v n h1
        have hz := scan_size _ _ _ _ _ h1
        simp only [List.length_drop] at hz
        split at hn
        · simp at hn; omega
        split at hn
        · simp at hn; omega
        split at hn
        · rename_i a1 a2 a3
          simp at hn; omega
        · simp at hn
  ext K M s v s' hs h := by
    unfold textD at h ⊢
    split at h
    · rename_i f n hn
      obtain ⟨m, h1, h2, h3⟩ := textR_ok _ _ _ _ _ hn
      rw [text_ext _ _ _ hs _ _ hn]
      simp only
      rw [drop_le_app _ _ _ (by omega), List.take_append_of_le_length (by simp; omega)]; exact h
    · simp at h
  cut K M s v s' hs h := by
    unfold textD at h
    split at h
    · rename_i f n hn
      obtain ⟨m, h1, h2, h3⟩ := textR_ok _ _ _ _ _ hn
      subst h2
      simp at h
      obtain ⟨rfl, rfl⟩ := h
      rw [drop_le_app _ _ _ hs] at h1
      have hn' := hn
      unfold textR at hn
      rw [if_neg (by omega), drop_le_app _ _ _ hs, h1] at hn
      simp only at hn
      split at hn
      · simp at hn
      rename_i a1
      split at hn
      · simp at hn
      split at hn
      · simp at hn
      rename_i a3
      by_cases hl : s.pos + m + n ≤ K.length
      · refine Or.inl ⟨hl, ?_⟩
        have hd : (K ++ M).drop (s.pos + m) = K.drop (s.pos + m) ++ M := drop_le_app _ _ _ (by omega)
        rw [hd, List.take_append_of_le_length (by simp; omega)] at a3
        rcases scan_cut _ _ _ _ _ _ (by omega) h1 with ⟨c1, c2⟩ | ⟨c1, c2⟩
        · unfold textD textR
          rw [if_neg (by omega), c2]
          simp only
          rw [if_neg a1, if_neg (by omega), if_neg a3, hd, List.take_append_of_le_length (by simp; omega)]
        · simp only [List.length_drop] at c1; omega
      · refine Or.inr ⟨by simp only [Dst.to]; omega, ?_⟩
        rcases scan_cut _ _ _ _ _ _ (by omega) h1 with ⟨c1, c2⟩ | ⟨c1, c2⟩
        · unfold textD textR
          rw [if_neg (by omega), c2]
          simp only
          rw [if_neg a1, if_pos (by omega)]
        · unfold textD textR
          rw [if_neg (by omega), c2]
    · simp at h
theorem nice_count (m e : Nat) (h : 0 < e) : Nice (countD m e) := nice_uint.step (fun v s s' u s2 h => by split at h <;> simp at h; rw [← h.2]) (fun v s s' x hx => by split at hx <;> simp at hx; omega)
theorem nice_nextT : Nice nextT := nice_uint.step (fun v s s' u s2 h => by
  split at h
  · simp at h
  split at h
  · simp at h
  simp at h; rw [← h.2]; split <;> rfl) (fun v s s' x hx => by
  split at hx
  · simp at hx; omega
  split at hx
  · simp at hx; omega
  simp at hx)
theorem nice_nextR : Nice nextR := nice_uint.step (fun v s s' u s2 h => by
  split at h
  · simp at h
  split at h
  · simp at h
  simp at h; rw [← h.2]; split <;> rfl) (fun v s s' x hx => by
  split at hx
  · simp at hx; omega
  split at hx
  · simp at hx; omega
  simp at hx)
theorem Nice.map {α β : Type} {p : Pa α} (hp : Nice p) (f : α → β) : Nice (stepD p fun v _ s' => .ok (f v, s')) := hp.step (fun v s s' u s2 h => by simp at h; rw [← h.2]) (fun v s s' x hx => by simp at hx)
theorem nice_int : Nice intD := nice_uint.map _
theorem nice_raw8 : Nice raw8D := (nice_bytes 8).map _
theorem nice_small : Nice smallD := (nice_bytes 1).map _
theorem nice_since : Nice sinceD := nice_int.step (fun v s s' u s2 h => by split at h <;> simp at h; rw [← h.2]) (fun v s s' x hx => by split at hx <;> simp at hx; omega)
theorem nice_above (o m : Int) : Nice (aboveD o m) := nice_uint.step (fun v s s' u s2 h => by split at h <;> simp at h; rw [← h.2]) (fun v s s' x hx => by split at hx <;> simp at hx; omega)
theorem nice_later (o : Int) : Nice (laterD o) := nice_above _ _
theorem nice_atMost (m : Int) : Nice (atMostD m) := nice_small.step (fun v s s' u s2 h => by split at h <;> simp at h; rw [← h.2]) (fun v s s' x hx => by split at hx <;> simp at hx; omega)
theorem nice_value : Nice valueD := (nice_atMost 2).bind fun k => by
  show Nice (if k = 0 then _ else if k = 1 then _ else _)
  split
  · exact nice_nextT.map _
  split
  · exact nice_int.map _
  · exact (nice_atMost 1).map _
theorem nice_attr : Nice attrD1 := nice_nextT.bind fun _ => nice_value.map _
theorem nice_event (acc : List EventD) : Nice (eventD1 acc) := (nice_later _).bind fun _ => nice_nextT.map _
theorem nice_links : Nice linksD := (nice_count 16 55 (by omega)).bind fun _ => Nice.iter (fun _ => nice_above _ _) _ _
theorem nice_attrs : Nice attrsD := (nice_count 32 55 (by omega)).bind fun _ => Nice.iter (fun _ => nice_attr) _ _
theorem nice_events : Nice eventsD := (nice_count 32 55 (by omega)).bind fun _ => Nice.iter (fun _ => nice_event _) _ _
theorem nice_span : Nice spanD :=
  nice_nextR.bind fun _ => nice_raw8.bind fun _ => nice_raw8.bind fun _ => nice_nextT.bind fun _ => nice_nextT.bind fun _ => nice_small.bind fun _ =>
  nice_since.bind fun _ => (nice_later _).bind fun _ => nice_links.bind fun _ => nice_attrs.bind fun _ => nice_events.bind fun _ => Nice.pure _
theorem chk_pos {a : Sp} (h : chkS a ≠ 0) : 0 < (chkS a).toNat := by
  unfold chkS at h ⊢
  repeat' split
  all_goals simp_all
theorem nice_spanC : Nice spanC1 := nice_span.step (fun v s s' u s2 h => by split at h <;> simp at h; rw [← h.2]) (fun v s s' x hx => by
  split at hx
  · simp at hx
  · rename_i h; simp at hx; rw [← hx]; exact chk_pos h)
theorem nice_hearT1 : Nice hearT1 := nice_text.step (fun v s s' u s2 h => by split at h <;> simp at h; rw [← h]) (fun v s s' x hx => by split at hx <;> simp at hx; omega)
theorem nice_trace : Nice traceD := nice_raw8.bind fun _ => nice_raw8.map _
theorem nice_hearR1 : Nice hearR1 := nice_trace.step (fun v s s' u s2 h => by split at h <;> simp at h; rw [← h]) (fun v s s' x hx => by split at hx <;> simp at hx; omega)
theorem nice_top : Nice topD :=
  (nice_uint.bind fun _ => Nice.iter (fun _ => nice_hearT1) _ _).bind fun _ => (nice_uint.bind fun _ => Nice.iter (fun _ => nice_hearR1) _ _).bind fun _ =>
  (nice_count 500 53 (by omega)).bind fun _ => Nice.iter (fun _ => nice_spanC) _ _
end Go.Proofs.YthcghpbkadlliabGreatDoor

namespace Go.Proofs.YthcghpbkadlliabGreatDoor
open Go

structure Est where
  texts : List ByteArray
  traces : List (Int × Int)
  start : Int
  out : List Int
def insL {α : Type} [DecidableEq α] (l : List α) (x : α) : List α := if idxL l x < l.length then l else l ++ [x]
def putE (bs : List Int) (st : Est) : Est := { st with out := st.out ++ bs }
def nameE (x : ByteArray) (st : Est) : Est := { st with texts := insL st.texts x, out := st.out ++ encN (idxL st.texts x) }
def traceE (x : Int × Int) (st : Est) : Est := { st with traces := insL st.traces x, out := st.out ++ encN (idxL st.traces x) }
def startE (v : Int) (st : Est) : Est := { st with start := v, out := st.out ++ encN (zigI (v - st.start)).toNat }
def iterE {α : Type} (e : List α → α → Est → Est) : List α → List α → Est → Est
  | _, [], st => st
  | acc, v :: r, st => iterE e (acc ++ [v]) r (e acc v st)
def linkE1 (acc : List Int) (v : Int) : Est → Est := putE (encN (v - lastI acc).toNat)
def eventE1 (acc : List EventD) (v : EventD) (st : Est) : Est := nameE v.name (putE (encN (v.moment - lastE acc).toNat) st)
def valueE (k : Int) (x : ByteArray) (n : Int) (st : Est) : Est :=
  if k = 0 then nameE x (putE [k] st) else if k = 1 then putE (encN (zigI n).toNat) (putE [k] st) else putE [n] (putE [k] st)
def attrE1 (a : AttrD) (st : Est) : Est := valueE a.kind a.text a.num (nameE a.key st)
def linksE (l : List Int) (st : Est) : Est := iterE linkE1 [] l (putE (encN l.length) st)
def attrsE (l : List AttrD) (st : Est) : Est := iterE (fun _ => attrE1) [] l (putE (encN l.length) st)
def eventsE (l : List EventD) (st : Est) : Est := iterE eventE1 [] l (putE (encN l.length) st)
def spanE (a : Sp) (st : Est) : Est :=
  eventsE a.events (attrsE a.attrs (linksE a.links (putE (encN (a.fin - a.start).toNat) (startE a.start (putE [a.kind + 8 * a.status] (nameE a.op (nameE a.svc (putE (rawL a.par) (putE (rawL a.id) (traceE (a.hi, a.lo) st))))))))))
def e0 : Est := ⟨[], [], 0, []⟩
def spansE (l : List Sp) : Est := iterE (fun _ => spanE) [] l e0
def traceL (x : Int × Int) : List Int := rawL x.1 ++ rawL x.2
def wholeE (st : Est) (n : Nat) : List Int := headL ++ (encN st.texts.length ++ (st.texts.flatMap textL ++ (encN st.traces.length ++ (st.traces.flatMap traceL ++ (encN n ++ st.out)))))
def encB (l : List Sp) : List Int := wholeE (spansE l) l.length

/-- What is laid only grows. -/
structure LeE (a b : Est) : Prop where
  out : a.out <+: b.out
  texts : a.texts <+: b.texts
  traces : a.traces <+: b.traces
theorem LeE.refl (a : Est) : LeE a a := ⟨List.prefix_refl _, List.prefix_refl _, List.prefix_refl _⟩
theorem LeE.trans {a b c : Est} (h : LeE a b) (k : LeE b c) : LeE a c := ⟨h.out.trans k.out, h.texts.trans k.texts, h.traces.trans k.traces⟩
theorem ins_le {α : Type} [DecidableEq α] (l : List α) (x : α) : l <+: insL l x := by
  unfold insL; split
  · exact List.prefix_refl _
  · exact List.prefix_append _ _
theorem le_put (bs : List Int) (st : Est) : LeE st (putE bs st) := ⟨List.prefix_append _ _, List.prefix_refl _, List.prefix_refl _⟩
theorem le_name (x : ByteArray) (st : Est) : LeE st (nameE x st) := ⟨List.prefix_append _ _, ins_le _ _, List.prefix_refl _⟩
theorem le_trace (x : Int × Int) (st : Est) : LeE st (traceE x st) := ⟨List.prefix_append _ _, List.prefix_refl _, ins_le _ _⟩
theorem le_start (v : Int) (st : Est) : LeE st (startE v st) := ⟨List.prefix_append _ _, List.prefix_refl _, List.prefix_refl _⟩
theorem le_iter {α : Type} {e : List α → α → Est → Est} (he : ∀ acc v st, LeE st (e acc v st)) : ∀ l acc st, LeE st (iterE e acc l st)
  | [], _, st => LeE.refl st
  | v :: r, acc, st => (he acc v st).trans (le_iter he r (acc ++ [v]) (e acc v st))
theorem le_link (acc : List Int) (v : Int) (st : Est) : LeE st (linkE1 acc v st) := le_put _ _
theorem le_event (acc : List EventD) (v : EventD) (st : Est) : LeE st (eventE1 acc v st) := (le_put _ _).trans (le_name _ _)
theorem le_value (k : Int) (x : ByteArray) (n : Int) (st : Est) : LeE st (valueE k x n st) := by
  unfold valueE; split
  · exact (le_put _ _).trans (le_name _ _)
  split
  · exact (le_put _ _).trans (le_put _ _)
  · exact (le_put _ _).trans (le_put _ _)
theorem le_attr (a : AttrD) (st : Est) : LeE st (attrE1 a st) := (le_name _ _).trans (le_value _ _ _ _)
theorem le_links (l : List Int) (st : Est) : LeE st (linksE l st) := (le_put _ _).trans (le_iter le_link _ _ _)
theorem le_attrs (l : List AttrD) (st : Est) : LeE st (attrsE l st) := (le_put _ _).trans (le_iter (fun _ => le_attr) _ _ _)
theorem le_events (l : List EventD) (st : Est) : LeE st (eventsE l st) := (le_put _ _).trans (le_iter le_event _ _ _)
theorem le_span (a : Sp) (st : Est) : LeE st (spanE a st) :=
  (le_trace _ _).trans ((le_put _ _).trans ((le_put _ _).trans ((le_name _ _).trans ((le_name _ _).trans ((le_put _ _).trans ((le_start _ _).trans ((le_put _ _).trans ((le_links _ _).trans ((le_attrs _ _).trans (le_events _ _))))))))))

theorem idx_lt {α : Type} [DecidableEq α] : ∀ (l : List α) (x : α), idxL l x < l.length ↔ x ∈ l
  | [], x => by simp [idxL]
  | y :: r, x => by
    unfold idxL
    by_cases h : y = x
    · simp [h]
    · rw [if_neg h]
      have := idx_lt r x
      simp only [List.length_cons, List.mem_cons]
      constructor
      · intro hl; exact Or.inr (this.1 (by omega))
      · rintro (rfl | hm)
        · exact absurd rfl h
        · have := this.2 hm; omega
theorem idx_le {α : Type} [DecidableEq α] : ∀ (l : List α) (x : α), idxL l x ≤ l.length
  | [], x => by simp [idxL]
  | y :: r, x => by
    unfold idxL
    have := idx_le r x
    split <;> simp; omega
theorem idx_get {α : Type} [DecidableEq α] : ∀ (l : List α) (x : α) (h : idxL l x < l.length), l[idxL l x] = x
  | [], x, h => by simp at h
  | y :: r, x, h => by
    by_cases e : y = x
    · have : idxL (y :: r) x = 0 := by simp [idxL, e]
      simp only [this]; simp [e]
    · have e2 : idxL (y :: r) x = idxL r x + 1 := by simp [idxL, e]
      simp only [e2, List.getElem_cons_succ]
      exact idx_get r x (by rw [e2] at h; simpa using h)
theorem idx_at {α : Type} [DecidableEq α] : ∀ (l : List α) (n : Nat) (h : n < l.length), l.Nodup → idxL l l[n] = n
  | [], n, h, _ => by simp at h
  | y :: r, 0, h, _ => by simp [idxL]
  | y :: r, n + 1, h, hd => by
    rw [List.nodup_cons] at hd
    have hn : n < r.length := by simpa using h
    have : y ≠ r[n] := fun e => hd.1 (by rw [e]; exact List.getElem_mem hn)
    simp only [List.getElem_cons_succ, idxL, if_neg this]
    rw [idx_at r n hn hd.2]
theorem idx_take_lt {α : Type} [DecidableEq α] (l : List α) (k n : Nat) (hn : n < k) (hk : k ≤ l.length) (hd : l.Nodup) : idxL (l.take k) (l[n]'(by omega)) = n := by
  have h1 : n < (l.take k).length := by simp; omega
  have h2 : (l.take k)[n] = l[n]'(by omega) := by simp
  rw [← h2]
  exact idx_at _ _ h1 (hd.sublist (List.take_sublist _ _))
theorem idx_take_eq {α : Type} [DecidableEq α] (l : List α) (k : Nat) (hk : k < l.length) (hd : l.Nodup) : idxL (l.take k) l[k] = k := by
  have hl : (l.take k).length = k := by simp; omega
  have h1 := idx_le (l.take k) l[k]
  by_cases h : idxL (l.take k) l[k] < (l.take k).length
  · have hm := (idx_lt _ _).1 h
    obtain ⟨i, hi, e⟩ := List.getElem_of_mem hm
    have hi' : i < k := by omega
    have : l[i]'(by omega) = l[k] := by rw [← e]; simp
    have := (List.getElem_inj hd).1 this
    omega
  · omega
theorem ins_take {α : Type} [DecidableEq α] (l : List α) (k n : Nat) (hn : n ≤ k) (hl : n < l.length) (hk : k ≤ l.length) (hd : l.Nodup) :
    idxL (l.take k) l[n] = n ∧ insL (l.take k) l[n] = l.take (if n = k then k + 1 else k) := by
  have hz : (l.take k).length = k := by simp; omega
  by_cases e : n = k
  · subst e
    have h := idx_take_eq l n hl hd
    refine ⟨h, ?_⟩
    unfold insL
    rw [h, if_neg (by omega), if_pos rfl, List.take_succ_eq_append_getElem hl]
  · have h := idx_take_lt l k n (by omega) hk hd
    refine ⟨h, ?_⟩
    unfold insL
    rw [h, if_pos (by omega), if_neg e]

/-- What has been laid, where Decode stands. -/
def est (K : List Int) (b : Nat) (s : Dst) : Est := ⟨s.texts.take s.tsp, s.traces.take s.rsp, s.start, (K.drop b).take (s.pos - b)⟩
structure Inv (K : List Int) (b : Nat) (s : Dst) : Prop where
  byts : ∀ x ∈ K, 0 ≤ x ∧ x < 256
  t1 : s.tsp ≤ s.texts.length
  t2 : s.texts.Nodup
  t3 : s.texts.length < 18446744073709551616
  r1 : s.rsp ≤ s.traces.length
  r2 : s.traces.Nodup
  r3 : s.traces.length < 18446744073709551616
  b1 : b ≤ s.pos
  b2 : s.pos ≤ K.length
  z1 : ∀ x ∈ s.texts, x.size ≤ 200
  z2 : ∀ x ∈ s.traces, (0 ≤ x.1 ∧ x.1 < 18446744073709551616) ∧ 0 ≤ x.2 ∧ x.2 < 18446744073709551616
theorem Inv.to {K : List Int} {b : Nat} {s : Dst} (h : Inv K b s) {t : Nat} (h1 : s.pos ≤ t) (h2 : t ≤ K.length) : Inv K b (s.to t) :=
  ⟨h.byts, h.t1, h.t2, h.t3, h.r1, h.r2, h.r3, Nat.le_trans h.b1 h1, h2, h.z1, h.z2⟩
theorem take_more (K bs : List Int) (b t : Nat) (hb : b ≤ t) (h : (K.drop t).take bs.length = bs) : (K.drop b).take (t + bs.length - b) = (K.drop b).take (t - b) ++ bs := by
  have e : t + bs.length - b = (t - b) + bs.length := by omega
  have h' : ((K.drop b).drop (t - b)).take bs.length = bs := by rw [List.drop_drop, show b + (t - b) = t by omega]; exact h
  rw [e, List.take_add, h']
/-- Read: a part whose bytes are just these. -/
def Reads {α : Type} (p : Pa α) (bs : α → List Int) (R : α → Prop) : Prop := ∀ K s v s', (∀ x ∈ K, 0 ≤ x ∧ x < 256) → s.pos ≤ K.length → p K s = .ok (v, s') → s' = s.to (s.pos + (bs v).length) ∧ (K.drop s.pos).take (bs v).length = bs v ∧ s.pos + (bs v).length ≤ K.length ∧ R v
def Backs {α : Type} (p : Pa α) (bs : α → List Int) (R : α → Prop) : Prop := ∀ K s v rest, R v → K.drop s.pos = bs v ++ rest → p K s = .ok (v, s.to (s.pos + (bs v).length))
theorem est_put {K : List Int} {b : Nat} {s : Dst} (h : Inv K b s) {bs : List Int} (h1 : (K.drop s.pos).take bs.length = bs) : est K b (s.to (s.pos + bs.length)) = putE bs (est K b s) := by
  unfold est putE Dst.to
  simp only
  rw [take_more K bs b s.pos h.b1 h1]

def u64R (v : Nat) : Prop := v < 18446744073709551616
def i64R (v : Int) : Prop := -9223372036854775808 ≤ v ∧ v ≤ 9223372036854775807
def u64I (v : Int) : Prop := 0 ≤ v ∧ v < 18446744073709551616
def u8R (v : Int) : Prop := 0 ≤ v ∧ v < 256
theorem reads_uint : Reads uintD encN u64R := by
  intro K s v s' hK hs h
  unfold uintD at h
  split at h
  · rename_i v n hn
    simp at h
    obtain ⟨rfl, rfl⟩ := h
    have hb : ∀ x ∈ K.drop s.pos, 0 ≤ x ∧ x < 256 := fun x hx => hK x (List.mem_of_mem_drop hx)
    obtain ⟨u, k1, _, k3⟩ := scan_form _ _ _ _ _ hb hn
    have hz := scan_size _ _ _ _ _ hn
    have hv := scan_val _ _ _ _ _ hb (by omega) (fun _ => by simp) hn
    have hu : v = u := by simpa using k1
    subst hu
    have hl : (encN v).length = n := by rw [← k3]; simp only [List.length_take, List.length_drop] at *; omega
    refine ⟨by rw [hl], by rw [hl]; simpa using k3, ?_, hv⟩
    rw [hl]; simp only [List.length_drop] at hz; omega
  · simp at h
  · simp at h
theorem backs_uint : Backs uintD encN u64R := by
  intro K s v rest hv h
  unfold uintD
  rw [h, scan_enc v rest hv]
theorem reads_int : Reads intD (fun v => encN (zigI v).toNat) i64R := by
  intro K s v s' hK hs h
  obtain ⟨u, s1, h1, h2⟩ := step_ok h
  simp at h2
  obtain ⟨rfl, rfl⟩ := h2
  obtain ⟨e1, e2, e3, e4⟩ := reads_uint K s u s1 hK hs h1
  have : (zigI (zagI u)).toNat = u := by rw [zig_zag _ (by omega)]; simp
  simp only [this]
  unfold u64R at e4
  exact ⟨e1, e2, e3, zag_lo _ (by omega) (by omega), zag_hi _ (by omega) (by omega)⟩
theorem backs_int : Backs intD (fun v => encN (zigI v).toNat) i64R := by
  intro K s v rest hv h
  have h1 := zig_lo v
  have h2 := zig_hi v hv.1 hv.2
  have h3 : ((zigI v).toNat : Int) = zigI v := by omega
  refine step_mk (backs_uint K s _ rest (by unfold u64R; omega) h) ?_
  rw [h3, zag_zig]
theorem reads_raw8 : Reads raw8D rawL u64I := by
  intro K s v s' hK hs h
  obtain ⟨u, s1, h1, h2⟩ := step_ok h
  simp at h2
  obtain ⟨rfl, rfl⟩ := h2
  unfold bytesD at h1
  split at h1
  · rename_i hl
    simp at h1
    obtain ⟨rfl, rfl⟩ := h1
    have hb : ∀ x ∈ (K.drop s.pos).take 8, 0 ≤ x ∧ x < 256 := fun x hx => hK x (List.mem_of_mem_drop (List.mem_of_mem_take hx))
    have hz : ((K.drop s.pos).take 8).length = 8 := by simp; omega
    have e := raw_unraw _ hz hb
    have e2 := unraw_bound _ _ hz hb
    rw [e, hz]
    exact ⟨rfl, rfl, hl, e2.1, by have := e2.2; omega⟩
  · simp at h1
theorem backs_raw8 : Backs raw8D rawL u64I := by
  intro K s v rest hv h
  have hl : s.pos + 8 ≤ K.length := by
    have := congrArg List.length h
    simp [rawL_len] at this; omega
  refine step_mk (u := rawL v) (s1 := s.to (s.pos + 8)) ?_ ?_
  · unfold bytesD
    rw [if_pos hl, h, List.take_append_of_le_length (by rw [rawL_len]; omega), List.take_of_length_le (by rw [rawL_len]; omega)]
  · simp only [rawL_len]; rw [unraw_raw v hv.1 hv.2]
theorem reads_small : Reads smallD (fun v => [v]) u8R := by
  intro K s v s' hK hs h
  obtain ⟨u, s1, h1, h2⟩ := step_ok h
  simp at h2
  obtain ⟨rfl, rfl⟩ := h2
  unfold bytesD at h1
  split at h1
  · rename_i hl
    simp at h1
    obtain ⟨rfl, rfl⟩ := h1
    have e : K.drop s.pos = K[s.pos] :: K.drop (s.pos + 1) := List.drop_eq_getElem_cons (by omega)
    rw [e]
    exact ⟨rfl, rfl, hl, hK _ (List.getElem_mem _)⟩
  · simp at h1
theorem backs_small : Backs smallD (fun v => [v]) u8R := by
  intro K s v rest hv h
  have hl : s.pos + 1 ≤ K.length := by
    have := congrArg List.length h
    simp at this; omega
  refine step_mk (u := [v]) (s1 := s.to (s.pos + 1)) ?_ rfl
  unfold bytesD
  rw [if_pos hl, h]; rfl
end Go.Proofs.YthcghpbkadlliabGreatDoor

namespace Go.Proofs.YthcghpbkadlliabGreatDoor
open Go

def Sound {α : Type} (p : Pa α) (e : α → Est → Est) : Prop := ∀ K b s v s', Inv K b s → p K s = .ok (v, s') → Inv K b s' ∧ s'.texts = s.texts ∧ s'.traces = s.traces ∧ e v (est K b s) = est K b s'
structure Fit (K : List Int) (b : Nat) (s : Dst) (st : Est) : Prop where
  out : st.out <+: K.drop b
  texts : st.texts <+: s.texts
  traces : st.traces <+: s.traces
theorem Fit.le {K : List Int} {b : Nat} {s : Dst} {a c : Est} (h : Fit K b s c) (k : LeE a c) : Fit K b s a := ⟨k.out.trans h.out, k.texts.trans h.texts, k.traces.trans h.traces⟩
theorem Fit.same {K : List Int} {b : Nat} {s s' : Dst} {a : Est} (h : Fit K b s a) (h1 : s'.texts = s.texts) (h2 : s'.traces = s.traces) : Fit K b s' a := ⟨h.out, by rw [h1]; exact h.texts, by rw [h2]; exact h.traces⟩
def Comp {α : Type} (p : Pa α) (e : α → Est → Est) (Q : Dst → α → Prop) : Prop := ∀ K b s v, Inv K b s → Q s v → Fit K b s (e v (est K b s)) → ∃ s', p K s = .ok (v, s')
theorem out_at {K bs : List Int} {b t : Nat} (hb : b ≤ t) (ht : t ≤ K.length) (h : ((K.drop b).take (t - b) ++ bs) <+: K.drop b) : ∃ rest, K.drop t = bs ++ rest := by
  obtain ⟨r, hr⟩ := h
  refine ⟨r, ?_⟩
  have h1 : (K.drop b).drop (t - b) = K.drop t := by rw [List.drop_drop, show b + (t - b) = t by omega]
  rw [← h1, ← hr, List.append_assoc]
  have hl : ((K.drop b).take (t - b)).length = t - b := by simp; omega
  exact List.drop_left' hl
theorem Sound.ofReads {α : Type} {p : Pa α} {bs : α → List Int} {R : α → Prop} (h : Reads p bs R) : Sound p (fun v => putE (bs v)) := by
  intro K b s v s' hI hp
  obtain ⟨rfl, h2, h3, _⟩ := h K s v s' hI.byts hI.b2 hp
  exact ⟨hI.to (by omega) h3, rfl, rfl, (est_put hI h2).symm⟩
theorem Comp.ofBacks {α : Type} {p : Pa α} {bs : α → List Int} {R : α → Prop} (h : Backs p bs R) : Comp p (fun v => putE (bs v)) (fun _ v => R v) := by
  intro K b s v hI hR hF
  obtain ⟨rest, hr⟩ := out_at hI.b1 hI.b2 hF.out
  exact ⟨_, h K s v rest hR hr⟩
theorem sound_uint : Sound uintD (fun v => putE (encN v)) := Sound.ofReads reads_uint
theorem sound_int : Sound intD (fun v => putE (encN (zigI v).toNat)) := Sound.ofReads reads_int
theorem sound_raw8 : Sound raw8D (fun v => putE (rawL v)) := Sound.ofReads reads_raw8
theorem sound_small : Sound smallD (fun v => putE [v]) := Sound.ofReads reads_small
theorem comp_uint : Comp uintD (fun v => putE (encN v)) (fun _ v => u64R v) := Comp.ofBacks backs_uint
theorem comp_int : Comp intD (fun v => putE (encN (zigI v).toNat)) (fun _ v => i64R v) := Comp.ofBacks backs_int
theorem comp_raw8 : Comp raw8D (fun v => putE (rawL v)) (fun _ v => u64I v) := Comp.ofBacks backs_raw8
theorem comp_small : Comp smallD (fun v => putE [v]) (fun _ v => u8R v) := Comp.ofBacks backs_small
theorem sound_count (m e : Nat) : Sound (countD m e) (fun v => putE (encN v)) := by
  intro K b s v s' hI h
  obtain ⟨u, s1, h1, h2⟩ := step_ok h
  split at h2
  · simp at h2
  · simp at h2; obtain ⟨rfl, rfl⟩ := h2; exact sound_uint K b s _ _ hI h1
theorem comp_count (m e : Nat) (hm : m < 1000000) : Comp (countD m e) (fun v => putE (encN v)) (fun _ v => v ≤ m) := by
  intro K b s v hI hQ hF
  obtain ⟨s', h⟩ := comp_uint K b s v hI (by unfold u64R; omega) hF
  exact ⟨s', step_mk h (by rw [if_neg (by omega)])⟩
theorem sound_atMost (m : Int) : Sound (atMostD m) (fun v => putE [v]) := by
  intro K b s v s' hI h
  obtain ⟨u, s1, h1, h2⟩ := step_ok h
  split at h2
  · simp at h2
  · simp at h2; obtain ⟨rfl, rfl⟩ := h2; exact sound_small K b s _ _ hI h1
theorem comp_atMost (m : Int) (hm : m < 256) : Comp (atMostD m) (fun v => putE [v]) (fun _ v => 0 ≤ v ∧ v ≤ m) := by
  intro K b s v hI hQ hF
  obtain ⟨s', h⟩ := comp_small K b s v hI (by unfold u8R; omega) hF
  exact ⟨s', step_mk h (by rw [if_neg (by omega)])⟩
theorem sound_above (o m : Int) : Sound (aboveD o m) (fun v => putE (encN (v - o).toNat)) := by
  intro K b s v s' hI h
  obtain ⟨u, s1, h1, h2⟩ := step_ok h
  split at h2
  · simp at h2
  · simp at h2; obtain ⟨rfl, rfl⟩ := h2
    have e : (o + (u : Int) - o).toNat = u := by omega
    simp only [e]
    exact sound_uint K b s _ _ hI h1
theorem comp_above (o m : Int) : Comp (aboveD o m) (fun v => putE (encN (v - o).toNat)) (fun _ v => o ≤ v ∧ v ≤ m ∧ v - o < 18446744073709551616) := by
  intro K b s v hI hQ hF
  obtain ⟨s', h⟩ := comp_uint K b s (v - o).toNat hI (by unfold u64R; omega) hF
  refine ⟨s', step_mk h ?_⟩
  rw [if_neg (by omega)]
  have e : o + ((v - o).toNat : Int) = v := by omega
  rw [e]
theorem sound_later (o : Int) : Sound (laterD o) (fun v => putE (encN (v - o).toNat)) := sound_above _ _
theorem comp_later (o : Int) : Comp (laterD o) (fun v => putE (encN (v - o).toNat)) (fun _ v => o ≤ v ∧ v ≤ 9223372036854775807 ∧ v - o < 18446744073709551616) := comp_above _ _
theorem sound_since : Sound sinceD startE := by
  intro K b s v s' hI h
  obtain ⟨u, s1, h1, h2⟩ := step_ok h
  split at h2
  · simp at h2
  · simp at h2; obtain ⟨rfl, rfl⟩ := h2
    obtain ⟨i1, i2, i3, i4⟩ := sound_int K b s _ _ hI h1
    refine ⟨⟨i1.byts, i1.t1, i1.t2, i1.t3, i1.r1, i1.r2, i1.r3, i1.b1, i1.b2, i1.z1, i1.z2⟩, i2, i3, ?_⟩
    have e : s.start + u - (est K b s).start = u := by show s.start + u - s.start = u; omega
    unfold startE
    rw [e]
    unfold putE at i4
    have q1 := congrArg Est.texts i4
    have q2 := congrArg Est.traces i4
    have q4 := congrArg Est.out i4
    simp only at q1 q2 q4
    rw [q1, q2, q4]
    rfl
theorem comp_since : Comp sinceD startE (fun s v => (0 ≤ s.start ∧ s.start ≤ 4611686018427387904) ∧ 0 ≤ v ∧ v ≤ 4611686018427387904) := by
  intro K b s v hI hQ hF
  obtain ⟨s', h⟩ := comp_int K b s (v - s.start) hI (by unfold i64R; omega) ⟨hF.out, hF.texts, hF.traces⟩
  refine ⟨{ s' with start := v }, step_mk h ?_⟩
  rw [if_neg (by omega)]
  have e : s.start + (v - s.start) = v := by omega
  rw [e]
theorem sound_nextT : Sound nextT nameE := by
  intro K b s v s' hI h
  obtain ⟨n, s1, h1, h2⟩ := step_ok h
  split at h2
  · simp at h2
  rename_i hn
  split at h2
  · simp at h2
  rename_i hm
  simp at h2
  obtain ⟨rfl, rfl⟩ := h2
  obtain ⟨i1, i2, i3, i4⟩ := sound_uint K b s _ _ hI h1
  obtain ⟨rfl, r2, r3, r4⟩ := reads_uint K s n s1 hI.byts hI.b2 h1
  have hlt : n < s.texts.length := by omega
  have hg : s.texts[n]?.getD ByteArray.empty = s.texts[n] := by simp [hlt]
  have hx := ins_take s.texts s.tsp n (by omega) hlt hI.t1 hI.t2
  rw [hg]
  refine ⟨?_, ?_, ?_, ?_⟩
  · split
    · exact ⟨i1.byts, by show s.tsp + 1 ≤ s.texts.length; omega, i1.t2, i1.t3, i1.r1, i1.r2, i1.r3, i1.b1, i1.b2, i1.z1, i1.z2⟩
    · exact i1
  · split <;> rfl
  · split <;> rfl
  · unfold nameE
    show (⟨insL (s.texts.take s.tsp) s.texts[n], s.traces.take s.rsp, s.start, (est K b s).out ++ encN (idxL (s.texts.take s.tsp) s.texts[n])⟩ : Est) = _
    rw [hx.1, hx.2]
    have q4 := congrArg Est.out i4
    simp only [putE] at q4
    rw [q4]
    split <;> rfl
theorem sound_nextR : Sound nextR traceE := by
  intro K b s v s' hI h
  obtain ⟨n, s1, h1, h2⟩ := step_ok h
  split at h2
  · simp at h2
  rename_i hn
  split at h2
  · simp at h2
  rename_i hm
  simp at h2
  obtain ⟨rfl, rfl⟩ := h2
  obtain ⟨i1, i2, i3, i4⟩ := sound_uint K b s _ _ hI h1
  obtain ⟨rfl, r2, r3, r4⟩ := reads_uint K s n s1 hI.byts hI.b2 h1
  have hlt : n < s.traces.length := by omega
  have hg : s.traces[n]?.getD (0, 0) = s.traces[n] := by simp [hlt]
  have hx := ins_take s.traces s.rsp n (by omega) hlt hI.r1 hI.r2
  rw [hg]
  refine ⟨?_, ?_, ?_, ?_⟩
  · split
    · exact ⟨i1.byts, i1.t1, i1.t2, i1.t3, by show s.rsp + 1 ≤ s.traces.length; omega, i1.r2, i1.r3, i1.b1, i1.b2, i1.z1, i1.z2⟩
    · exact i1
  · split <;> rfl
  · split <;> rfl
  · unfold traceE
    show (⟨s.texts.take s.tsp, insL (s.traces.take s.rsp) s.traces[n], s.start, (est K b s).out ++ encN (idxL (s.traces.take s.rsp) s.traces[n])⟩ : Est) = _
    rw [hx.1, hx.2]
    have q4 := congrArg Est.out i4
    simp only [putE] at q4
    rw [q4]
    split <;> rfl
theorem ins_spot {α : Type} [DecidableEq α] (l : List α) (k : Nat) (x d : α) (hk : k ≤ l.length) (h : insL (l.take k) x <+: l) : idxL (l.take k) x < l.length ∧ idxL (l.take k) x ≤ k ∧ l.getD (idxL (l.take k) x) d = x := by
  have hz : (l.take k).length = k := by simp; omega
  have h1 := idx_le (l.take k) x
  by_cases hi : idxL (l.take k) x < (l.take k).length
  · have hg := idx_get (l.take k) x hi
    have hi' : idxL (l.take k) x < l.length := by omega
    refine ⟨hi', by omega, ?_⟩
    rw [List.getD_eq_getElem?_getD, List.getElem?_eq_getElem hi']
    simp only [Option.getD_some]
    rw [← List.getElem_take (h := hi)]; exact hg
  · have e : idxL (l.take k) x = k := by omega
    unfold insL at h
    rw [if_neg hi] at h
    obtain ⟨r, hr⟩ := h
    have hlen : k < l.length := by rw [← hr]; simp; omega
    rw [e]
    refine ⟨hlen, Nat.le_refl _, ?_⟩
    rw [List.getD_eq_getElem?_getD, List.getElem?_eq_getElem hlen]
    simp only [Option.getD_some]
    have : l[k]? = some x := by
      rw [← hr, List.append_assoc, List.getElem?_append_right (by omega), hz]; simp
    rw [List.getElem?_eq_getElem hlen] at this
    simpa using this
theorem comp_nextT : Comp nextT nameE (fun _ _ => True) := by
  intro K b s v hI hQ hF
  obtain ⟨h1, h2, h3⟩ := ins_spot s.texts s.tsp v ByteArray.empty hI.t1 hF.texts
  have hF2 : Fit K b s (putE (encN (idxL (s.texts.take s.tsp) v)) (est K b s)) := ⟨hF.out, List.take_prefix _ _, List.take_prefix _ _⟩
  have h64 := hI.t3
  obtain ⟨s', h⟩ := comp_uint K b s _ hI (by unfold u64R; omega) hF2
  exact ⟨_, step_mk h (by rw [if_neg (by omega), if_neg (by omega), h3])⟩
theorem comp_nextR : Comp nextR traceE (fun _ _ => True) := by
  intro K b s v hI hQ hF
  obtain ⟨h1, h2, h3⟩ := ins_spot s.traces s.rsp v (0, 0) hI.r1 hF.traces
  have hF2 : Fit K b s (putE (encN (idxL (s.traces.take s.rsp) v)) (est K b s)) := ⟨hF.out, List.take_prefix _ _, List.take_prefix _ _⟩
  have h64 := hI.r3
  obtain ⟨s', h⟩ := comp_uint K b s _ hI (by unfold u64R; omega) hF2
  exact ⟨_, step_mk h (by rw [if_neg (by omega), if_neg (by omega), h3])⟩
/-- One part of several that are read and laid. -/
theorem chain {α : Type} {p : Pa α} {e : α → Est → Est} {Q : Dst → α → Prop} (hs : Sound p e) (hc : Comp p e Q) {K : List Int} {b : Nat} {s : Dst} {v : α} (hI : Inv K b s) (hQ : Q s v) {rest : Est} (hm : LeE (e v (est K b s)) rest) (hF : Fit K b s rest) :
    ∃ s', p K s = .ok (v, s') ∧ Inv K b s' ∧ est K b s' = e v (est K b s) ∧ Fit K b s' rest := by
  obtain ⟨s', h⟩ := hc K b s v hI hQ (hF.le hm)
  obtain ⟨i1, i2, i3, i4⟩ := hs K b s v s' hI h
  exact ⟨s', h, i1, i4.symm, hF.same i2 i3⟩

theorem sound_value : Sound valueD (fun v => valueE v.1 v.2.1 v.2.2) := by
  intro K b s v s' hI h
  obtain ⟨k, s1, h1, h2⟩ := bind_ok h
  obtain ⟨i1, i2, i3, i4⟩ := sound_atMost 2 K b s k s1 hI h1
  split at h2
  · rename_i hk
    obtain ⟨x, s2, h3, h4⟩ := step_ok h2
    simp at h4; obtain ⟨rfl, rfl⟩ := h4
    obtain ⟨j1, j2, j3, j4⟩ := sound_nextT K b s1 x s2 i1 h3
    refine ⟨j1, j2.trans i2, j3.trans i3, ?_⟩
    simp only [valueE]; (try simp only at i4); (try simp only at j4); rw [if_pos hk, i4, j4]
  rename_i hk
  split at h2
  · rename_i hk1
    obtain ⟨x, s2, h3, h4⟩ := step_ok h2
    simp at h4; obtain ⟨rfl, rfl⟩ := h4
    obtain ⟨j1, j2, j3, j4⟩ := sound_int K b s1 x s2 i1 h3
    refine ⟨j1, j2.trans i2, j3.trans i3, ?_⟩
    simp only [valueE]; (try simp only at i4); (try simp only at j4); rw [if_neg hk, if_pos hk1, i4, j4]
  · rename_i hk1
    obtain ⟨x, s2, h3, h4⟩ := step_ok h2
    simp at h4; obtain ⟨rfl, rfl⟩ := h4
    obtain ⟨j1, j2, j3, j4⟩ := sound_atMost 1 K b s1 x s2 i1 h3
    refine ⟨j1, j2.trans i2, j3.trans i3, ?_⟩
    simp only [valueE]; (try simp only at i4); (try simp only at j4); rw [if_neg hk, if_neg hk1, i4, j4]
def valQ (v : Int × ByteArray × Int) : Prop := (v.1 = 0 ∧ v.2.2 = 0) ∨ (v.1 = 1 ∧ v.2.1 = ByteArray.empty ∧ i64R v.2.2) ∨ (v.1 = 2 ∧ v.2.1 = ByteArray.empty ∧ 0 ≤ v.2.2 ∧ v.2.2 ≤ 1)
theorem comp_value : Comp valueD (fun v => valueE v.1 v.2.1 v.2.2) (fun _ v => valQ v) := by
  intro K b s v hI hQ hF
  obtain ⟨k, x, n⟩ := v
  simp only [valueE] at hF
  unfold valueD
  rcases hQ with ⟨rfl, h0⟩ | ⟨rfl, rfl, h0⟩ | ⟨rfl, rfl, h0⟩
  · simp only at h0
    subst h0
    simp only [if_true] at hF
    obtain ⟨s1, h1, i1, i2, hF1⟩ := chain (sound_atMost 2) (comp_atMost 2 (by omega)) hI (v := 0) ⟨by omega, by omega⟩ (le_name _ _) hF
    rw [← i2] at hF1
    obtain ⟨s2, h2, _, _, _⟩ := chain sound_nextT comp_nextT i1 trivial (LeE.refl _) hF1
    refine ⟨s2, ?_⟩
    rw [bind_mk h1, if_pos rfl]
    exact step_mk h2 rfl
  · simp only at h0
    rw [if_neg (by omega), if_pos rfl] at hF
    obtain ⟨s1, h1, i1, i2, hF1⟩ := chain (sound_atMost 2) (comp_atMost 2 (by omega)) hI (v := 1) ⟨by omega, by omega⟩ (le_put _ _) hF
    rw [← i2] at hF1
    obtain ⟨s2, h2, _, _, _⟩ := chain sound_int comp_int i1 h0 (LeE.refl _) hF1
    refine ⟨s2, ?_⟩
    rw [bind_mk h1, if_neg (by omega), if_pos rfl]
    exact step_mk h2 rfl
  · simp only at h0
    rw [if_neg (by omega), if_neg (by omega)] at hF
    obtain ⟨s1, h1, i1, i2, hF1⟩ := chain (sound_atMost 2) (comp_atMost 2 (by omega)) hI (v := 2) ⟨by omega, by omega⟩ (le_put _ _) hF
    rw [← i2] at hF1
    obtain ⟨s2, h2, _, _, _⟩ := chain (sound_atMost 1) (comp_atMost 1 (by omega)) i1 h0 (LeE.refl _) hF1
    refine ⟨s2, ?_⟩
    rw [bind_mk h1, if_neg (by omega), if_neg (by omega)]
    exact step_mk h2 rfl
theorem sound_attr : Sound attrD1 attrE1 := by
  intro K b s v s' hI h
  obtain ⟨k, s1, h1, h2⟩ := bind_ok h
  obtain ⟨i1, i2, i3, i4⟩ := sound_nextT K b s k s1 hI h1
  obtain ⟨x, s2, h3, h4⟩ := step_ok h2
  simp at h4; obtain ⟨rfl, rfl⟩ := h4
  obtain ⟨j1, j2, j3, j4⟩ := sound_value K b s1 x s2 i1 h3
  refine ⟨j1, j2.trans i2, j3.trans i3, ?_⟩
  simp only [attrE1]; (try simp only at i4); (try simp only at j4); rw [i4, j4]
theorem comp_attr : Comp attrD1 attrE1 (fun _ a => valQ (a.kind, a.text, a.num)) := by
  intro K b s v hI hQ hF
  obtain ⟨s1, h1, i1, i2, hF1⟩ := chain sound_nextT comp_nextT hI (v := v.key) trivial (le_value v.kind v.text v.num _) hF
  rw [← i2] at hF1
  obtain ⟨s2, h2, _, _, _⟩ := chain sound_value comp_value i1 hQ (LeE.refl _) hF1
  refine ⟨s2, ?_⟩
  unfold attrD1
  rw [bind_mk h1]
  exact step_mk h2 rfl
theorem sound_event (acc : List EventD) : Sound (eventD1 acc) (eventE1 acc) := by
  intro K b s v s' hI h
  obtain ⟨k, s1, h1, h2⟩ := bind_ok h
  obtain ⟨i1, i2, i3, i4⟩ := sound_later _ K b s k s1 hI h1
  obtain ⟨x, s2, h3, h4⟩ := step_ok h2
  simp at h4; obtain ⟨rfl, rfl⟩ := h4
  obtain ⟨j1, j2, j3, j4⟩ := sound_nextT K b s1 x s2 i1 h3
  refine ⟨j1, j2.trans i2, j3.trans i3, ?_⟩
  simp only [eventE1]; (try simp only at i4); (try simp only at j4); rw [i4, j4]
theorem comp_event (acc : List EventD) : Comp (eventD1 acc) (eventE1 acc) (fun _ a => lastE acc ≤ a.moment ∧ a.moment ≤ 9223372036854775807 ∧ a.moment - lastE acc < 18446744073709551616) := by
  intro K b s v hI hQ hF
  obtain ⟨s1, h1, i1, i2, hF1⟩ := chain (sound_later _) (comp_later _) hI (v := v.moment) hQ (le_name v.name _) hF
  rw [← i2] at hF1
  obtain ⟨s2, h2, _, _, _⟩ := chain sound_nextT comp_nextT i1 trivial (LeE.refl _) hF1
  refine ⟨s2, ?_⟩
  unfold eventD1
  rw [bind_mk h1]
  exact step_mk h2 rfl
theorem sound_iter {α : Type} {p : List α → Pa α} {e : List α → α → Est → Est} (hp : ∀ acc, Sound (p acc) (e acc)) : ∀ (n : Nat) (acc : List α) (K : List Int) (b : Nat) (s : Dst) (L : List α) (s' : Dst), Inv K b s → iterF p n acc K s = .ok (L, s') →
    Inv K b s' ∧ s'.texts = s.texts ∧ s'.traces = s.traces ∧ ∃ l, L = acc ++ l ∧ l.length = n ∧ iterE e acc l (est K b s) = est K b s' := by
  intro n
  induction n with
  | zero => intro acc K b s L s' hI h; simp [iterF] at h; obtain ⟨rfl, rfl⟩ := h; exact ⟨hI, rfl, rfl, [], by simp, rfl, rfl⟩
  | succ n ih =>
    intro acc K b s L s' hI h
    obtain ⟨v, s1, h1, h2⟩ := bind_ok h
    obtain ⟨i1, i2, i3, i4⟩ := hp acc K b s v s1 hI h1
    obtain ⟨j1, j2, j3, l, j4, j5, j6⟩ := ih _ K b s1 L s' i1 h2
    exact ⟨j1, j2.trans i2, j3.trans i3, v :: l, by rw [j4]; simp, by simp [j5], by show iterE e (acc ++ [v]) l (e acc v (est K b s)) = _; rw [i4]; exact j6⟩
def AllQ {α : Type} (C : List α → α → Prop) : List α → List α → Prop
  | _, [] => True
  | acc, v :: r => C acc v ∧ AllQ C (acc ++ [v]) r
theorem comp_iter {α : Type} {p : List α → Pa α} {e : List α → α → Est → Est} {C : List α → α → Prop} (hp : ∀ acc, Sound (p acc) (e acc)) (hc : ∀ acc, Comp (p acc) (e acc) (fun _ v => C acc v)) (hm : ∀ acc v st, LeE st (e acc v st)) :
    ∀ (l acc : List α) (K : List Int) (b : Nat) (s : Dst), Inv K b s → AllQ C acc l → Fit K b s (iterE e acc l (est K b s)) → ∃ s', iterF p l.length acc K s = .ok (acc ++ l, s') := by
  intro l
  induction l with
  | nil => intro acc K b s _ _ _; exact ⟨s, by simp [iterF]⟩
  | cons v r ih =>
    intro acc K b s hI hQ hF
    obtain ⟨s1, h1, i1, i2, hF1⟩ := chain (hp acc) (hc acc) hI hQ.1 (le_iter hm r (acc ++ [v]) _) hF
    rw [← i2] at hF1
    obtain ⟨s2, h2⟩ := ih (acc ++ [v]) K b s1 i1 hQ.2 hF1
    refine ⟨s2, ?_⟩
    show bindD (p acc) (fun v => iterF p r.length (acc ++ [v])) K s = _
    rw [bind_mk h1, h2]; simp
theorem sound_list {α : Type} {p : List α → Pa α} {e : List α → α → Est → Est} (hp : ∀ acc, Sound (p acc) (e acc)) (m x : Nat) : Sound (bindD (countD m x) fun n => iterF p n []) (fun l st => iterE e [] l (putE (encN l.length) st)) := by
  intro K b s v s' hI h
  obtain ⟨n, s1, h1, h2⟩ := bind_ok h
  obtain ⟨i1, i2, i3, i4⟩ := sound_count m x K b s n s1 hI h1
  obtain ⟨j1, j2, j3, l, j4, j5, j6⟩ := sound_iter hp n [] K b s1 v s' i1 h2
  simp at j4; subst j4; subst j5
  exact ⟨j1, j2.trans i2, j3.trans i3, by (try simp only at i4); (try simp only at j6); simp only; rw [i4, j6]⟩
theorem comp_list {α : Type} {p : List α → Pa α} {e : List α → α → Est → Est} {C : List α → α → Prop} (hp : ∀ acc, Sound (p acc) (e acc)) (hc : ∀ acc, Comp (p acc) (e acc) (fun _ v => C acc v)) (hm : ∀ acc v st, LeE st (e acc v st)) (m x : Nat) (hx : m < 1000000) :
    Comp (bindD (countD m x) fun n => iterF p n []) (fun l st => iterE e [] l (putE (encN l.length) st)) (fun _ l => l.length ≤ m ∧ AllQ C [] l) := by
  intro K b s l hI hQ hF
  obtain ⟨s1, h1, i1, i2, hF1⟩ := chain (sound_count m x) (comp_count m x hx) hI (v := l.length) hQ.1 (le_iter hm _ _ _) hF
  rw [← i2] at hF1
  obtain ⟨s2, h2⟩ := comp_iter hp hc hm l [] K b s1 i1 hQ.2 hF1
  exact ⟨s2, by rw [bind_mk h1, h2]; simp⟩
theorem sound_links : Sound linksD linksE := sound_list (fun _ => sound_above _ _) 16 55
theorem sound_attrs : Sound attrsD attrsE := sound_list (fun _ => sound_attr) 32 55
theorem sound_events : Sound eventsD eventsE := sound_list sound_event 32 55
def linkQ (acc : List Int) (v : Int) : Prop := lastI acc ≤ v ∧ v ≤ 18446744073709551615 ∧ v - lastI acc < 18446744073709551616
def attrQ (_ : List AttrD) (a : AttrD) : Prop := valQ (a.kind, a.text, a.num)
def eventQ (acc : List EventD) (a : EventD) : Prop := lastE acc ≤ a.moment ∧ a.moment ≤ 9223372036854775807 ∧ a.moment - lastE acc < 18446744073709551616
theorem comp_links : Comp linksD linksE (fun _ l => l.length ≤ 16 ∧ AllQ linkQ [] l) := comp_list (e := linkE1) (fun _ => sound_above _ _) (fun _ => comp_above _ _) le_link 16 55 (by omega)
theorem comp_attrs : Comp attrsD attrsE (fun _ l => l.length ≤ 32 ∧ AllQ attrQ [] l) := comp_list (e := fun _ => attrE1) (fun _ => sound_attr) (fun _ => comp_attr) (fun _ => le_attr) 32 55 (by omega)
theorem comp_events : Comp eventsD eventsE (fun _ l => l.length ≤ 32 ∧ AllQ eventQ [] l) := comp_list (e := eventE1) sound_event comp_event le_event 32 55 (by omega)
structure SpanQ (a : Sp) : Prop where
  id : u64I a.id
  par : u64I a.par
  kind : 0 ≤ a.kind ∧ a.kind ≤ 4
  status : 0 ≤ a.status ∧ a.status ≤ 2
  start : 0 ≤ a.start ∧ a.start ≤ 4611686018427387904
  fin : a.start ≤ a.fin ∧ a.fin ≤ 4611686018427387904
  links : a.links.length ≤ 16 ∧ AllQ linkQ [] a.links
  attrs : a.attrs.length ≤ 32 ∧ AllQ attrQ [] a.attrs
  events : a.events.length ≤ 32 ∧ AllQ eventQ [] a.events
theorem sound_span : Sound spanD spanE := by
  intro K b s v s' hI h
  obtain ⟨tr, s1, h1, h⟩ := bind_ok h
  obtain ⟨a1, b1, c1, d1⟩ := sound_nextR K b s tr s1 hI h1
  obtain ⟨id, s2, h2, h⟩ := bind_ok h
  obtain ⟨a2, b2, c2, d2⟩ := sound_raw8 K b s1 id s2 a1 h2
  obtain ⟨par, s3, h3, h⟩ := bind_ok h
  obtain ⟨a3, b3, c3, d3⟩ := sound_raw8 K b s2 par s3 a2 h3
  obtain ⟨svc, s4, h4, h⟩ := bind_ok h
  obtain ⟨a4, b4, c4, d4⟩ := sound_nextT K b s3 svc s4 a3 h4
  obtain ⟨op, s5, h5, h⟩ := bind_ok h
  obtain ⟨a5, b5, c5, d5⟩ := sound_nextT K b s4 op s5 a4 h5
  obtain ⟨both, s6, h6, h⟩ := bind_ok h
  obtain ⟨a6, b6, c6, d6⟩ := sound_small K b s5 both s6 a5 h6
  obtain ⟨start, s7, h7, h⟩ := bind_ok h
  obtain ⟨a7, b7, c7, d7⟩ := sound_since K b s6 start s7 a6 h7
  obtain ⟨fin, s8, h8, h⟩ := bind_ok h
  obtain ⟨a8, b8, c8, d8⟩ := sound_later start K b s7 fin s8 a7 h8
  obtain ⟨links, s9, h9, h⟩ := bind_ok h
  obtain ⟨a9, b9, c9, d9⟩ := sound_links K b s8 links s9 a8 h9
  obtain ⟨attrs, s10, h10, h⟩ := bind_ok h
  obtain ⟨a10, b10, c10, d10⟩ := sound_attrs K b s9 attrs s10 a9 h10
  obtain ⟨events, s11, h11, h⟩ := bind_ok h
  obtain ⟨a11, b11, c11, d11⟩ := sound_events K b s10 events s11 a10 h11
  simp at h
  obtain ⟨rfl, rfl⟩ := h
  refine ⟨a11, by rw [b11, b10, b9, b8, b7, b6, b5, b4, b3, b2, b1], by rw [c11, c10, c9, c8, c7, c6, c5, c4, c3, c2, c1], ?_⟩
  have hb : both % 8 + 8 * (both / 8) = both := by omega
  simp only at d2 d3 d6 d8
  simp only [spanE]
  rw [hb, d1, d2, d3, d4, d5, d6, d7, d8, d9, d10, d11]
theorem comp_span : Comp spanD spanE (fun s a => (0 ≤ s.start ∧ s.start ≤ 4611686018427387904) ∧ SpanQ a) := by
  intro K b s a hI hQ hF
  obtain ⟨hst, hq⟩ := hQ
  have hkind := hq.kind
  have hstatus := hq.status
  have m11 := fun st => le_events a.events st
  have m10 := fun st => (le_attrs a.attrs st).trans (m11 _)
  have m9 := fun st => (le_links a.links st).trans (m10 _)
  have m8 := fun st => (le_put (encN (a.fin - a.start).toNat) st).trans (m9 _)
  have m7 := fun st => (le_start a.start st).trans (m8 _)
  have m6 := fun st => (le_put [a.kind + 8 * a.status] st).trans (m7 _)
  have m5 := fun st => (le_name a.op st).trans (m6 _)
  have m4 := fun st => (le_name a.svc st).trans (m5 _)
  have m3 := fun st => (le_put (rawL a.par) st).trans (m4 _)
  have m2 := fun st => (le_put (rawL a.id) st).trans (m3 _)
  obtain ⟨s1, h1, i1, e1, F1⟩ := chain sound_nextR comp_nextR hI (v := (a.hi, a.lo)) trivial (m2 _) hF
  rw [← e1] at F1
  have st1 : s1.start = s.start := congrArg Est.start e1
  obtain ⟨s2, h2, i2, e2, F2⟩ := chain sound_raw8 comp_raw8 i1 (v := a.id) hq.id (m3 _) F1
  rw [← e2] at F2
  have st2 : s2.start = s.start := (congrArg Est.start e2).trans st1
  obtain ⟨s3, h3, i3, e3, F3⟩ := chain sound_raw8 comp_raw8 i2 (v := a.par) hq.par (m4 _) F2
  rw [← e3] at F3
  have st3 : s3.start = s.start := (congrArg Est.start e3).trans st2
  obtain ⟨s4, h4, i4, e4, F4⟩ := chain sound_nextT comp_nextT i3 (v := a.svc) trivial (m5 _) F3
  rw [← e4] at F4
  have st4 : s4.start = s.start := (congrArg Est.start e4).trans st3
  obtain ⟨s5, h5, i5, e5, F5⟩ := chain sound_nextT comp_nextT i4 (v := a.op) trivial (m6 _) F4
  rw [← e5] at F5
  have st5 : s5.start = s.start := (congrArg Est.start e5).trans st4
  obtain ⟨s6, h6, i6, e6, F6⟩ := chain sound_small comp_small i5 (v := a.kind + 8 * a.status) ⟨by omega, by omega⟩ (m7 _) F5
  rw [← e6] at F6
  have st6 : s6.start = s.start := (congrArg Est.start e6).trans st5
  obtain ⟨s7, h7, i7, e7, F7⟩ := chain sound_since comp_since i6 (v := a.start) ⟨by rw [st6]; exact hst, hq.start⟩ (m8 _) F6
  rw [← e7] at F7
  have hfin := hq.fin
  have hsta := hq.start
  obtain ⟨s8, h8, i8, e8, F8⟩ := chain (sound_later a.start) (comp_later a.start) i7 (v := a.fin) ⟨by omega, by omega, by omega⟩ (m9 _) F7
  rw [← e8] at F8
  obtain ⟨s9, h9, i9, e9, F9⟩ := chain sound_links comp_links i8 (v := a.links) hq.links (m10 _) F8
  rw [← e9] at F9
  obtain ⟨s10, h10, i10, e10, F10⟩ := chain sound_attrs comp_attrs i9 (v := a.attrs) hq.attrs (m11 _) F9
  rw [← e10] at F10
  obtain ⟨s11, h11, i11, e11, F11⟩ := chain sound_events comp_events i10 (v := a.events) hq.events (LeE.refl _) F10
  refine ⟨s11, ?_⟩
  unfold spanD
  rw [bind_mk h1, bind_mk h2, bind_mk h3, bind_mk h4, bind_mk h5, bind_mk h6, bind_mk h7, bind_mk h8, bind_mk h9, bind_mk h10, bind_mk h11]
  have k1 : (a.kind + 8 * a.status) % 8 = a.kind := by omega
  have k2 : (a.kind + 8 * a.status) / 8 = a.status := by omega
  rw [k1, k2]
theorem span_start (K : List Int) (b : Nat) (s : Dst) (a : Sp) (s' : Dst) (hI : Inv K b s) (h : spanD K s = .ok (a, s')) : s'.start = a.start := by
  obtain ⟨_, _, _, e⟩ := sound_span K b s a s' hI h
  have h1 := congrArg Est.start e
  have iter : ∀ {α : Type} (f : List α → α → Est → Est) (hf : ∀ acc v st, (f acc v st).start = st.start) (l acc : List α) (st : Est), (iterE f acc l st).start = st.start := by
    intro α f hf l
    induction l with
    | nil => intro acc st; rfl
    | cons v r ih => intro acc st; show (iterE f (acc ++ [v]) r (f acc v st)).start = _; rw [ih, hf]
  have e1 : ∀ l st, (linksE l st).start = st.start := fun l st => iter linkE1 (fun _ _ _ => rfl) l [] _
  have e2 : ∀ l st, (eventsE l st).start = st.start := fun l st => iter eventE1 (fun _ _ _ => rfl) l [] _
  have e3 : ∀ l st, (attrsE l st).start = st.start := fun l st => iter (fun _ => attrE1) (fun _ v st => by unfold attrE1 valueE; split; rfl; split <;> rfl) l [] _
  unfold spanE at h1
  rw [e2, e3, e1] at h1
  exact h1.symm
end Go.Proofs.YthcghpbkadlliabGreatDoor
