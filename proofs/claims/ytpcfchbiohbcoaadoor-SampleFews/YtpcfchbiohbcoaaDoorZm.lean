/-
  Zm.
-/
import Derived.Laws.BitsAllLaws
import Derived.Laws.Strings2
import Derived.Lib.IndexBytes
namespace Go.Proofs.YtpcfchbiohbcoaaDoor
open Go

/-- A total order, told as -1, 0, 1. -/
structure Good {α : Type} (c : α → α → Int) : Prop where
  rng : ∀ a b, c a b = -1 ∨ c a b = 0 ∨ c a b = 1
  anti : ∀ a b, c b a = - c a b
  eq : ∀ a b, c a b = 0 ↔ a = b
  trans : ∀ a b d, c a b ≤ 0 → c b d ≤ 0 → c a d ≤ 0

def cmpI (a b : Int) : Int := if a < b then -1 else if b < a then 1 else 0
theorem good_cmpI : Good cmpI where
  rng a b := by unfold cmpI; split <;> (try split) <;> simp
  anti a b := by unfold cmpI; repeat' split
                 all_goals omega
  eq a b := by unfold cmpI; constructor
               · intro h; repeat' split at h
                 all_goals omega
               · rintro rfl; simp
  trans a b d := by unfold cmpI; intro h1 h2; repeat' split at h1
                    all_goals repeat' split at h2
                    all_goals repeat' split
                    all_goals omega
theorem Good.flip {α : Type} {c : α → α → Int} (h : Good c) : Good (fun a b => c b a) where
  rng a b := h.rng b a
  anti a b := h.anti b a
  eq a b := (h.eq b a).trans eq_comm
  trans a b d h1 h2 := h.trans d b a h2 h1
theorem Good.comap {α β : Type} {c : β → β → Int} (h : Good c) (f : α → β) (hf : ∀ a b, f a = f b → a = b) : Good (fun a b => c (f a) (f b)) where
  rng _ _ := h.rng _ _
  anti _ _ := h.anti _ _
  eq a b := (h.eq _ _).trans ⟨hf a b, fun e => e ▸ rfl⟩
  trans _ _ _ h1 h2 := h.trans _ _ _ h1 h2
def orI (a b : Int) : Int := if a = 0 then b else a
theorem Good.lex {α β : Type} {c : α → α → Int} {d : β → β → Int} (h : Good c) (k : Good d) : Good (fun x y : α × β => orI (c x.1 y.1) (d x.2 y.2)) where
  rng x y := by unfold orI; split
                · exact k.rng _ _
                · exact h.rng _ _
  anti x y := by
    unfold orI
    rw [h.anti x.1 y.1, k.anti x.2 y.2]
    split <;> split <;> omega
  eq x y := by
    unfold orI
    constructor
    · intro e
      split at e
      · rename_i h0
        exact Prod.ext ((h.eq _ _).1 h0) ((k.eq _ _).1 e)
      · omega
    · rintro rfl
      rw [if_pos ((h.eq _ _).2 rfl)]
      exact (k.eq _ _).2 rfl
  trans x y z := by
    unfold orI
    intro h1 h2
    have ht := h.trans x.1 y.1 z.1
    have hzy := h.trans z.1 x.1 y.1
    have hyz := h.trans y.1 z.1 x.1
    have a1 := h.anti x.1 y.1
    have a2 := h.anti y.1 z.1
    have a3 := h.anti x.1 z.1
    have kt := k.trans x.2 y.2 z.2
    split at h1 <;> split at h2 <;> split <;> first | omega | (exact kt h1 h2)
def lexL {α : Type} (c : α → α → Int) : List α → List α → Int
  | [], [] => 0
  | [], _ :: _ => -1
  | _ :: _, [] => 1
  | a :: x, b :: y => orI (c a b) (lexL c x y)
theorem Good.list {α : Type} {c : α → α → Int} (h : Good c) : Good (lexL c) where
  rng a := by
    induction a with
    | nil => intro b; cases b <;> simp [lexL]
    | cons x r ih =>
      intro b
      cases b with
      | nil => simp [lexL]
      | cons y q =>
        simp only [lexL, orI]
        split
        · exact ih q
        · exact h.rng _ _
  anti a := by
    induction a with
    | nil => intro b; cases b <;> simp [lexL]
    | cons x r ih =>
      intro b
      cases b with
      | nil => simp [lexL]
      | cons y q =>
        simp only [lexL, orI]
        rw [h.anti x y, ih q]
        split <;> split <;> omega
  eq a := by
    induction a with
    | nil => intro b; cases b <;> simp [lexL]
    | cons x r ih =>
      intro b
      cases b with
      | nil => simp [lexL]
      | cons y q =>
        simp only [lexL, orI]
        constructor
        · intro e
          split at e
          · rename_i h0
            rw [(h.eq _ _).1 h0, (ih q).1 e]
          · omega
        · intro e
          injection e with e1 e2
          subst e1 e2
          rw [if_pos ((h.eq _ _).2 rfl)]
          exact (ih r).2 rfl
  trans a := by
    induction a with
    | nil => intro b d; cases b <;> cases d <;> simp [lexL]
    | cons x r ih =>
      intro b d
      cases b with
      | nil => simp [lexL]
      | cons y q =>
        cases d with
        | nil => simp [lexL]
        | cons z s =>
          simp only [lexL, orI]
          intro h1 h2
          have ht := h.trans x y z
          have hzy := h.trans z x y
          have hyz := h.trans y z x
          have a1 := h.anti x y
          have a2 := h.anti y z
          have a3 := h.anti x z
          have kt := ih q s
          split at h1 <;> split at h2 <;> split <;> first | omega | (exact kt h1 h2)

def cmpU (a b : UInt8) : Int := cmpI (a.toNat : Int) (b.toNat : Int)
theorem good_cmpU : Good cmpU := good_cmpI.comap (fun a : UInt8 => (a.toNat : Int)) (fun a b h => UInt8.toNat_inj.1 (by omega))
/-- Texts, byte by byte. -/
def cmpS (a b : ByteArray) : Int := lexL cmpU a.toList b.toList
theorem bytes_ext (a b : ByteArray) (h : a.toList = b.toList) : a = b := by
  rw [Lib.toList_data, Lib.toList_data] at h
  exact ByteArray.ext (Array.ext' h)
theorem good_cmpS : Good cmpS := good_cmpU.list.comap (fun a : ByteArray => a.toList) bytes_ext
theorem less_lex : ∀ x y : List UInt8, Op.bytesLess x y = decide (lexL cmpU x y = -1) := by
  intro x
  induction x with
  | nil => intro y; cases y <;> simp [Op.bytesLess, lexL]
  | cons a x ih =>
    intro y
    cases y with
    | nil => simp [Op.bytesLess, lexL]
    | cons b y =>
      rw [Op.bytesLess, ih y]
      simp only [lexL, orI, cmpU, cmpI]
      by_cases h1 : a < b
      · have h1' : (a.toNat : Int) < (b.toNat : Int) := by have := UInt8.lt_iff_toNat_lt.1 h1; omega
        simp [h1, h1']
      · have h1' : ¬ (a.toNat : Int) < (b.toNat : Int) := fun h => h1 (UInt8.lt_iff_toNat_lt.2 (by omega))
        by_cases h2 : a = b
        · subst h2; simp
        · have h2' : (b.toNat : Int) < (a.toNat : Int) := by
            have : a.toNat ≠ b.toNat := fun e => h2 (UInt8.toNat_inj.1 e)
            omega
          simp [h1, h1', h2, h2']
theorem cmpS_lt (a b : ByteArray) : Op.bytesLess a.toList b.toList = decide (cmpS a b = -1) := less_lex _ _
theorem cmpS_eq (a b : ByteArray) : (a.toList == b.toList) = decide (cmpS a b = 0) := by
  by_cases h : a.toList = b.toList
  · have : cmpS a b = 0 := (good_cmpS.eq a b).2 (bytes_ext a b h)
    simp [h, this]
  · have : ¬ cmpS a b = 0 := fun e => h (by rw [(good_cmpS.eq a b).1 e])
    simp [h, this]
/-- The first of some answers that is not 0. -/
def orL : List Int → Int
  | [] => 0
  | x :: r => orI x (orL r)

structure AttrD where
  key : ByteArray
  kind : Int
  text : ByteArray
  num : Int
structure EventD where
  moment : Int
  name : ByteArray
structure Sp where
  hi : Int
  lo : Int
  id : Int
  par : Int
  links : List Int
  svc : ByteArray
  op : ByteArray
  kind : Int
  status : Int
  start : Int
  fin : Int
  attrs : List AttrD
  events : List EventD
theorem AttrD.ext' {a b : AttrD} (h1 : a.key = b.key) (h2 : a.kind = b.kind) (h3 : a.text = b.text) (h4 : a.num = b.num) : a = b := by cases a; cases b; simp_all
theorem EventD.ext' {a b : EventD} (h1 : a.moment = b.moment) (h2 : a.name = b.name) : a = b := by cases a; cases b; simp_all
def cmpA (a b : AttrD) : Int := orL [cmpS a.key b.key, cmpI a.kind b.kind, cmpS a.text b.text, cmpI a.num b.num]
def cmpE (a b : EventD) : Int := orL [cmpI a.moment b.moment, cmpS a.name b.name]
theorem orI_zero (a : Int) : orI a 0 = a := by unfold orI; split <;> omega
theorem good_cmpA : Good cmpA := by
  have := (good_cmpS.lex (good_cmpI.lex (good_cmpS.lex good_cmpI))).comap (fun a : AttrD => (a.key, a.kind, a.text, a.num)) (fun a b h => by simp at h; exact AttrD.ext' h.1 h.2.1 h.2.2.1 h.2.2.2)
  have e : cmpA = fun a b => orI (cmpS a.key b.key) (orI (cmpI a.kind b.kind) (orI (cmpS a.text b.text) (cmpI a.num b.num))) := by
    funext a b; simp [cmpA, orL, orI_zero]
  rw [e]; exact this
theorem good_cmpE : Good cmpE := by
  have := (good_cmpI.lex good_cmpS).comap (fun a : EventD => (a.moment, a.name)) (fun a b h => by simp at h; exact EventD.ext' h.1 h.2)
  have e : cmpE = fun a b => orI (cmpI a.moment b.moment) (cmpS a.name b.name) := by
    funext a b; simp [cmpE, orL, orI_zero]
  rw [e]; exact this
/-- Two spans of one name. -/
def cmpT (a b : Sp) : Int := orL [cmpI a.fin b.fin, cmpI b.start a.start, cmpI a.status b.status, cmpI a.par b.par, cmpS a.svc b.svc, cmpS a.op b.op, cmpI a.kind b.kind, lexL cmpI a.links b.links, lexL cmpA a.attrs b.attrs, lexL cmpE a.events b.events]
def cmpN (a b : Sp) : Int := orL [cmpI a.hi b.hi, cmpI a.lo b.lo, cmpI a.id b.id]
def cmpP (a b : Sp) : Int := orI (cmpN a b) (cmpT a b)
theorem Sp.ext' {a b : Sp} (h1 : a.hi = b.hi) (h2 : a.lo = b.lo) (h3 : a.id = b.id) (h4 : a.par = b.par) (h5 : a.links = b.links) (h6 : a.svc = b.svc) (h7 : a.op = b.op) (h8 : a.kind = b.kind) (h9 : a.status = b.status) (h10 : a.start = b.start) (h11 : a.fin = b.fin) (h12 : a.attrs = b.attrs) (h13 : a.events = b.events) : a = b := by cases a; cases b; simp_all
theorem orI_assoc (a b c : Int) : orI (orI a b) c = orI a (orI b c) := by unfold orI; repeat' split
                                                                          all_goals omega
theorem good_cmpP : Good cmpP := by
  have := (good_cmpI.lex (good_cmpI.lex (good_cmpI.lex (good_cmpI.lex (good_cmpI.flip.lex (good_cmpI.lex (good_cmpI.lex (good_cmpS.lex (good_cmpS.lex (good_cmpI.lex (good_cmpI.list.lex (good_cmpA.list.lex good_cmpE.list)))))))))))).comap
    (fun a : Sp => (a.hi, a.lo, a.id, a.fin, a.start, a.status, a.par, a.svc, a.op, a.kind, a.links, a.attrs, a.events)) (fun a b h => by
      simp only [Prod.mk.injEq] at h
      obtain ⟨h1, h2, h3, h4, h5, h6, h7, h8, h9, h10, h11, h12, h13⟩ := h
      exact Sp.ext' h1 h2 h3 h7 h11 h8 h9 h10 h6 h5 h4 h12 h13)
  have e : cmpP = fun a b => orI (cmpI a.hi b.hi) (orI (cmpI a.lo b.lo) (orI (cmpI a.id b.id) (orI (cmpI a.fin b.fin) (orI (cmpI b.start a.start) (orI (cmpI a.status b.status) (orI (cmpI a.par b.par) (orI (cmpS a.svc b.svc) (orI (cmpS a.op b.op) (orI (cmpI a.kind b.kind) (orI (lexL cmpI a.links b.links) (orI (lexL cmpA a.attrs b.attrs) (lexL cmpE a.events b.events)))))))))))) := by
    funext a b; simp only [cmpP, cmpN, cmpT, orL, orI_zero, orI_assoc]
  rw [e]; exact this
theorem cmpN_zero (a b : Sp) : cmpN a b = 0 ↔ a.hi = b.hi ∧ a.lo = b.lo ∧ a.id = b.id := by
  have h1 := good_cmpI.eq a.hi b.hi
  have h2 := good_cmpI.eq a.lo b.lo
  have h3 := good_cmpI.eq a.id b.id
  simp only [cmpN, orL, orI_zero]
  simp only [orI]
  constructor
  · intro h
    split at h
    · split at h
      · exact ⟨h1.1 ‹_›, h2.1 ‹_›, h3.1 h⟩
      · omega
    · omega
  · rintro ⟨e1, e2, e3⟩
    rw [if_pos (h1.2 e1), if_pos (h2.2 e2)]; exact h3.2 e3
end Go.Proofs.YtpcfchbiohbcoaaDoor
