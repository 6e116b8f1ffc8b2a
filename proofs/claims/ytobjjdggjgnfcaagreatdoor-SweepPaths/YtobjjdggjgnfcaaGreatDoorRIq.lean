/-
  Merged: RI, RJ, RK.
-/
import Derived.Test.YtobjjdggjgnfcaaGreatDoorRAq
import Derived.Test.YtobjjdggjgnfcaaGreatDoorRDq
import Derived.Sort.Walk0
import Derived.Deep.Cut
import Derived.Deep.RegionHeld3
namespace Go.Proofs.YtobjjdggjgnfcaaGreatDoor
open Go Go.RowKit
set_option maxRecDepth 100000

theorem infoSv_parts : ∃ i, Tryz.prog.info? 61 = some i ∧ i.zero = some (.agg #[.string ⟨#[]⟩, .int .u64 0]) ∧ i.size = 2 ∧ i.bytes = 24 := by
  have h : (Tryz.prog.info? 61).map (fun i => (i.zero, i.size, i.bytes)) = some (some (.agg #[.string ⟨#[]⟩, .int .u64 0]), 2, 24) := by kernel_rfl
  cases hi : Tryz.prog.info? 61 with
  | none => rw [hi] at h; simp at h
  | some i => rw [hi] at h; simp at h; exact ⟨i, rfl, h.1, h.2.1, h.2.2⟩
theorem wpList_appV {ops : Array Oper} {rest : List Oper} {o : Oper} {a : Act} {Q : Exit → Act → World → Prop} (wr : World) (hgd : o.guard = none) (s x : Operand)
    (ho : o.op = .call { callee := .builtin .append, args := #[s, x], argTypes := #[54, 54] })
    (base : Nat) (v : Value) (n : Nat) (xs : List Value) (p : ByteArray) (q : Int) (b : Nat) (hb : b = wr.heap.size) (hv : a.eval s = v) (hown : wr.ownsRow base 61 2 v n xs) (hx : a.eval x = .slice (some ⟨b, 0, none⟩) 1 1) (hn : n ≤ 1000000) (hbase : base ≤ wr.heap.size)
    (h : ∀ va vc w', w'.ownsRow base 61 2 (.slice va (n + 1) vc) (n + 1) (xs ++ [.string p, .int .u64 q]) → Upd (fun k => v.ownBlock = some k) wr w' → wpList Tryz.prog ops Q rest (a.put o.dst (.slice va (n + 1) vc)) w') : wpList Tryz.prog ops Q (o :: rest) a (wr.alloc (.cells #[.string p, .int .u64 q] 61)) := by
  subst hb
  obtain ⟨i0, hi0, hz0, hz1, hz2⟩ := infoSv_parts
  have hown' : (wr.alloc (.cells #[.string p, .int .u64 q] 61)).ownsRow base 61 2 v n xs := ownsRow_upd hown ((Upd.refl (fun _ => False) wr).alloc _) (fun _ _ h => h)
  refine wpList_appW _ hgd s x 54 54 ho base 61 i0 (.agg #[.string ⟨#[]⟩, .int .u64 0]) 2 24 Tryz.underlying54 hi0 hz0 hz1 hz2 rfl v n _ hv hown' _ 1 [.string p, .int .u64 q] hx (src_two Tryz.underlying54 (heap_alloc_new wr _) rfl rfl) (by unfold maxLen; omega) (by omega) (by simp; omega) ?_
  intro v1 w1 o1 g1 m1
  obtain ⟨va, vc, rfl⟩ := owns_sliceS o1
  exact h va vc w1 o1 (((Upd.refl _ wr).alloc _).grown g1 (fun k _ e => e))
structure WtO (name : List UInt8) (l : List (List UInt8)) (i : Nat) (done : Bool) (out : List (List UInt8)) : Prop where
  no : done = false → out = l.take i ∧ ∀ s ∈ l.take i, s < name
  yes : done = true → out.Pairwise (fun a b => a < b) ∧ (∀ s, s ∈ out ↔ s ∈ l.take i ∨ s = name) ∧ ∀ s ∈ l.drop i, name < s
  len : out.length ≤ i + 1
theorem WtO.start (name : List UInt8) (l : List (List UInt8)) : WtO name l 0 false [] := ⟨fun _ => ⟨by simp, fun s hs => by simp at hs⟩, fun h => by simp at h, by simp⟩
section
variable {name : List UInt8} {l : List (List UInt8)} {i : Nat} {out : List (List UInt8)}
theorem take_next (hi : i < l.length) : l.take (i + 1) = l.take i ++ [l[i]] := by rw [List.take_add_one, List.getElem?_eq_getElem hi]; rfl
theorem rise_out (hl : l.Pairwise (fun a b => a < b)) (hi : i < l.length) : (∀ s ∈ l.take i, s < l[i]) ∧ ∀ s ∈ l.drop (i + 1), l[i] < s := by
  rw [List.pairwise_iff_getElem] at hl
  refine ⟨fun s hs => ?_, fun s hs => ?_⟩
  · obtain ⟨j, hj, rfl⟩ := List.mem_iff_getElem.1 hs
    rw [List.length_take] at hj
    rw [List.getElem_take]
    exact hl j i (by omega) hi (by omega)
  · obtain ⟨j, hj, rfl⟩ := List.mem_iff_getElem.1 hs
    rw [List.length_drop] at hj
    rw [List.getElem_drop]
    exact hl i (i + 1 + j) hi (by omega) (by omega)
theorem WtO.put (h : WtO name l i false out) (hl : l.Pairwise (fun a b => a < b)) (hi : i < l.length) (hx : name < l[i]) : WtO name l (i + 1) true (out ++ [name] ++ [l[i]]) := by
  obtain ⟨rfl, h2⟩ := h.no rfl
  obtain ⟨r1, r2⟩ := rise_out hl hi
  refine ⟨fun e => by simp at e, fun _ => ⟨?_, fun s => ?_, fun s hs => List.lt_trans hx (r2 s hs)⟩, by simp; omega⟩
  · rw [List.pairwise_append, List.pairwise_append]
    refine ⟨⟨hl.sublist (List.take_sublist _ _), List.pairwise_singleton _ _, fun a ha b hb => by rw [List.mem_singleton] at hb; subst hb; exact h2 a ha⟩, List.pairwise_singleton _ _, fun a ha b hb => ?_⟩
    rw [List.mem_singleton] at hb
    subst hb
    rcases List.mem_append.1 ha with ha | ha
    · exact r1 a ha
    · rw [List.mem_singleton] at ha; subst ha; exact hx
  · rw [take_next hi]
    simp only [List.mem_append, List.mem_singleton]
    constructor
    · rintro ((h | h) | h)
      · exact Or.inl (Or.inl h)
      · exact Or.inr h
      · exact Or.inl (Or.inr h)
    · rintro ((h | h) | h)
      · exact Or.inl (Or.inl h)
      · exact Or.inr h
      · exact Or.inl (Or.inr h)
theorem WtO.same (h : WtO name l i false out) (hl : l.Pairwise (fun a b => a < b)) (hi : i < l.length) (hx : name = l[i]) : WtO name l (i + 1) true (out ++ [l[i]]) := by
  obtain ⟨rfl, h2⟩ := h.no rfl
  obtain ⟨r1, r2⟩ := rise_out hl hi
  refine ⟨fun e => by simp at e, fun _ => ⟨?_, fun s => ?_, fun s hs => by rw [hx]; exact r2 s hs⟩, by simp; omega⟩
  · rw [← take_next hi]
    exact hl.sublist (List.take_sublist _ _)
  · rw [take_next hi, hx]
    simp only [List.mem_append, List.mem_singleton]
    constructor
    · exact fun h => Or.inl h
    · rintro (h | h)
      · exact h
      · exact Or.inr h
theorem WtO.less (h : WtO name l i false out) (hi : i < l.length) (hx : l[i] < name) : WtO name l (i + 1) false (out ++ [l[i]]) := by
  obtain ⟨rfl, h2⟩ := h.no rfl
  refine ⟨fun _ => ⟨(take_next hi).symm, fun s hs => ?_⟩, fun e => by simp at e, by simp; omega⟩
  rw [take_next hi] at hs
  rcases List.mem_append.1 hs with hs | hs
  · exact h2 s hs
  · rw [List.mem_singleton] at hs; subst hs; exact hx
theorem WtO.more (h : WtO name l i true out) (hl : l.Pairwise (fun a b => a < b)) (hi : i < l.length) : name < l[i] ∧ WtO name l (i + 1) true (out ++ [l[i]]) := by
  obtain ⟨h1, h2, h3⟩ := h.yes rfl
  obtain ⟨r1, r2⟩ := rise_out hl hi
  have hd : l.drop i = l[i] :: l.drop (i + 1) := List.drop_eq_getElem_cons hi
  have hx : name < l[i] := h3 l[i] (by rw [hd]; exact List.mem_cons_self ..)
  refine ⟨hx, fun e => by simp at e, fun _ => ⟨?_, fun s => ?_, fun s hs => h3 s (by rw [hd]; exact List.mem_cons_of_mem _ hs)⟩, by have := h.len; simp; omega⟩
  · rw [List.pairwise_append]
    refine ⟨h1, List.pairwise_singleton _ _, fun a ha b hb => ?_⟩
    rw [List.mem_singleton] at hb
    subst hb
    rcases (h2 a).1 ha with ha | ha
    · exact r1 a ha
    · subst ha; exact hx
  · rw [take_next hi]
    simp only [List.mem_append, List.mem_singleton, h2 s]
    constructor
    · rintro ((h | h) | h)
      · exact Or.inl (Or.inl h)
      · exact Or.inr h
      · exact Or.inl (Or.inr h)
    · rintro ((h | h) | h)
      · exact Or.inl (Or.inl h)
      · exact Or.inr h
      · exact Or.inl (Or.inr h)
end
theorem WtO.done {A : Nat → Sp} {zs : List Nat} {l out : List (List UInt8)} {y : Nat} {d : Bool} (h : WtO (svB (A y)) l l.length d out) (hl : SvL A zs l) : SvL A (zs ++ [y]) (if d then out else out ++ [svB (A y)]) := by
  have key : ∀ s, (s ∈ l ∨ s = svB (A y)) ↔ ∃ z ∈ zs ++ [y], svB (A z) = s := fun s => by
    rw [hl.mem s]
    constructor
    · rintro (⟨z, h1, h2⟩ | h)
      · exact ⟨z, by simp [h1], h2⟩
      · exact ⟨y, by simp, h.symm⟩
    · rintro ⟨z, h1, h2⟩
      rcases List.mem_append.1 h1 with h1 | h1
      · exact Or.inl ⟨z, h1, h2⟩
      · rw [List.mem_singleton] at h1; subst h1; exact Or.inr h2.symm
  cases d with
  | true =>
    obtain ⟨h1, h2, _⟩ := h.yes rfl
    rw [List.take_length] at h2
    exact ⟨fun s => by rw [if_pos rfl, h2 s, key], by rw [if_pos rfl]; exact h1⟩
  | false =>
    obtain ⟨h1, h2⟩ := h.no rfl
    rw [List.take_length] at h1 h2
    subst h1
    refine ⟨fun s => ?_, ?_⟩
    · rw [← key]; simp
    · simp only [Bool.false_eq_true, if_false]
      rw [List.pairwise_append]
      exact ⟨hl.rise, List.pairwise_singleton _ _, fun a ha b hb => by rw [List.mem_singleton] at hb; subst hb; exact h2 a ha⟩
end Go.Proofs.YtobjjdggjgnfcaaGreatDoor

namespace Go.Proofs.YtobjjdggjgnfcaaGreatDoor
open Go Go.RowKit
set_option maxRecDepth 100000

theorem valS_none {A : Nat → Sp} {h : Nat → Int} {zs : List Nat} {s : List UInt8} (hn : ∀ y ∈ zs, svB (A y) ≠ s) : valS A h zs s = 0 := by
  have : sumS A h zs s = 0 := by
    induction zs with
    | nil => rfl
    | cons z r ih =>
      have e : sumS A h (z :: r) s = (if svB (A z) = s then h z else 0) + sumS A h r s := by simp [sumS]
      rw [e, if_neg (hn z (by simp)), ih (fun y hy => hn y (by simp [hy]))]
      rfl
  unfold valS
  rw [this]
  rfl
theorem svC_len (A : Nat → Sp) (h : Nat → Int) (zs : List Nat) (s : List UInt8) : (svC A h zs s).length = 2 := rfl
def WtI (W : World) (A : Nat → Sp) (h : Nat → Int) (zs : List Nat) (y : Nat) (l : List (List UInt8)) (i : Nat) (done : Bool) (oa : Option Addr) (ll oc : Nat) (wr : World) : Prop := ∃ out, WtO (svB (A y)) l i done out ∧ out.length = ll ∧ wr.ownsRow W.heap.size 61 2 (.slice oa ll oc) ll (out.flatMap (svC A h (zs ++ [y]))) ∧ Below W.heap.size W wr
set_option maxHeartbeats 4000000 in
theorem with_any (A : Nat → Sp) (h : Nat → Int) (zs : List Nat) (y : Nat) (l : List (List UInt8)) (hl : SvL A zs l) (hr : 0 ≤ h y ∧ h y < 18446744073709551616) (ad : Option Addr) (n cap : Nat) (W : World) (hA : LieIn (svC A h zs) 2 W ad l) (hn : l.length = n) (hn1 : n ≤ 1000) :
    Calls Tryz.prog 67 #[.slice ad n cap, .string (A y).svc, .int .u64 (h y)] W fun e W' => ∃ oa ll oc l', e = .returned (.slice oa ll oc) ∧ Hid (l'.length = ll ∧ ll ≤ n + 1 ∧ SvL A (zs ++ [y]) l' ∧ LieIn (svC A h (zs ++ [y])) 2 W' oa l') ∧ Below W.heap.size W W' := by
  have enm : (Value.string (A y).svc) = .string ⟨(svB (A y)).toArray⟩ := (strV_sv (A y)).symm
  rw [enm]
  have HA : Hid (LieIn (svC A h zs) 2 W ad l ∧ l.length = n ∧ SvL A zs l) := ⟨hA, hn, hl⟩
  have HV : Hid (∀ s, valS A h (zs ++ [y]) s = if svB (A y) = s then IntKind.u64.wrap (valS A h zs s + h y) else valS A h zs s) := fun s => valS_app A h s zs y
  have HN0 : Hid (svB (A y) ∉ l → valS A h (zs ++ [y]) (svB (A y)) = h y) := fun hno => by
    rw [valS_app, if_pos rfl, valS_none (fun z hz e => hno ((hl.mem _).2 ⟨z, hz, e⟩)), Int.zero_add, IntKind.wrap_u64]
    omega
  clear hA hn hl enm hr
  generalize hnm : svB (A y) = name at *
  have HNM : Hid (svB (A y) = name) := hnm
  generalize hhy : h y = hv at *
  clear hnm hhy
  go_enter Tryz.func67, Tryz.ntmps67
  go_wp2
  have HI0 : Hid (WtI W A h zs y l 0 false none 0 0 W) := ⟨[], by rw [HNM.out]; exact WtO.start _ _, rfl, World.ownsRow_nil _ _ _ _, Below.refl _ _⟩
  go_loopw [7, 8, 9] (fun z7 z8 z9 wr => ∃ (i : Nat) (d : Bool) (oa : Option Addr) (ll oc : Nat), z7 = .slice oa ll oc ∧ z8 = .bool d ∧ z9 = .int .i64 i ∧ i ≤ n ∧ Hid (WtI W A h zs y l i d oa ll oc wr)) (fun _ _ z9 _ => n - (intOf z9).toNat)
  case atStart => exact ⟨0, false, none, 0, 0, rfl, rfl, rfl, by omega, HI0⟩
  case round =>
    clear HI0
    obtain ⟨i, d, oa, ll, oc, rfl, rfl, rfl, hi, HI⟩ := hrel
    by_cases hlt : i < n
    · have hin : (i : Int) < (n : Int) := by omega
      have hil : i < l.length := by rw [HA.out.2.1]; exact hlt
      obtain ⟨out, hO, hol, hown, hb⟩ := HI.out
      have hll : ll ≤ 1001 := by have := hO.len; omega
      obtain ⟨gb, e, _, hc⟩ := (HA.out.1.below hb) (fun e => by rw [e] at hil; simp at hil)
      subst e
      have c0 : wr.cell? ⟨gb, i * 2, none⟩ = some (.string ⟨l[i].toArray⟩) := hc i hil 0 _ rfl
      have c1 : wr.cell? ⟨gb, i * 2 + 1, none⟩ = some (.int .u64 (valS A h zs l[i])) := hc i hil 1 _ rfl
      have lt1 : Op.bytesLess name l[i] = decide (name < l[i]) := bytesLess_eq _ _
      have eq1 : (name == l[i]) = decide (name = l[i]) := by by_cases h : name = l[i] <;> simp [h]
      have HOO : Hid (WtO name l i d out) := by rw [← HNM.out]; exact hO
      have HPR : Hid (l.Pairwise (fun a b => a < b)) := HA.out.2.2.rise
      have HOWN : Hid (∀ u, Below wr.heap.size wr u → u.ownsRow W.heap.size 61 2 (.slice oa ll oc) ll (out.flatMap (svC A h (zs ++ [y])))) := fun u hu => ownsRow_upd hown (Upd.ofBelow (S := fun _ => False) hu (fun k h1 h2 => by omega)) (fun _ _ h => h)
      have HSZ : Hid (W.heap.size ≤ wr.heap.size ∧ ∀ k, (Value.slice oa ll oc).ownBlock = some k → W.heap.size ≤ k ∧ k < wr.heap.size) := ⟨hb.size, fun k e => owns_lt hown e⟩
      have HST : Hid (∀ (d' : Bool) (x : List UInt8) (v : Int), WtO name l (i + 1) d' (out ++ [x]) → valS A h (zs ++ [y]) x = v → ∀ U va' vc' w', Below wr.heap.size wr U → w'.ownsRow W.heap.size 61 2 (.slice va' (ll + 1) vc') (ll + 1) (out.flatMap (svC A h (zs ++ [y])) ++ [.string ⟨x.toArray⟩, .int .u64 v]) → Upd (fun q => (Value.slice oa ll oc).ownBlock = some q) U w' → WtI W A h zs y l (i + 1) d' va' (ll + 1) vc' w') := fun d' x v hW hv U va' vc' w' hU ho hu => by
        have bU := hb.trans (hU.mono hb.size)
        refine ⟨out ++ [x], by rw [HNM.out]; exact hW, by rw [List.length_append, hol]; rfl, ?_, bU.trans (hu.below bU.size (fun k hk e => by have := (owns_lt hown e).1; omega))⟩
        rw [List.flatMap_append]
        have e : [x].flatMap (svC A h (zs ++ [y])) = [.string ⟨x.toArray⟩, .int .u64 v] := by rw [List.flatMap_cons, List.flatMap_nil, List.append_nil, ← hv]; rfl
        rw [e]
        exact ho
      have HVX : Hid (valS A h (zs ++ [y]) l[i] = if name = l[i] then IntKind.u64.wrap (valS A h zs l[i] + hv) else valS A h zs l[i]) := by
        exact HV.out l[i]
      have HTW : Hid (∀ U va' vc' w', name ∉ l → WtO name l (i + 1) true (out ++ [name] ++ [l[i]]) → ∀ v, valS A h (zs ++ [y]) l[i] = v → ∀ V w2, Below wr.heap.size wr U → w'.ownsRow W.heap.size 61 2 (.slice va' (ll + 1) vc') (ll + 1) (out.flatMap (svC A h (zs ++ [y])) ++ [.string ⟨name.toArray⟩, .int .u64 hv]) → Upd (fun q => (Value.slice oa ll oc).ownBlock = some q) U w' → Below w'.heap.size w' V → ∀ va2 vc2, w2.ownsRow W.heap.size 61 2 (.slice va2 (ll + 1 + 1) vc2) (ll + 1 + 1) (out.flatMap (svC A h (zs ++ [y])) ++ [.string ⟨name.toArray⟩, .int .u64 hv] ++ [.string ⟨l[i].toArray⟩, .int .u64 v]) → Upd (fun q => (Value.slice va' (ll + 1) vc').ownBlock = some q) V w2 → WtI W A h zs y l (i + 1) true va2 (ll + 1 + 1) vc2 w2) := fun U va' vc' w' hno hW v hv' V w2 hU ho hu hV va2 vc2 ho2 hu2 => by
        have bU := hb.trans (hU.mono hb.size)
        have b1 := bU.trans (hu.below bU.size (fun k hk e => by have := (owns_lt hown e).1; omega))
        have b2 := b1.trans (hV.mono b1.size)
        have hoV : V.ownsRow W.heap.size 61 2 (.slice va' (ll + 1) vc') (ll + 1) (out.flatMap (svC A h (zs ++ [y])) ++ [.string ⟨name.toArray⟩, .int .u64 hv]) := ownsRow_upd ho (Upd.ofBelow (S := fun _ => False) hV (fun k h1 h2 => by omega)) (fun _ _ h => h)
        refine ⟨out ++ [name] ++ [l[i]], by rw [HNM.out]; exact hW, by simp [hol], ?_, b2.trans (hu2.below b2.size (fun k hk e => by have := (owns_lt hoV e).1; omega))⟩
        have en : valS A h (zs ++ [y]) name = hv := HN0.out hno
        have e1 : [name].flatMap (svC A h (zs ++ [y])) = [.string ⟨name.toArray⟩, .int .u64 hv] := by rw [List.flatMap_cons, List.flatMap_nil, List.append_nil, ← en]; rfl
        have e2 : [l[i]].flatMap (svC A h (zs ++ [y])) = [.string ⟨l[i].toArray⟩, .int .u64 v] := by rw [List.flatMap_cons, List.flatMap_nil, List.append_nil, ← hv']; rfl
        rw [List.flatMap_append, List.flatMap_append, e1, e2]
        exact ho2
      have HNO : Hid (d = false → name < l[i] → name ∉ l) := fun hd hx hm => by
        subst hd
        obtain ⟨_, h2⟩ := HOO.out.no rfl
        obtain ⟨_, r2⟩ := rise_out HPR.out hil
        have hs : l = l.take i ++ l[i] :: l.drop (i + 1) := by rw [← List.drop_eq_getElem_cons hil, List.take_append_drop]
        rw [hs] at hm
        rcases List.mem_append.1 hm with hm | hm
        · exact List.lt_irrefl _ (h2 _ hm)
        · rcases List.mem_cons.1 hm with hm | hm
          · rw [← hm] at hx; exact List.lt_irrefl _ hx
          · exact List.lt_irrefl _ (List.lt_trans hx (r2 _ hm))
      have HOP : Hid ((d = false → name < l[i] → WtO name l (i + 1) true (out ++ [name] ++ [l[i]])) ∧ (d = false → name = l[i] → WtO name l (i + 1) true (out ++ [l[i]])) ∧ (d = false → l[i] < name → WtO name l (i + 1) false (out ++ [l[i]])) ∧ (d = true → name < l[i] ∧ WtO name l (i + 1) true (out ++ [l[i]]))) := ⟨fun hd hx => (by subst hd; exact HOO.out.put HPR.out hil hx), fun hd hx => (by subst hd; exact HOO.out.same HPR.out hil hx), fun hd hx => (by subst hd; exact HOO.out.less hil hx), fun hd => (by subst hd; exact HOO.out.more HPR.out hil)⟩
      clear hc hO hown hb HOO HPR HV HN0 hol HI
      generalize l[i] = x at *
      generalize hvx : valS A h zs x = vx at *
      clear hvx
      by_cases hlx : name < x
      · have hne : name ≠ x := fun e => by rw [e] at hlx; exact List.lt_irrefl _ hlx
        rw [decide_eq_true hlx] at lt1
        rw [decide_eq_false hne] at eq1
        have hvv : valS A h (zs ++ [y]) x = vx := by rw [HVX.out, if_neg hne]
        cases d with
        | true =>
          have HNX : Hid (∀ U va' vc' w', Below wr.heap.size wr U → w'.ownsRow W.heap.size 61 2 (.slice va' (ll + 1) vc') (ll + 1) (out.flatMap (svC A h (zs ++ [y])) ++ [.string ⟨x.toArray⟩, .int .u64 vx]) → Upd (fun q => (Value.slice oa ll oc).ownBlock = some q) U w' → WtI W A h zs y l (i + 1) true va' (ll + 1) vc' w') := HST.out true x vx (HOP.out.2.2.2 rfl).2 hvv
          clear HST HTW HNO HOP HVX hvv hlx hne lt1
          go_wp2_with (at_builtin; (refine wpList_appV (wr.alloc (.cells #[.string ⟨x.toArray⟩, .int .u64 vx] 61)) rfl _ _ rfl W.heap.size (.slice oa ll oc) ll _ ⟨x.toArray⟩ vx (wr.heap.size + 1) (by simp) rfl (HOWN.out _ ((Below.refl _ _).alloc (Nat.le_refl _) _)) rfl (by omega) (by have := HSZ.out.1; simp; omega) ?_; intro va9 vc9 w9 o9 u9); have HI9 : Hid (WtI W A h zs y l (i + 1) true va9 (ll + 1) vc9 w9) := HNX.out _ va9 vc9 w9 ((Below.refl _ _).alloc (Nat.le_refl _) _) o9 u9; clear o9 u9 HNX HOWN)
          go_roundw
          case rel => exact ⟨i + 1, true, va9, ll + 1, vc9, rfl, rfl, by go_num, by omega, HI9⟩
          case measure => (simp [intOf]; omega)
        | false =>
          have HNY : Hid (∀ U va' vc' w' V w2, Below wr.heap.size wr U → w'.ownsRow W.heap.size 61 2 (.slice va' (ll + 1) vc') (ll + 1) (out.flatMap (svC A h (zs ++ [y])) ++ [.string ⟨name.toArray⟩, .int .u64 hv]) → Upd (fun q => (Value.slice oa ll oc).ownBlock = some q) U w' → Below w'.heap.size w' V → ∀ va2 vc2, w2.ownsRow W.heap.size 61 2 (.slice va2 (ll + 1 + 1) vc2) (ll + 1 + 1) (out.flatMap (svC A h (zs ++ [y])) ++ [.string ⟨name.toArray⟩, .int .u64 hv] ++ [.string ⟨x.toArray⟩, .int .u64 vx]) → Upd (fun q => (Value.slice va' (ll + 1) vc').ownBlock = some q) V w2 → WtI W A h zs y l (i + 1) true va2 (ll + 1 + 1) vc2 w2) := fun U va' vc' w' V w2 h1 h2 h3 h4 va2 vc2 h5 h6 => HTW.out U va' vc' w' (HNO.out rfl hlx) (HOP.out.1 rfl hlx) vx hvv V w2 h1 h2 h3 h4 va2 vc2 h5 h6
          clear HST HTW HNO HOP HVX hvv hlx hne
          go_upto_region 10 with (at_builtin; (refine wpList_appV (wr.alloc (.cells #[.string ⟨x.toArray⟩, .int .u64 vx] 61)) rfl _ _ rfl W.heap.size (.slice oa ll oc) ll _ ⟨name.toArray⟩ hv (wr.heap.size + 1) (by simp) rfl (HOWN.out _ ((Below.refl _ _).alloc (Nat.le_refl _) _)) rfl (by omega) (by have := HSZ.out.1; simp; omega) ?_; intro va9 vc9 w9 o9 u9); have HR9 : Hid (w9.ownsRow W.heap.size 61 2 (.slice va9 (ll + 1) vc9) (ll + 1) (out.flatMap (svC A h (zs ++ [y])) ++ [.string ⟨name.toArray⟩, .int .u64 hv])) := o9; have HU9 : Hid (Upd (fun q => (Value.slice oa ll oc).ownBlock = some q) (wr.alloc (.cells #[.string ⟨x.toArray⟩, .int .u64 vx] 61)) w9) := u9; have HB9 : Hid (Blk w9 wr.heap.size #[.string ⟨x.toArray⟩, .int .u64 vx] 61) := (Blk.new wr #[.string ⟨x.toArray⟩, .int .u64 vx] 61).upd u9 (fun e => by have := (HSZ.out.2 _ e).2; omega); have HS9 : Hid (W.heap.size ≤ w9.heap.size) := Nat.le_trans HSZ.out.1 (Nat.le_trans (by simp) u9.size); clear o9 u9)
          have k0 : w9.cell? ⟨wr.heap.size, 0, none⟩ = some (.string ⟨x.toArray⟩) := HB9.out.cell 0 rfl
          have k1 : w9.cell? ⟨wr.heap.size, 1, none⟩ = some (.int .u64 vx) := HB9.out.cell 1 rfl
          clear c0 c1 lt1
          go_wp2_with (at_builtin; (refine wpList_appV w9 rfl _ _ rfl W.heap.size (.slice va9 (ll + 1) vc9) (ll + 1) _ ⟨x.toArray⟩ vx w9.heap.size rfl rfl HR9.out rfl (by omega) HS9.out ?_; intro va2 vc2 w2 o2 u2); have HI9 : Hid (WtI W A h zs y l (i + 1) true va2 (ll + 1 + 1) vc2 w2) := HNY.out _ va9 vc9 w9 w9 w2 ((Below.refl _ _).alloc (Nat.le_refl _) _) HR9.out HU9.out (Below.refl _ _) va2 vc2 o2 u2; clear o2 u2 HNY HR9 HU9 HB9)
          go_roundw
          case rel => exact ⟨i + 1, true, va2, ll + 1 + 1, vc2, rfl, rfl, by go_num, by omega, HI9⟩
          case measure => (simp [intOf]; omega)
      · cases d with
        | true => exact absurd (HOP.out.2.2.2 rfl).1 hlx
        | false =>
        rw [decide_eq_false hlx] at lt1
        by_cases hne : name = x
        · rw [decide_eq_true hne] at eq1
          obtain ⟨v2, hv2⟩ : ∃ v2, IntKind.u64.wrap (vx + hv) = v2 := ⟨_, rfl⟩
          have hvv : valS A h (zs ++ [y]) x = v2 := by rw [HVX.out, if_pos hne]; exact hv2
          have HNX : Hid (∀ U va' vc' w', Below wr.heap.size wr U → w'.ownsRow W.heap.size 61 2 (.slice va' (ll + 1) vc') (ll + 1) (out.flatMap (svC A h (zs ++ [y])) ++ [.string ⟨x.toArray⟩, .int .u64 v2]) → Upd (fun q => (Value.slice oa ll oc).ownBlock = some q) U w' → WtI W A h zs y l (i + 1) true va' (ll + 1) vc' w') := HST.out true x v2 (HOP.out.2.1 rfl hne) hvv
          clear HST HTW HNO HOP HVX hvv hlx hne
          go_wp2_with (at_builtin; (refine wpList_appV (wr.alloc (.cells #[.string ⟨x.toArray⟩, .int .u64 v2] 61)) rfl _ _ rfl W.heap.size (.slice oa ll oc) ll _ ⟨x.toArray⟩ v2 (wr.heap.size + 1) (by simp) rfl (HOWN.out _ ((Below.refl _ _).alloc (Nat.le_refl _) _)) rfl (by omega) (by have := HSZ.out.1; simp; omega) ?_; intro va9 vc9 w9 o9 u9); have HI9 : Hid (WtI W A h zs y l (i + 1) true va9 (ll + 1) vc9 w9) := HNX.out _ va9 vc9 w9 ((Below.refl _ _).alloc (Nat.le_refl _) _) o9 u9; clear o9 u9 HNX HOWN)
          go_roundw
          case rel => exact ⟨i + 1, true, va9, ll + 1, vc9, rfl, rfl, by go_num, by omega, HI9⟩
          case measure => (simp [intOf]; omega)
        · rw [decide_eq_false hne] at eq1
          have hvv : valS A h (zs ++ [y]) x = vx := by rw [HVX.out, if_neg hne]
          have hxl : x < name := by
            rcases List.le_iff_lt_or_eq.1 (List.not_lt.1 hlx) with h3 | h3
            · exact h3
            · exact absurd h3.symm hne
          have HNX : Hid (∀ U va' vc' w', Below wr.heap.size wr U → w'.ownsRow W.heap.size 61 2 (.slice va' (ll + 1) vc') (ll + 1) (out.flatMap (svC A h (zs ++ [y])) ++ [.string ⟨x.toArray⟩, .int .u64 vx]) → Upd (fun q => (Value.slice oa ll oc).ownBlock = some q) U w' → WtI W A h zs y l (i + 1) false va' (ll + 1) vc' w') := HST.out false x vx (HOP.out.2.2.1 rfl hxl) hvv
          clear HST HTW HNO HOP HVX hvv hlx hne hxl
          go_wp2_with (at_builtin; (refine wpList_appV (wr.alloc (.cells #[.string ⟨x.toArray⟩, .int .u64 vx] 61)) rfl _ _ rfl W.heap.size (.slice oa ll oc) ll _ ⟨x.toArray⟩ vx (wr.heap.size + 1) (by simp) rfl (HOWN.out _ ((Below.refl _ _).alloc (Nat.le_refl _) _)) rfl (by omega) (by have := HSZ.out.1; simp; omega) ?_; intro va9 vc9 w9 o9 u9); have HI9 : Hid (WtI W A h zs y l (i + 1) false va9 (ll + 1) vc9 w9) := HNX.out _ va9 vc9 w9 ((Below.refl _ _).alloc (Nat.le_refl _) _) o9 u9; clear o9 u9 HNX HOWN)
          go_roundw
          case rel => exact ⟨i + 1, false, va9, ll + 1, vc9, rfl, rfl, by go_num, by omega, HI9⟩
          case measure => (simp [intOf]; omega)
    · obtain rfl : i = n := by omega
      obtain ⟨out, hO, hol, hown, hb⟩ := HI.out
      have hll : ll ≤ 1001 := by have := hO.len; omega
      have hO2 := hO
      rw [← HA.out.2.1] at hO2
      have hD := hO2.done HA.out.2.2
      cases d with
      | true =>
        have HE : Hid ((out.length = ll ∧ ll ≤ i + 1 ∧ SvL A (zs ++ [y]) out ∧ LieIn (svC A h (zs ++ [y])) 2 wr oa out) ∧ Below W.heap.size W wr) := ⟨⟨hol, by have := hO.len; omega, by simpa using hD, LieIn.of_owns (svC_len A h (zs ++ [y])) hown hol⟩, hb⟩
        clear hO hol hown hb hO2 hD HI
        go_wp2
        go_ret
        exact ⟨oa, ll, oc, out, rfl, HE.out.1, HE.out.2⟩
      | false =>
        have hno : name ∉ l := fun hm => by
          have := (hO2.no rfl).2 name (by rw [List.take_length]; exact hm)
          rw [HNM.out] at this
          exact List.lt_irrefl _ this
        have hD2 : SvL A (zs ++ [y]) (out ++ [name]) := by
          rw [← HNM.out]
          simpa using hD
        have hlen : ll ≤ i := by
          have e := (hO.no rfl).1
          have : out.length ≤ i := by rw [e, List.length_take]; omega
          omega
        have HEN : Hid (∀ va' vc' w', w'.ownsRow W.heap.size 61 2 (.slice va' (ll + 1) vc') (ll + 1) (out.flatMap (svC A h (zs ++ [y])) ++ [.string ⟨name.toArray⟩, .int .u64 hv]) → Upd (fun q => (Value.slice oa ll oc).ownBlock = some q) wr w' → ((out ++ [name]).length = ll + 1 ∧ ll + 1 ≤ i + 1 ∧ SvL A (zs ++ [y]) (out ++ [name]) ∧ LieIn (svC A h (zs ++ [y])) 2 w' va' (out ++ [name])) ∧ Below W.heap.size W w') := fun va' vc' w' ho hu => by
          have en : valS A h (zs ++ [y]) name = hv := HN0.out hno
          have e1 : [name].flatMap (svC A h (zs ++ [y])) = [.string ⟨name.toArray⟩, .int .u64 hv] := by rw [List.flatMap_cons, List.flatMap_nil, List.append_nil, ← en]; rfl
          rw [← e1, ← List.flatMap_append] at ho
          exact ⟨⟨by simp [hol], by omega, hD2, LieIn.of_owns (svC_len A h (zs ++ [y])) ho (by simp [hol])⟩, hb.trans (hu.below hb.size (fun k hk e => by have := (owns_lt hown e).1; omega))⟩
        have HWN : Hid (wr.ownsRow W.heap.size 61 2 (.slice oa ll oc) ll (out.flatMap (svC A h (zs ++ [y]))) ∧ W.heap.size ≤ wr.heap.size) := ⟨hown, hb.size⟩
        clear hO hol hown hb hO2 hD HI hno hD2 HN0 HV
        go_wp2_with (at_builtin; (refine wpList_appV wr rfl _ _ rfl W.heap.size (.slice oa ll oc) ll _ ⟨name.toArray⟩ hv wr.heap.size rfl rfl HWN.out.1 rfl (by omega) HWN.out.2 ?_; intro va9 vc9 w9 o9 u9); have HE : Hid (((out ++ [name]).length = ll + 1 ∧ ll + 1 ≤ i + 1 ∧ SvL A (zs ++ [y]) (out ++ [name]) ∧ LieIn (svC A h (zs ++ [y])) 2 w9 va9 (out ++ [name])) ∧ Below W.heap.size W w9) := HEN.out va9 vc9 w9 o9 u9; clear o9 u9 HEN HWN)
        go_ret
        exact ⟨va9, ll + 1, vc9, out ++ [name], rfl, HE.out.1, HE.out.2⟩
end Go.Proofs.YtobjjdggjgnfcaaGreatDoor

namespace Go.Proofs.YtobjjdggjgnfcaaGreatDoor
open Go Go.RowKit
set_option maxRecDepth 100000

def RvI (w1 : World) (A : Nat → Sp) (h : Nat → Int) (zs : List Nat) (i ll : Nat) (oa : Option Addr) (wr : World) : Prop := ∃ l, l.length = ll ∧ ll ≤ i ∧ SvL A (zs.take i) l ∧ LieIn (svC A h (zs.take i)) 2 wr oa l ∧ Below w1.heap.size w1 wr
def SvcP (Y : List Sp) (fin : Nat → Nod) (K : Nat → List Int) (x : Nat) (W : World) (e : Ending) (W' : World) : Prop := ∃ ad n cap L l, e = .returned (.tuple #[.slice ad n cap, .int .i64 0]) ∧ Hid (PathR fin (cnK fin K) x (fin x).til L ∧ l.length = n ∧ SvL (spAt Y) (shL L Y.length) l ∧ LieIn (svC (spAt Y) (hungI L) (shL L Y.length)) 2 W' ad l ∧ n ≤ 1000) ∧ Below W.heap.size W W'
section
variable {Y : List Sp} {C : List Int} {dp : Nat → Nat} {fin : Nat → Nod} {X : List Spot} {K : Nat → List Int} {R : List Int} {W : World} {g : Nat} {sa : Option Addr} {sc : Nat} {S : List Sq} {nb cn : Nat} {V : List Nod} {qa : Option Addr} {qc : Nat} {O : List Nat}
set_option maxHeartbeats 4000000 in
theorem rServices_any (hB : FoB Y C dp fin X K R) (hpar : ∀ i, i < Y.length → (fin i).org ≠ 0 → (fin i).par = 0) (hZ : RZ W g sa sc S nb cn V X) (hO : OrdZ W g qa qc X.length O) (x : Nat) (hx : x < Y.length) (ho : (fin x).org ≠ 0) :
    Calls Tryz.prog 31 #[.pointer (some ⟨g, 0, none⟩), .int .u64 (fin x).id] W (SvcP Y fin K x W) := by
  have SH := rShares_any hB hpar hZ hO x hx ho
  have hl := hB.fo.len
  have SP : Hid (∀ W1, Below W.heap.size W W1 → ∀ y, y < Y.length → Calls Tryz.prog 59 #[.pointer (some ⟨g, 0, none⟩), .int .u64 (fin y).id] W1 fun e w' => ∃ p', e = .returned (.tuple #[spV (spAt Y y) p', .bool true]) ∧ Below W1.heap.size W1 w') := fun W1 hb y hy => by
    have h := rSpan_at (hZ.below hb) y (by omega)
    have e := hB.fo.each y hy (by omega)
    rw [e.1, e.2] at h
    have e2 : spAt Y y = Y[y] := by simp [spAt, List.getD, hy]
    rw [e2]
    exact h
  have hn1 : Y.length ≤ 1000 := hB.one.len
  have HE : Hid (∀ ad n cap L l w', PathR fin (cnK fin K) x (fin x).til L ∧ l.length = n ∧ SvL (spAt Y) (shL L Y.length) l ∧ LieIn (svC (spAt Y) (hungI L) (shL L Y.length)) 2 w' ad l ∧ n ≤ 1000 → Below W.heap.size W w' → SvcP Y fin K x W (.returned (.tuple #[.slice ad n cap, .int .i64 0])) w') := fun ad n cap L l w' h1 h2 => ⟨ad, n, cap, L, l, rfl, h1, h2⟩
  generalize SvcP Y fin K x W = POST at *
  clear hB hpar hZ hO ho hx hl
  go_enter Tryz.func31, Tryz.ntmps31
  go_wp2_with (go_at_call 30; refine SH.mono ?_; clear SH; rintro e w1 ⟨sa1, q, sc1, L, rfl, HL, hb1⟩; have HB1 : Hid (Below W.heap.size W w1) := hb1; clear hb1)
  have hq : q ≤ Y.length := by rw [← HL.out.2.1]; exact shL_len L Y.length
  have HY : Hid (∀ y ∈ shL L Y.length, y < Y.length) := fun y hy => (shL_mem.1 hy).1
  obtain ⟨zs, hzs⟩ : ∃ zs, shL L Y.length = zs := ⟨_, rfl⟩
  have HZS : Hid (shL L Y.length = zs) := hzs
  rw [hzs] at HL HY
  clear hzs
  have HI0 : Hid (RvI w1 (spAt Y) (hungI L) zs 0 0 none w1) := ⟨[], rfl, by omega, ⟨fun s => by simp, List.Pairwise.nil⟩, fun h => absurd rfl h, Below.refl _ _⟩
  go_loopw [8, 9] (fun z8 z9 wr => ∃ (i ll : Nat) (oa : Option Addr) (oc : Nat), z8 = .slice oa ll oc ∧ z9 = .int .i64 i ∧ i ≤ q ∧ Hid (RvI w1 (spAt Y) (hungI L) zs i ll oa wr)) (fun _ z9 _ => q - (intOf z9).toNat)
  case atStart => exact ⟨0, 0, none, 0, rfl, rfl, by omega, HI0⟩
  case round =>
    clear HI0
    obtain ⟨i, ll, oa, oc, rfl, rfl, hi, HI⟩ := hrel
    by_cases hlt : i < q
    · have hin : (i : Int) < (q : Int) := by omega
      have hiz : i < zs.length := by rw [HL.out.2.1]; exact hlt
      obtain ⟨l, hl1, hl2, hl3, hl4, hb⟩ := HI.out
      obtain ⟨gb, e, hgb, hc⟩ := (HL.out.2.2.below hb) (fun e => by rw [e] at hiz; simp at hiz)
      subst e
      have c0 : wr.cell? ⟨gb, i * 2, none⟩ = some (.int .u64 (fin zs[i]).id) := hc i hiz 0 _ rfl
      have HC1 : Hid (∀ V, Below wr.heap.size wr V → V.cell? ⟨gb, i * 2 + 1, none⟩ = some (.int .u64 (hungI L zs[i]))) := fun V hV => (hV.cell (p := ⟨gb, i * 2 + 1, none⟩) hgb).trans (hc i hiz 1 _ rfl)
      have SP1 := SP.out wr (HB1.out.trans (hb.mono HB1.out.size)) zs[i] (HY.out _ (List.getElem_mem hiz))
      have WT : Hid (∀ V, Below wr.heap.size wr V → Calls Tryz.prog 67 #[.slice oa ll oc, .string (spAt Y zs[i]).svc, .int .u64 (hungI L zs[i])] V fun e W' => ∃ oa' ll' oc', e = .returned (.slice oa' ll' oc') ∧ Hid (RvI w1 (spAt Y) (hungI L) zs (i + 1) ll' oa' W') ∧ Below V.heap.size V W') := fun V hV => by
        refine (with_any (spAt Y) (hungI L) (zs.take i) zs[i] l hl3 (hungI_nn L zs[i]) oa ll oc V (hl4.below hV) hl1 (by omega)).mono ?_
        rintro e W' ⟨oa', ll', oc', l', rfl, h', hb'⟩
        refine ⟨oa', ll', oc', rfl, ?_, hb'⟩
        have e : zs.take (i + 1) = zs.take i ++ [zs[i]] := by rw [List.take_add_one, List.getElem?_eq_getElem hiz]; rfl
        have bV := hb.trans (hV.mono hb.size)
        refine ⟨l', h'.out.1, by have := h'.out.2.1; omega, ?_, ?_, bV.trans (hb'.mono bV.size)⟩
        · rw [e]; exact h'.out.2.2.1
        · rw [e]; exact h'.out.2.2.2
      clear hl1 hl2 hl3 hl4 hb hc HI
      generalize zs[i] = y at *
      generalize (fin y).id = id at *
      generalize hungI L y = hv at *
      generalize spAt Y y = a at *
      unfold spV spC at SP1
      go_upto_region 9 with (go_at_call 59; refine SP1.mono ?_; clear SP1; rintro e w5 ⟨⟨pla, plc, paa, pac, pea, pec⟩, rfl, hb5⟩; have HB5 : Hid (Below wr.heap.size wr w5) := hb5; clear hb5 c0)
      obtain ⟨V5, hV5⟩ : ∃ V, w5.alloc (.cells #[.int .u64 a.hi, .int .u64 a.lo, .int .u64 a.id, .int .u64 a.par, .slice pla a.links.length plc, .string a.svc, .string a.op, .int .i64 a.kind, .int .i64 a.status, .int .i64 a.start, .int .i64 a.fin, .slice paa a.attrs.length pac, .slice pea a.events.length pec] 112) = V := ⟨_, rfl⟩
      have m5 : V5.cell? ⟨w5.heap.size, 5, none⟩ = some (.string a.svc) := by rw [← hV5]; exact (Blk.new w5 #[.int .u64 a.hi, .int .u64 a.lo, .int .u64 a.id, .int .u64 a.par, .slice pla a.links.length plc, .string a.svc, .string a.op, .int .i64 a.kind, .int .i64 a.status, .int .i64 a.start, .int .i64 a.fin, .slice paa a.attrs.length pac, .slice pea a.events.length pec] 112).cell 5 rfl
      have BV : Hid (Below wr.heap.size wr V5) := by rw [← hV5]; exact HB5.out.alloc HB5.out.size _
      have hz5 : w5.heap.size < V5.heap.size := by rw [← hV5]; simp
      have c1 := HC1.out V5 BV.out
      rw [hV5]
      have HK : Hid (∀ U, Below V5.heap.size V5 U → U.cell? ⟨w5.heap.size, 5, none⟩ = some (.string a.svc) ∧ U.cell? ⟨gb, i * 2 + 1, none⟩ = some (.int .u64 hv)) := fun U hU => ⟨(hU.cell (p := ⟨w5.heap.size, 5, none⟩) hz5).trans m5, HC1.out U (BV.out.trans (hU.mono BV.out.size))⟩
      have WT5 : Hid (∀ U, Below V5.heap.size V5 U → Calls Tryz.prog 67 #[.slice oa ll oc, .string a.svc, .int .u64 hv] U fun e W' => ∃ oa' ll' oc', e = .returned (.slice oa' ll' oc') ∧ Hid (RvI w1 (spAt Y) (hungI L) zs (i + 1) ll' oa' W') ∧ Below U.heap.size U W') := fun U hU => WT.out U (BV.out.trans (hU.mono BV.out.size))
      clear hV5 HB5 HC1 WT BV hz5
      go_region_held3 (fun U => U.cell? ⟨w5.heap.size, 5, none⟩ = some (.string a.svc) ∧ U.cell? ⟨gb, i * 2 + 1, none⟩ = some (.int .u64 hv)) (exact HK.out _ (by repeat' first | exact Below.refl _ _ | assumption | refine Below.drew ?_)) (first
        | (go_at_call 67; (with_reducible refine (WT5.out _ (by repeat' first | exact Below.refl _ _ | assumption | refine Below.drew ?_)).mono ?_); clear WT5; rintro e w6 ⟨oa', ll', oc', rfl, HI6, hb6⟩; have HB6 : Below V5.heap.size V5 w6 := Below.trans (by repeat' first | exact Below.refl _ _ | assumption | refine Below.drew ?_) hb6; clear hb6))
      go_wp2
      go_roundw
      case rel => exact ⟨i + 1, ll', oa', oc', rfl, by go_num, by omega, HI6⟩
      case measure => (simp [intOf]; omega)
    · obtain rfl : i = q := by omega
      have ht : zs.take i = zs := List.take_of_length_le (by rw [HL.out.2.1]; exact Nat.le_refl _)
      obtain ⟨l, hl1, hl2, hl3, hl4, hb⟩ := HI.out
      rw [ht, ← HZS.out] at hl3 hl4
      have HX : Hid (POST (.returned (.tuple #[.slice oa ll oc, .int .i64 0])) wr) := HE.out oa ll oc L l wr ⟨HL.out.1, hl1, hl3, hl4, by omega⟩ (HB1.out.trans (hb.mono HB1.out.size))
      clear hl1 hl2 hl3 hl4 hb HI HL HE SP HZS HY ht
      go_wp2
      exact HX.out
end
end Go.Proofs.YtobjjdggjgnfcaaGreatDoor
