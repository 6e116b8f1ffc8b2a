/-
  Merged by merge.py: XF, XG.
-/
import Derived.Test.YthcghpbkadlliabGreatDoorXE
import Derived.Test.YthcghpbkadlliabGreatDoorMa21
import Derived.Test.YthcghpbkadlliabGreatDoorMa05
import Derived.Test.YthcghpbkadlliabGreatDoorMa06
import Derived.BigQuiet
namespace Go.Proofs.YthcghpbkadlliabGreatDoor
open Go.Shelf Go.RowKit
set_option maxRecDepth 100000

theorem holds_below {w w' : World} {ad : Option Addr} {n : Nat} {K : List Int} (h : Holds w ad n K) (hb : Below w.heap.size w w') : Holds w' ad n K :=
  ⟨h.len, fun j u hj => by
    obtain ⟨a, ha, hc⟩ := h.cells j u hj
    exact ⟨a, ha, (hb.cell (World.block_lt_of_cell? w _ hc)).trans hc⟩⟩
/-- What taken leaves. -/
def TkP (K : List Int) (w : World) (e : Ending) (w' : World) : Prop := match decB K with
  | .error (a, no) => Ups w' a no e ∧ Below w.heap.size w w'
  | .ok l => ∃ (v : Value) (A : List (Sp × Pl)), e = .returned v ∧ A.map Prod.fst = l ∧ A.length ≤ 500 ∧ w'.ownsRow w.heap.size 41 13 v A.length (A.flatMap spCL) ∧ (∀ x ∈ A, SpO w' w.heap.size x.1 x.2) ∧ Below w.heap.size w w'
theorem hear_one {K : List Int} (hK : ∀ x ∈ K, 0 ≤ x ∧ x < 256) (hl : 3 ≤ K.length) {L1 : List Unit} {s1 : Dst} (h1 : hearTD K d0 = .ok (L1, s1)) : (s1.traces = [] ∧ s1.rpl = []) ∧ s1.pos ≤ K.length := by
  obtain ⟨n, t1, u1, u2⟩ := bind_ok h1
  obtain ⟨rfl, a2, a3, a4⟩ := reads_uint K d0 n t1 hK hl u1
  obtain ⟨xs, ps, e1, e2, e3, e4, e5, e6, e7, e8, e9⟩ := hearT_read hK n [] _ _ _ a3 u2
  simp only [Dst.to, d0, List.nil_append] at e1
  exact ⟨⟨by rw [e1], by rw [e1]⟩, e6⟩
theorem hear_two {K : List Int} (hK : ∀ x ∈ K, 0 ≤ x ∧ x < 256) {L1 L2 : List Unit} {s1 s2 : Dst} (hl : 3 ≤ K.length) (h1 : hearTD K d0 = .ok (L1, s1)) (h2 : hearRD K s1 = .ok (L2, s2)) : s2.texts = s1.texts ∧ s2.tpl = s1.tpl := by
  have hp := (hear_one hK hl h1).2
  obtain ⟨m, t2, v1, v2⟩ := bind_ok h2
  obtain ⟨rfl, b2, b3, b4⟩ := reads_uint K s1 m t2 hK hp v1
  obtain ⟨ys, qs, f1, f2, f3, f4, f5, f6, f7, f8, f9⟩ := hearR_read hK m [] _ _ _ b3 v2
  simp only [Dst.to] at f1
  exact ⟨by rw [f1], by rw [f1]⟩
theorem Inv.zero {K : List Int} {b : Nat} {s : Dst} (h : Inv K b s) : Inv K 0 s := { h with b1 := Nat.zero_le _ }
theorem str_head (K : List Int) (hK : ∀ x ∈ K, 0 ≤ x ∧ x < 256) (hl : 3 ≤ K.length) : (!(strI (K.take 3)).toList == [83, 66, 1]) = decide (K.take 3 ≠ headL) := by
  have h3 : ∃ a b c, K.take 3 = [a, b, c] := by
    match K, hl with
    | a :: b :: c :: r, _ => exact ⟨a, b, c, rfl⟩
  obtain ⟨a, b, c, e⟩ := h3
  have hm : ∀ x ∈ [a, b, c], 0 ≤ x ∧ x < 256 := fun x hx => hK x (List.mem_of_mem_take (e ▸ hx))
  have ha := hm a (by simp)
  have hb := hm b (by simp)
  have hc := hm c (by simp)
  rw [e]
  have l1 : (strI [a, b, c]).toList = [UInt8.ofNat a.toNat, UInt8.ofNat b.toNat, UInt8.ofNat c.toNat] := by rw [Lib.toList_data]; simp [strI]
  rw [l1]
  unfold headL
  have q : ∀ (x : Int) (n : Nat), 0 ≤ x → x < 256 → n < 256 → (UInt8.ofNat x.toNat = UInt8.ofNat n ↔ x = n) := fun x n h0 h1 h2 => by
    constructor
    · intro h
      have := congrArg UInt8.toNat h
      simp at this
      omega
    · rintro rfl; simp
  have qa := q a 83 ha.1 ha.2 (by omega)
  have qb := q b 66 hb.1 hb.2 (by omega)
  have qc := q c 1 hc.1 hc.2 (by omega)
  rw [show ([83, 66, 1] : List UInt8) = [UInt8.ofNat 83, UInt8.ofNat 66, UInt8.ofNat 1] from rfl]
  by_cases h : [a, b, c] = [83, 66, 1]
  · simp at h
    obtain ⟨rfl, rfl, rfl⟩ := h
    simp
  · have h2 : ¬ ([UInt8.ofNat a.toNat, UInt8.ofNat b.toNat, UInt8.ofNat c.toNat] = [UInt8.ofNat 83, UInt8.ofNat 66, UInt8.ofNat 1]) := by
      intro hh
      simp only [List.cons.injEq, and_true] at hh
      exact h (by simp [qa.1 hh.1, qb.1 hh.2.1, qc.1 hh.2.2])
    rw [decide_eq_true h, Bool.not_eq_true']
    exact beq_eq_false_iff_ne.mpr h2
theorem taken_any (ad : Option Addr) (n cp : Nat) (K : List Int) (w : World) (hH : Holds w ad n K) (hK : ∀ x ∈ K, 0 ≤ x ∧ x < 256) (hc : n ≤ cp) (ht : Tabs w) :
    Calls Tryz.prog 15 #[.slice ad n cp] w (TkP K w) := by
  have hl := hH.len
  unfold TkP decB
  by_cases h1 : 65536 < K.length
  · rw [if_pos h1]
    exact taken_long ad n cp w (by omega)
  rw [if_neg h1]
  by_cases h3 : (n : Int) < 3
  · have ht3 : K.take 3 ≠ headL := fun e => by
      have := congrArg List.length e
      simp [headL] at this
      omega
    rw [if_pos ht3]
    exact taken_small ad n cp w h3
  have hl3 : 3 ≤ K.length := by omega
  obtain ⟨b, o, rfl⟩ : ∃ b o, ad = some ⟨b, o, none⟩ := by
    obtain ⟨a, ha, hc0⟩ := hH.cells 0 (.int .u8 K[0]) (by first | (simp; done) | (simp; omega))
    obtain ⟨b, o, sp⟩ := a
    cases sp with
    | none => exact ⟨b, o, ha⟩
    | some sp =>
      exfalso
      simp [World.cell?, Addr.add] at hc0
      split at hc0 <;> simp at hc0
  have hcv : (convert 24 9 (.slice (some ⟨b, o, none⟩) 3 cp)).run Tryz.prog w = .ok (.string (strI (K.take 3))) w := by
    refine conv_holds (n := 3) ⟨by simp; omega, fun j u hj => hH.cells j u ?_⟩ cp
    rw [List.map_take, List.getElem?_take] at hj
    split at hj
    · exact hj
    · cases hj
  have hx := str_head K hK hl3
  have h1' : ¬ (65536 : Int) < n := by omega
  have hc' : (n : Int) ≤ cp := by omega
  by_cases hd : K.take 3 ≠ headL
  · rw [if_pos hd]
    rw [decide_eq_true hd] at hx
    exact taken_head b o n cp _ w h3 h1' hc' hcv hx
  rw [if_neg hd]
  rw [decide_eq_false hd] at hx
  have hg := ht.lt
  unfold topD
  rcases r1 : hearTD K d0 with ⟨a, no⟩ | ⟨L1, s1⟩
  · rw [bind_er r1]
    exact taken_texts b o n cp _ K w h3 h1' hc' hcv hx hH hK ht hg a no r1
  rw [bind_mk r1]
  have hs1 := hear_one hK hl3 r1
  rcases r2 : hearRD K s1 with ⟨a, no⟩ | ⟨L2, s2⟩
  · rw [bind_er r2]
    exact taken_traces b o n cp _ K w h3 h1' hc' hcv hx hH hK ht hg L1 s1 r1 a no r2 hs1
  rw [bind_mk r2]
  have tr := top_read hK hl3 (by omega) r1 r2
  have hs2 : (s2.tpl.length = s2.texts.length ∧ s2.rpl.length = s2.traces.length ∧ s2.tsp = 0 ∧ s2.rsp = 0 ∧ s2.start = 0 ∧ Inv K 0 s2) ∧ (s2.texts = s1.texts ∧ s2.tpl = s1.tpl) ∧ True :=
    ⟨⟨tr.2.2.2.2.1, tr.2.2.2.2.2.1, tr.2.1, tr.2.2.1, tr.2.2.2.1, tr.1.zero⟩, hear_two hK hl3 r1 r2, trivial⟩
  rcases r3 : spansD K s2 with ⟨a, no⟩ | ⟨l, s3⟩
  · exact taken_spans b o n cp _ K w h3 h1' hc' hcv hx hH hK ht hg L1 L2 s1 s2 r1 r2 a no r3 hs1 hs2
  simp only
  by_cases k1 : s3.tsp < s3.texts.length
  · rw [if_pos k1]
    exact taken_endS b o n cp _ K w h3 h1' hc' hcv hx hH hK ht hg L1 L2 s1 s2 s3 l r1 r2 r3 hs1 hs2 k1
  rw [if_neg k1]
  by_cases k2 : s3.rsp < s3.traces.length
  · rw [if_pos k2]
    exact taken_endR b o n cp _ K w h3 h1' hc' hcv hx hH hK ht hg L1 L2 s1 s2 s3 l r1 r2 r3 hs1 hs2 k1 k2
  rw [if_neg k2]
  by_cases k3 : s3.pos < K.length
  · rw [if_pos k3]
    exact taken_left b o n cp _ K w h3 h1' hc' hcv hx hH hK ht hg L1 L2 s1 s2 s3 l r1 r2 r3 hs1 hs2 k1 k2 k3
  rw [if_neg k3]
  have k4 : s3.pos = K.length := by
    have hm := (nice_top.mono K d0 l s3 hl3 (by unfold topD; rw [bind_mk r1, bind_mk r2]; exact r3)).2
    omega
  exact taken_ok b o n cp _ K w h3 h1' hc' hcv hx hH hK ht hg L1 L2 s1 s2 s3 l r1 r2 r3 hs1 hs2 k1 k2 k4

theorem dec1 (c : Nat) (v : Value) (R : Ending → World → Prop) (w : World) (hc : w.heap[c]? = some (.cells #[v] 24 (0, 0))) (ad : Option Addr) (n cp : Nat) (hv : v = .slice ad n cp)
    (hL : Calls Tryz.prog 15 #[.slice ad n cp] w R) (hR : ∀ e w', R e w' → (∃ x y z, e = .returned (.slice x y z)) ∨ (∃ ch, e = .panicked ch)) :
    Calls Tryz.prog 14 #[.pointer (some ⟨c, 0, none⟩)] w R := by
  subst hv
  have c0 := cell_of_one hc
  go_enter Tryz.func14, Tryz.ntmps14
  go_wp2_with (go_at_call 15; refine hL.mono ?_; intro e w' hr; rcases hR e w' hr with ⟨x, y, z, rfl⟩ | ⟨ch, rfl⟩)
  all_goals first | exact hr | exact ⟨rfl, hr⟩
/-- What Decode leaves, where the bytes are right. -/
def DecOk (base : Nat) (l : List Sp) (v : Value) (w' : World) : Prop := ∃ (A : List (Sp × Pl)), A.map Prod.fst = l ∧ A.length ≤ 500 ∧ w'.ownsRow base 41 13 v A.length (A.flatMap spCL) ∧ (∀ x ∈ A, SpO w' base x.1 x.2)
theorem DecOk.upd {S : Nat → Prop} {base : Nat} {l : List Sp} {v : Value} {w w' : World} (h : DecOk base l v w) (hu : Upd S w w') (hS : ∀ k cs t fz, S k → base ≤ k → w.heap[k]? = some (.cells cs t fz) → t ≠ 34 ∧ t ≠ 56 ∧ t ≠ 58 ∧ t ≠ 41) : DecOk base l v w' := by
  obtain ⟨A, h1, h2, h3, h4⟩ := h
  refine ⟨A, h1, h2, ownsRow_upd h3 hu (fun k hk hs => ?_), fun x hx => (h4 x hx).upd hu (fun k cs t fz hs hb hh => ?_)⟩
  · obtain ⟨hb, cs, fz, hh⟩ := own_block h3 hk
    exact (hS k _ _ _ hs hb hh).2.2.2 rfl
  · have := hS k cs t fz hs hb hh
    exact ⟨this.1, this.2.1, this.2.2.1⟩
theorem DecOk.base {b b' : Nat} {l : List Sp} {v : Value} {w : World} (h : DecOk b l v w) (hb : b' ≤ b) : DecOk b' l v w := by
  obtain ⟨A, h1, h2, h3, h4⟩ := h
  exact ⟨A, h1, h2, own_base h3 hb, fun x hx => (h4 x hx).base hb⟩
theorem decode_ok (ad : Option Addr) (n cp : Nat) (K : List Int) (l : List Sp) (w : World) (hH : Holds w ad n K) (hK : ∀ x ∈ K, 0 ≤ x ∧ x < 256) (hc : n ≤ cp) (hT : Tabs w) (hd : decB K = .ok l) :
    Calls Tryz.prog 8 #[.slice ad n cp] w fun e w' => ∃ v, e = .returned (.tuple #[v, .nilIface]) ∧ DecOk w.heap.size l v w' ∧ Below w.heap.size w w' := by
  have b1 : Below w.heap.size w (w.alloc (.cells #[.slice ad n cp] 24)) := (Below.refl _ _).alloc (Nat.le_refl _) _
  have X1 : (w.alloc (.cells #[.slice ad n cp] 24)).heap[w.heap.size]? = some (.cells #[.slice ad n cp] 24 (0, 0)) := heap_alloc_new _ _
  have z1 : (w.alloc (.cells #[.slice ad n cp] 24)).heap.size = w.heap.size + 1 := by simp
  have C : ∀ w1 : World, Below w.heap.size w w1 → w1.heap[w.heap.size]? = some (.cells #[.slice ad n cp] 24 (0, 0)) → Calls Tryz.prog 13 #[.func (.func 14) #[] #[.pointer (some ⟨w.heap.size, 0, none⟩)]] w1 fun e w' => ∃ v, e = .returned (.tuple #[v, .nilIface]) ∧ ((∃ x y z, v = .slice x y z) ∧ DecOk w.heap.size l v w') ∧ Below w1.heap.size w1 w' := by
    intro w1 bw1 hx1
    have b2 : Below w1.heap.size w1 (w1.alloc (.cells #[.nilIface] 26)) := (Below.refl _ _).alloc (Nat.le_refl _) _
    have bw2 := bw1.trans (b2.mono bw1.size)
    refine caughtL_ok w.heap.size (fun v w' => (∃ x y z, v = .slice x y z) ∧ DecOk w.heap.size l v w') w1 ?_ ?_
    · refine (dec1 w.heap.size _ _ _ ((b2.block _ (lt_of_block hx1)).trans hx1) ad n cp rfl (taken_any ad n cp K _ (holds_below hH bw2) hK hc (hT.below bw2)) ?_).mono ?_
      · intro e w' hr
        unfold TkP at hr
        rw [hd] at hr
        obtain ⟨v, A, rfl, _, _, ho, _⟩ := hr
        obtain ⟨x, y, z, rfl⟩ := row_shape ho
        exact Or.inl ⟨_, _, _, rfl⟩
      · intro e w' hr
        unfold TkP at hr
        rw [hd] at hr
        obtain ⟨v, A, rfl, h1, h2, ho, h4, hb⟩ := hr
        rw [show (w1.alloc (.cells #[.nilIface] 26)).heap.size = w1.heap.size + 1 by simp] at hb ho h4
        have hle : w.heap.size ≤ w1.heap.size + 1 := by have := bw1.size; omega
        exact ⟨v, rfl, ⟨row_shape ho, A, h1, h2, own_base ho hle, fun x hx => (h4 x hx).base hle⟩, hb⟩
    · rintro v w' ⟨hs, hD⟩ he
      refine ⟨hs, hD.upd (upd_one w' w1.heap.size 0 .nilIface) ?_⟩
      rintro k cs t fz rfl _ hh
      rw [he] at hh
      injection hh with hh
      injection hh with _ hh
      subst hh
      decide
  have hmf : ∀ (fn : Fn) (first cap : Array Value) (w : World), (Instr.makeFunc fn first cap).run Tryz.prog w = .ok (.func fn first cap) w := fun _ _ _ _ => rfl
  have C1 := C _ b1 X1
  clear C hH hT X1 hK
  go_enter Tryz.func8, Tryz.ntmps8
  go_wp2_with (go_at_call 13; refine C1.mono ?_; clear C1; rintro e w2 ⟨v, rfl, ⟨⟨x, y, z, rfl⟩, hD⟩, b2⟩)
  go_ret2
  exact ⟨_, rfl, hD, b1.trans (b2.mono (by rw [z1]; omega))⟩
theorem decode_bad (ad : Option Addr) (n cp : Nat) (K : List Int) (a no : Nat) (w : World) (hH : Holds w ad n K) (hK : ∀ x ∈ K, 0 ≤ x ∧ x < 256) (hc : n ≤ cp) (hT : Tabs w) (hE : ErrT w) (hd : decB K = .error (a, no)) :
    Calls Tryz.prog 8 #[.slice ad n cp] w fun e w' => ∃ p, e = .returned (.tuple #[.slice none 0 0, .iface 95 (.pointer (some ⟨p, 0, none⟩))]) ∧ IsF w' p a no ∧ Below w.heap.size w w' := by
  have b1 : Below w.heap.size w (w.alloc (.cells #[.slice ad n cp] 24)) := (Below.refl _ _).alloc (Nat.le_refl _) _
  have X1 : (w.alloc (.cells #[.slice ad n cp] 24)).heap[w.heap.size]? = some (.cells #[.slice ad n cp] 24 (0, 0)) := heap_alloc_new _ _
  have z1 : (w.alloc (.cells #[.slice ad n cp] 24)).heap.size = w.heap.size + 1 := by simp
  have C1 : Calls Tryz.prog 13 #[.func (.func 14) #[] #[.pointer (some ⟨w.heap.size, 0, none⟩)]] (w.alloc (.cells #[.slice ad n cp] 24)) fun e w' => ∃ p, e = .returned (.tuple #[.slice none 0 0, errV p]) ∧ IsF w' p a no ∧ Below (w.alloc (.cells #[.slice ad n cp] 24)).heap.size (w.alloc (.cells #[.slice ad n cp] 24)) w' := by
    refine caughtL_bad w.heap.size a no _ (hE.below b1) ?_
    have b2 : Below (w.alloc (.cells #[.slice ad n cp] 24)).heap.size (w.alloc (.cells #[.slice ad n cp] 24)) ((w.alloc (.cells #[.slice ad n cp] 24)).alloc (.cells #[.nilIface] 26)) := (Below.refl _ _).alloc (Nat.le_refl _) _
    have bw2 := b1.trans (b2.mono b1.size)
    refine (dec1 w.heap.size _ _ _ ((b2.block _ (lt_of_block X1)).trans X1) ad n cp rfl (taken_any ad n cp K _ (holds_below hH bw2) hK hc (hT.below bw2)) ?_).mono ?_
    · intro e w' hr
      unfold TkP at hr
      rw [hd] at hr
      obtain ⟨⟨q, p, rfl, _⟩, _⟩ := hr
      exact Or.inr ⟨_, rfl⟩
    · intro e w' hr
      unfold TkP at hr
      rw [hd] at hr
      obtain ⟨hU, hb⟩ := hr
      rw [show ((w.alloc (.cells #[.slice ad n cp] 24)).alloc (.cells #[.nilIface] 26)).heap.size = (w.alloc (.cells #[.slice ad n cp] 24)).heap.size + 1 by simp] at hb
      exact ⟨hU, hb⟩
  have hmf : ∀ (fn : Fn) (first cap : Array Value) (w : World), (Instr.makeFunc fn first cap).run Tryz.prog w = .ok (.func fn first cap) w := fun _ _ _ _ => rfl
  clear hH hT hE X1 hK
  unfold errV at C1
  go_enter Tryz.func8, Tryz.ntmps8
  go_wp2_with (go_at_call 13; refine C1.mono ?_; clear C1; rintro e w2 ⟨p, rfl, hF, b2⟩)
  go_ret2
  exact ⟨p, rfl, hF, b1.trans (b2.mono (by rw [z1]; omega))⟩
end Go.Proofs.YthcghpbkadlliabGreatDoor

namespace Go.Proofs.YthcghpbkadlliabGreatDoor
open Go.RowKit
set_option maxRecDepth 100000

theorem list_eq_of {α : Type} {X Y : List α} {n : Nat} (hX : X.length = n) (hY : Y.length = n) (h : ∀ i, i < n → X[i]? = Y[i]?) : X = Y := by
  apply List.ext_getElem?
  intro i
  by_cases hi : i < n
  · exact h i hi
  · rw [List.getElem?_eq_none (by omega), List.getElem?_eq_none (by omega)]
theorem attr_ne {x y : AttrD} (h : x ≠ y) : decide (x.key = y.key ∧ x.kind = y.kind ∧ x.text = y.text ∧ x.num = y.num) = false := decide_eq_false (fun e => h (AttrD.ext' e.1 e.2.1 e.2.2.1 e.2.2.2))
theorem event_ne {x y : EventD} (h : x ≠ y) : decide (x.moment = y.moment ∧ x.name = y.name) = false := decide_eq_false (fun e => h (EventD.ext' e.1 e.2))
set_option maxHeartbeats 4000000 in
theorem same_eq (hi lo id par : Int) (svc op : ByteArray) (kd st s0 f0 : Int) (la : Option Addr) (lc : Nat) (aa : Option Addr) (ac : Nat) (ea : Option Addr) (ec : Nat) (la' : Option Addr) (lc' : Nat) (aa' : Option Addr) (ac' : Nat) (ea' : Option Addr) (ec' : Nat)
    (X X' : List Int) (A A' : List AttrD) (E E' : List EventD) (n m l : Nat) (hn : X.length = n) (hn' : X'.length = n) (hm : A.length = m) (hm' : A'.length = m) (hl : E.length = l) (hl' : E'.length = l)
    (sl : n ≤ 140737488355328) (sa : m ≤ 140737488355328) (se : l ≤ 140737488355328) (w : World)
    (hL : HoldsV w la n (intsV .u64 X)) (hL' : HoldsV w la' n (intsV .u64 X')) (hA : AttrsAt w aa m A) (hA' : AttrsAt w aa' m A') (hE : EventsAt w ea l E) (hE' : EventsAt w ea' l E') (R : Bool) (hR : R = true ↔ (X = X' ∧ A = A' ∧ E = E')) :
    Calls Tryz.prog 9 #[.agg #[.int .u64 hi, .int .u64 lo, .int .u64 id, .int .u64 par, .slice la n lc, .string svc, .string op, .int .i64 kd, .int .i64 st, .int .i64 s0, .int .i64 f0, .slice aa m ac, .slice ea l ec], .agg #[.int .u64 hi, .int .u64 lo, .int .u64 id, .int .u64 par, .slice la' n lc', .string svc, .string op, .int .i64 kd, .int .i64 st, .int .i64 s0, .int .i64 f0, .slice aa' m ac', .slice ea' l ec']] w fun e w' => e = .returned (.bool R) ∧ Below w.heap.size w w' := by
  have B2 : Below w.heap.size w ((w.alloc (.cells #[.int .u64 hi, .int .u64 lo, .int .u64 id, .int .u64 par, .slice la n lc, .string svc, .string op, .int .i64 kd, .int .i64 st, .int .i64 s0, .int .i64 f0, .slice aa m ac, .slice ea l ec] 41)).alloc (.cells #[.int .u64 hi, .int .u64 lo, .int .u64 id, .int .u64 par, .slice la' n lc', .string svc, .string op, .int .i64 kd, .int .i64 st, .int .i64 s0, .int .i64 f0, .slice aa' m ac', .slice ea' l ec'] 41)) := ((Below.refl _ _).alloc (Nat.le_refl _) _).alloc (by simp) _
  have HR : Hid (R = true ↔ (X = X' ∧ A = A' ∧ E = E')) := hR
  have HX : Hid (X.length = n ∧ X'.length = n) := ⟨hn, hn'⟩
  have HA : Hid (A.length = m ∧ A'.length = m) := ⟨hm, hm'⟩
  have HE : Hid (E.length = l ∧ E'.length = l) := ⟨hl, hl'⟩
  have gT := guard_trace
  have gA := guard_attr
  have gE := guard_event
  have NT2 : ∀ W, (binOp .neq 33 (.agg #[.int .u64 hi, .int .u64 lo]) (.agg #[.int .u64 hi, .int .u64 lo])).run Tryz.prog W = .ok (.bool false) W := fun W => by rw [run_neq_of (eqI_trace 9998 hi lo hi lo W), decide_eq_true ⟨rfl, rfl⟩]; rfl
  have HhL : Hid (HoldsV w la n (intsV .u64 X) ∧ HoldsV w la' n (intsV .u64 X')) := ⟨hL, hL'⟩
  have HhA : Hid (AttrsAt w aa m A ∧ AttrsAt w aa' m A') := ⟨hA, hA'⟩
  have HhE : Hid (EventsAt w ea l E ∧ EventsAt w ea' l E') := ⟨hE, hE'⟩
  clear hR hn hn' hm hm' hl hl' hL hL' hA hA' hE hE'
  go_enter Tryz.func9, Tryz.ntmps9
  go_wp2
  go_loopw [5] (fun a wr => ∃ (k c : Nat), a = .int .i64 k ∧ k ≤ n ∧ (∀ i, i < k → X[i]? = X'[i]?) ∧ wr = ((w.alloc (.cells #[.int .u64 hi, .int .u64 lo, .int .u64 id, .int .u64 par, .slice la n lc, .string svc, .string op, .int .i64 kd, .int .i64 st, .int .i64 s0, .int .i64 f0, .slice aa m ac, .slice ea l ec] 41)).alloc (.cells #[.int .u64 hi, .int .u64 lo, .int .u64 id, .int .u64 par, .slice la' n lc', .string svc, .string op, .int .i64 kd, .int .i64 st, .int .i64 s0, .int .i64 f0, .slice aa' m ac', .slice ea' l ec'] 41)).drewN c) (fun a _ => n - (intOf a).toNat)
  case atStart => exact ⟨0, 0, rfl, by omega, fun i hi => by omega, rfl⟩
  case round =>
    obtain ⟨k, c, rfl, hk, hp, rfl⟩ := hrel
    have HP : Hid (∀ i, i < k → X[i]? = X'[i]?) := hp
    clear hp
    by_cases hlt : k < n
    · have k1 : k < X.length := by rw [HX.out.1]; exact hlt
      have k2 : k < X'.length := by rw [HX.out.2]; exact hlt
      obtain ⟨b1, o1, rfl, hc1⟩ := HhL.out.1.plain (intsV_get (k := .u64) k1)
      obtain ⟨b2, o2, rfl, hc2⟩ := HhL.out.2.plain (intsV_get (k := .u64) k2)
      have hcx := hc1 k _ (intsV_get (k := .u64) k1)
      have hcy := hc2 k _ (intsV_get (k := .u64) k2)
      obtain ⟨x, hx⟩ : ∃ x, X[k] = x := ⟨_, rfl⟩
      obtain ⟨y, hy⟩ : ∃ y, X'[k] = y := ⟨_, rfl⟩
      rw [hx] at hcx
      rw [hy] at hcy
      have l1 := World.block_lt_of_cell? w _ hcx
      have l2 := World.block_lt_of_cell? w _ hcy
      have HK : Hid (X[k]? = some x ∧ X'[k]? = some y) := ⟨by rw [List.getElem?_eq_getElem k1, hx], by rw [List.getElem?_eq_getElem k2, hy]⟩
      have i1 : (k : Int) < (n : Int) := by omega
      clear k1 k2 hc1 hc2 hx hy HhL HhA HhE
      by_cases hxy : x = y
      · subst hxy

        go_wp2
        go_quiet (fail)
        go_wp2
        go_roundw
        case rel => exact ⟨k + 1, _, by go_num, by omega, fun i hi => (by
          by_cases e : i = k
          · subst e; rw [HK.out.1, HK.out.2]
          · exact HP.out i (by omega)), rfl⟩
        case measure => simp [intOf]; omega
      · have FIN : Hid (R = false) := by
          show R = false
          cases hRR : R with
          | false => rfl
          | true =>
            have e := HR.out.1 hRR
            have h1 := HK.out.1
            rw [e.1, HK.out.2] at h1
            injection h1 with h1
            exact absurd h1.symm hxy
        have hne : (x == y) = false := by simpa using hxy
        have hne2 : (x != y) = true := by simpa using hxy
        clear hxy
        go_wp2
        go_quiet (fail)
        go_wp2
        go_ret
        exact ⟨ret_bool FIN.out.symm, by first | exact below_drewN B2 _ | exact below_drewN (below_drewN B2 _) _⟩
    · have EX : Hid (X = X') := list_eq_of HX.out.1 HX.out.2 (fun i hi => HP.out i (by omega))
      have inn : ¬ (k : Int) < (n : Int) := by omega
      clear hlt HP
      go_wp2
      go_loopw [6] (fun a wr => ∃ (k c : Nat), a = .int .i64 k ∧ k ≤ m ∧ (∀ i, i < k → A[i]? = A'[i]?) ∧ wr = ((w.alloc (.cells #[.int .u64 hi, .int .u64 lo, .int .u64 id, .int .u64 par, .slice la n lc, .string svc, .string op, .int .i64 kd, .int .i64 st, .int .i64 s0, .int .i64 f0, .slice aa m ac, .slice ea l ec] 41)).alloc (.cells #[.int .u64 hi, .int .u64 lo, .int .u64 id, .int .u64 par, .slice la' n lc', .string svc, .string op, .int .i64 kd, .int .i64 st, .int .i64 s0, .int .i64 f0, .slice aa' m ac', .slice ea' l ec'] 41)).drewN c) (fun a _ => m - (intOf a).toNat)
      case atStart => exact ⟨0, _, rfl, by omega, fun i hi => by omega, rfl⟩
      case round =>
        obtain ⟨k, c, rfl, hk, hp, rfl⟩ := hrel
        have HP : Hid (∀ i, i < k → A[i]? = A'[i]?) := hp
        clear hp
        by_cases hlt : k < m
        · have k1 : k < A.length := by rw [HA.out.1]; exact hlt
          have k2 : k < A'.length := by rw [HA.out.2]; exact hlt
          obtain ⟨b1, o1, rfl, hc1⟩ := HhA.out.1.lies (by omega)
          obtain ⟨b2, o2, rfl, hc2⟩ := HhA.out.2.lies (by omega)
          have ck := hc1 k k1
          have dk := hc2 k k2
          obtain ⟨x, hx⟩ : ∃ x, A[k] = x := ⟨_, rfl⟩
          obtain ⟨y, hy⟩ : ∃ y, A'[k] = y := ⟨_, rfl⟩
          rw [hx] at ck
          rw [hy] at dk
          obtain ⟨c0, c1, c2, c3⟩ := ck
          obtain ⟨d0, d1, d2, d3⟩ := dk
          have l1 := World.block_lt_of_cell? w _ c0
          have l2 := World.block_lt_of_cell? w _ d0
          have HK : Hid (A[k]? = some x ∧ A'[k]? = some y) := ⟨by rw [List.getElem?_eq_getElem k1, hx], by rw [List.getElem?_eq_getElem k2, hy]⟩
          have i1 : (k : Int) < (m : Int) := by omega
          clear k1 k2 hc1 hc2 hx hy HhL HhA HhE
          by_cases hxy : x = y
          · subst hxy
            have NQ : ∀ W, (binOp .neq 56 (.agg #[.string x.key, .int .i64 x.kind, .string x.text, .int .i64 x.num]) (.agg #[.string x.key, .int .i64 x.kind, .string x.text, .int .i64 x.num])).run Tryz.prog W = .ok (.bool false) W := fun W => by rw [run_neq_of (eqI_attr 9997 x x W), decide_eq_true ⟨rfl, rfl, rfl, rfl⟩]; rfl
            go_wp2
            go_quiet (fail)
            go_wp2
            go_roundw
            case rel => exact ⟨k + 1, _, by go_num, by omega, fun i hi => (by
              by_cases e : i = k
              · subst e; rw [HK.out.1, HK.out.2]
              · exact HP.out i (by omega)), rfl⟩
            case measure => simp [intOf]; omega
          · have FIN : Hid (R = false) := by
              show R = false
              cases hRR : R with
              | false => rfl
              | true =>
                have e := HR.out.1 hRR
                have h1 := HK.out.1
                rw [e.2.1, HK.out.2] at h1
                injection h1 with h1
                exact absurd h1.symm hxy
            have NQ : ∀ W, (binOp .neq 56 (.agg #[.string x.key, .int .i64 x.kind, .string x.text, .int .i64 x.num]) (.agg #[.string y.key, .int .i64 y.kind, .string y.text, .int .i64 y.num])).run Tryz.prog W = .ok (.bool true) W := fun W => by rw [run_neq_of (eqI_attr 9997 x y W), attr_ne hxy]; rfl
            clear hxy
            go_wp2
            go_quiet (fail)
            go_wp2
            go_ret
            exact ⟨ret_bool FIN.out.symm, by first | exact below_drewN B2 _ | exact below_drewN (below_drewN B2 _) _⟩
        · have EA : Hid (A = A') := list_eq_of HA.out.1 HA.out.2 (fun i hi => HP.out i (by omega))
          have imm : ¬ (k : Int) < (m : Int) := by omega
          clear hlt HP
          go_wp2
          go_loopw [7] (fun a wr => ∃ (k c : Nat), a = .int .i64 k ∧ k ≤ l ∧ (∀ i, i < k → E[i]? = E'[i]?) ∧ wr = ((w.alloc (.cells #[.int .u64 hi, .int .u64 lo, .int .u64 id, .int .u64 par, .slice la n lc, .string svc, .string op, .int .i64 kd, .int .i64 st, .int .i64 s0, .int .i64 f0, .slice aa m ac, .slice ea l ec] 41)).alloc (.cells #[.int .u64 hi, .int .u64 lo, .int .u64 id, .int .u64 par, .slice la' n lc', .string svc, .string op, .int .i64 kd, .int .i64 st, .int .i64 s0, .int .i64 f0, .slice aa' m ac', .slice ea' l ec'] 41)).drewN c) (fun a _ => l - (intOf a).toNat)
          case atStart => exact ⟨0, _, rfl, by omega, fun i hi => by omega, rfl⟩
          case round =>
            obtain ⟨k, c, rfl, hk, hp, rfl⟩ := hrel
            have HP : Hid (∀ i, i < k → E[i]? = E'[i]?) := hp
            clear hp
            by_cases hlt : k < l
            · have k1 : k < E.length := by rw [HE.out.1]; exact hlt
              have k2 : k < E'.length := by rw [HE.out.2]; exact hlt
              obtain ⟨b1, o1, rfl, hc1⟩ := HhE.out.1.lies (by omega)
              obtain ⟨b2, o2, rfl, hc2⟩ := HhE.out.2.lies (by omega)
              have ck := hc1 k k1
              have dk := hc2 k k2
              obtain ⟨x, hx⟩ : ∃ x, E[k] = x := ⟨_, rfl⟩
              obtain ⟨y, hy⟩ : ∃ y, E'[k] = y := ⟨_, rfl⟩
              rw [hx] at ck
              rw [hy] at dk
              obtain ⟨c0, c1⟩ := ck
              obtain ⟨d0, d1⟩ := dk
              have l1 := World.block_lt_of_cell? w _ c0
              have l2 := World.block_lt_of_cell? w _ d0
              have HK : Hid (E[k]? = some x ∧ E'[k]? = some y) := ⟨by rw [List.getElem?_eq_getElem k1, hx], by rw [List.getElem?_eq_getElem k2, hy]⟩
              have i1 : (k : Int) < (l : Int) := by omega
              clear k1 k2 hc1 hc2 hx hy HhL HhA HhE
              by_cases hxy : x = y
              · subst hxy
                have NQ : ∀ W, (binOp .neq 58 (.agg #[.int .i64 x.moment, .string x.name]) (.agg #[.int .i64 x.moment, .string x.name])).run Tryz.prog W = .ok (.bool false) W := fun W => by rw [run_neq_of (eqI_event 9998 x.moment x.moment x.name x.name W), decide_eq_true ⟨rfl, rfl⟩]; rfl
                go_wp2
                go_quiet (fail)
                go_wp2
                go_roundw
                case rel => exact ⟨k + 1, _, by go_num, by omega, fun i hi => (by
                  by_cases e : i = k
                  · subst e; rw [HK.out.1, HK.out.2]
                  · exact HP.out i (by omega)), rfl⟩
                case measure => simp [intOf]; omega
              · have FIN : Hid (R = false) := by
                  show R = false
                  cases hRR : R with
                  | false => rfl
                  | true =>
                    have e := HR.out.1 hRR
                    have h1 := HK.out.1
                    rw [e.2.2, HK.out.2] at h1
                    injection h1 with h1
                    exact absurd h1.symm hxy
                have NQ : ∀ W, (binOp .neq 58 (.agg #[.int .i64 x.moment, .string x.name]) (.agg #[.int .i64 y.moment, .string y.name])).run Tryz.prog W = .ok (.bool true) W := fun W => by rw [run_neq_of (eqI_event 9998 x.moment y.moment x.name y.name W), event_ne hxy]; rfl
                clear hxy
                go_wp2
                go_quiet (fail)
                go_wp2
                go_ret
                exact ⟨ret_bool FIN.out.symm, by first | exact below_drewN B2 _ | exact below_drewN (below_drewN B2 _) _⟩
            · have EE : Hid (E = E') := list_eq_of HE.out.1 HE.out.2 (fun i hi => HP.out i (by omega))
              have ill : ¬ (k : Int) < (l : Int) := by omega
              clear hlt HP
              go_wp2
              go_ret
              have FIN : R = true := HR.out.2 ⟨EX.out, EA.out, EE.out⟩
              exact ⟨ret_bool FIN.symm, below_drewN B2 _⟩
end Go.Proofs.YthcghpbkadlliabGreatDoor
