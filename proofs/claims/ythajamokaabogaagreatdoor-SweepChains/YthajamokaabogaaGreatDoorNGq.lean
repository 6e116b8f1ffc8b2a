/-
  Merged: NG, NH, NI, NJ, NL.
-/
import Derived.Test.YthajamokaabogaaGreatDoorICq
import Derived.Test.YthajamokaabogaaGreatDoorPF
import Derived.Test.YthajamokaabogaaGreatDoorPIq
import Derived.Test.YthajamokaabogaaGreatDoorKCq
namespace Go.Proofs.YthajamokaabogaaGreatDoor
open Go Go.RowKit
set_option maxRecDepth 100000

/-- A leg's cells, by its owner's ID. -/
def lgX (fin : Nat → Nod) (l : Nat × Int × Int) : List Value := [.int .u64 (fin l.1).id, .int .i64 l.2.1, .int .i64 l.2.2]
/-- What the reference's back stands on. -/
structure REnv (base g : Nat) (W0 : World) (fin : Nat → Nod) (C : Nat → List Nat) (n : Nat) : Prop where
  last : ∀ V, Upd (fun k => base ≤ k) W0 V → ∀ s, s < n → ∀ t : Int, Calls Tryz.prog 87 #[.pointer (some ⟨g, 0, none⟩), .int .u64 (fin s).id, .int .i64 t] V fun e w' => ∃ d en b, e = .returned (.tuple #[ndV d, .int .i64 en, .bool b]) ∧ ((b = true ∧ ∃ c, awaitM fin t (C s) = some c ∧ d = fin c ∧ en = untM (fin c) t) ∨ (b = false ∧ awaitM fin t (C s) = none)) ∧ Below V.heap.size V w'
  lt : ∀ s, s < n → ∀ c ∈ C s, c < n
  low : base ≤ W0.heap.size
/-- One leg more behind a row. -/
theorem wpList_appG {ops : Array Oper} {rest : List Oper} {o : Oper} {a : Act} {Q : Exit → Act → World → Prop} (fin : Nat → Nod) (wr : World) (hgd : o.guard = none) (s x : Operand)
    (ho : o.op = .call { callee := .builtin .append, args := #[s, x], argTypes := #[33, 33] })
    (base : Nat) (v : Value) (n : Nat) (M : List (Nat × Int × Int)) (l : Nat × Int × Int) (hv : a.eval s = v) (hown : wr.ownsRow base 40 3 v n (M.flatMap (lgX fin))) (b : Nat) (hbw : b = wr.heap.size) (hx : a.eval x = .slice (some ⟨b, 0, none⟩) 1 1) (hn : n ≤ 1000000) (hbase : base ≤ wr.heap.size)
    (h : ∀ va vc w', w'.ownsRow base 40 3 (.slice va (n + 1) vc) (n + 1) ((M ++ [l]).flatMap (lgX fin)) → Upd (fun q => v.ownBlock = some q) wr w' → (∀ q, (Value.slice va (n + 1) vc).ownBlock = some q → v.ownBlock = some q ∨ wr.heap.size ≤ q) → wpList Tryz.prog ops Q rest (a.put o.dst (.slice va (n + 1) vc)) w') : wpList Tryz.prog ops Q (o :: rest) a (wr.alloc (.cells (lgX fin l).toArray 40)) := by
  subst hbw
  obtain ⟨i0, hi0, hz0, hz1, hz2⟩ := infoLeg_parts
  have hB := Blk.new wr (lgX fin l).toArray 40
  have hown' : (wr.alloc (.cells (lgX fin l).toArray 40)).ownsRow base 40 3 v n (M.flatMap (lgX fin)) := ownsRow_upd hown ((Upd.refl (fun _ => False) wr).alloc _) (fun _ _ h => h)
  have hS : Src Tryz.prog 3 33 (.slice (some ⟨wr.heap.size, 0, none⟩) 1 1) 1 (lgX fin l) (wr.alloc (.cells (lgX fin l).toArray 40)) := by
    refine Src.ofSlice _ Tryz.underlying33 _ 1 1 _ rfl (fun j u hj => ?_) (fun u hu => by unfold lgX at hu; simp at hu; rcases hu with rfl | rfl | rfl <;> rfl)
    rw [Addr.add_lit, Nat.zero_add]
    exact hB.cell j (by rw [List.getElem?_toArray]; exact hj)
  refine wpList_appW _ hgd s x 33 33 ho base 40 i0 _ 3 24 Tryz.underlying33 hi0 hz0 hz1 hz2 rfl v n _ hv hown' _ 1 _ hx hS (by unfold maxLen; omega) (by omega) (by simp; omega) ?_
  intro v1 w1 o1 g1 m1
  have e : M.flatMap (lgX fin) ++ lgX fin l = (M ++ [l]).flatMap (lgX fin) := by simp
  rw [e] at o1
  obtain ⟨va, vc, rfl⟩ := owns_sliceS o1
  refine h va vc w1 o1 (((Upd.refl _ wr).alloc _).grown g1 (fun k _ e => e)) (fun q e => ?_)
  rcases m1 with hm | ⟨k, hk, hs⟩
  · rw [hm] at e; exact Or.inl e
  · rw [hk] at e; cases e; rw [World.size_alloc] at hs; exact Or.inr (by omega)
/-- The row of legs, and what was written for it since W. -/
structure RbO (base : Nat) (W : World) (fin : Nat → Nod) (v0 : Value) (M : List (Nat × Int × Int)) (va : Option Addr) (vl vc : Nat) (wr : World) : Prop where
  len : M.length = vl
  own : wr.ownsRow base 40 3 (.slice va vl vc) vl (M.flatMap (lgX fin))
  upd : Upd (fun k => v0.ownBlock = some k) W wr
  mv : ∀ q, (Value.slice va vl vc).ownBlock = some q → v0.ownBlock = some q ∨ W.heap.size ≤ q
theorem RbO.below {base : Nat} {W : World} {fin : Nat → Nod} {v0 : Value} {M : List (Nat × Int × Int)} {va : Option Addr} {vl vc : Nat} {wr w' : World} (h : RbO base W fin v0 M va vl vc wr) (hb : Below wr.heap.size wr w') : RbO base W fin v0 M va vl vc w' :=
  ⟨h.len, ownsRow_upd h.own (Upd.ofBelow (S := fun _ => False) hb (fun k h1 h2 => by omega)) (fun _ _ h => h), h.upd.trans (Upd.ofBelow (S := fun _ => False) hb (fun k h1 h2 => by omega)) (fun _ _ h => h.elim), h.mv⟩
theorem RbO.next {base : Nat} {W : World} {fin : Nat → Nod} {v0 : Value} {M M' : List (Nat × Int × Int)} {va va' : Option Addr} {vl vc vl' vc' : Nat} {wr w' : World} (h : RbO base W fin v0 M va vl vc wr) (h' : RbO base wr fin (.slice va vl vc) M' va' vl' vc' w') : RbO base W fin v0 M' va' vl' vc' w' := by
  have hs := h.upd.size
  refine ⟨h'.len, h'.own, h.upd.trans h'.upd (fun k hk e => ?_), fun q e => ?_⟩
  · rcases h.mv k e with e' | e'
    · exact e'
    · omega
  · rcases h'.mv q e with e' | e'
    · exact h.mv q e'
    · exact Or.inr (by omega)
/-- Midway in the reference's back. -/
def RbI (base : Nat) (W : World) (fin : Nat → Nod) (C : Nat → List Nat) (v0 : Value) (M : List (Nat × Int × Int)) (fu s : Nat) (t0 t : Int) (va : Option Addr) (vl vc : Nat) (wr : World) : Prop := ∃ N, RbO base W fin v0 (M ++ N) va vl vc wr ∧ (∀ N', PathR fin C s t N' → PathR fin C s t0 (N ++ N')) ∧ N.length + potN fin (fun c => 2 * szN C fu c) t (C s) + 2 ≤ 2 * szN C (fu + 1) s ∧ Blk wr W.heap.size (ndL (fin s)).toArray 73
/-- What the reference's back tells. -/
def RbP (base : Nat) (W : World) (fin : Nat → Nod) (C : Nat → List Nat) (v0 : Value) (M : List (Nat × Int × Int)) (fuel s : Nat) (t : Int) (e : Ending) (W' : World) : Prop := ∃ va vl vc N, e = .returned (.slice va vl vc) ∧ RbO base W fin v0 (M ++ N) va vl vc W' ∧ PathR fin C s t N ∧ N.length + 1 ≤ 2 * szN C fuel s
set_option maxHeartbeats 8000000 in
theorem rBack_any (base g : Nat) (W0 : World) (fin : Nat → Nod) (C : Nat → List Nat) (n : Nat) (E : REnv base g W0 fin C n) : ∀ (fuel : Nat) (W : World) (s : Nat) (t : Int) (va : Option Addr) (vl vc : Nat) (M : List (Nat × Int × Int)), DeepN C fuel [s] → s < n → M.length = vl → W.ownsRow base 40 3 (.slice va vl vc) vl (M.flatMap (lgX fin)) → M.length + 2 * szN C fuel s ≤ 4000 → Upd (fun k => base ≤ k) W0 W →
    Calls Tryz.prog 55 #[.pointer (some ⟨g, 0, none⟩), ndV (fin s), .int .i64 t, .slice va vl vc] W (RbP base W fin C (.slice va vl vc) M fuel s t) := by
  intro fuel
  induction fuel with
  | zero =>
    intro W s t va vl vc M hD
    exact absurd (show [s] = [] from hD) (by simp)
  | succ fu ih =>
    intro W s t va vl vc M hD hs hM hO hlen hU
    have hDk : DeepN C fu (C s) := hD s (by simp)
    have HE : Hid (REnv base g W0 fin C n) := E
    have HIH : Hid (∀ (W : World) (s : Nat) (t : Int) (va : Option Addr) (vl vc : Nat) (M : List (Nat × Int × Int)), DeepN C fu [s] → s < n → M.length = vl → W.ownsRow base 40 3 (.slice va vl vc) vl (M.flatMap (lgX fin)) → M.length + 2 * szN C fu s ≤ 4000 → Upd (fun k => base ≤ k) W0 W →
      Calls Tryz.prog 55 #[.pointer (some ⟨g, 0, none⟩), ndV (fin s), .int .i64 t, .slice va vl vc] W (RbP base W fin C (.slice va vl vc) M fu s t)) := ih
    have hlow : base ≤ W.heap.size := Nat.le_trans E.low hU.size
    have HM : Hid (s < n ∧ DeepN C fu (C s) ∧ M.length + 2 * szN C (fu + 1) s ≤ 4000 ∧ base ≤ W.heap.size ∧ ∀ V, Upd (fun k => (Value.slice va vl vc).ownBlock = some k) W V → Upd (fun k => base ≤ k) W0 V) := ⟨hs, hDk, hlen, hlow, fun V hu => hU.trans hu (fun k _ e => (owns_lt hO e).1)⟩
    have HST : Hid (RbI base W fin C (.slice va vl vc) M fu s t t va vl vc (W.alloc (.cells #[.int .u64 (fin s).id, .int .u64 (fin s).par, .int .i64 (fin s).org, .int .u64 (fin s).tree, .int .i64 (fin s).dep, .int .i64 (fin s).fr, .int .i64 (fin s).til] 73))) := by
      refine ⟨[], ⟨by simpa using hM, ?_, (Upd.refl _ _).alloc _, fun q e => Or.inl e⟩, fun N' hN' => hN', ?_, Blk.new W (ndL (fin s)).toArray 73⟩
      · rw [List.append_nil]
        exact ownsRow_upd hO ((Upd.refl (fun _ => False) W).alloc _) (fun _ _ h => h)
      · have h1 := potN_le fin (fun c => 2 * szN C fu c) t (C s)
        rw [sum_two] at h1
        have h2 : szN C (fu + 1) s = 1 + ((C s).map (szN C fu)).sum := rfl
        simp only [List.length_nil]
        omega
    obtain ⟨V1, hV1⟩ : ∃ X, W.alloc (.cells #[.int .u64 (fin s).id, .int .u64 (fin s).par, .int .i64 (fin s).org, .int .u64 (fin s).tree, .int .i64 (fin s).dep, .int .i64 (fin s).fr, .int .i64 (fin s).til] 73) = X := ⟨_, rfl⟩
    rw [hV1] at HST
    clear ih hD hs hM hO hlen hU hDk E hlow
    unfold ndV
    go_enter Tryz.func55, Tryz.ntmps55
    go_wp2
    go_loopw [2, 3] (fun z2 z3 wr => ∃ (tt : Int) (va1 : Option Addr) (vl1 vc1 : Nat), z2 = .int .i64 tt ∧ z3 = .slice va1 vl1 vc1 ∧ Hid (RbI base W fin C (.slice va vl vc) M fu s t tt va1 vl1 vc1 wr)) (fun z2 _ _ => potN fin (fun c => 2 * szN C fu c) (intOf z2) (C s))
    case atStart => exact ⟨t, va, vl, vc, rfl, rfl, HST⟩
    case round =>
      clear HST
      obtain ⟨tt, va1, vl1, vc1, rfl, rfl, HR⟩ := hrel
      obtain ⟨N, hO, hP, hpot, hnb⟩ := HR.out
      have n5 : wr.cell? ⟨W.heap.size, 5, none⟩ = some (.int .i64 (fin s).fr) := hnb.cell 5 rfl
      have n0 : wr.cell? ⟨W.heap.size, 0, none⟩ = some (.int .u64 (fin s).id) := hnb.cell 0 rfl
      by_cases hgt : (fin s).fr < tt
      · have d1 : decide ((fin s).fr < tt) = true := decide_eq_true hgt
        have hsw := hO.upd.size
        have hUr := HM.out.2.2.2.2 wr hO.upd
        have LA := HE.out.last wr hUr s HM.out.1 tt
        have HO : Hid (RbO base W fin (.slice va vl vc) (M ++ N) va1 vl1 vc1 wr) := hO
        have HNB : Hid (∀ V, Below wr.heap.size wr V → V.cell? ⟨W.heap.size, 0, none⟩ = some (.int .u64 (fin s).id) ∧ V.cell? ⟨W.heap.size, 5, none⟩ = some (.int .i64 (fin s).fr) ∧ Blk V W.heap.size (ndL (fin s)).toArray 73) := fun V hb => ⟨(hnb.below hb hnb.lt).cell 0 rfl, (hnb.below hb hnb.lt).cell 5 rfl, hnb.below hb hnb.lt⟩
        cases hA : awaitM fin tt (C s) with
        | none =>
          have LA' : Calls Tryz.prog 87 #[.pointer (some ⟨g, 0, none⟩), .int .u64 (fin s).id, .int .i64 tt] wr fun e w' => ∃ d en, e = .returned (.tuple #[ndV d, .int .i64 en, .bool false]) ∧ Below wr.heap.size wr w' := by
            refine LA.mono ?_
            rintro e w' ⟨d, en, b, rfl, hor, hb⟩
            rcases hor with ⟨_, c, hc, _⟩ | ⟨rfl, _⟩
            · rw [hA] at hc; cases hc
            · exact ⟨d, en, rfl, hb⟩
          have HFN : Hid (∀ va9 vc9 V w9, Below wr.heap.size wr V → w9.ownsRow base 40 3 (.slice va9 (vl1 + 1) vc9) (vl1 + 1) (((M ++ N) ++ [(s, (fin s).fr, tt)]).flatMap (lgX fin)) → Upd (fun q => (Value.slice va1 vl1 vc1).ownBlock = some q) V w9 → (∀ q, (Value.slice va9 (vl1 + 1) vc9).ownBlock = some q → (Value.slice va1 vl1 vc1).ownBlock = some q ∨ V.heap.size ≤ q) → RbP base W fin C (.slice va vl vc) M (fu + 1) s t (.returned (.slice va9 (vl1 + 1) vc9)) w9) := fun va9 vc9 V w9 hb h1 h2 h3 => by
            refine ⟨va9, vl1 + 1, vc9, N ++ [(s, (fin s).fr, tt)], rfl, (hO.below hb).next ⟨by rw [← List.append_assoc, List.length_append, hO.len]; rfl, by rw [← List.append_assoc]; exact h1, h2, h3⟩, hP _ (PathR.own hgt hA), ?_⟩
            rw [List.length_append]
            simp only [List.length_cons, List.length_nil]
            omega
          have HLL : Hid (vl1 ≤ 1000000 ∧ base ≤ wr.heap.size) := by
            have h1 := hO.len
            have h2 := HM.out.2.2.1
            have h3 := HM.out.2.2.2.1
            rw [List.length_append] at h1
            exact ⟨by omega, by omega⟩
          clear LA hO hP hpot hnb hUr hA HR hsw
          unfold ndV at LA'
          go_upto_region 4 with (go_at_call 87; refine LA'.mono ?_; clear LA'; rintro e w1 ⟨d, en, rfl, hb1⟩; have HB1 : Hid (∀ o, Below wr.heap.size wr (w1.alloc o)) := fun o => hb1.alloc hb1.size o; clear hb1)
          obtain ⟨V, hV⟩ : ∃ X, w1.alloc (.cells #[.int .u64 d.id, .int .u64 d.par, .int .i64 d.org, .int .u64 d.tree, .int .i64 d.dep, .int .i64 d.fr, .int .i64 d.til] 73) = X := ⟨_, rfl⟩
          have HBV : Hid (Below wr.heap.size wr V) := by rw [← hV]; exact HB1.out _
          obtain ⟨v0, v5, _⟩ := HNB.out V HBV.out
          rw [hV]
          clear hV HB1 n0 n5
          go_wp2_with (at_builtin; refine wpList_appG fin V rfl _ _ rfl base (.slice va1 vl1 vc1) vl1 (M ++ N) (s, (fin s).fr, tt) rfl (HO.out.below HBV.out).own V.heap.size rfl rfl HLL.out.1 (Nat.le_trans HLL.out.2 HBV.out.size) ?_; intro va9 vc9 w9 o9 u9 m9; have FN : Hid (RbP base W fin C (.slice va vl vc) M (fu + 1) s t (.returned (.slice va9 (vl1 + 1) vc9)) w9) := HFN.out va9 vc9 V w9 HBV.out o9 u9 m9; clear o9 u9 m9)
          go_ret
          exact FN.out
        | some c =>
          obtain ⟨a1, a2, _⟩ := awaitM_some hA
          have hcn := HE.out.lt s HM.out.1 c a1
          have hDk := HM.out.2.1
          have hz1 := szN_pos hDk a1
          have hpl := potN_less fin (fun c => 2 * szN C fu c) tt c a2 (C s) a1
          have hpl : potN fin (fun c => 2 * szN C fu c) (fin c).fr (C s) + 2 * szN C fu c ≤ potN fin (fun c => 2 * szN C fu c) tt (C s) := hpl
          obtain ⟨en, hen⟩ : ∃ en, untM (fin c) tt = en := ⟨_, rfl⟩
          have LA' : Calls Tryz.prog 87 #[.pointer (some ⟨g, 0, none⟩), .int .u64 (fin s).id, .int .i64 tt] wr fun e w' => e = .returned (.tuple #[ndV (fin c), .int .i64 en, .bool true]) ∧ Below wr.heap.size wr w' := by
            refine LA.mono ?_
            rintro e w' ⟨d, en', b, rfl, hor, hb⟩
            rcases hor with ⟨rfl, c', hc, rfl, rfl⟩ | ⟨_, hc⟩
            · rw [hA] at hc
              injection hc with hc
              subst hc
              rw [hen]
              exact ⟨rfl, hb⟩
            · rw [hA] at hc; cases hc
          have hge : (hangM s en tt).length ≤ 1 := by
            unfold hangM
            by_cases e : en < tt
            · rw [if_pos e]; simp
            · rw [if_neg e]; simp
          have hlM := HM.out.2.2.1
          have hlN := hO.len
          rw [List.length_append] at hlN
          have HBK : Hid (∀ w9 va9 vl9 vc9 cb, RbO base W fin (.slice va vl vc) (M ++ N ++ hangM s en tt) va9 vl9 vc9 w9 → Blk w9 W.heap.size (ndL (fin s)).toArray 73 → Blk w9 cb (ndL (fin c)).toArray 73 → Calls Tryz.prog 55 #[.pointer (some ⟨g, 0, none⟩), ndV (fin c), .int .i64 en, .slice va9 vl9 vc9] w9 fun e w10 => ∃ va10 vl10 vc10, e = .returned (.slice va10 vl10 vc10) ∧ w10.cell? ⟨cb, 5, none⟩ = some (.int .i64 (fin c).fr) ∧ RbI base W fin C (.slice va vl vc) M fu s t (fin c).fr va10 vl10 vc10 w10) := fun w9 va9 vl9 vc9 cb h9 hn9 hc9 => by
            refine (HIH.out w9 c en va9 vl9 vc9 _ (hDk.one a1) hcn h9.len h9.own (by simp only [List.length_append]; omega) (HM.out.2.2.2.2 w9 h9.upd)).mono ?_
            rintro e w10 ⟨va10, vl10, vc10, N2, rfl, h10, hp10, hl10⟩
            refine ⟨va10, vl10, vc10, rfl, (hc9.upd h10.upd (fun e => row_type h9.own hc9 (by decide) e)).cell 5 rfl, N ++ hangM s en tt ++ N2, ?_, fun N' hN' => ?_, ?_, hn9.upd h10.upd (fun e => row_type h9.own hn9 (by decide) e)⟩
            · have := h9.next h10
              simp only [List.append_assoc] at this ⊢
              exact this
            · rw [← hen] at hp10
              have := hP _ (PathR.via hgt hA hp10 hN')
              rw [hen] at this
              simp only [List.append_assoc] at this ⊢
              exact this
            · simp only [List.length_append]
              omega
          have HME : Hid (potN fin (fun c => 2 * szN C fu c) (fin c).fr (C s) < potN fin (fun c => 2 * szN C fu c) tt (C s)) := by
            have h : potN fin (fun c => 2 * szN C fu c) (fin c).fr (C s) < potN fin (fun c => 2 * szN C fu c) tt (C s) := by omega
            exact h
          have HLL : Hid (vl1 ≤ 1000000 ∧ base ≤ wr.heap.size) := ⟨by omega, by have := HM.out.2.2.2.1; omega⟩
          clear LA hO hP hpot hnb hUr hA HR hsw hen hge hlM hlN hpl hz1 hDk hcn a1 a2
          unfold ndV at LA' HBK
          go_upto_region 5 with (go_at_call 87; refine LA'.mono ?_; clear LA'; rintro e w1 ⟨rfl, hb1⟩; have HB1 : Hid (Below wr.heap.size wr w1) := hb1; clear hb1)
          obtain ⟨V, hV⟩ : ∃ X, w1.alloc (.cells #[.int .u64 (fin c).id, .int .u64 (fin c).par, .int .i64 (fin c).org, .int .u64 (fin c).tree, .int .i64 (fin c).dep, .int .i64 (fin c).fr, .int .i64 (fin c).til] 73) = X := ⟨_, rfl⟩
          have HBV : Hid (Below wr.heap.size wr V) := by rw [← hV]; exact HB1.out.alloc HB1.out.size _
          have HCB : Hid (Blk V w1.heap.size (ndL (fin c)).toArray 73) := by rw [← hV]; exact Blk.new _ _ _
          obtain ⟨v0, v5, vnb⟩ := HNB.out V HBV.out
          have HVN : Hid (Blk V W.heap.size (ndL (fin s)).toArray 73) := vnb
          obtain ⟨cb, hcb⟩ : ∃ x, w1.heap.size = x := ⟨_, rfl⟩
          rw [hcb] at HCB ⊢
          rw [hV]
          clear hV HB1 n0 n5 vnb hcb HNB
          by_cases hlt : en < tt
          · have d2 : decide (en < tt) = true := decide_eq_true hlt
            have HN9 : Hid (∀ va9 vc9 w9, w9.ownsRow base 40 3 (.slice va9 (vl1 + 1) vc9) (vl1 + 1) (((M ++ N) ++ [(s, en, tt)]).flatMap (lgX fin)) → Upd (fun q => (Value.slice va1 vl1 vc1).ownBlock = some q) V w9 → (∀ q, (Value.slice va9 (vl1 + 1) vc9).ownBlock = some q → (Value.slice va1 vl1 vc1).ownBlock = some q ∨ V.heap.size ≤ q) → Blk w9 cb (ndL (fin c)).toArray 73 ∧ Calls Tryz.prog 55 #[.pointer (some ⟨g, 0, none⟩), .agg #[.int .u64 (fin c).id, .int .u64 (fin c).par, .int .i64 (fin c).org, .int .u64 (fin c).tree, .int .i64 (fin c).dep, .int .i64 (fin c).fr, .int .i64 (fin c).til], .int .i64 en, .slice va9 (vl1 + 1) vc9] w9 fun e w10 => ∃ va10 vl10 vc10, e = .returned (.slice va10 vl10 vc10) ∧ w10.cell? ⟨cb, 5, none⟩ = some (.int .i64 (fin c).fr) ∧ RbI base W fin C (.slice va vl vc) M fu s t (fin c).fr va10 vl10 vc10 w10) := fun va9 vc9 w9 o9 u9 m9 => by
              have hOV := HO.out.below HBV.out
              have hcb9 := HCB.out.upd u9 (fun e => row_type hOV.own HCB.out (by decide) e)
              refine ⟨hcb9, HBK.out w9 va9 (vl1 + 1) vc9 cb (hOV.next ⟨?_, ?_, u9, m9⟩) (HVN.out.upd u9 (fun e => row_type hOV.own HVN.out (by decide) e)) hcb9⟩
              · unfold hangM
                rw [if_pos hlt, List.length_append, HO.out.len]
                rfl
              · unfold hangM
                rw [if_pos hlt]
                exact o9
            clear HBK
            go_upto_region 7 with (at_builtin; refine wpList_appG fin V rfl _ _ rfl base (.slice va1 vl1 vc1) vl1 (M ++ N) (s, en, tt) rfl (HO.out.below HBV.out).own V.heap.size rfl rfl HLL.out.1 (Nat.le_trans HLL.out.2 HBV.out.size) ?_; intro va9 vc9 w9 o9 u9 m9; obtain ⟨hcb9, BK⟩ := HN9.out va9 vc9 w9 o9 u9 m9; have HC9 : Hid (w9.rangeAt cb 0 (ndL (fin c))) := rangeB hcb9; clear o9 u9 m9 hcb9 HN9)
            clear v0 v5
            go_wp2_with (first
              | (refine wpList_load_mid rfl 73 _ rfl cb 0 rfl (ndL (fin c)) _ HC9.out Tryz.underlying73 rfl (by kernel_rfl) ?_)
              | (go_at_call 55; refine BK.mono ?_; clear BK; rintro e w10 ⟨va10, vl10, vc10, rfl, c5, hR⟩; have HR : Hid (RbI base W fin C (.slice va vl vc) M fu s t (fin c).fr va10 vl10 vc10 w10) := hR; clear hR))
            go_roundw
            case rel => exact ⟨(fin c).fr, va10, vl10, vc10, rfl, rfl, HR⟩
            case measure => exact HME.out
          · have d2 : decide (en < tt) = false := decide_eq_false hlt
            have BK := HBK.out V va1 vl1 vc1 cb (by
              have e : hangM s en tt = [] := by unfold hangM; rw [if_neg hlt]
              rw [e, List.append_nil]
              exact HO.out.below HBV.out) HVN.out HCB.out
            have HC9 : Hid (V.rangeAt cb 0 (ndL (fin c))) := rangeB HCB.out
            clear HBK
            go_upto_region 7 with fail
            clear v0 v5
            go_wp2_with (first
              | (refine wpList_load_mid rfl 73 _ rfl cb 0 rfl (ndL (fin c)) _ HC9.out Tryz.underlying73 rfl (by kernel_rfl) ?_)
              | (go_at_call 55; refine BK.mono ?_; clear BK; rintro e w10 ⟨va10, vl10, vc10, rfl, c5, hR⟩; have HR : Hid (RbI base W fin C (.slice va vl vc) M fu s t (fin c).fr va10 vl10 vc10 w10) := hR; clear hR))
            go_roundw
            case rel => exact ⟨(fin c).fr, va10, vl10, vc10, rfl, rfl, HR⟩
            case measure => exact HME.out
      · have d1 : decide ((fin s).fr < tt) = false := decide_eq_false hgt
        have FN : Hid (RbP base W fin C (.slice va vl vc) M (fu + 1) s t (.returned (.slice va1 vl1 vc1)) wr) := ⟨va1, vl1, vc1, N, rfl, hO, by have := hP [] (PathR.stop (by omega)); rwa [List.append_nil] at this, by omega⟩
        clear hO hP hpot hnb HR
        go_wp2
        go_ret
        exact FN.out
end Go.Proofs.YthajamokaabogaaGreatDoor

namespace Go.Proofs.YthajamokaabogaaGreatDoor
open Go Go.RowKit
set_option maxRecDepth 100000

/-- Midway in the reference's path: the last j legs, turned around. -/
def RpI (W1 : World) (fin : Nat → Nod) (L : List (Nat × Int × Int)) (j : Nat) (va : Option Addr) (vc : Nat) (wr : World) : Prop := wr.ownsRow W1.heap.size 40 3 (.slice va j vc) j ((L.reverse.take j).flatMap (lgX fin)) ∧ Below W1.heap.size W1 wr
set_option maxHeartbeats 8000000 in
theorem rPath_any (base g : Nat) (W0 : World) (fin : Nat → Nod) (C : Nat → List Nat) (n : Nat) (E : REnv base g W0 fin C n) (fuel : Nat) (W : World) (s : Nat) (hD : DeepN C fuel [s]) (hs : s < n) (hlen : 2 * szN C fuel s ≤ 4000) (hU : Upd (fun k => base ≤ k) W0 W) (hadj : ∀ L, PathR fin C s (fin s).til L → ∀ k (h : k + 1 < L.reverse.length), (fin L.reverse[k].1).id ≠ (fin L.reverse[k + 1].1).id) :
    Calls Tryz.prog 27 #[.pointer (some ⟨g, 0, none⟩), ndV (fin s)] W fun e W' => ∃ va vl vc L, e = .returned (.slice va vl vc) ∧ L.length = vl ∧ PathR fin C s (fin s).til L ∧ W'.ownsRow W.heap.size 40 3 (.slice va vl vc) vl (L.reverse.flatMap (lgX fin)) ∧ vl + 1 ≤ 2 * szN C fuel s ∧ Below W.heap.size W W' := by
  have BK : Hid (∀ V, Upd (fun k => base ≤ k) W0 V → Calls Tryz.prog 55 #[.pointer (some ⟨g, 0, none⟩), ndV (fin s), .int .i64 (fin s).til, .slice none 0 0] V (RbP base V fin C (.slice none 0 0) [] fuel s (fin s).til)) := fun V hV => rBack_any base g W0 fin C n E fuel V s (fin s).til none 0 0 [] hD hs rfl (World.ownsRow_nil _ _ _ _) (by simpa using hlen) hV
  have B1 := BK.out _ (hU.alloc (.cells (ndL (fin s)).toArray 73))
  have HAD : Hid (∀ L, PathR fin C s (fin s).til L → ∀ k (h : k + 1 < L.reverse.length), (fin L.reverse[k].1).id ≠ (fin L.reverse[k + 1].1).id) := hadj
  clear BK hadj E hD hs hU
  unfold ndV at B1 ⊢
  go_enter Tryz.func27, Tryz.ntmps27
  go_wp2_with (go_at_call 55; refine B1.mono ?_; clear B1; rintro e w1 ⟨la, ll, lc, L, rfl, hO, hP, hl⟩)
  rw [List.nil_append] at hO
  have hll : ll ≤ 4000 := by have := hO.len; omega
  have hbw : Below W.heap.size W w1 := ((Below.refl W.heap.size W).alloc (Nat.le_refl _) _).trans (hO.upd.below (by simp) (fun k hk e => by simp [Value.ownBlock] at e))
  have HF : Hid (PathR fin C s (fin s).til L ∧ L.length = ll ∧ Below W.heap.size W w1) := ⟨hP, hO.len, hbw⟩
  have HZL : Hid (ll + 1 ≤ 2 * szN C fuel s) := (by have := hO.len; omega : ll + 1 ≤ 2 * szN C fuel s)
  have HC : Hid (∀ p (hp : p < L.length), ∃ lb, la = some ⟨lb, 0, none⟩ ∧ ∀ V, Below w1.heap.size w1 V → V.rangeAt lb (p * 3) (lgX fin L[p])) := fun p hp => by
    obtain ⟨lb, cap, e1, _, hr⟩ := RwG.of_owns hO.own hO.len (by have := hO.len; omega)
    injection e1 with e1 _ _
    exact ⟨lb, e1, fun V hb => (hr.below hb).range (fun _ => rfl) p hp⟩
  have HS0 : Hid (RpI w1 fin L 0 none 0 w1) := ⟨World.ownsRow_nil _ _ _ _, Below.refl _ _⟩
  have hw0 : wrap64 ((ll : Int) - 1) = (ll : Int) - 1 := by unfold wrap64; omega
  rw [hw0]
  clear hO hP hl hbw hlen hw0
  go_loopw [6, 7] (fun z6 z7 wr => ∃ (j : Nat) (va : Option Addr) (vc : Nat), z6 = .slice va j vc ∧ z7 = .int .i64 ((ll : Int) - 1 - (j : Int)) ∧ j ≤ ll ∧ Hid (RpI w1 fin L j va vc wr)) (fun _ z7 _ => (intOf z7 + 1).toNat)
  case atStart => exact ⟨0, none, 0, rfl, by simp, by omega, HS0⟩
  case round =>
    clear HS0
    obtain ⟨j, va, vc, rfl, rfl, hj, HR⟩ := hrel
    by_cases hlt : j < ll
    · obtain ⟨p, hp⟩ : ∃ p : Nat, (ll : Int) - 1 - (j : Int) = (p : Int) := ⟨ll - 1 - j, by omega⟩
      have hpL : p < L.length := by have := HF.out.2.1; omega
      have hjR : j < L.reverse.length := by rw [List.length_reverse]; have := HF.out.2.1; omega
      have eR : L.reverse[j] = L[p] := by
        rw [List.getElem_reverse]
        congr 1
        have := HF.out.2.1
        omega
      have HT : Hid (L.reverse.take (j + 1) = L.reverse.take j ++ [L[p]]) := by
        show _ = _
        rw [List.take_add_one, List.getElem?_eq_getElem hjR, eR]
        rfl
      obtain ⟨lb, rfl, hrg⟩ := HC.out p hpL
      have HPV : Hid (j ≠ 0 → ∃ ob, va = some ⟨ob, 0, none⟩ ∧ ∃ o : Int, o ≠ (fin L[p].1).id ∧ wr.cell? ⟨ob, (j - 1) * 3, none⟩ = some (.int .u64 o)) := fun h0 => by
        have hlen : (L.reverse.take j).length = j := by rw [List.length_take]; omega
        obtain ⟨ob, cap, e1, _, hr⟩ := RwG.of_owns HR.out.1 hlen (by omega)
        injection e1 with e1 _ _
        refine ⟨ob, e1, (fin L.reverse[j - 1].1).id, ?_, ?_⟩
        · have := HAD.out L HF.out.1 (j - 1) (by omega)
          have e2 : j - 1 + 1 = j := by omega
          simp only [e2] at this
          rw [eR] at this
          exact this
        · have := hr.cell (fun _ => rfl) (j - 1) (by omega) 0 (u := .int .u64 (fin L.reverse[j - 1].1).id) (by simp [lgX])
          rwa [Nat.add_zero] at this
      generalize L[p] = l at *
      have r0 : wr.cell? ⟨lb, p * 3, none⟩ = some (.int .u64 (fin l.1).id) := (hrg wr HR.out.2) 0 _ rfl
      have r1 : wr.cell? ⟨lb, p * 3 + 1, none⟩ = some (.int .i64 l.2.1) := (hrg wr HR.out.2) 1 _ rfl
      have r2 : wr.cell? ⟨lb, p * 3 + 2, none⟩ = some (.int .i64 l.2.2) := (hrg wr HR.out.2) 2 _ rfl
      have HRG : Hid (∀ k, (wr.drewN k).rangeAt lb (p * 3) (lgX fin l)) := fun k => hrg _ (below_drewN HR.out.2 k)
      have hp0 : ¬ (p : Int) < 0 := by omega
      have hpl : (p : Int) < (ll : Int) := by omega
      have HP : Hid ((ll : Int) - 1 - (j : Int) = (p : Int)) := hp
      rw [hp]
      clear hrg hp eR
      by_cases h0 : j = 0
      · subst h0
        go_upto_region 7 with fail
        go_quiet (fail)
        obtain ⟨V, hV⟩ : ∃ X, wr.drewN nq = X := ⟨_, rfl⟩
        have HBV : Hid (Below wr.heap.size wr V) := by rw [← hV]; exact below_drewN (Below.refl _ _) nq
        have HVG : Hid (V.rangeAt lb (p * 3) (lgX fin l)) := by rw [← hV]; exact HRG.out nq
        rw [hV]
        clear hV r0 r1 r2
        have s0 : V.cell? ⟨lb, p * 3, none⟩ = some (.int .u64 (fin l.1).id) := HVG.out 0 _ rfl
        have s1 : V.cell? ⟨lb, p * 3 + 1, none⟩ = some (.int .i64 l.2.1) := HVG.out 1 _ rfl
        have s2 : V.cell? ⟨lb, p * 3 + 2, none⟩ = some (.int .i64 l.2.2) := HVG.out 2 _ rfl
        have HOV : Hid (V.ownsRow w1.heap.size 40 3 (.slice va 0 vc) 0 ((L.reverse.take 0).flatMap (lgX fin)) ∧ Below w1.heap.size w1 V) := ⟨ownsRow_upd HR.out.1 (Upd.ofBelow (S := fun _ => False) HBV.out (fun k h1 h2 => by omega)) (fun _ _ h => h), HR.out.2.trans (HBV.out.mono HR.out.2.size)⟩
        go_wp2_with (at_builtin; refine wpList_appG fin V rfl _ _ rfl w1.heap.size (.slice va 0 vc) (0) (L.reverse.take (0)) l rfl HOV.out.1 V.heap.size rfl rfl (by omega) HOV.out.2.size ?_; intro va9 vc9 w9 o9 u9 m9; have F9 : Hid (RpI w1 fin L (0 + 1) va9 vc9 w9) := ⟨by rw [HT.out]; exact o9, HOV.out.2.trans (u9.below HOV.out.2.size (fun q hq e => by have := (owns_lt HR.out.1 e).1; omega))⟩; clear o9 u9 m9)
        go_roundw
        case rel => exact ⟨0 + 1, va9, vc9, rfl, by have := HP.out; go_num, by omega, F9⟩
        case measure => (simp [intOf])
      · obtain ⟨ob, rfl, o, hne, hc⟩ := HPV.out h0
        obtain ⟨j', rfl⟩ : ∃ j', j = j' + 1 := ⟨j - 1, by omega⟩
        rw [Nat.add_sub_cancel] at hc
        have de : (o == (fin l.1).id) = false := by simp [hne]
        have dj : decide ((0 : Int) < ((j' + 1 : Nat) : Int)) = true := decide_eq_true (by omega)
        have hsub : ((j' + 1 : Nat) : Int) - 1 = (j' : Int) := by omega
        have hj3 : (j' : Int) < ((j' + 1 : Nat) : Int) := by omega
        clear hne h0
        go_upto_region 7 with fail
        go_quiet (fail)
        obtain ⟨V, hV⟩ : ∃ X, wr.drewN nq = X := ⟨_, rfl⟩
        have HBV : Hid (Below wr.heap.size wr V) := by rw [← hV]; exact below_drewN (Below.refl _ _) nq
        have HVG : Hid (V.rangeAt lb (p * 3) (lgX fin l)) := by rw [← hV]; exact HRG.out nq
        rw [hV]
        clear hV r0 r1 r2
        have s0 : V.cell? ⟨lb, p * 3, none⟩ = some (.int .u64 (fin l.1).id) := HVG.out 0 _ rfl
        have s1 : V.cell? ⟨lb, p * 3 + 1, none⟩ = some (.int .i64 l.2.1) := HVG.out 1 _ rfl
        have s2 : V.cell? ⟨lb, p * 3 + 2, none⟩ = some (.int .i64 l.2.2) := HVG.out 2 _ rfl
        have HOV : Hid (V.ownsRow w1.heap.size 40 3 (.slice (some ⟨ob, 0, none⟩) (j' + 1) vc) (j' + 1) ((L.reverse.take (j' + 1)).flatMap (lgX fin)) ∧ Below w1.heap.size w1 V) := ⟨ownsRow_upd HR.out.1 (Upd.ofBelow (S := fun _ => False) HBV.out (fun k h1 h2 => by omega)) (fun _ _ h => h), HR.out.2.trans (HBV.out.mono HR.out.2.size)⟩
        go_wp2_with (at_builtin; refine wpList_appG fin V rfl _ _ rfl w1.heap.size (.slice (some ⟨ob, 0, none⟩) (j' + 1) vc) (j' + 1) (L.reverse.take (j' + 1)) l rfl HOV.out.1 V.heap.size rfl rfl (by omega) HOV.out.2.size ?_; intro va9 vc9 w9 o9 u9 m9; have F9 : Hid (RpI w1 fin L (j' + 1 + 1) va9 vc9 w9) := ⟨by rw [HT.out]; exact o9, HOV.out.2.trans (u9.below HOV.out.2.size (fun q hq e => by have := (owns_lt HR.out.1 e).1; omega))⟩; clear o9 u9 m9)
        go_roundw
        case rel => exact ⟨j' + 1 + 1, va9, vc9, rfl, by have := HP.out; go_num, by omega, F9⟩
        case measure => (simp [intOf])
    · obtain rfl : j = ll := by omega
      have hp : (j : Int) - 1 - (j : Int) = -1 := by omega
      rw [hp]
      go_wp2
      go_ret
      refine ⟨va, j, vc, L, rfl, HF.out.2.1, HF.out.1, ?_, HZL.out, HF.out.2.2.trans (HR.out.2.mono HF.out.2.2.size)⟩
      have := HR.out.1
      rw [List.take_of_length_le (by rw [List.length_reverse]; have := HF.out.2.1; omega)] at this
      exact ownsRow_base this (fun q e => by have := (owns_lt HR.out.1 e).1; have := HF.out.2.2.size; omega)
end Go.Proofs.YthajamokaabogaaGreatDoor

namespace Go.Proofs.YthajamokaabogaaGreatDoor
open Go Go.RowKit
set_option maxRecDepth 100000

theorem renv_of {Y : List Sp} {C : List Int} {dp : Nat → Nat} {fin : Nat → Nod} {X : List Spot} {K : Nat → List Int} {R : List Int} (h : FoB Y C dp fin X K R) (hpar : ∀ i, i < Y.length → (fin i).org ≠ 0 → (fin i).par = 0) {W0 : World} {g : Nat} {sa : Option Addr} {sc : Nat} {L : List Sq} {nb cn : Nat} {V : List Nod} (hZ : RZ W0 g sa sc L nb cn V X) {oa : Option Addr} {oc : Nat} {O : List Nat} (hO : OrdZ W0 g oa oc X.length O) : REnv W0.heap.size g W0 fin (cnK fin K) Y.length := by
  have hl := h.fo.len
  refine ⟨fun V' hu s hs t => ?_, fun s hs c hc => ?_, Nat.le_refl _⟩
  · have hb : Below W0.heap.size W0 V' := hu.below (Nat.le_refl _) (fun k hk h => by omega)
    refine (rLast_any V' (hZ.below hb) (hO.below hb) (fin s).id t).mono ?_
    rintro e w' ⟨d, en, b, rfl, hL, hb'⟩
    exact ⟨d, en, b, rfl, LastB.await h hs (kids_ord h hpar hs (fun i => by rw [hO.mem i, hl])) hL, hb'⟩
  · have : c ∈ knK K s := by unfold cnK at hc; exact (List.mem_filter.1 hc).1
    exact ((h.mem s hs c).1 this).1
theorem adj_of {Y : List Sp} {C : List Int} {dp : Nat → Nat} {fin : Nat → Nod} {X : List Spot} {K : Nat → List Int} {R : List Int} (h : FoB Y C dp fin X K R) {s : Nat} (hs : s < Y.length) (L : List (Nat × Int × Int)) (hP : PathR fin (cnK fin K) s (fin s).til L) (k : Nat) (hk : k + 1 < L.reverse.length) : (fin L.reverse[k].1).id ≠ (fin L.reverse[k + 1].1).id := by
  obtain ⟨t1, t2⟩ := h.legs hs hP
  have tile : ∀ j (hj : j ≤ L.reverse.length), ∃ a, TileF (fin s).til a (L.reverse.drop j) := fun j => by
    induction j with
    | zero => exact fun _ => ⟨_, t1⟩
    | succ j ih =>
      intro hj
      obtain ⟨a, ha⟩ := ih (by omega)
      exact ⟨_, (t2 j (by omega) a ha).2.1⟩
  obtain ⟨a, ha⟩ := tile (k + 1) (by omega)
  have := (t2 (k + 1) hk a ha).2.2.adj (by omega) (by omega)
  simpa using this
/-- The reference's path of any span of a forest that was built. -/
theorem rPath_of {Y : List Sp} {C : List Int} {dp : Nat → Nat} {fin : Nat → Nod} {X : List Spot} {K : Nat → List Int} {R : List Int} (h : FoB Y C dp fin X K R) (hpar : ∀ i, i < Y.length → (fin i).org ≠ 0 → (fin i).par = 0) {W : World} {g : Nat} {sa : Option Addr} {sc : Nat} {L : List Sq} {nb cn : Nat} {V : List Nod} (hZ : RZ W g sa sc L nb cn V X) {oa : Option Addr} {oc : Nat} {O : List Nat} (hO : OrdZ W g oa oc X.length O) (s : Nat) (hs : s < Y.length) :
    Calls Tryz.prog 27 #[.pointer (some ⟨g, 0, none⟩), ndV (fin s)] W fun e W' => ∃ va vl vc L, e = .returned (.slice va vl vc) ∧ L.length = vl ∧ PathR fin (cnK fin K) s (fin s).til L ∧ W'.ownsRow W.heap.size 40 3 (.slice va vl vc) vl (L.reverse.flatMap (lgX fin)) ∧ vl ≤ 2000 ∧ Below W.heap.size W W' := by
  have T := h.senv s hs
  have hsz := szN_le T.cn 1001 s
  have hln := T.ln
  refine (rPath_any W.heap.size g W fin (cnK fin K) Y.length (renv_of h hpar hZ hO) 1001 W s (DeepN_sub (fun y c hc => by rw [T.cn y] at hc; exact (List.mem_filter.1 hc).1) 1001 _ _ T.dp (fun y hy => hy)) hs (by omega) (Upd.refl _ _) (fun L hP k hk => adj_of h hs L hP k hk)).mono ?_
  rintro e W' ⟨va, vl, vc, L, h1, h2, h3, h4, h5, h6⟩
  exact ⟨va, vl, vc, L, h1, h2, h3, h4, by omega, h6⟩
end Go.Proofs.YthajamokaabogaaGreatDoor

namespace Go.Proofs.YthajamokaabogaaGreatDoor
open Go Go.RowKit
set_option maxRecDepth 100000

/-- Whom latest looks at hangs on the IDs alone, not on their order. -/
theorem latL_congr {X : List Spot} (hr : RiseS X) {T I I' : List Int} (h : ∀ id, id ∈ I ↔ id ∈ I') (d : Nod) : d ∈ latL X T I ↔ d ∈ latL X T I' := by
  constructor
  · intro hd
    obtain ⟨j, hj, rfl, h2, h3⟩ := latL_mem hd
    exact latL_all hr hj ((h _).1 h2) h3
  · intro hd
    obtain ⟨j, hj, rfl, h2, h3⟩ := latL_mem hd
    exact latL_all hr hj ((h _).2 h2) h3
/-- The reference's roots are the program's. -/
theorem ordRt_mem {Y : List Sp} {C : List Int} {dp : Nat → Nat} {fin : Nat → Nod} {X : List Spot} {K : Nat → List Int} {R : List Int} (h : FoB Y C dp fin X K R) (hpar : ∀ i, i < Y.length → (fin i).org ≠ 0 → (fin i).par = 0) {O : List Nat} (hO : ∀ i, i ∈ O ↔ i < Y.length) (id : Int) : id ∈ ordF X rtP O ↔ id ∈ idsOf X R := by
  have hl := h.fo.len
  rw [ordF_mem, idsOf_mem h]
  constructor
  · rintro ⟨k, _, hk, hp, rfl⟩
    have hkY : k < Y.length := by omega
    rw [(h.fo.each k hkY hk).2] at hp ⊢
    unfold rtP at hp
    simp at hp
    rcases nmC_range Y C k hkY with hn | ⟨j, hj, hn⟩
    · exact ⟨k, h.fo.roots.1.mem_iff.1 (kidsF_iff.2 ⟨k, rfl, hkY, hn⟩), hkY, rfl⟩
    · have e := h.parOf j hj k ((h.mem j hj k).2 ⟨hkY, hn⟩)
      rw [hpar k hkY hp] at e
      have hid0 : (fin j).id ≠ 0 := by
        rw [← h.ids j hj]
        unfold spAt
        rw [List.getD_eq_getElem?_getD, List.getElem?_eq_getElem hj]
        exact chk_id (h.one.chk _ (List.getElem_mem hj))
      exact absurd e.symm hid0
  · rintro ⟨x, hx, hxn, rfl⟩
    obtain ⟨x', e, _, ho, _⟩ := h.root _ hx
    have : x = x' := by omega
    subst this
    refine ⟨x, (hO x).2 hxn, by omega, ?_, by rw [(h.fo.each x hxn (by omega)).2]⟩
    rw [(h.fo.each x hxn (by omega)).2]
    unfold rtP
    simpa using ho
/-- The row that the reference's path told, as a hop's legs. -/
theorem legH_of {W : World} {base : Nat} {fin : Nat → Nod} {A : Nat → Sp} {C : Nat → List Nat} {x y : Nat} {gap : Int} {va : Option Addr} {vl vc : Nat} {L : List (Nat × Int × Int)} (hl : L.length = vl) (hP : PathR fin C x (fin x).til L) (h2 : vl ≤ 2000) (hid : ∀ l ∈ L, (A l.1).id = (fin l.1).id) (ho : W.ownsRow base 40 3 (.slice va vl vc) vl (L.reverse.flatMap (lgX fin))) : LegH W A fin C (x, y, gap, .slice va vl vc, L) := by
  refine ⟨va, vc, by rw [hl], hP, by show L.length ≤ 2000; omega, fun hn => ?_⟩
  have hn' : L ≠ [] := hn
  obtain ⟨g, cap, e1, _, hr⟩ := RwG.of_owns ho (by rw [List.length_reverse]; exact hl) (by have := List.length_pos_iff.2 hn'; omega)
  injection e1 with e1 _ _
  refine ⟨g, e1, hr.lt, fun i hi => ?_⟩
  have hi' : i < L.reverse.length := by simpa using hi
  have eq : (L.map (legX A)).reverse[i]'hi = legX A L.reverse[i] := by
    simp only [← List.map_reverse, List.getElem_map]
  have hm : L.reverse[i] ∈ L := List.mem_reverse.1 (List.getElem_mem hi')
  rw [eq]
  have e3 := hid _ hm
  have c0 := hr.cell (fun _ => rfl) i hi' 0 (u := .int .u64 (fin L.reverse[i].1).id) rfl
  have c1 := hr.cell (fun _ => rfl) i hi' 1 (u := .int .i64 L.reverse[i].2.1) rfl
  have c2 := hr.cell (fun _ => rfl) i hi' 2 (u := .int .i64 L.reverse[i].2.2) rfl
  rw [Nat.add_zero] at c0
  unfold legX
  rw [e3]
  exact ⟨c0, c1, c2⟩
end Go.Proofs.YthajamokaabogaaGreatDoor

namespace Go.Proofs.YthajamokaabogaaGreatDoor
open Go Go.RowKit Go.Maps
set_option maxRecDepth 100000

set_option maxHeartbeats 1000000 in
/-- The reference's Span, with its lists. -/
theorem rSpan_lk {w : World} {g : Nat} {sa : Option Addr} {sc : Nat} {L : List Sq} {nb cn : Nat} {V : List Nod} {Z : List Spot} (h : RZ w g sa sc L nb cn V Z) (k : Nat) (hk : k < Z.length) : Calls Tryz.prog 35 #[.pointer (some ⟨g, 0, none⟩), .int .u64 Z[k].nd.id] w fun e w' => ∃ p', e = .returned (.tuple #[spV Z[k].a p', .bool true]) ∧ SpAt w' Z[k].a p' ∧ Below w.heap.size w w' := by
  have FI : Hid (∀ W, Below w.heap.size w W → Calls Tryz.prog 65 #[.pointer (some ⟨g, 0, none⟩), .int .u64 Z[k].nd.id] W fun e w' => e = .returned (.int .i64 k) ∧ w' = W) := fun W hb => (h.below hb).found k hk
  have hkL : k < L.length := by rw [h.len]; exact hk
  have BB : Hid (Below w.heap.size w (w.alloc (.cells zSpL.toArray 97))) := (Below.refl _ _).alloc (Nat.le_refl _) _
  have h' := h.below BB.out
  obtain ⟨sg, rfl, hR⟩ := h'.sp.row (by omega)
  have hh := h'.sp.head
  have RG : Hid ((w.alloc (.cells zSpL.toArray 97)).rangeAt sg (k * 13) (sqL L[k])) := hR.range sqL_len k hkL
  have hl := h.sp.len
  have CL : Hid (∀ W, Below w.heap.size w W → Calls Tryz.prog 66 #[spV L[k].1 L[k].2] W fun e w' => ∃ p', e = .returned (spV L[k].1 p') ∧ (∀ w5, (∀ k, W.heap.size ≤ k → k < w'.heap.size → w5.heap[k]? = w'.heap[k]?) → SpAt w5 L[k].1 p') ∧ Below W.heap.size W w') := fun W hb => by
    have hA := (h.below hb).at_ L[k] (List.getElem_mem hkL)
    exact rClone_any L[k].1 L[k].2 W hA.1 hA.2.1 hA.2.2.1 hA.2.2.2
  have e1 := (h.each k hkL hk).1
  rw [← e1]
  generalize L[k] = y at *
  obtain ⟨a, p⟩ := y
  generalize Z[k].nd.id = id at *
  generalize L.length = n at *
  unfold sqL at RG
  clear h hR e1 hk h'
  have hk' : (k : Int) < (n : Int) := by omega
  have hk0 : ¬ (k : Int) < 0 := by omega
  unfold zSpL at hh BB RG
  simp only at hh BB RG
  go_enter Tryz.func35, Tryz.ntmps35
  go_wp2_with (first
    | (go_at_call 65; ((with_reducible refine (FI.out _ BB.out).mono ?_); clear FI; rintro e w1 ⟨rfl, hw1⟩; subst hw1))
    | (refine wpList_load_mid rfl 97 _ rfl sg (k * 13) rfl (spC a p).toList _ RG.out Tryz.underlying97 rfl (by kernel_rfl) ?_)
    | (go_at_call 66; (refine (CL.out _ BB.out).mono ?_); clear CL; rintro e w8 ⟨p', rfl, hsp8, hb8⟩; have HS8 : Hid (∀ w5 : World, (∀ k, w.heap.size + 1 ≤ k → k < w8.heap.size → w5.heap[k]? = w8.heap[k]?) → SpAt w5 a p') := (fun w5 h5 => hsp8 w5 (fun k h1 h2 => h5 k (by rw [World.size_alloc] at h1; exact h1) h2)); have HB8 : Hid (Below w.heap.size w w8) := BB.out.trans (hb8.mono BB.out.size); have HN8 : Hid (Blk w8 w.heap.size zSpL.toArray 97) := Blk.below (Blk.new w zSpL.toArray 97) hb8 (by simp); clear hb8 hsp8)
    | (refine wpList_stW rfl 97 _ _ rfl w.heap.size zSpL (spC a p').toList 97 HN8.out rfl rfl rfl (by kernel_rfl) (spC_one a p') ?_; intro w4 n4 u4; have HB4 : Hid (Below w.heap.size w w4) := HB8.out.trans (u4.below HB8.out.size (fun j hj e => by omega)); have HS4 : Hid (SpAt w4 a p') := HS8.out w4 (fun k h1 h2 => u4.block k h2 (by omega)); have HN4 : Hid (Blk w4 w.heap.size (spC a p').toList.toArray 97) := n4; clear n4 u4)
    | (refine wpList_load_mid rfl 97 _ rfl w.heap.size 0 rfl (spC a p').toList _ (rangeB HN4.out) Tryz.underlying97 rfl (by kernel_rfl) ?_))
  (try simp only [Exit.inBlock, Exit.then])
  refine bodyPost_ret (v := .tuple #[.agg (spC a p').toList.toArray, .bool true]) ?_ rfl ⟨p', rfl, HS4.out, HB4.out⟩
  rw [results_cell_tmp rfl]
  have hld := blk_loadS (by rfl) HN4.out
  simp [asAddr, Result.andThen, hld]
/-- The legs' blocks bear their type. -/
def LegT (W : World) (H : List Hop) : Prop := ∀ h ∈ H, ∀ g, h.2.2.2.1.ownBlock = some g → ∃ cs fr, W.heap[g]? = some (.cells cs 40 fr)
theorem LegT.upd {S : Nat → Prop} {W W' : World} {H : List Hop} (h : LegT W H) (hu : Upd S W W') (hS : ∀ k ∈ H, ∀ g, k.2.2.2.1.ownBlock = some g → ¬ S g) : LegT W' H := fun k hk g e => by
  obtain ⟨cs, fr, hb⟩ := h k hk g e
  exact ⟨cs, fr, by rw [hu.block g (Array.getElem?_eq_some_iff.1 hb).1 (hS k hk g e)]; exact hb⟩
theorem LegH.updT {S : Nat → Prop} {W W' : World} {A : Nat → Sp} {fin : Nat → Nod} {C : Nat → List Nat} {h : Hop} (hl : LegH W A fin C h) (hu : Upd S W W') (hS : ∀ g, h.2.2.2.1.ownBlock = some g → ¬ S g) : LegH W' A fin C h := by
  obtain ⟨la, cap, h1, h2, h3, h4⟩ := hl
  refine ⟨la, cap, h1, h2, h3, fun hn => ?_⟩
  obtain ⟨g, h5, h6, h7⟩ := h4 hn
  have hb := hu.block g h6 (hS g (by rw [h1, h5]; rfl))
  refine ⟨g, h5, Nat.lt_of_lt_of_le h6 hu.size, fun i hi => ?_⟩
  have e : ∀ j, W'.cell? ⟨g, j, none⟩ = W.cell? ⟨g, j, none⟩ := fun j => by simp only [World.cell?, hb]
  rw [e, e, e]
  exact h7 i hi
/-- Midway: the hops, their trees. -/
structure RcM (W : World) (Y : List Sp) (fin : Nat → Nod) (K : Nat → List Int) (H : List Hop) (oa : Option Addr) (ll oc : Nat) (ta : Option Addr) (tc : Nat) (wr : World) : Prop where
  len : H.length = ll
  hops : HopsM W.heap.size wr (spAt Y) fin (cnK fin K) (.slice oa ll oc) H
  legs : LegT wr H
  trees : wr.ownsRow W.heap.size 24 1 (.slice ta ll tc) ll ((H.map (fun h => (fin h.1).id)).flatMap uL)
  bel : Below W.heap.size W wr
theorem RcM.upd {S : Nat → Prop} {W : World} {Y : List Sp} {fin : Nat → Nod} {K : Nat → List Int} {H : List Hop} {oa : Option Addr} {ll oc : Nat} {ta : Option Addr} {tc : Nat} {wr w' : World} (h : RcM W Y fin K H oa ll oc ta tc wr) (hu : Upd S wr w') (h1 : ∀ k, (Value.slice oa ll oc).ownBlock = some k → ¬ S k) (h2 : ∀ k, (Value.slice ta ll tc).ownBlock = some k → ¬ S k) (h3 : ∀ k ∈ H, ∀ g, k.2.2.2.1.ownBlock = some g → ¬ S g) (h4 : ∀ k, S k → W.heap.size ≤ k) : RcM W Y fin K H oa ll oc ta tc w' :=
  ⟨h.len, ⟨ownsRow_upd h.hops.own hu h1, fun k hk => (h.hops.legs k hk).updT hu (h3 k hk), h.hops.nil⟩, h.legs.upd hu h3, ownsRow_upd h.trees hu h2, h.bel.trans (hu.below h.bel.size (fun k hk e => by have := h4 k e; omega))⟩
theorem RcM.below {W : World} {Y : List Sp} {fin : Nat → Nod} {K : Nat → List Int} {H : List Hop} {oa : Option Addr} {ll oc : Nat} {ta : Option Addr} {tc : Nat} {wr w' : World} (h : RcM W Y fin K H oa ll oc ta tc wr) (hb : Below wr.heap.size wr w') : RcM W Y fin K H oa ll oc ta tc w' :=
  h.upd (Upd.ofBelow (S := fun _ => False) hb (fun k h1 h2 => by omega)) (fun _ _ h => h) (fun _ _ h => h) (fun _ _ _ _ h => h) (fun _ h => h.elim)
/-- Midway in the reference's Chain. -/
def RcI (X : List Spot) (W : World) (Y : List Sp) (fin : Nat → Nod) (K : Nat → List Int) (R : List Int) (oa : Option Addr) (ll oc : Nat) (ta : Option Addr) (tc : Nat) (gap : Int) (nb : Nat) (b : Bool) (wr : World) : Prop := ∃ H d, RcM W Y fin K H oa ll oc ta tc wr ∧ HopsR X Y.length fin (spAt Y) R H ∧ Blk wr nb (ndL d).toArray 73 ∧ W.heap.size ≤ nb ∧ ((b = true ∧ ∃ y, d = fin y ∧ NextR X Y.length fin (spAt Y) R H y gap) ∨ (b = false ∧ (H = [] → R = []) ∧ ∀ i (hi : i + 1 = H.length), latL X (H.map (fun h => (fin h.1).id)) (spAt Y (H[i]'(by omega)).1).links = []))
section
variable (X : List Spot) (W : World) (Y : List Sp) (fin : Nat → Nod) (K : Nat → List Int) (R : List Int) (g : Nat) (ll nb rb : Nat) (dy dx : Nod)
/-- A round, from its latest on. -/
def RcF (va : Option Addr) (vc : Nat) (ta : Option Addr) (tc : Nat) (a : Sp) (p : Pl) (w6 : World) : Prop :=
  Calls Tryz.prog 33 #[.pointer (some ⟨g, 0, none⟩), .slice p.la a.links.length p.lc, .slice ta (ll + 1) tc] w6 fun e w7 => ∃ d' b, e = .returned (.tuple #[ndV d', .bool b]) ∧ Blk w7 nb (ndL dy).toArray 73 ∧ ∀ w8, Blk w8 nb (ndL d').toArray 73 → Upd (fun k => k = nb) w7 w8 → Blk w8 rb (ndL dx).toArray 73 ∧ ∀ w9, Below w8.heap.size w8 w9 → RcI X W Y fin K R va (ll + 1) vc ta tc (IntKind.i64.wrap (dx.fr - d'.til)) nb b w9
/-- From its Span on. -/
def RcE (va : Option Addr) (vc : Nat) (ta : Option Addr) (tc : Nat) (u4 : World) : Prop :=
  Blk u4 rb (ndL dx).toArray 73 ∧ Calls Tryz.prog 35 #[.pointer (some ⟨g, 0, none⟩), .int .u64 dx.id] u4 fun e w5 => ∃ a p, e = .returned (.tuple #[spV a p, .bool true]) ∧ ∀ w6, Below w5.heap.size w5 w6 → RcF X W Y fin K R g ll nb rb dy dx va vc ta tc a p w6
/-- From its second append on. -/
def RcD (ta : Option Addr) (tc : Nat) (va : Option Addr) (vc : Nat) (u3 : World) : Prop :=
  ∃ M : List Int, Blk u3 rb (ndL dx).toArray 73 ∧ u3.ownsRow W.heap.size 24 1 (.slice ta ll tc) ll (M.flatMap uL) ∧ M.length = ll ∧ ll ≤ 1000 ∧ W.heap.size ≤ u3.heap.size ∧ ∀ ta' tc' u4, u4.ownsRow W.heap.size 24 1 (.slice ta' (ll + 1) tc') (ll + 1) ((M ++ [dx.id]).flatMap uL) → Upd (fun q => (Value.slice ta ll tc).ownBlock = some q) u3 u4 → RcE X W Y fin K R g ll nb rb dy dx va vc ta' tc' u4
/-- From its first append on. -/
def RcC (oa : Option Addr) (oc : Nat) (ta : Option Addr) (tc : Nat) (gap : Int) (xs : List Value) (lv : Value) (w3 : World) : Prop :=
  (∀ u, Below w3.heap.size w3 u → u.ownsRow W.heap.size 87 4 (.slice oa ll oc) ll xs ∧ W.heap.size ≤ u.heap.size ∧ Blk u rb (ndL dx).toArray 73 ∧ Blk u nb (ndL dy).toArray 73) ∧ ∀ u2 u3 va vc, Below w3.heap.size w3 u2 → u2.grownBy u3 (Value.slice oa ll oc).ownBlock → u3.ownsRow W.heap.size 87 4 (.slice va (ll + 1) vc) (ll + 1) (xs ++ [.int .u64 dx.id, .int .u64 dy.id, .int .i64 gap, lv]) → RcD X W Y fin K R g ll nb rb dy dx ta tc va vc u3
/-- From its path on. -/
def RcB (oa : Option Addr) (oc : Nat) (ta : Option Addr) (tc : Nat) (gap : Int) (w2 : World) : Prop :=
  ll < Y.length ∧ ll ≤ 1000 ∧ (∀ V, Below w2.heap.size w2 V → Blk V rb (ndL dx).toArray 73 ∧ Blk V nb (ndL dy).toArray 73) ∧ ∀ V, Below w2.heap.size w2 V → Calls Tryz.prog 27 #[.pointer (some ⟨g, 0, none⟩), ndV dx] V fun e w3 => ∃ la ln lc xs, e = .returned (.slice la ln lc) ∧ Below V.heap.size V w3 ∧ RcC X W Y fin K R g ll nb rb dy dx oa oc ta tc gap xs (.slice la ln lc) w3
end
theorem rc_round {Y : List Sp} {C : List Int} {dp : Nat → Nat} {fin : Nat → Nod} {X : List Spot} {K : Nat → List Int} {R : List Int} (hB : FoB Y C dp fin X K R) (hpar : ∀ i, i < Y.length → (fin i).org ≠ 0 → (fin i).par = 0) {W : World} {g : Nat} {sa : Option Addr} {sc : Nat} {L : List Sq} {sb cn : Nat} {V : List Nod} (hZ : RZ W g sa sc L sb cn V X) {qa : Option Addr} {qc : Nat} {O : List Nat} (hO : OrdZ W g qa qc X.length O) (oa : Option Addr) (ll oc : Nat) (ta : Option Addr) (tc : Nat) (gap : Int) (nb : Nat) (wr : World) (h : RcI X W Y fin K R oa ll oc ta tc gap nb true wr) :
    ∃ dy : Nod, Blk wr nb (ndL dy).toArray 73 ∧ Calls Tryz.prog 34 #[.pointer (some ⟨g, 0, none⟩), .int .u64 dy.tree] wr fun e w1 => ∃ dx, e = .returned (.tuple #[ndV dx, .bool true]) ∧ ∀ w2 rb, Below w1.heap.size w1 w2 → Blk w2 rb (ndL dx).toArray 73 → w1.heap.size ≤ rb → RcB X W Y fin K R g ll nb rb dy dx oa oc ta tc gap w2 := by
  obtain ⟨H, d, hM, hR, hb, hnb, hor⟩ := h
  rcases hor with ⟨_, y, rfl, hN⟩ | ⟨e, _⟩
  case inr => cases e
  have hl := hB.fo.len
  obtain ⟨x, hxR, hx, hox, htx, hty⟩ := hB.top (dp y) y rfl hN.lt
  have hX := hB.fo.each x hx (by omega)
  have hspY : spAt Y x = Y[x] := by
    unfold spAt
    rw [List.getD_eq_getElem?_getD, List.getElem?_eq_getElem hx]
    rfl
  refine ⟨fin y, hb, ?_⟩
  have ND := rNode_at (hZ.below hM.bel) x (by omega)
  rw [hX.2, ← hty] at ND
  refine ND.mono ?_
  rintro e w1 ⟨rfl, hb1⟩
  refine ⟨fin x, rfl, fun w2 rb hb12 hrb hrl => ?_⟩
  have b2 : Below wr.heap.size wr w2 := hb1.trans (hb12.mono hb1.size)
  have M2 := hM.below b2
  have n2 := hb.below b2 hb.lt
  have hR2 := fun lv Lg => hR.snoc hN hx hox hty (fun e => hB.idInj hN.lt hx e) lv Lg
  have hln := (hR2 (.bool true) []).len
  rw [List.length_append, List.length_singleton, hM.len] at hln
  have hn1 := hB.one.len
  have hsz := hM.bel.size
  refine ⟨by omega, by omega, fun V hV => ⟨hrb.below hV hrb.lt, n2.below hV n2.lt⟩, fun V hV => ?_⟩
  have bV : Below W.heap.size W V := (M2.below hV).bel
  refine (rPath_of hB hpar (hZ.below bV) (hO.below bV) x hx).mono ?_
  rintro e w3 ⟨la, ln, lc, Lg, rfl, e1, hP, hown, hlen, hb3⟩
  refine ⟨la, ln, lc, H.flatMap (hopL fin), rfl, hb3, ?_⟩
  have b3 : Below w2.heap.size w2 w3 := hV.trans (hb3.mono hV.size)
  have M3 := M2.below b3
  have LG : LegH w3 (spAt Y) fin (cnK fin K) (x, y, gap, .slice la ln lc, Lg) := legH_of e1 hP hlen (fun l hl => hB.ids _ (hB.bel (hP.bel l hl) hx).1) hown
  have LT : ∀ q, (Value.slice la ln lc).ownBlock = some q → ∃ cs, w3.heap[q]? = some (.cells cs 40 (0, 0)) := fun q e => owns_typeS hown e
  refine ⟨fun u hu => ?_, fun u2 u3 va vc hu hg ho => ?_⟩
  · have Mu := M3.below hu
    have := Mu.hops.own
    rw [hM.len] at this
    exact ⟨this, Mu.bel.size, hrb.below (b3.trans (hu.mono b3.size)) hrb.lt, n2.below (b3.trans (hu.mono b3.size)) n2.lt⟩
  · have bu : Below w2.heap.size w2 u2 := b3.trans (hu.mono b3.size)
    have Mu := M3.below hu
    have ru := hrb.below bu hrb.lt
    have nu := n2.below bu n2.lt
    have uu : Upd (fun q => (Value.slice oa ll oc).ownBlock = some q) u2 u3 := ⟨hg.os, hg.tape, hg.output, hg.size, fun k hk hn => hg.block k hk (fun e => hn e.symm)⟩
    have hown' := Mu.hops.own
    have LGu : LegH u2 (spAt Y) fin (cnK fin K) (x, y, gap, .slice la ln lc, Lg) := LG.updT (Upd.ofBelow (S := fun _ => False) hu (fun k h1 h2 => by omega)) (fun _ _ h => h)
    have LTu : ∀ q, (Value.slice la ln lc).ownBlock = some q → ∃ cs, u2.heap[q]? = some (.cells cs 40 (0, 0)) := fun q e => by
      obtain ⟨cs, hc⟩ := LT q e
      have hq : q < w3.heap.size := (Array.getElem?_eq_some_iff.1 hc).1
      exact ⟨cs, Blk.below hc hu hq⟩
    have hHM : HopsM W.heap.size u3 (spAt Y) fin (cnK fin K) (.slice va (ll + 1) vc) (H ++ [(x, y, gap, .slice la ln lc, Lg)]) := Mu.hops.more LGu uu (by
      rw [hM.len, List.flatMap_append]
      simpa [hopL] using ho)
    have ap : ∀ {q : Nat} {c : Array Value} {T : TypeId} {fr : Nat × Nat}, u2.heap[q]? = some (.cells c T fr) → T ≠ 87 → (Value.slice oa ll oc).ownBlock ≠ some q := fun hq hT => row_type Mu.hops.own hq hT
    have r3 : Blk u3 rb (ndL (fin x)).toArray 73 := ru.upd uu (fun e => ap ru (by decide) e)
    have n3 : Blk u3 nb (ndL (fin y)).toArray 73 := nu.upd uu (fun e => ap nu (by decide) e)
    have T3 : u3.ownsRow W.heap.size 24 1 (.slice ta ll tc) ll ((H.map (fun h => (fin h.1).id)).flatMap uL) := ownsRow_upd Mu.trees uu (fun k ek e => by
      obtain ⟨cur, hc⟩ := owns_typeS Mu.trees ek
      exact ap hc (by decide) e)
    have L3 : LegT u3 (H ++ [(x, y, gap, .slice la ln lc, Lg)]) := fun k hk q e => by
      rcases List.mem_append.1 hk with hk | hk
      · exact Mu.legs.upd uu (fun k hk q e e' => by
          obtain ⟨cs, fr, hc⟩ := Mu.legs k hk q e
          exact ap hc (by decide) e') k hk q e
      · rw [List.mem_singleton] at hk
        subst hk
        obtain ⟨cs, hc⟩ := LTu q e
        refine ⟨cs, (0, 0), ?_⟩
        rw [uu.block q (Array.getElem?_eq_some_iff.1 hc).1 (fun e' => ap hc (by decide) e')]
        exact hc
    have B3 : Below W.heap.size W u3 := Mu.bel.trans (uu.below Mu.bel.size (fun k hk e => by have := (owns_lt Mu.hops.own e).1; omega))
    refine ⟨H.map (fun h => (fin h.1).id), r3, T3, by rw [List.length_map]; exact hM.len, by omega, B3.size, fun ta' tc' u4 ho4 uu4 => ?_⟩
    have ap4 : ∀ {q : Nat} {c : Array Value} {T : TypeId} {fr : Nat × Nat}, u3.heap[q]? = some (.cells c T fr) → T ≠ 24 → (Value.slice ta ll tc).ownBlock ≠ some q := fun hq hT => row_type T3 hq hT
    have r4 := r3.upd uu4 (fun e => ap4 r3 (by decide) e)
    have n4 := n3.upd uu4 (fun e => ap4 n3 (by decide) e)
    have e9 : H.map (fun h => (fin h.1).id) ++ [(fin x).id] = (H ++ [(x, y, gap, Value.slice la ln lc, Lg)]).map (fun h => (fin h.1).id) := by simp
    rw [e9] at ho4
    have sub4 : ∀ k ∈ H ++ [(x, y, gap, Value.slice la ln lc, Lg)], ∀ q, k.2.2.2.1.ownBlock = some q → ¬ (Value.slice ta ll tc).ownBlock = some q := fun k hk q e e' => by
      obtain ⟨cs, fr, hc⟩ := L3 k hk q e
      exact ap4 hc (by decide) e'
    have M4 : RcM W Y fin K (H ++ [(x, y, gap, .slice la ln lc, Lg)]) va (ll + 1) vc ta' tc' u4 := ⟨by rw [List.length_append, List.length_singleton, hM.len], ⟨by
        have := ownsRow_upd hHM.own uu4 (fun k ek e => by
          obtain ⟨cur, hc⟩ := owns_typeS hHM.own ek
          exact ap4 hc (by decide) e)
        exact this, fun k hk => (hHM.legs k hk).updT uu4 (sub4 k hk), hHM.nil⟩, L3.upd uu4 sub4, ho4, B3.trans (uu4.below B3.size (fun k hk e => by have := (owns_lt T3 e).1; omega))⟩
    refine ⟨r4, ?_⟩
    have SP := rSpan_lk (hZ.below M4.bel) x (by omega)
    rw [hX.2, hX.1] at SP
    refine SP.mono ?_
    rintro e w5 ⟨p, rfl, hsp, hb5⟩
    refine ⟨Y[x], p, rfl, fun w6 hb6 => ?_⟩
    have b46 : Below u4.heap.size u4 w6 := hb5.trans (hb6.mono hb5.size)
    have M6 := M4.below b46
    have hsp6 := hsp.below hb6
    have hT6 : IdsAt w6 ta' ((H ++ [(x, y, gap, Value.slice la ln lc, Lg)]).map (fun h => (fin h.1).id)) := fun k hk => by
      obtain ⟨q, cap, e1, _, hr⟩ := RwG.of_owns M6.trees (by rw [List.length_map]; exact M6.len) (by omega)
      injection e1 with e1 _ _
      refine ⟨_, e1, ?_⟩
      have := hr.cell uL_len k hk 0 (u := .int .u64 ((H ++ [(x, y, gap, Value.slice la ln lc, Lg)]).map (fun h => (fin h.1).id))[k]) (by simp [uL])
      rw [Nat.mul_one, Nat.add_zero] at this
      rw [Addr.add_lit, Nat.zero_add]
      exact this
    have hlk := (chk_good (hB.one.chk Y[x] (List.getElem_mem hx))).links
    refine (rLatest_any w6 (hZ.below M6.bel) hB.rise p.la Y[x].links.length p.lc Y[x].links ta' (ll + 1) tc' _ (fun j hj => hsp6.links.cells j _ (by simp [intsV, hj])) rfl (by omega) hT6 (by rw [List.length_map]; exact M6.len) (by omega)).mono ?_
    rintro e w7 ⟨d', b, rfl, hor, hb7⟩
    have b47 := b46.trans (hb7.mono b46.size)
    have M7 := M6.below hb7
    have n7 := n4.below b47 n4.lt
    have r7 := r4.below b47 r4.lt
    refine ⟨d', b, rfl, n7, fun w8 n8 u8 => ?_⟩
    have hnr : nb ≠ rb := fun e => by have := hb.lt; have := hb1.size; omega
    have M8 : RcM W Y fin K (H ++ [(x, y, gap, .slice la ln lc, Lg)]) va (ll + 1) vc ta' tc' w8 := M7.upd u8 (fun k e e' => by
        subst e'
        exact row_type (by have := M7.hops.own; rwa [M7.len] at this) n7 (by decide) e) (fun k e e' => by
        subst e'
        exact row_type M7.trees n7 (by decide) e) (fun k hk q e e' => by
        subst e'
        obtain ⟨cs, fr, hc⟩ := M7.legs k hk q e
        have h7 : w7.heap[q]? = some (.cells (ndL (fin y)).toArray 73 (0, 0)) := n7
        rw [h7] at hc
        simp at hc) (fun k e => by omega)
    refine ⟨r7.upd u8 (fun e => hnr e.symm), fun w9 hb9 => ⟨H ++ [(x, y, gap, .slice la ln lc, Lg)], d', M8.below hb9, hR2 _ _, n8.below hb9 n8.lt, hnb, ?_⟩⟩
    rw [← hspY] at hor
    rcases hor with ⟨rfl, hd, hmn⟩ | ⟨rfl, _, hnl⟩
    · obtain ⟨y', e, hN'⟩ := next_step hB (spAt Y) (k := (x, y, gap, .slice la ln lc, Lg)) hd hmn
      subst e
      exact Or.inl ⟨rfl, y', rfl, hN'⟩
    · refine Or.inr ⟨rfl, fun e => absurd e (by simp), fun i hi => ?_⟩
      have e5 : (H ++ [(x, y, gap, Value.slice la ln lc, Lg)])[i]'(by omega) = (x, y, gap, .slice la ln lc, Lg) := by
        rw [List.length_append, List.length_singleton] at hi
        rw [List.getElem_append_right (by omega)]
        simp [show i - H.length = 0 from by omega]
      rw [e5]
      exact hnl
end Go.Proofs.YthajamokaabogaaGreatDoor
