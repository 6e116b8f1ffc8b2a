/-
  Merged: NG, NH, NI, NJ.
-/
import Derived.Test.YtobjjdggjgnfcaaGreatDoorICq
import Derived.Test.YtobjjdggjgnfcaaGreatDoorPF
import Derived.Test.YtobjjdggjgnfcaaGreatDoorPIq
import Derived.Test.YtobjjdggjgnfcaaGreatDoorKAq
namespace Go.Proofs.YtobjjdggjgnfcaaGreatDoor
open Go Go.RowKit
set_option maxRecDepth 100000

def lgX (fin : Nat → Nod) (l : Nat × Int × Int) : List Value := [.int .u64 (fin l.1).id, .int .i64 l.2.1, .int .i64 l.2.2]
structure REnv (base g : Nat) (W0 : World) (fin : Nat → Nod) (C : Nat → List Nat) (n : Nat) : Prop where
  last : ∀ V, Upd (fun k => base ≤ k) W0 V → ∀ s, s < n → ∀ t : Int, Calls Tryz.prog 102 #[.pointer (some ⟨g, 0, none⟩), .int .u64 (fin s).id, .int .i64 t] V fun e w' => ∃ d en b, e = .returned (.tuple #[ndV d, .int .i64 en, .bool b]) ∧ ((b = true ∧ ∃ c, awaitM fin t (C s) = some c ∧ d = fin c ∧ en = untM (fin c) t) ∨ (b = false ∧ awaitM fin t (C s) = none)) ∧ Below V.heap.size V w'
  lt : ∀ s, s < n → ∀ c ∈ C s, c < n
  low : base ≤ W0.heap.size
theorem wpList_appG {ops : Array Oper} {rest : List Oper} {o : Oper} {a : Act} {Q : Exit → Act → World → Prop} (fin : Nat → Nod) (wr : World) (hgd : o.guard = none) (s x : Operand)
    (ho : o.op = .call { callee := .builtin .append, args := #[s, x], argTypes := #[33, 33] })
    (base : Nat) (v : Value) (n : Nat) (M : List (Nat × Int × Int)) (l : Nat × Int × Int) (hv : a.eval s = v) (hown : wr.ownsRow base 40 3 v n (M.flatMap (lgX fin))) (b : Nat) (hbw : b = wr.heap.size) (hx : a.eval x = .slice (some ⟨b, 0, none⟩) 1 1) (hn : n ≤ 1000000) (hbase : base ≤ wr.heap.size)
    (h : ∀ va vc w', w'.ownsRow base 40 3 (.slice va (n + 1) vc) (n + 1) ((M ++ [l]).flatMap (lgX fin)) → Upd (fun q => v.ownBlock = some q) wr w' → (∀ q, (Value.slice va (n + 1) vc).ownBlock = some q → v.ownBlock = some q ∨ wr.heap.size ≤ q) → wpList Tryz.prog ops Q rest (a.put o.dst (.slice va (n + 1) vc)) w') : wpList Tryz.prog ops Q (o :: rest) a (wr.alloc (.cells (lgX fin l).toArray 40)) := by
  subst hbw
  obtain ⟨i0, hi0, hz0, hz1, hz2⟩ := infoLeg_parts
  have hB := Blk.new wr (lgX fin l).toArray 40
  have hown' : (wr.alloc (.cells (lgX fin l).toArray 40)).ownsRow base 40 3 v n (M.flatMap (lgX fin)) := ownsRow_upd hown ((Upd.refl (fun _ => False) wr).alloc _) (fun _ _ h => h)
  have hS : Src Tryz.prog 3 33 (.slice (some ⟨wr.heap.size, 0, none⟩) 1 1) 1 (lgX fin l) (wr.alloc (.cells (lgX fin l).toArray 40)) := by
    refine Src.ofSlice _ Tryz.underlying33 _ 1 1 _ rfl (fun j u hj => ?_) (fun u hu => by unfold lgX at hu; simp at hu; rcases hu with rfl | rfl | rfl <;> rfl)
    rw [Addr.add_lit, Nat.zero_add]
    exact hB.cell j (by rw [List.getElem?_toArray]; exact hj)
  refine wpList_appW _ hgd s x 33 33 ho base 40 i0 _ 3 24 Tryz.underlying33 hi0 hz0 hz1 hz2 rfl v n _ hv hown' _ 1 _ hx hS (by unfold maxLen; omega) (by omega) (by simp; omega) ?_
  intro v1 w1 o1 g1 m1
  have e : M.flatMap (lgX fin) ++ lgX fin l = (M ++ [l]).flatMap (lgX fin) := by simp
  rw [e] at o1
  obtain ⟨va, vc, rfl⟩ := owns_sliceS o1
  refine h va vc w1 o1 (((Upd.refl _ wr).alloc _).grown g1 (fun k _ e => e)) (fun q e => ?_)
  rcases m1 with hm | ⟨k, hk, hs⟩
  · rw [hm] at e; exact Or.inl e
  · rw [hk] at e; cases e; rw [World.size_alloc] at hs; exact Or.inr (by omega)
structure RbO (base : Nat) (W : World) (fin : Nat → Nod) (v0 : Value) (M : List (Nat × Int × Int)) (va : Option Addr) (vl vc : Nat) (wr : World) : Prop where
  len : M.length = vl
  own : wr.ownsRow base 40 3 (.slice va vl vc) vl (M.flatMap (lgX fin))
  upd : Upd (fun k => v0.ownBlock = some k) W wr
  mv : ∀ q, (Value.slice va vl vc).ownBlock = some q → v0.ownBlock = some q ∨ W.heap.size ≤ q
theorem RbO.below {base : Nat} {W : World} {fin : Nat → Nod} {v0 : Value} {M : List (Nat × Int × Int)} {va : Option Addr} {vl vc : Nat} {wr w' : World} (h : RbO base W fin v0 M va vl vc wr) (hb : Below wr.heap.size wr w') : RbO base W fin v0 M va vl vc w' :=
  ⟨h.len, ownsRow_upd h.own (Upd.ofBelow (S := fun _ => False) hb (fun k h1 h2 => by omega)) (fun _ _ h => h), h.upd.trans (Upd.ofBelow (S := fun _ => False) hb (fun k h1 h2 => by omega)) (fun _ _ h => h.elim), h.mv⟩
theorem RbO.next {base : Nat} {W : World} {fin : Nat → Nod} {v0 : Value} {M M' : List (Nat × Int × Int)} {va va' : Option Addr} {vl vc vl' vc' : Nat} {wr w' : World} (h : RbO base W fin v0 M va vl vc wr) (h' : RbO base wr fin (.slice va vl vc) M' va' vl' vc' w') : RbO base W fin v0 M' va' vl' vc' w' := by
  have hs := h.upd.size
  refine ⟨h'.len, h'.own, h.upd.trans h'.upd (fun k hk e => ?_), fun q e => ?_⟩
  · rcases h.mv k e with e' | e'
    · exact e'
    · omega
  · rcases h'.mv q e with e' | e'
    · exact h.mv q e'
    · exact Or.inr (by omega)
def RbI (base : Nat) (W : World) (fin : Nat → Nod) (C : Nat → List Nat) (v0 : Value) (M : List (Nat × Int × Int)) (fu s : Nat) (t0 t : Int) (va : Option Addr) (vl vc : Nat) (wr : World) : Prop := ∃ N, RbO base W fin v0 (M ++ N) va vl vc wr ∧ (∀ N', PathR fin C s t N' → PathR fin C s t0 (N ++ N')) ∧ N.length + potN fin (fun c => 2 * szN C fu c) t (C s) + 2 ≤ 2 * szN C (fu + 1) s ∧ Blk wr W.heap.size (ndL (fin s)).toArray 48
def RbP (base : Nat) (W : World) (fin : Nat → Nod) (C : Nat → List Nat) (v0 : Value) (M : List (Nat × Int × Int)) (fuel s : Nat) (t : Int) (e : Ending) (W' : World) : Prop := ∃ va vl vc N, e = .returned (.slice va vl vc) ∧ RbO base W fin v0 (M ++ N) va vl vc W' ∧ PathR fin C s t N ∧ N.length + 1 ≤ 2 * szN C fuel s
set_option maxHeartbeats 8000000 in
theorem rBack_any (base g : Nat) (W0 : World) (fin : Nat → Nod) (C : Nat → List Nat) (n : Nat) (E : REnv base g W0 fin C n) : ∀ (fuel : Nat) (W : World) (s : Nat) (t : Int) (va : Option Addr) (vl vc : Nat) (M : List (Nat × Int × Int)), DeepN C fuel [s] → s < n → M.length = vl → W.ownsRow base 40 3 (.slice va vl vc) vl (M.flatMap (lgX fin)) → M.length + 2 * szN C fuel s ≤ 4000 → Upd (fun k => base ≤ k) W0 W →
    Calls Tryz.prog 68 #[.pointer (some ⟨g, 0, none⟩), ndV (fin s), .int .i64 t, .slice va vl vc] W (RbP base W fin C (.slice va vl vc) M fuel s t) := by
  intro fuel
  induction fuel with
  | zero =>
    intro W s t va vl vc M hD
    exact absurd (show [s] = [] from hD) (by simp)
  | succ fu ih =>
    intro W s t va vl vc M hD hs hM hO hlen hU
    have hDk : DeepN C fu (C s) := hD s (by simp)
    have HE : Hid (REnv base g W0 fin C n) := E
    have HIH : Hid (∀ (W : World) (s : Nat) (t : Int) (va : Option Addr) (vl vc : Nat) (M : List (Nat × Int × Int)), DeepN C fu [s] → s < n → M.length = vl → W.ownsRow base 40 3 (.slice va vl vc) vl (M.flatMap (lgX fin)) → M.length + 2 * szN C fu s ≤ 4000 → Upd (fun k => base ≤ k) W0 W →
      Calls Tryz.prog 68 #[.pointer (some ⟨g, 0, none⟩), ndV (fin s), .int .i64 t, .slice va vl vc] W (RbP base W fin C (.slice va vl vc) M fu s t)) := ih
    have hlow : base ≤ W.heap.size := Nat.le_trans E.low hU.size
    have HM : Hid (s < n ∧ DeepN C fu (C s) ∧ M.length + 2 * szN C (fu + 1) s ≤ 4000 ∧ base ≤ W.heap.size ∧ ∀ V, Upd (fun k => (Value.slice va vl vc).ownBlock = some k) W V → Upd (fun k => base ≤ k) W0 V) := ⟨hs, hDk, hlen, hlow, fun V hu => hU.trans hu (fun k _ e => (owns_lt hO e).1)⟩
    have HST : Hid (RbI base W fin C (.slice va vl vc) M fu s t t va vl vc (W.alloc (.cells #[.int .u64 (fin s).id, .int .u64 (fin s).par, .int .i64 (fin s).org, .int .u64 (fin s).tree, .int .i64 (fin s).dep, .int .i64 (fin s).fr, .int .i64 (fin s).til] 48))) := by
      refine ⟨[], ⟨by simpa using hM, ?_, (Upd.refl _ _).alloc _, fun q e => Or.inl e⟩, fun N' hN' => hN', ?_, Blk.new W (ndL (fin s)).toArray 48⟩
      · rw [List.append_nil]
        exact ownsRow_upd hO ((Upd.refl (fun _ => False) W).alloc _) (fun _ _ h => h)
      · have h1 := potN_le fin (fun c => 2 * szN C fu c) t (C s)
        rw [sum_two] at h1
        have h2 : szN C (fu + 1) s = 1 + ((C s).map (szN C fu)).sum := rfl
        simp only [List.length_nil]
        omega
    obtain ⟨V1, hV1⟩ : ∃ X, W.alloc (.cells #[.int .u64 (fin s).id, .int .u64 (fin s).par, .int .i64 (fin s).org, .int .u64 (fin s).tree, .int .i64 (fin s).dep, .int .i64 (fin s).fr, .int .i64 (fin s).til] 48) = X := ⟨_, rfl⟩
    rw [hV1] at HST
    clear ih hD hs hM hO hlen hU hDk E hlow
    unfold ndV
    go_enter Tryz.func68, Tryz.ntmps68
    go_wp2
    go_loopw [2, 3] (fun z2 z3 wr => ∃ (tt : Int) (va1 : Option Addr) (vl1 vc1 : Nat), z2 = .int .i64 tt ∧ z3 = .slice va1 vl1 vc1 ∧ Hid (RbI base W fin C (.slice va vl vc) M fu s t tt va1 vl1 vc1 wr)) (fun z2 _ _ => potN fin (fun c => 2 * szN C fu c) (intOf z2) (C s))
    case atStart => exact ⟨t, va, vl, vc, rfl, rfl, HST⟩
    case round =>
      clear HST
      obtain ⟨tt, va1, vl1, vc1, rfl, rfl, HR⟩ := hrel
      obtain ⟨N, hO, hP, hpot, hnb⟩ := HR.out
      have n5 : wr.cell? ⟨W.heap.size, 5, none⟩ = some (.int .i64 (fin s).fr) := hnb.cell 5 rfl
      have n0 : wr.cell? ⟨W.heap.size, 0, none⟩ = some (.int .u64 (fin s).id) := hnb.cell 0 rfl
      by_cases hgt : (fin s).fr < tt
      · have d1 : decide ((fin s).fr < tt) = true := decide_eq_true hgt
        have hsw := hO.upd.size
        have hUr := HM.out.2.2.2.2 wr hO.upd
        have LA := HE.out.last wr hUr s HM.out.1 tt
        have HO : Hid (RbO base W fin (.slice va vl vc) (M ++ N) va1 vl1 vc1 wr) := hO
        have HNB : Hid (∀ V, Below wr.heap.size wr V → V.cell? ⟨W.heap.size, 0, none⟩ = some (.int .u64 (fin s).id) ∧ V.cell? ⟨W.heap.size, 5, none⟩ = some (.int .i64 (fin s).fr) ∧ Blk V W.heap.size (ndL (fin s)).toArray 48) := fun V hb => ⟨(hnb.below hb hnb.lt).cell 0 rfl, (hnb.below hb hnb.lt).cell 5 rfl, hnb.below hb hnb.lt⟩
        cases hA : awaitM fin tt (C s) with
        | none =>
          have LA' : Calls Tryz.prog 102 #[.pointer (some ⟨g, 0, none⟩), .int .u64 (fin s).id, .int .i64 tt] wr fun e w' => ∃ d en, e = .returned (.tuple #[ndV d, .int .i64 en, .bool false]) ∧ Below wr.heap.size wr w' := by
            refine LA.mono ?_
            rintro e w' ⟨d, en, b, rfl, hor, hb⟩
            rcases hor with ⟨_, c, hc, _⟩ | ⟨rfl, _⟩
            · rw [hA] at hc; cases hc
            · exact ⟨d, en, rfl, hb⟩
          have HFN : Hid (∀ va9 vc9 V w9, Below wr.heap.size wr V → w9.ownsRow base 40 3 (.slice va9 (vl1 + 1) vc9) (vl1 + 1) (((M ++ N) ++ [(s, (fin s).fr, tt)]).flatMap (lgX fin)) → Upd (fun q => (Value.slice va1 vl1 vc1).ownBlock = some q) V w9 → (∀ q, (Value.slice va9 (vl1 + 1) vc9).ownBlock = some q → (Value.slice va1 vl1 vc1).ownBlock = some q ∨ V.heap.size ≤ q) → RbP base W fin C (.slice va vl vc) M (fu + 1) s t (.returned (.slice va9 (vl1 + 1) vc9)) w9) := fun va9 vc9 V w9 hb h1 h2 h3 => by
            refine ⟨va9, vl1 + 1, vc9, N ++ [(s, (fin s).fr, tt)], rfl, (hO.below hb).next ⟨by rw [← List.append_assoc, List.length_append, hO.len]; rfl, by rw [← List.append_assoc]; exact h1, h2, h3⟩, hP _ (PathR.own hgt hA), ?_⟩
            rw [List.length_append]
            simp only [List.length_cons, List.length_nil]
            omega
          have HLL : Hid (vl1 ≤ 1000000 ∧ base ≤ wr.heap.size) := by
            have h1 := hO.len
            have h2 := HM.out.2.2.1
            have h3 := HM.out.2.2.2.1
            rw [List.length_append] at h1
            exact ⟨by omega, by omega⟩
          clear LA hO hP hpot hnb hUr hA HR hsw
          unfold ndV at LA'
          go_upto_region 4 with (go_at_call 102; refine LA'.mono ?_; clear LA'; rintro e w1 ⟨d, en, rfl, hb1⟩; have HB1 : Hid (∀ o, Below wr.heap.size wr (w1.alloc o)) := fun o => hb1.alloc hb1.size o; clear hb1)
          obtain ⟨V, hV⟩ : ∃ X, w1.alloc (.cells #[.int .u64 d.id, .int .u64 d.par, .int .i64 d.org, .int .u64 d.tree, .int .i64 d.dep, .int .i64 d.fr, .int .i64 d.til] 48) = X := ⟨_, rfl⟩
          have HBV : Hid (Below wr.heap.size wr V) := by rw [← hV]; exact HB1.out _
          obtain ⟨v0, v5, _⟩ := HNB.out V HBV.out
          rw [hV]
          clear hV HB1 n0 n5
          go_wp2_with (at_builtin; refine wpList_appG fin V rfl _ _ rfl base (.slice va1 vl1 vc1) vl1 (M ++ N) (s, (fin s).fr, tt) rfl (HO.out.below HBV.out).own V.heap.size rfl rfl HLL.out.1 (Nat.le_trans HLL.out.2 HBV.out.size) ?_; intro va9 vc9 w9 o9 u9 m9; have FN : Hid (RbP base W fin C (.slice va vl vc) M (fu + 1) s t (.returned (.slice va9 (vl1 + 1) vc9)) w9) := HFN.out va9 vc9 V w9 HBV.out o9 u9 m9; clear o9 u9 m9)
          go_ret
          exact FN.out
        | some c =>
          obtain ⟨a1, a2, _⟩ := awaitM_some hA
          have hcn := HE.out.lt s HM.out.1 c a1
          have hDk := HM.out.2.1
          have hz1 := szN_pos hDk a1
          have hpl := potN_less fin (fun c => 2 * szN C fu c) tt c a2 (C s) a1
          have hpl : potN fin (fun c => 2 * szN C fu c) (fin c).fr (C s) + 2 * szN C fu c ≤ potN fin (fun c => 2 * szN C fu c) tt (C s) := hpl
          obtain ⟨en, hen⟩ : ∃ en, untM (fin c) tt = en := ⟨_, rfl⟩
          have LA' : Calls Tryz.prog 102 #[.pointer (some ⟨g, 0, none⟩), .int .u64 (fin s).id, .int .i64 tt] wr fun e w' => e = .returned (.tuple #[ndV (fin c), .int .i64 en, .bool true]) ∧ Below wr.heap.size wr w' := by
            refine LA.mono ?_
            rintro e w' ⟨d, en', b, rfl, hor, hb⟩
            rcases hor with ⟨rfl, c', hc, rfl, rfl⟩ | ⟨_, hc⟩
            · rw [hA] at hc
              injection hc with hc
              subst hc
              rw [hen]
              exact ⟨rfl, hb⟩
            · rw [hA] at hc; cases hc
          have hge : (hangM s en tt).length ≤ 1 := by
            unfold hangM
            by_cases e : en < tt
            · rw [if_pos e]; simp
            · rw [if_neg e]; simp
          have hlM := HM.out.2.2.1
          have hlN := hO.len
          rw [List.length_append] at hlN
          have HBK : Hid (∀ w9 va9 vl9 vc9 cb, RbO base W fin (.slice va vl vc) (M ++ N ++ hangM s en tt) va9 vl9 vc9 w9 → Blk w9 W.heap.size (ndL (fin s)).toArray 48 → Blk w9 cb (ndL (fin c)).toArray 48 → Calls Tryz.prog 68 #[.pointer (some ⟨g, 0, none⟩), ndV (fin c), .int .i64 en, .slice va9 vl9 vc9] w9 fun e w10 => ∃ va10 vl10 vc10, e = .returned (.slice va10 vl10 vc10) ∧ w10.cell? ⟨cb, 5, none⟩ = some (.int .i64 (fin c).fr) ∧ RbI base W fin C (.slice va vl vc) M fu s t (fin c).fr va10 vl10 vc10 w10) := fun w9 va9 vl9 vc9 cb h9 hn9 hc9 => by
            refine (HIH.out w9 c en va9 vl9 vc9 _ (hDk.one a1) hcn h9.len h9.own (by simp only [List.length_append]; omega) (HM.out.2.2.2.2 w9 h9.upd)).mono ?_
            rintro e w10 ⟨va10, vl10, vc10, N2, rfl, h10, hp10, hl10⟩
            refine ⟨va10, vl10, vc10, rfl, (hc9.upd h10.upd (fun e => row_type h9.own hc9 (by decide) e)).cell 5 rfl, N ++ hangM s en tt ++ N2, ?_, fun N' hN' => ?_, ?_, hn9.upd h10.upd (fun e => row_type h9.own hn9 (by decide) e)⟩
            · have := h9.next h10
              simp only [List.append_assoc] at this ⊢
              exact this
            · rw [← hen] at hp10
              have := hP _ (PathR.via hgt hA hp10 hN')
              rw [hen] at this
              simp only [List.append_assoc] at this ⊢
              exact this
            · simp only [List.length_append]
              omega
          have HME : Hid (potN fin (fun c => 2 * szN C fu c) (fin c).fr (C s) < potN fin (fun c => 2 * szN C fu c) tt (C s)) := by
            have h : potN fin (fun c => 2 * szN C fu c) (fin c).fr (C s) < potN fin (fun c => 2 * szN C fu c) tt (C s) := by omega
            exact h
          have HLL : Hid (vl1 ≤ 1000000 ∧ base ≤ wr.heap.size) := ⟨by omega, by have := HM.out.2.2.2.1; omega⟩
          clear LA hO hP hpot hnb hUr hA HR hsw hen hge hlM hlN hpl hz1 hDk hcn a1 a2
          unfold ndV at LA' HBK
          go_upto_region 5 with (go_at_call 102; refine LA'.mono ?_; clear LA'; rintro e w1 ⟨rfl, hb1⟩; have HB1 : Hid (Below wr.heap.size wr w1) := hb1; clear hb1)
          obtain ⟨V, hV⟩ : ∃ X, w1.alloc (.cells #[.int .u64 (fin c).id, .int .u64 (fin c).par, .int .i64 (fin c).org, .int .u64 (fin c).tree, .int .i64 (fin c).dep, .int .i64 (fin c).fr, .int .i64 (fin c).til] 48) = X := ⟨_, rfl⟩
          have HBV : Hid (Below wr.heap.size wr V) := by rw [← hV]; exact HB1.out.alloc HB1.out.size _
          have HCB : Hid (Blk V w1.heap.size (ndL (fin c)).toArray 48) := by rw [← hV]; exact Blk.new _ _ _
          obtain ⟨v0, v5, vnb⟩ := HNB.out V HBV.out
          have HVN : Hid (Blk V W.heap.size (ndL (fin s)).toArray 48) := vnb
          obtain ⟨cb, hcb⟩ : ∃ x, w1.heap.size = x := ⟨_, rfl⟩
          rw [hcb] at HCB ⊢
          rw [hV]
          clear hV HB1 n0 n5 vnb hcb HNB
          by_cases hlt : en < tt
          · have d2 : decide (en < tt) = true := decide_eq_true hlt
            have HN9 : Hid (∀ va9 vc9 w9, w9.ownsRow base 40 3 (.slice va9 (vl1 + 1) vc9) (vl1 + 1) (((M ++ N) ++ [(s, en, tt)]).flatMap (lgX fin)) → Upd (fun q => (Value.slice va1 vl1 vc1).ownBlock = some q) V w9 → (∀ q, (Value.slice va9 (vl1 + 1) vc9).ownBlock = some q → (Value.slice va1 vl1 vc1).ownBlock = some q ∨ V.heap.size ≤ q) → Blk w9 cb (ndL (fin c)).toArray 48 ∧ Calls Tryz.prog 68 #[.pointer (some ⟨g, 0, none⟩), .agg #[.int .u64 (fin c).id, .int .u64 (fin c).par, .int .i64 (fin c).org, .int .u64 (fin c).tree, .int .i64 (fin c).dep, .int .i64 (fin c).fr, .int .i64 (fin c).til], .int .i64 en, .slice va9 (vl1 + 1) vc9] w9 fun e w10 => ∃ va10 vl10 vc10, e = .returned (.slice va10 vl10 vc10) ∧ w10.cell? ⟨cb, 5, none⟩ = some (.int .i64 (fin c).fr) ∧ RbI base W fin C (.slice va vl vc) M fu s t (fin c).fr va10 vl10 vc10 w10) := fun va9 vc9 w9 o9 u9 m9 => by
              have hOV := HO.out.below HBV.out
              have hcb9 := HCB.out.upd u9 (fun e => row_type hOV.own HCB.out (by decide) e)
              refine ⟨hcb9, HBK.out w9 va9 (vl1 + 1) vc9 cb (hOV.next ⟨?_, ?_, u9, m9⟩) (HVN.out.upd u9 (fun e => row_type hOV.own HVN.out (by decide) e)) hcb9⟩
              · unfold hangM
                rw [if_pos hlt, List.length_append, HO.out.len]
                rfl
              · unfold hangM
                rw [if_pos hlt]
                exact o9
            clear HBK
            go_upto_region 7 with (at_builtin; refine wpList_appG fin V rfl _ _ rfl base (.slice va1 vl1 vc1) vl1 (M ++ N) (s, en, tt) rfl (HO.out.below HBV.out).own V.heap.size rfl rfl HLL.out.1 (Nat.le_trans HLL.out.2 HBV.out.size) ?_; intro va9 vc9 w9 o9 u9 m9; obtain ⟨hcb9, BK⟩ := HN9.out va9 vc9 w9 o9 u9 m9; have HC9 : Hid (w9.rangeAt cb 0 (ndL (fin c))) := rangeB hcb9; clear o9 u9 m9 hcb9 HN9)
            clear v0 v5
            go_wp2_with (first
              | (refine wpList_load_mid rfl 48 _ rfl cb 0 rfl (ndL (fin c)) _ HC9.out Tryz.underlying48 rfl (by kernel_rfl) ?_)
              | (go_at_call 68; refine BK.mono ?_; clear BK; rintro e w10 ⟨va10, vl10, vc10, rfl, c5, hR⟩; have HR : Hid (RbI base W fin C (.slice va vl vc) M fu s t (fin c).fr va10 vl10 vc10 w10) := hR; clear hR))
            go_roundw
            case rel => exact ⟨(fin c).fr, va10, vl10, vc10, rfl, rfl, HR⟩
            case measure => exact HME.out
          · have d2 : decide (en < tt) = false := decide_eq_false hlt
            have BK := HBK.out V va1 vl1 vc1 cb (by
              have e : hangM s en tt = [] := by unfold hangM; rw [if_neg hlt]
              rw [e, List.append_nil]
              exact HO.out.below HBV.out) HVN.out HCB.out
            have HC9 : Hid (V.rangeAt cb 0 (ndL (fin c))) := rangeB HCB.out
            clear HBK
            go_upto_region 7 with fail
            clear v0 v5
            go_wp2_with (first
              | (refine wpList_load_mid rfl 48 _ rfl cb 0 rfl (ndL (fin c)) _ HC9.out Tryz.underlying48 rfl (by kernel_rfl) ?_)
              | (go_at_call 68; refine BK.mono ?_; clear BK; rintro e w10 ⟨va10, vl10, vc10, rfl, c5, hR⟩; have HR : Hid (RbI base W fin C (.slice va vl vc) M fu s t (fin c).fr va10 vl10 vc10 w10) := hR; clear hR))
            go_roundw
            case rel => exact ⟨(fin c).fr, va10, vl10, vc10, rfl, rfl, HR⟩
            case measure => exact HME.out
      · have d1 : decide ((fin s).fr < tt) = false := decide_eq_false hgt
        have FN : Hid (RbP base W fin C (.slice va vl vc) M (fu + 1) s t (.returned (.slice va1 vl1 vc1)) wr) := ⟨va1, vl1, vc1, N, rfl, hO, by have := hP [] (PathR.stop (by omega)); rwa [List.append_nil] at this, by omega⟩
        clear hO hP hpot hnb HR
        go_wp2
        go_ret
        exact FN.out
end Go.Proofs.YtobjjdggjgnfcaaGreatDoor

namespace Go.Proofs.YtobjjdggjgnfcaaGreatDoor
open Go Go.RowKit
set_option maxRecDepth 100000

def RpI (W1 : World) (fin : Nat → Nod) (L : List (Nat × Int × Int)) (j : Nat) (va : Option Addr) (vc : Nat) (wr : World) : Prop := wr.ownsRow W1.heap.size 40 3 (.slice va j vc) j ((L.reverse.take j).flatMap (lgX fin)) ∧ Below W1.heap.size W1 wr
set_option maxHeartbeats 8000000 in
theorem rPath_any (base g : Nat) (W0 : World) (fin : Nat → Nod) (C : Nat → List Nat) (n : Nat) (E : REnv base g W0 fin C n) (fuel : Nat) (W : World) (s : Nat) (hD : DeepN C fuel [s]) (hs : s < n) (hlen : 2 * szN C fuel s ≤ 4000) (hU : Upd (fun k => base ≤ k) W0 W) (hadj : ∀ L, PathR fin C s (fin s).til L → ∀ k (h : k + 1 < L.reverse.length), (fin L.reverse[k].1).id ≠ (fin L.reverse[k + 1].1).id) :
    Calls Tryz.prog 35 #[.pointer (some ⟨g, 0, none⟩), ndV (fin s)] W fun e W' => ∃ va vl vc L, e = .returned (.slice va vl vc) ∧ L.length = vl ∧ PathR fin C s (fin s).til L ∧ W'.ownsRow W.heap.size 40 3 (.slice va vl vc) vl (L.reverse.flatMap (lgX fin)) ∧ vl + 1 ≤ 2 * szN C fuel s ∧ Below W.heap.size W W' := by
  have BK : Hid (∀ V, Upd (fun k => base ≤ k) W0 V → Calls Tryz.prog 68 #[.pointer (some ⟨g, 0, none⟩), ndV (fin s), .int .i64 (fin s).til, .slice none 0 0] V (RbP base V fin C (.slice none 0 0) [] fuel s (fin s).til)) := fun V hV => rBack_any base g W0 fin C n E fuel V s (fin s).til none 0 0 [] hD hs rfl (World.ownsRow_nil _ _ _ _) (by simpa using hlen) hV
  have B1 := BK.out _ (hU.alloc (.cells (ndL (fin s)).toArray 48))
  have HAD : Hid (∀ L, PathR fin C s (fin s).til L → ∀ k (h : k + 1 < L.reverse.length), (fin L.reverse[k].1).id ≠ (fin L.reverse[k + 1].1).id) := hadj
  clear BK hadj E hD hs hU
  unfold ndV at B1 ⊢
  go_enter Tryz.func35, Tryz.ntmps35
  go_wp2_with (go_at_call 68; refine B1.mono ?_; clear B1; rintro e w1 ⟨la, ll, lc, L, rfl, hO, hP, hl⟩)
  rw [List.nil_append] at hO
  have hll : ll ≤ 4000 := by have := hO.len; omega
  have hbw : Below W.heap.size W w1 := ((Below.refl W.heap.size W).alloc (Nat.le_refl _) _).trans (hO.upd.below (by simp) (fun k hk e => by simp [Value.ownBlock] at e))
  have HF : Hid (PathR fin C s (fin s).til L ∧ L.length = ll ∧ Below W.heap.size W w1) := ⟨hP, hO.len, hbw⟩
  have HZL : Hid (ll + 1 ≤ 2 * szN C fuel s) := (by have := hO.len; omega : ll + 1 ≤ 2 * szN C fuel s)
  have HC : Hid (∀ p (hp : p < L.length), ∃ lb, la = some ⟨lb, 0, none⟩ ∧ ∀ V, Below w1.heap.size w1 V → V.rangeAt lb (p * 3) (lgX fin L[p])) := fun p hp => by
    obtain ⟨lb, cap, e1, _, hr⟩ := RwG.of_owns hO.own hO.len (by have := hO.len; omega)
    injection e1 with e1 _ _
    exact ⟨lb, e1, fun V hb => (hr.below hb).range (fun _ => rfl) p hp⟩
  have HS0 : Hid (RpI w1 fin L 0 none 0 w1) := ⟨World.ownsRow_nil _ _ _ _, Below.refl _ _⟩
  have hw0 : wrap64 ((ll : Int) - 1) = (ll : Int) - 1 := by unfold wrap64; omega
  rw [hw0]
  clear hO hP hl hbw hlen hw0
  go_loopw [6, 7] (fun z6 z7 wr => ∃ (j : Nat) (va : Option Addr) (vc : Nat), z6 = .slice va j vc ∧ z7 = .int .i64 ((ll : Int) - 1 - (j : Int)) ∧ j ≤ ll ∧ Hid (RpI w1 fin L j va vc wr)) (fun _ z7 _ => (intOf z7 + 1).toNat)
  case atStart => exact ⟨0, none, 0, rfl, by simp, by omega, HS0⟩
  case round =>
    clear HS0
    obtain ⟨j, va, vc, rfl, rfl, hj, HR⟩ := hrel
    by_cases hlt : j < ll
    · obtain ⟨p, hp⟩ : ∃ p : Nat, (ll : Int) - 1 - (j : Int) = (p : Int) := ⟨ll - 1 - j, by omega⟩
      have hpL : p < L.length := by have := HF.out.2.1; omega
      have hjR : j < L.reverse.length := by rw [List.length_reverse]; have := HF.out.2.1; omega
      have eR : L.reverse[j] = L[p] := by
        rw [List.getElem_reverse]
        congr 1
        have := HF.out.2.1
        omega
      have HT : Hid (L.reverse.take (j + 1) = L.reverse.take j ++ [L[p]]) := by
        show _ = _
        rw [List.take_add_one, List.getElem?_eq_getElem hjR, eR]
        rfl
      obtain ⟨lb, rfl, hrg⟩ := HC.out p hpL
      have HPV : Hid (j ≠ 0 → ∃ ob, va = some ⟨ob, 0, none⟩ ∧ ∃ o : Int, o ≠ (fin L[p].1).id ∧ wr.cell? ⟨ob, (j - 1) * 3, none⟩ = some (.int .u64 o)) := fun h0 => by
        have hlen : (L.reverse.take j).length = j := by rw [List.length_take]; omega
        obtain ⟨ob, cap, e1, _, hr⟩ := RwG.of_owns HR.out.1 hlen (by omega)
        injection e1 with e1 _ _
        refine ⟨ob, e1, (fin L.reverse[j - 1].1).id, ?_, ?_⟩
        · have := HAD.out L HF.out.1 (j - 1) (by omega)
          have e2 : j - 1 + 1 = j := by omega
          simp only [e2] at this
          rw [eR] at this
          exact this
        · have := hr.cell (fun _ => rfl) (j - 1) (by omega) 0 (u := .int .u64 (fin L.reverse[j - 1].1).id) (by simp [lgX])
          rwa [Nat.add_zero] at this
      generalize L[p] = l at *
      have r0 : wr.cell? ⟨lb, p * 3, none⟩ = some (.int .u64 (fin l.1).id) := (hrg wr HR.out.2) 0 _ rfl
      have r1 : wr.cell? ⟨lb, p * 3 + 1, none⟩ = some (.int .i64 l.2.1) := (hrg wr HR.out.2) 1 _ rfl
      have r2 : wr.cell? ⟨lb, p * 3 + 2, none⟩ = some (.int .i64 l.2.2) := (hrg wr HR.out.2) 2 _ rfl
      have HRG : Hid (∀ k, (wr.drewN k).rangeAt lb (p * 3) (lgX fin l)) := fun k => hrg _ (below_drewN HR.out.2 k)
      have hp0 : ¬ (p : Int) < 0 := by omega
      have hpl : (p : Int) < (ll : Int) := by omega
      have HP : Hid ((ll : Int) - 1 - (j : Int) = (p : Int)) := hp
      rw [hp]
      clear hrg hp eR
      by_cases h0 : j = 0
      · subst h0
        go_upto_region 7 with fail
        go_quiet (fail)
        obtain ⟨V, hV⟩ : ∃ X, wr.drewN nq = X := ⟨_, rfl⟩
        have HBV : Hid (Below wr.heap.size wr V) := by rw [← hV]; exact below_drewN (Below.refl _ _) nq
        have HVG : Hid (V.rangeAt lb (p * 3) (lgX fin l)) := by rw [← hV]; exact HRG.out nq
        rw [hV]
        clear hV r0 r1 r2
        have s0 : V.cell? ⟨lb, p * 3, none⟩ = some (.int .u64 (fin l.1).id) := HVG.out 0 _ rfl
        have s1 : V.cell? ⟨lb, p * 3 + 1, none⟩ = some (.int .i64 l.2.1) := HVG.out 1 _ rfl
        have s2 : V.cell? ⟨lb, p * 3 + 2, none⟩ = some (.int .i64 l.2.2) := HVG.out 2 _ rfl
        have HOV : Hid (V.ownsRow w1.heap.size 40 3 (.slice va 0 vc) 0 ((L.reverse.take 0).flatMap (lgX fin)) ∧ Below w1.heap.size w1 V) := ⟨ownsRow_upd HR.out.1 (Upd.ofBelow (S := fun _ => False) HBV.out (fun k h1 h2 => by omega)) (fun _ _ h => h), HR.out.2.trans (HBV.out.mono HR.out.2.size)⟩
        go_wp2_with (at_builtin; refine wpList_appG fin V rfl _ _ rfl w1.heap.size (.slice va 0 vc) (0) (L.reverse.take (0)) l rfl HOV.out.1 V.heap.size rfl rfl (by omega) HOV.out.2.size ?_; intro va9 vc9 w9 o9 u9 m9; have F9 : Hid (RpI w1 fin L (0 + 1) va9 vc9 w9) := ⟨by rw [HT.out]; exact o9, HOV.out.2.trans (u9.below HOV.out.2.size (fun q hq e => by have := (owns_lt HR.out.1 e).1; omega))⟩; clear o9 u9 m9)
        go_roundw
        case rel => exact ⟨0 + 1, va9, vc9, rfl, by have := HP.out; go_num, by omega, F9⟩
        case measure => (simp [intOf])
      · obtain ⟨ob, rfl, o, hne, hc⟩ := HPV.out h0
        obtain ⟨j', rfl⟩ : ∃ j', j = j' + 1 := ⟨j - 1, by omega⟩
        rw [Nat.add_sub_cancel] at hc
        have de : (o == (fin l.1).id) = false := by simp [hne]
        have dj : decide ((0 : Int) < ((j' + 1 : Nat) : Int)) = true := decide_eq_true (by omega)
        have hsub : ((j' + 1 : Nat) : Int) - 1 = (j' : Int) := by omega
        have hj3 : (j' : Int) < ((j' + 1 : Nat) : Int) := by omega
        clear hne h0
        go_upto_region 7 with fail
        go_quiet (fail)
        obtain ⟨V, hV⟩ : ∃ X, wr.drewN nq = X := ⟨_, rfl⟩
        have HBV : Hid (Below wr.heap.size wr V) := by rw [← hV]; exact below_drewN (Below.refl _ _) nq
        have HVG : Hid (V.rangeAt lb (p * 3) (lgX fin l)) := by rw [← hV]; exact HRG.out nq
        rw [hV]
        clear hV r0 r1 r2
        have s0 : V.cell? ⟨lb, p * 3, none⟩ = some (.int .u64 (fin l.1).id) := HVG.out 0 _ rfl
        have s1 : V.cell? ⟨lb, p * 3 + 1, none⟩ = some (.int .i64 l.2.1) := HVG.out 1 _ rfl
        have s2 : V.cell? ⟨lb, p * 3 + 2, none⟩ = some (.int .i64 l.2.2) := HVG.out 2 _ rfl
        have HOV : Hid (V.ownsRow w1.heap.size 40 3 (.slice (some ⟨ob, 0, none⟩) (j' + 1) vc) (j' + 1) ((L.reverse.take (j' + 1)).flatMap (lgX fin)) ∧ Below w1.heap.size w1 V) := ⟨ownsRow_upd HR.out.1 (Upd.ofBelow (S := fun _ => False) HBV.out (fun k h1 h2 => by omega)) (fun _ _ h => h), HR.out.2.trans (HBV.out.mono HR.out.2.size)⟩
        go_wp2_with (at_builtin; refine wpList_appG fin V rfl _ _ rfl w1.heap.size (.slice (some ⟨ob, 0, none⟩) (j' + 1) vc) (j' + 1) (L.reverse.take (j' + 1)) l rfl HOV.out.1 V.heap.size rfl rfl (by omega) HOV.out.2.size ?_; intro va9 vc9 w9 o9 u9 m9; have F9 : Hid (RpI w1 fin L (j' + 1 + 1) va9 vc9 w9) := ⟨by rw [HT.out]; exact o9, HOV.out.2.trans (u9.below HOV.out.2.size (fun q hq e => by have := (owns_lt HR.out.1 e).1; omega))⟩; clear o9 u9 m9)
        go_roundw
        case rel => exact ⟨j' + 1 + 1, va9, vc9, rfl, by have := HP.out; go_num, by omega, F9⟩
        case measure => (simp [intOf])
    · obtain rfl : j = ll := by omega
      have hp : (j : Int) - 1 - (j : Int) = -1 := by omega
      rw [hp]
      go_wp2
      go_ret
      refine ⟨va, j, vc, L, rfl, HF.out.2.1, HF.out.1, ?_, HZL.out, HF.out.2.2.trans (HR.out.2.mono HF.out.2.2.size)⟩
      have := HR.out.1
      rw [List.take_of_length_le (by rw [List.length_reverse]; have := HF.out.2.1; omega)] at this
      exact ownsRow_base this (fun q e => by have := (owns_lt HR.out.1 e).1; have := HF.out.2.2.size; omega)
end Go.Proofs.YtobjjdggjgnfcaaGreatDoor

namespace Go.Proofs.YtobjjdggjgnfcaaGreatDoor
open Go Go.RowKit
set_option maxRecDepth 100000

theorem renv_of {Y : List Sp} {C : List Int} {dp : Nat → Nat} {fin : Nat → Nod} {X : List Spot} {K : Nat → List Int} {R : List Int} (h : FoB Y C dp fin X K R) (hpar : ∀ i, i < Y.length → (fin i).org ≠ 0 → (fin i).par = 0) {W0 : World} {g : Nat} {sa : Option Addr} {sc : Nat} {L : List Sq} {nb cn : Nat} {V : List Nod} (hZ : RZ W0 g sa sc L nb cn V X) {oa : Option Addr} {oc : Nat} {O : List Nat} (hO : OrdZ W0 g oa oc X.length O) : REnv W0.heap.size g W0 fin (cnK fin K) Y.length := by
  have hl := h.fo.len
  refine ⟨fun V' hu s hs t => ?_, fun s hs c hc => ?_, Nat.le_refl _⟩
  · have hb : Below W0.heap.size W0 V' := hu.below (Nat.le_refl _) (fun k hk h => by omega)
    refine (rLast_any V' (hZ.below hb) (hO.below hb) (fin s).id t).mono ?_
    rintro e w' ⟨d, en, b, rfl, hL, hb'⟩
    exact ⟨d, en, b, rfl, LastB.await h hs (kids_ord h hpar hs (fun i => by rw [hO.mem i, hl])) hL, hb'⟩
  · have : c ∈ knK K s := by unfold cnK at hc; exact (List.mem_filter.1 hc).1
    exact ((h.mem s hs c).1 this).1
theorem adj_of {Y : List Sp} {C : List Int} {dp : Nat → Nat} {fin : Nat → Nod} {X : List Spot} {K : Nat → List Int} {R : List Int} (h : FoB Y C dp fin X K R) {s : Nat} (hs : s < Y.length) (L : List (Nat × Int × Int)) (hP : PathR fin (cnK fin K) s (fin s).til L) (k : Nat) (hk : k + 1 < L.reverse.length) : (fin L.reverse[k].1).id ≠ (fin L.reverse[k + 1].1).id := by
  obtain ⟨t1, t2⟩ := h.legs hs hP
  have tile : ∀ j (hj : j ≤ L.reverse.length), ∃ a, TileF (fin s).til a (L.reverse.drop j) := fun j => by
    induction j with
    | zero => exact fun _ => ⟨_, t1⟩
    | succ j ih =>
      intro hj
      obtain ⟨a, ha⟩ := ih (by omega)
      exact ⟨_, (t2 j (by omega) a ha).2.1⟩
  obtain ⟨a, ha⟩ := tile (k + 1) (by omega)
  have := (t2 (k + 1) hk a ha).2.2.adj (by omega) (by omega)
  simpa using this
theorem rPath_of {Y : List Sp} {C : List Int} {dp : Nat → Nat} {fin : Nat → Nod} {X : List Spot} {K : Nat → List Int} {R : List Int} (h : FoB Y C dp fin X K R) (hpar : ∀ i, i < Y.length → (fin i).org ≠ 0 → (fin i).par = 0) {W : World} {g : Nat} {sa : Option Addr} {sc : Nat} {L : List Sq} {nb cn : Nat} {V : List Nod} (hZ : RZ W g sa sc L nb cn V X) {oa : Option Addr} {oc : Nat} {O : List Nat} (hO : OrdZ W g oa oc X.length O) (s : Nat) (hs : s < Y.length) :
    Calls Tryz.prog 35 #[.pointer (some ⟨g, 0, none⟩), ndV (fin s)] W fun e W' => ∃ va vl vc L, e = .returned (.slice va vl vc) ∧ L.length = vl ∧ PathR fin (cnK fin K) s (fin s).til L ∧ W'.ownsRow W.heap.size 40 3 (.slice va vl vc) vl (L.reverse.flatMap (lgX fin)) ∧ vl ≤ 2000 ∧ Below W.heap.size W W' := by
  have T := h.senv s hs
  have hsz := szN_le T.cn 1001 s
  have hln := T.ln
  refine (rPath_any W.heap.size g W fin (cnK fin K) Y.length (renv_of h hpar hZ hO) 1001 W s (DeepN_sub (fun y c hc => by rw [T.cn y] at hc; exact (List.mem_filter.1 hc).1) 1001 _ _ T.dp (fun y hy => hy)) hs (by omega) (Upd.refl _ _) (fun L hP k hk => adj_of h hs L hP k hk)).mono ?_
  rintro e W' ⟨va, vl, vc, L, h1, h2, h3, h4, h5, h6⟩
  exact ⟨va, vl, vc, L, h1, h2, h3, h4, by omega, h6⟩
end Go.Proofs.YtobjjdggjgnfcaaGreatDoor

namespace Go.Proofs.YtobjjdggjgnfcaaGreatDoor
open Go Go.RowKit
set_option maxRecDepth 100000

end Go.Proofs.YtobjjdggjgnfcaaGreatDoor
