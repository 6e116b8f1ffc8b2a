/-
  Contracts: same (written by gen_ys.py).
-/
import Derived.Test.YtioibllopidilaaDoorYt
import Derived.Test.YtioibllopidilaaDoorZp
namespace Go.Proofs.YtioibllopidilaaDoor
open Go.Shelf Go.RowKit
set_option maxRecDepth 100000

theorem same_no (a b : Sp) (h : a ≠ b) : decide (cmpP a b = 0) = false := decide_eq_false (fun e => h ((good_cmpP.eq a b).1 e))
theorem same_yes (a b : Sp) (h : a = b) : decide (cmpP a b = 0) = true := decide_eq_true ((good_cmpP.eq a b).2 h)
set_option maxHeartbeats 4000000 in
theorem same_any (a b : Sp) (p q : Pl) (w : World) (ha : SpAt w a p) (hb : SpAt w b q) :
    Calls Tryd.prog 10 #[spV a p, spV b q] w fun e w' => e = .returned (.bool (decide (cmpP a b = 0))) ∧ Below w.heap.size w w' := by
  have B2 : ∀ o1 o2 : Obj, Below w.heap.size w ((w.alloc o1).alloc o2) := fun o1 o2 => (((Below.refl _ _).alloc (Nat.le_refl _) _).alloc (by simp) _)
  obtain ⟨R, hR⟩ : ∃ R, decide (cmpP a b = 0) = R := ⟨_, rfl⟩
  rw [hR]
  have HR : Hid (decide (cmpP a b = 0) = R) := hR
  clear hR
  obtain ⟨hL, hA, hE, sl, sa, se⟩ := ha
  obtain ⟨hL', hA', hE', sl', sa', se'⟩ := hb
  obtain ⟨la, lc, aa, ac, ea, ec⟩ := p
  obtain ⟨la', lc', aa', ac', ea', ec'⟩ := q
  obtain ⟨hi, lo, id, par, X, svc, op, kd, st, s0, f0, A, E⟩ := a
  obtain ⟨hi', lo', id', par', X', svc', op', kd', st', s0', f0', A', E'⟩ := b
  have gT := guard_trace
  have gA := guard_attr
  have gE := guard_event
  have NT := fun W => run_neq_of (eqI_trace 9998 hi lo hi' lo' W)
  unfold spV spC
  simp only at hL hA hE sl sa se hL' hA' hE' sl' sa' se' HR ⊢
  by_cases h1 : hi = hi' ∧ lo = lo'
  case neg =>
    have NT2 : ∀ W, (binOp .neq 25 (.agg #[.int .u64 hi, .int .u64 lo]) (.agg #[.int .u64 hi', .int .u64 lo'])).run Tryd.prog W = .ok (.bool true) W := fun W => by rw [NT W, decide_eq_false h1]; rfl
    clear NT
    have FIN : Hid (R = false) := HR.out.symm.trans (same_no _ _ (fun e => h1 (by injection e with e1 e2; exact ⟨e1, e2⟩)))
    clear h1 HR hL hA hE hL' hA' hE'
    go_enter Tryd.func10, Tryd.ntmps10
    go_wp2
    go_ret
    exact ⟨ret_bool FIN.out.symm, B2 _ _⟩
  obtain ⟨rfl, rfl⟩ := h1
  have NT2 : ∀ W, (binOp .neq 25 (.agg #[.int .u64 hi, .int .u64 lo]) (.agg #[.int .u64 hi, .int .u64 lo])).run Tryd.prog W = .ok (.bool false) W := fun W => by rw [NT W, decide_eq_true ⟨rfl, rfl⟩]; rfl
  clear NT
  by_cases h_id : id = id'
  case neg =>
    have hne : (id != id') = true := by simpa using h_id
    have hne2 : (id == id') = false := by simpa using h_id
    have FIN : Hid (R = false) := HR.out.symm.trans (same_no _ _ (fun e => h_id (congrArg Sp.id e)))
    clear h_id HR hL hA hE hL' hA' hE'
    go_enter Tryd.func10, Tryd.ntmps10
    go_wp2
    go_ret
    exact ⟨ret_bool FIN.out.symm, B2 _ _⟩
  subst h_id
  by_cases h_par : par = par'
  case neg =>
    have hne : (par != par') = true := by simpa using h_par
    have hne2 : (par == par') = false := by simpa using h_par
    have FIN : Hid (R = false) := HR.out.symm.trans (same_no _ _ (fun e => h_par (congrArg Sp.par e)))
    clear h_par HR hL hA hE hL' hA' hE'
    go_enter Tryd.func10, Tryd.ntmps10
    go_wp2
    go_ret
    exact ⟨ret_bool FIN.out.symm, B2 _ _⟩
  subst h_par
  by_cases h_svc : svc = svc'
  case neg =>
    have hne : (svc.toList == svc'.toList) = false := by simpa using fun e => h_svc (bytes_ext _ _ e)
    have FIN : Hid (R = false) := HR.out.symm.trans (same_no _ _ (fun e => h_svc (congrArg Sp.svc e)))
    clear h_svc HR hL hA hE hL' hA' hE'
    go_enter Tryd.func10, Tryd.ntmps10
    go_wp2
    go_ret
    exact ⟨ret_bool FIN.out.symm, B2 _ _⟩
  subst h_svc
  by_cases h_op : op = op'
  case neg =>
    have hne : (op.toList == op'.toList) = false := by simpa using fun e => h_op (bytes_ext _ _ e)
    have FIN : Hid (R = false) := HR.out.symm.trans (same_no _ _ (fun e => h_op (congrArg Sp.op e)))
    clear h_op HR hL hA hE hL' hA' hE'
    go_enter Tryd.func10, Tryd.ntmps10
    go_wp2
    go_ret
    exact ⟨ret_bool FIN.out.symm, B2 _ _⟩
  subst h_op
  by_cases h_kd : kd = kd'
  case neg =>
    have hne : (kd != kd') = true := by simpa using h_kd
    have hne2 : (kd == kd') = false := by simpa using h_kd
    have FIN : Hid (R = false) := HR.out.symm.trans (same_no _ _ (fun e => h_kd (congrArg Sp.kind e)))
    clear h_kd HR hL hA hE hL' hA' hE'
    go_enter Tryd.func10, Tryd.ntmps10
    go_wp2
    go_ret
    exact ⟨ret_bool FIN.out.symm, B2 _ _⟩
  subst h_kd
  by_cases h_st : st = st'
  case neg =>
    have hne : (st != st') = true := by simpa using h_st
    have hne2 : (st == st') = false := by simpa using h_st
    have FIN : Hid (R = false) := HR.out.symm.trans (same_no _ _ (fun e => h_st (congrArg Sp.status e)))
    clear h_st HR hL hA hE hL' hA' hE'
    go_enter Tryd.func10, Tryd.ntmps10
    go_wp2
    go_ret
    exact ⟨ret_bool FIN.out.symm, B2 _ _⟩
  subst h_st
  by_cases h_s0 : s0 = s0'
  case neg =>
    have hne : (s0 != s0') = true := by simpa using h_s0
    have hne2 : (s0 == s0') = false := by simpa using h_s0
    have FIN : Hid (R = false) := HR.out.symm.trans (same_no _ _ (fun e => h_s0 (congrArg Sp.start e)))
    clear h_s0 HR hL hA hE hL' hA' hE'
    go_enter Tryd.func10, Tryd.ntmps10
    go_wp2
    go_ret
    exact ⟨ret_bool FIN.out.symm, B2 _ _⟩
  subst h_s0
  by_cases h_f0 : f0 = f0'
  case neg =>
    have hne : (f0 != f0') = true := by simpa using h_f0
    have hne2 : (f0 == f0') = false := by simpa using h_f0
    have FIN : Hid (R = false) := HR.out.symm.trans (same_no _ _ (fun e => h_f0 (congrArg Sp.fin e)))
    clear h_f0 HR hL hA hE hL' hA' hE'
    go_enter Tryd.func10, Tryd.ntmps10
    go_wp2
    go_ret
    exact ⟨ret_bool FIN.out.symm, B2 _ _⟩
  subst h_f0
  obtain ⟨n, hn⟩ : ∃ n, X.length = n := ⟨_, rfl⟩
  obtain ⟨n', hn'⟩ : ∃ n, X'.length = n := ⟨_, rfl⟩
  obtain ⟨m, hm⟩ : ∃ n, A.length = n := ⟨_, rfl⟩
  obtain ⟨m', hm'⟩ : ∃ n, A'.length = n := ⟨_, rfl⟩
  obtain ⟨l, hl⟩ : ∃ n, E.length = n := ⟨_, rfl⟩
  obtain ⟨l', hl'⟩ : ∃ n, E'.length = n := ⟨_, rfl⟩
  rw [hn] at hL sl ⊢
  rw [hn'] at hL' sl' ⊢
  rw [hm] at hA sa ⊢
  rw [hm'] at hA' sa' ⊢
  rw [hl] at hE se ⊢
  rw [hl'] at hE' se' ⊢
  by_cases h_n : n = n'
  case neg =>
    have hne : ((n : Int) != (n' : Int)) = true := by simp; omega
    have hne2 : ((n : Int) == (n' : Int)) = false := by simp; omega
    have FIN : Hid (R = false) := HR.out.symm.trans (same_no _ _ (fun e => h_n (by have e2 := congrArg Sp.links e; simp only at e2; rw [← hn, ← hn', e2])))
    clear h_n HR hL hA hE hL' hA' hE'
    go_enter Tryd.func10, Tryd.ntmps10
    go_wp2
    go_ret
    exact ⟨ret_bool FIN.out.symm, B2 _ _⟩
  subst h_n
  by_cases h_m : m = m'
  case neg =>
    have hne : ((m : Int) != (m' : Int)) = true := by simp; omega
    have hne2 : ((m : Int) == (m' : Int)) = false := by simp; omega
    have FIN : Hid (R = false) := HR.out.symm.trans (same_no _ _ (fun e => h_m (by have e2 := congrArg Sp.attrs e; simp only at e2; rw [← hm, ← hm', e2])))
    clear h_m HR hL hA hE hL' hA' hE'
    go_enter Tryd.func10, Tryd.ntmps10
    go_wp2
    go_ret
    exact ⟨ret_bool FIN.out.symm, B2 _ _⟩
  subst h_m
  by_cases h_l : l = l'
  case neg =>
    have hne : ((l : Int) != (l' : Int)) = true := by simp; omega
    have hne2 : ((l : Int) == (l' : Int)) = false := by simp; omega
    have FIN : Hid (R = false) := HR.out.symm.trans (same_no _ _ (fun e => h_l (by have e2 := congrArg Sp.events e; simp only at e2; rw [← hl, ← hl', e2])))
    clear h_l HR hL hA hE hL' hA' hE'
    go_enter Tryd.func10, Tryd.ntmps10
    go_wp2
    go_ret
    exact ⟨ret_bool FIN.out.symm, B2 _ _⟩
  subst h_l
  have HX : R = true ↔ (X = X' ∧ A = A' ∧ E = E') := by
    rw [← HR.out]
    constructor
    · intro h
      have e := (good_cmpP.eq _ _).1 (of_decide_eq_true h)
      exact ⟨congrArg Sp.links e, congrArg Sp.attrs e, congrArg Sp.events e⟩
    · rintro ⟨rfl, rfl, rfl⟩
      exact same_yes _ _ rfl
  exact same_eq hi lo id par svc op kd st s0 f0 la lc aa ac ea ec la' lc' aa' ac' ea' ec' X X' A A' E E' n m l hn hn' hm hm' hl hl' sl sa se w hL hL' hA hA' hE hE' R HX
end Go.Proofs.YtioibllopidilaaDoor
