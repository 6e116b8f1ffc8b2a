/-
  Contracts: same: spans whose numbers, texts and lengths are the same (written by gen_yt.py).
-/
import Derived.Test.YtioibllopidilaaDoorZf
import Derived.Test.YtioibllopidilaaDoorZs
import Derived.BigQuiet
namespace Go.Proofs.YtioibllopidilaaDoor
open Go.RowKit
set_option maxRecDepth 100000

theorem list_eq_of {α : Type} {X Y : List α} {n : Nat} (hX : X.length = n) (hY : Y.length = n) (h : ∀ i, i < n → X[i]? = Y[i]?) : X = Y := by
  apply List.ext_getElem?
  intro i
  by_cases hi : i < n
  · exact h i hi
  · rw [List.getElem?_eq_none (by omega), List.getElem?_eq_none (by omega)]
theorem attr_ne {x y : AttrD} (h : x ≠ y) : decide (x.key = y.key ∧ x.kind = y.kind ∧ x.text = y.text ∧ x.num = y.num) = false := decide_eq_false (fun e => h (AttrD.ext' e.1 e.2.1 e.2.2.1 e.2.2.2))
theorem event_ne {x y : EventD} (h : x ≠ y) : decide (x.moment = y.moment ∧ x.name = y.name) = false := decide_eq_false (fun e => h (EventD.ext' e.1 e.2))
set_option maxHeartbeats 4000000 in
theorem same_eq (hi lo id par : Int) (svc op : ByteArray) (kd st s0 f0 : Int) (la : Option Addr) (lc : Nat) (aa : Option Addr) (ac : Nat) (ea : Option Addr) (ec : Nat) (la' : Option Addr) (lc' : Nat) (aa' : Option Addr) (ac' : Nat) (ea' : Option Addr) (ec' : Nat)
    (X X' : List Int) (A A' : List AttrD) (E E' : List EventD) (n m l : Nat) (hn : X.length = n) (hn' : X'.length = n) (hm : A.length = m) (hm' : A'.length = m) (hl : E.length = l) (hl' : E'.length = l)
    (sl : n ≤ 140737488355328) (sa : m ≤ 140737488355328) (se : l ≤ 140737488355328) (w : World)
    (hL : HoldsV w la n (intsV .u64 X)) (hL' : HoldsV w la' n (intsV .u64 X')) (hA : AttrsAt w aa m A) (hA' : AttrsAt w aa' m A') (hE : EventsAt w ea l E) (hE' : EventsAt w ea' l E') (R : Bool) (hR : R = true ↔ (X = X' ∧ A = A' ∧ E = E')) :
    Calls Tryd.prog 10 #[.agg #[.int .u64 hi, .int .u64 lo, .int .u64 id, .int .u64 par, .slice la n lc, .string svc, .string op, .int .i64 kd, .int .i64 st, .int .i64 s0, .int .i64 f0, .slice aa m ac, .slice ea l ec], .agg #[.int .u64 hi, .int .u64 lo, .int .u64 id, .int .u64 par, .slice la' n lc', .string svc, .string op, .int .i64 kd, .int .i64 st, .int .i64 s0, .int .i64 f0, .slice aa' m ac', .slice ea' l ec']] w fun e w' => e = .returned (.bool R) ∧ Below w.heap.size w w' := by
  have B2 : Below w.heap.size w ((w.alloc (.cells #[.int .u64 hi, .int .u64 lo, .int .u64 id, .int .u64 par, .slice la n lc, .string svc, .string op, .int .i64 kd, .int .i64 st, .int .i64 s0, .int .i64 f0, .slice aa m ac, .slice ea l ec] 33)).alloc (.cells #[.int .u64 hi, .int .u64 lo, .int .u64 id, .int .u64 par, .slice la' n lc', .string svc, .string op, .int .i64 kd, .int .i64 st, .int .i64 s0, .int .i64 f0, .slice aa' m ac', .slice ea' l ec'] 33)) := ((Below.refl _ _).alloc (Nat.le_refl _) _).alloc (by simp) _
  have HR : Hid (R = true ↔ (X = X' ∧ A = A' ∧ E = E')) := hR
  have HX : Hid (X.length = n ∧ X'.length = n) := ⟨hn, hn'⟩
  have HA : Hid (A.length = m ∧ A'.length = m) := ⟨hm, hm'⟩
  have HE : Hid (E.length = l ∧ E'.length = l) := ⟨hl, hl'⟩
  have gT := guard_trace
  have gA := guard_attr
  have gE := guard_event
  have NT2 : ∀ W, (binOp .neq 25 (.agg #[.int .u64 hi, .int .u64 lo]) (.agg #[.int .u64 hi, .int .u64 lo])).run Tryd.prog W = .ok (.bool false) W := fun W => by rw [run_neq_of (eqI_trace 9998 hi lo hi lo W), decide_eq_true ⟨rfl, rfl⟩]; rfl
  have HhL : Hid (HoldsV w la n (intsV .u64 X) ∧ HoldsV w la' n (intsV .u64 X')) := ⟨hL, hL'⟩
  have HhA : Hid (AttrsAt w aa m A ∧ AttrsAt w aa' m A') := ⟨hA, hA'⟩
  have HhE : Hid (EventsAt w ea l E ∧ EventsAt w ea' l E') := ⟨hE, hE'⟩
  clear hR hn hn' hm hm' hl hl' hL hL' hA hA' hE hE'
  go_enter Tryd.func10, Tryd.ntmps10
  go_wp2
  go_loopw [5] (fun a wr => ∃ (k c : Nat), a = .int .i64 k ∧ k ≤ n ∧ (∀ i, i < k → X[i]? = X'[i]?) ∧ wr = ((w.alloc (.cells #[.int .u64 hi, .int .u64 lo, .int .u64 id, .int .u64 par, .slice la n lc, .string svc, .string op, .int .i64 kd, .int .i64 st, .int .i64 s0, .int .i64 f0, .slice aa m ac, .slice ea l ec] 33)).alloc (.cells #[.int .u64 hi, .int .u64 lo, .int .u64 id, .int .u64 par, .slice la' n lc', .string svc, .string op, .int .i64 kd, .int .i64 st, .int .i64 s0, .int .i64 f0, .slice aa' m ac', .slice ea' l ec'] 33)).drewN c) (fun a _ => n - (intOf a).toNat)
  case atStart => exact ⟨0, 0, rfl, by omega, fun i hi => by omega, rfl⟩
  case round =>
    obtain ⟨k, c, rfl, hk, hp, rfl⟩ := hrel
    have HP : Hid (∀ i, i < k → X[i]? = X'[i]?) := hp
    clear hp
    by_cases hlt : k < n
    · have k1 : k < X.length := by rw [HX.out.1]; exact hlt
      have k2 : k < X'.length := by rw [HX.out.2]; exact hlt
      obtain ⟨b1, o1, rfl, hc1⟩ := HhL.out.1.plain (intsV_get (k := .u64) k1)
      obtain ⟨b2, o2, rfl, hc2⟩ := HhL.out.2.plain (intsV_get (k := .u64) k2)
      have hcx := hc1 k _ (intsV_get (k := .u64) k1)
      have hcy := hc2 k _ (intsV_get (k := .u64) k2)
      obtain ⟨x, hx⟩ : ∃ x, X[k] = x := ⟨_, rfl⟩
      obtain ⟨y, hy⟩ : ∃ y, X'[k] = y := ⟨_, rfl⟩
      rw [hx] at hcx
      rw [hy] at hcy
      have l1 := World.block_lt_of_cell? w _ hcx
      have l2 := World.block_lt_of_cell? w _ hcy
      have HK : Hid (X[k]? = some x ∧ X'[k]? = some y) := ⟨by rw [List.getElem?_eq_getElem k1, hx], by rw [List.getElem?_eq_getElem k2, hy]⟩
      have i1 : (k : Int) < (n : Int) := by omega
      clear k1 k2 hc1 hc2 hx hy HhL HhA HhE
      by_cases hxy : x = y
      · subst hxy

        go_wp2
        go_quiet (fail)
        go_wp2
        go_roundw
        case rel => exact ⟨k + 1, _, by go_num, by omega, fun i hi => (by
          by_cases e : i = k
          · subst e; rw [HK.out.1, HK.out.2]
          · exact HP.out i (by omega)), rfl⟩
        case measure => simp [intOf]; omega
      · have FIN : Hid (R = false) := by
          show R = false
          cases hRR : R with
          | false => rfl
          | true =>
            have e := HR.out.1 hRR
            have h1 := HK.out.1
            rw [e.1, HK.out.2] at h1
            injection h1 with h1
            exact absurd h1.symm hxy
        have hne : (x == y) = false := by simpa using hxy
        have hne2 : (x != y) = true := by simpa using hxy
        clear hxy
        go_wp2
        go_quiet (fail)
        go_wp2
        go_ret
        exact ⟨ret_bool FIN.out.symm, by first | exact below_drewN B2 _ | exact below_drewN (below_drewN B2 _) _⟩
    · have EX : Hid (X = X') := list_eq_of HX.out.1 HX.out.2 (fun i hi => HP.out i (by omega))
      have inn : ¬ (k : Int) < (n : Int) := by omega
      clear hlt HP
      go_wp2
      go_loopw [6] (fun a wr => ∃ (k c : Nat), a = .int .i64 k ∧ k ≤ m ∧ (∀ i, i < k → A[i]? = A'[i]?) ∧ wr = ((w.alloc (.cells #[.int .u64 hi, .int .u64 lo, .int .u64 id, .int .u64 par, .slice la n lc, .string svc, .string op, .int .i64 kd, .int .i64 st, .int .i64 s0, .int .i64 f0, .slice aa m ac, .slice ea l ec] 33)).alloc (.cells #[.int .u64 hi, .int .u64 lo, .int .u64 id, .int .u64 par, .slice la' n lc', .string svc, .string op, .int .i64 kd, .int .i64 st, .int .i64 s0, .int .i64 f0, .slice aa' m ac', .slice ea' l ec'] 33)).drewN c) (fun a _ => m - (intOf a).toNat)
      case atStart => exact ⟨0, _, rfl, by omega, fun i hi => by omega, rfl⟩
      case round =>
        obtain ⟨k, c, rfl, hk, hp, rfl⟩ := hrel
        have HP : Hid (∀ i, i < k → A[i]? = A'[i]?) := hp
        clear hp
        by_cases hlt : k < m
        · have k1 : k < A.length := by rw [HA.out.1]; exact hlt
          have k2 : k < A'.length := by rw [HA.out.2]; exact hlt
          obtain ⟨b1, o1, rfl, hc1⟩ := HhA.out.1.lies (by omega)
          obtain ⟨b2, o2, rfl, hc2⟩ := HhA.out.2.lies (by omega)
          have ck := hc1 k k1
          have dk := hc2 k k2
          obtain ⟨x, hx⟩ : ∃ x, A[k] = x := ⟨_, rfl⟩
          obtain ⟨y, hy⟩ : ∃ y, A'[k] = y := ⟨_, rfl⟩
          rw [hx] at ck
          rw [hy] at dk
          obtain ⟨c0, c1, c2, c3⟩ := ck
          obtain ⟨d0, d1, d2, d3⟩ := dk
          have l1 := World.block_lt_of_cell? w _ c0
          have l2 := World.block_lt_of_cell? w _ d0
          have HK : Hid (A[k]? = some x ∧ A'[k]? = some y) := ⟨by rw [List.getElem?_eq_getElem k1, hx], by rw [List.getElem?_eq_getElem k2, hy]⟩
          have i1 : (k : Int) < (m : Int) := by omega
          clear k1 k2 hc1 hc2 hx hy HhL HhA HhE
          by_cases hxy : x = y
          · subst hxy
            have NQ : ∀ W, (binOp .neq 62 (.agg #[.string x.key, .int .i64 x.kind, .string x.text, .int .i64 x.num]) (.agg #[.string x.key, .int .i64 x.kind, .string x.text, .int .i64 x.num])).run Tryd.prog W = .ok (.bool false) W := fun W => by rw [run_neq_of (eqI_attr 9997 x x W), decide_eq_true ⟨rfl, rfl, rfl, rfl⟩]; rfl
            go_wp2
            go_quiet (fail)
            go_wp2
            go_roundw
            case rel => exact ⟨k + 1, _, by go_num, by omega, fun i hi => (by
              by_cases e : i = k
              · subst e; rw [HK.out.1, HK.out.2]
              · exact HP.out i (by omega)), rfl⟩
            case measure => simp [intOf]; omega
          · have FIN : Hid (R = false) := by
              show R = false
              cases hRR : R with
              | false => rfl
              | true =>
                have e := HR.out.1 hRR
                have h1 := HK.out.1
                rw [e.2.1, HK.out.2] at h1
                injection h1 with h1
                exact absurd h1.symm hxy
            have NQ : ∀ W, (binOp .neq 62 (.agg #[.string x.key, .int .i64 x.kind, .string x.text, .int .i64 x.num]) (.agg #[.string y.key, .int .i64 y.kind, .string y.text, .int .i64 y.num])).run Tryd.prog W = .ok (.bool true) W := fun W => by rw [run_neq_of (eqI_attr 9997 x y W), attr_ne hxy]; rfl
            clear hxy
            go_wp2
            go_quiet (fail)
            go_wp2
            go_ret
            exact ⟨ret_bool FIN.out.symm, by first | exact below_drewN B2 _ | exact below_drewN (below_drewN B2 _) _⟩
        · have EA : Hid (A = A') := list_eq_of HA.out.1 HA.out.2 (fun i hi => HP.out i (by omega))
          have imm : ¬ (k : Int) < (m : Int) := by omega
          clear hlt HP
          go_wp2
          go_loopw [7] (fun a wr => ∃ (k c : Nat), a = .int .i64 k ∧ k ≤ l ∧ (∀ i, i < k → E[i]? = E'[i]?) ∧ wr = ((w.alloc (.cells #[.int .u64 hi, .int .u64 lo, .int .u64 id, .int .u64 par, .slice la n lc, .string svc, .string op, .int .i64 kd, .int .i64 st, .int .i64 s0, .int .i64 f0, .slice aa m ac, .slice ea l ec] 33)).alloc (.cells #[.int .u64 hi, .int .u64 lo, .int .u64 id, .int .u64 par, .slice la' n lc', .string svc, .string op, .int .i64 kd, .int .i64 st, .int .i64 s0, .int .i64 f0, .slice aa' m ac', .slice ea' l ec'] 33)).drewN c) (fun a _ => l - (intOf a).toNat)
          case atStart => exact ⟨0, _, rfl, by omega, fun i hi => by omega, rfl⟩
          case round =>
            obtain ⟨k, c, rfl, hk, hp, rfl⟩ := hrel
            have HP : Hid (∀ i, i < k → E[i]? = E'[i]?) := hp
            clear hp
            by_cases hlt : k < l
            · have k1 : k < E.length := by rw [HE.out.1]; exact hlt
              have k2 : k < E'.length := by rw [HE.out.2]; exact hlt
              obtain ⟨b1, o1, rfl, hc1⟩ := HhE.out.1.lies (by omega)
              obtain ⟨b2, o2, rfl, hc2⟩ := HhE.out.2.lies (by omega)
              have ck := hc1 k k1
              have dk := hc2 k k2
              obtain ⟨x, hx⟩ : ∃ x, E[k] = x := ⟨_, rfl⟩
              obtain ⟨y, hy⟩ : ∃ y, E'[k] = y := ⟨_, rfl⟩
              rw [hx] at ck
              rw [hy] at dk
              obtain ⟨c0, c1⟩ := ck
              obtain ⟨d0, d1⟩ := dk
              have l1 := World.block_lt_of_cell? w _ c0
              have l2 := World.block_lt_of_cell? w _ d0
              have HK : Hid (E[k]? = some x ∧ E'[k]? = some y) := ⟨by rw [List.getElem?_eq_getElem k1, hx], by rw [List.getElem?_eq_getElem k2, hy]⟩
              have i1 : (k : Int) < (l : Int) := by omega
              clear k1 k2 hc1 hc2 hx hy HhL HhA HhE
              by_cases hxy : x = y
              · subst hxy
                have NQ : ∀ W, (binOp .neq 64 (.agg #[.int .i64 x.moment, .string x.name]) (.agg #[.int .i64 x.moment, .string x.name])).run Tryd.prog W = .ok (.bool false) W := fun W => by rw [run_neq_of (eqI_event 9998 x.moment x.moment x.name x.name W), decide_eq_true ⟨rfl, rfl⟩]; rfl
                go_wp2
                go_quiet (fail)
                go_wp2
                go_roundw
                case rel => exact ⟨k + 1, _, by go_num, by omega, fun i hi => (by
                  by_cases e : i = k
                  · subst e; rw [HK.out.1, HK.out.2]
                  · exact HP.out i (by omega)), rfl⟩
                case measure => simp [intOf]; omega
              · have FIN : Hid (R = false) := by
                  show R = false
                  cases hRR : R with
                  | false => rfl
                  | true =>
                    have e := HR.out.1 hRR
                    have h1 := HK.out.1
                    rw [e.2.2, HK.out.2] at h1
                    injection h1 with h1
                    exact absurd h1.symm hxy
                have NQ : ∀ W, (binOp .neq 64 (.agg #[.int .i64 x.moment, .string x.name]) (.agg #[.int .i64 y.moment, .string y.name])).run Tryd.prog W = .ok (.bool true) W := fun W => by rw [run_neq_of (eqI_event 9998 x.moment y.moment x.name y.name W), event_ne hxy]; rfl
                clear hxy
                go_wp2
                go_quiet (fail)
                go_wp2
                go_ret
                exact ⟨ret_bool FIN.out.symm, by first | exact below_drewN B2 _ | exact below_drewN (below_drewN B2 _) _⟩
            · have EE : Hid (E = E') := list_eq_of HE.out.1 HE.out.2 (fun i hi => HP.out i (by omega))
              have ill : ¬ (k : Int) < (l : Int) := by omega
              clear hlt HP
              go_wp2
              go_ret
              have FIN : R = true := HR.out.2 ⟨EX.out, EA.out, EE.out⟩
              exact ⟨ret_bool FIN.symm, below_drewN B2 _⟩
end Go.Proofs.YtioibllopidilaaDoor
