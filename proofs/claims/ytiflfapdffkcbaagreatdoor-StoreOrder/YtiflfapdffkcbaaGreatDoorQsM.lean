/-
  QsM.
-/
import Derived.Test.YtiflfapdffkcbaaGreatDoorQsL
import Derived.Test.YtiflfapdffkcbaaGreatDoorQsIq
import Derived.Test.YtiflfapdffkcbaaGreatDoorQsEq
import Derived.Deep.CutRange
namespace Go.Proofs.YtiflfapdffkcbaaGreatDoor.qs
open Go Go.RowKit
set_option maxRecDepth 100000

/-- Where a round of the main loop stands. -/
structure StU (w : World) (g : Nat) (R : List Value) (a0 b0 a b n : Nat) (L : List Int) (wr : World) (L1 : List Int) : Prop where
  perm : PermOn a0 b0 L L1
  out : OutU a0 b0 a b L1
  pre : PreU a b L1
  turn : TurnU w wr g R L1
  ha : a0 ≤ a
  hab : a ≤ b
  hb : b ≤ b0
  hn : b0 ≤ n
  hl : L.length = n
  hz : n ≤ 1099511627776
theorem StU.len {w : World} {g : Nat} {R : List Value} {a0 b0 a b n : Nat} {L : List Int} {wr : World} {L1 : List Int} (h : StU w g R a0 b0 a b n L wr L1) : L1.length = n := h.perm.len.trans h.hl
theorem StU.next {w : World} {g : Nat} {R : List Value} {a0 b0 a b n : Nat} {L : List Int} {wr : World} {L1 : List Int} (h : StU w g R a0 b0 a b n L wr L1) {w2 : World} {L2 : List Int} (hp : PermOn a b L1 L2) (ht : TurnU wr w2 g R L2) : StU w g R a0 b0 a b n L w2 L2 := by
  have e := h.len
  have h1 := h.hb
  have h2 := h.hn
  exact ⟨h.perm.trans (hp.mono h.ha h.hb), h.out.perm hp (by omega) h.hb h.ha, h.pre.perm hp (by omega), h.turn.trans ht, h.ha, h.hab, h.hb, h.hn, h.hl, h.hz⟩
theorem StU.below {w : World} {g : Nat} {R : List Value} {a0 b0 a b n : Nat} {L : List Int} {wr : World} {L1 : List Int} (h : StU w g R a0 b0 a b n L wr L1) {w2 : World} (hb : Below wr.heap.size wr w2) : StU w g R a0 b0 a b n L w2 L1 :=
  ⟨h.perm, h.out, h.pre, h.turn.below hb, h.ha, h.hab, h.hb, h.hn, h.hl, h.hz⟩
def PdqP (w : World) (g a b : Nat) (L : List Int) (R : List Value) (e : Ending) (w' : World) : Prop := e = .returned (.tuple #[]) ∧ ∃ L', PermOn a b L L' ∧ SortedOn a b L' ∧ TurnU w w' g R L'
theorem StU.done {w : World} {g : Nat} {R : List Value} {a0 b0 a b n : Nat} {L : List Int} {wr : World} {L1 : List Int} (h : StU w g R a0 b0 a b n L wr L1) {w2 : World} {L2 : List Int} (hp : PermOn a b L1 L2) (hs : SortedOn a b L2) (ht : TurnU wr w2 g R L2) : PdqP w g a0 b0 L R (.returned (.tuple #[])) w2 := by
  have k := h.next hp ht
  exact ⟨rfl, L2, k.perm, k.out.done hs, k.turn⟩
theorem StU.eq {w : World} {g : Nat} {R : List Value} {a0 b0 a b n m : Nat} {L : List Int} {wr : World} {L1 : List Int} {v : Int} (h : StU w g R a0 b0 a b n L wr L1) (ha : 0 < a) (hv : ¬ atL L1 (a - 1) < v) {w2 : World} {L2 : List Int} (hp : PermOn a b L1 L2) (ht : TurnU wr w2 g R L2) (h1 : a < m) (h2 : m ≤ b) (hl : ∀ k, a ≤ k → k < m → ¬ v < atL L2 k) (hr : ∀ k, m ≤ k → k < b → v < atL L2 k) : StU w g R a0 b0 m b n L w2 L2 := by
  have k := h.next hp ht
  have e := h.len
  have e1 := h.hb
  have e2 := h.hn
  have e3 := k.out.eq k.pre ha (v := v) (by rw [hp.out (by omega) (a - 1) (Or.inl (by omega))]; exact hv) h1 h2 hl hr
  have e4 := h.ha
  exact ⟨k.perm, e3.1, e3.2, k.turn, by omega, h2, h.hb, h.hn, h.hl, h.hz⟩
theorem StU.left {w : World} {g : Nat} {R : List Value} {a0 b0 a b n m : Nat} {L : List Int} {wr : World} {L1 : List Int} (h : StU w g R a0 b0 a b n L wr L1) (hP : PartP a b m L1) {w2 : World} {L2 : List Int} (hp : PermOn a m L1 L2) (hs : SortedOn a m L2) (ht : TurnU wr w2 g R L2) : StU w g R a0 b0 (m + 1) b n L w2 L2 := by
  have e := h.len
  have e1 := h.hb
  have e2 := h.hn
  have e4 := h.ha
  have p1 := hP.1
  have p2 := hP.2.1
  have k := h.next (hp.mono (Nat.le_refl _) (by omega)) ht
  have q := hP.permL hp (by omega)
  exact ⟨k.perm, k.out.left q hs, q.preR, k.turn, by omega, by omega, h.hb, h.hn, h.hl, h.hz⟩
theorem StU.right {w : World} {g : Nat} {R : List Value} {a0 b0 a b n m : Nat} {L : List Int} {wr : World} {L1 : List Int} (h : StU w g R a0 b0 a b n L wr L1) (hP : PartP a b m L1) {w2 : World} {L2 : List Int} (hp : PermOn (m + 1) b L1 L2) (hs : SortedOn (m + 1) b L2) (ht : TurnU wr w2 g R L2) : StU w g R a0 b0 a m n L w2 L2 := by
  have e := h.len
  have e1 := h.hb
  have e2 := h.hn
  have e4 := h.ha
  have p1 := hP.1
  have p2 := hP.2.1
  have k := h.next (hp.mono (by omega) (Nat.le_refl _)) ht
  have q := hP.permR hp (by omega)
  exact ⟨k.perm, k.out.right q hs, q.preL k.pre, k.turn, h.ha, p1, by omega, h.hn, h.hl, h.hz⟩
theorem msL {a b m k k0 : Nat} (h : b - a ≤ k ∧ k ≤ k0) (h1 : a ≤ m) (h2 : m < b) : b - (m + 1) < k ∧ b - (m + 1) ≤ k0 := by omega
theorem msR {a b m k k0 : Nat} (h : b - a ≤ k ∧ k ≤ k0) (h1 : a ≤ m) (h2 : m < b) : m - a < k ∧ m - a ≤ k0 := by omega
theorem msQ {a b m k k0 : Nat} (h : b - a ≤ k ∧ k ≤ k0) (h1 : a < m) (h2 : m ≤ b) : b - m < k ∧ b - m ≤ k0 := by omega
set_option maxHeartbeats 64000000 in
theorem pdq_step (g n c : Nat) (R : List Value) (f : Nat) (IH : Hid (∀ (a1 b1 lim1 : Nat) (M : List Int) (W : World), b1 - a1 < f → U64R W g M R → M.length = n → a1 ≤ b1 → b1 ≤ n → n ≤ 1099511627776 → lim1 ≤ 1099511627776 → PreU a1 b1 M → Calls Tryz.prog 64 #[.slice (some ⟨g, 0, none⟩) n c, .int .i64 a1, .int .i64 b1, .int .i64 lim1] W (PdqP W g a1 b1 M R)))
    (a0 b0 lim0 : Nat) (L : List Int) (w : World) (hf : b0 - a0 < f + 1) (h : U64R w g L R) (hn : L.length = n) (hab : a0 ≤ b0) (hb : b0 ≤ n) (hz : n ≤ 1099511627776) (hlim0 : lim0 ≤ 1099511627776) (hpre : PreU a0 b0 L) :
    Calls Tryz.prog 64 #[.slice (some ⟨g, 0, none⟩) n c, .int .i64 a0, .int .i64 b0, .int .i64 lim0] w (PdqP w g a0 b0 L R) := by
    have HF : Hid (b0 - a0 < f + 1) := hf
    have HS : Hid (StU w g R a0 b0 a0 b0 n L w L) := ⟨PermOn.refl _ _ _, OutU.start _ _ _, hpre, TurnU.refl h, Nat.le_refl _, hab, Nat.le_refl _, hb, hn, hz⟩
    have hn40 : (n : Int) ≤ 1099511627776 := by omega
    clear h hn hpre hf hz
    go_enter Tryz.func64, Tryz.ntmps64
    go_wp2
    go_loopg [1, 2, 3, 8, 9] (b0 - a0) (fun k z1 z2 z3 z8 z9 wr => ∃ (a b lim : Nat) (t8 t9 : Bool) (L1 : List Int), z1 = .int .i64 a ∧ z2 = .int .i64 b ∧ z3 = .int .i64 lim ∧ z8 = .bool t8 ∧ z9 = .bool t9 ∧ lim ≤ 1099511627776 ∧ b - a ≤ k ∧ k ≤ b0 - a0 ∧ Hid (StU w g R a0 b0 a b n L wr L1))
    case atStart => exact ⟨a0, b0, lim0, true, true, L, rfl, rfl, rfl, rfl, rfl, hlim0, Nat.le_refl _, Nat.le_refl _, HS⟩
    case round =>
      rename_i J0 K0 hJ0 hK0
      obtain ⟨a, b, lim, t8, t9, L1, rfl, rfl, rfl, rfl, rfl, hlimb, hmk, hmk0, HI⟩ := hrel
      clear HS
      have HK := (show Hid (b - a ≤ _ ∧ _ ≤ b0 - a0) from ⟨hmk, hmk0⟩)
      clear hmk hmk0
      obtain ⟨l, hl⟩ : ∃ l, b - a = l := ⟨_, rfl⟩
      have wl : IntKind.i64.wrap ((b : Int) - (a : Int)) = (l : Int) := by
        have h1 := HI.out.hab
        have h2 := HI.out.hb
        have h3 := HI.out.hn
        have h4 := HI.out.hz
        rw [IntKind.wrap_i64]
        omega
      by_cases h12 : l ≤ 12
      · have h12' : (l : Int) ≤ 12 := by omega
        have S1 := insertion_any g n c a b L1 R wr HI.out.turn.1 HI.out.len HI.out.hab (by have h1 := HI.out.hb; have h2 := HI.out.hn; omega) HI.out.hz
        go_wp2_with (go_at_call 87; (with_reducible refine S1.mono ?_); clear S1; rintro e w1 ⟨L2, rfl, p2, s2, t2⟩; have HE : Hid (PdqP w g a0 b0 L R (.returned (.tuple #[])) w1) := HI.out.done p2 s2 t2; clear HI p2 s2 t2)
        go_end0
        exact HE.out
      · have h12' : ¬ (l : Int) ≤ 12 := by omega
        have HW : Hid (a + 12 < b) := by show a + 12 < b; omega
        have wl8 : ∃ l8 : Nat, IntKind.i64.wrap ((l : Int).tdiv 8) = (l8 : Int) ∧ IntKind.i64.wrap ((l : Int) / 8) = (l8 : Int) := by
          have h2 := HI.out.hb
          have h3 := HI.out.hn
          have h4 := HI.out.hz
          refine ⟨l / 8, ?_, ?_⟩
          · rw [Int.tdiv_eq_ediv_of_nonneg (by omega), IntKind.wrap_i64]; omega
          · rw [IntKind.wrap_i64]; omega
        obtain ⟨l8, wl8a, wl8b⟩ := wl8
        clear hl
        by_cases hlim : lim = 0
        · have S1 := heap_any g n c a b L1 R wr HI.out.turn.1 HI.out.len (by have := HW.out; omega) (by have h1 := HI.out.hb; have h2 := HI.out.hn; omega) HI.out.hz
          subst hlim
          go_wp2_with (go_at_call 88; (with_reducible refine S1.mono ?_); clear S1; rintro e w1 ⟨L2, rfl, p2, s2, t2⟩; have HE : Hid (PdqP w g a0 b0 L R (.returned (.tuple #[])) w1) := HI.out.done p2 s2 t2; clear HI p2 s2 t2)
          go_end0
          exact HE.out
        · have hlimB : ((lim : Int) == 0) = false := by simp; omega
          go_upto_if 35 with fail
          go_cut [3] from 28 to 41 (fun s3 wx => ∃ (lim2 : Nat) (L2 : List Int), s3 = .int .i64 lim2 ∧ lim2 ≤ 1099511627776 ∧ Hid (StU w g R a0 b0 a b n L wx L2))
          case first =>
            rcases t8 with _ | _
            · have S1 := break_any g n c a b L1 R wr HI.out.turn.1 HI.out.len HW.out (by have h1 := HI.out.hb; have h2 := HI.out.hn; omega) HI.out.hz
              obtain ⟨lim1, hlim1⟩ : ∃ lim1, lim - 1 = lim1 := ⟨_, rfl⟩
              have wlim : IntKind.i64.wrap ((lim : Int) - 1) = (lim1 : Int) := by rw [IntKind.wrap_i64]; omega
              have hlimb1 : lim1 ≤ 1099511627776 := by omega
              clear hlim1
              go_wp2_with (go_at_call 89; (with_reducible refine S1.mono ?_); clear S1; rintro e w1 ⟨L2, rfl, p2, t2⟩; have HI2 : Hid (StU w g R a0 b0 a b n L w1 L2) := HI.out.next p2 t2; clear HI p2 t2)
              go_meet
              case rel => exact ⟨lim1, L2, rfl, hlimb1, HI2⟩
            · go_wp2_with fail
              go_meet
              case rel => exact ⟨lim, L1, rfl, hlimb, HI⟩
          case rest =>
            obtain ⟨lim2, L2, rfl, hlimb2, HI'⟩ := hcut
            clear HI hlim hlimB hlimb
            have HI := HI'
            have hlimb := hlimb2
            clear HI' hlimb2
            generalize L2 = L1 at *
            generalize lim2 = lim at *
            have S1 := pivot_any g n c a b L1 R wc HI.out.turn.1 HI.out.len HW.out (by have h1 := HI.out.hb; have h2 := HI.out.hn; omega) HI.out.hz
            go_upto_if 50 with (go_at_call 90; (with_reducible refine S1.mono ?_); clear S1; rintro e w1 ⟨p, v, rfl, hp1, hp2, hb1⟩; have HI2 : Hid (StU w g R a0 b0 a b n L w1 L1) := HI.out.below hb1; have HPv : Hid (a ≤ p ∧ p < b) := ⟨hp1, hp2⟩; clear HI hb1)
            have HI := HI2
            clear HI2 hp1 hp2
            generalize w1 = wc at *
            go_cut [11, 12] from 42 to 60 (fun s11 s12 wx => ∃ (p2 : Nat) (v2 : Int) (L2 : List Int), s11 = .int .i64 p2 ∧ s12 = .int .i64 v2 ∧ Hid (a ≤ p2 ∧ p2 < b) ∧ Hid (StU w g R a0 b0 a b n L wx L2))
            case first =>
              by_cases hv2 : v = 2
              · subst hv2
                have S1 := reverse_any g n c a b L1 R wc HI.out.turn.1 HI.out.len HI.out.hab (by have h1 := HI.out.hb; have h2 := HI.out.hn; omega) HI.out.hz
                obtain ⟨p1, hpp1⟩ : ∃ p1, (b - 1) - (p - a) = p1 := ⟨_, rfl⟩
                have hpb : a ≤ p ∧ p < b ∧ b ≤ 1099511627776 := by
                  have h1 := HI.out.hb
                  have h2 := HI.out.hn
                  have h3 := HI.out.hz
                  have h4 := HPv.out
                  omega
                have wb1 : IntKind.i64.wrap ((b : Int) - 1) = (b : Int) - 1 := by rw [IntKind.wrap_i64]; omega
                have wpa : IntKind.i64.wrap ((p : Int) - (a : Int)) = (p : Int) - (a : Int) := by rw [IntKind.wrap_i64]; omega
                have wpp : IntKind.i64.wrap ((b : Int) - 1 - ((p : Int) - (a : Int))) = (p1 : Int) := by rw [IntKind.wrap_i64]; omega
                have HPv1 : Hid (a ≤ p1 ∧ p1 < b) := by show a ≤ p1 ∧ p1 < b; omega
                clear hpp1 hpb
                go_wp2_with (go_at_call 91; (with_reducible refine S1.mono ?_); clear S1; rintro e w1 ⟨L2, rfl, p2, t2⟩; have HI2 : Hid (StU w g R a0 b0 a b n L w1 L2) := HI.out.next p2 t2; clear HI p2 t2)
                go_meet
                case rel => exact ⟨p1, 1, L2, rfl, rfl, HPv1, HI2⟩
              · have hv2b : (v == 2) = false := by simp; omega
                go_wp2_with fail
                go_meet
                case rel => exact ⟨p, v, L1, rfl, rfl, HPv, HI⟩
            case rest =>
              obtain ⟨p2, v2, L2, rfl, rfl, HPv', HI'⟩ := hcut
              clear HI HPv
              have HI := HI'
              have HPv := HPv'
              clear HI' HPv'
              generalize L2 = L1 at *
              generalize p2 = p at *
              generalize v2 = v at *
              go_upto_region 15 with fail
              obtain ⟨wk3, hwk3⟩ : ∃ wk3, wc = wk3 := ⟨_, rfl⟩
              go_cut [68] from 61 to 68 (fun s68 wx => ∃ t68 : Bool, s68 = .bool t68 ∧ wx = wc)
              case first =>
                clear hwk3
                rcases t8 with _ | _
                · go_wp2_with fail
                  go_meet
                  exact ⟨_, rfl, rfl⟩
                · rcases t9 with _ | _
                  · go_wp2_with fail
                    go_meet
                    exact ⟨_, rfl, rfl⟩
                  · by_cases hv1 : v = 1
                    · subst hv1
                      go_wp2_with fail
                      go_meet
                      exact ⟨_, rfl, rfl⟩
                    · have hv1b : (v == 1) = false := by simp; omega
                      go_wp2_with fail
                      go_meet
                      exact ⟨_, rfl, rfl⟩
              case rest =>
                obtain ⟨t68, rfl, hwx⟩ := hcut
                clear hwk3
                subst hwx
                go_upto_if 68 with fail
                go_cut [] from 68 to 72 (fun wx => ∃ L2, Hid (StU w g R a0 b0 a b n L wx L2))
                case first =>
                  rcases t68 with _ | _
                  · go_wp2_with fail
                    go_meet
                    case rel => exact ⟨L1, HI⟩
                  · have S1 := partial_any g n c a b L1 R wc HI.out.turn.1 HI.out.len (by have := HW.out; omega) (by have h1 := HI.out.hb; have h2 := HI.out.hn; omega) HI.out.hz HI.out.pre
                    go_upto_if 72 with (go_at_call 92; (with_reducible refine S1.mono ?_); clear S1; rintro e w1 ⟨t, L2, rfl, p2, s2, t2⟩; have HI2 : Hid (StU w g R a0 b0 a b n L w1 L2) := HI.out.next p2 t2; have HE : Hid (t = true → PdqP w g a0 b0 L R (.returned (.tuple #[])) w1) := (fun h => HI.out.done p2 (s2 h) t2); clear HI p2 s2 t2)
                    rcases t with _ | _
                    · clear HE
                      go_wp2_with fail
                      go_meet
                      case rel => exact ⟨L2, HI2⟩
                    · have HE2 : Hid (PdqP w g a0 b0 L R (.returned (.tuple #[])) w1) := HE.out rfl
                      clear HE HI2
                      go_wp2
                      go_end0
                      exact HE2.out
                case rest =>
                  obtain ⟨L2, HI'⟩ := hcut
                  clear HI
                  have HI := HI'
                  clear HI'
                  generalize L2 = L1 at *
                  go_upto_region 17 with fail
                  go_cut [87] from 73 to 87 (fun s87 wx => ∃ t87 : Bool, s87 = .bool t87 ∧ Hid (t87 = true → 0 < a ∧ ¬ atL L1 (a - 1) < atL L1 p) ∧ Hid (StU w g R a0 b0 a b n L wx L1))
                  case first =>
                    by_cases ha0 : a = 0
                    · have ha0' : ¬ (0 : Int) < (a : Int) := by omega
                      have ha0n : decide (0 < a) = false := decide_eq_false (by omega)
                      have ha0d : decide ((0 : Int) < (a : Int)) = false := decide_eq_false ha0'
                      have ha0e : decide ((a : Int) > 0) = false := decide_eq_false ha0'
                      clear ha0 ha0'
                      go_quiet (fail)
                      go_wp2_with fail
                      go_meet
                      case rel => exact ⟨false, rfl, (fun h => by cases h), HI.out.below ⟨rfl, rfl, rfl, Nat.le_refl _, fun _ _ => rfl⟩⟩
                    · have ha0' : (0 : Int) < (a : Int) := by omega
                      have ha0n : decide (0 < a) = true := decide_eq_true (by omega)
                      have ha0d : decide ((0 : Int) < (a : Int)) = true := decide_eq_true ha0'
                      have ha0e : decide ((a : Int) > 0) = true := decide_eq_true ha0'
                      obtain ⟨k1, hk1⟩ : ∃ k1, a - 1 = k1 := ⟨_, rfl⟩
                      have hpb : a ≤ p ∧ p < b ∧ b ≤ n ∧ n ≤ 1099511627776 := by
                        have h1 := HI.out.hb
                        have h2 := HI.out.hn
                        have h3 := HI.out.hz
                        have h4 := HPv.out
                        omega
                      have wk : IntKind.i64.wrap ((a : Int) - 1) = (k1 : Int) := by rw [IntKind.wrap_i64]; omega
                      have hk0 : (0 : Int) ≤ (k1 : Int) := by omega
                      have hkn : (k1 : Int) < (n : Int) := by omega
                      have hp0 : (0 : Int) ≤ (p : Int) := by omega
                      have hpn : (p : Int) < (n : Int) := by omega
                      obtain ⟨x, hx⟩ : ∃ x, atL L1 (a - 1) = x := ⟨_, rfl⟩
                      obtain ⟨y, hy⟩ : ∃ y, atL L1 p = y := ⟨_, rfl⟩
                      have KB : ∀ W, Below wc.heap.size wc W → W.cell? ⟨g, k1, none⟩ = some (.int .u64 x) ∧ W.cell? ⟨g, p, none⟩ = some (.int .u64 y) := fun W hW => by
                        have h1 := HI.out.turn.1.below hW
                        have h2 := HI.out.len
                        exact ⟨by rw [← hk1, ← hx]; exact h1.cell (a - 1) (by omega), by rw [← hy]; exact h1.cell p (by omega)⟩
                      have B0 : Below wc.heap.size wc wc.drew := (Below.refl _ _).drew
                      have HXY : Hid (True ∧ atL L1 (a - 1) = x ∧ atL L1 p = y) := ⟨trivial, hx, hy⟩
                      clear hx hy hk1 hpb
                      by_cases hc : x < y
                      · have LS : Hid (∀ W, Calls Tryz.prog 93 #[.int .u64 x, .int .u64 y] W fun e w' => e = .returned (.bool true) ∧ Below W.heap.size W w') := fun W => by
                          have h := less_any x y W
                          rw [show decide (x < y) = true from decide_eq_true hc] at h
                          exact h
                        have HC : Hid (atL L1 (a - 1) < atL L1 p) := by
                          show atL L1 (a - 1) < atL L1 p
                          rw [HXY.out.2.1, HXY.out.2.2]
                          exact hc
                        clear hc HXY
                        go_region_held3 (fun W => W.cell? ⟨g, k1, none⟩ = some (.int .u64 x) ∧ W.cell? ⟨g, p, none⟩ = some (.int .u64 y)) (first | exact KB _ B0 | exact KB _ B1) (first
                          | (go_at_call 93; (with_reducible refine (LS.out _).mono ?_); clear LS; rintro e w1 ⟨rfl, hb1⟩; have B1 : Below wc.heap.size wc w1 := B0.trans (hb1.mono B0.size); clear hb1)
                          | fail)
                        all_goals
                          go_wp2_with fail
                          go_meet
                          exact ⟨false, rfl, (fun h => by cases h), HI.out.below B1⟩
                      · have LS : Hid (∀ W, Calls Tryz.prog 93 #[.int .u64 x, .int .u64 y] W fun e w' => e = .returned (.bool false) ∧ Below W.heap.size W w') := fun W => by
                          have h := less_any x y W
                          rw [show decide (x < y) = false from decide_eq_false hc] at h
                          exact h
                        have HC : Hid (¬ atL L1 (a - 1) < atL L1 p) := by
                          show ¬ atL L1 (a - 1) < atL L1 p
                          rw [HXY.out.2.1, HXY.out.2.2]
                          exact hc
                        clear hc HXY
                        go_region_held3 (fun W => W.cell? ⟨g, k1, none⟩ = some (.int .u64 x) ∧ W.cell? ⟨g, p, none⟩ = some (.int .u64 y)) (first | exact KB _ B0 | exact KB _ B1) (first
                          | (go_at_call 93; (with_reducible refine (LS.out _).mono ?_); clear LS; rintro e w1 ⟨rfl, hb1⟩; have B1 : Below wc.heap.size wc w1 := B0.trans (hb1.mono B0.size); clear hb1)
                          | fail)
                        all_goals
                          go_wp2_with fail
                          go_meet
                          exact ⟨true, rfl, (fun _ => ⟨by omega, HC.out⟩), HI.out.below B1⟩
                  case rest =>
                    obtain ⟨t87, rfl, HC, HI'⟩ := hcut
                    clear HI
                    have HI := HI'
                    clear HI'
                    rcases t87 with _ | _
                    · clear HC
                      have S1 := partition_any g n c a b p L1 R wc HI.out.turn.1 HI.out.len (by have := HW.out; omega) (by have h1 := HI.out.hb; have h2 := HI.out.hn; omega) HI.out.hz HPv.out.1 HPv.out.2
                      go_upto_region 21 with (go_at_call 95; (with_reducible refine S1.mono ?_); clear S1; rintro e w1 ⟨m, t9n, L2, rfl, p2, q2, t2⟩; have HI2 : Hid (StU w g R a0 b0 a b n L w1 L2) := HI.out.next p2 t2; have HQ : Hid (PartP a b m L2) := q2; clear HI p2 q2 t2)
                      obtain ⟨ll, hll⟩ : ∃ ll, m - a = ll := ⟨_, rfl⟩
                      obtain ⟨rr, hrr⟩ : ∃ rr, b - m = rr := ⟨_, rfl⟩
                      obtain ⟨hm1, hm2⟩ : a ≤ m ∧ m < b := ⟨HQ.out.1, HQ.out.2.1⟩
                      have hbn : b ≤ 1099511627776 := by have h1 := HI2.out.hb; have h2 := HI2.out.hn; have h3 := HI2.out.hz; omega
                      have wll : IntKind.i64.wrap ((m : Int) - (a : Int)) = (ll : Int) := by rw [IntKind.wrap_i64]; omega
                      have wrr : IntKind.i64.wrap ((b : Int) - (m : Int)) = (rr : Int) := by rw [IntKind.wrap_i64]; omega
                      have wm1 : IntKind.i64.wrap ((m : Int) + 1) = ((m + 1 : Nat) : Int) := by rw [IntKind.wrap_i64]; omega
                      clear hll hrr
                      by_cases hlr : ll < rr
                      · have hlr' : (ll : Int) < (rr : Int) := by omega
                        have S1 := IH.out a m lim L2 w1 (by have := HF.out; have h1 := HI2.out.ha; have h2 := HI2.out.hb; omega) HI2.out.turn.1 HI2.out.len hm1 (by have h1 := HI2.out.hb; have h2 := HI2.out.hn; omega) HI2.out.hz hlimb (HQ.out.preL HI2.out.pre)
                        go_wp2_with (go_at_call 64; (with_reducible refine S1.mono ?_); clear S1; rintro e w2 ⟨rfl, L3, p2, s2, t2⟩; have HI3 : Hid (StU w g R a0 b0 (m + 1) b n L w2 L3) := HI2.out.left HQ.out p2 s2 t2; clear HI2 p2 s2 t2)
                        refine Handed.intro (b - (m + 1)) ?measure (hJ0 _ _ _ ?_)
                        rotate_left
                        refine (And.left (b := True) ?_)
                        go_big_round
                        refine ⟨?rel, trivial⟩
                        case measure => exact (msL HK.out hm1 hm2).1
                        case rel => exact ⟨m + 1, b, lim, _, _, L3, rfl, rfl, rfl, rfl, rfl, hlimb, Nat.le_refl _, (msL HK.out hm1 hm2).2, HI3⟩
                      · have hlr' : ¬ (ll : Int) < (rr : Int) := by omega
                        have S1 : Calls Tryz.prog 64 #[.slice (some ⟨g, 0, none⟩) n c, .int .i64 ((m : Int) + 1), .int .i64 b, .int .i64 lim] w1 (PdqP w1 g (m + 1) b L2 R) := IH.out (m + 1) b lim L2 w1 (by have := HF.out; have h1 := HI2.out.ha; have h2 := HI2.out.hb; omega) HI2.out.turn.1 HI2.out.len (by omega) (by have h1 := HI2.out.hb; have h2 := HI2.out.hn; omega) HI2.out.hz hlimb HQ.out.preR
                        go_wp2_with (go_at_call 64; (with_reducible refine S1.mono ?_); clear S1; rintro e w2 ⟨rfl, L3, p2, s2, t2⟩; have HI3 : Hid (StU w g R a0 b0 a m n L w2 L3) := HI2.out.right HQ.out p2 s2 t2; clear HI2 p2 s2 t2)
                        refine Handed.intro (m - a) ?measure (hJ0 _ _ _ ?_)
                        rotate_left
                        refine (And.left (b := True) ?_)
                        go_big_round
                        refine ⟨?rel, trivial⟩
                        case measure => exact (msR HK.out hm1 hm2).1
                        case rel => exact ⟨a, m, lim, _, _, L3, rfl, rfl, rfl, rfl, rfl, hlimb, Nat.le_refl _, (msR HK.out hm1 hm2).2, HI3⟩
                    · obtain ⟨ha1, hce⟩ : 0 < a ∧ ¬ atL L1 (a - 1) < atL L1 p := HC.out rfl
                      have HC2 : Hid (¬ atL L1 (a - 1) < atL L1 p) := hce
                      clear HC hce
                      have S1 := partEqual_any g n c a b p L1 R wc HI.out.turn.1 HI.out.len (by have := HW.out; omega) (by have h1 := HI.out.hb; have h2 := HI.out.hn; omega) HI.out.hz HPv.out.1 HPv.out.2
                      go_wp2_with (go_at_call 94; (with_reducible refine S1.mono ?_); clear S1; rintro e w1 ⟨m, L2, rfl, p2, m1, m2, q1, q2, t2⟩; have HI2 : Hid (StU w g R a0 b0 m b n L w1 L2) := HI.out.eq ha1 HC2.out p2 t2 m1 m2 q1 q2; clear HI p2 q1 q2 t2 HC2)
                      refine Handed.intro (b - m) ?measure (hJ0 _ _ _ ?_)
                      rotate_left
                      refine (And.left (b := True) ?_)
                      go_big_round
                      refine ⟨?rel, trivial⟩
                      case measure => exact (msQ HK.out m1 m2).1
                      case rel => exact ⟨m, b, lim, t8, t9, L2, rfl, rfl, rfl, rfl, rfl, hlimb, Nat.le_refl _, (msQ HK.out m1 m2).2, HI2⟩
theorem pdq_any (g n c : Nat) (R : List Value) : ∀ (f a0 b0 lim0 : Nat) (L : List Int) (w : World), b0 - a0 < f → U64R w g L R → L.length = n → a0 ≤ b0 → b0 ≤ n → n ≤ 1099511627776 → lim0 ≤ 1099511627776 → PreU a0 b0 L →
    Calls Tryz.prog 64 #[.slice (some ⟨g, 0, none⟩) n c, .int .i64 a0, .int .i64 b0, .int .i64 lim0] w (PdqP w g a0 b0 L R) := by
  intro f
  induction f with
  | zero => exact fun _ _ _ _ _ hf => absurd hf (by omega)
  | succ f ih => exact pdq_step g n c R f ih
end Go.Proofs.YtiflfapdffkcbaaGreatDoor.qs
