/-
  halt: spend, Spend.
-/
import Derived.Test.YtmepapbbebddiaaCn
namespace Go.Proofs.Ytmepapbbebddiaa
open Go Go.Conc Go.RowKit Go.MuLone

theorem Kin.congr {n₀ : Nat} {S : List Nat} {N N' : Nat → Nd} {pg : Nat → Option Nat} (h : Kin n₀ S N pg) (e : ∀ y, (N' y).up = (N y).up ∧ (N' y).us = (N y).us ∧ (N' y).kids = (N y).kids ∧ (N' y).ug = (N y).ug ∧ (N' y).why = (N y).why) : Kin n₀ S N' pg := by
  constructor
  · exact h.nodup
  · exact h.low
  · intro b hb hw
    rw [(e b).2.2.2.2] at hw
    rw [(e b).1, (e b).2.1, (e b).2.2.1, (e b).2.2.2.1]
    exact h.over b hb hw
  · intro b hb
    rw [(e b).2.2.2.1, (e b).2.2.1, h.gone b hb]
    congr 1
    exact List.filter_congr fun k _ => by rw [(e k).2.2.2.2]
  · intro b hb k hk
    rw [(e b).2.2.1] at hk
    exact h.kid b hb k hk
  · intro b hb
    rw [(e b).2.2.1]; exact h.kidn b hb
  · intro x hx hw
    rw [(e x).2.2.2.2] at hw
    obtain ⟨h1, h2⟩ := h.up x hx hw
    refine ⟨by rw [(e x).1]; exact h1, fun p hp => ?_⟩
    rw [(e p).2.2.2.2, (e p).2.2.1]
    exact h2 p hp
  · exact h.pgl
  · exact h.pgS
/-- A stop's budget is written. -/
theorem Fam.setLeft {w : World} {n₀ lk : Nat} {S : List Nat} {N : Nat → Nd} {pg : Nat → Option Nat} {q : Int} (h : Fam w n₀ lk S N pg q) {b : Nat} (hb : b ∈ S) (l : Int) :
    Fam (w.setCell ⟨b, 7, none⟩ (.int .i64 l)) n₀ lk S (fun y => if y = b then { N y with left := l } else N y) pg q := by
  have hB := h.stop b hb
  have e : ∀ y, ((if y = b then { N y with left := l } else N y : Nd).up = (N y).up) ∧ ((if y = b then { N y with left := l } else N y : Nd).us = (N y).us) ∧ ((if y = b then { N y with left := l } else N y : Nd).kids = (N y).kids) ∧ ((if y = b then { N y with left := l } else N y : Nd).ug = (N y).ug) ∧ ((if y = b then { N y with left := l } else N y : Nd).why = (N y).why) := fun y => by
    by_cases hy : y = b <;> simp [hy]
  have other : ∀ k, k ≠ b → (w.setCell ⟨b, 7, none⟩ (.int .i64 l)).heap[k]? = w.heap[k]? := fun k hk => Below.heap_setCell w ⟨b, 7, none⟩ _ k hk
  exact {
    kin := h.kin.congr e
    lock := h.lock.other _ _ (fun e' => h.ne_lk hb e'.symm)
    lkb := h.lkb
    base := by simpa using h.base
    stop := fun y hy => by
      by_cases hyb : y = b
      · subst hyb
        have := hB.set 7 (.int .i64 l)
        rw [c9_7] at this
        simpa using this
      · simp only [hyb, if_false]
        exact (h.stop y hy).other _ _ hyb
    chan := fun y hy => by
      have h1 := h.chan y hy
      rw [(e y).2.2.2.2]
      unfold ChanAt at h1 ⊢
      rw [other (y - 1) (fun e' => by
        have := hB
        unfold Blk at this
        rw [e', this] at h1
        cases h1)]
      exact h1
    row := fun y hy => by
      rw [(e y).2.1, (e y).2.2.1]
      exact ownsRow_heap (h.row y hy) (fun g hg => other g (ownsRow_ne (h.row y hy) hB (by decide) hg))
    apart := fun y hy y' hy' hne g hg => by
      rw [(e y).2.1] at hg
      rw [(e y').2.1]
      exact h.apart y hy y' hy' hne g hg }

/-- Where a way up stands. -/
def posV : Value → Nat
  | .pointer (some a) => a.block + 1
  | _ => 0
/-- Too little is left. -/
def Short (N : Nat → Nd) (n : Int) (x : Nat) : Prop := 0 ≤ (N x).left ∧ (N x).left < n
/-- The steps are taken. -/
def Nd.spent (d : Nd) (n : Int) : Nd := if 0 ≤ d.left then { d with left := d.left - n } else d

/-- On the way up all live. -/
theorem Kin.way {n₀ : Nat} {S : List Nat} {N : Nat → Nd} {pg : Nat → Option Nat} (h : Kin n₀ S N pg) {s : Nat} (hs : s ∈ S) (hl : (N s).why = 0) : ∀ k x, anc pg k s = some x → x ∈ S ∧ (N x).why = 0 ∧ anc pg (k + 1) s = pg x := by
  have key : ∀ k y x, y ∈ S → (N y).why = 0 → anc pg k y = some x → x ∈ S ∧ (N x).why = 0 ∧ anc pg (k + 1) y = pg x := by
    intro k
    induction k with
    | zero =>
      intro y x hy hy0 h'
      simp only [anc, Option.some.injEq] at h'
      subst h'
      refine ⟨hy, hy0, ?_⟩
      rw [anc]
      cases pg y <;> rfl
    | succ k ih =>
      intro y x hy hy0 h'
      rw [anc] at h' ⊢
      cases hp : pg y with
      | none => rw [hp] at h'; cases h'
      | some p =>
        rw [hp] at h'
        obtain ⟨h1, h2, _⟩ := (h.up y hy hy0).2 p hp
        exact ih p x h1 h2 h'
  exact fun k x => key k s x hs hl
theorem anc_mono {pg : Nat → Option Nat} (hpg : ∀ x p, pg x = some p → p < x) {s j k x y : Nat} (hj : anc pg j s = some x) (hk : anc pg k s = some y) (hlt : j < k) : y < x := by
  obtain ⟨d, rfl⟩ : ∃ d, k = j + (d + 1) := ⟨k - j - 1, by omega⟩
  rw [anc_add j (d + 1) s x hj, anc] at hk
  cases hp : pg x with
  | none => rw [hp] at hk; cases hk
  | some p =>
    rw [hp] at hk
    have := anc_le hpg d p y hk
    have := hpg x p hp
    omega

theorem anc_pred {pg : Nat → Option Nat} : ∀ k s z, anc pg (k + 1) s = some z → anc pg k s ≠ none := by
  intro k
  induction k with
  | zero => intro s z _ h; simp [anc] at h
  | succ k ih =>
    intro s z h
    rw [anc] at h ⊢
    cases hp : pg s with
    | none => rw [hp] at h; cases h
    | some p => rw [hp] at h; exact ih p z h
set_option maxRecDepth 100000 in
set_option maxHeartbeats 400000 in
theorem spend_over {w : World} {n₀ lk : Nat} {S : List Nat} {N : Nat → Nd} {pg : Nat → Option Nat} (h : Fam w n₀ lk S N pg 0) {s : Nat} (hs : s ∈ S) (hl : (N s).why ≠ 0) (n : Int) :
    Calls Try.prog 41 #[ptrV s, .int .i64 n] w fun e w' => e = .returned (.tuple #[.int .i64 (N s).why, .slice none 0 0]) ∧ w' = w := by
  have hf := h.free
  have c0 := (h.stop s hs).cell 0 rfl
  have h1 := h.setLock 1
  have d0 := (h1.stop s hs).cell 0 rfl
  have d6 := (h1.stop s hs).cell 6 rfl
  have hdc : decide ((N s).why ≠ 0) = true := by simp [hl]
  have hbk : (w.setCell ⟨lk, 0, none⟩ (.int .i32 1)).setCell ⟨lk, 0, none⟩ (.int .i32 0) = w := back_cell hf.1
  have hlk1 : (w.setCell ⟨lk, 0, none⟩ (.int .i32 1)).cell? ⟨lk, 0, none⟩ = some (.int .i32 1) := h1.lock.cell 0 rfl
  have hlf1 := h1.lock.frozen 0
  clear h h1
  go_enter_defers Try.func41, Try.ntmps41
  go_wp2_with (first | (go_at_call 36; refine (lock_free Try.muLib ⟨lk, 0, none⟩ _ hf.1 hf.2).mono ?_; rintro e w' ⟨rfl, rfl⟩) | (go_at_call 38; refine (over_any s (N s).why _ d6).mono ?_; rintro e w' ⟨rfl, hw⟩; obtain rfl := hw.symm; rw [hdc]))
  refine leaves_cons (f := 37) (args := #[.pointer (some ⟨lk, 0, none⟩)]) (by simp) (by simp [go_sem]) ?_
  refine (unlock_deferred Try.muLib ⟨lk, 0, none⟩ .returning _ hlk1 hlf1).mono ?_
  rintro e u' w'' ⟨rfl, rfl, rfl⟩
  exact ⟨_, results_tmp2 rfl _ _ _, rfl, hbk⟩

set_option maxRecDepth 100000 in
set_option maxHeartbeats 1000000 in
theorem spend_live {w : World} {n₀ lk : Nat} {S : List Nat} {N : Nat → Nd} {pg : Nat → Option Nat} (h : Fam w n₀ lk S N pg 0) {s : Nat} (hs : s ∈ S) (hl : (N s).why = 0) (n : Int) (hn0 : 0 ≤ n) (hn63 : n ≤ 9223372036854775807) (hlr : ∀ b ∈ S, (N b).left ≤ 9223372036854775807) (hn : S.length * 8 ≤ 140737488355328) :
    Calls Try.prog 41 #[ptrV s, .int .i64 n] w fun e w' =>
      (e = .returned (.tuple #[.int .i64 31, .slice none 0 0]) ∧ ∃ k x N', anc pg k s = some x ∧ Short N n x ∧ (∀ j y, j < k → anc pg j s = some y → ¬ Short N n y) ∧ Fam w' n₀ lk S N' pg 0 ∧ Fell S N N' pg x 31 ∧ Turned w w' lk S N N') ∨
      (e = .returned (.tuple #[.int .i64 0, .slice none 0 0]) ∧ (∀ j y, anc pg j s = some y → ¬ Short N n y) ∧ ∃ N', (∀ y, (∃ j, anc pg j s = some y) → N' y = (N y).spent n) ∧ (∀ y, (¬ ∃ j, anc pg j s = some y) → N' y = N y) ∧ Fam w' n₀ lk S N' pg 0 ∧ Turned w w' lk S N N') := by
  have hf := h.free
  have c0 := (h.stop s hs).cell 0 rfl
  obtain ⟨W1, hW1⟩ : ∃ W1, w.setCell ⟨lk, 0, none⟩ (.int .i32 1) = W1 := ⟨_, rfl⟩
  have h1 : Fam W1 n₀ lk S N pg 1 := by rw [← hW1]; exact h.setLock 1
  have d0 := (h1.stop s hs).cell 0 rfl
  have d6 := (h1.stop s hs).cell 6 rfl
  have hdc : decide ((N s).why ≠ 0) = false := by simp [hl]
  have HU1 : Upd (Foot lk S N) w W1 := by rw [← hW1]; exact (Upd.refl _ w).setCell (p := ⟨lk, 0, none⟩) (fun _ => Or.inl rfl) _
  have hs1 : W1.heap.size = w.heap.size := by rw [← hW1]; simp
  have hway := h.kin.way hs hl
  have HWAY : Hid (∀ k x, anc pg k s = some x → x ∈ S ∧ (N x).why = 0 ∧ anc pg (k + 1) s = pg x) := hway
  have HLR : Hid (∀ b ∈ S, (N b).left ≤ 9223372036854775807) := hlr
  clear hway hlr
  go_enter_defers Try.func41, Try.ntmps41
  go_wp2_with (first | (go_at_call 36; refine (lock_free Try.muLib ⟨lk, 0, none⟩ _ hf.1 hf.2).mono ?_; rintro e w' ⟨rfl, hw⟩; obtain rfl := hw.symm) | (go_at_call 38; refine (over_any s (N s).why _ d6).mono ?_; rintro e w' ⟨rfl, hw⟩; obtain rfl := hw.symm; rw [hdc]))
  go_loopw [6] (fun p wr => ∃ k, p = ptrO (anc pg k s) ∧ wr = W1 ∧ (∀ j y, j < k → anc pg j s = some y → ¬ Short N n y)) (fun p _ => posV p)
  case atStart => exact ⟨0, rfl, rfl, fun j y hj => by omega⟩
  case round =>
    obtain ⟨k, rfl, rfl, hno⟩ := hrel
    cases ha : anc pg k s with
    | some x =>
      obtain ⟨xS, x0, xn⟩ := (show ∀ k x, anc pg k s = some x → x ∈ S ∧ (N x).why = 0 ∧ anc pg (k + 1) s = pg x from HWAY) k x ha
      have g7 : wr.cell? ⟨x, 7, none⟩ = some (.int .i64 (N x).left) := (h1.stop x xS).cell 7 rfl
      have g1 : wr.cell? ⟨x, 1, none⟩ = some (ptrO (N x).up) := (h1.stop x xS).cell 1 rfl
      rw [(h.kin.up x xS x0).1, ← xn] at g1
      rw [show ptrO (some x) = ptrV x from rfl]
      have hmeas : posV (ptrO (anc pg (k + 1) s)) < posV (ptrV x) := by
        cases hb : anc pg (k + 1) s with
        | none => simp [posV]
        | some y =>
          have := anc_mono h.kin.pgl ha hb (by omega)
          show y + 1 < x + 1
          omega
      by_cases hp : 0 ≤ (N x).left
      · by_cases hq : (N x).left < n
        · have HF := fall_any h1 xS x0 31 (by omega) hn
          go_wp2_with (go_at_call 51; refine HF.mono ?_; rintro e w2 ⟨rfl, N', f1, f2, f3, f4⟩)
          refine leaves_cons (f := 37) (args := #[.pointer (some ⟨lk, 0, none⟩)]) (by simp) (by simp [go_sem]) ?_
          refine (unlock_deferred Try.muLib ⟨lk, 0, none⟩ .returning _ (f1.lock.cell 0 rfl) (f1.lock.frozen 0)).mono ?_
          rintro e u' w'' ⟨rfl, rfl, rfl⟩
          refine ⟨_, results_tmp2 rfl _ _ _, Or.inl ⟨rfl, k, x, N', ha, ⟨hp, hq⟩, hno, f1.setLock 0, f2, ⟨?_, fun j hj => ?_⟩⟩⟩
          · exact (HU1.trans f3 (fun _ _ h => h)).setCell (p := ⟨lk, 0, none⟩) (fun _ => Or.inl rfl) _
          · rcases f4 j hj with h' | h'
            · exact Or.inl h'
            · exact Or.inr (by omega)
        · have hno' : ∀ j y, j < k + 1 → anc pg j s = some y → ¬ Short N n y := fun j y hj hy => by
            by_cases hjk : j < k
            · exact hno j y hjk hy
            · obtain rfl : j = k := by omega
              rw [ha] at hy; injection hy with e; subst e
              exact fun hc => hq hc.2
          go_wp2
          go_roundw
          case rel => exact ⟨k + 1, by rw [xn], by simp, hno'⟩
          case measure => rw [← xn]; exact hmeas
      · have hno' : ∀ j y, j < k + 1 → anc pg j s = some y → ¬ Short N n y := fun j y hj hy => by
          by_cases hjk : j < k
          · exact hno j y hjk hy
          · obtain rfl : j = k := by omega
            rw [ha] at hy; injection hy with e; subst e
            exact fun hc => hp hc.1
        go_wp2
        go_roundw
        case rel => exact ⟨k + 1, by rw [xn], by simp, hno'⟩
        case measure => rw [← xn]; exact hmeas
    | none =>
      have hnone : ∀ j y, anc pg j s = some y → ¬ Short N n y := fun j y hy => by
        by_cases hjk : j < k
        · exact hno j y hjk hy
        · obtain ⟨d, rfl⟩ : ∃ d, j = k + d := ⟨j - k, by omega⟩
          exfalso
          have key : ∀ d, anc pg (k + d) s = none := by
            intro d
            induction d with
            | zero => exact ha
            | succ d ih =>
              cases hz : anc pg (k + (d + 1)) s with
              | none => rfl
              | some z =>
                exfalso
                have := anc_pred (k + d) s z hz
                rw [ih] at this
                exact this rfl
          rw [key d] at hy; cases hy
      have HNO : Hid (∀ j y, anc pg j s = some y → ¬ Short N n y) := hnone
      clear hnone hno
      go_wp2
      go_loopw [7] (fun p wx => ∃ k N', p = ptrO (anc pg k s) ∧ Fam wx n₀ lk S N' pg 1 ∧ (∀ y, (∃ j, j < k ∧ anc pg j s = some y) → N' y = (N y).spent n) ∧ (∀ y, (¬ ∃ j, j < k ∧ anc pg j s = some y) → N' y = N y) ∧ Upd (Foot lk S N) w wx) (fun p _ => posV p)
      case atStart => exact ⟨0, N, rfl, h1, fun y ⟨j, hj, _⟩ => by omega, fun _ _ => rfl, HU1⟩
      case round =>
        obtain ⟨k, N', rfl, hF, hH, hM, hU⟩ := hrel
        cases ha : anc pg k s with
        | some x =>
          obtain ⟨xS, x0, xn⟩ := (show ∀ k x, anc pg k s = some x → x ∈ S ∧ (N x).why = 0 ∧ anc pg (k + 1) s = pg x from HWAY) k x ha
          have hfresh : ¬ ∃ j, j < k ∧ anc pg j s = some x := fun ⟨j, hj, hjx⟩ => by
            have := anc_mono h.kin.pgl hjx ha hj
            omega
          have hNx := hM x hfresh
          have g7 : wr.cell? ⟨x, 7, none⟩ = some (.int .i64 (N x).left) := by
            have := (hF.stop x xS).cell 7 rfl
            rw [hNx] at this; exact this
          have g1 : wr.cell? ⟨x, 1, none⟩ = some (ptrO (N x).up) := by
            have := (hF.stop x xS).cell 1 rfl
            rw [hNx] at this; exact this
          have z7 := (hF.stop x xS).frozen 7
          rw [(h.kin.up x xS x0).1, ← xn] at g1
          rw [show ptrO (some x) = ptrV x from rfl]
          have hmeas : posV (ptrO (anc pg (k + 1) s)) < posV (ptrV x) := by
            cases hb : anc pg (k + 1) s with
            | none => simp [posV]
            | some y =>
              have := anc_mono h.kin.pgl ha hb (by omega)
              show y + 1 < x + 1
              omega
          have hsplit : ∀ y, (∃ j, j < k + 1 ∧ anc pg j s = some y) → y = x ∨ ∃ j, j < k ∧ anc pg j s = some y := fun y ⟨j, hj, hy⟩ => by
            by_cases hjk : j < k
            · exact Or.inr ⟨j, hjk, hy⟩
            · obtain rfl : j = k := by omega
              rw [ha] at hy; injection hy with e
              exact Or.inl e.symm
          have hmiss : ∀ y, (¬ ∃ j, j < k + 1 ∧ anc pg j s = some y) → y ≠ x ∧ ¬ ∃ j, j < k ∧ anc pg j s = some y := fun y hy => ⟨fun e => hy ⟨k, by omega, by rw [e]; exact ha⟩, fun ⟨j, hj, hjy⟩ => hy ⟨j, by omega, hjy⟩⟩
          by_cases hp : 0 ≤ (N x).left
          · have hq : ¬ (N x).left < n := fun hc => (show ∀ j y, anc pg j s = some y → ¬ Short N n y from HNO) k x ha ⟨hp, hc⟩
            have hle := (show ∀ b ∈ S, (N b).left ≤ 9223372036854775807 from HLR) x xS
            obtain ⟨l, hl'⟩ : ∃ l, (N x).left - n = l := ⟨_, rfl⟩
            have F2 := hF.setLeft xS l
            have U2 : Upd (Foot lk S N) w (wr.setCell ⟨x, 7, none⟩ (.int .i64 l)) := hU.setCell (p := ⟨x, 7, none⟩) (fun _ => Or.inr (Or.inl xS)) _
            have g1' : (wr.setCell ⟨x, 7, none⟩ (.int .i64 l)).cell? ⟨x, 1, none⟩ = some (ptrO (anc pg (k + 1) s)) := (World.cell?_setCell_other wr ⟨x, 7, none⟩ ⟨x, 1, none⟩ _ (by simp)).trans g1
            have hwl : IntKind.i64.wrap ((N x).left - n) = (N x).left - n := by rw [IntKind.wrap_i64]; omega
            have H2 : ∀ y, (∃ j, j < k + 1 ∧ anc pg j s = some y) → (if y = x then { N' y with left := l } else N' y) = (N y).spent n := fun y hy => by
              by_cases hyx : y = x
              · subst hyx
                rw [if_pos rfl, hNx, Nd.spent, if_pos hp, hl']
              · rw [if_neg hyx]
                rcases hsplit y hy with e | e
                · exact absurd e hyx
                · exact hH y e
            have M2 : ∀ y, (¬ ∃ j, j < k + 1 ∧ anc pg j s = some y) → (if y = x then { N' y with left := l } else N' y) = N y := fun y hy => by
              rw [if_neg (hmiss y hy).1]
              exact hM y (hmiss y hy).2
            clear hH hM hsplit hmiss hF hU
            go_wp2
            go_roundw
            case rel => exact ⟨k + 1, _, by rw [xn], F2, H2, M2, U2⟩
            case measure => rw [← xn]; exact hmeas
          · have H2 : ∀ y, (∃ j, j < k + 1 ∧ anc pg j s = some y) → N' y = (N y).spent n := fun y hy => by
              rcases hsplit y hy with e | e
              · subst e
                rw [hNx, Nd.spent, if_neg hp]
              · exact hH y e
            have M2 : ∀ y, (¬ ∃ j, j < k + 1 ∧ anc pg j s = some y) → N' y = N y := fun y hy => hM y (hmiss y hy).2
            clear hH hM hsplit hmiss
            go_wp2
            go_roundw
            case rel => exact ⟨k + 1, N', by rw [xn], hF, H2, M2, hU⟩
            case measure => rw [← xn]; exact hmeas
        | none =>
          have hend : ∀ j y, anc pg j s = some y → j < k := fun j y hy => by
            by_cases hjk : j < k
            · exact hjk
            · exfalso
              obtain ⟨d, rfl⟩ : ∃ d, j = k + d := ⟨j - k, by omega⟩
              have key : ∀ d, anc pg (k + d) s = none := by
                intro d
                induction d with
                | zero => exact ha
                | succ d ih =>
                  cases hz : anc pg (k + (d + 1)) s with
                  | none => rfl
                  | some z =>
                    exfalso
                    have := anc_pred (k + d) s z hz
                    rw [ih] at this
                    exact this rfl
              rw [key d] at hy; cases hy
          have H2 : ∀ y, (∃ j, anc pg j s = some y) → N' y = (N y).spent n := fun y ⟨j, hy⟩ => hH y ⟨j, hend j y hy, hy⟩
          have M2 : ∀ y, (¬ ∃ j, anc pg j s = some y) → N' y = N y := fun y hy => hM y (fun ⟨j, _, hj⟩ => hy ⟨j, hj⟩)
          have hus : ∀ y, (N' y).us = (N y).us := fun y => by
            by_cases hy : ∃ j, anc pg j s = some y
            · rw [H2 y hy, Nd.spent]; split <;> rfl
            · rw [M2 y hy]
          have foot : ∀ j, Foot lk S N' j → Foot lk S N j := fun j hj => by
            rcases hj with h' | h' | h' | ⟨b, hb, hg⟩
            · exact Or.inl h'
            · exact Or.inr (Or.inl h')
            · exact Or.inr (Or.inr (Or.inl h'))
            · rw [hus b] at hg
              exact Or.inr (Or.inr (Or.inr ⟨b, hb, hg⟩))
          have T2 : Turned w (wr.setCell ⟨lk, 0, none⟩ (.int .i32 0)) lk S N N' := ⟨hU.setCell (p := ⟨lk, 0, none⟩) (fun _ => Or.inl rfl) _, fun j hj => Or.inl (foot j hj)⟩
          have F2 := hF.setLock 0
          have q0 := hF.lock.cell 0 (v := .int .i32 1) rfl
          have q1 := hF.lock.frozen 0
          clear hH hM hend hus foot hU hF
          go_wp2
          refine leaves_cons (f := 37) (args := #[.pointer (some ⟨lk, 0, none⟩)]) (by simp) (by simp [go_sem]) ?_
          refine (unlock_deferred Try.muLib ⟨lk, 0, none⟩ .returning _ q0 q1).mono ?_
          rintro e u' w'' ⟨rfl, rfl, rfl⟩
          exact ⟨_, results_tmp2 rfl _ _ _, Or.inr ⟨rfl, HNO, N', H2, M2, F2, T2⟩⟩

set_option maxRecDepth 100000 in
theorem Spend_over {w : World} {n₀ lk : Nat} {S : List Nat} {N : Nat → Nd} {pg : Nat → Option Nat} (h : Fam w n₀ lk S N pg 0) {s : Nat} (hs : s ∈ S) (hl : (N s).why ≠ 0) (n : Int) (hn0 : 0 ≤ n) :
    Calls Try.prog 18 #[ptrV s, .int .i64 n] w fun e w' => e = .returned (.int .i64 (N s).why) ∧ w' = w := by
  have HC := spend_over h hs hl n
  clear h
  go_enter Try.func18, Try.ntmps18
  go_wp2_with (first | (go_at_call 41; refine HC.mono ?_; rintro e w' ⟨rfl, hw⟩; obtain rfl := hw.symm) | (go_at_call 34; refine (callAll_nil _ _ _).mono ?_; rintro e w' ⟨rfl, hw⟩; obtain rfl := hw.symm))
  go_ret
  exact ⟨rfl, rfl⟩
set_option maxRecDepth 100000 in
set_option maxHeartbeats 400000 in
theorem Spend_live {w : World} {n₀ lk : Nat} {S : List Nat} {N : Nat → Nd} {pg : Nat → Option Nat} (h : Fam w n₀ lk S N pg 0) {s : Nat} (hs : s ∈ S) (hl : (N s).why = 0) (n : Int) (hn0 : 0 ≤ n) (hn63 : n ≤ 9223372036854775807) (hlr : ∀ b ∈ S, (N b).left ≤ 9223372036854775807) (hn : S.length * 8 ≤ 140737488355328) :
    Calls Try.prog 18 #[ptrV s, .int .i64 n] w fun e w' =>
      (e = .returned (.int .i64 31) ∧ ∃ k x N', anc pg k s = some x ∧ Short N n x ∧ (∀ j y, j < k → anc pg j s = some y → ¬ Short N n y) ∧ Fam w' n₀ lk S N' pg 0 ∧ Fell S N N' pg x 31 ∧ Turned w w' lk S N N') ∨
      (e = .returned (.int .i64 0) ∧ (∀ j y, anc pg j s = some y → ¬ Short N n y) ∧ ∃ N', (∀ y, (∃ j, anc pg j s = some y) → N' y = (N y).spent n) ∧ (∀ y, (¬ ∃ j, anc pg j s = some y) → N' y = N y) ∧ Fam w' n₀ lk S N' pg 0 ∧ Turned w w' lk S N N') := by
  have HC : Calls Try.prog 41 #[ptrV s, .int .i64 n] w fun e w' => ∃ r : Int, e = .returned (.tuple #[.int .i64 r, .slice none 0 0]) ∧ ((r = 31 ∧ ∃ k x N', anc pg k s = some x ∧ Short N n x ∧ (∀ j y, j < k → anc pg j s = some y → ¬ Short N n y) ∧ Fam w' n₀ lk S N' pg 0 ∧ Fell S N N' pg x 31 ∧ Turned w w' lk S N N') ∨ (r = 0 ∧ (∀ j y, anc pg j s = some y → ¬ Short N n y) ∧ ∃ N', (∀ y, (∃ j, anc pg j s = some y) → N' y = (N y).spent n) ∧ (∀ y, (¬ ∃ j, anc pg j s = some y) → N' y = N y) ∧ Fam w' n₀ lk S N' pg 0 ∧ Turned w w' lk S N N')) := by
    refine (spend_live h hs hl n hn0 hn63 hlr hn).mono ?_
    rintro e w' (⟨he, hA⟩ | ⟨he, hA⟩)
    · exact ⟨31, he, Or.inl ⟨rfl, hA⟩⟩
    · exact ⟨0, he, Or.inr ⟨rfl, hA⟩⟩
  clear h hlr
  go_enter Try.func18, Try.ntmps18
  go_wp2_with (first | (go_at_call 41; refine HC.mono ?_; rintro e w2 ⟨r, rfl, hA⟩) | (go_at_call 34; refine (callAll_nil _ _ _).mono ?_; rintro e w' ⟨rfl, hw⟩; obtain rfl := hw.symm))
  go_ret
  rcases hA with ⟨rfl, hA⟩ | ⟨rfl, hA⟩
  · exact Or.inl ⟨rfl, hA⟩
  · exact Or.inr ⟨rfl, hA⟩
end Go.Proofs.Ytmepapbbebddiaa
